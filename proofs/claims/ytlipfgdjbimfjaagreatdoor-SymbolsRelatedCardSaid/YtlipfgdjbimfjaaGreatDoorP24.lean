/- slices.Clone over a row of three classes. -/
import Derived.Test.YtlipfgdjbimfjaaGreatDoorP23
namespace Go.Proofs.YtlipfgdjbimfjaaGreatDoor
open Go.RowKit Go.Shelf Go.Sort
set_option maxRecDepth 100000

theorem info30 : (Tryz.prog.info? 36).map (fun i => (i.zero, i.size, i.bytes)) = some (some (.agg #[.string ByteArray.empty, .int .i64 0, .int .i64 0, .int .i64 0, .slice none 0 0, .slice none 0 0, .slice none 0 0, .slice none 0 0, .slice none 0 0, .slice none 0 0, .slice none 0 0, .slice none 0 0, .int .i64 0]), 13, 240) := by kernel_rfl
set_option maxHeartbeats 1000000 in
theorem clone_any (cb : Nat) (xs : Array Value) (w : World) (hb : w.heap[cb]? = some (.cells xs 36 (0, 0))) (hx : xs.size = 39) (h1 : ∀ u ∈ xs.toList, u.oneCell' = true) :
    Calls Tryz.prog 35 #[.slice (some ⟨cb, 0, none⟩) 3 3] w fun e w' => (∃ g cap cur, e = .returned (.slice (some ⟨g, 0, none⟩) 3 cap) ∧ w.heap.size ≤ g ∧ w'.heap[g]? = some (.cells cur 36 (0, 0)) ∧ cur.toList.take 39 = xs.toList) ∧ Below w.heap.size w w' := by
  obtain ⟨i0, hi, iz0, iz1, iz2⟩ := info_parts info30
  have hcb : cb < w.heap.size := (Array.getElem?_eq_some_iff.1 hb).1
  have hnil : ∀ W : World, (binOp .eql 22 (.slice (some ⟨cb, 0, none⟩) 3 3) (.slice none 0 0)).run Tryz.prog W = .ok (.bool false) W := fun W => Lib.run_eql_slice_nil W 22 36 _ _ _ _ _ Tryz.underlying22
  go_enter Tryz.func35, Tryz.ntmps35
  have hown : (w.alloc (.cells #[] 36)).ownsRow w.heap.size 36 13 (.slice (some ⟨w.heap.size, 0, none⟩) 0 0) 0 [] := ⟨rfl, .inr ⟨w.heap.size, 0, #[], rfl, Nat.le_refl _, alloc_blk w _, Nat.le_refl _, by decide, rfl, rfl⟩⟩
  have hb1 : Below w.heap.size w (w.alloc (.cells #[] 36)) := (Below.refl _ _).alloc (Nat.le_refl _) _
  have hnews : ∀ (j : Nat) u, xs.toList[j]? = some u → (w.alloc (.cells #[] 36)).cell? ((⟨cb, 0, none⟩ : Addr).add j) = some u := fun j u hu => by
    have e : (⟨cb, 0, none⟩ : Addr).add j = ⟨cb, j, none⟩ := by unfold Addr.add; split <;> simp_all
    rw [e, hb1.cell (p := ⟨cb, j, none⟩) hcb, blk_cell hb j, ← hu, Array.getElem?_toList]
  have HOWN := Lib.hid hown
  have HNEWS := Lib.hid hnews
  have HB1 := Lib.hid hb1
  have HX := Lib.hid hx
  have H1 := Lib.hid h1
  clear hown hnews hb1 hx h1 hb
  go_wp2_with (at_builtin; refine wpList_append_lies _ rfl _ _ 22 rfl w.heap.size 36 i0 _ 13 240 Tryz.underlying22 hi iz0 iz1 iz2 rfl (by decide) _ 0 [] rfl HOWN.out ⟨cb, 0, none⟩ 3 3 xs.toList rfl (by rw [Array.length_toList, HX.out]) HNEWS.out H1.out (by decide) (by decide) (by decide) (by simp) (w.heap.size + 1) (by simp) ?_; intro gg cap' w3 hown' hgrow hat hltg; have HG := Lib.hid (And.intro hown' hgrow); clear hown' hgrow hat hltg)
  go_ret
  refine ⟨?_, ?_⟩
  · rcases HG.out.1.2 with ⟨h, _⟩ | ⟨g, cap, cur, h, hg, hh, _, _, _, ht⟩
    · cases h
    · injection h with h2 h3 h4
      injection h2 with h2
      injection h2 with h2
      subst h2 h4
      exact ⟨_, _, cur, rfl, hg, hh, by simpa using ht⟩
  · exact HB1.out.grown HG.out.2 (by simp) (fun k hk => by cases hk; exact Nat.le_refl _)
end Go.Proofs.YtlipfgdjbimfjaaGreatDoor
