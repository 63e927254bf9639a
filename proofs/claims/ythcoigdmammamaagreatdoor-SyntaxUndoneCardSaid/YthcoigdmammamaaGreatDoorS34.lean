/- escaped, at bytes that stand for themselves. -/
import Derived.Test.YthcoigdmammamaaGreatDoorS33
import Derived.Laws.BytesArg
namespace Go.Proofs.YthcoigdmammamaaGreatDoor
open Go.RowKit Go.Shelf Go.Sort
set_option maxRecDepth 100000

set_option maxHeartbeats 1000000 in
theorem printable_ok (c : Nat) (h1 : 32 ≤ c) (h2 : c ≤ 126) (w : World) : Calls Tryz.prog 50 #[.int .u8 c] w fun e w' => e = .returned (.bool true) ∧ w' = w := by
  have e1 : decide ((32 : Int) ≤ (c : Int)) = true := by simp; omega
  have e2 : decide ((c : Int) ≤ (126 : Int)) = true := by simp; omega
  go_enter Tryz.func50, Tryz.ntmps50
  go_wp2
  go_ret
  exact ⟨rfl, rfl⟩
/-- Bytes that stand for themselves. -/
def plainB (c : UInt8) : Prop := 32 ≤ c.toNat ∧ c.toNat ≤ 126 ∧ c.toNat ≠ 92 ∧ c.toNat ≠ 34
theorem str_nums (l : List UInt8) : strOfNums (l.map fun b => (b.toNat : Int)) = bs l := by
  unfold strOfNums
  rw [List.map_map]
  congr 2
  conv => rhs; rw [← List.map_id l]
  apply List.map_congr_left
  intro b _
  simp
theorem conv_own {w : World} {base : Nat} {v : Value} {xs : List Int} (h : w.ownsRow base 5 1 v xs.length (xs.map (Value.int .u8))) : (convert 44 9 v).run Tryz.prog w = .ok (.string (strOfNums xs)) w := by
  rcases h.2 with ⟨rfl, h0⟩ | ⟨g, cap, cur, rfl, hb, hg, h1, h2, h3, h4⟩
  · have : xs = [] := List.eq_nil_of_length_eq_zero h0
    subst this
    exact run_convert_bytes_nil w 44 5 Tryz.underlying44 Tryz.underlying5 0 0 9 Tryz.underlying9
  · refine run_convert_bytes_arg w 44 5 Tryz.underlying44 Tryz.underlying5 g 0 xs.length cap xs rfl ?_ 9 Tryz.underlying9
    intro i hi
    have hc : (xs.map (Value.int .u8))[i]? = some (.int .u8 (xs.getD i 0)) := by
      simp [List.getElem?_eq_getElem hi, List.getD]
    rw [← h4, List.getElem?_take] at hc
    rw [Nat.zero_add, cell_of_row w g i cur 5 (0, 0) hg]
    split at hc
    · simpa using hc
    · cases hc
theorem strCells_eq (l : List UInt8) : Lib.strCells (bs l) = l.map fun b => Value.int .u8 b.toNat := by simp [Lib.strCells]
theorem conv_bs {w : World} {base : Nat} {v : Value} {l : List UInt8} (h : w.ownsRow base 5 1 v l.length (Lib.strCells (bs l))) : (convert 44 9 v).run Tryz.prog w = .ok (.string (bs l)) w := by
  have h2 : w.ownsRow base 5 1 v (l.map fun b => (b.toNat : Int)).length ((l.map fun b => (b.toNat : Int)).map (Value.int .u8)) := by
    rw [List.length_map, List.map_map]
    rw [strCells_eq] at h
    exact h
  rw [conv_own h2, str_nums]
theorem ints_one (l : List Int) : ∀ u ∈ l.map (Value.int .u8), u.oneCell' = true := by
  intro u hu
  obtain ⟨b, _, rfl⟩ := List.mem_map.mp hu
  rfl

set_option maxHeartbeats 4000000 in
theorem escaped_ok (l : List UInt8) (hp : ∀ c ∈ l, plainB c) (hl : l.length ≤ 100000) (w : World) : Calls Tryz.prog 34 #[.string (bs l)] w fun e w' => e = .returned (.string (bs l)) ∧ Below w.heap.size w w' := by
  obtain ⟨i0, hi, iz0, iz1, iz2⟩ := info_parts info5
  have HP := Lib.hid hp
  clear hp
  go_enter Tryz.func34, Tryz.ntmps34
  go_wp2
  go_loopg [3, 4] (l.length + 1) (fun n y z wr => ∃ i : Nat, i ≤ l.length ∧ l.length - i < n ∧ z = .int .i64 i ∧ Hid (wr.ownsRow w.heap.size 5 1 y i (Lib.strCells (bs (l.take i)))) ∧ Hid (Below w.heap.size w wr))
  case atStart => exact ⟨0, by omega, by omega, rfl, (by show World.ownsRow _ _ _ _ _ _ _; exact World.ownsRow_nil w _ 5 1), Below.refl _ _⟩
  case round =>
    obtain ⟨i, hi', hgk, rfl, HO, HB⟩ := hrel
    obtain ⟨n, rfl⟩ : ∃ n, gk = n + 1 := ⟨gk - 1, by omega⟩
    by_cases hlt : i < l.length
    · have hii : (i : Int) < (l.length : Int) := by omega
      have hi0 : (0 : Int) ≤ (i : Int) := by omega
      have hsz : i < (bs l).size := by rw [bs_size]; exact hlt
      have hg := bs_get l i hsz
      have hmem : (bs l)[i]'hsz ∈ l := by
        rw [hg, List.getD_eq_getElem?_getD, List.getElem?_eq_getElem hlt]
        exact List.getElem_mem hlt
      obtain ⟨q1, q2, q3, q4⟩ := HP.out _ hmem
      have hst : Hid (Lib.strCells (bs (l.take (i + 1))) = Lib.strCells (bs (l.take i)) ++ [Value.int .u8 ((bs l)[i]'hsz).toNat]) := by
        show _ = _
        rw [hg, List.take_succ_eq_append_getElem hlt, ← strCells_app, List.getD_eq_getElem?_getD, List.getElem?_eq_getElem hlt]
        rfl
      clear hg hmem
      have cP := printable_ok ((bs l)[i]'hsz).toNat q1 q2
      have b1 : ((((bs l)[i]'hsz).toNat : Int) == 92) = false := by simpa using (by omega : (((bs l)[i]'hsz).toNat : Int) ≠ 92)
      have b2 : ((((bs l)[i]'hsz).toNat : Int) == 34) = false := by simpa using (by omega : (((bs l)[i]'hsz).toNat : Int) ≠ 34)
      have b3 : ((((bs l)[i]'hsz).toNat : Int) == 10) = false := by simpa using (by omega : (((bs l)[i]'hsz).toNat : Int) ≠ 10)
      have b4 : ((((bs l)[i]'hsz).toNat : Int) == 9) = false := by simpa using (by omega : (((bs l)[i]'hsz).toNat : Int) ≠ 9)
      clear q1 q2 q3 q4
      go_wp2_with (first
        | (go_at_call 50; refine (cP wr).mono ?_; rintro e w' ⟨rfl, hq⟩; obtain rfl := hq.symm)
        | (at_builtin; (refine wpList_append_lies _ rfl _ _ 44 rfl w.heap.size 5 i0 (.int .u8 0) 1 1 Tryz.underlying44 hi iz0 iz1 iz2 rfl (by decide) u3 i (Lib.strCells (bs (l.take i))) rfl (HO.out.alloc _) ⟨wr.heap.size, 0, none⟩ 1 1 [.int .u8 ((bs l)[i]'hsz).toNat] rfl rfl (one_row wr _ 5) (ints_one [(((bs l)[i]'hsz).toNat : Int)]) (by decide) (by unfold maxLen; omega) (by omega) (by have h8 := HB.out.size; simp; omega) (wr.heap.size + 1) (by simp) ?_); intro gg cap w3 hown' hgrow hat hltg; have HG := Lib.hid (And.intro hown' hgrow); clear hown' hgrow hat hltg))
      go_roundg n
      case measure => omega
      case rel =>
        have h1 := HG.out.1
        rw [← hst.out] at h1
        refine ⟨i + 1, by omega, by omega, by go_num, h1, ?_⟩
        have hB1 : Below w.heap.size w (wr.alloc (.cells #[.int .u8 ((bs l)[i]'hsz).toNat] 5)) := HB.out.alloc HB.out.size _
        exact hB1.grown HG.out.2 (by have h8 := HB.out.size; simp; omega) (fun k hk => ((HO.out.alloc (.cells #[.int .u8 ((bs l)[i]'hsz).toNat] 5)).lt k hk).1)
    · have he : i = l.length := by omega
      subst he
      have HO2 := HO.out
      rw [List.take_length] at HO2
      have hconv : (convert 44 9 u3).run Tryz.prog wr = .ok (.string (bs l)) wr := conv_bs HO2
      clear HO2
      go_wp2
      go_ret
      exact ⟨rfl, HB.out⟩
end Go.Proofs.YthcoigdmammamaaGreatDoor
