/- around: the classes that a class is inside of. -/
import Derived.Test.YtlipfgdjbimfjaaGreatDoorP1
import Derived.OneCell
import Derived.Deep.AppendLies
import Derived.Deep.LoopGhost
namespace Go.Proofs.YtlipfgdjbimfjaaGreatDoor
open Go.RowKit Go.Shelf Go.Sort
set_option maxRecDepth 100000

theorem info3 : (Tryz.prog.info? 3).map (fun i => (i.zero, i.size, i.bytes)) = some (some (.int .i64 0), 1, 8) := by kernel_rfl
/-- Steps outwards: at most so many. -/
def arF (own : Nat → Int) (n : Nat) : Nat → Nat → List Int
  | 0, _ => []
  | f + 1, c => if 0 ≤ own c ∧ own c < n then own c :: arF own n f (own c).toNat else []
theorem arF_len (own : Nat → Int) (n : Nat) : ∀ f c, (arF own n f c).length ≤ f
  | 0, _ => Nat.le_refl _
  | f + 1, c => by
    unfold arF
    split
    · have := arF_len own n f (own c).toNat
      simp; omega
    · simp
theorem arF_yes {own : Nat → Int} {n f c : Nat} (h0 : 0 ≤ own c) (h : own c < n) : arF own n (f + 1) c = own c :: arF own n f (own c).toNat := by
  rw [arF, if_pos ⟨h0, h⟩]
theorem arF_no {own : Nat → Int} {n f c : Nat} (h : own c < 0 ∨ (n : Int) ≤ own c) : arF own n (f + 1) c = [] := by
  rw [arF, if_neg (by omega)]
/-- An own row of ints. -/
abbrev OwnI (w : World) (B : Nat) (v : Value) (l : List Int) : Prop := w.ownsRow B 3 1 v l.length (l.map (Value.int .i64))
theorem owns_mono {w : World} {B B' : Nat} {e : TypeId} {size : Nat} {v : Value} {n : Nat} {xs : List Value} (h : w.ownsRow B e size v n xs) (hb : B' ≤ B) : w.ownsRow B' e size v n xs := by
  refine ⟨h.1, ?_⟩
  rcases h.2 with h | ⟨g, cap, cur, hv, hg, rest⟩
  · exact .inl h
  · exact .inr ⟨g, cap, cur, hv, by omega, rest⟩
theorem own_shape {w : World} {base : Nat} {e : TypeId} {size : Nat} {v : Value} {n : Nat} {xs : List Value} (h : w.ownsRow base e size v n xs) : ∃ a c, v = .slice a n c := by
  rcases h.2 with ⟨rfl, rfl⟩ | ⟨g, cap, cur, rfl, _⟩
  · exact ⟨_, _, rfl⟩
  · exact ⟨_, _, rfl⟩
/-- What a call that makes a list of ints leaves. -/
def RetI (w : World) (l : List Int) (e : Ending) (w' : World) : Prop := ∃ v, e = .returned v ∧ OwnI w' w.heap.size v l ∧ Below w.heap.size w w'
/-- The owners of classes in memory. -/
abbrev Owns (w : World) (cb co n : Nat) (own : Nat → Int) : Prop := ∀ i, i < n → w.cell? ⟨cb, co + i * 13 + 3, none⟩ = some (.int .i64 (own i))
theorem Owns.bel {w w' : World} {B cb co n : Nat} {own : Nat → Int} (h : Owns w cb co n own) (hb : Below B w w') (hc : cb < B) : Owns w' cb co n own := fun i hi => (hb.cell (p := ⟨cb, _, none⟩) hc).trans (h i hi)
/-- A program's value; of the classes the row is told. -/
abbrev PV (cb co n cap : Nat) (v1 v2 v3 v4 v5 : Value) : Value := .agg #[.slice (some ⟨cb, co, none⟩) n cap, v1, v2, v3, v4, v5]

set_option maxHeartbeats 4000000 in
theorem around_any (cb co n cap c : Nat) (own : Nat → Int) (v1 v2 v3 v4 v5 : Value) (w : World) (hc : c < n) (hn : n ≤ 100000) (hcap : n ≤ cap) (hcb : cb < w.heap.size) (hO : Owns w cb co n own) :
    Calls Tryz.prog 46 #[PV cb co n cap v1 v2 v3 v4 v5, .int .i64 c] w (RetI w (arF own n n c)) := by
  obtain ⟨i0, hi, iz0, iz1, iz2⟩ := info_parts info3
  have HO := Lib.hid hO
  have HCB := Lib.hid hcb
  clear hO hcb
  go_enter Tryz.func46, Tryz.ntmps46
  go_wp2
  go_loopg [1, 5, 9] (n + 1) (fun g y v z wr => ∃ (k x : Nat) (l : List Int), k ≤ n ∧ n - k < g ∧ x < n ∧ y = .int .i64 x ∧ z = .int .i64 k ∧ l.length ≤ n ∧ Hid (l.length = k) ∧ Hid (arF own n n c = l ++ arF own n (n - k) x) ∧ Hid (OwnI wr (w.heap.size + 1) v l) ∧ Hid (Below w.heap.size w wr) ∧
    Hid (wr.cell? ⟨w.heap.size, 0, none⟩ = some (.slice (some ⟨cb, co, none⟩) n cap)) ∧ Hid (w.heap.size < wr.heap.size))
  case atStart => exact ⟨0, c, [], by omega, by omega, hc, rfl, rfl, Nat.zero_le _, Lib.hid rfl, Lib.hid (by simp), Lib.hid (World.ownsRow_nil _ _ _ _), Lib.hid ((Below.refl _ _).alloc (Nat.le_refl _) _), Lib.hid (by simp), Lib.hid (by simp)⟩
  case round =>
    obtain ⟨k, x, l, hk, hgk, hx, rfl, rfl, hln, HL, HA, HW, HB, HP, HZ⟩ := hrel
    obtain ⟨m, rfl⟩ : ∃ m, gk = m + 1 := ⟨gk - 1, by omega⟩
    have hp := HP.out
    by_cases hlt : k < n
    · have hoc : wr.cell? ⟨cb, co + x * 13 + 3, none⟩ = some (.int .i64 (own x)) := HO.out.bel HB.out HCB.out x hx
      by_cases hin : 0 ≤ own x ∧ own x < n
      · obtain ⟨h0, h1⟩ := hin
        have HY : Hid (arF own n (n - k) x = own x :: arF own n (n - (k + 1)) (own x).toNat) := Lib.hid (by rw [show n - k = (n - (k + 1)) + 1 by omega]; exact arF_yes h0 h1)
        go_wp2_with (first
          | (go_at_call 38; refine (isIndex_in _ h0 h1).mono ?_; rintro e w' ⟨rfl, rfl⟩)
          | (at_builtin; refine wpList_append_lies _ rfl _ _ 32 rfl (w.heap.size + 1) 3 i0 (.int .i64 0) 1 8 Tryz.underlying32 hi iz0 iz1 iz2 rfl (by decide) _ l.length (l.map (Value.int .i64)) rfl (HW.out.alloc _) ⟨wr.heap.size, 0, none⟩ 1 1 [.int .i64 (own x)] rfl rfl (cell_one_new _ _ _) (by intro u hu; simp at hu; subst hu; rfl) (by decide) (by unfold maxLen; omega) (by omega) (by have := HZ.out; simp; omega) (wr.heap.size + 1) (by simp) ?_; intro gg cap' w3 hown' hgrow hat hltg; have HG := Lib.hid (And.intro hown' hgrow); clear hown' hgrow hat hltg))
        go_roundg m
        case measure => omega
        case rel =>
          have h1 := HG.out.1
          have hB1 : Below w.heap.size w (wr.alloc (.cells #[.int .i64 (own x)] 3)) := HB.out.alloc HB.out.size _
          have hlt2 := fun k hk => ((HW.out.alloc (.cells #[.int .i64 (own x)] 3)).lt k hk).1
          have hB2 : Below (w.heap.size + 1) wr w3 := ((Below.refl _ _).alloc (by have := HZ.out; omega) _).grown HG.out.2 (by have := HZ.out; simp; omega) hlt2
          refine ⟨k + 1, (own x).toNat, l ++ [own x], by omega, by omega, by omega, ?_, by go_num, by rw [List.length_append, List.length_singleton]; have := HL.out; omega, Lib.hid (by rw [List.length_append, List.length_singleton, HL.out]), Lib.hid (by rw [HA.out, HY.out, List.append_assoc]; rfl), ?_, Lib.hid (hB1.grown HG.out.2 (by have := HB.out.size; simp; omega) (fun k hk => by have := hlt2 k hk; omega)), Lib.hid ((hB2.cell (p := ⟨w.heap.size, 0, none⟩) (by simp)).trans HP.out), Lib.hid (by have := hB2.size; have := HZ.out; omega)⟩
          · rw [Int.toNat_of_nonneg h0]
          · show Hid _
            refine Lib.hid ?_
            show World.ownsRow _ _ _ _ _ _ _
            rw [List.length_append, List.length_singleton, List.map_append]
            exact h1
      · have HN : Hid (arF own n (n - k) x = []) := Lib.hid (by rw [show n - k = (n - (k + 1)) + 1 by omega]; exact arF_no (by omega))
        have hout : own x < 0 ∨ (n : Int) ≤ own x := by omega
        have HOUT := Lib.hid hout
        clear hin hout
        go_wp2_with (go_at_call 38; refine (isIndex_out _ HOUT.out).mono ?_; rintro e w' ⟨rfl, rfl⟩)
        go_ret
        have e : arF own n n c = l := by rw [HA.out, HN.out, List.append_nil]
        rw [e]
        exact ⟨_, rfl, owns_mono HW.out (Nat.le_succ _), HB.out⟩
    · have HN : Hid (arF own n (n - k) x = []) := Lib.hid (by rw [show n - k = 0 by omega]; rfl)
      go_wp2
      go_ret
      have e : arF own n n c = l := by rw [HA.out, HN.out, List.append_nil]
      rw [e]
      exact ⟨_, rfl, owns_mono HW.out (Nat.le_succ _), HB.out⟩
end Go.Proofs.YtlipfgdjbimfjaaGreatDoor
