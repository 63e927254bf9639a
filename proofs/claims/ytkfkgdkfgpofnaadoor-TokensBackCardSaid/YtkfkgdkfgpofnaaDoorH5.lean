/- The walk of continuation. -/
import Derived.Test.YtkfkgdkfgpofnaaDoorH1
import Derived.Deep.RegionHeld3
namespace Go.Proofs.YtkfkgdkfgpofnaaDoor
open Go.RowKit
set_option maxRecDepth 100000

def contM : List (List UInt8) := [[41], [93], [125], [44], [46], [61], [61, 62], [60, 45], [58], [60, 58], [62, 58], [59]]
def contK : List (List UInt8) := [[99, 97, 116, 99, 104], [100, 111], [101, 108, 115, 101], [101, 120, 116, 101, 110, 100, 115], [102, 105, 110, 97, 108, 108, 121], [109, 97, 116, 99, 104], [116, 104, 101, 110], [119, 105, 116, 104], [121, 105, 101, 108, 100]]
/-- No token. -/
def Tz : Tok := ⟨0, .empty, 0, 0, 0⟩
theorem tz_eq {l : List Tok} {i : Nat} (hi : i < l.length) : l.getD i Tz = l[i]'hi := by simp [List.getD_eq_getElem?_getD, List.getElem?_eq_getElem hi]
theorem Ly.inForm {b : Nat} {w0 w : World} {inp out : List Tok} {regs : List Rg} {m : Int} {vi vo vr : Value} (h : Ly b w0 w inp out regs m vi vo vr) (hn : 0 < inp.length) :
    ∃ g cap, vi = .slice (some ⟨g, 0, none⟩) inp.length cap ∧ g < w.heap.size := by
  obtain ⟨g, cap, he, h1, h2⟩ := h.inp.form hn
  refine ⟨g, cap, he, ?_⟩
  have := h.far g (by rw [he]; rfl)
  have := lt_of_block h.blk
  omega
theorem Ly.td {b : Nat} {w0 w : World} {inp out : List Tok} {regs : List Rg} {m : Int} {vo vr : Value} {g cap : Nat} (h : Ly b w0 w inp out regs m (.slice (some ⟨g, 0, none⟩) inp.length cap) vo vr) (i : Nat) (hi : i < inp.length) : TC w g (i * 5) (inp.getD i Tz) := by
  rw [tz_eq hi]; exact h.tc i hi
def contT (t : Tok) : Bool := if (t.kind == 3) = true then contM.contains t.text.toList else if (t.kind == 1) = true then contK.contains t.text.toList else false
/-- May no statement begin with a token of a list? -/
def contB (inp : List Tok) (i : Nat) : Bool :=
  if ((inp.getD i Tz).kind == 2) = true then (if i + 1 < inp.length then decide (IntKind.u64.wrap ((inp.getD i Tz).text.size : Int) < IntKind.u64.wrap (IntKind.u64.wrap (inp.getD (i + 1) Tz).at_ - IntKind.u64.wrap (inp.getD i Tz).at_)) else true)
  else contT (inp.getD i Tz)

theorem below_all {k : Nat} {w w' : World} {v : Obj} (n : Nat) (h : Below k w w') (hk : k ≤ w'.heap.size) : Below k w ((w'.alloc v).drewN n) := below_drewN (h.alloc hk v) n
set_option maxHeartbeats 4000000 in
theorem cont_any (S : List (Nat × Obj)) (b : Nat) (w0 w : World) (inp : List Tok) (s : LS) (h : Yd S b w0 w inp s) (i : Nat) (hi : i < inp.length) (hn : inp.length ≤ 100000) :
    Calls Tryd.prog 62 #[.pointer (some ⟨b, 0, none⟩), .int .i64 i] w fun e w' => e = .returned (.bool (contB inp i)) ∧ Below w.heap.size w w' := by
  obtain ⟨vi, vo, vr, h, _⟩ := h
  obtain ⟨g, cap, rfl, hg0⟩ := h.inForm (by omega)
  obtain ⟨t, ht⟩ : ∃ t, t = inp.getD i Tz := ⟨_, rfl⟩
  have HTC := h.td i hi
  rw [← ht] at HTC
  obtain ⟨t0, t1, t2, t3, t4⟩ := HTC
  obtain ⟨c0, c1, c2, c3, f1, f2, f3⟩ := yc h.blk
  have hb := lt_of_block h.blk
  have hgw := hg0
  have hii : (i : Int) < (inp.length : Int) := by omega
  have hi0 : (0 : Int) ≤ (i : Int) := by omega
  have hi01 : (0 : Int) ≤ (i : Int) + 1 := by omega
  have a1 : IntKind.i64.wrap ((i : Int) + 1) = (i : Int) + 1 := IntWalk.i64_in _ (by omega)
  have a2 : ((i : Int) + 1).toNat = i + 1 := by omega
  have hsz : IntKind.i64.wrap (t.text.size : Int) = (t.text.size : Int) ∨ True := Or.inr trivial
  unfold contB
  rw [← ht]
  by_cases hk : (t.kind == 2) = true
  · rw [if_pos hk]
    by_cases hi1 : i + 1 < inp.length
    · rw [if_pos hi1]
      obtain ⟨u, hu⟩ : ∃ u, u = inp.getD (i + 1) Tz := ⟨_, rfl⟩
      have HUC := h.td (i + 1) hi1
      rw [← hu] at HUC ⊢
      obtain ⟨u0, u1, u2, u3, u4⟩ := HUC
      have hii1 : (i : Int) + 1 < (inp.length : Int) := by omega
      have a3 : ((i : Int) + 1 == (inp.length : Int)) = false := by rw [beq_eq_false_iff_ne]; omega
      have HT := Lib.hid (And.intro ht hu)
      clear h ht hu
      go_enter Tryd.func62, Tryd.ntmps62
      go_wp2
      go_quiet (fail)
      go_wp2
      go_ret
      exact ⟨rfl, below_all _ (Below.refl _ _) (Nat.le_refl _)⟩
    · rw [if_neg hi1]
      have a3 : ((i : Int) + 1 == (inp.length : Int)) = true := by rw [beq_iff_eq]; omega
      have HT := Lib.hid ht
      clear h ht
      go_enter Tryd.func62, Tryd.ntmps62
      go_wp2
      go_quiet (fail)
      go_wp2
      go_ret
      exact ⟨rfl, below_all _ (Below.refl _ _) (Nat.le_refl _)⟩
  · rw [if_neg hk]
    have HT := Lib.hid ht
    clear h ht
    replace hk : (t.kind == 2) = false := by simpa using hk
    go_enter Tryd.func62, Tryd.ntmps62
    go_wp2
    all_goals first
      | (exfalso; simp_all; done)
      | (go_ret; exact ⟨ret_bool (by simp only [contT, contM, contK, if_true, if_false, Bool.false_eq_true, List.contains_cons, List.contains_nil, Bool.or_false, Bool.or_true, Bool.true_or, Bool.false_or, *]), (Below.refl _ _).alloc (Nat.le_refl _) _⟩)
end Go.Proofs.YtkfkgdkfgpofnaaDoor
