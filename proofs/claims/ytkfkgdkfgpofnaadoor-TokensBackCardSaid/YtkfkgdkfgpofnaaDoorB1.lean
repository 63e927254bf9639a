/- The walks of wordEnd, lineComment, comment. -/
import Derived.Test.YtkfkgdkfgpofnaaDoorA2
import Derived.Deep.LoopGhost
namespace Go.Proofs.YtkfkgdkfgpofnaaDoor
open Go.RowKit
set_option maxRecDepth 100000

/-- The end of the letters and digits from a place on. -/
def wEndF (s : ByteArray) : Nat → Nat → Nat
  | 0, q => q
  | n + 1, q => if q < s.size ∧ wordB (bt s q) = true then wEndF s n (q + 1) else q
def wEnd (s : ByteArray) (q : Nat) : Nat := wEndF s (s.size - q + 1) q
theorem wEndF_bd (s : ByteArray) (n q : Nat) (h : q ≤ s.size) : q ≤ wEndF s n q ∧ wEndF s n q ≤ s.size := by
  induction n generalizing q with
  | zero => simp only [wEndF]; omega
  | succ n ih =>
    simp only [wEndF]
    split
    · rename_i hc; have := ih (q + 1) (by omega); omega
    · omega
theorem wEnd_bd (s : ByteArray) (q : Nat) (h : q ≤ s.size) : q ≤ wEnd s q ∧ wEnd s q ≤ s.size := wEndF_bd s _ q h

theorem wordEnd_any (b : Nat) (s : ByteArray) (p line beg : Nat) (vo vp : Value) (q : Nat) (w : World) (hT : Tab w) (hb : w.heap[b]? = some (RB s p line beg vo vp)) (hq : q ≤ s.size) (hs : s.size < 1000000) :
    Calls Tryd.prog 47 #[.pointer (some ⟨b, 0, none⟩), .int .i64 q] w fun e w' => e = .returned (.int .i64 (wEnd s q)) ∧ w = w' := by
  obtain ⟨c0, c1, c2, c3, c4, c5, f1, f2, f3, f4, f5⟩ := rc hb
  have HT := Lib.hid hT
  clear hb hT c1 c2 c3 c4 c5 f1 f2 f3 f4 f5
  go_enter Tryd.func47, Tryd.ntmps47
  go_wp2
  go_loopg [1] (s.size - q + 1) (fun n i wr => ∃ k : Nat, k ≤ s.size ∧ s.size - k < n ∧ i = .int .i64 k ∧ Hid (wEndF s n k = wEnd s q) ∧ w = wr)
  case atStart => exact ⟨q, hq, by omega, rfl, rfl, rfl⟩
  case round =>
    obtain ⟨k, hk, hn, rfl, HK, rfl⟩ := hrel
    obtain ⟨n, rfl⟩ : ∃ n, gk = n + 1 := ⟨gk - 1, by omega⟩
    by_cases hlt : k < s.size
    · have e := bt_eq s k hlt
      by_cases hw : wordB (bt s k) = true
      · have HK' : Hid (wEndF s n (k + 1) = wEnd s q) := by
          have := HK.out; simp only [wEndF, hlt, hw, and_self, if_true] at this; exact this
        go_wp2_with (go_at_call 52; refine (inWord_any _ _ HT.out).mono ?_; rintro e w' ⟨rfl, rfl⟩)
        go_roundg n
        case measure => omega
        case rel => exact ⟨k + 1, by omega, by omega, by go_num, HK', rfl⟩
      · have hw' : wordB (bt s k) = false := by simpa using hw
        have HK' : Hid (wEnd s q = k) := by
          have := HK.out; simp only [wEndF, hlt, hw, and_false, if_false] at this; exact this.symm
        clear hw
        go_wp2_with (go_at_call 52; refine (inWord_any _ _ HT.out).mono ?_; rintro e w' ⟨rfl, rfl⟩)
        go_ret
        exact ⟨ret_int (by rw [HK'.out]), rfl⟩
    · have HK' : Hid (wEnd s q = k) := by
        have := HK.out; simp only [wEndF, hlt, false_and, if_false] at this; exact this.symm
      go_wp2
      go_ret
      exact ⟨ret_int (by rw [HK'.out]), rfl⟩

/-- The end of the line. -/
def lcEndF (s : ByteArray) : Nat → Nat → Nat
  | 0, q => q
  | n + 1, q => if q < s.size ∧ bt s q ≠ 10 then lcEndF s n (q + 1) else q
def lcEnd (s : ByteArray) (q : Nat) : Nat := lcEndF s (s.size - q + 1) q
theorem lcEndF_bd (s : ByteArray) (n q : Nat) (h : q ≤ s.size) : q ≤ lcEndF s n q ∧ lcEndF s n q ≤ s.size := by
  induction n generalizing q with
  | zero => simp only [lcEndF]; omega
  | succ n ih =>
    simp only [lcEndF]
    split
    · rename_i hc; have := ih (q + 1) (by omega); omega
    · omega
theorem lcEnd_bd (s : ByteArray) (q : Nat) (h : q ≤ s.size) : q ≤ lcEnd s q ∧ lcEnd s q ≤ s.size := lcEndF_bd s _ q h
theorem lcEnd_gt (s : ByteArray) (q : Nat) (h : q < s.size) (hc : bt s q ≠ 10) : q < lcEnd s q := by
  unfold lcEnd
  simp only [lcEndF, h, hc, ne_eq, not_false_eq_true, and_self, if_true]
  have := lcEndF_bd s (s.size - q) (q + 1) (by omega)
  omega

/-- A post of a method that only moves in the text. -/
def Mv (b : Nat) (s : ByteArray) (vo vp : Value) (r : Except Int (Nat × Nat × Nat)) (w : World) (e : Ending) (w' : World) : Prop :=
  match r with
  | .ok (p, l, g) => e = .returned (.tuple #[]) ∧ w'.heap[b]? = some (RB s p l g vo vp) ∧ Fr b w w'
  | .error a => e = .panicked [{ v := .iface 26 (.agg #[.int .i64 a, .int .i64 27]), recovered := false }] ∧ Fr b w w'

theorem lineComment_any (b : Nat) (s : ByteArray) (p line beg : Nat) (vo vp : Value) (w : World) (hb : w.heap[b]? = some (RB s p line beg vo vp)) (hp : p ≤ s.size) (hs : s.size < 1000000) :
    Calls Tryd.prog 27 #[.pointer (some ⟨b, 0, none⟩)] w (Mv b s vo vp (.ok (lcEnd s p, line, beg)) w) := by
  have HB := Lib.hid hb
  clear hb
  go_enter Tryd.func27, Tryd.ntmps27
  go_wp2
  go_loopg [] (s.size - p + 1) (fun n wr => ∃ k : Nat, k ≤ s.size ∧ s.size - k < n ∧ Hid (lcEndF s n k = lcEnd s p) ∧ Hid (wr.heap[b]? = some (RB s k line beg vo vp)) ∧ Fr b w wr)
  case atStart => exact ⟨p, hp, by omega, rfl, HB, Fr.refl _ _⟩
  case round =>
    obtain ⟨k, hk, hn, HK, HB1, hfr⟩ := hrel
    have HF := Lib.hid hfr
    obtain ⟨n, rfl⟩ : ∃ n, gk = n + 1 := ⟨gk - 1, by omega⟩
    obtain ⟨c0, c1, c2, c3, c4, c5, f1, f2, f3, f4, f5⟩ := rc HB1.out
    clear hfr
    by_cases hlt : k < s.size
    · have e := bt_eq s k hlt
      by_cases hc : bt s k = 10
      · have HK' : Hid (lcEnd s p = k) := by
          have := HK.out; simp only [lcEndF, hlt, hc, ne_eq, not_true_eq_false, and_false, if_false] at this; exact this.symm
        have t0 : ((bt s k : Int) != 10) = false := by simp [hc]
        clear hc
        go_wp2
        go_quiet (fail)
        go_wp2
        go_end0
        refine ⟨rfl, ?_, HF.out.drewN _⟩
        rw [HK'.out]; exact HB1.out
      · have HK' : Hid (lcEndF s n (k + 1) = lcEnd s p) := by
          have := HK.out; simp only [lcEndF, hlt, hc, ne_eq, not_false_eq_true, and_self, if_true] at this; exact this
        have t0 : ((bt s k : Int) != 10) = true := by rw [bne_iff_ne]; omega
        clear hc
        go_wp2
        go_quiet (fail)
        go_wp2
        go_roundg n
        case measure => omega
        case rel => exact ⟨k + 1, by omega, by omega, HK', rb_at HB1.out (k + 1), (HF.out.drewN _).set _ _⟩
    · have HK' : Hid (lcEnd s p = k) := by
        have := HK.out; simp only [lcEndF, hlt, false_and, if_false] at this; exact this.symm
      have t0 : decide ((k : Int) < s.size) = false := by simp; omega
      go_wp2
      go_quiet (fail)
      go_wp2
      go_end0
      refine ⟨rfl, ?_, HF.out.drewN _⟩
      rw [HK'.out]; exact HB1.out
end Go.Proofs.YtkfkgdkfgpofnaaDoor
