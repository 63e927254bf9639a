/- The walks of escape and character. -/
import Derived.Test.YtkfkgdkfgpofnaaDoorA2
namespace Go.Proofs.YtkfkgdkfgpofnaaDoor
open Go.RowKit
set_option maxRecDepth 100000

def join16 (h l : Int) : Int := bits BinOp.or IntKind.u8 (h * 16 % 256) l
/-- An escape behind its backslash. -/
def mescape (s : ByteArray) (p : Nat) : Option (Int × Nat) :=
  if p < s.size then
    if bt s p = 110 then some (10, p + 1)
    else if bt s p = 116 then some (9, p + 1)
    else if bt s p = 92 ∨ bt s p = 39 ∨ bt s p = 34 ∨ bt s p = 36 then some ((bt s p : Int), p + 1)
    else if bt s p = 120 then
      match mhex s (p + 1) with
      | none => none
      | some h => match mhex s (p + 2) with
        | none => none
        | some l => some (join16 h l, p + 3)
    else none
  else none

theorem escape_any (b : Nat) (s : ByteArray) (p line beg : Nat) (vo vp : Value) (st : Int) (w : World) (hb : w.heap[b]? = some (RB s p line beg vo vp)) (hp : p ≤ s.size) (hs : s.size < 1000000) :
    Calls Tryd.prog 71 #[.pointer (some ⟨b, 0, none⟩), .int .i64 st] w (One b s line beg vo vp st (mescape s p) w) := by
  obtain ⟨c0, c1, c2, c3, c4, c5, f1, f2, f3, f4, f5⟩ := rc hb
  have HB := Lib.hid hb
  clear hb
  by_cases hlt : p < s.size
  · have e := bt_eq s p hlt
    have HE : Hid (bt s p = 110 ∨ bt s p = 116 ∨ bt s p = 92 ∨ bt s p = 39 ∨ bt s p = 34 ∨ bt s p = 36 ∨ bt s p = 120 ∨ (bt s p ≠ 110 ∧ bt s p ≠ 116 ∧ bt s p ≠ 92 ∧ bt s p ≠ 39 ∧ bt s p ≠ 34 ∧ bt s p ≠ 36 ∧ bt s p ≠ 120)) := by
      show bt s p = 110 ∨ _
      omega
    rcases HE.out with hc | hc | hc | hc | hc | hc | hc | hc
    · have HR : Hid (mescape s p = some (10, p + 1)) := by show mescape s p = _; simp [mescape, hlt, hc]
      have t0 : ((bt s p : Int) == 110) = true := by simp [hc]
      have t1 : ((bt s p : Int) == 116) = false := by simp [hc]
      have t2 : ((bt s p : Int) == 92) = false := by simp [hc]
      have t3 : ((bt s p : Int) == 39) = false := by simp [hc]
      have t4 : ((bt s p : Int) == 34) = false := by simp [hc]
      have t5 : ((bt s p : Int) == 36) = false := by simp [hc]
      have t6 : ((bt s p : Int) == 120) = false := by simp [hc]
      clear hc HE
      go_enter Tryd.func71, Tryd.ntmps71
      go_wp2
      go_quiet (fail)
      go_wp2
      go_quiet (fail)
      go_wp2
      go_ret
      rw [HR.out]
      exact ⟨rfl, rb_at HB.out (p + 1), ((Fr.refl _ _).drewN _).set _ _⟩
    · have HR : Hid (mescape s p = some (9, p + 1)) := by show mescape s p = _; simp [mescape, hlt, hc]
      have t0 : ((bt s p : Int) == 110) = false := by simp [hc]
      have t1 : ((bt s p : Int) == 116) = true := by simp [hc]
      have t2 : ((bt s p : Int) == 92) = false := by simp [hc]
      have t3 : ((bt s p : Int) == 39) = false := by simp [hc]
      have t4 : ((bt s p : Int) == 34) = false := by simp [hc]
      have t5 : ((bt s p : Int) == 36) = false := by simp [hc]
      have t6 : ((bt s p : Int) == 120) = false := by simp [hc]
      clear hc HE
      go_enter Tryd.func71, Tryd.ntmps71
      go_wp2
      go_quiet (fail)
      go_wp2
      go_quiet (fail)
      go_wp2
      go_ret
      rw [HR.out]
      exact ⟨rfl, rb_at HB.out (p + 1), ((Fr.refl _ _).drewN _).set _ _⟩
    · have HR : Hid (mescape s p = some ((bt s p : Int), p + 1)) := by show mescape s p = _; simp [mescape, hlt, hc]
      have t0 : ((bt s p : Int) == 110) = false := by simp [hc]
      have t1 : ((bt s p : Int) == 116) = false := by simp [hc]
      have t2 : ((bt s p : Int) == 92) = true := by simp [hc]
      have t3 : ((bt s p : Int) == 39) = false := by simp [hc]
      have t4 : ((bt s p : Int) == 34) = false := by simp [hc]
      have t5 : ((bt s p : Int) == 36) = false := by simp [hc]
      have t6 : ((bt s p : Int) == 120) = false := by simp [hc]
      clear hc HE
      go_enter Tryd.func71, Tryd.ntmps71
      go_wp2
      go_quiet (fail)
      go_wp2
      go_quiet (fail)
      go_wp2
      go_ret
      rw [HR.out]
      exact ⟨rfl, rb_at HB.out (p + 1), ((Fr.refl _ _).drewN _).set _ _⟩
    · have HR : Hid (mescape s p = some ((bt s p : Int), p + 1)) := by show mescape s p = _; simp [mescape, hlt, hc]
      have t0 : ((bt s p : Int) == 110) = false := by simp [hc]
      have t1 : ((bt s p : Int) == 116) = false := by simp [hc]
      have t2 : ((bt s p : Int) == 92) = false := by simp [hc]
      have t3 : ((bt s p : Int) == 39) = true := by simp [hc]
      have t4 : ((bt s p : Int) == 34) = false := by simp [hc]
      have t5 : ((bt s p : Int) == 36) = false := by simp [hc]
      have t6 : ((bt s p : Int) == 120) = false := by simp [hc]
      clear hc HE
      go_enter Tryd.func71, Tryd.ntmps71
      go_wp2
      go_quiet (fail)
      go_wp2
      go_quiet (fail)
      go_wp2
      go_ret
      rw [HR.out]
      exact ⟨rfl, rb_at HB.out (p + 1), ((Fr.refl _ _).drewN _).set _ _⟩
    · have HR : Hid (mescape s p = some ((bt s p : Int), p + 1)) := by show mescape s p = _; simp [mescape, hlt, hc]
      have t0 : ((bt s p : Int) == 110) = false := by simp [hc]
      have t1 : ((bt s p : Int) == 116) = false := by simp [hc]
      have t2 : ((bt s p : Int) == 92) = false := by simp [hc]
      have t3 : ((bt s p : Int) == 39) = false := by simp [hc]
      have t4 : ((bt s p : Int) == 34) = true := by simp [hc]
      have t5 : ((bt s p : Int) == 36) = false := by simp [hc]
      have t6 : ((bt s p : Int) == 120) = false := by simp [hc]
      clear hc HE
      go_enter Tryd.func71, Tryd.ntmps71
      go_wp2
      go_quiet (fail)
      go_wp2
      go_quiet (fail)
      go_wp2
      go_ret
      rw [HR.out]
      exact ⟨rfl, rb_at HB.out (p + 1), ((Fr.refl _ _).drewN _).set _ _⟩
    · have HR : Hid (mescape s p = some ((bt s p : Int), p + 1)) := by show mescape s p = _; simp [mescape, hlt, hc]
      have t0 : ((bt s p : Int) == 110) = false := by simp [hc]
      have t1 : ((bt s p : Int) == 116) = false := by simp [hc]
      have t2 : ((bt s p : Int) == 92) = false := by simp [hc]
      have t3 : ((bt s p : Int) == 39) = false := by simp [hc]
      have t4 : ((bt s p : Int) == 34) = false := by simp [hc]
      have t5 : ((bt s p : Int) == 36) = true := by simp [hc]
      have t6 : ((bt s p : Int) == 120) = false := by simp [hc]
      clear hc HE
      go_enter Tryd.func71, Tryd.ntmps71
      go_wp2
      go_quiet (fail)
      go_wp2
      go_quiet (fail)
      go_wp2
      go_ret
      rw [HR.out]
      exact ⟨rfl, rb_at HB.out (p + 1), ((Fr.refl _ _).drewN _).set _ _⟩
    · have HR : Hid (mescape s p = match mhex s (p + 1) with
          | none => none
          | some h => match mhex s (p + 2) with
            | none => none
            | some l => some (join16 h l, p + 3)) := by show mescape s p = _; simp [mescape, hlt, hc]
      have t0 : ((bt s p : Int) == 110) = false := by simp [hc]
      have t1 : ((bt s p : Int) == 116) = false := by simp [hc]
      have t2 : ((bt s p : Int) == 92) = false := by simp [hc]
      have t3 : ((bt s p : Int) == 39) = false := by simp [hc]
      have t4 : ((bt s p : Int) == 34) = false := by simp [hc]
      have t5 : ((bt s p : Int) == 36) = false := by simp [hc]
      have t6 : ((bt s p : Int) == 120) = true := by simp [hc]
      clear hc HE
      go_enter Tryd.func71, Tryd.ntmps71
      go_wp2
      go_quiet (fail)
      go_wp2
      go_quiet (fail)
      go_wp2_with fail
      refine (hex_any b s (p + 1) line beg vo vp st _ (by exact rb_at HB.out (p + 1)) hs (by omega)).mono ?_
      intro e1 w1 h1
      rcases hm : mhex s (p + 1) with _ | h
      · rw [hm] at h1
        obtain ⟨rfl, hfr⟩ := h1
        refine ⟨rfl, ?_⟩
        rw [HR.out, hm]
        exact ⟨rfl, (((Fr.refl _ _).drewN _).set _ _).trans hfr⟩
      · rw [hm] at h1
        obtain ⟨rfl, hb1, hfr⟩ := h1
        have HM := Lib.hid hm
        have HB1 := Lib.hid hb1
        clear hm hb1 c0 c1 c2 c3 c4 c5 f1 f2 f3 f4 f5
        go_wp2_with fail
        refine (hex_any b s (p + 1 + 1) line beg vo vp st _ HB1.out hs (by omega)).mono ?_
        intro e2 w2 h2
        rcases hm2 : mhex s (p + 1 + 1) with _ | l
        · rw [hm2] at h2
          obtain ⟨rfl, hfr2⟩ := h2
          refine ⟨rfl, ?_⟩
          rw [HR.out, HM.out]
          simp only []
          rw [show p + 2 = p + 1 + 1 from rfl, hm2]
          exact ⟨rfl, ((((Fr.refl _ _).drewN _).set _ _).trans hfr).trans hfr2⟩
        · rw [hm2] at h2
          obtain ⟨rfl, hb2, hfr2⟩ := h2
          have HM2 := Lib.hid hm2
          have HB2 := Lib.hid hb2
          clear hm2 hb2
          go_wp2
          go_ret
          rw [HR.out, HM.out]
          simp only []
          rw [show p + 2 = p + 1 + 1 from rfl, HM2.out]
          exact ⟨rfl, HB2.out, ((((Fr.refl _ _).drewN _).set _ _).trans hfr).trans hfr2⟩
    · have HR : Hid (mescape s p = none) := by show mescape s p = _; simp [mescape, hlt, hc]
      have t0 : ((bt s p : Int) == 110) = false := by rw [beq_eq_false_iff_ne]; omega
      have t1 : ((bt s p : Int) == 116) = false := by rw [beq_eq_false_iff_ne]; omega
      have t2 : ((bt s p : Int) == 92) = false := by rw [beq_eq_false_iff_ne]; omega
      have t3 : ((bt s p : Int) == 39) = false := by rw [beq_eq_false_iff_ne]; omega
      have t4 : ((bt s p : Int) == 34) = false := by rw [beq_eq_false_iff_ne]; omega
      have t5 : ((bt s p : Int) == 36) = false := by rw [beq_eq_false_iff_ne]; omega
      have t6 : ((bt s p : Int) == 120) = false := by rw [beq_eq_false_iff_ne]; omega
      clear hc HE
      go_enter Tryd.func71, Tryd.ntmps71
      go_wp2
      go_quiet (fail)
      go_wp2
      go_quiet (fail)
      go_wp2_with (go_at_call 18; refine (fail_any _ _ _).mono ?_; rintro e w' ⟨rfl, rfl⟩)
      refine ⟨rfl, ?_⟩
      rw [HR.out]
      exact ⟨rfl, ((Fr.refl _ _).drewN _).set _ _⟩
  · have HR : Hid (mescape s p = none) := by show mescape s p = _; simp [mescape, hlt]
    have t0 : ((p : Int) == s.size) = true := by rw [beq_iff_eq]; omega
    go_enter Tryd.func71, Tryd.ntmps71
    go_wp2
    go_quiet (fail)
    go_wp2_with (go_at_call 18; refine (fail_any _ _ _).mono ?_; rintro e w' ⟨rfl, rfl⟩)
    refine ⟨rfl, ?_⟩
    rw [HR.out]
    exact ⟨rfl, (Fr.refl _ _).drewN _⟩
end Go.Proofs.YtkfkgdkfgpofnaaDoor
