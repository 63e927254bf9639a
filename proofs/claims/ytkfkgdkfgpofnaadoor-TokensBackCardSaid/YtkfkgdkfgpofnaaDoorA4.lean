/- The walk of character. -/
import Derived.Test.YtkfkgdkfgpofnaaDoorA3
namespace Go.Proofs.YtkfkgdkfgpofnaaDoor
open Go.RowKit
set_option maxRecDepth 100000

/-- A character of a literal, at a place inside of the text. -/
def mchar (s : ByteArray) (p : Nat) : Option (Int × Nat) :=
  if bt s p < 32 then none else if bt s p = 92 then mescape s (p + 1) else some ((bt s p : Int), p + 1)

theorem character_any (b : Nat) (s : ByteArray) (p line beg : Nat) (vo vp : Value) (st : Int) (w : World) (hb : w.heap[b]? = some (RB s p line beg vo vp)) (hlt : p < s.size) (hs : s.size < 1000000) :
    Calls Tryd.prog 69 #[.pointer (some ⟨b, 0, none⟩), .int .i64 st] w (One b s line beg vo vp st (mchar s p) w) := by
  obtain ⟨c0, c1, c2, c3, c4, c5, f1, f2, f3, f4, f5⟩ := rc hb
  have HB := Lib.hid hb
  clear hb
  have e := bt_eq s p hlt
  by_cases h32 : bt s p < 32
  · have HR : Hid (mchar s p = none) := by show mchar s p = _; simp [mchar, h32]
    go_enter Tryd.func69, Tryd.ntmps69
    go_wp2
    go_quiet (fail)
    go_wp2_with (go_at_call 18; refine (fail_any _ _ _).mono ?_; rintro e w' ⟨rfl, rfl⟩)
    refine ⟨rfl, ?_⟩
    rw [HR.out]
    exact ⟨rfl, (Fr.refl _ _).drewN _⟩
  · by_cases h92 : bt s p = 92
    · have HR : Hid (mchar s p = mescape s (p + 1)) := by show mchar s p = _; simp [mchar, h32, h92]
      have t0 : ((bt s p : Int) != 92) = false := by simp [h92]
      clear h92
      go_enter Tryd.func69, Tryd.ntmps69
      go_wp2
      go_quiet (fail)
      go_wp2_with fail
      refine (escape_any b s (p + 1) line beg vo vp st _ (by exact rb_at HB.out (p + 1)) (by omega) hs).mono ?_
      intro e1 w1 h1
      rcases hm : mescape s (p + 1) with _ | ⟨v, q⟩
      · rw [hm] at h1
        obtain ⟨rfl, hfr⟩ := h1
        refine ⟨rfl, ?_⟩
        rw [HR.out, hm]
        exact ⟨rfl, (((Fr.refl _ _).drewN _).set _ _).trans hfr⟩
      · rw [hm] at h1
        obtain ⟨rfl, hb1, hfr⟩ := h1
        have HM := Lib.hid hm
        have HB1 := Lib.hid hb1
        clear hm hb1
        go_wp2
        go_ret
        rw [HR.out, HM.out]
        exact ⟨rfl, HB1.out, (((Fr.refl _ _).drewN _).set _ _).trans hfr⟩
    · have HR : Hid (mchar s p = some ((bt s p : Int), p + 1)) := by show mchar s p = _; simp [mchar, h32, h92]
      have t0 : ((bt s p : Int) != 92) = true := by rw [bne_iff_ne]; omega
      go_enter Tryd.func69, Tryd.ntmps69
      go_wp2
      go_quiet (fail)
      go_wp2
      go_ret
      rw [HR.out]
      exact ⟨rfl, rb_at HB.out (p + 1), ((Fr.refl _ _).drewN _).set _ _⟩
end Go.Proofs.YtkfkgdkfgpofnaaDoor
