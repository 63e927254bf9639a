/- The walks of the smallest functions of package tokens: class, inWord, closer, HasPrefix, ahead, lineFeed. -/
import Derived.Test.YtkfkgdkfgpofnaaDoorChecked
import Derived.Test.YtkfkgdkfgpofnaaDoorShelf
import Derived.WalkKit
import Derived.WalkLawsBesides
import Derived.WalkSpells
import Derived.Lib.Hide
import Derived.Deep.QuietTactic
import Derived.BigQuiet
namespace Go.Proofs.YtkfkgdkfgpofnaaDoor
open Go.RowKit

def tab : List Int := [0, 0, 0, 0, 0, 0, 0, 0, 0, 1, 1, 0, 0, 0, 0, 0, 0, 0, 0, 0, 0, 0, 0, 0, 0, 0, 0, 0, 0, 0, 0, 0, 1, 4, 9, 0, 10, 4, 4, 8, 5, 6, 4, 4, 7, 4, 7, 4, 3, 3, 3, 3, 3, 3, 3, 3, 3, 3, 4, 7, 4, 4, 4, 4, 7, 2, 2, 2, 2, 2, 2, 2, 2, 2, 2, 2, 2, 2, 2, 2, 2, 2, 2, 2, 2, 2, 2, 2, 2, 2, 2, 5, 0, 6, 4, 2, 0, 2, 2, 2, 2, 2, 2, 2, 2, 2, 2, 2, 2, 2, 2, 2, 2, 2, 2, 2, 2, 2, 2, 2, 2, 2, 2, 5, 4, 6, 4, 0]

def Tab (w : World) : Prop := ∀ i, i < 128 → w.cell? ⟨0, i, none⟩ = some (.int .u8 (tab.getD i 0))
/-- The class of a byte. -/
def cls (c : Nat) : Int := if c < 128 then tab.getD c 0 else 0

set_option maxRecDepth 100000
theorem ret_int {k : IntKind} {a b : Int} (h : a = b) : Ending.returned (.int k a) = .returned (.int k b) := by rw [h]
theorem ret_bool {a b : Bool} (h : a = b) : Ending.returned (.bool a) = .returned (.bool b) := by rw [h]

theorem class_hi (c : Nat) (w : World) (h : 128 ≤ c) :
    Calls Tryd.prog 25 #[.int .u8 c] w fun e w' => e = .returned (.int .u8 0) ∧ w = w' := by
  go_enter Tryd.func25, Tryd.ntmps25
  go_wp2
  go_ret
  exact ⟨rfl, rfl⟩
theorem class_lo (c : Nat) (x : Int) (w : World) (h : c < 128) (hc : w.cell? ⟨0, c, none⟩ = some (.int .u8 x)) :
    Calls Tryd.prog 25 #[.int .u8 c] w fun e w' => e = .returned (.int .u8 x) ∧ w = w' := by
  go_enter Tryd.func25, Tryd.ntmps25
  go_wp2
  go_ret
  exact ⟨rfl, rfl⟩
theorem class_any (c : Nat) (w : World) (hT : Tab w) :
    Calls Tryd.prog 25 #[.int .u8 c] w fun e w' => e = .returned (.int .u8 (cls c)) ∧ w = w' := by
  by_cases h : c < 128
  · have := class_lo c _ w h (hT c h)
    simpa [cls, h] using this
  · have := class_hi c w (by omega)
    simpa [cls, h] using this

def wordB (c : Nat) : Bool := cls c == 2 || cls c == 3

theorem inWord_any (c : Nat) (w : World) (hT : Tab w) :
    Calls Tryd.prog 52 #[.int .u8 c] w fun e w' => e = .returned (.bool (wordB c)) ∧ w = w' := by
  have HT := Lib.hid hT
  clear hT
  by_cases h2 : (cls c == 2) = true
  · have HW : Hid (wordB c = true) := by show wordB c = true; simp [wordB, h2]
    go_enter Tryd.func52, Tryd.ntmps52
    go_wp2_with (go_at_call 25; refine (class_any _ _ HT.out).mono ?_; rintro e w' ⟨rfl, rfl⟩)
    go_ret
    exact ⟨ret_bool HW.out.symm, rfl⟩
  · have h2' : (cls c == 2) = false := by simpa using h2
    have HW : Hid (wordB c = (cls c == 3)) := by show wordB c = _; simp [wordB, h2']
    clear h2
    go_enter Tryd.func52, Tryd.ntmps52
    go_wp2_with (go_at_call 25; refine (class_any _ _ HT.out).mono ?_; rintro e w' ⟨rfl, rfl⟩)
    go_ret
    exact ⟨ret_bool HW.out.symm, rfl⟩
end Go.Proofs.YtkfkgdkfgpofnaaDoor
