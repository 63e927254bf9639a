/- Letters, digits, names, operators, as walks. -/
import Derived.Test.YthcoigdmammamaaGreatDoorS25
import Derived.Test.YthcoigdmammamaaGreatDoorSi
namespace Go.Proofs.YthcoigdmammamaaGreatDoor
open Go.RowKit Go.Shelf Go.Sort
set_option maxRecDepth 100000

def letB (c : Nat) : Bool := (decide (65 ≤ c) && decide (c ≤ 90)) || (decide (97 ≤ c) && decide (c ≤ 122))
def digB (c : Nat) : Bool := decide (48 ≤ c) && decide (c ≤ 57)

set_option maxHeartbeats 4000000 in
theorem isLetter_any (c : Nat) (w : World) : Calls Tryz.prog 81 #[.int .u8 c] w fun e w' => e = .returned (.bool (letB c)) ∧ w' = w := by
  obtain ⟨b, hb⟩ : ∃ b, b = letB c := ⟨_, rfl⟩
  rw [← hb]
  unfold letB at hb
  by_cases h1 : 65 ≤ c <;> by_cases h2 : c ≤ 90 <;> by_cases h3 : 97 ≤ c <;> by_cases h4 : c ≤ 122
  all_goals first
    | (exfalso; omega)
    | (have e1 : decide ((65 : Int) ≤ (c : Int)) = true := by simp; omega
       have e2 : decide ((c : Int) ≤ 90) = true := by simp; omega
       have hbt : b = true := by rw [hb]; simp [h1, h2]
       clear hb h1 h2 h3 h4
       subst hbt
       go_enter Tryz.func81, Tryz.ntmps81
       go_wp2
       go_ret
       exact ⟨rfl, rfl⟩)
    | (have e1 : decide ((65 : Int) ≤ (c : Int)) = true := by simp; omega
       have e2 : decide ((c : Int) ≤ 90) = false := by simp; omega
       have e3 : decide ((97 : Int) ≤ (c : Int)) = true := by simp; omega
       have e4 : decide ((c : Int) ≤ 122) = true := by simp; omega
       have hbt : b = true := by rw [hb]; simp [h3, h4]
       clear hb h1 h2 h3 h4
       subst hbt
       go_enter Tryz.func81, Tryz.ntmps81
       go_wp2
       go_ret
       exact ⟨rfl, rfl⟩)
    | (have e1 : decide ((65 : Int) ≤ (c : Int)) = true := by simp; omega
       have e2 : decide ((c : Int) ≤ 90) = false := by simp; omega
       have e3 : decide ((97 : Int) ≤ (c : Int)) = true := by simp; omega
       have e4 : decide ((c : Int) ≤ 122) = false := by simp; omega
       have hbt : b = false := by rw [hb]; simp; omega
       clear hb h1 h2 h3 h4
       subst hbt
       go_enter Tryz.func81, Tryz.ntmps81
       go_wp2
       go_ret
       exact ⟨rfl, rfl⟩)
    | (have e1 : decide ((65 : Int) ≤ (c : Int)) = true := by simp; omega
       have e2 : decide ((c : Int) ≤ 90) = false := by simp; omega
       have e3 : decide ((97 : Int) ≤ (c : Int)) = false := by simp; omega
       have hbt : b = false := by rw [hb]; simp; omega
       clear hb h1 h2 h3 h4
       subst hbt
       go_enter Tryz.func81, Tryz.ntmps81
       go_wp2
       go_ret
       exact ⟨rfl, rfl⟩)
    | (have e1 : decide ((65 : Int) ≤ (c : Int)) = false := by simp; omega
       have e3 : decide ((97 : Int) ≤ (c : Int)) = false := by simp; omega
       have hbt : b = false := by rw [hb]; simp; omega
       clear hb h1 h2 h3 h4
       subst hbt
       go_enter Tryz.func81, Tryz.ntmps81
       go_wp2
       go_ret
       exact ⟨rfl, rfl⟩)
theorem isDigit_any (c : Nat) (w : World) : Calls Tryz.prog 85 #[.int .u8 c] w fun e w' => e = .returned (.bool (digB c)) ∧ w' = w := by
  obtain ⟨b, hb⟩ : ∃ b, b = digB c := ⟨_, rfl⟩
  rw [← hb]
  unfold digB at hb
  by_cases h1 : 48 ≤ c <;> by_cases h2 : c ≤ 57
  all_goals first
    | (exfalso; omega)
    | (have e1 : decide ((48 : Int) ≤ (c : Int)) = true := by simp; omega
       have e2 : decide ((c : Int) ≤ 57) = true := by simp; omega
       have hbt : b = true := by rw [hb]; simp [h1, h2]
       clear hb h1 h2
       subst hbt
       go_enter Tryz.func85, Tryz.ntmps85
       go_wp2
       go_ret
       exact ⟨rfl, rfl⟩)
    | (have e1 : decide ((48 : Int) ≤ (c : Int)) = true := by simp; omega
       have e2 : decide ((c : Int) ≤ 57) = false := by simp; omega
       have hbt : b = false := by rw [hb]; simp; omega
       clear hb h1 h2
       subst hbt
       go_enter Tryz.func85, Tryz.ntmps85
       go_wp2
       go_ret
       exact ⟨rfl, rfl⟩)
    | (have e1 : decide ((48 : Int) ≤ (c : Int)) = false := by simp; omega
       have hbt : b = false := by rw [hb]; simp; omega
       clear hb h1 h2
       subst hbt
       go_enter Tryz.func85, Tryz.ntmps85
       go_wp2
       go_ret
       exact ⟨rfl, rfl⟩)
theorem unless_any (b : Bool) (k : Int) (w : World) : Calls Tryz.prog 61 #[.bool b, .int .i64 k] w fun e w' => e = .returned (.int .i64 (if b then 0 else k)) ∧ w' = w := by
  cases b
  all_goals
    go_enter Tryz.func61, Tryz.ntmps61
    go_wp2
    go_ret
    exact ⟨rfl, rfl⟩
end Go.Proofs.YthcoigdmammamaaGreatDoor
