/- The walk of inOrder. -/
import Derived.Test.YtkfkgdkfgpofnaaDoorH0
import Derived.Test.YtkfkgdkfgpofnaaDoorA1
namespace Go.Proofs.YtkfkgdkfgpofnaaDoor
open Go.RowKit
set_option maxRecDepth 100000

/-- May a token stand behind another one? -/
def inOrd (u t : Tok) : Bool := decide (¬ (t.line < u.line ∨ t.at_ < u.at_ ∨ (t.line = u.line ∧ t.col < u.col)) ∧ (u.kind = 9 ∨ (u.at_ < t.at_ ∧ (u.line < t.line ∨ u.col < t.col))))
set_option maxHeartbeats 4000000 in
theorem inOrder_any (u t : Tok) (w : World) :
    Calls Tryd.prog 41 #[u.agg, t.agg] w fun e w' => e = .returned (.bool (inOrd u t)) ∧ Below w.heap.size w w' := by
  unfold Tok.agg
  go_enter Tryd.func41, Tryd.ntmps41
  go_wp2
  all_goals
    go_ret
    refine ⟨ret_bool ?_, ((Below.refl _ _).alloc (Nat.le_refl _) _).alloc (by simp) _⟩
    unfold inOrd
    first
      | (rw [Bool.eq_iff_iff]; simp only [decide_eq_true_eq, Bool.false_eq_true, iff_true, true_iff, false_iff, iff_false]; omega)
      | (rw [Bool.eq_iff_iff]; simp; omega)
      | (simp_all; done)
      | (simp_all; omega)
end Go.Proofs.YtkfkgdkfgpofnaaDoor
