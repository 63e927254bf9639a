/- The walks of opener, unfinished. -/
import Derived.Test.YtkfkgdkfgpofnaaDoorH0
import Derived.Test.YtkfkgdkfgpofnaaDoorA1
namespace Go.Proofs.YtkfkgdkfgpofnaaDoor
open Go.RowKit
set_option maxRecDepth 100000

def openM : List (List UInt8) := [[58], [61], [61, 62], [60, 45]]
def openK : List (List UInt8) := [[116, 104, 101, 110], [101, 108, 115, 101], [100, 111], [109, 97, 116, 99, 104], [116, 114, 121], [99, 97, 116, 99, 104], [102, 105, 110, 97, 108, 108, 121], [121, 105, 101, 108, 100], [114, 101, 116, 117, 114, 110], [116, 104, 114, 111, 119]]
/-- May a block begin behind a token? -/
def openerB (t : Tok) : Bool := if (t.kind == 3) = true then openM.contains t.text.toList else if (t.kind == 1) = true then openK.contains t.text.toList else false
def unfM : List (List UInt8) := [[40], [91], [123], [39, 123], [36, 123], [44], [46], [59], [61], [61, 62], [60, 45], [58], [60, 58], [62, 58]]
def unfK : List (List UInt8) := [[102, 97, 108, 115, 101], [110, 117, 108, 108], [114, 101, 116, 117, 114, 110], [115, 117, 112, 101, 114], [116, 104, 105, 115], [116, 114, 117, 101]]
/-- Can a statement not end with a token? -/
def unfB (t : Tok) : Bool := if (t.kind == 2) = true then true else if (t.kind == 3) = true then unfM.contains t.text.toList else if (t.kind == 1) = true then !unfK.contains t.text.toList else false

set_option maxHeartbeats 4000000 in
theorem opener_any (t : Tok) (w : World) :
    Calls Tryd.prog 58 #[t.agg] w fun e w' => e = .returned (.bool (openerB t)) ∧ Below w.heap.size w w' := by
  unfold Tok.agg
  go_enter Tryd.func58, Tryd.ntmps58
  go_wp2
  all_goals first
    | (exfalso; simp_all; done)
    | (go_ret; exact ⟨ret_bool (by simp only [openerB, openM, openK, if_true, if_false, Bool.false_eq_true, List.contains_cons, List.contains_nil, Bool.or_false, Bool.or_true, Bool.true_or, Bool.false_or, *]), (Below.refl _ _).alloc (Nat.le_refl _) _⟩)
set_option maxHeartbeats 4000000 in
theorem unfinished_any (t : Tok) (w : World) :
    Calls Tryd.prog 63 #[t.agg] w fun e w' => e = .returned (.bool (unfB t)) ∧ Below w.heap.size w w' := by
  unfold Tok.agg
  go_enter Tryd.func63, Tryd.ntmps63
  go_wp2
  all_goals first
    | (exfalso; simp_all; done)
    | (go_ret; exact ⟨ret_bool (by simp only [unfB, unfM, unfK, if_true, if_false, Bool.false_eq_true, List.contains_cons, List.contains_nil, Bool.or_false, Bool.or_true, Bool.true_or, Bool.false_or, Bool.not_true, Bool.not_false, *]), (Below.refl _ _).alloc (Nat.le_refl _) _⟩)
end Go.Proofs.YtkfkgdkfgpofnaaDoor
