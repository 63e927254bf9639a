/- The walks of Keyword and closer. -/
import Derived.Test.YtkfkgdkfgpofnaaDoorA1
namespace Go.Proofs.YtkfkgdkfgpofnaaDoor
open Go.RowKit
set_option maxRecDepth 100000

/-- The byte that closes the bracket that a mark opens. -/
def closerOf (l : List UInt8) : Nat :=
  if l == [40] then 41 else if l == [91] then 93 else if l == [123] then 125 else if l == [39, 123] then 125 else if l == [36, 123] then 125 else 0
theorem closer_any (m : ByteArray) (w : World) :
    Calls Tryd.prog 64 #[.string m] w fun e w' => e = .returned (.int .u8 (closerOf m.toList)) ∧ w = w' := by
  go_enter Tryd.func64, Tryd.ntmps64
  go_wp2
  all_goals first
    | (exfalso; simp_all; done)
    | (go_ret; exact ⟨ret_int (by simp [closerOf, *]), rfl⟩)

/-- The keywords. -/
def kwords : List (List UInt8) := [[97, 98, 115, 116, 114, 97, 99, 116], [99, 97, 115, 101], [99, 97, 116, 99, 104], [99, 108, 97, 115, 115], [100, 101, 102], [100, 111], [101, 108, 115, 101], [101, 110, 117, 109], [101, 120, 116, 101, 110, 100, 115], [101, 120, 116, 101, 110, 115, 105, 111, 110], [102, 97, 108, 115, 101], [102, 105, 110, 97, 108], [102, 105, 110, 97, 108, 108, 121], [102, 111, 114], [103, 105, 118, 101, 110], [105, 102], [105, 109, 112, 111, 114, 116], [105, 110, 108, 105, 110, 101], [108, 97, 122, 121], [109, 97, 116, 99, 104], [110, 101, 119], [110, 117, 108, 108], [111, 98, 106, 101, 99, 116], [111, 118, 101, 114, 114, 105, 100, 101], [112, 114, 105, 118, 97, 116, 101], [114, 101, 116, 117, 114, 110], [115, 101, 97, 108, 101, 100], [115, 117, 112, 101, 114], [116, 104, 101, 110], [116, 104, 105, 115], [116, 104, 114, 111, 119], [116, 114, 97, 105, 116], [116, 114, 117, 101], [116, 114, 121], [116, 121, 112, 101], [117, 115, 105, 110, 103], [118, 97, 108], [118, 97, 114], [118, 111, 108, 97, 116, 105, 108, 101], [119, 104, 105, 108, 101], [119, 105, 116, 104], [121, 105, 101, 108, 100]]
def kwB (l : List UInt8) : Bool := kwords.contains l

set_option maxHeartbeats 4000000 in
theorem keyword_any (m : ByteArray) (w : World) :
    Calls Tryd.prog 49 #[.string m] w fun e w' => e = .returned (.bool (kwB m.toList)) ∧ w = w' := by
  go_enter Tryd.func49, Tryd.ntmps49
  go_wp2
  all_goals first
    | (exfalso; simp_all; done)
    | (go_ret; exact ⟨ret_bool (by simp only [kwB, kwords, List.contains_cons, List.contains_nil, Bool.or_false, Bool.or_true, Bool.true_or, Bool.false_or, *]), rfl⟩)
end Go.Proofs.YtkfkgdkfgpofnaaDoor
