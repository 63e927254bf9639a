/- The walk of scanner. -/
import Derived.Test.YtkfkgdkfgpofnaaDoorE0
namespace Go.Proofs.YtkfkgdkfgpofnaaDoor
open Go.RowKit
set_option maxRecDepth 100000

/-- The method that reads what begins with a byte of a class. -/
def scanF (c : Int) : FuncId :=
  if (c == 2) = true then 29 else if (c == 3) = true then 30 else if (c == 4) = true then 31 else if (c == 5) = true then 32 else if (c == 6) = true then 33 else if (c == 7) = true then 34 else if (c == 8) = true then 35 else if (c == 9) = true then 36 else if (c == 10) = true then 37 else 38
theorem ret_fn {a b : FuncId} {x y : Array Value} (h : a = b) : Ending.returned (.func (.func a) x y) = .returned (.func (.func b) x y) := by rw [h]

theorem scanner_any (b : Nat) (s : ByteArray) (p line beg : Nat) (vo vp : Value) (w : World) (hT : Tab w) (hb : w.heap[b]? = some (RB s p line beg vo vp)) (hlt : p < s.size) (hs : s.size < 1000000) :
    Calls Tryd.prog 17 #[.pointer (some ⟨b, 0, none⟩)] w fun e w' => e = .returned (.func (.func (scanF (cls (bt s p)))) #[.pointer (some ⟨b, 0, none⟩)] #[]) ∧ ∃ n, w' = w.drewN n := by
  obtain ⟨c0, c1, c2, c3, c4, c5, f1, f2, f3, f4, f5⟩ := rc hb
  have HT := Lib.hid hT
  have e := bt_eq s p hlt
  clear hb hT
  have hmf : ∀ (fn : Fn) (first cap : Array Value) (w : World), (Instr.makeFunc fn first cap).run Tryd.prog w = .ok (.func fn first cap) w := fun _ _ _ _ => rfl
  go_enter Tryd.func17, Tryd.ntmps17
  go_wp2
  go_quiet ((go_at_call 25; exact quiet_left (class_any _ _ HT.out)))
  go_wp2
  all_goals
    go_ret
    exact ⟨ret_fn (by simp [scanF, *]), _, rfl⟩
end Go.Proofs.YtkfkgdkfgpofnaaDoor
