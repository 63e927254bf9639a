/- The law's walk: IsName of the program and of the reference, of any text. -/
import Derived.Test.YtlipfgdjbimfjaaDoorP26
import Derived.Test.YtlipfgdjbimfjaaDoorP2
namespace Go.Proofs.YtlipfgdjbimfjaaDoor
open Go.RowKit Go.Shelf Go.Sort
set_option maxRecDepth 100000

set_option maxHeartbeats 1000000 in
theorem names_bs (l : List UInt8) (w : World) (hG : Gl w) (h0 : 0 < w.heap.size) : Calls Tryd.prog 3 #[.string (bs l)] w fun e w' => e = .returned (.bool true) ∧ Below w.heap.size w w' := by
  have cW := awake_any w hG h0
  clear hG h0
  by_cases hb : 1000 < (l.length : Int)
  · have hd : decide (1000 < (l.length : Int)) = true := by simpa using hb
    clear hb
    go_enter Tryd.func3, Tryd.ntmps3
    go_wp2
    go_ret
    exact ⟨rfl, Below.refl _ _⟩
  · have hd : decide (1000 < (l.length : Int)) = false := by simpa using hb
    have HL : Hid (l.length ≤ 140737488351232) := Lib.hid (by omega)
    clear hb
    go_enter Tryd.func3, Tryd.ntmps3
    go_wp2_with fail
    refine cW.mono ?_
    rintro e w1 ⟨rfl, hb1⟩
    have HB1 := Lib.hid hb1
    clear cW hb1
    go_wp2_with fail
    refine (isName_any l _ HL.out).mono ?_; rintro e w' ⟨rfl, rfl⟩
    go_wp2_with fail
    refine (refName_any l _ HL.out).mono ?_; rintro e w' ⟨rfl, rfl⟩
    rw [name_eq]
    go_wp2
    go_ret
    exact ⟨ret_bool (by simp), HB1.out⟩
theorem names_any (s : ByteArray) (w : World) (hG : Gl w) (h0 : 0 < w.heap.size) : Calls Tryd.prog 3 #[.string s] w fun e w' => e = .returned (.bool true) ∧ Below w.heap.size w w' := by
  have h := names_bs s.data.toList w hG h0
  rw [bs_of] at h
  exact h
end Go.Proofs.YtlipfgdjbimfjaaDoor
