/- The walks of the deferred closure of Layout. -/
import Derived.Test.YtkfkgdkfgpofnaaDoorG4
import Derived.Recover
import Derived.Defers
namespace Go.Proofs.YtkfkgdkfgpofnaaDoor
open Go.RowKit
set_option maxRecDepth 100000


set_option maxHeartbeats 2000000 in
theorem catch_idle2 (a c : Addr) (w : World) :
    CallsD Tryd.prog 22 #[.pointer (some a), .pointer (some c)] .returning w fun e u' w' => e = .returned (.tuple #[]) ∧ u' = .returning ∧ w' = w.alloc (.cells #[.int .i64 0, .int .i64 0] 26) := by
  refine callsD_of_wpS Tryd.func22 rfl fun c₀ cs hu => ?_
  apply wpS_seq
  apply wpS_region
  simp [wpOpsS, go_sem, recoverD, hu, Tryd.ntmps22, Exit.thenS, assert_nil]
  refine wpS_of_wp ?_
  change Code.wp _ _ _ { tmps := #[.pointer (some a), .pointer (some c), .pointer (some ⟨w.heap.size, 0, none⟩), .bool false, .tuple #[.agg #[.int .i64 0, .int .i64 0], .bool false], .nilIface, .tuple #[.agg #[.int .i64 0, .int .i64 0], .bool false], .agg #[.int .i64 0, .int .i64 0], .bool false, undef, undef], defers := [] } _
  go_wp2
  cases c₀
  simp_all [bodyPostS, results, Tryd.results22]
set_option maxHeartbeats 2000000 in
theorem catch_fault2 (ba bc : Nat) (p q : Int) (w : World) (x y z : Value) (hn : ba ≠ bc) (h0 : w.cell? ⟨ba, 0, none⟩ = some x) (h1 : w.cell? ⟨bc, 0, none⟩ = some y) (h2 : w.cell? ⟨bc, 1, none⟩ = some z)
    (f0 : w.frozen? ⟨ba, 0, none⟩ = false) (f1 : w.frozen? ⟨bc, 0, none⟩ = false) (f2 : w.frozen? ⟨bc, 1, none⟩ = false) :
    CallsD Tryd.prog 22 #[.pointer (some ⟨ba, 0, none⟩), .pointer (some ⟨bc, 0, none⟩)] (.panicking [{ v := .iface 26 (.agg #[.int .i64 p, .int .i64 q]), recovered := false }]) w fun e u' w' => e = .returned (.tuple #[]) ∧ u' = .panicking [{ v := .iface 26 (.agg #[.int .i64 p, .int .i64 q]), recovered := true }] ∧
      w' = ((((w.setCell ⟨ba, 0, none⟩ (.slice none 0 0)).setCell ⟨bc, 0, none⟩ (.int .i64 p)).setCell ⟨bc, 1, none⟩ (.int .i64 q)).alloc (.cells #[.int .i64 p, .int .i64 q] 26)).drew := by
  have l0 := World.block_lt_of_cell? _ _ h0
  have l1 := World.block_lt_of_cell? _ _ h1
  simp only at l0 l1
  refine callsD_of_wpS Tryd.func22 rfl fun c₀ cs hu => ?_
  apply wpS_seq
  apply wpS_region
  simp [wpOpsS, go_sem, recoverD, hu, Tryd.ntmps22, Exit.thenS, assert_fault]
  refine wpS_of_wp ?_
  simp only [rep9, List.setIfInBounds_toArray, List.set_cons_succ, List.set_cons_zero, List.append_toArray, List.cons_append, List.nil_append]
  clear hu
  go_wp2
  go_region
  all_goals
    show bodyPostS Tryd.prog Tryd.f22 _ _ _ Exit.normal _ _ _
    cases c₀
    simp [bodyPostS, results, Tryd.results22]
end Go.Proofs.YtkfkgdkfgpofnaaDoor
