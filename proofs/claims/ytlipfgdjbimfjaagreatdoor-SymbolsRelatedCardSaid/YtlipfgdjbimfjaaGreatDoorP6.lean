/- A class without members in memory; listsExist, ownsLists, isOwner. -/
import Derived.Test.YtlipfgdjbimfjaaGreatDoorP5
namespace Go.Proofs.YtlipfgdjbimfjaaGreatDoor
open Go.RowKit Go.Shelf Go.Sort
set_option maxRecDepth 100000

/-- A class without members and flags. -/
structure BC (w : World) (cb o : Nat) (nm : List UInt8) (kind owner : Int) (pv : Value) : Prop where
  c0 : w.cell? ⟨cb, o, none⟩ = some (.string (bs nm))
  c1 : w.cell? ⟨cb, o + 1, none⟩ = some (.int .i64 kind)
  c2 : w.cell? ⟨cb, o + 2, none⟩ = some (.int .i64 0)
  c3 : w.cell? ⟨cb, o + 3, none⟩ = some (.int .i64 owner)
  c4 : w.cell? ⟨cb, o + 4, none⟩ = some nilS
  c5 : w.cell? ⟨cb, o + 5, none⟩ = some pv
  c6 : w.cell? ⟨cb, o + 6, none⟩ = some nilS
  c7 : w.cell? ⟨cb, o + 7, none⟩ = some nilS
  c8 : w.cell? ⟨cb, o + 8, none⟩ = some nilS
  c9 : w.cell? ⟨cb, o + 9, none⟩ = some nilS
theorem BC.bel {w w' : World} {B cb o : Nat} {nm : List UInt8} {kind owner : Int} {pv : Value} (h : BC w cb o nm kind owner pv) (hb : Below B w w') (ht : cb < B) : BC w' cb o nm kind owner pv := by
  obtain ⟨c0, c1, c2, c3, c4, c5, c6, c7, c8, c9⟩ := h
  exact ⟨(hb.cell (p := ⟨cb, _, none⟩) ht).trans c0, (hb.cell (p := ⟨cb, _, none⟩) ht).trans c1, (hb.cell (p := ⟨cb, _, none⟩) ht).trans c2, (hb.cell (p := ⟨cb, _, none⟩) ht).trans c3, (hb.cell (p := ⟨cb, _, none⟩) ht).trans c4, (hb.cell (p := ⟨cb, _, none⟩) ht).trans c5, (hb.cell (p := ⟨cb, _, none⟩) ht).trans c6, (hb.cell (p := ⟨cb, _, none⟩) ht).trans c7, (hb.cell (p := ⟨cb, _, none⟩) ht).trans c8, (hb.cell (p := ⟨cb, _, none⟩) ht).trans c9⟩

set_option maxHeartbeats 4000000 in
theorem listsExist_nil (tb cb n mb o : Nat) (nm : List UInt8) (kind owner : Int) (pv : Value) (w : World) (hT : TT w tb cb n mb) (hB : BC w cb o nm kind owner pv) :
    Calls Tryz.prog 124 #[.pointer (some ⟨tb, 0, none⟩), .pointer (some ⟨cb, o, none⟩)] w fun e w' => e = .returned (.bool true) ∧ Below w.heap.size w w' := by
  have cE : ∀ d os, Calls Tryz.prog 131 #[nilS, .int .i64 0] (grow (redrawn w d) os) fun e w'' => e = .returned (.bool true) ∧ ∃ p : Regrown, w'' = grow (redrawn w p.d) p.os := fun d os => Calls.regrown_of (exist_nil none 0 0 _)
  obtain ⟨a0, a1, a2, a3, a4, a5, a6⟩ := hT
  obtain ⟨c0, c1, c2, c3, c4, c5, c6, c7, c8, c9⟩ := hB
  have k1 := cell_regrown a1
  have k2 := cell_regrown a2
  have k3 := cell_regrown a3
  have k4 := cell_regrown a4
  have l4 := cell_regrown c4
  have l6 := cell_regrown c6
  have l7 := cell_regrown c7
  have l8 := cell_regrown c8
  have l9 := cell_regrown c9
  go_enter Tryz.func124, Tryz.ntmps124
  go_wp2
  refine wp_region_quiet_below (by kernel_rfl) (by kernel_rfl) ?_
  repeat (go_big_quiet_step (exact cE _ _))
  refine wpQuiet_nil ?_
  intro _ hw'
  obtain ⟨⟨dq, osq⟩, hw''⟩ := hw'
  subst hw''
  have HB := Lib.hid (below_regrown w dq osq)
  clear k1 k2 k3 k4 l4 l6 l7 l8 l9 a0 a1 a2 a3 a4 a5 a6 c0 c1 c2 c3 c4 c5 c6 c7 c8 c9
  generalize grow (redrawn w dq) osq = w3 at *
  go_wp2
  go_ret
  exact ⟨rfl, HB.out⟩

theorem isOwner_none (tb : Nat) (w : World) :
    Calls Tryz.prog 123 #[.pointer (some ⟨tb, 0, none⟩), .int .i64 (-1)] w fun e w' => e = .returned (.bool true) ∧ w = w' := by
  go_enter Tryz.func123, Tryz.ntmps123
  go_wp2
  go_ret
  exact ⟨rfl, rfl⟩
theorem isOwner_in (tb cb n mb : Nat) (c : Int) (w : World) (hT : TT w tb cb n mb) (h0 : 0 ≤ c) (h1 : c < n) :
    Calls Tryz.prog 123 #[.pointer (some ⟨tb, 0, none⟩), .int .i64 c] w fun e w' => e = .returned (.bool true) ∧ w = w' := by
  obtain ⟨a0, a1, a2, a3, a4, a5, a6⟩ := hT
  have hm : (c == -1) = false := by simpa using (by omega : c ≠ -1)
  go_enter Tryz.func123, Tryz.ntmps123
  go_wp2_with fail
  refine (isIndex_in _ h0 h1).mono ?_; rintro e w' ⟨rfl, rfl⟩
  go_wp2
  go_ret
  exact ⟨rfl, rfl⟩

end Go.Proofs.YtlipfgdjbimfjaaGreatDoor
