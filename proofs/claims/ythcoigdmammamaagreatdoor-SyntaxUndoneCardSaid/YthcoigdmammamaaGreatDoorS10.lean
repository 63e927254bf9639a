/- begun: its walk. -/
import Derived.Test.YthcoigdmammamaaGreatDoorS9
import Derived.StillTailTactics
import Derived.Lib.QuietBelow
import Derived.BigQuiet
namespace Go.Proofs.YthcoigdmammamaaGreatDoor
open Go.RowKit Go.Shelf Go.Sort
set_option maxRecDepth 100000

set_option maxHeartbeats 2000000 in
theorem begun_any (C M s ba oa ca bb ob cb n : Nat) (xa xb : Array Value) (ta tb : TypeId) (fr : Nat × Nat) (k : Nat) (w : World) (hC : w.heap[C]? = some (.cells #[.int .i64 s, .map (some M)] 56 (0, 0))) (hM : w.heap[M]? = some (.map #[] k)) (hCM : M < C)
    (hne : ba ≠ bb) (ha : w.heap[ba]? = some (.cells xa ta (0, 0))) (hb : w.heap[bb]? = some (.cells xb tb fr)) (hz : 0 < xb.size) (hn : 0 < n) (hs : s < 20000) :
    Calls Tryz.prog 38 #[.pointer (some ⟨C, 0, none⟩), .slice (some ⟨ba, oa, none⟩) n ca, .slice (some ⟨bb, ob, none⟩) n cb] w fun e w' => e = .returned (.bool false) ∧ w'.heap[C]? = some (.cells #[.int .i64 (s + 1), .map (some M)] 56 (0, 0)) ∧ Below C w w' := by
  have HC := Lib.hid hC
  have HM := Lib.hid hM
  have HA := Lib.hid ha
  have HB := Lib.hid hb
  have hlC := lt_of_block hC
  clear hC hM ha hb
  go_enter Tryz.func38, Tryz.ntmps38
  go_wp2_with (first
    | (go_at_call 41; refine (placeOf_any ba oa n ca _ hn).mono ?_; rintro e w1 ⟨rfl, hb1⟩; have HB1 := Lib.hid hb1; clear hb1)
    | (go_at_call 41; refine (placeOf_any bb ob n cb _ hn).mono ?_; rintro e w2 ⟨rfl, hb2⟩; have HB2 := Lib.hid hb2; clear hb2; go_upto_region 2 with fail))
  obtain ⟨w3, hw3⟩ : ∃ w3, w2.alloc (.cells #[.pointer (some ⟨ba, oa, none⟩), .int .i64 n, .pointer (some ⟨bb, ob, none⟩), .int .i64 n] 100) = w3 := ⟨_, rfl⟩
  have hB3 : Below w.heap.size w w3 := by rw [← hw3]; exact (HB1.out.trans (HB2.out.mono HB1.out.size)).alloc (Nat.le_trans HB1.out.size HB2.out.size) _
  have hX : w3.heap[w2.heap.size]? = some (.cells #[.pointer (some ⟨ba, oa, none⟩), .int .i64 n, .pointer (some ⟨bb, ob, none⟩), .int .i64 n] 100 (0, 0)) := by rw [← hw3]; exact alloc_blk w2 _
  have hC3 := (hB3.block C hlC).trans HC.out
  have hM3 := (hB3.block M (by omega)).trans HM.out
  have hA3 := (hB3.block ba (lt_of_block HA.out)).trans HA.out
  have hD3 := (hB3.block bb (lt_of_block HB.out)).trans HB.out
  rw [hw3]
  have HB3 := Lib.hid hB3
  have HC3 := Lib.hid hC3
  have x0 := blk_cell hX 0
  have x1 := blk_cell hX 1
  have x2 := blk_cell hX 2
  have x3 := blk_cell hX 3
  have c0 := blk_cell hC3 0
  have c1 := blk_cell hC3 1
  have eq := place_ne (w := w3) (a := ⟨ba, oa, none⟩) (b := ⟨bb, ob, none⟩) n n (addr_new w3 hne hA3 hD3 hz)
  have hR : ∀ d os i o, w3.heap[i]? = some o → (grow (redrawn w3 d) os).heap[i]? = some o := fun d os i o h => by
    have := (below_regrown w3 d os).block i (lt_of_block h)
    rw [this]; exact h
  have eqR := fun d os => place_ne (w := grow (redrawn w3 d) os) (a := ⟨ba, oa, none⟩) (b := ⟨bb, ob, none⟩) n n (addr_new _ hne (hR d os _ _ hA3) (hR d os _ _ hD3) hz)
  have ptR := fun d os => ptr_ne (w := grow (redrawn w3 d) os) (a := ⟨ba, oa, none⟩) (b := ⟨bb, ob, none⟩) (addr_new _ hne (hR d os _ _ hA3) (hR d os _ _ hD3) hz)
  have lkR := fun d os => look_empty (grow (redrawn w3 d) os) M k (some ⟨ba, oa, none⟩) (some ⟨bb, ob, none⟩) n n (hR d os _ _ hM3)
  have y0 := fun d os => blk_cell (hR d os _ _ hX) 0
  have y1 := fun d os => blk_cell (hR d os _ _ hX) 1
  have y2 := fun d os => blk_cell (hR d os _ _ hX) 2
  have y3 := fun d os => blk_cell (hR d os _ _ hX) 3
  have d0 := fun d os => blk_cell (hR d os _ _ hC3) 0
  have d1 := fun d os => blk_cell (hR d os _ _ hC3) 1
  have HX := Lib.hid hX
  clear hw3 hB3 hX hC3 hM3 hA3 hD3 hR x0 x1 x2 x3 c0 c1 eq
  have gd : Tryz.prog.eqGuardType Tryz.prog.depth 87 = false := by kernel_rfl
  refine wp_region_quiet_below (by kernel_rfl) (by kernel_rfl) ?_
  repeat (go_big_quiet_step (fail))
  refine wpQuiet_nil ?_
  intro _ hw'
  obtain ⟨⟨dq, osq⟩, hw''⟩ := hw'
  subst hw''
  show Exit.then _ _ _ _ (grow (redrawn w3 dq) osq)
  have hB4 := below_regrown w3 dq osq
  have hC4 := (hB4.block C (lt_of_block HC3.out)).trans HC3.out
  have hbw : Below C w (grow (redrawn w3 dq) osq) := (HB3.out.mono (by omega)).trans (hB4.mono (by have := HB3.out.size; omega))
  have HC4 := Lib.hid hC4
  have HBW := Lib.hid hbw
  clear hB4 hC4 hbw eqR ptR lkR y0 y1 y2 y3 d0 d1 gd
  generalize grow (redrawn w3 dq) osq = w4 at *
  have c0 := blk_cell HC4.out 0
  have c1 := blk_cell HC4.out 1
  have f0 := blk_free HC4.out 0
  have a1 : IntKind.i64.wrap ((s : Int) + 1) = (s : Int) + 1 := IntWalk.i64_in _ (by omega)
  have a2 : decide ((20000 : Int) < (s : Int) + 1) = false := by simp; omega
  have c2 : (w4.setCell ⟨C, 0, none⟩ (.int .i64 ((s : Int) + 1))).cell? ⟨C, 0, none⟩ = some (.int .i64 ((s : Int) + 1)) := blk_cell (blk_set HC4.out 0 _) 0
  go_wp2
  go_ret
  exact ⟨rfl, blk_set HC4.out 0 _, HBW.out.setCell (by exact Nat.le_refl _) _⟩
end Go.Proofs.YthcoigdmammamaaGreatDoor
