/- FindClass of the program. -/
import Derived.Test.YtlipfgdjbimfjaaGreatDoorI1
namespace Go.Proofs.YtlipfgdjbimfjaaGreatDoor
open Go.RowKit Go.Shelf Go.Sort
set_option maxRecDepth 100000

set_option maxHeartbeats 4000000 in
theorem findclass (W0 : World) (cv v1 v2 v3 v4 : Value) (mn : Int) (n : Nat) (d : Nat → ClS) (hn : n ≤ 17592186044416) (hC : CLS W0 cv n d) (ow : Int) (nm : ByteArray) (ob : Bool) (w : World) (hb : Below W0.heap.size W0 w) :
    Calls Tryz.prog 11 #[.agg #[cv, v1, v2, v3, v4, .int .i64 mn], .int .i64 ow, .string nm, .bool ob] w (FndR (fnd (fun i => fits ow nm ob (d i)) n 0) w) := by
  obtain ⟨w1, hw1⟩ : ∃ w1, w.alloc (.cells #[cv, v1, v2, v3, v4, .int .i64 mn] 28) = w1 := ⟨_, rfl⟩
  have z1 : w1.heap.size = w.heap.size + 1 := by rw [← hw1]; exact World.size_alloc _ _
  obtain ⟨w2, hw2⟩ : ∃ w2, w1.alloc (.cells #[.int .i64 ow] 3) = w2 := ⟨_, rfl⟩
  have z2 : w2.heap.size = w.heap.size + 1 + 1 := by rw [← hw2]; have := World.size_alloc w1 (.cells #[.int .i64 ow] 3); omega
  obtain ⟨w3, hw3⟩ : ∃ w3, w2.alloc (.cells #[.string nm] 9) = w3 := ⟨_, rfl⟩
  have z3 : w3.heap.size = w.heap.size + 1 + 1 + 1 := by rw [← hw3]; have := World.size_alloc w2 (.cells #[.string nm] 9); omega
  obtain ⟨w4, hw4⟩ : ∃ w4, w3.alloc (.cells #[.bool ob] 4) = w4 := ⟨_, rfl⟩
  have hb1 : Below w.heap.size w w1 := by rw [← hw1]; exact (Below.refl _ _).alloc (Nat.le_refl _) _
  have hb2 : Below w1.heap.size w1 w2 := by rw [← hw2]; exact (Below.refl _ _).alloc (Nat.le_refl _) _
  have hb3 : Below w2.heap.size w2 w3 := by rw [← hw3]; exact (Below.refl _ _).alloc (Nat.le_refl _) _
  have hb4 : Below w3.heap.size w3 w4 := by rw [← hw4]; exact (Below.refl _ _).alloc (Nat.le_refl _) _
  have x1 : w1.heap[w.heap.size]? = some (.cells #[cv, v1, v2, v3, v4, .int .i64 mn] 28 (0, 0)) := by rw [← hw1]; exact heap_alloc_new w _
  have x2 : w2.heap[w1.heap.size]? = some (.cells #[.int .i64 ow] 3 (0, 0)) := by rw [← hw2]; exact heap_alloc_new w1 _
  have x3 : w3.heap[w2.heap.size]? = some (.cells #[.string nm] 9 (0, 0)) := by rw [← hw3]; exact heap_alloc_new w2 _
  have x4 : w4.heap[w3.heap.size]? = some (.cells #[.bool ob] 4 (0, 0)) := by rw [← hw4]; exact heap_alloc_new w3 _
  have y3 := (hb4.block _ (by omega)).trans x3
  have y2 := (hb4.block _ (by omega)).trans ((hb3.block _ (by omega)).trans x2)
  have y1 := (hb4.block _ (by omega)).trans ((hb3.block _ (by omega)).trans ((hb2.block _ (by omega)).trans x1))
  have hB4 : Below w.heap.size w w4 := hb1.trans ((hb2.trans ((hb3.trans (hb4.mono (by omega))).mono (by omega))).mono (by omega))
  have cI := findex W0 cv n d hn hC ow nm ob w1.heap.size w2.heap.size w3.heap.size w4 (hb.trans (hB4.mono hb.size)) y2 y3 x4
  rw [z1, z2, z3] at cI
  have p0 := blk_cell y1 0
  have HB4 := Lib.hid hB4
  have HW1 := Lib.hid hw1
  have HW2 := Lib.hid hw2
  have HW3 := Lib.hid hw3
  have HW4 := Lib.hid hw4
  obtain ⟨va, vc, rfl, -⟩ := hC
  obtain ⟨R, hR⟩ : ∃ R, R = fnd (fun i => fits ow nm ob (d i)) n 0 := ⟨_, rfl⟩
  rw [← hR] at cI ⊢
  have HCI := Lib.hid cI
  clear hw1 hw2 hw3 hw4 hb1 hb2 hb3 hb4 x1 x2 x3 x4 y1 y2 y3 hB4 hb hR z1 z2 z3 cI
  go_enter Tryz.func11, Tryz.ntmps11
  go_upto_region 1 with fail
  rw [HW1.out, HW2.out, HW3.out, HW4.out]
  go_wp2_with fail
  refine HCI.out.mono ?_
  rintro e w5 ⟨rfl, h5⟩
  have H5 := Lib.hid (HB4.out.trans (h5.mono HB4.out.size))
  clear h5 p0
  go_wp2
  go_ret
  exact ⟨rfl, H5.out⟩
end Go.Proofs.YtlipfgdjbimfjaaGreatDoor
