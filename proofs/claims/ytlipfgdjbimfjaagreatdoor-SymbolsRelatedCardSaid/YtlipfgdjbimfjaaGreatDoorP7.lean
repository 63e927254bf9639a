/- ownsLists at a class without members. -/
import Derived.Test.YtlipfgdjbimfjaaGreatDoorP6
namespace Go.Proofs.YtlipfgdjbimfjaaGreatDoor
open Go.RowKit Go.Shelf Go.Sort
set_option maxRecDepth 100000

theorem below_drewN (W : World) (q : Nat) : Below W.heap.size W (W.drewN q) := ⟨rfl, rfl, rfl, Nat.le_refl _, fun _ _ => rfl⟩
set_option maxHeartbeats 4000000 in
theorem ownsLists_nil (tb cb n mb i : Nat) (nm : List UInt8) (kind owner : Int) (pv : Value) (w : World) (hT : TT w tb cb n mb) (hi : i < n) (hn : n ≤ 100000) (hB : BC w cb (i * 13) nm kind owner pv) :
    Calls Tryz.prog 126 #[.pointer (some ⟨tb, 0, none⟩), .int .i64 i] w fun e w' => e = .returned (.bool true) ∧ Below w.heap.size w w' := by
  obtain ⟨W, hW⟩ : ∃ W, (w.alloc (.cells #[.pointer (some ⟨tb, 0, none⟩)] 119)).alloc (.cells #[.int .i64 i] 3) = W := ⟨_, rfl⟩
  have hb0 : Below w.heap.size w W := by rw [← hW]; exact ((Below.refl _ w).alloc (Nat.le_refl _) _).alloc (by simp) _
  have htb : tb < w.heap.size := block_lt_of_cell hT.c0
  have hcb : cb < w.heap.size := block_lt_of_cell hB.c0
  obtain ⟨a0, a1, a2, a3, a4, a5, a6⟩ := hT.bel hb0 htb
  obtain ⟨c0, c1, c2, c3, c4, c5, c6, c7, c8, c9⟩ := hB.bel hb0 hcb
  have p0 : W.cell? ⟨w.heap.size, 0, none⟩ = some (.pointer (some ⟨tb, 0, none⟩)) := by rw [← hW]; simp
  have p1 : W.cell? ⟨w.heap.size + 1, 0, none⟩ = some (.int .i64 i) := by rw [← hW]; simp
  have HB0 := Lib.hid hb0
  have HW := Lib.hid hW
  clear hT hB hb0 hW htb hcb
  go_enter Tryz.func126, Tryz.ntmps126
  go_wp2
  rw [HW.out]
  go_quiet (fail)
  go_wp2_with fail
  refine (set_nil _ _ _).mono ?_
  rintro e w1 ⟨rfl, hw1⟩
  have hb1 : Below W.heap.size W w1 := by rw [hw1]; exact (below_drewN W _).alloc (Nat.le_refl _) _
  have q4 := (hb1.cell (p := ⟨cb, _, none⟩) (block_lt_of_cell c4)).trans c4
  have q6 := (hb1.cell (p := ⟨cb, _, none⟩) (block_lt_of_cell c6)).trans c6
  have q7 := (hb1.cell (p := ⟨cb, _, none⟩) (block_lt_of_cell c7)).trans c7
  have q8 := (hb1.cell (p := ⟨cb, _, none⟩) (block_lt_of_cell c8)).trans c8
  have q9 := (hb1.cell (p := ⟨cb, _, none⟩) (block_lt_of_cell c9)).trans c9
  have hlt1 : cb < w1.heap.size := block_lt_of_cell q4
  have HB1 := Lib.hid hb1
  clear hw1 hb1 a0 a1 a2 a3 a4 a5 a6 c0 c1 c2 c3 c4 c5 c6 c7 c8 c9 p0 p1
  go_wp2_with (go_at_call 129; refine (containsFunc_nil _ _ _ _).mono ?_; rintro e w' ⟨rfl, rfl⟩)
  go_ret
  exact ⟨rfl, HB0.out.trans ((HB1.out.mono HB0.out.size).alloc (by have := HB0.out.size; have := HB1.out.size; omega) _)⟩
end Go.Proofs.YtlipfgdjbimfjaaGreatDoor
