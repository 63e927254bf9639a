/- Rename. -/
import Derived.Test.YthcoigdmammamaaGreatDoorS6
namespace Go.Proofs.YthcoigdmammamaaGreatDoor
open Go.RowKit Go.Shelf
set_option maxRecDepth 100000

theorem results14_run (tmps : Array Value) (W : World) (F : Nat) (c0 c1 c2 c3 c4 : Value) (h6 : tmps[6]?.getD undef = .pointer (some ⟨F, 0, none⟩)) (hF : W.heap[F]? = some (.cells #[c0, c1, c2, c3, c4] 24 (0, 0))) :
    (results Tryz.f14 tmps).run Tryz.prog W = .ok (.agg #[c0, c1, c2, c3, c4]) W := by
  have r0 : W.cell? ⟨F, 0, none⟩ = some c0 := blk_cell hF 0
  have r1 : W.cell? ⟨F, 1, none⟩ = some c1 := blk_cell hF 1
  have r2 : W.cell? ⟨F, 2, none⟩ = some c2 := blk_cell hF 2
  have r3 : W.cell? ⟨F, 3, none⟩ = some c3 := blk_cell hF 3
  have r4 : W.cell? ⟨F, 4, none⟩ = some c4 := blk_cell hF 4
  simp [results, Tryz.results14, go_sem, h6, r0, r1, r2, r3, r4]

set_option maxHeartbeats 2000000 in
theorem rename_any (f t : ByteArray) (ht : t.size ≤ 140737488355328) (x : Nd) (v : Value) (B : Nat) (w : World) (hl : Ls w B v x.kids) (hB : B ≤ w.heap.size) (hok : x.ok) (hx : x.nodes ≤ 20000) :
    Calls Tryz.prog 14 #[nv x v, .string f, .string t] w (RenP f t x w) := by
  obtain ⟨va, vc, rfl⟩ := hl.slice
  obtain ⟨w1, hw1⟩ : ∃ w1, (w.alloc (NB x (.slice va x.kids.length vc))).alloc NZ = w1 := ⟨_, rfl⟩
  have hb0 : Below w.heap.size w w1 := by rw [← hw1]; exact ((Below.refl _ w).alloc (Nat.le_refl _) _).alloc (by simp) _
  have hP : w1.heap[w.heap.size]? = some (NB x (.slice va x.kids.length vc)) := by
    rw [← hw1, Below.heap_alloc _ _ _ (by simp)]; exact alloc_blk w _
  have hQ : w1.heap[w.heap.size + 1]? = some NZ := by
    rw [← hw1]
    have h := alloc_blk (w.alloc (NB x (.slice va x.kids.length vc))) NZ
    rw [World.size_alloc] at h; exact h
  have hz1 : w1.heap.size = w.heap.size + 2 := by rw [← hw1]; simp
  have hl1 := hl.bel (hb0.mono hB)
  have cS := small_any x _ B w1 hl1 (by omega) hok hx
  have HB0 := Lib.hid hb0
  have HP := Lib.hid hP
  have HQ := Lib.hid hQ
  have HZ1 := Lib.hid hz1
  have HL1 := Lib.hid hl1
  have HOK := Lib.hid hok
  rw [← hw1] at cS
  have HW1 := Lib.hid hw1
  clear hl hok hb0 hP hQ hz1 hl1 hw1
  go_enter Tryz.func14, Tryz.ntmps14
  go_wp2_with fail
  refine cS.mono ?_
  clear cS
  rintro e w2 ⟨rfl, hb2⟩
  rw [HW1.out] at hb2
  have hz2 := hb2.size
  have hz1 := HZ1.out
  have hP2 := (hb2.block w.heap.size (by omega)).trans HP.out
  have p0 := blk_cell hP2 0
  have p1 := blk_cell hP2 1
  have p2 := blk_cell hP2 2
  have p3 := blk_cell hP2 3
  have p4 := blk_cell hP2 4
  have cR := renamed_any f t ht (SizeOf.sizeOf x) x _ B w2 (Nat.le_refl _) (HL1.out.bel (hb2.mono (by omega))) (by omega) HOK.out hx
  have hQ2 := (hb2.block (w.heap.size + 1) (by omega)).trans HQ.out
  have HB2 := Lib.hid hb2
  have HQ2 := Lib.hid hQ2
  clear hb2 hP2 hQ2
  obtain ⟨rx, hrx⟩ : ∃ rx, rx = ren f t x := ⟨_, rfl⟩
  replace cR : Calls Tryz.prog 30 #[nv x (.slice va x.kids.length vc), .string f, .string t] w2 (fun e w' => ∃ v', e = .returned (nv rx v') ∧ LsS w' (fun j => w2.heap.size ≤ j ∧ j < w'.heap.size ∧ Free w' j) v' rx.kids ∧ Below w2.heap.size w2 w') := by rw [hrx]; exact cR
  have HRX := Lib.hid hrx
  clear hrx
  go_wp2_with fail
  refine cR.mono ?_
  clear cR
  rintro e w3 ⟨v3, rfl, hl3, hb3⟩
  obtain ⟨a3, c3, rfl⟩ := LsS.slice hl3
  have hQ3 := (hb3.block (w.heap.size + 1) (by omega)).trans HQ2.out
  have q0 := blk_cell hQ3 0
  have q1 := blk_cell hQ3 1
  have q2 := blk_cell hQ3 2
  have q3 := blk_cell hQ3 3
  have q4 := blk_cell hQ3 4
  have g0 := blk_free hQ3 0
  have g1 := blk_free hQ3 1
  have g2 := blk_free hQ3 2
  have g3 := blk_free hQ3 3
  have g4 := blk_free hQ3 4
  have HQ3 := Lib.hid hQ3
  have HL3 := Lib.hid hl3
  have HB3 := Lib.hid hb3
  clear hQ3 hl3 hb3 p0 p1 p2 p3 p4
  go_wp2
  have hF : (((((w3.setCell ⟨w.heap.size + 1, 0, none⟩ (.int .i64 rx.kind)).setCell ⟨w.heap.size + 1, 1, none⟩ (.string rx.text)).setCell ⟨w.heap.size + 1, 2, none⟩ (.int .i64 rx.num)).setCell ⟨w.heap.size + 1, 3, none⟩ (.slice a3 rx.kids.length c3)).setCell ⟨w.heap.size + 1, 4, none⟩ (.int .i64 rx.at_)).heap[w.heap.size + 1]? =
      some (.cells #[.int .i64 rx.kind, .string rx.text, .int .i64 rx.num, .slice a3 rx.kids.length c3, .int .i64 rx.at_] 24 (0, 0)) :=
    blk_set (blk_set (blk_set (blk_set (blk_set HQ3.out 0 (.int .i64 rx.kind)) 1 (.string rx.text)) 2 (.int .i64 rx.num)) 3 (.slice a3 rx.kids.length c3)) 4 (.int .i64 rx.at_)
  refine bodyPost_ret (v := .agg #[.int .i64 rx.kind, .string rx.text, .int .i64 rx.num, .slice a3 rx.kids.length c3, .int .i64 rx.at_]) (results14_run _ _ (w.heap.size + 1) _ _ _ _ _ rfl hF) rfl ?_
  show ∃ v', _
  rw [← HRX.out]
  refine ⟨.slice a3 rx.kids.length c3, rfl, ?_, ?_⟩
  · refine LsS.of HL3.out ?_ ?_
    · rintro j ⟨hj1, hj2, hj3⟩
      rw [Below.heap_setCell _ _ _ _ (by show j ≠ w.heap.size + 1; omega), Below.heap_setCell _ _ _ _ (by show j ≠ w.heap.size + 1; omega), Below.heap_setCell _ _ _ _ (by show j ≠ w.heap.size + 1; omega), Below.heap_setCell _ _ _ _ (by show j ≠ w.heap.size + 1; omega), Below.heap_setCell _ _ _ _ (by show j ≠ w.heap.size + 1; omega)]
    · rintro j ⟨hj1, hj2, hj3⟩
      refine ⟨by omega, ?_, hj3.of ?_⟩
      · simp [World.setCell]
        omega
      · rw [Below.heap_setCell _ _ _ _ (by show j ≠ w.heap.size + 1; omega), Below.heap_setCell _ _ _ _ (by show j ≠ w.heap.size + 1; omega), Below.heap_setCell _ _ _ _ (by show j ≠ w.heap.size + 1; omega), Below.heap_setCell _ _ _ _ (by show j ≠ w.heap.size + 1; omega), Below.heap_setCell _ _ _ _ (by show j ≠ w.heap.size + 1; omega)]
  · have h0 : w.heap.size ≤ w.heap.size + 1 := Nat.le_succ _
    have h1 : Below w.heap.size w w3 := HB0.out.trans ((HB2.out.mono (by omega)).trans (HB3.out.mono (by omega)))
    exact ((((h1.setCell (by exact h0) _).setCell (by exact h0) _).setCell (by exact h0) _).setCell (by exact h0) _).setCell (by exact h0) _
end Go.Proofs.YthcoigdmammamaaGreatDoor
