/- FindClass of the reference. -/
import Derived.Test.YtlipfgdjbimfjaaGreatDoorI2
namespace Go.Proofs.YtlipfgdjbimfjaaGreatDoor
open Go.RowKit Go.Shelf Go.Sort
set_option maxRecDepth 100000

set_option maxHeartbeats 4000000 in
theorem refFind (W0 : World) (cv v1 v2 v3 v4 : Value) (mn : Int) (n : Nat) (d : Nat → ClS) (hn : n ≤ 17592186044416) (hC : CLS W0 cv n d) (ow : Int) (nm : ByteArray) (ob : Bool) (w : World) (hb : Below W0.heap.size W0 w) :
    Calls Tryz.prog 12 #[.agg #[cv, v1, v2, v3, v4, .int .i64 mn], .int .i64 ow, .string nm, .bool ob] w (FndR (fnd (fun i => fits ow nm ob (d i)) n 0) w) := by
  obtain ⟨w1, hw1⟩ : ∃ w1, w.alloc (.cells #[cv, v1, v2, v3, v4, .int .i64 mn] 28) = w1 := ⟨_, rfl⟩
  have hb1 : Below w.heap.size w w1 := by rw [← hw1]; exact (Below.refl _ _).alloc (Nat.le_refl _) _
  have hz1 : w1.heap.size = w.heap.size + 1 := by rw [← hw1]; exact World.size_alloc _ _
  have x1 : w1.heap[w.heap.size]? = some (.cells #[cv, v1, v2, v3, v4, .int .i64 mn] 28 (0, 0)) := by rw [← hw1]; exact heap_alloc_new w _
  obtain ⟨P, hP⟩ : ∃ P : Nat → Bool, P = fun i => fits ow nm ob (d i) := ⟨_, rfl⟩
  rw [← hP]
  obtain ⟨R, hR⟩ : ∃ R, R = fnd P n 0 := ⟨_, rfl⟩
  rw [← hR]
  have HC := Lib.hid hC
  have HP := Lib.hid hP
  have HR := Lib.hid hR
  have HB := Lib.hid (hb.trans (hb1.mono hb.size))
  have HB1 := Lib.hid hb1
  have HW1 := Lib.hid hw1
  have HZ1 := Lib.hid hz1
  obtain ⟨va, vc, rfl, -⟩ := hC
  have X1 := Lib.hid x1
  clear hP hR hb hb1 hw1 x1 hz1
  go_enter Tryz.func12, Tryz.ntmps12
  go_upto_region 1 with fail
  rw [HW1.out]
  go_wp2
  go_loopg [9] (n + 1) (fun g y wr => ∃ k : Nat, k ≤ n ∧ n - k < g ∧ y = .int .i64 k ∧ Hid (R = fnd P (n - k) k) ∧ Hid (Below w1.heap.size w1 wr))
  case atStart => exact ⟨0, by omega, by omega, rfl, HR, Lib.hid (Below.refl _ _)⟩
  case round =>
    obtain ⟨k, hk, hgk, rfl, HS, HW⟩ := hrel
    obtain ⟨m, rfl⟩ : ∃ m, gk = m + 1 := ⟨gk - 1, by omega⟩
    have p0 := blk_cell ((HW.out.block _ (Array.getElem?_eq_some_iff.1 X1.out).1).trans X1.out) 0
    by_cases hlt : k < n
    · obtain ⟨a', cap', he, hr⟩ := HC.out
      injection he with e1 e2 e3
      subst e1 e3
      obtain ⟨b, off, rfl, hbs, hel⟩ := hr (by omega)
      have hbw : Below W0.heap.size W0 wr := HB.out.trans (HW.out.mono HB.out.size)
      have q : ∀ j, j < 13 → wr.cell? ⟨b, off + k * 13 + j, none⟩ = (d k).cells[j]? := fun j hj => hel wr hbw k hlt j hj
      obtain ⟨t, ht⟩ : ∃ t, d k = t := ⟨_, rfl⟩
      have HPK : Hid (P k = fits ow nm ob t) := Lib.hid (by rw [HP.out, ← ht])
      rw [ht] at q
      obtain ⟨tnm, kd, fl, tow, ta, tn, tc, pa, pn, pc, qa, qn, qc, fa, fn, fc, ma, mn', mc, ya, yn, yc, sa, sn, sc, ia, inn, ic, at_⟩ := t
      have q0 : wr.cell? ⟨b, off + k * 13, none⟩ = some (.string tnm) := q 0 (by decide)
      have q1 : wr.cell? ⟨b, off + k * 13 + 1, none⟩ = some (.int .i64 kd) := q 1 (by decide)
      have q2 : wr.cell? ⟨b, off + k * 13 + 2, none⟩ = some (.int .i64 fl) := q 2 (by decide)
      have q3 : wr.cell? ⟨b, off + k * 13 + 3, none⟩ = some (.int .i64 tow) := q 3 (by decide)
      have q4 : wr.cell? ⟨b, off + k * 13 + 4, none⟩ = some (.slice ta tn tc) := q 4 (by decide)
      have q5 : wr.cell? ⟨b, off + k * 13 + 5, none⟩ = some (.slice pa pn pc) := q 5 (by decide)
      have q6 : wr.cell? ⟨b, off + k * 13 + 6, none⟩ = some (.slice qa qn qc) := q 6 (by decide)
      have q7 : wr.cell? ⟨b, off + k * 13 + 7, none⟩ = some (.slice fa fn fc) := q 7 (by decide)
      have q8 : wr.cell? ⟨b, off + k * 13 + 8, none⟩ = some (.slice ma mn' mc) := q 8 (by decide)
      have q9 : wr.cell? ⟨b, off + k * 13 + 9, none⟩ = some (.slice ya yn yc) := q 9 (by decide)
      have q10 : wr.cell? ⟨b, off + k * 13 + 10, none⟩ = some (.slice sa sn sc) := q 10 (by decide)
      have q11 : wr.cell? ⟨b, off + k * 13 + 11, none⟩ = some (.slice ia inn ic) := q 11 (by decide)
      have q12 : wr.cell? ⟨b, off + k * 13 + 12, none⟩ = some (.int .i64 at_) := q 12 (by decide)
      obtain ⟨W2, hW2⟩ : ∃ W2, wr.alloc (.cells #[.string tnm, .int .i64 kd, .int .i64 fl, .int .i64 tow, .slice ta tn tc, .slice pa pn pc, .slice qa qn qc, .slice fa fn fc, .slice ma mn' mc, .slice ya yn yc, .slice sa sn sc, .slice ia inn ic, .int .i64 at_] 36) = W2 := ⟨_, rfl⟩
      have hb2 : Below w1.heap.size w1 W2 := by rw [← hW2]; exact HW.out.alloc HW.out.size _
      have hR2 : W2.heap[wr.heap.size]? = some (.cells #[.string tnm, .int .i64 kd, .int .i64 fl, .int .i64 tow, .slice ta tn tc, .slice pa pn pc, .slice qa qn qc, .slice fa fn fc, .slice ma mn' mc, .slice ya yn yc, .slice sa sn sc, .slice ia inn ic, .int .i64 at_] 36 (0, 0)) := by rw [← hW2]; exact heap_alloc_new wr _
      have HB2 := Lib.hid hb2
      have HR2 := Lib.hid hR2
      have HW2 := Lib.hid hW2
      clear q hel hr ht hbw hbs hb2 hR2 hW2
      go_upto_region 5 with fail
      rw [HW2.out]
      clear q0 q1 q2 q3 q4 q5 q6 q7 q8 q9 q10 q11 q12 p0
      have r0 := blk_cell HR2.out 0
      have r1 := blk_cell HR2.out 1
      have r3 := blk_cell HR2.out 3
      obtain ⟨y1, hy1⟩ : ∃ y, (tow == ow) = y := ⟨_, rfl⟩
      obtain ⟨y2, hy2⟩ : ∃ y, decide (tnm.toList = nm.toList) = y := ⟨_, rfl⟩
      obtain ⟨y3, hy3⟩ : ∃ y, ((kd == 2) == ob) = y := ⟨_, rfl⟩
      have HY : Hid (P k = (y1 && y2 && y3)) := Lib.hid (by rw [HPK.out]; unfold fits; simp only; rw [hy1, hy2, hy3])
      cases y1 with
      | false =>
        go_wp2
        go_roundg m
        case measure => omega
        case rel => exact ⟨k + 1, by omega, by omega, by go_num, Lib.hid (by rw [HS.out, fnd_no HY.out hlt]), HB2⟩
      | true =>
      cases y2 with
      | false =>
        have hp2 : ¬ tnm.toList = nm.toList := by simpa using hy2
        clear hy2
        go_wp2
        go_roundg m
        case measure => omega
        case rel => exact ⟨k + 1, by omega, by omega, by go_num, Lib.hid (by rw [HS.out, fnd_no HY.out hlt]), HB2⟩
      | true =>
      have hp2 : tnm.toList = nm.toList := by simpa using hy2
      clear hy2
      cases y3 with
      | false =>
        go_wp2
        go_roundg m
        case measure => omega
        case rel => exact ⟨k + 1, by omega, by omega, by go_num, Lib.hid (by rw [HS.out, fnd_no HY.out hlt]), HB2⟩
      | true =>
        go_wp2
        go_ret
        exact ⟨by rw [HS.out, fnd_yes HY.out hlt]; rfl, HB1.out.trans (HB2.out.mono HB1.out.size)⟩
    · have hke : n - k = 0 := by omega
      have HE : Hid (R = -1) := Lib.hid (by rw [HS.out, hke, fnd])
      clear hke
      go_wp2
      go_ret
      exact ⟨by rw [HE.out]; rfl, HB1.out.trans (HW.out.mono HB1.out.size)⟩
end Go.Proofs.YtlipfgdjbimfjaaGreatDoor
