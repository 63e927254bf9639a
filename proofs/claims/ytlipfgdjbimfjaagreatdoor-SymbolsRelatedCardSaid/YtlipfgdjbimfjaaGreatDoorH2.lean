/- Few, told with sizes: true says that each class's lists of numbers have at most 200 entries. -/
import Derived.Test.YtlipfgdjbimfjaaGreatDoorH1
namespace Go.Proofs.YtlipfgdjbimfjaaGreatDoor
open Go.RowKit Go.Shelf Go.Sort
set_option maxRecDepth 100000

variable {H : Type} {enc : TypeId × Value → H}
/-- A class's lists of numbers are short. -/
def SmC (cs : List Value) : Prop := ∃ t : ClD, cs = t.cells ∧ t.tn + t.qn + t.fn + t.mn + t.yn ≤ 200
/-- What Few returns. -/
def FewS (nc : Nat) (dc : Nat → List Value) (w : World) (e : Ending) (w' : World) : Prop := ∃ b, e = .returned (.bool b) ∧ Below w.heap.size w w' ∧ (b = true → nc ≤ 25 ∧ ∀ i, i < nc → SmC (dc i))

set_option linter.unusedSimpArgs false in
set_option maxHeartbeats 8000000 in
theorem few_sizes (W0 w : World) (ca : Option Addr) (nc cc : Nat) (dc : Nat → List Value) (hnc : nc ≤ 17592186044416) (hdc : ∀ i, i < nc → (dc i).length = 13 ∧ Rv enc Tryz.prog W0 36 (dc i)) (hlc : ∀ (w : World) (pl : Nat), Below W0.heap.size W0 w → W0.heap.size ≤ pl → LS 13 w pl (.slice ca nc cc) nc dc) (mv fv tv yv : Value) (mn : Int) (hm : Rv enc Tryz.prog W0 23 [mv]) (hf : Rv enc Tryz.prog W0 24 [fv]) (ht : Rv enc Tryz.prog W0 25 [tv]) (hy : Rv enc Tryz.prog W0 26 [yv])
    (hb : Below W0.heap.size W0 w) : ∃ nm nf nt ny : Nat, (∃ a c, mv = .slice a nm c) ∧ (∃ a c, fv = .slice a nf c) ∧ (∃ a c, tv = .slice a nt c) ∧ (∃ a c, yv = .slice a ny c) ∧
    Calls Tryz.prog 9 #[.agg #[.slice ca nc cc, mv, fv, tv, yv, .int .i64 mn]] w (FewS nc dc w) := by
  obtain ⟨nm, dm, hnm, hdm, ⟨ma, mc, rfl⟩, hlm⟩ := ls_old Tryz.underlying23 cells63 (by decide) bytes63 hm
  obtain ⟨nf, df, hnf, hdf, ⟨fa, fc, rfl⟩, hlf⟩ := ls_old Tryz.underlying24 cells72 (by decide) bytes72 hf
  obtain ⟨nt, dt, hnt, hdt, ⟨ta, tc, rfl⟩, hlt'⟩ := ls_old Tryz.underlying25 cells74 (by decide) bytes74 ht
  obtain ⟨ny, dy, hny, hdy, hly⟩ := lm_old hy
  obtain ⟨ya, ny', yc, hyv, -⟩ := hy.slice Tryz.underlying26 cells77 (by decide)
  injection hyv with hyv _
  subst hyv
  obtain rfl : ny = ny' := by
    obtain ⟨a, cap, he, -⟩ := hly W0 W0.heap.size (Below.refl _ _) (Nat.le_refl _)
    injection he with e1 e2 e3
    exact e2.symm
  refine ⟨nm, nf, nt, ny, ⟨_, _, rfl⟩, ⟨_, _, rfl⟩, ⟨_, _, rfl⟩, ⟨_, _, rfl⟩, ?_⟩
  obtain ⟨bx, hbx⟩ : ∃ bx : Array Value, bx = #[.slice ca nc cc, .slice ma nm mc, .slice fa nf fc, .slice ta nt tc, .slice ya ny yc, .int .i64 mn] := ⟨_, rfl⟩
  obtain ⟨w1, hw1⟩ : ∃ w1, w.alloc (.cells #[.slice ca nc cc, .slice ma nm mc, .slice fa nf fc, .slice ta nt tc, .slice ya ny yc, .int .i64 mn] 28) = w1 := ⟨_, rfl⟩
  have hz1 : w1.heap.size = w.heap.size + 1 := by rw [← hw1]; exact World.size_alloc _ _
  obtain ⟨w2, hw2⟩ : ∃ w2, w1.alloc (.cells #[.int .i64 3000] 3) = w2 := ⟨_, rfl⟩
  have hb1 : Below w.heap.size w w1 := by rw [← hw1]; exact (Below.refl _ _).alloc (Nat.le_refl _) _
  have hb2 : Below w.heap.size w w2 := by rw [← hw2]; exact hb1.alloc (by omega) _
  have hbx1 : w1.heap[w.heap.size]? = some (.cells #[.slice ca nc cc, .slice ma nm mc, .slice fa nf fc, .slice ta nt tc, .slice ya ny yc, .int .i64 mn] 28 (0, 0)) := by rw [← hw1]; exact heap_alloc_new w _
  have hF0 : FS W0 w2 (w.heap.size + 1) w.heap.size bx 3000 w2 := by
    refine ⟨hb.trans (hb2.mono hb.size), ?_, ?_, World.grownBy.refl _ _⟩
    · rw [← hw2, ← hz1]; exact heap_alloc_new w1 _
    · rw [← hw2, Below.heap_alloc _ _ _ (by omega), hbx]; exact hbx1
  obtain ⟨pl, hpl⟩ : ∃ pl, pl = w.heap.size + 1 := ⟨_, rfl⟩
  obtain ⟨B, hB⟩ : ∃ B, B = w.heap.size := ⟨_, rfl⟩
  have hpW : W0.heap.size ≤ pl := by have := hb.size; omega
  have hBp : B ≠ pl := by omega
  have p0 := blk_cell hbx1 0
  have p1 := blk_cell hbx1 1
  have p2 := blk_cell hbx1 2
  have p3 := blk_cell hbx1 3
  have p4 := blk_cell hbx1 4
  have HDC := Lib.hid hdc
  have HDM := Lib.hid hdm
  have HDF := Lib.hid hdf
  have HDT := Lib.hid hdt
  have HDY := Lib.hid hdy
  have HLC := Lib.hid (fun w hw => hlc w pl hw hpW)
  have HLM := Lib.hid (fun w hw => hlm w pl hw hpW)
  have HLF := Lib.hid (fun w hw => hlf w pl hw hpW)
  have HLT := Lib.hid (fun w hw => hlt' w pl hw hpW)
  have HLY := Lib.hid (fun w hw => hly w pl hw hpW)
  have HW1 := Lib.hid hw1
  have HW2 := Lib.hid hw2
  have HB1 := Lib.hid hb1
  have HB2 := Lib.hid hb2
  have HZ1 := Lib.hid hz1
  have HPL := Lib.hid hpl
  have HBE := Lib.hid hB
  have HPW := Lib.hid hpW
  have HBP := Lib.hid hBp
  have HBX := Lib.hid hbx
  have HF0 : Hid (FS W0 w2 pl B bx 3000 w2) := Lib.hid (by rw [hpl, hB]; exact hF0)
  -- what is left of every ending
  have fin : ∀ (b : Bool) (z : Int) (wr : World), Hid (FS W0 w2 pl B bx z wr) → (b = true → nc ≤ 25 ∧ ∀ i, i < nc → SmC (dc i)) → FewS nc dc w (.returned (.bool b)) wr := fun b z wr h hb' =>
    ⟨b, rfl, HB2.out.grown h.out.gr HB2.out.size (fun k hk => by injection hk; have := HPL.out; omega), hb'⟩
  have FIN := Lib.hid fin
  clear hw1 hz1 hw2 hb1 hb2 hF0 hbx hdc hdm hdf hdt hdy hlc hlm hlf hlt' hly hpl hB hpW hBp hb hm hf ht hy fin
  go_enter Tryz.func9, Tryz.ntmps9
  go_upto_region 1 with fail
  rw [HW1.out]
  clear hbx1
  by_cases h0 : 25 < (nc : Int)
  · have d0 : decide (25 < (nc : Int)) = true := by simpa using h0
    go_wp2
    go_ret
    exact ⟨false, rfl, HB1.out, fun h => by cases h⟩
  have d0 : decide (25 < (nc : Int)) = false := by simpa using h0
  by_cases h1 : 60 < (nm : Int)
  · have d1 : decide (60 < (nm : Int)) = true := by simpa using h1
    go_wp2
    go_ret
    exact ⟨false, rfl, HB1.out, fun h => by cases h⟩
  have d1 : decide (60 < (nm : Int)) = false := by simpa using h1
  by_cases h2 : 60 < (nf : Int)
  · have d2 : decide (60 < (nf : Int)) = true := by simpa using h2
    go_wp2
    go_ret
    exact ⟨false, rfl, HB1.out, fun h => by cases h⟩
  have d2 : decide (60 < (nf : Int)) = false := by simpa using h2
  by_cases h3 : 60 < (nt : Int)
  · have d3 : decide (60 < (nt : Int)) = true := by simpa using h3
    go_wp2
    go_ret
    exact ⟨false, rfl, HB1.out, fun h => by cases h⟩
  have d3 : decide (60 < (nt : Int)) = false := by simpa using h3
  by_cases h4 : 60 < (ny : Int)
  · have d4 : decide (60 < (ny : Int)) = true := by simpa using h4
    go_wp2
    go_ret
    exact ⟨false, rfl, HB1.out, fun h => by cases h⟩
  have d4 : decide (60 < (ny : Int)) = false := by simpa using h4
  have HSM := Lib.hid (show nc ≤ 25 ∧ nm ≤ 60 ∧ nf ≤ 60 ∧ nt ≤ 60 ∧ ny ≤ 60 by omega)
  have hwp : w1.heap.size = pl := by rw [HZ1.out, HPL.out]
  clear h0 h1 h2 h3 h4
  go_upto_region 4 with fail
  clear d0 d1 d2 d3 d4 p0 p1 p2 p3 p4
  rw [HW2.out, ← HBE.out]
  clear hwp
  have hbx := HF0.out.box
  rw [HBX.out] at hbx
  have p0 := blk_cell hbx 0
  clear hbx
  go_upto_region 5 with fail
  clear p0
  go_loopg [43] (nc + 1) (fun g y wr => ∃ (k : Nat) (z : Int), k ≤ nc ∧ nc - k < g ∧ y = .int .i64 k ∧ 0 ≤ z ∧ z ≤ 3000 ∧ Hid (FS W0 w2 pl B bx z wr) ∧ Hid (∀ i, i < k → SmC (dc i)))
  case atStart => exact ⟨0, 3000, by omega, by omega, rfl, by omega, by omega, HF0, Lib.hid (fun i hi => by omega)⟩
  case round =>
    obtain ⟨k, z, hk, hgk, rfl, hz0, hz1, HF, HSS⟩ := hrel
    obtain ⟨m, rfl⟩ : ∃ m, gk = m + 1 := ⟨gk - 1, by omega⟩
    by_cases hlt : k < nc
    · obtain ⟨a', cap', he, hr⟩ := HLC.out wr HF.out.bel
      injection he with e1 e2 e3
      subst e1 e3
      obtain ⟨b, off, rfl, hbp, hbs, hel⟩ := hr (by omega)
      obtain ⟨⟨nm', kd, fl, ow, ta', tn, tc', pv, qa, qn, qc, fa', fn, fc', ma', mn', mc', ya', yn, yc', sv, iv, at_⟩, hcs, hok⟩ := rv_class (HDC.out k hlt).2
      obtain ⟨pa, pn, pc, hpv, -⟩ := hok.pv.slice Tryz.underlying33 cells58 (by decide)
      obtain ⟨sa, sn, sc, hsv, -⟩ := hok.sv.slice Tryz.underlying34 cells70 (by decide)
      obtain ⟨ia, inn, ic, hiv, -⟩ := hok.iv.slice Tryz.underlying34 cells70 (by decide)
      injection hpv with hpv _
      injection hsv with hsv _
      injection hiv with hiv _
      simp only at hpv hsv hiv
      subst hpv hsv hiv
      have HOK := Lib.hid hok
      have HCS := Lib.hid hcs
      have q : ∀ j, j < 13 → wr.cell? ⟨b, off + k * 13 + j, none⟩ = _ := fun j hj => hel k hlt j hj
      rw [hcs] at q
      have q0 : wr.cell? ⟨b, off + k * 13, none⟩ = some (.string nm') := q 0 (by decide)
      have q1 : wr.cell? ⟨b, off + k * 13 + 1, none⟩ = some (.int .i64 kd) := q 1 (by decide)
      have q2 : wr.cell? ⟨b, off + k * 13 + 2, none⟩ = some (.int .i64 fl) := q 2 (by decide)
      have q3 : wr.cell? ⟨b, off + k * 13 + 3, none⟩ = some (.int .i64 ow) := q 3 (by decide)
      have q4 : wr.cell? ⟨b, off + k * 13 + 4, none⟩ = some (.slice ta' tn tc') := q 4 (by decide)
      have q5 : wr.cell? ⟨b, off + k * 13 + 5, none⟩ = some (.slice pa pn pc) := q 5 (by decide)
      have q6 : wr.cell? ⟨b, off + k * 13 + 6, none⟩ = some (.slice qa qn qc) := q 6 (by decide)
      have q7 : wr.cell? ⟨b, off + k * 13 + 7, none⟩ = some (.slice fa' fn fc') := q 7 (by decide)
      have q8 : wr.cell? ⟨b, off + k * 13 + 8, none⟩ = some (.slice ma' mn' mc') := q 8 (by decide)
      have q9 : wr.cell? ⟨b, off + k * 13 + 9, none⟩ = some (.slice ya' yn yc') := q 9 (by decide)
      have q10 : wr.cell? ⟨b, off + k * 13 + 10, none⟩ = some (.slice sa sn sc) := q 10 (by decide)
      have q11 : wr.cell? ⟨b, off + k * 13 + 11, none⟩ = some (.slice ia inn ic) := q 11 (by decide)
      have q12 : wr.cell? ⟨b, off + k * 13 + 12, none⟩ = some (.int .i64 at_) := q 12 (by decide)
      obtain ⟨W1, hW1⟩ : ∃ W1, wr.alloc (.cells #[.string nm', .int .i64 kd, .int .i64 fl, .int .i64 ow, .slice ta' tn tc', .slice pa pn pc, .slice qa qn qc, .slice fa' fn fc', .slice ma' mn' mc', .slice ya' yn yc', .slice sa sn sc, .slice ia inn ic, .int .i64 at_] 36) = W1 := ⟨_, rfl⟩
      have hF1 : FS W0 w2 pl B bx z W1 := by rw [← hW1]; exact HF.out.alloc HPW.out HBP.out _
      have hR1 : W1.heap[wr.heap.size]? = some (.cells #[.string nm', .int .i64 kd, .int .i64 fl, .int .i64 ow, .slice ta' tn tc', .slice pa pn pc, .slice qa qn qc, .slice fa' fn fc', .slice ma' mn' mc', .slice ya' yn yc', .slice sa sn sc, .slice ia inn ic, .int .i64 at_] 36 (0, 0)) := by rw [← hW1]; exact heap_alloc_new wr _
      have hRp : wr.heap.size ≠ pl := by have := (Array.getElem?_eq_some_iff.1 HF.out.lf).1; omega
      have HR1 := Lib.hid hR1
      have HF1 := Lib.hid hF1
      have HW1' := Lib.hid hW1
      have HRP := Lib.hid hRp
      clear q hel hr hcs hok hW1 hF1 hR1 hRp
      go_upto_region 7 with fail
      rw [HW1'.out]
      clear q0 q1 q2 q3 q4 q5 q6 q7 q8 q9 q10 q11 q12
      have r0 := blk_cell HR1.out 0
      have r4 := blk_cell HR1.out 4
      have r5 := blk_cell HR1.out 5
      have r6 := blk_cell HR1.out 6
      have r7 := blk_cell HR1.out 7
      have r8 := blk_cell HR1.out 8
      have r9 := blk_cell HR1.out 9
      have r10 := blk_cell HR1.out 10
      have r11 := blk_cell HR1.out 11
      by_cases h1 : 100 < (nm'.size : Int)
      · have d1 : decide (100 < (nm'.size : Int)) = true := by simpa using h1
        go_wp2
        go_ret
        exact FIN.out _ _ _ HF1 (fun h => by cases h)
      have d1 : decide (100 < (nm'.size : Int)) = false := by simpa using h1
      have hs1 : IntKind.i64.wrap ((tn : Int) + qn) = tn + qn := IntWalk.i64_in _ (by have := HOK.out.tn; have := HOK.out.qn; simp only at *; omega)
      have hs2 : IntKind.i64.wrap ((tn : Int) + qn + fn) = tn + qn + fn := IntWalk.i64_in _ (by have := HOK.out.tn; have := HOK.out.qn; have := HOK.out.fn; simp only at *; omega)
      have hs3 : IntKind.i64.wrap ((tn : Int) + qn + fn + mn') = tn + qn + fn + mn' := IntWalk.i64_in _ (by have := HOK.out.tn; have := HOK.out.qn; have := HOK.out.fn; have := HOK.out.mn; simp only at *; omega)
      have hs4 : IntKind.i64.wrap ((tn : Int) + qn + fn + mn' + yn) = tn + qn + fn + mn' + yn := IntWalk.i64_in _ (by have := HOK.out.tn; have := HOK.out.qn; have := HOK.out.fn; have := HOK.out.mn; have := HOK.out.yn; simp only at *; omega)
      by_cases h2 : 200 < (tn : Int) + qn + fn + mn' + yn
      · have d2 : decide (200 < (tn : Int) + qn + fn + mn' + yn) = true := by simpa using h2
        go_wp2
        go_ret
        exact FIN.out _ _ _ HF1 (fun h => by cases h)
      have d2 : decide (200 < (tn : Int) + qn + fn + mn' + yn) = false := by simpa using h2
      have HSK : Hid (SmC (dc k)) := Lib.hid ⟨_, HCS.out, by simp only; omega⟩
      obtain ⟨b1, x1, e1, e2, e3, c1⟩ : ∃ (b : Bool) (x' : Int), -1 ≤ x' ∧ x' ≤ z ∧ (b = true → 0 ≤ x') ∧ ∀ w : World, Below W0.heap.size W0 w → Lf w pl z → Calls Tryz.prog 30 #[.slice pa pn pc, .int .i64 1, .pointer (some ⟨pl, 0, none⟩)] w (TX b x' pl w) := xtypes_old (enc := enc) W0 pl HPW.out _ HOK.out.pv z hz0 hz1
      have C1 := Lib.hid c1
      clear c1
      go_wp2_with fail
      refine (C1.out _ HF1.out.bel HF1.out.lf).mono ?_
      rintro e w3 ⟨rfl, h3, h7⟩
      have HF3 := Lib.hid (HF1.out.grown HPW.out HBP.out h7 h3)
      have hR3 := (h7.block _ (Array.getElem?_eq_some_iff.1 HR1.out).1 (fun e => HRP.out (by injection e))).trans HR1.out
      have HR3 := Lib.hid hR3
      clear C1 h3 h7 hR3 r0 r4 r5 r6 r7 r8 r9 r10 r11
      have r10 := blk_cell HR3.out 10
      have r11 := blk_cell HR3.out 11
      cases b1 with
      | false =>
        go_wp2
        go_ret
        exact FIN.out _ _ _ HF3 (fun h => by cases h)
      | true =>
      obtain ⟨b2, x2, f1, f2, f3, c2⟩ : ∃ (b : Bool) (x' : Int), -1 ≤ x' ∧ x' ≤ x1 ∧ (b = true → 0 ≤ x') ∧ ∀ w : World, Below W0.heap.size W0 w → Lf w pl x1 → Calls Tryz.prog 31 #[.slice sa sn sc, .int .i64 1, .pointer (some ⟨pl, 0, none⟩)] w (TX b x' pl w) := xtrees_old (enc := enc) W0 pl HPW.out _ HOK.out.sv x1 (e3 (by trivial)) (by omega)
      have C2 := Lib.hid c2
      clear c2
      go_wp2_with fail
      refine (C2.out _ HF3.out.bel HF3.out.lf).mono ?_
      rintro e w4 ⟨rfl, h3, h7⟩
      have HF4 := Lib.hid (HF3.out.grown HPW.out HBP.out h7 h3)
      have hR4 := (h7.block _ (Array.getElem?_eq_some_iff.1 HR3.out).1 (fun e => HRP.out (by injection e))).trans HR3.out
      have HR4 := Lib.hid hR4
      clear C2 h3 h7 hR4 r10 r11
      have r11 := blk_cell HR4.out 11
      cases b2 with
      | false =>
        go_wp2
        go_ret
        exact FIN.out _ _ _ HF4 (fun h => by cases h)
      | true =>
      obtain ⟨b3, x3, g1, g2, g3, c3⟩ : ∃ (b : Bool) (x' : Int), -1 ≤ x' ∧ x' ≤ x2 ∧ (b = true → 0 ≤ x') ∧ ∀ w : World, Below W0.heap.size W0 w → Lf w pl x2 → Calls Tryz.prog 31 #[.slice ia inn ic, .int .i64 1, .pointer (some ⟨pl, 0, none⟩)] w (TX b x' pl w) := xtrees_old (enc := enc) W0 pl HPW.out _ HOK.out.iv x2 (f3 (by trivial)) (by omega)
      have C3 := Lib.hid c3
      clear c3
      go_wp2_with fail
      refine (C3.out _ HF4.out.bel HF4.out.lf).mono ?_
      rintro e w5 ⟨rfl, h3, h7⟩
      have HF5 := Lib.hid (HF4.out.grown HPW.out HBP.out h7 h3)
      clear C3 h3 h7 r11
      cases b3 with
      | false =>
        go_wp2
        go_ret
        exact FIN.out _ _ _ HF5 (fun h => by cases h)
      | true =>
        go_wp2
        go_roundg m
        case measure => omega
        case rel => exact ⟨k + 1, x3, by omega, by omega, by go_num, g3 (by trivial), by omega, HF5, Lib.hid (fun i hi => by
          by_cases h : i < k
          · exact HSS.out i h
          · obtain rfl : i = k := by omega
            exact HSK.out)⟩
    · have HSC : Hid (∀ i, i < nc → SmC (dc i)) := Lib.hid (fun i hi => HSS.out i (by omega))
      have hbx := HF.out.box
      rw [HBX.out] at hbx
      have p1 := blk_cell hbx 1
      clear hbx
      go_upto_region 11 with fail
      clear p1
      go_loopg [95] (nm + 1) (fun g y wr => ∃ (k : Nat) (z : Int), k ≤ nm ∧ nm - k < g ∧ y = .int .i64 k ∧ 0 ≤ z ∧ z ≤ 3000 ∧ Hid (FS W0 w2 pl B bx z wr))
      case atStart => exact ⟨0, z, by omega, by omega, rfl, hz0, hz1, HF⟩
      case round =>
        clear HF hz0 hz1 hk hgk hlt
        obtain ⟨k, z, hk, hgk, rfl, hz0, hz1, HF⟩ := hrel
        obtain ⟨m, rfl⟩ : ∃ m, gk = m + 1 := ⟨gk - 1, by omega⟩
        by_cases hlt : k < nm
        · obtain ⟨a', cap', he, hr⟩ := HLM.out wr HF.out.bel
          injection he with e1 e2 e3
          subst e1 e3
          obtain ⟨b, off, rfl, hbp, hbs, hel⟩ := hr (by omega)
          obtain ⟨⟨nm', ow, fl, ta', tn, tc', pn, lv, ⟨ak, ay, an, au, av⟩, bv, at_⟩, hcs, hok⟩ := rv_method (HDM.out k hlt).2
          obtain ⟨la, ln, lc, hlv, -⟩ := hok.lv.slice Tryz.underlying60 cells126 (by decide)
          obtain ⟨xa, xn, xc, hav, -⟩ := hok.r.args.slice Tryz.underlying33 cells58 (by decide)
          injection hlv with hlv _
          injection hav with hav _
          simp only at hlv hav
          subst hlv hav
          have HOK := Lib.hid hok
          have q : ∀ j, j < 13 → wr.cell? ⟨b, off + k * 13 + j, none⟩ = _ := fun j hj => hel k hlt j hj
          rw [hcs] at q
          obtain ⟨bp, hbv⟩ : ∃ bp, bv = .pointer bp := by
            rcases hok.bv.ptr Tryz.underlying61 cells70 (by decide) with h | ⟨b2, o2, h, -⟩
            · injection h with h _; exact ⟨_, h⟩
            · injection h with h _; exact ⟨_, h⟩
          subst hbv
          have q0 : wr.cell? ⟨b, off + k * 13, none⟩ = some (.string nm') := q 0 (by decide)
          have q1 : wr.cell? ⟨b, off + k * 13 + 1, none⟩ = some (.int .i64 ow) := q 1 (by decide)
          have q2 : wr.cell? ⟨b, off + k * 13 + 2, none⟩ = some (.int .i64 fl) := q 2 (by decide)
          have q3 : wr.cell? ⟨b, off + k * 13 + 3, none⟩ = some (.slice ta' tn tc') := q 3 (by decide)
          have q4 : wr.cell? ⟨b, off + k * 13 + 4, none⟩ = some (.int .i64 pn) := q 4 (by decide)
          have q5 : wr.cell? ⟨b, off + k * 13 + 5, none⟩ = some (.slice la ln lc) := q 5 (by decide)
          have q6 : wr.cell? ⟨b, off + k * 13 + 6, none⟩ = some (.int .i64 ak) := q 6 (by decide)
          have q7 : wr.cell? ⟨b, off + k * 13 + 7, none⟩ = some (.int .i64 ay) := q 7 (by decide)
          have q8 : wr.cell? ⟨b, off + k * 13 + 8, none⟩ = some (.string an) := q 8 (by decide)
          have q9 : wr.cell? ⟨b, off + k * 13 + 9, none⟩ = some (.int .i64 au) := q 9 (by decide)
          have q10 : wr.cell? ⟨b, off + k * 13 + 10, none⟩ = some (.slice xa xn xc) := q 10 (by decide)
          have q11 : wr.cell? ⟨b, off + k * 13 + 11, none⟩ = some (.pointer bp) := q 11 (by decide)
          have q12 : wr.cell? ⟨b, off + k * 13 + 12, none⟩ = some (.int .i64 at_) := q 12 (by decide)
          obtain ⟨W1, hW1⟩ : ∃ W1, wr.alloc (.cells #[.string nm', .int .i64 ow, .int .i64 fl, .slice ta' tn tc', .int .i64 pn, .slice la ln lc, .int .i64 ak, .int .i64 ay, .string an, .int .i64 au, .slice xa xn xc, .pointer bp, .int .i64 at_] 63) = W1 := ⟨_, rfl⟩
          have hF1 : FS W0 w2 pl B bx z W1 := by rw [← hW1]; exact HF.out.alloc HPW.out HBP.out _
          have hR1 : W1.heap[wr.heap.size]? = some (.cells #[.string nm', .int .i64 ow, .int .i64 fl, .slice ta' tn tc', .int .i64 pn, .slice la ln lc, .int .i64 ak, .int .i64 ay, .string an, .int .i64 au, .slice xa xn xc, .pointer bp, .int .i64 at_] 63 (0, 0)) := by rw [← hW1]; exact heap_alloc_new wr _
          have hRp : wr.heap.size ≠ pl := by have := (Array.getElem?_eq_some_iff.1 HF.out.lf).1; omega
          have HR1 := Lib.hid hR1
          have HF1 := Lib.hid hF1
          have HW1' := Lib.hid hW1
          have HRP := Lib.hid hRp
          clear q hel hr hcs hok hW1 hF1 hR1 hRp
          go_upto_region 13 with fail
          rw [HW1'.out]
          clear q0 q1 q2 q3 q4 q5 q6 q7 q8 q9 q10 q11 q12
          have r0 := blk_cell HR1.out 0
          have r3 := blk_cell HR1.out 3
          have r5 := blk_cell HR1.out 5
          by_cases h1 : 100 < (nm'.size : Int)
          · have d1 : decide (100 < (nm'.size : Int)) = true := by simpa using h1
            go_wp2
            go_ret
            exact FIN.out _ _ _ HF1 (fun h => by cases h)
          have d1 : decide (100 < (nm'.size : Int)) = false := by simpa using h1
          by_cases h2 : 50 < (tn : Int)
          · have d2 : decide (50 < (tn : Int)) = true := by simpa using h2
            go_wp2
            go_ret
            exact FIN.out _ _ _ HF1 (fun h => by cases h)
          have d2 : decide (50 < (tn : Int)) = false := by simpa using h2
          obtain ⟨b1, x1, e1, e2, e3, c1⟩ := xlocals_old (enc := enc) W0 pl HPW.out _ HOK.out.lv z hz0 hz1
          have C1 := Lib.hid c1
          clear c1
          go_wp2_with fail
          refine (C1.out _ HF1.out.bel HF1.out.lf).mono ?_
          rintro e w3 ⟨rfl, h3, h7⟩
          have HF3 := Lib.hid (HF1.out.grown HPW.out HBP.out h7 h3)
          have hR3 := (h7.block _ (Array.getElem?_eq_some_iff.1 HR1.out).1 (fun e => HRP.out (by injection e))).trans HR1.out
          have HR3 := Lib.hid hR3
          clear C1 h3 h7 hR3 r0 r3 r5
          have r6 := blk_cell HR3.out 6
          have r7 := blk_cell HR3.out 7
          have r8 := blk_cell HR3.out 8
          have r9 := blk_cell HR3.out 9
          have r10 := blk_cell HR3.out 10
          cases b1 with
          | false =>
            go_wp2
            go_ret
            exact FIN.out _ _ _ HF3 (fun h => by cases h)
          | true =>
          obtain ⟨b2, x2, f1, f2, f3, c2⟩ := xtypes_one (enc := enc) W0 pl HPW.out ⟨ak, ay, an, au, .slice xa xn xc⟩ HOK.out.r x1 (e3 (by trivial)) (by omega)
          have C2 := Lib.hid c2
          clear c2
          have hA3 := heap_alloc_new w3 (.cells #[.int .i64 ak, .int .i64 ay, .string an, .int .i64 au, .slice xa xn xc] 58)
          have HA3 := Lib.hid hA3
          have HFA3 := Lib.hid (HF3.out.alloc HPW.out HBP.out (.cells #[.int .i64 ak, .int .i64 ay, .string an, .int .i64 au, .slice xa xn xc] 58))
          clear hA3
          go_wp2_with fail
          refine (C2.out _ _ HA3.out (by have := (Array.getElem?_eq_some_iff.1 HF3.out.lf).1; omega) HFA3.out.bel HFA3.out.lf).mono ?_
          rintro e w4 ⟨rfl, h3, h7⟩
          have HF4 := Lib.hid (HFA3.out.grown HPW.out HBP.out h7 h3)
          have hR4 := (h7.block _ (by have := (Array.getElem?_eq_some_iff.1 HR3.out).1; simp; omega) (fun e => HRP.out (by injection e))).trans ((Below.heap_alloc _ _ _ (Array.getElem?_eq_some_iff.1 HR3.out).1).trans HR3.out)
          have HR4 := Lib.hid hR4
          clear C2 h3 h7 hR4 r6 r7 r8 r9 r10 HA3 HFA3
          have r11 := blk_cell HR4.out 11
          cases b2 with
          | false =>
            go_wp2
            go_ret
            exact FIN.out _ _ _ HF4 (fun h => by cases h)
          | true =>
          rcases HOK.out.bv.ptr Tryz.underlying61 cells70 (by decide) with h | ⟨b2, o2, h, hb2s, cs', hl', hcs', hrv'⟩
          · injection h with h _
            injection h with h
            subst h
            go_wp2
            go_roundg m
            case measure => omega
            case rel => exact ⟨k + 1, x2, by omega, by omega, by go_num, f3 (by trivial), by omega, HF4⟩
          · injection h with h _
            injection h with h
            subst h
            obtain ⟨⟨kd', sy', nu', tx', ak', ay', an', au', av', tv', kv', at'⟩, rfl, htr⟩ := rv_tree hrv'
            have HTR := Lib.hid htr
            have q : ∀ j, j < 12 → w4.cell? ⟨b2, o2 + j, none⟩ = _ := fun j hj => (HF4.out.bel.cell (p := ⟨b2, o2 + j, none⟩) hb2s).trans (hcs' j hj)
            obtain ⟨ya', yn', yc', hav', -⟩ := htr.ty.args.slice Tryz.underlying33 cells58 (by decide)
            obtain ⟨za', zn', zc', htv', -⟩ := htr.tys.slice Tryz.underlying33 cells58 (by decide)
            obtain ⟨ua', un', uc', hkv', -⟩ := htr.kids.slice Tryz.underlying34 cells70 (by decide)
            injection hav' with hav' _
            injection htv' with htv' _
            injection hkv' with hkv' _
            simp only at hav' htv' hkv'
            subst hav' htv' hkv'
            have q0 : w4.cell? ⟨b2, o2, none⟩ = some (.int .i64 kd') := q 0 (by decide)
            have q1 : w4.cell? ⟨b2, o2 + 1, none⟩ = some (.int .i64 sy') := q 1 (by decide)
            have q2 : w4.cell? ⟨b2, o2 + 2, none⟩ = some (.int .i64 nu') := q 2 (by decide)
            have q3 : w4.cell? ⟨b2, o2 + 3, none⟩ = some (.string tx') := q 3 (by decide)
            have q4 : w4.cell? ⟨b2, o2 + 4, none⟩ = some (.int .i64 ak') := q 4 (by decide)
            have q5 : w4.cell? ⟨b2, o2 + 5, none⟩ = some (.int .i64 ay') := q 5 (by decide)
            have q6 : w4.cell? ⟨b2, o2 + 6, none⟩ = some (.string an') := q 6 (by decide)
            have q7 : w4.cell? ⟨b2, o2 + 7, none⟩ = some (.int .i64 au') := q 7 (by decide)
            have q8 : w4.cell? ⟨b2, o2 + 8, none⟩ = some (.slice ya' yn' yc') := q 8 (by decide)
            have q9 : w4.cell? ⟨b2, o2 + 9, none⟩ = some (.slice za' zn' zc') := q 9 (by decide)
            have q10 : w4.cell? ⟨b2, o2 + 10, none⟩ = some (.slice ua' un' uc') := q 10 (by decide)
            have q11 : w4.cell? ⟨b2, o2 + 11, none⟩ = some (.int .i64 at') := q 11 (by decide)
            clear q htr hrv' hcs' hl'
            obtain ⟨b3, x3, g1, g2, g3, c3⟩ := xtrees_one (enc := enc) W0 pl HPW.out ⟨kd', sy', nu', tx', ak', ay', an', au', .slice ya' yn' yc', .slice za' zn' zc', .slice ua' un' uc', at'⟩ HTR.out x2 (f3 (by trivial)) (by omega)
            have C3 := Lib.hid c3
            clear c3
            have hA4 := heap_alloc_new w4 (.cells #[.int .i64 kd', .int .i64 sy', .int .i64 nu', .string tx', .int .i64 ak', .int .i64 ay', .string an', .int .i64 au', .slice ya' yn' yc', .slice za' zn' zc', .slice ua' un' uc', .int .i64 at'] 70)
            have HA4 := Lib.hid hA4
            have HFA4 := Lib.hid (HF4.out.alloc HPW.out HBP.out (.cells #[.int .i64 kd', .int .i64 sy', .int .i64 nu', .string tx', .int .i64 ak', .int .i64 ay', .string an', .int .i64 au', .slice ya' yn' yc', .slice za' zn' zc', .slice ua' un' uc', .int .i64 at'] 70))
            clear hA4
            go_wp2_with fail
            refine (C3.out _ _ HA4.out (by have := (Array.getElem?_eq_some_iff.1 HF4.out.lf).1; omega) HFA4.out.bel HFA4.out.lf).mono ?_
            rintro e w5 ⟨rfl, h3, h7⟩
            have HF5 := Lib.hid (HFA4.out.grown HPW.out HBP.out h7 h3)
            clear C3 h3 h7 HA4 HFA4 q0 q1 q2 q3 q4 q5 q6 q7 q8 q9 q10 q11 r11
            cases b3 with
            | false =>
              go_wp2
              go_ret
              exact FIN.out _ _ _ HF5 (fun h => by cases h)
            | true =>
              go_wp2
              go_roundg m
              case measure => omega
              case rel => exact ⟨k + 1, x3, by omega, by omega, by go_num, g3 (by trivial), by omega, HF5⟩
        · have hbx := HF.out.box
          rw [HBX.out] at hbx
          have p2 := blk_cell hbx 2
          clear hbx
          go_upto_region 17 with fail
          clear p2
          go_loopg [140] (nf + 1) (fun g y wr => ∃ (k : Nat) (z : Int), k ≤ nf ∧ nf - k < g ∧ y = .int .i64 k ∧ 0 ≤ z ∧ z ≤ 3000 ∧ Hid (FS W0 w2 pl B bx z wr))
          case atStart => exact ⟨0, z, by omega, by omega, rfl, hz0, hz1, HF⟩
          case round =>
            clear HF hz0 hz1 hk hgk hlt
            obtain ⟨k, z, hk, hgk, rfl, hz0, hz1, HF⟩ := hrel
            obtain ⟨m, rfl⟩ : ∃ m, gk = m + 1 := ⟨gk - 1, by omega⟩
            by_cases hlt : k < nf
            · obtain ⟨a', cap', he, hr⟩ := HLF.out wr HF.out.bel
              injection he with e1 e2 e3
              subst e1 e3
              obtain ⟨b, off, rfl, hbp, hbs, hel⟩ := hr (by omega)
              obtain ⟨⟨nm', ow, fl, ⟨ak, ay, an, au, av⟩, at_⟩, hcs, hok⟩ := rv_field (HDF.out k hlt).2
              obtain ⟨xa, xn, xc, hav, -⟩ := hok.t.args.slice Tryz.underlying33 cells58 (by decide)
              injection hav with hav _
              simp only at hav
              subst hav
              have HOK := Lib.hid hok
              have q : ∀ j, j < 9 → wr.cell? ⟨b, off + k * 9 + j, none⟩ = _ := fun j hj => hel k hlt j hj
              rw [hcs] at q
              have q0 : wr.cell? ⟨b, off + k * 9, none⟩ = some (.string nm') := q 0 (by decide)
              have q1 : wr.cell? ⟨b, off + k * 9 + 1, none⟩ = some (.int .i64 ow) := q 1 (by decide)
              have q2 : wr.cell? ⟨b, off + k * 9 + 2, none⟩ = some (.int .i64 fl) := q 2 (by decide)
              have q3 : wr.cell? ⟨b, off + k * 9 + 3, none⟩ = some (.int .i64 ak) := q 3 (by decide)
              have q4 : wr.cell? ⟨b, off + k * 9 + 4, none⟩ = some (.int .i64 ay) := q 4 (by decide)
              have q5 : wr.cell? ⟨b, off + k * 9 + 5, none⟩ = some (.string an) := q 5 (by decide)
              have q6 : wr.cell? ⟨b, off + k * 9 + 6, none⟩ = some (.int .i64 au) := q 6 (by decide)
              have q7 : wr.cell? ⟨b, off + k * 9 + 7, none⟩ = some (.slice xa xn xc) := q 7 (by decide)
              have q8 : wr.cell? ⟨b, off + k * 9 + 8, none⟩ = some (.int .i64 at_) := q 8 (by decide)
              obtain ⟨W1, hW1⟩ : ∃ W1, wr.alloc (.cells #[.string nm', .int .i64 ow, .int .i64 fl, .int .i64 ak, .int .i64 ay, .string an, .int .i64 au, .slice xa xn xc, .int .i64 at_] 72) = W1 := ⟨_, rfl⟩
              have hF1 : FS W0 w2 pl B bx z W1 := by rw [← hW1]; exact HF.out.alloc HPW.out HBP.out _
              have hR1 : W1.heap[wr.heap.size]? = some (.cells #[.string nm', .int .i64 ow, .int .i64 fl, .int .i64 ak, .int .i64 ay, .string an, .int .i64 au, .slice xa xn xc, .int .i64 at_] 72 (0, 0)) := by rw [← hW1]; exact heap_alloc_new wr _
              have HR1 := Lib.hid hR1
              have HF1 := Lib.hid hF1
              have HW1' := Lib.hid hW1
              clear q hel hr hcs hok hW1 hF1 hR1
              go_upto_region 19 with fail
              rw [HW1'.out]
              clear q0 q1 q2 q3 q4 q5 q6 q7 q8
              have r0 := blk_cell HR1.out 0
              have r3 := blk_cell HR1.out 3
              have r4 := blk_cell HR1.out 4
              have r5 := blk_cell HR1.out 5
              have r6 := blk_cell HR1.out 6
              have r7 := blk_cell HR1.out 7
              by_cases h1 : 100 < (nm'.size : Int)
              · have d1 : decide (100 < (nm'.size : Int)) = true := by simpa using h1
                go_wp2
                go_ret
                exact FIN.out _ _ _ HF1 (fun h => by cases h)
              have d1 : decide (100 < (nm'.size : Int)) = false := by simpa using h1
              obtain ⟨b1, x1, e1, e2, e3, c1⟩ := xtypes_one (enc := enc) W0 pl HPW.out ⟨ak, ay, an, au, .slice xa xn xc⟩ HOK.out.t z hz0 hz1
              have C1 := Lib.hid c1
              have HA1 := Lib.hid (heap_alloc_new W1 (.cells #[.int .i64 ak, .int .i64 ay, .string an, .int .i64 au, .slice xa xn xc] 58))
              have HFA1 := Lib.hid (HF1.out.alloc HPW.out HBP.out (.cells #[.int .i64 ak, .int .i64 ay, .string an, .int .i64 au, .slice xa xn xc] 58))
              clear c1
              go_wp2_with fail
              refine (C1.out _ _ HA1.out (by have := (Array.getElem?_eq_some_iff.1 HF1.out.lf).1; omega) HFA1.out.bel HFA1.out.lf).mono ?_
              rintro e w3 ⟨rfl, h3, h7⟩
              have HF3 := Lib.hid (HFA1.out.grown HPW.out HBP.out h7 h3)
              clear C1 h3 h7 HA1 HFA1 r0 r3 r4 r5 r6 r7
              cases b1 with
              | false =>
                go_wp2
                go_ret
                exact FIN.out _ _ _ HF3 (fun h => by cases h)
              | true =>
                go_wp2
                go_roundg m
                case measure => omega
                case rel => exact ⟨k + 1, x1, by omega, by omega, by go_num, e3 (by trivial), by omega, HF3⟩
            · have hbx := HF.out.box
              rw [HBX.out] at hbx
              have p3 := blk_cell hbx 3
              clear hbx
              go_upto_region 23 with fail
              clear p3
              go_loopg [159] (nt + 1) (fun g y wr => ∃ (k : Nat) (z : Int), k ≤ nt ∧ nt - k < g ∧ y = .int .i64 k ∧ 0 ≤ z ∧ z ≤ 3000 ∧ Hid (FS W0 w2 pl B bx z wr))
              case atStart => exact ⟨0, z, by omega, by omega, rfl, hz0, hz1, HF⟩
              case round =>
                clear HF hz0 hz1 hk hgk hlt
                obtain ⟨k, z, hk, hgk, rfl, hz0, hz1, HF⟩ := hrel
                obtain ⟨m, rfl⟩ : ∃ m, gk = m + 1 := ⟨gk - 1, by omega⟩
                by_cases hlt : k < nt
                · obtain ⟨a', cap', he, hr⟩ := HLT.out wr HF.out.bel
                  injection he with e1 e2 e3
                  subst e1 e3
                  obtain ⟨b, off, rfl, hbp, hbs, hel⟩ := hr (by omega)
                  obtain ⟨⟨nm', cl, me, va', ar, ⟨ak, ay, an, au, av⟩, ⟨bk, by_, bn, bu, bv⟩⟩, hcs, hok⟩ := rv_tparam (HDT.out k hlt).2
                  obtain ⟨xa, xn, xc, hav, -⟩ := hok.lo.args.slice Tryz.underlying33 cells58 (by decide)
                  obtain ⟨ya', yn', yc', hbv, -⟩ := hok.hi.args.slice Tryz.underlying33 cells58 (by decide)
                  injection hav with hav _
                  injection hbv with hbv _
                  simp only at hav hbv
                  subst hav hbv
                  have HOK := Lib.hid hok
                  have q : ∀ j, j < 15 → wr.cell? ⟨b, off + k * 15 + j, none⟩ = _ := fun j hj => hel k hlt j hj
                  rw [hcs] at q
                  have q0 : wr.cell? ⟨b, off + k * 15, none⟩ = some (.string nm') := q 0 (by decide)
                  have q1 : wr.cell? ⟨b, off + k * 15 + 1, none⟩ = some (.int .i64 cl) := q 1 (by decide)
                  have q2 : wr.cell? ⟨b, off + k * 15 + 2, none⟩ = some (.int .i64 me) := q 2 (by decide)
                  have q3 : wr.cell? ⟨b, off + k * 15 + 3, none⟩ = some (.int .i64 va') := q 3 (by decide)
                  have q4 : wr.cell? ⟨b, off + k * 15 + 4, none⟩ = some (.int .i64 ar) := q 4 (by decide)
                  have q5 : wr.cell? ⟨b, off + k * 15 + 5, none⟩ = some (.int .i64 ak) := q 5 (by decide)
                  have q6 : wr.cell? ⟨b, off + k * 15 + 6, none⟩ = some (.int .i64 ay) := q 6 (by decide)
                  have q7 : wr.cell? ⟨b, off + k * 15 + 7, none⟩ = some (.string an) := q 7 (by decide)
                  have q8 : wr.cell? ⟨b, off + k * 15 + 8, none⟩ = some (.int .i64 au) := q 8 (by decide)
                  have q9 : wr.cell? ⟨b, off + k * 15 + 9, none⟩ = some (.slice xa xn xc) := q 9 (by decide)
                  have q10 : wr.cell? ⟨b, off + k * 15 + 10, none⟩ = some (.int .i64 bk) := q 10 (by decide)
                  have q11 : wr.cell? ⟨b, off + k * 15 + 11, none⟩ = some (.int .i64 by_) := q 11 (by decide)
                  have q12 : wr.cell? ⟨b, off + k * 15 + 12, none⟩ = some (.string bn) := q 12 (by decide)
                  have q13 : wr.cell? ⟨b, off + k * 15 + 13, none⟩ = some (.int .i64 bu) := q 13 (by decide)
                  have q14 : wr.cell? ⟨b, off + k * 15 + 14, none⟩ = some (.slice ya' yn' yc') := q 14 (by decide)
                  obtain ⟨W1, hW1⟩ : ∃ W1, wr.alloc (.cells #[.string nm', .int .i64 cl, .int .i64 me, .int .i64 va', .int .i64 ar, .int .i64 ak, .int .i64 ay, .string an, .int .i64 au, .slice xa xn xc, .int .i64 bk, .int .i64 by_, .string bn, .int .i64 bu, .slice ya' yn' yc'] 74) = W1 := ⟨_, rfl⟩
                  have hF1 : FS W0 w2 pl B bx z W1 := by rw [← hW1]; exact HF.out.alloc HPW.out HBP.out _
                  have hR1 : W1.heap[wr.heap.size]? = some (.cells #[.string nm', .int .i64 cl, .int .i64 me, .int .i64 va', .int .i64 ar, .int .i64 ak, .int .i64 ay, .string an, .int .i64 au, .slice xa xn xc, .int .i64 bk, .int .i64 by_, .string bn, .int .i64 bu, .slice ya' yn' yc'] 74 (0, 0)) := by rw [← hW1]; exact heap_alloc_new wr _
                  have HR1 := Lib.hid hR1
                  have HF1 := Lib.hid hF1
                  have HW1' := Lib.hid hW1
                  clear q hel hr hcs hok hW1 hF1 hR1
                  go_upto_region 25 with fail
                  rw [HW1'.out]
                  clear q0 q1 q2 q3 q4 q5 q6 q7 q8 q9 q10 q11 q12 q13 q14
                  have r0 := blk_cell HR1.out 0
                  have r5 := blk_cell HR1.out 5
                  have r6 := blk_cell HR1.out 6
                  have r7 := blk_cell HR1.out 7
                  have r8 := blk_cell HR1.out 8
                  have r9 := blk_cell HR1.out 9
                  have r10 := blk_cell HR1.out 10
                  have r11 := blk_cell HR1.out 11
                  have r12 := blk_cell HR1.out 12
                  have r13 := blk_cell HR1.out 13
                  have r14 := blk_cell HR1.out 14
                  by_cases h1 : 100 < (nm'.size : Int)
                  · have d1 : decide (100 < (nm'.size : Int)) = true := by simpa using h1
                    go_wp2
                    go_ret
                    exact FIN.out _ _ _ HF1 (fun h => by cases h)
                  have d1 : decide (100 < (nm'.size : Int)) = false := by simpa using h1
                  obtain ⟨b1, x1, e1, e2, e3, c1⟩ := xtypes_two (enc := enc) W0 pl HPW.out ⟨ak, ay, an, au, .slice xa xn xc⟩ ⟨bk, by_, bn, bu, .slice ya' yn' yc'⟩ HOK.out.lo HOK.out.hi z hz0 hz1
                  have C1 := Lib.hid c1
                  have HA1 := Lib.hid (heap_alloc_new W1 (.cells #[.int .i64 ak, .int .i64 ay, .string an, .int .i64 au, .slice xa xn xc, .int .i64 bk, .int .i64 by_, .string bn, .int .i64 bu, .slice ya' yn' yc'] 58))
                  have HFA1 := Lib.hid (HF1.out.alloc HPW.out HBP.out (.cells #[.int .i64 ak, .int .i64 ay, .string an, .int .i64 au, .slice xa xn xc, .int .i64 bk, .int .i64 by_, .string bn, .int .i64 bu, .slice ya' yn' yc'] 58))
                  clear c1
                  go_wp2_with fail
                  refine (C1.out _ _ HA1.out (by have := (Array.getElem?_eq_some_iff.1 HF1.out.lf).1; omega) HFA1.out.bel HFA1.out.lf).mono ?_
                  rintro e w3 ⟨rfl, h3, h7⟩
                  have HF3 := Lib.hid (HFA1.out.grown HPW.out HBP.out h7 h3)
                  clear C1 h3 h7 HA1 HFA1 r0 r5 r6 r7 r8 r9 r10 r11 r12 r13 r14
                  cases b1 with
                  | false =>
                    go_wp2
                    go_ret
                    exact FIN.out _ _ _ HF3 (fun h => by cases h)
                  | true =>
                    go_wp2
                    go_roundg m
                    case measure => omega
                    case rel => exact ⟨k + 1, x1, by omega, by omega, by go_num, e3 (by trivial), by omega, HF3⟩
                · have hbx := HF.out.box
                  rw [HBX.out] at hbx
                  have p4 := blk_cell hbx 4
                  clear hbx
                  obtain ⟨b1, x1, e1, e2, e3, c1⟩ := xmembers (enc := enc) W0 pl HPW.out ny dy z hny HDY.out hz0 hz1
                  have C1 := Lib.hid c1
                  clear c1
                  go_wp2_with fail
                  refine (C1.out _ _ (HLY.out wr HF.out.bel) HF.out.bel HF.out.lf).mono ?_
                  rintro e w3 ⟨rfl, h3, h7⟩
                  have HF3 := Lib.hid (HF.out.grown HPW.out HBP.out h7 h3)
                  clear C1 h3 h7 p4
                  go_wp2
                  go_ret
                  exact FIN.out _ _ _ HF3 (fun _ => ⟨HSM.out.1, HSC.out⟩)
end Go.Proofs.YtlipfgdjbimfjaaGreatDoor
