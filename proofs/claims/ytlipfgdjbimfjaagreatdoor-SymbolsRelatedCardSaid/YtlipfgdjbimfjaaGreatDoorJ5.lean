/- Declared of the reference: the same references; of classes that do not exist; equality of rows of references. -/
import Derived.Test.YtlipfgdjbimfjaaGreatDoorJ3
namespace Go.Proofs.YtlipfgdjbimfjaaGreatDoor
open Go.RowKit Go.Shelf Go.Sort
set_option maxRecDepth 100000

theorem refIn_yes {i n : Int} (w : World) (h0 : 0 ≤ i) (h : i < n) : Calls Tryz.prog 40 #[.int .i64 i, .int .i64 n] w fun e w' => e = .returned (.bool true) ∧ w = w' := by
  have d1 : decide (0 ≤ i) = true := by simpa using h0
  have d2 : decide (i < n) = true := by simpa using h
  clear h0 h
  go_enter Tryz.func40, Tryz.ntmps40
  go_wp2
  go_ret
  exact ⟨rfl, rfl⟩
theorem refIn_no {i n : Int} (w : World) (h : i < 0 ∨ n ≤ i) : Calls Tryz.prog 40 #[.int .i64 i, .int .i64 n] w fun e w' => e = .returned (.bool false) ∧ w = w' := by
  by_cases h0 : 0 ≤ i
  · have d1 : decide (0 ≤ i) = true := by simpa using h0
    have d2 : decide (i < n) = false := by simp; omega
    clear h0 h
    go_enter Tryz.func40, Tryz.ntmps40
    go_wp2
    go_ret
    exact ⟨rfl, rfl⟩
  · have d1 : decide (0 ≤ i) = false := by simpa using h0
    clear h0 h
    go_enter Tryz.func40, Tryz.ntmps40
    go_wp2
    go_ret
    exact ⟨rfl, rfl⟩
theorem refsM_snoc_yes {kd : Int} {m : Nat} {nm : Nat → ByteArray} {name : ByteArray} {l : List Int} {x : Int} (h1 : inT m x = true) (h2 : hasN nm name x = true) : refsM kd m nm name (l ++ [x]) = refsM kd m nm name l ++ [(kd, x)] := by
  simp [refsM, List.filter_append, h1, h2]
theorem refsM_snoc_no {kd : Int} {m : Nat} {nm : Nat → ByteArray} {name : ByteArray} {l : List Int} {x : Int} (h : inT m x = false ∨ hasN nm name x = false) : refsM kd m nm name (l ++ [x]) = refsM kd m nm name l := by
  rcases h with h | h
  · simp [refsM, List.filter_append, h]
  · by_cases h1 : inT m x = true
    · simp [refsM, List.filter_append, h, h1]
    · simp [refsM, List.filter_append, h1]

/-- A class's copy beside an own row. -/
def VB (V : Nat) (cs : Array Value) (w : World) (v : Value) : Prop := w.heap[V]? = some (.cells cs 36 (0, 0)) ∧ v.ownBlock ≠ some V
theorem VB.grown {V g n c : Nat} {cs : Array Value} {w w1 w' : World} {v : Value} (h : VB V cs w v) (hb : Below w.heap.size w w1) (hg : w1.grownBy w' v.ownBlock) (hr : v.ownBlock = some g ∨ g = w1.heap.size) : VB V cs w' (.slice (some ⟨g, 0, none⟩) n c) := by
  have hlt := (Array.getElem?_eq_some_iff.1 h.1).1
  have h5 := hb.size
  refine ⟨(hg.block V (by omega) (fun e => h.2 e.symm)).trans ((hb.block V hlt).trans h.1), fun e => ?_⟩
  have e2 : some g = some V := e
  injection e2 with e2
  rcases hr with h6 | h6
  · exact h.2 (by rw [h6, e2])
  · omega

set_option maxHeartbeats 8000000 in
theorem refDeclared_in (W0 : World) (ca : Option Addr) (cn cc : Nat) (ma : Option Addr) (mn mc : Nat) (fa : Option Addr) (fn fc : Nat) (ta : Option Addr) (tn tc : Nat) (ya : Option Addr) (yn yc : Nat) (mi : Int) (d : Nat → ClS) (hn : cn ≤ 17592186044416) (hC : CLS W0 (.slice ca cn cc) cn d)
    (nmm nmf nmy : Nat → ByteArray) (hNm : NmT 13 W0 (.slice ma mn mc) mn nmm) (hNf : NmT 9 W0 (.slice fa fn fc) fn nmf) (hNy : NmT 13 W0 (.slice ya yn yc) yn nmy) (hmn : mn ≤ 17592186044416) (hfn : fn ≤ 17592186044416) (hyn : yn ≤ 17592186044416)
    (c : Nat) (hc : c < cn) (lf lm ly : List Int) (hlf : lf.length = (d c).fn) (hlm : lm.length = (d c).mn) (hly : ly.length = (d c).yn) (zf : lf.length ≤ 200) (zm : lm.length ≤ 200) (zy : ly.length ≤ 200) (hLf : ILs W0 (d c).fa lf) (hLm : ILs W0 (d c).ma lm) (hLy : ILs W0 (d c).ya ly)
    (name : ByteArray) (w : World) (hb : Below W0.heap.size W0 w) :
    Calls Tryz.prog 15 #[.agg #[.slice ca cn cc, .slice ma mn mc, .slice fa fn fc, .slice ta tn tc, .slice ya yn yc, .int .i64 mi], .int .i64 c, .string name] w (RetR w (refsM 1 fn nmf name lf ++ refsM 0 mn nmm name lm ++ refsM 2 yn nmy name ly)) := by
  obtain ⟨i0, hi, iz0, iz1, iz2⟩ := info_parts info42
  obtain ⟨w1, hw1⟩ : ∃ w1, w.alloc (.cells #[.slice ca cn cc, .slice ma mn mc, .slice fa fn fc, .slice ta tn tc, .slice ya yn yc, .int .i64 mi] 28) = w1 := ⟨_, rfl⟩
  have hb1 : Below w.heap.size w w1 := by rw [← hw1]; exact (Below.refl _ _).alloc (Nat.le_refl _) _
  have hz1 : w1.heap.size = w.heap.size + 1 := by rw [← hw1]; exact World.size_alloc _ _
  have x1 : w1.heap[w.heap.size]? = some (.cells #[.slice ca cn cc, .slice ma mn mc, .slice fa fn fc, .slice ta tn tc, .slice ya yn yc, .int .i64 mi] 28 (0, 0)) := by rw [← hw1]; exact heap_alloc_new w _
  obtain ⟨a', cap', he, hr⟩ := hC
  injection he with e1 e2 e3
  subst e1 e3
  obtain ⟨b, off, rfl, hbs, hel⟩ := hr (by omega)
  have hB1 : Below W0.heap.size W0 w1 := hb.trans (hb1.mono hb.size)
  have q : ∀ wr, Below W0.heap.size W0 wr → ∀ j, j < 13 → wr.cell? ⟨b, off + c * 13 + j, none⟩ = (d c).cells[j]? := fun wr hw j hj => hel wr hw c hc j hj
  obtain ⟨t, ht⟩ : ∃ t, d c = t := ⟨_, rfl⟩
  rw [ht] at q hlf hlm hly hLf hLm hLy
  obtain ⟨tnm, kd, fl, tow, xa1, xn1, xc1, xa2, xn2, xc2, xa3, xn3, xc3, qfa, qfn, qfc, qma, qmn, qmc, qya, qyn, qyc, xa4, xn4, xc4, xa5, xn5, xc5, at_⟩ := t
  simp only at hlf hlm hly hLf hLm hLy
  subst hlf hlm hly
  have c13 : ∀ wr, Below W0.heap.size W0 wr → ∀ j, j < 13 → wr.cell? ⟨b, off + c * 13 + j, none⟩ = ([.string tnm, .int .i64 kd, .int .i64 fl, .int .i64 tow, .slice xa1 xn1 xc1, .slice xa2 xn2 xc2, .slice xa3 xn3 xc3, .slice qfa lf.length qfc, .slice qma lm.length qmc, .slice qya ly.length qyc, .slice xa4 xn4 xc4, .slice xa5 xn5 xc5, .int .i64 at_] : List Value)[j]? := q
  have HC13 := Lib.hid c13
  have cf : ∀ wr, Below W0.heap.size W0 wr → wr.cell? ⟨b, off + c * 13 + 7, none⟩ = some (.slice qfa lf.length qfc) := fun wr hw => q wr hw 7 (by decide)
  have cm : ∀ wr, Below W0.heap.size W0 wr → wr.cell? ⟨b, off + c * 13 + 8, none⟩ = some (.slice qma lm.length qmc) := fun wr hw => q wr hw 8 (by decide)
  have cy : ∀ wr, Below W0.heap.size W0 wr → wr.cell? ⟨b, off + c * 13 + 9, none⟩ = some (.slice qya ly.length qyc) := fun wr hw => q wr hw 9 (by decide)
  have ilf : ∀ wr, Below W0.heap.size W0 wr → ILs wr qfa lf := fun wr hw => hLf.bel hw
  have ilm : ∀ wr, Below W0.heap.size W0 wr → ILs wr qma lm := fun wr hw => hLm.bel hw
  have ily : ∀ wr, Below W0.heap.size W0 wr → ILs wr qya ly := fun wr hw => hLy.bel hw
  have HCF := Lib.hid cf
  have HCM := Lib.hid cm
  have HCY := Lib.hid cy
  have HIF := Lib.hid ilf
  have HIM := Lib.hid ilm
  have HIY := Lib.hid ily
  have HNM := Lib.hid hNm
  have HNF := Lib.hid hNf
  have HNY := Lib.hid hNy
  have HB0 := Lib.hid hb1
  have HBW := Lib.hid hB1
  have X1 := Lib.hid x1
  have HW1 := Lib.hid hw1
  have HZ1 := Lib.hid hz1
  have bf := Lib.hid (refsM_len 1 fn nmf name lf)
  have bm := Lib.hid (refsM_len 0 mn nmm name lm)
  have by_ := Lib.hid (refsM_len 2 yn nmy name ly)
  obtain ⟨W, hW⟩ : ∃ W, W = w.heap.size := ⟨_, rfl⟩
  have HWE := Lib.hid hW
  have X1 : Hid (w1.heap[W]? = some (.cells #[.slice (some ⟨b, off, none⟩) cn cc, .slice ma mn mc, .slice fa fn fc, .slice ta tn tc, .slice ya yn yc, .int .i64 mi] 28 (0, 0))) := Lib.hid (by rw [hW]; exact X1.out)
  have hci : (0 : Int) ≤ (c : Int) := by omega
  have hcn : (c : Int) < (cn : Int) := by omega
  have p0 := blk_cell x1 0
  -- the box in a later world
  have bx : ∀ wr, Below w1.heap.size w1 wr → wr.heap[W]? = some (.cells #[.slice (some ⟨b, off, none⟩) cn cc, .slice ma mn mc, .slice fa fn fc, .slice ta tn tc, .slice ya yn yc, .int .i64 mi] 28 (0, 0)) := fun wr hw => (hw.block W (by have := HZ1.out; omega)).trans X1.out
  have HBX := Lib.hid bx
  clear c13 hw1 hb1 hz1 x1 hr hel q ht hB1 hLf hLm hLy cf cm cy ilf ilm ily hNm hNf hNy hW bx hb hbs
  go_enter Tryz.func15, Tryz.ntmps15
  go_upto_region 1 with fail
  rw [HW1.out, ← HWE.out]
  rw [← HWE.out] at p0
  obtain ⟨w2, hw2⟩ : ∃ w2, w1.alloc (.cells #[] 42) = w2 := ⟨_, rfl⟩
  have hb2 : Below w1.heap.size w1 w2 := by rw [← hw2]; exact (Below.refl _ _).alloc (Nat.le_refl _) _
  have hz2 : w2.heap.size = w1.heap.size + 1 := by rw [← hw2]; exact World.size_alloc _ _
  have hO2 : OwnR w2 w1.heap.size (.slice (some ⟨w1.heap.size, 0, none⟩) 0 0) [] := by
    rw [← hw2]
    exact ⟨rfl, .inr ⟨w1.heap.size, 0, #[], rfl, Nat.le_refl _, heap_alloc_new w1 _, Nat.le_refl _, by decide, rfl, rfl⟩⟩
  have HO2 := Lib.hid hO2
  have HB2 := Lib.hid hb2
  have HZ2 := Lib.hid hz2
  have HW2 := Lib.hid hw2
  have hbw2 := HBW.out.trans (hb2.mono HBW.out.size)
  have pp := blk_cell (HBX.out w2 hb2) 0
  have c13 := HC13.out w2 hbw2
  have q0 : w2.cell? ⟨b, off + c * 13, none⟩ = some (.string tnm) := c13 0 (by decide)
  have q1 : w2.cell? ⟨b, off + c * 13 + 1, none⟩ = some (.int .i64 kd) := c13 1 (by decide)
  have q2 : w2.cell? ⟨b, off + c * 13 + 2, none⟩ = some (.int .i64 fl) := c13 2 (by decide)
  have q3 : w2.cell? ⟨b, off + c * 13 + 3, none⟩ = some (.int .i64 tow) := c13 3 (by decide)
  have q4 : w2.cell? ⟨b, off + c * 13 + 4, none⟩ = some (.slice xa1 xn1 xc1) := c13 4 (by decide)
  have q5 : w2.cell? ⟨b, off + c * 13 + 5, none⟩ = some (.slice xa2 xn2 xc2) := c13 5 (by decide)
  have q6 : w2.cell? ⟨b, off + c * 13 + 6, none⟩ = some (.slice xa3 xn3 xc3) := c13 6 (by decide)
  have q7 : w2.cell? ⟨b, off + c * 13 + 7, none⟩ = some (.slice qfa lf.length qfc) := c13 7 (by decide)
  have q8 : w2.cell? ⟨b, off + c * 13 + 8, none⟩ = some (.slice qma lm.length qmc) := c13 8 (by decide)
  have q9 : w2.cell? ⟨b, off + c * 13 + 9, none⟩ = some (.slice qya ly.length qyc) := c13 9 (by decide)
  have q10 : w2.cell? ⟨b, off + c * 13 + 10, none⟩ = some (.slice xa4 xn4 xc4) := c13 10 (by decide)
  have q11 : w2.cell? ⟨b, off + c * 13 + 11, none⟩ = some (.slice xa5 xn5 xc5) := c13 11 (by decide)
  have q12 : w2.cell? ⟨b, off + c * 13 + 12, none⟩ = some (.int .i64 at_) := c13 12 (by decide)
  clear c13 hw2 hb2 hz2 hO2 hbw2
  go_upto_region 2 with fail
  rw [HW2.out]
  clear p0
  obtain ⟨w3, hw3⟩ : ∃ w3, w2.alloc (.cells #[.string tnm, .int .i64 kd, .int .i64 fl, .int .i64 tow, .slice xa1 xn1 xc1, .slice xa2 xn2 xc2, .slice xa3 xn3 xc3, .slice qfa lf.length qfc, .slice qma lm.length qmc, .slice qya ly.length qyc, .slice xa4 xn4 xc4, .slice xa5 xn5 xc5, .int .i64 at_] 36) = w3 := ⟨_, rfl⟩
  have HW3 := Lib.hid hw3
  have HB : Hid (Below w1.heap.size w1 w3) := Lib.hid (by rw [← hw3]; exact HB2.out.alloc HB2.out.size _)
  obtain ⟨V, hV⟩ : ∃ V, V = w2.heap.size := ⟨_, rfl⟩
  have HVE := Lib.hid hV
  have HV : Hid (VB V #[.string tnm, .int .i64 kd, .int .i64 fl, .int .i64 tow, .slice xa1 xn1 xc1, .slice xa2 xn2 xc2, .slice xa3 xn3 xc3, .slice qfa lf.length qfc, .slice qma lm.length qmc, .slice qya ly.length qyc, .slice xa4 xn4 xc4, .slice xa5 xn5 xc5, .int .i64 at_] w3 (.slice (some ⟨w1.heap.size, 0, none⟩) 0 0)) := Lib.hid (by
    refine ⟨by rw [hV, ← hw3]; exact heap_alloc_new w2 _, fun e => ?_⟩
    have e2 : some w1.heap.size = some V := e
    injection e2 with e2
    have := HZ2.out
    omega)
  have HO : Hid (OwnR w3 w1.heap.size (.slice (some ⟨w1.heap.size, 0, none⟩) 0 0) []) := Lib.hid (by rw [← hw3]; exact HO2.out.alloc _)
  clear hw3 hV
  go_wp2_with fail
  refine (refIn_yes _ hci hcn).mono ?_; rintro e w' ⟨rfl, rfl⟩
  go_upto_region 5 with fail
  rw [HW3.out, ← HVE.out]
  clear q0 q1 q2 q3 q4 q5 q6 q7 q8 q9 q10 q11 q12 pp
  go_wp2
  go_loopg [7, 9] (lf.length + 1) (fun g v y wr => ∃ k : Nat, k ≤ lf.length ∧ lf.length - k < g ∧ y = .int .i64 k ∧ Hid (OwnR wr w1.heap.size v (([] : List (Int × Int)) ++ refsM 1 fn nmf name (lf.take k))) ∧ Hid (VB V #[.string tnm, .int .i64 kd, .int .i64 fl, .int .i64 tow, .slice xa1 xn1 xc1, .slice xa2 xn2 xc2, .slice xa3 xn3 xc3, .slice qfa lf.length qfc, .slice qma lm.length qmc, .slice qya ly.length qyc, .slice xa4 xn4 xc4, .slice xa5 xn5 xc5, .int .i64 at_] wr v) ∧ Hid (Below w1.heap.size w1 wr))
  case atStart => exact ⟨0, by omega, by omega, rfl, Lib.hid (by simpa [refsM] using HO.out), HV, HB⟩
  case round =>
    clear HO HV HB
    obtain ⟨k, hk, hgk, rfl, HO, HV, HB⟩ := hrel
    obtain ⟨g', rfl⟩ : ∃ m, gk = m + 1 := ⟨gk - 1, by omega⟩
    have v7 := blk_cell HV.out.1 7
    by_cases hlt : k < lf.length
    · have hbw := HBW.out.trans (HB.out.mono HBW.out.size)
      obtain ⟨bi, oi, rfl, hbi, hel⟩ := HIF.out wr hbw (by omega)
      obtain ⟨x, hx⟩ : ∃ x, lf.getD k 0 = x := ⟨_, rfl⟩
      have q0 : wr.cell? ⟨bi, oi + k, none⟩ = some (.int .i64 x) := by rw [← hx]; exact hel k hlt
      have HT : Hid (lf.take (k + 1) = lf.take k ++ [x]) := Lib.hid (by rw [take_snocI lf k hlt, hx])
      have pp := blk_cell (HBX.out wr HB.out) 2
      obtain ⟨L, hL⟩ : ∃ L, ([] : List (Int × Int)) ++ refsM 1 fn nmf name (lf.take k) = L := ⟨_, rfl⟩
      have HLZ : Hid (L.length ≤ 600) := Lib.hid (by
        rw [← hL]
        have h1 := refsM_len 1 fn nmf name (lf.take k)
        have h2 := List.length_take_le k lf
        have h4 := bf.out
        have h5 := bm.out
        simp only [List.length_append, List.length_nil]
        omega)
      rw [hL] at HO
      have hlz := HLZ.out
      clear hel hx
      by_cases hin : inT fn x = true
      · obtain ⟨xn, rfl, hxm⟩ := inT_nat hin
        obtain ⟨a3, c3, he3, hr3⟩ := HNF.out
        injection he3 with e1 e2 e3
        subst e1 e3
        obtain ⟨bt, ot, rfl, hbt, hnt⟩ := hr3 (by omega)
        have q1 : wr.cell? ⟨bt, ot + xn * 9, none⟩ = some (.string (nmf xn)) := (hbw.cell (p := ⟨bt, ot + xn * 9, none⟩) hbt).trans (hnt xn hxm)
        obtain ⟨s, hs⟩ : ∃ s, nmf xn = s := ⟨_, rfl⟩
        have HSN := Lib.hid hs
        have HIN := Lib.hid hin
        rw [hs] at q1
        have hx0 : (0 : Int) ≤ (xn : Int) := by omega
        have hx1 : (xn : Int) < (fn : Int) := by omega
        clear hnt hr3 hbw hs hin
        by_cases hp2 : s.toList = name.toList
        · have HY : Hid (([] : List (Int × Int)) ++ refsM 1 fn nmf name (lf.take (k + 1)) = L ++ [(1, (xn : Int))]) := Lib.hid (by rw [HT.out, refsM_snoc_yes HIN.out (by simp [hasN, HSN.out, hp2]), ← List.append_assoc, hL])
          have hb2 : (s.toList == name.toList) = true := by simpa using hp2
          clear hL
          go_wp2_with (first
            | (go_at_call 40; refine (refIn_yes _ hx0 hx1).mono ?_; rintro e w' ⟨rfl, rfl⟩)
            | (at_builtin; refine wpList_append_lies _ rfl _ _ 40 rfl w1.heap.size 42 i0 (.agg #[.int .i64 0, .int .i64 0]) 2 16 Tryz.underlying40 hi iz0 iz1 iz2 rfl (by decide) _ L.length (flatR L) rfl (HO.out.alloc _) ⟨wr.heap.size, 0, none⟩ 1 1 [.int .i64 1, .int .i64 xn] rfl rfl (cell_two_new _ _ _ _) (by intro u hu; simp at hu; rcases hu with rfl | rfl <;> rfl) (by decide) (by unfold maxLen; omega) (by omega) (by have := HB.out.size; simp; omega) (wr.heap.size + 1) (by simp) ?_; intro gg cap' w3 hown' hgrow hat hltg; have HG := Lib.hid (And.intro hown' (And.intro hgrow hat)); clear hown' hgrow hat hltg))
          go_roundg g'
          case measure => omega
          case rel =>
            have hba : Below w1.heap.size w1 (wr.alloc (.cells #[.int .i64 1, .int .i64 xn] 42)) := HB.out.alloc HB.out.size _
            have hlt2 := fun k hk => ((HO.out.alloc (.cells #[.int .i64 1, .int .i64 xn] 42)).lt k hk).1
            refine ⟨k + 1, by omega, by omega, by go_num, ?_, Lib.hid (HV.out.grown ((Below.refl _ _).alloc (Nat.le_refl _) _) HG.out.2.1 (HG.out.2.2.imp id (fun h => h.trans (World.size_alloc _ _).symm))), Lib.hid (hba.grown HG.out.2.1 (by have := HB.out.size; simp; omega) (fun k hk => hlt2 k hk))⟩
            refine Lib.hid ?_
            show World.ownsRow _ _ _ _ _ _ _
            rw [HY.out, List.length_append, List.length_singleton, flatR_app]
            exact HG.out.1
        · have HY : Hid (([] : List (Int × Int)) ++ refsM 1 fn nmf name (lf.take (k + 1)) = L) := Lib.hid (by rw [HT.out, refsM_snoc_no (.inr (by simp [hasN, HSN.out, hp2])), hL])
          have hb2 : (s.toList == name.toList) = false := by simpa using hp2
          clear hL
          go_wp2_with (go_at_call 40; refine (refIn_yes _ hx0 hx1).mono ?_; rintro e w' ⟨rfl, rfl⟩)
          go_roundg g'
          case measure => omega
          case rel => exact ⟨k + 1, by omega, by omega, by go_num, Lib.hid (by rw [HY.out]; exact HO.out), HV, HB⟩
      · have hin' : inT fn x = false := by simpa using hin
        have HY : Hid (([] : List (Int × Int)) ++ refsM 1 fn nmf name (lf.take (k + 1)) = L) := Lib.hid (by rw [HT.out, refsM_snoc_no (.inl hin'), hL])
        have HOUT : Hid (x < 0 ∨ (fn : Int) ≤ x) := Lib.hid (by
          unfold inT at hin'
          rw [Bool.and_eq_false_iff, decide_eq_false_iff_not, decide_eq_false_iff_not] at hin'
          omega)
        clear hL hin hin' hbw
        go_wp2_with (go_at_call 40; refine (refIn_no _ HOUT.out).mono ?_; rintro e w' ⟨rfl, rfl⟩)
        go_roundg g'
        case measure => omega
        case rel => exact ⟨k + 1, by omega, by omega, by go_num, Lib.hid (by rw [HY.out]; exact HO.out), HV, HB⟩
    · have hke : k = lf.length := by omega
      have HON : Hid (OwnR wr w1.heap.size u7 (refsM 1 fn nmf name lf)) := Lib.hid (by have h := HO.out; rw [hke, List.take_length] at h; rw [List.nil_append] at h; exact h)
      clear hke HO
      have HO := HON
      clear HON
      go_wp2
      go_loopg [7, 11] (lm.length + 1) (fun g v y wr => ∃ k : Nat, k ≤ lm.length ∧ lm.length - k < g ∧ y = .int .i64 k ∧ Hid (OwnR wr w1.heap.size v ((refsM 1 fn nmf name lf) ++ refsM 0 mn nmm name (lm.take k))) ∧ Hid (VB V #[.string tnm, .int .i64 kd, .int .i64 fl, .int .i64 tow, .slice xa1 xn1 xc1, .slice xa2 xn2 xc2, .slice xa3 xn3 xc3, .slice qfa lf.length qfc, .slice qma lm.length qmc, .slice qya ly.length qyc, .slice xa4 xn4 xc4, .slice xa5 xn5 xc5, .int .i64 at_] wr v) ∧ Hid (Below w1.heap.size w1 wr))
      case atStart => exact ⟨0, by omega, by omega, rfl, Lib.hid (by simpa [refsM] using HO.out), HV, HB⟩
      case round =>
        clear HO HV HB
        obtain ⟨k, hk, hgk, rfl, HO, HV, HB⟩ := hrel
        obtain ⟨g', rfl⟩ : ∃ m, gk = m + 1 := ⟨gk - 1, by omega⟩
        have v7 := blk_cell HV.out.1 8
        by_cases hlt : k < lm.length
        · have hbw := HBW.out.trans (HB.out.mono HBW.out.size)
          obtain ⟨bi, oi, rfl, hbi, hel⟩ := HIM.out wr hbw (by omega)
          obtain ⟨x, hx⟩ : ∃ x, lm.getD k 0 = x := ⟨_, rfl⟩
          have q0 : wr.cell? ⟨bi, oi + k, none⟩ = some (.int .i64 x) := by rw [← hx]; exact hel k hlt
          have HT : Hid (lm.take (k + 1) = lm.take k ++ [x]) := Lib.hid (by rw [take_snocI lm k hlt, hx])
          have pp := blk_cell (HBX.out wr HB.out) 1
          obtain ⟨L, hL⟩ : ∃ L, (refsM 1 fn nmf name lf) ++ refsM 0 mn nmm name (lm.take k) = L := ⟨_, rfl⟩
          have HLZ : Hid (L.length ≤ 600) := Lib.hid (by
            rw [← hL]
            have h1 := refsM_len 0 mn nmm name (lm.take k)
            have h2 := List.length_take_le k lm
            have h4 := bf.out
            have h5 := bm.out
            simp only [List.length_append, List.length_nil]
            omega)
          rw [hL] at HO
          have hlz := HLZ.out
          clear hel hx
          by_cases hin : inT mn x = true
          · obtain ⟨xn, rfl, hxm⟩ := inT_nat hin
            obtain ⟨a3, c3, he3, hr3⟩ := HNM.out
            injection he3 with e1 e2 e3
            subst e1 e3
            obtain ⟨bt, ot, rfl, hbt, hnt⟩ := hr3 (by omega)
            have q1 : wr.cell? ⟨bt, ot + xn * 13, none⟩ = some (.string (nmm xn)) := (hbw.cell (p := ⟨bt, ot + xn * 13, none⟩) hbt).trans (hnt xn hxm)
            obtain ⟨s, hs⟩ : ∃ s, nmm xn = s := ⟨_, rfl⟩
            have HSN := Lib.hid hs
            have HIN := Lib.hid hin
            rw [hs] at q1
            have hx0 : (0 : Int) ≤ (xn : Int) := by omega
            have hx1 : (xn : Int) < (mn : Int) := by omega
            clear hnt hr3 hbw hs hin
            by_cases hp2 : s.toList = name.toList
            · have HY : Hid ((refsM 1 fn nmf name lf) ++ refsM 0 mn nmm name (lm.take (k + 1)) = L ++ [(0, (xn : Int))]) := Lib.hid (by rw [HT.out, refsM_snoc_yes HIN.out (by simp [hasN, HSN.out, hp2]), ← List.append_assoc, hL])
              have hb2 : (s.toList == name.toList) = true := by simpa using hp2
              clear hL
              go_wp2_with (first
                | (go_at_call 40; refine (refIn_yes _ hx0 hx1).mono ?_; rintro e w' ⟨rfl, rfl⟩)
                | (at_builtin; refine wpList_append_lies _ rfl _ _ 40 rfl w1.heap.size 42 i0 (.agg #[.int .i64 0, .int .i64 0]) 2 16 Tryz.underlying40 hi iz0 iz1 iz2 rfl (by decide) _ L.length (flatR L) rfl (HO.out.alloc _) ⟨wr.heap.size, 0, none⟩ 1 1 [.int .i64 0, .int .i64 xn] rfl rfl (cell_two_new _ _ _ _) (by intro u hu; simp at hu; rcases hu with rfl | rfl <;> rfl) (by decide) (by unfold maxLen; omega) (by omega) (by have := HB.out.size; simp; omega) (wr.heap.size + 1) (by simp) ?_; intro gg cap' w3 hown' hgrow hat hltg; have HG := Lib.hid (And.intro hown' (And.intro hgrow hat)); clear hown' hgrow hat hltg))
              go_roundg g'
              case measure => omega
              case rel =>
                have hba : Below w1.heap.size w1 (wr.alloc (.cells #[.int .i64 0, .int .i64 xn] 42)) := HB.out.alloc HB.out.size _
                have hlt2 := fun k hk => ((HO.out.alloc (.cells #[.int .i64 0, .int .i64 xn] 42)).lt k hk).1
                refine ⟨k + 1, by omega, by omega, by go_num, ?_, Lib.hid (HV.out.grown ((Below.refl _ _).alloc (Nat.le_refl _) _) HG.out.2.1 (HG.out.2.2.imp id (fun h => h.trans (World.size_alloc _ _).symm))), Lib.hid (hba.grown HG.out.2.1 (by have := HB.out.size; simp; omega) (fun k hk => hlt2 k hk))⟩
                refine Lib.hid ?_
                show World.ownsRow _ _ _ _ _ _ _
                rw [HY.out, List.length_append, List.length_singleton, flatR_app]
                exact HG.out.1
            · have HY : Hid ((refsM 1 fn nmf name lf) ++ refsM 0 mn nmm name (lm.take (k + 1)) = L) := Lib.hid (by rw [HT.out, refsM_snoc_no (.inr (by simp [hasN, HSN.out, hp2])), hL])
              have hb2 : (s.toList == name.toList) = false := by simpa using hp2
              clear hL
              go_wp2_with (go_at_call 40; refine (refIn_yes _ hx0 hx1).mono ?_; rintro e w' ⟨rfl, rfl⟩)
              go_roundg g'
              case measure => omega
              case rel => exact ⟨k + 1, by omega, by omega, by go_num, Lib.hid (by rw [HY.out]; exact HO.out), HV, HB⟩
          · have hin' : inT mn x = false := by simpa using hin
            have HY : Hid ((refsM 1 fn nmf name lf) ++ refsM 0 mn nmm name (lm.take (k + 1)) = L) := Lib.hid (by rw [HT.out, refsM_snoc_no (.inl hin'), hL])
            have HOUT : Hid (x < 0 ∨ (mn : Int) ≤ x) := Lib.hid (by
              unfold inT at hin'
              rw [Bool.and_eq_false_iff, decide_eq_false_iff_not, decide_eq_false_iff_not] at hin'
              omega)
            clear hL hin hin' hbw
            go_wp2_with (go_at_call 40; refine (refIn_no _ HOUT.out).mono ?_; rintro e w' ⟨rfl, rfl⟩)
            go_roundg g'
            case measure => omega
            case rel => exact ⟨k + 1, by omega, by omega, by go_num, Lib.hid (by rw [HY.out]; exact HO.out), HV, HB⟩
        · have hke : k = lm.length := by omega
          have HON : Hid (OwnR wr w1.heap.size u7 (refsM 1 fn nmf name lf ++ refsM 0 mn nmm name lm)) := Lib.hid (by have h := HO.out; rw [hke, List.take_length] at h;  exact h)
          clear hke HO
          have HO := HON
          clear HON
          go_wp2
          go_loopg [7, 13] (ly.length + 1) (fun g v y wr => ∃ k : Nat, k ≤ ly.length ∧ ly.length - k < g ∧ y = .int .i64 k ∧ Hid (OwnR wr w1.heap.size v ((refsM 1 fn nmf name lf ++ refsM 0 mn nmm name lm) ++ refsM 2 yn nmy name (ly.take k))) ∧ Hid (VB V #[.string tnm, .int .i64 kd, .int .i64 fl, .int .i64 tow, .slice xa1 xn1 xc1, .slice xa2 xn2 xc2, .slice xa3 xn3 xc3, .slice qfa lf.length qfc, .slice qma lm.length qmc, .slice qya ly.length qyc, .slice xa4 xn4 xc4, .slice xa5 xn5 xc5, .int .i64 at_] wr v) ∧ Hid (Below w1.heap.size w1 wr))
          case atStart => exact ⟨0, by omega, by omega, rfl, Lib.hid (by simpa [refsM] using HO.out), HV, HB⟩
          case round =>
            clear HO HV HB
            obtain ⟨k, hk, hgk, rfl, HO, HV, HB⟩ := hrel
            obtain ⟨g', rfl⟩ : ∃ m, gk = m + 1 := ⟨gk - 1, by omega⟩
            have v7 := blk_cell HV.out.1 9
            by_cases hlt : k < ly.length
            · have hbw := HBW.out.trans (HB.out.mono HBW.out.size)
              obtain ⟨bi, oi, rfl, hbi, hel⟩ := HIY.out wr hbw (by omega)
              obtain ⟨x, hx⟩ : ∃ x, ly.getD k 0 = x := ⟨_, rfl⟩
              have q0 : wr.cell? ⟨bi, oi + k, none⟩ = some (.int .i64 x) := by rw [← hx]; exact hel k hlt
              have HT : Hid (ly.take (k + 1) = ly.take k ++ [x]) := Lib.hid (by rw [take_snocI ly k hlt, hx])
              have pp := blk_cell (HBX.out wr HB.out) 4
              obtain ⟨L, hL⟩ : ∃ L, (refsM 1 fn nmf name lf ++ refsM 0 mn nmm name lm) ++ refsM 2 yn nmy name (ly.take k) = L := ⟨_, rfl⟩
              have HLZ : Hid (L.length ≤ 600) := Lib.hid (by
                rw [← hL]
                have h1 := refsM_len 2 yn nmy name (ly.take k)
                have h2 := List.length_take_le k ly
                have h4 := bf.out
                have h5 := bm.out
                simp only [List.length_append, List.length_nil]
                omega)
              rw [hL] at HO
              have hlz := HLZ.out
              clear hel hx
              by_cases hin : inT yn x = true
              · obtain ⟨xn, rfl, hxm⟩ := inT_nat hin
                obtain ⟨a3, c3, he3, hr3⟩ := HNY.out
                injection he3 with e1 e2 e3
                subst e1 e3
                obtain ⟨bt, ot, rfl, hbt, hnt⟩ := hr3 (by omega)
                have q1 : wr.cell? ⟨bt, ot + xn * 13, none⟩ = some (.string (nmy xn)) := (hbw.cell (p := ⟨bt, ot + xn * 13, none⟩) hbt).trans (hnt xn hxm)
                obtain ⟨s, hs⟩ : ∃ s, nmy xn = s := ⟨_, rfl⟩
                have HSN := Lib.hid hs
                have HIN := Lib.hid hin
                rw [hs] at q1
                have hx0 : (0 : Int) ≤ (xn : Int) := by omega
                have hx1 : (xn : Int) < (yn : Int) := by omega
                clear hnt hr3 hbw hs hin
                by_cases hp2 : s.toList = name.toList
                · have HY : Hid ((refsM 1 fn nmf name lf ++ refsM 0 mn nmm name lm) ++ refsM 2 yn nmy name (ly.take (k + 1)) = L ++ [(2, (xn : Int))]) := Lib.hid (by rw [HT.out, refsM_snoc_yes HIN.out (by simp [hasN, HSN.out, hp2]), ← List.append_assoc, hL])
                  have hb2 : (s.toList == name.toList) = true := by simpa using hp2
                  clear hL
                  go_wp2_with (first
                    | (go_at_call 40; refine (refIn_yes _ hx0 hx1).mono ?_; rintro e w' ⟨rfl, rfl⟩)
                    | (at_builtin; refine wpList_append_lies _ rfl _ _ 40 rfl w1.heap.size 42 i0 (.agg #[.int .i64 0, .int .i64 0]) 2 16 Tryz.underlying40 hi iz0 iz1 iz2 rfl (by decide) _ L.length (flatR L) rfl (HO.out.alloc _) ⟨wr.heap.size, 0, none⟩ 1 1 [.int .i64 2, .int .i64 xn] rfl rfl (cell_two_new _ _ _ _) (by intro u hu; simp at hu; rcases hu with rfl | rfl <;> rfl) (by decide) (by unfold maxLen; omega) (by omega) (by have := HB.out.size; simp; omega) (wr.heap.size + 1) (by simp) ?_; intro gg cap' w3 hown' hgrow hat hltg; have HG := Lib.hid (And.intro hown' (And.intro hgrow hat)); clear hown' hgrow hat hltg))
                  go_roundg g'
                  case measure => omega
                  case rel =>
                    have hba : Below w1.heap.size w1 (wr.alloc (.cells #[.int .i64 2, .int .i64 xn] 42)) := HB.out.alloc HB.out.size _
                    have hlt2 := fun k hk => ((HO.out.alloc (.cells #[.int .i64 2, .int .i64 xn] 42)).lt k hk).1
                    refine ⟨k + 1, by omega, by omega, by go_num, ?_, Lib.hid (HV.out.grown ((Below.refl _ _).alloc (Nat.le_refl _) _) HG.out.2.1 (HG.out.2.2.imp id (fun h => h.trans (World.size_alloc _ _).symm))), Lib.hid (hba.grown HG.out.2.1 (by have := HB.out.size; simp; omega) (fun k hk => hlt2 k hk))⟩
                    refine Lib.hid ?_
                    show World.ownsRow _ _ _ _ _ _ _
                    rw [HY.out, List.length_append, List.length_singleton, flatR_app]
                    exact HG.out.1
                · have HY : Hid ((refsM 1 fn nmf name lf ++ refsM 0 mn nmm name lm) ++ refsM 2 yn nmy name (ly.take (k + 1)) = L) := Lib.hid (by rw [HT.out, refsM_snoc_no (.inr (by simp [hasN, HSN.out, hp2])), hL])
                  have hb2 : (s.toList == name.toList) = false := by simpa using hp2
                  clear hL
                  go_wp2_with (go_at_call 40; refine (refIn_yes _ hx0 hx1).mono ?_; rintro e w' ⟨rfl, rfl⟩)
                  go_roundg g'
                  case measure => omega
                  case rel => exact ⟨k + 1, by omega, by omega, by go_num, Lib.hid (by rw [HY.out]; exact HO.out), HV, HB⟩
              · have hin' : inT yn x = false := by simpa using hin
                have HY : Hid ((refsM 1 fn nmf name lf ++ refsM 0 mn nmm name lm) ++ refsM 2 yn nmy name (ly.take (k + 1)) = L) := Lib.hid (by rw [HT.out, refsM_snoc_no (.inl hin'), hL])
                have HOUT : Hid (x < 0 ∨ (yn : Int) ≤ x) := Lib.hid (by
                  unfold inT at hin'
                  rw [Bool.and_eq_false_iff, decide_eq_false_iff_not, decide_eq_false_iff_not] at hin'
                  omega)
                clear hL hin hin' hbw
                go_wp2_with (go_at_call 40; refine (refIn_no _ HOUT.out).mono ?_; rintro e w' ⟨rfl, rfl⟩)
                go_roundg g'
                case measure => omega
                case rel => exact ⟨k + 1, by omega, by omega, by go_num, Lib.hid (by rw [HY.out]; exact HO.out), HV, HB⟩
            · have hke : k = ly.length := by omega
              have HON : Hid (OwnR wr w1.heap.size u7 (refsM 1 fn nmf name lf ++ refsM 0 mn nmm name lm ++ refsM 2 yn nmy name ly)) := Lib.hid (by have h := HO.out; rw [hke, List.take_length] at h;  exact h)
              clear hke HO
              have HO := HON
              clear HON
              go_wp2
              go_ret
              exact ⟨_, rfl, owns_mono HO.out HB0.out.size, HB0.out.trans (HB.out.mono HB0.out.size)⟩

end Go.Proofs.YtlipfgdjbimfjaaGreatDoor
namespace Go.Proofs.YtlipfgdjbimfjaaGreatDoor
open Go.RowKit Go.Shelf Go.Sort
set_option maxRecDepth 100000

set_option maxHeartbeats 1000000 in
theorem declared_out (ca : Option Addr) (cn cc : Nat) (v1 v2 v3 v4 : Value) (mi c : Int) (name : ByteArray) (w : World) (hc : c < 0 ∨ (cn : Int) ≤ c) :
    Calls Tryz.prog 14 #[.agg #[.slice ca cn cc, v1, v2, v3, v4, .int .i64 mi], .int .i64 c, .string name] w (RetR w []) := by
  have HC := Lib.hid hc
  clear hc
  go_enter Tryz.func14, Tryz.ntmps14
  go_wp2_with fail
  refine (isIndex_out _ HC.out).mono ?_; rintro e w' ⟨rfl, rfl⟩
  go_wp2
  go_ret
  exact ⟨_, rfl, World.ownsRow_nil _ _ _ _, (Below.refl _ _).alloc (Nat.le_refl _) _⟩
set_option maxHeartbeats 1000000 in
theorem refDeclared_out (ca : Option Addr) (cn cc : Nat) (v1 v2 v3 v4 : Value) (mi c : Int) (name : ByteArray) (w : World) (hc : c < 0 ∨ (cn : Int) ≤ c) :
    Calls Tryz.prog 15 #[.agg #[.slice ca cn cc, v1, v2, v3, v4, .int .i64 mi], .int .i64 c, .string name] w (RetR w []) := by
  have HC := Lib.hid hc
  clear hc
  obtain ⟨w1, hw1⟩ : ∃ w1, w.alloc (.cells #[.slice ca cn cc, v1, v2, v3, v4, .int .i64 mi] 28) = w1 := ⟨_, rfl⟩
  obtain ⟨w2, hw2⟩ : ∃ w2, w1.alloc (.cells #[] 42) = w2 := ⟨_, rfl⟩
  have z1 : w1.heap.size = w.heap.size + 1 := by rw [← hw1]; exact World.size_alloc _ _
  have hb2 : Below w.heap.size w w2 := by rw [← hw2, ← hw1]; exact ((Below.refl _ _).alloc (Nat.le_refl _) _).alloc (by simp) _
  have hO2 : OwnR w2 w.heap.size (.slice (some ⟨w1.heap.size, 0, none⟩) 0 0) [] := by
    rw [← hw2]
    exact ⟨rfl, .inr ⟨w1.heap.size, 0, #[], rfl, by omega, heap_alloc_new w1 _, Nat.le_refl _, by decide, rfl, rfl⟩⟩
  have x1 : w2.cell? ⟨w.heap.size, 0, none⟩ = some (.slice ca cn cc) := by
    rw [← hw2]
    have h : w1.heap[w.heap.size]? = some (.cells #[.slice ca cn cc, v1, v2, v3, v4, .int .i64 mi] 28 (0, 0)) := by rw [← hw1]; exact heap_alloc_new w _
    exact blk_cell ((Below.heap_alloc _ _ _ (by omega)).trans h) 0
  have HW1 := Lib.hid hw1
  have HW2 := Lib.hid hw2
  have HO2 := Lib.hid hO2
  have HB2 := Lib.hid hb2
  clear hw1 hw2 hO2 hb2 z1
  go_enter Tryz.func15, Tryz.ntmps15
  go_upto_region 1 with fail
  rw [HW1.out]
  go_upto_region 2 with fail
  rw [HW2.out]
  go_wp2_with fail
  refine (refIn_no _ HC.out).mono ?_; rintro e w' ⟨rfl, rfl⟩
  go_wp2
  go_ret
  exact ⟨_, rfl, HO2.out, HB2.out⟩

set_option maxHeartbeats 2000000 in
/-- Equal of two rows of the same references. -/
theorem equal_refs (l : List (Int × Int)) (B B' : Nat) (v v' : Value) (w : World) (hl : l.length ≤ 600) (h : OwnR w B v l) (h' : OwnR w B' v' l) :
    Calls Tryz.prog 13 #[v, v'] w fun e w' => e = .returned (.bool true) ∧ Below w.heap.size w w' := by
  obtain ⟨a, cap, rfl, hr⟩ := ownR_cells h
  obtain ⟨a', cap', rfl, hr'⟩ := ownR_cells h'
  have HR := Lib.hid hr
  have HR' := Lib.hid hr'
  clear h h' hr hr'
  go_enter Tryz.func13, Tryz.ntmps13
  go_wp2
  go_loopg [13] (l.length + 1) (fun g y wr => ∃ k : Nat, k ≤ l.length ∧ l.length - k < g ∧ y = .int .i64 k ∧ Hid (Below w.heap.size w wr))
  case atStart => exact ⟨0, by omega, by omega, rfl, Lib.hid (Below.refl _ _)⟩
  case round =>
    obtain ⟨k, hk, hgk, rfl, HB⟩ := hrel
    obtain ⟨g', rfl⟩ : ∃ m, gk = m + 1 := ⟨gk - 1, by omega⟩
    by_cases hlt : k < l.length
    · obtain ⟨b1, rfl, -, hb1, hc1⟩ := HR.out (by omega)
      obtain ⟨b2, rfl, -, hb2, hc2⟩ := HR'.out (by omega)
      obtain ⟨p, hp⟩ : ∃ p, l.getD k (0, 0) = p := ⟨_, rfl⟩
      have c1 := hc1 k hlt
      have c2 := hc2 k hlt
      rw [hp] at c1 c2
      have q1 : wr.cell? ⟨b1, k * 2, none⟩ = some (.int .i64 p.1) := by rw [← Nat.zero_add (k * 2)]; exact (HB.out.cell (p := ⟨b1, 0 + k * 2, none⟩) hb1).trans c1.1
      have q2 : wr.cell? ⟨b1, k * 2 + 1, none⟩ = some (.int .i64 p.2) := by rw [← Nat.zero_add (k * 2)]; exact (HB.out.cell (p := ⟨b1, 0 + k * 2 + 1, none⟩) hb1).trans c1.2
      have q3 : wr.cell? ⟨b2, k * 2, none⟩ = some (.int .i64 p.1) := by rw [← Nat.zero_add (k * 2)]; exact (HB.out.cell (p := ⟨b2, 0 + k * 2, none⟩) hb2).trans c2.1
      have q4 : wr.cell? ⟨b2, k * 2 + 1, none⟩ = some (.int .i64 p.2) := by rw [← Nat.zero_add (k * 2)]; exact (HB.out.cell (p := ⟨b2, 0 + k * 2 + 1, none⟩) hb2).trans c2.2
      clear hc1 hc2 c1 c2 hp
      go_upto_region 6 with fail
      go_quiet (fail)
      clear q1 q2 q3 q4
      generalize hWX : World.drewN wr _ = wX
      have HX : Hid (Below w.heap.size w wX) := Lib.hid (by rw [← hWX]; exact HB.out.trans ⟨rfl, rfl, rfl, Nat.le_refl _, fun _ _ => rfl⟩)
      clear hWX
      go_wp2
      go_roundg g'
      case measure => omega
      case rel => exact ⟨k + 1, by omega, by omega, by go_num, HX⟩
    · go_wp2
      go_ret
      exact ⟨rfl, HB.out⟩
end Go.Proofs.YtlipfgdjbimfjaaGreatDoor
