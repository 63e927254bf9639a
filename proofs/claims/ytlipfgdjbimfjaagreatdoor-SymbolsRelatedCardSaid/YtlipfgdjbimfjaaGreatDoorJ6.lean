/- The law SymbolsDeclares, walked. -/
import Derived.Test.YtlipfgdjbimfjaaGreatDoorH2
import Derived.Test.YtlipfgdjbimfjaaGreatDoorJ5
import Derived.Test.YtlipfgdjbimfjaaGreatDoorP26
namespace Go.Proofs.YtlipfgdjbimfjaaGreatDoor
open Go.RowKit Go.Shelf Go.Sort
set_option maxRecDepth 100000

variable {H : Type} {enc : TypeId × Value → H}
/-- The classes of a program's value, with what each reads as. -/
theorem cls_old2 {W0 : World} {v : Value} (h : Rv enc Tryz.prog W0 22 [v]) : ∃ (n : Nat) (d : Nat → ClS), n ≤ 17592186044416 ∧ (∀ i, i < n → (d i).ok enc W0 ∧ Rv enc Tryz.prog W0 36 (d i).cells) ∧ CLS W0 v n d := by
  obtain ⟨a, len, cap, he, _, hz, hr⟩ := h.slice Tryz.underlying22 cells36 (by decide)
  have hz2 : len * 8 ≤ reachBytes := Nat.le_trans (Nat.mul_le_mul_left _ bytes36) hz
  injection he with he _
  have hlen : len ≤ 17592186044416 := by unfold reachBytes at hz2; omega
  by_cases h0 : 0 < len
  · obtain ⟨b, off, h1, h2, h3⟩ := hr h0
    have each : ∀ i : Nat, ∃ t : ClS, i < len → (t.ok enc W0 ∧ Rv enc Tryz.prog W0 36 t.cells) ∧ ∀ j, j < 13 → W0.cell? ⟨b, off + i * 13 + j, none⟩ = t.cells[j]? := by
      intro i
      by_cases hi : i < len
      · obtain ⟨cs, hl, hc, hrv⟩ := h3 i hi
        obtain ⟨t, rfl, hok⟩ := rv_class2 hrv
        exact ⟨t, fun _ => ⟨⟨hok, hrv⟩, hc⟩⟩
      · exact ⟨⟨ByteArray.empty, 0, 0, 0, none, 0, 0, none, 0, 0, none, 0, 0, none, 0, 0, none, 0, 0, none, 0, 0, none, 0, 0, none, 0, 0, 0⟩, fun h => absurd h hi⟩
    obtain ⟨d, hd⟩ := Classical.axiomOfChoice each
    exact ⟨len, d, hlen, fun i hi => (hd i hi).1, a, cap, he, fun _ => ⟨b, off, h1, h2, fun w hb i hi j hj => (hb.cell (p := ⟨b, off + i * 13 + j, none⟩) h2).trans ((hd i hi).2 j hj)⟩⟩
  · exact ⟨len, fun _ => ⟨ByteArray.empty, 0, 0, 0, none, 0, 0, none, 0, 0, none, 0, 0, none, 0, 0, none, 0, 0, none, 0, 0, none, 0, 0, none, 0, 0, 0⟩, hlen, fun i hi => absurd hi (by omega), a, cap, he, fun h => absurd h h0⟩
theorem ls_of_cls {W0 : World} {v : Value} {n : Nat} {d : Nat → ClS} (h : CLS W0 v n d) : ∀ (w : World) (pl : Nat), Below W0.heap.size W0 w → W0.heap.size ≤ pl → LS 13 w pl v n (fun i => (d i).cells) := by
  intro w pl hb hp
  obtain ⟨a, cap, h1, h2⟩ := h
  refine ⟨a, cap, h1, fun h0 => ?_⟩
  obtain ⟨b, off, e1, e2, e3⟩ := h2 h0
  exact ⟨b, off, e1, by omega, by have := hb.size; omega, fun i hi j hj => e3 w hb i hi j hj⟩
/-- Few, over classes as data. -/
theorem few_cls (W0 : World) (ca : Option Addr) (n cc : Nat) (d : Nat → ClS) (mv fv tv yv : Value) (mi : Int) (hn : n ≤ 17592186044416) (hd : ∀ i, i < n → (d i).ok enc W0 ∧ Rv enc Tryz.prog W0 36 (d i).cells) (hC : CLS W0 (.slice ca n cc) n d) (hm : Rv enc Tryz.prog W0 23 [mv]) (hf : Rv enc Tryz.prog W0 24 [fv]) (ht : Rv enc Tryz.prog W0 25 [tv]) (hy : Rv enc Tryz.prog W0 26 [yv]) :
    ∀ w, Below W0.heap.size W0 w → Calls Tryz.prog 9 #[.agg #[.slice ca n cc, mv, fv, tv, yv, .int .i64 mi]] w fun e w' => ∃ b, e = .returned (.bool b) ∧ Below w.heap.size w w' ∧ (b = true → n ≤ 25 ∧ ∀ i, i < n → (d i).tn + (d i).qn + (d i).fn + (d i).mn + (d i).yn ≤ 200) := fun w hb => by
  obtain ⟨_, _, _, _, _, _, _, _, c⟩ := few_sizes W0 w ca n cc (fun i => (d i).cells) hn (fun i hi => ⟨rfl, (hd i hi).2⟩) (ls_of_cls hC) mv fv tv yv mi hm hf ht hy hb
  refine c.mono fun e w' ⟨b, h1, h2, h3⟩ => ⟨b, h1, h2, fun hb' => ⟨(h3 hb').1, fun i hi => ?_⟩⟩
  obtain ⟨t, e1, e2⟩ := (h3 hb').2 i hi
  obtain ⟨tnm, kd, fl, tow, ta, tn, tc, pv, qa, qn, qc, fa, fn, fc, ma, mn, mc, ya, yn, yc, sv, iv, at_⟩ := t
  simp only [ClS.cells, ClD.cells, List.cons.injEq, Value.slice.injEq] at e1
  simp only at e2
  omega

set_option maxHeartbeats 4000000 in
theorem declares_any (W0 : World) (ca : Option Addr) (cn cc : Nat) (ma : Option Addr) (mn mc : Nat) (fa : Option Addr) (fn fc : Nat) (ta : Option Addr) (tn tc : Nat) (ya : Option Addr) (yn yc : Nat) (mi c : Int) (name : ByteArray)
    (hc : Rv enc Tryz.prog W0 22 [.slice ca cn cc]) (hm : Rv enc Tryz.prog W0 23 [.slice ma mn mc]) (hf : Rv enc Tryz.prog W0 24 [.slice fa fn fc]) (ht : Rv enc Tryz.prog W0 25 [.slice ta tn tc]) (hy : Rv enc Tryz.prog W0 26 [.slice ya yn yc])
    (hG : Gl W0) (h0 : 0 < W0.heap.size) :
    Calls Tryz.prog 4 #[.agg #[.slice ca cn cc, .slice ma mn mc, .slice fa fn fc, .slice ta tn tc, .slice ya yn yc, .int .i64 mi], .int .i64 c, .string name] W0 (LawR W0) := by
  obtain ⟨n, d, hn, hd, hC⟩ := cls_old2 hc
  obtain rfl : n = cn := by
    obtain ⟨a, cap, he, -⟩ := hC
    injection he with e1 e2 e3
    exact e2.symm
  have cF := few_cls W0 ca n cc d _ _ _ _ mi hn hd hC hm hf ht hy
  have cA : ∀ w, Below W0.heap.size W0 w → Calls Tryz.prog 10 #[] w fun e w' => e = .returned (.bool true) ∧ Below w.heap.size w w' := fun w hb => awake_any w (hG.bel hb h0) (by have := hb.size; omega)
  -- what is declared: one list for both
  have cD : (∀ i, i < n → (d i).tn + (d i).qn + (d i).fn + (d i).mn + (d i).yn ≤ 200) → ∃ l : List (Int × Int), l.length ≤ 600 ∧ ∀ w, Below W0.heap.size W0 w →
      Calls Tryz.prog 14 #[.agg #[.slice ca n cc, .slice ma mn mc, .slice fa fn fc, .slice ta tn tc, .slice ya yn yc, .int .i64 mi], .int .i64 c, .string name] w (RetR w l) ∧
      Calls Tryz.prog 15 #[.agg #[.slice ca n cc, .slice ma mn mc, .slice fa fn fc, .slice ta tn tc, .slice ya yn yc, .int .i64 mi], .int .i64 c, .string name] w (RetR w l) := by
    intro hs
    by_cases hin : 0 ≤ c ∧ c < n
    · obtain ⟨k, rfl⟩ : ∃ k : Nat, c = k := ⟨c.toNat, by omega⟩
      have hk : k < n := by omega
      have hok := (hd k hk).1
      obtain ⟨lf, hlf, hLf⟩ := ints_old hok.fs
      obtain ⟨lm, hlm, hLm⟩ := ints_old hok.ms
      obtain ⟨ly, hly, hLy⟩ := ints_old hok.ys
      have hz := hs k hk
      obtain ⟨nn, nmm, hmn, hNm⟩ := names_methods hm
      obtain ⟨nf, nmf, hfn, hNf⟩ := names_fields hf
      obtain ⟨ny, nmy, hyn, hNy⟩ := names_types hy
      obtain rfl : nn = mn := by
        obtain ⟨a, cap, he, -⟩ := hNm
        injection he with e1 e2 e3
        exact e2.symm
      obtain rfl : nf = fn := by
        obtain ⟨a, cap, he, -⟩ := hNf
        injection he with e1 e2 e3
        exact e2.symm
      obtain rfl : ny = yn := by
        obtain ⟨a, cap, he, -⟩ := hNy
        injection he with e1 e2 e3
        exact e2.symm
      refine ⟨refsM 1 nf nmf name lf ++ refsM 0 nn nmm name lm ++ refsM 2 ny nmy name ly, ?_, fun w hb => ⟨?_, ?_⟩⟩
      · have h1 := refsM_len 1 nf nmf name lf
        have h2 := refsM_len 0 nn nmm name lm
        have h3 := refsM_len 2 ny nmy name ly
        simp only [List.length_append]
        omega
      · exact declared_in W0 ca n cc ma nn mc fa nf fc ta tn tc ya ny yc mi d hn hC nmm nmf nmy hNm hNf hNy hmn hfn hyn k hk lf lm ly hlf hlm hly (by omega) (by omega) (by omega) hLf hLm hLy name w hb
      · exact refDeclared_in W0 ca n cc ma nn mc fa nf fc ta tn tc ya ny yc mi d hn hC nmm nmf nmy hNm hNf hNy hmn hfn hyn k hk lf lm ly hlf hlm hly (by omega) (by omega) (by omega) hLf hLm hLy name w hb
    · exact ⟨[], by simp, fun w hb => ⟨declared_out _ _ _ _ _ _ _ _ _ _ _ (by omega), refDeclared_out _ _ _ _ _ _ _ _ _ _ _ (by omega)⟩⟩
  obtain ⟨w1, hw1⟩ : ∃ w1, W0.alloc (.cells #[.slice ca n cc, .slice ma mn mc, .slice fa fn fc, .slice ta tn tc, .slice ya yn yc, .int .i64 mi] 28) = w1 := ⟨_, rfl⟩
  have hb1 : Below W0.heap.size W0 w1 := by rw [← hw1]; exact (Below.refl _ _).alloc (Nat.le_refl _) _
  have x1 : w1.heap[W0.heap.size]? = some (.cells #[.slice ca n cc, .slice ma mn mc, .slice fa fn fc, .slice ta tn tc, .slice ya yn yc, .int .i64 mi] 28 (0, 0)) := by rw [← hw1]; exact heap_alloc_new W0 _
  have HCF := Lib.hid cF
  have HCA := Lib.hid cA
  have HCD := Lib.hid cD
  have HW1 := Lib.hid hw1
  have HB1 := Lib.hid hb1
  have X1 := Lib.hid x1
  clear cF cA cD hw1 hb1 x1 hd hc hm hf ht hy hG hC
  go_enter Tryz.func4, Tryz.ntmps4
  go_upto_region 1 with fail
  rw [HW1.out]
  obtain ⟨s0, s1, s2, s3, s4, s5⟩ := px_of X1.out
  go_wp2_with fail
  refine (HCF.out _ HB1.out).mono ?_
  rintro e w3 ⟨b, rfl, hb3, hs3⟩
  have HB3 := Lib.hid (HB1.out.trans (hb3.mono HB1.out.size))
  have HP3 := Lib.hid ((hb3.block _ (Array.getElem?_eq_some_iff.1 X1.out).1).trans X1.out)
  have HS3 := Lib.hid hs3
  clear hb3 hs3 s0 s1 s2 s3 s4 s5
  cases b with
  | false =>
    go_wp2_with fail
    refine (HCA.out _ HB3.out).mono ?_
    rintro e w6 ⟨rfl, hb6⟩
    have HB6 := Lib.hid (HB3.out.trans (hb6.mono HB3.out.size))
    clear hb6
    go_wp2
    go_ret
    exact ⟨rfl, HB6.out⟩
  | true =>
  by_cases hl : 100 < (name.size : Int)
  · have d1 : decide (100 < (name.size : Int)) = true := by simpa using hl
    go_wp2_with fail
    refine (HCA.out _ HB3.out).mono ?_
    rintro e w6 ⟨rfl, hb6⟩
    have HB6 := Lib.hid (HB3.out.trans (hb6.mono HB3.out.size))
    clear hb6
    go_wp2
    go_ret
    exact ⟨rfl, HB6.out⟩
  have d1 : decide (100 < (name.size : Int)) = false := by simpa using hl
  obtain ⟨l, hll, hcl⟩ := HCD.out (HS3.out rfl).2
  have HCL := Lib.hid hcl
  have HLL := Lib.hid hll
  have HBD : Hid (Below W0.heap.size W0 w3.drew) := Lib.hid (HB3.out.trans ((below_drw w3).mono HB3.out.size))
  have HPD : Hid (w3.drew.heap[W0.heap.size]? = some (.cells #[.slice ca n cc, .slice ma mn mc, .slice fa fn fc, .slice ta tn tc, .slice ya yn yc, .int .i64 mi] 28 (0, 0))) := HP3
  have HSD : Hid (PX W0.heap.size ca n cc ma mn mc fa fn fc ta tn tc ya yn yc mi w3.drew) := Lib.hid (px_of HPD.out)
  clear hcl hll HS3 HCD
  go_upto_region 3 with fail
  clear d1
  go_region_held3 (fun w' => w'.cell? ⟨W0.heap.size, 0, none⟩ = some (.slice ca n cc) ∧ w'.cell? ⟨W0.heap.size, 1, none⟩ = some (.slice ma mn mc) ∧ w'.cell? ⟨W0.heap.size, 2, none⟩ = some (.slice fa fn fc) ∧ w'.cell? ⟨W0.heap.size, 3, none⟩ = some (.slice ta tn tc) ∧ w'.cell? ⟨W0.heap.size, 4, none⟩ = some (.slice ya yn yc) ∧ w'.cell? ⟨W0.heap.size, 5, none⟩ = some (.int .i64 mi)) (first | exact HSD.out | exact HS6.out | exact HS7.out | exact HS8.out | exact HS9.out | go_keep)
    (first
      | (go_at_call 10; refine (HCA.out _ HBD.out).mono ?_; rintro e w6 ⟨rfl, hb6⟩; have HB6 : Hid (Below W0.heap.size W0 w6) := Lib.hid (HBD.out.trans (hb6.mono HBD.out.size)); have HP6 := Lib.hid ((hb6.block _ (Array.getElem?_eq_some_iff.1 HPD.out).1).trans HPD.out); have HS6 : Hid (PX W0.heap.size ca n cc ma mn mc fa fn fc ta tn tc ya yn yc mi w6) := Lib.hid (px_of HP6.out); clear hb6)
      | (go_at_call 14; refine (HCL.out _ HB6.out).1.mono ?_; rintro e w7 ⟨v7, rfl, ho7, hb7⟩; have HB7 : Hid (Below W0.heap.size W0 w7) := Lib.hid (HB6.out.trans (hb7.mono HB6.out.size)); have HP7 := Lib.hid ((hb7.block _ (Array.getElem?_eq_some_iff.1 HP6.out).1).trans HP6.out); have HS7 : Hid (PX W0.heap.size ca n cc ma mn mc fa fn fc ta tn tc ya yn yc mi w7) := Lib.hid (px_of HP7.out); have HO7 := Lib.hid ho7; clear hb7 ho7)
      | (go_at_call 15; refine (HCL.out _ HB7.out).2.mono ?_; rintro e w8 ⟨v8, rfl, ho8, hb8⟩; have HB8 : Hid (Below W0.heap.size W0 w8) := Lib.hid (HB7.out.trans (hb8.mono HB7.out.size)); have HP8 := Lib.hid ((hb8.block _ (Array.getElem?_eq_some_iff.1 HP7.out).1).trans HP7.out); have HS8 : Hid (PX W0.heap.size ca n cc ma mn mc fa fn fc ta tn tc ya yn yc mi w8) := Lib.hid (px_of HP8.out); have HO8 := Lib.hid ho8; have HO78 := Lib.hid (own_bel HO7.out hb8); clear hb8 ho8)
      | (go_at_call 13; refine (equal_refs l _ _ _ _ _ HLL.out HO78.out HO8.out).mono ?_; rintro e w9 ⟨rfl, hb9⟩; have HB9 : Hid (Below W0.heap.size W0 w9) := Lib.hid (HB8.out.trans (hb9.mono HB8.out.size)); have HP9 := Lib.hid ((hb9.block _ (Array.getElem?_eq_some_iff.1 HP8.out).1).trans HP8.out); have HS9 : Hid (PX W0.heap.size ca n cc ma mn mc fa fn fc ta tn tc ya yn yc mi w9) := Lib.hid (px_of HP9.out); clear hb9))
  go_wp2
  go_ret
  exact ⟨ret_bool (by simp), HB9.out⟩
end Go.Proofs.YtlipfgdjbimfjaaGreatDoor
