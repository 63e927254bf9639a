/- Declared of the program: the references, in order. -/
import Derived.Test.YtlipfgdjbimfjaaGreatDoorJ2
import Derived.Deep.RegionHeld3
namespace Go.Proofs.YtlipfgdjbimfjaaGreatDoor
open Go.RowKit Go.Shelf Go.Sort
set_option maxRecDepth 100000

theorem own_bel {w w' : World} {B : Nat} {e : TypeId} {s : Nat} {v : Value} {n : Nat} {xs : List Value} (h : w.ownsRow B e s v n xs) (hb : Below w.heap.size w w') : w'.ownsRow B e s v n xs := by
  refine ⟨h.1, ?_⟩
  rcases h.2 with h | ⟨g, cap, cur, hv, hg, hh, rest⟩
  · exact .inl h
  · exact .inr ⟨g, cap, cur, hv, hg, (hb.block g (Array.getElem?_eq_some_iff.1 hh).1).trans hh, rest⟩
theorem below_drw (w : World) : Below w.heap.size w w.drew := ⟨rfl, rfl, rfl, Nat.le_refl _, fun _ _ => rfl⟩
theorem inT_nat {m : Nat} {x : Int} (h : inT m x = true) : ∃ k : Nat, x = k ∧ k < m := by
  unfold inT at h
  rw [Bool.and_eq_true, decide_eq_true_eq, decide_eq_true_eq] at h
  exact ⟨x.toNat, by omega, by omega⟩

set_option maxHeartbeats 8000000 in
theorem declared_in (W0 : World) (ca : Option Addr) (cn cc : Nat) (ma : Option Addr) (mn mc : Nat) (fa : Option Addr) (fn fc : Nat) (ta : Option Addr) (tn tc : Nat) (ya : Option Addr) (yn yc : Nat) (mi : Int) (d : Nat → ClS) (hn : cn ≤ 17592186044416) (hC : CLS W0 (.slice ca cn cc) cn d)
    (nmm nmf nmy : Nat → ByteArray) (hNm : NmT 13 W0 (.slice ma mn mc) mn nmm) (hNf : NmT 9 W0 (.slice fa fn fc) fn nmf) (hNy : NmT 13 W0 (.slice ya yn yc) yn nmy) (hmn : mn ≤ 17592186044416) (hfn : fn ≤ 17592186044416) (hyn : yn ≤ 17592186044416)
    (c : Nat) (hc : c < cn) (lf lm ly : List Int) (hlf : lf.length = (d c).fn) (hlm : lm.length = (d c).mn) (hly : ly.length = (d c).yn) (zf : lf.length ≤ 200) (zm : lm.length ≤ 200) (zy : ly.length ≤ 200) (hLf : ILs W0 (d c).fa lf) (hLm : ILs W0 (d c).ma lm) (hLy : ILs W0 (d c).ya ly)
    (name : ByteArray) (w : World) (hb : Below W0.heap.size W0 w) :
    Calls Tryz.prog 14 #[.agg #[.slice ca cn cc, .slice ma mn mc, .slice fa fn fc, .slice ta tn tc, .slice ya yn yc, .int .i64 mi], .int .i64 c, .string name] w (RetR w (refsM 1 fn nmf name lf ++ refsM 0 mn nmm name lm ++ refsM 2 yn nmy name ly)) := by
  obtain ⟨i0, hi, iz0, iz1, iz2⟩ := info_parts info42
  obtain ⟨w1, hw1⟩ : ∃ w1, w.alloc (.cells #[.slice ca cn cc, .slice ma mn mc, .slice fa fn fc, .slice ta tn tc, .slice ya yn yc, .int .i64 mi] 28) = w1 := ⟨_, rfl⟩
  have hb1 : Below w.heap.size w w1 := by rw [← hw1]; exact (Below.refl _ _).alloc (Nat.le_refl _) _
  have hz1 : w1.heap.size = w.heap.size + 1 := by rw [← hw1]; exact World.size_alloc _ _
  have x1 : w1.heap[w.heap.size]? = some (.cells #[.slice ca cn cc, .slice ma mn mc, .slice fa fn fc, .slice ta tn tc, .slice ya yn yc, .int .i64 mi] 28 (0, 0)) := by rw [← hw1]; exact heap_alloc_new w _
  obtain ⟨a', cap', he, hr⟩ := hC
  injection he with e1 e2 e3
  subst e1 e3
  obtain ⟨b, off, rfl, hbs, hel⟩ := hr (by omega)
  have hB1 : Below W0.heap.size W0 w1 := hb.trans (hb1.mono hb.size)
  have q : ∀ wr, Below W0.heap.size W0 wr → ∀ j, j < 13 → wr.cell? ⟨b, off + c * 13 + j, none⟩ = (d c).cells[j]? := fun wr hw j hj => hel wr hw c hc j hj
  obtain ⟨t, ht⟩ : ∃ t, d c = t := ⟨_, rfl⟩
  rw [ht] at q hlf hlm hly hLf hLm hLy
  obtain ⟨tnm, kd, fl, tow, xa1, xn1, xc1, xa2, xn2, xc2, xa3, xn3, xc3, qfa, qfn, qfc, qma, qmn, qmc, qya, qyn, qyc, xa4, xn4, xc4, xa5, xn5, xc5, at_⟩ := t
  simp only at hlf hlm hly hLf hLm hLy
  subst hlf hlm hly
  have cf : ∀ wr, Below W0.heap.size W0 wr → wr.cell? ⟨b, off + c * 13 + 7, none⟩ = some (.slice qfa lf.length qfc) := fun wr hw => q wr hw 7 (by decide)
  have cm : ∀ wr, Below W0.heap.size W0 wr → wr.cell? ⟨b, off + c * 13 + 8, none⟩ = some (.slice qma lm.length qmc) := fun wr hw => q wr hw 8 (by decide)
  have cy : ∀ wr, Below W0.heap.size W0 wr → wr.cell? ⟨b, off + c * 13 + 9, none⟩ = some (.slice qya ly.length qyc) := fun wr hw => q wr hw 9 (by decide)
  have ilf : ∀ wr, Below W0.heap.size W0 wr → ILs wr qfa lf := fun wr hw => hLf.bel hw
  have ilm : ∀ wr, Below W0.heap.size W0 wr → ILs wr qma lm := fun wr hw => hLm.bel hw
  have ily : ∀ wr, Below W0.heap.size W0 wr → ILs wr qya ly := fun wr hw => hLy.bel hw
  have HCF := Lib.hid cf
  have HCM := Lib.hid cm
  have HCY := Lib.hid cy
  have HIF := Lib.hid ilf
  have HIM := Lib.hid ilm
  have HIY := Lib.hid ily
  have HNM := Lib.hid hNm
  have HNF := Lib.hid hNf
  have HNY := Lib.hid hNy
  have HB0 := Lib.hid hb1
  have HBW := Lib.hid hB1
  have X1 := Lib.hid x1
  have HW1 := Lib.hid hw1
  have HZ1 := Lib.hid hz1
  have bf := Lib.hid (refsM_len 1 fn nmf name lf)
  have bm := Lib.hid (refsM_len 0 mn nmm name lm)
  have by_ := Lib.hid (refsM_len 2 yn nmy name ly)
  obtain ⟨W, hW⟩ : ∃ W, W = w.heap.size := ⟨_, rfl⟩
  have HWE := Lib.hid hW
  have X1 : Hid (w1.heap[W]? = some (.cells #[.slice (some ⟨b, off, none⟩) cn cc, .slice ma mn mc, .slice fa fn fc, .slice ta tn tc, .slice ya yn yc, .int .i64 mi] 28 (0, 0))) := Lib.hid (by rw [hW]; exact X1.out)
  have hci : (0 : Int) ≤ (c : Int) := by omega
  have hcn : (c : Int) < (cn : Int) := by omega
  have p0 := blk_cell x1 0
  -- the box in a later world
  have bx : ∀ wr, Below w1.heap.size w1 wr → wr.heap[W]? = some (.cells #[.slice (some ⟨b, off, none⟩) cn cc, .slice ma mn mc, .slice fa fn fc, .slice ta tn tc, .slice ya yn yc, .int .i64 mi] 28 (0, 0)) := fun wr hw => (hw.block W (by have := HZ1.out; omega)).trans X1.out
  have HBX := Lib.hid bx
  clear hw1 hb1 hz1 x1 hr hel q ht hB1 hLf hLm hLy cf cm cy ilf ilm ily hNm hNf hNy hW bx hb hbs
  go_enter Tryz.func14, Tryz.ntmps14
  go_upto_region 1 with fail
  rw [HW1.out, ← HWE.out]
  rw [← HWE.out] at p0
  go_wp2_with fail
  refine (isIndex_in _ hci hcn).mono ?_; rintro e w' ⟨rfl, rfl⟩
  go_upto_region 5 with fail
  clear p0
  have HO : Hid (OwnR w1 w1.heap.size (.slice none 0 0) []) := Lib.hid (World.ownsRow_nil _ _ _ _)
  have HB : Hid (Below w1.heap.size w1 w1) := Lib.hid (Below.refl _ _)
  have hbw : Below W0.heap.size W0 w1.drew := (HBW.out.trans (HB.out.mono HBW.out.size)).trans ((below_drw w1).mono (HBW.out.trans (HB.out.mono HBW.out.size)).size)
  have cE := existing_any qfa qfc lf fn w1.drew (by omega) (HIF.out _ hbw)
  have HS0 : Hid (w1.drew.cell? ⟨b, off + c * 13 + 7, none⟩ = some (.slice qfa lf.length qfc) ∧ w1.drew.cell? ⟨W, 2, none⟩ = some (.slice fa fn fc)) := Lib.hid ⟨HCF.out _ hbw, blk_cell (HBX.out w1.drew (HB.out.trans ((below_drw w1).mono HB.out.size))) 2⟩
  have HCE := Lib.hid cE
  have HBD : Hid (Below w1.heap.size w1 w1.drew) := Lib.hid (HB.out.trans ((below_drw w1).mono HB.out.size))
  have HOD : Hid (OwnR w1.drew w1.heap.size (.slice none 0 0) ([] : List (Int × Int))) := Lib.hid (own_bel HO.out (below_drw w1))
  clear hbw cE HO HB
  go_region_held3 (fun w' => w'.cell? ⟨b, off + c * 13 + 7, none⟩ = some (.slice qfa lf.length qfc) ∧ w'.cell? ⟨W, 2, none⟩ = some (.slice fa fn fc)) (first | exact HS0.out | exact HS1.out | go_keep)
    (first
      | (go_at_call 39; refine HCE.out.mono ?_; rintro e w5 ⟨v5, rfl, ho5, hb5⟩; have HB5 : Hid (Below w1.heap.size w1 w5) := Lib.hid (HBD.out.trans (hb5.mono HBD.out.size)); have HS1 : Hid (w5.cell? ⟨b, off + c * 13 + 7, none⟩ = some (.slice qfa lf.length qfc) ∧ w5.cell? ⟨W, 2, none⟩ = some (.slice fa fn fc)) := Lib.hid ⟨HCF.out _ (HBW.out.trans (HB5.out.mono HBW.out.size)), blk_cell (HBX.out w5 HB5.out) 2⟩; have HOD5 : Hid (OwnR w5 w1.heap.size (.slice none 0 0) ([] : List (Int × Int))) := Lib.hid (own_bel HOD.out hb5); have HEC : Hid (EC w5 v5 (.slice none 0 0) (lf.filter (inT fn))) := Lib.hid (EC.of_own ho5 (fun k hk => (HOD.out.lt k hk).2)); obtain ⟨ea, ec, rfl⟩ := own_shape ho5; clear hb5 ho5))
  clear HCE HS0 HS1 HOD HBD
  obtain ⟨E, hE⟩ : ∃ E, lf.filter (inT fn) = E := ⟨_, rfl⟩
  have HEL := Lib.hid (show E.length ≤ 200 by rw [← hE]; have := List.length_filter_le (inT fn) lf; omega)
  have HEM : Hid (∀ k, k < E.length → inT fn (E.getD k 0) = true) := Lib.hid (fun k hk => by
    have hm : E.getD k 0 ∈ lf.filter (inT fn) := by rw [hE, List.getD_eq_getElem?_getD, List.getElem?_eq_getElem hk]; exact List.getElem_mem hk
    exact (List.mem_filter.1 hm).2)
  have HRE : Hid (refsM 1 fn nmf name lf = (E.filter (hasN nmf name)).map fun i => (1, i)) := Lib.hid (by rw [← hE]; rfl)
  rw [hE] at HEC
  try rw [hE]
  clear hE
  go_wp2
  go_loopg [7, 34] (E.length + 1) (fun g v y wr => ∃ k : Nat, k ≤ E.length ∧ E.length - k < g ∧ y = .int .i64 k ∧ Hid (OwnR wr w1.heap.size v (([] : List (Int × Int)) ++ ((E.take k).filter (hasN nmf name)).map fun i => (1, i))) ∧ Hid (EC wr (.slice ea E.length ec) v E) ∧ Hid (Below w1.heap.size w1 wr))
  case atStart => exact ⟨0, by omega, by omega, rfl, Lib.hid (by simpa using HOD5.out), HEC, HB5⟩
  case round =>
    obtain ⟨k, hk, hgk, rfl, HO, HC, HB⟩ := hrel
    obtain ⟨g', rfl⟩ : ∃ m, gk = m + 1 := ⟨gk - 1, by omega⟩
    by_cases hlt : k < E.length
    · obtain ⟨a2, c2, he2, hr2⟩ := HC.out
      injection he2 with e1 e2 e3
      subst e1 e3
      obtain ⟨g5, rfl, hg5, hne5, hel5⟩ := hr2 (by omega)
      obtain ⟨xn, hxn, hxm⟩ := inT_nat (HEM.out k hlt)
      have q0 : wr.cell? ⟨g5, k, none⟩ = some (.int .i64 xn) := by have := hel5 k hlt; rw [hxn, Nat.zero_add] at this; exact this
      have HT : Hid (E.take (k + 1) = E.take k ++ [(xn : Int)]) := Lib.hid (by rw [take_snocI E k hlt, hxn])
      have hbw := HBW.out.trans (HB.out.mono HBW.out.size)
      obtain ⟨a3, c3, he3, hr3⟩ := HNF.out
      injection he3 with e1 e2 e3
      subst e1 e3
      obtain ⟨bt, ot, rfl, hbt, hnt⟩ := hr3 (by omega)
      have q1 : wr.cell? ⟨bt, ot + xn * 9, none⟩ = some (.string (nmf xn)) := (hbw.cell (p := ⟨bt, ot + xn * 9, none⟩) hbt).trans (hnt xn hxm)
      have pp := blk_cell (HBX.out wr HB.out) 2
      obtain ⟨L, hL⟩ : ∃ L, ([] : List (Int × Int)) ++ ((E.take k).filter (hasN nmf name)).map (fun i => (1, i)) = L := ⟨_, rfl⟩
      have HLZ : Hid (L.length ≤ 600) := Lib.hid (by
        rw [← hL]
        have h1 := List.length_filter_le (hasN nmf name) (E.take k)
        have h2 := List.length_take_le k E
        have h3 := HEL.out
        have h4 := bf.out
        have h5 := bm.out
        simp only [List.length_append, List.length_map, List.length_nil]
        omega)
      rw [hL] at HO
      have hlz := HLZ.out
      have hel := HEL.out
      obtain ⟨s, hs⟩ : ∃ s, nmf xn = s := ⟨_, rfl⟩
      have HSN := Lib.hid hs
      rw [hs] at q1
      clear hnt hr3 hel5 hr2 hbw hs
      by_cases hp2 : s.toList = name.toList
      · have HY : Hid (([] : List (Int × Int)) ++ ((E.take (k + 1)).filter (hasN nmf name)).map (fun i => (1, i)) = L ++ [(1, (xn : Int))]) := Lib.hid (by rw [HT.out, List.filter_append, List.map_append, ← List.append_assoc, hL]; simp [hasN, HSN.out, hp2])
        clear hL
        go_wp2_with (first
          | (at_builtin; refine wpList_append_lies _ rfl _ _ 40 rfl w1.heap.size 42 i0 (.agg #[.int .i64 0, .int .i64 0]) 2 16 Tryz.underlying40 hi iz0 iz1 iz2 rfl (by decide) _ L.length (flatR L) rfl (HO.out.alloc _) ⟨wr.heap.size, 0, none⟩ 1 1 [.int .i64 1, .int .i64 xn] rfl rfl (cell_two_new _ _ _ _) (by intro u hu; simp at hu; rcases hu with rfl | rfl <;> rfl) (by decide) (by unfold maxLen; omega) (by omega) (by have := HB.out.size; simp; omega) (wr.heap.size + 1) (by simp) ?_; intro gg cap' w3 hown' hgrow hat hltg; have HG := Lib.hid (And.intro hown' (And.intro hgrow hat)); clear hown' hgrow hat hltg))
        go_roundg g'
        case measure => omega
        case rel =>
          have hba : Below w1.heap.size w1 (wr.alloc (.cells #[.int .i64 1, .int .i64 xn] 42)) := HB.out.alloc HB.out.size _
          have hlt2 := fun k hk => ((HO.out.alloc (.cells #[.int .i64 1, .int .i64 xn] 42)).lt k hk).1
          refine ⟨k + 1, by omega, by omega, by go_num, ?_, Lib.hid (HC.out.grown ((Below.refl _ _).alloc (Nat.le_refl _) _) HG.out.2.1 (HG.out.2.2.imp id (fun h => h.trans (World.size_alloc _ _).symm)) rfl), Lib.hid (hba.grown HG.out.2.1 (by have := HB.out.size; simp; omega) (fun k hk => hlt2 k hk))⟩
          refine Lib.hid ?_
          show World.ownsRow _ _ _ _ _ _ _
          rw [HY.out, List.length_append, List.length_singleton, flatR_app]
          exact HG.out.1
      · have HY : Hid (([] : List (Int × Int)) ++ ((E.take (k + 1)).filter (hasN nmf name)).map (fun i => (1, i)) = L) := Lib.hid (by rw [HT.out, List.filter_append, List.map_append, ← List.append_assoc, hL]; simp [hasN, HSN.out, hp2])
        have hb2 : (s.toList == name.toList) = false := by simpa using hp2
        clear hL
        go_wp2
        go_roundg g'
        case measure => omega
        case rel => exact ⟨k + 1, by omega, by omega, by go_num, Lib.hid (by rw [HY.out]; exact HO.out), HC, HB⟩
    · have hke : k = E.length := by omega
      have HON : Hid (OwnR wr w1.heap.size u7 (refsM 1 fn nmf name lf)) := Lib.hid (by have h := HO.out; rw [hke, List.take_length, ← HRE.out] at h; rw [List.nil_append] at h; exact h)
      clear hke HC HO HEL HEM HRE HOD5 HB5
      have HO := HON
      clear HON
      go_upto_region 11 with fail
      have hbw : Below W0.heap.size W0 wr.drew := (HBW.out.trans (HB.out.mono HBW.out.size)).trans ((below_drw wr).mono (HBW.out.trans (HB.out.mono HBW.out.size)).size)
      have cE := existing_any qma qmc lm mn wr.drew (by omega) (HIM.out _ hbw)
      have HS0 : Hid (wr.drew.cell? ⟨b, off + c * 13 + 8, none⟩ = some (.slice qma lm.length qmc) ∧ wr.drew.cell? ⟨W, 1, none⟩ = some (.slice ma mn mc)) := Lib.hid ⟨HCM.out _ hbw, blk_cell (HBX.out wr.drew (HB.out.trans ((below_drw wr).mono HB.out.size))) 1⟩
      have HCE := Lib.hid cE
      have HBD : Hid (Below w1.heap.size w1 wr.drew) := Lib.hid (HB.out.trans ((below_drw wr).mono HB.out.size))
      have HOD : Hid (OwnR wr.drew w1.heap.size u7 (refsM 1 fn nmf name lf)) := Lib.hid (own_bel HO.out (below_drw wr))
      clear hbw cE HO HB
      go_region_held3 (fun w' => w'.cell? ⟨b, off + c * 13 + 8, none⟩ = some (.slice qma lm.length qmc) ∧ w'.cell? ⟨W, 1, none⟩ = some (.slice ma mn mc)) (first | exact HS0.out | exact HS1.out | go_keep)
        (first
          | (go_at_call 39; refine HCE.out.mono ?_; rintro e w5 ⟨v5, rfl, ho5, hb5⟩; have HB5 : Hid (Below w1.heap.size w1 w5) := Lib.hid (HBD.out.trans (hb5.mono HBD.out.size)); have HS1 : Hid (w5.cell? ⟨b, off + c * 13 + 8, none⟩ = some (.slice qma lm.length qmc) ∧ w5.cell? ⟨W, 1, none⟩ = some (.slice ma mn mc)) := Lib.hid ⟨HCM.out _ (HBW.out.trans (HB5.out.mono HBW.out.size)), blk_cell (HBX.out w5 HB5.out) 1⟩; have HOD5 : Hid (OwnR w5 w1.heap.size u7 (refsM 1 fn nmf name lf)) := Lib.hid (own_bel HOD.out hb5); have HEC : Hid (EC w5 v5 u7 (lm.filter (inT mn))) := Lib.hid (EC.of_own ho5 (fun k hk => (HOD.out.lt k hk).2)); obtain ⟨ea, ec, rfl⟩ := own_shape ho5; clear hb5 ho5))
      clear HCE HS0 HS1 HOD HBD
      obtain ⟨E, hE⟩ : ∃ E, lm.filter (inT mn) = E := ⟨_, rfl⟩
      have HEL := Lib.hid (show E.length ≤ 200 by rw [← hE]; have := List.length_filter_le (inT mn) lm; omega)
      have HEM : Hid (∀ k, k < E.length → inT mn (E.getD k 0) = true) := Lib.hid (fun k hk => by
        have hm : E.getD k 0 ∈ lm.filter (inT mn) := by rw [hE, List.getD_eq_getElem?_getD, List.getElem?_eq_getElem hk]; exact List.getElem_mem hk
        exact (List.mem_filter.1 hm).2)
      have HRE : Hid (refsM 0 mn nmm name lm = (E.filter (hasN nmm name)).map fun i => (0, i)) := Lib.hid (by rw [← hE]; rfl)
      rw [hE] at HEC
      try rw [hE]
      clear hE
      go_wp2
      go_loopg [7, 61] (E.length + 1) (fun g v y wr => ∃ k : Nat, k ≤ E.length ∧ E.length - k < g ∧ y = .int .i64 k ∧ Hid (OwnR wr w1.heap.size v ((refsM 1 fn nmf name lf) ++ ((E.take k).filter (hasN nmm name)).map fun i => (0, i))) ∧ Hid (EC wr (.slice ea E.length ec) v E) ∧ Hid (Below w1.heap.size w1 wr))
      case atStart => exact ⟨0, by omega, by omega, rfl, Lib.hid (by simpa using HOD5.out), HEC, HB5⟩
      case round =>
        obtain ⟨k, hk, hgk, rfl, HO, HC, HB⟩ := hrel
        obtain ⟨g', rfl⟩ : ∃ m, gk = m + 1 := ⟨gk - 1, by omega⟩
        by_cases hlt : k < E.length
        · obtain ⟨a2, c2, he2, hr2⟩ := HC.out
          injection he2 with e1 e2 e3
          subst e1 e3
          obtain ⟨g5, rfl, hg5, hne5, hel5⟩ := hr2 (by omega)
          obtain ⟨xn, hxn, hxm⟩ := inT_nat (HEM.out k hlt)
          have q0 : wr.cell? ⟨g5, k, none⟩ = some (.int .i64 xn) := by have := hel5 k hlt; rw [hxn, Nat.zero_add] at this; exact this
          have HT : Hid (E.take (k + 1) = E.take k ++ [(xn : Int)]) := Lib.hid (by rw [take_snocI E k hlt, hxn])
          have hbw := HBW.out.trans (HB.out.mono HBW.out.size)
          obtain ⟨a3, c3, he3, hr3⟩ := HNM.out
          injection he3 with e1 e2 e3
          subst e1 e3
          obtain ⟨bt, ot, rfl, hbt, hnt⟩ := hr3 (by omega)
          have q1 : wr.cell? ⟨bt, ot + xn * 13, none⟩ = some (.string (nmm xn)) := (hbw.cell (p := ⟨bt, ot + xn * 13, none⟩) hbt).trans (hnt xn hxm)
          have pp := blk_cell (HBX.out wr HB.out) 1
          obtain ⟨L, hL⟩ : ∃ L, (refsM 1 fn nmf name lf) ++ ((E.take k).filter (hasN nmm name)).map (fun i => (0, i)) = L := ⟨_, rfl⟩
          have HLZ : Hid (L.length ≤ 600) := Lib.hid (by
            rw [← hL]
            have h1 := List.length_filter_le (hasN nmm name) (E.take k)
            have h2 := List.length_take_le k E
            have h3 := HEL.out
            have h4 := bf.out
            have h5 := bm.out
            simp only [List.length_append, List.length_map, List.length_nil]
            omega)
          rw [hL] at HO
          have hlz := HLZ.out
          have hel := HEL.out
          obtain ⟨s, hs⟩ : ∃ s, nmm xn = s := ⟨_, rfl⟩
          have HSN := Lib.hid hs
          rw [hs] at q1
          clear hnt hr3 hel5 hr2 hbw hs
          by_cases hp2 : s.toList = name.toList
          · have HY : Hid ((refsM 1 fn nmf name lf) ++ ((E.take (k + 1)).filter (hasN nmm name)).map (fun i => (0, i)) = L ++ [(0, (xn : Int))]) := Lib.hid (by rw [HT.out, List.filter_append, List.map_append, ← List.append_assoc, hL]; simp [hasN, HSN.out, hp2])
            clear hL
            go_wp2_with (first
              | (at_builtin; refine wpList_append_lies _ rfl _ _ 40 rfl w1.heap.size 42 i0 (.agg #[.int .i64 0, .int .i64 0]) 2 16 Tryz.underlying40 hi iz0 iz1 iz2 rfl (by decide) _ L.length (flatR L) rfl (HO.out.alloc _) ⟨wr.heap.size, 0, none⟩ 1 1 [.int .i64 0, .int .i64 xn] rfl rfl (cell_two_new _ _ _ _) (by intro u hu; simp at hu; rcases hu with rfl | rfl <;> rfl) (by decide) (by unfold maxLen; omega) (by omega) (by have := HB.out.size; simp; omega) (wr.heap.size + 1) (by simp) ?_; intro gg cap' w3 hown' hgrow hat hltg; have HG := Lib.hid (And.intro hown' (And.intro hgrow hat)); clear hown' hgrow hat hltg))
            go_roundg g'
            case measure => omega
            case rel =>
              have hba : Below w1.heap.size w1 (wr.alloc (.cells #[.int .i64 0, .int .i64 xn] 42)) := HB.out.alloc HB.out.size _
              have hlt2 := fun k hk => ((HO.out.alloc (.cells #[.int .i64 0, .int .i64 xn] 42)).lt k hk).1
              refine ⟨k + 1, by omega, by omega, by go_num, ?_, Lib.hid (HC.out.grown ((Below.refl _ _).alloc (Nat.le_refl _) _) HG.out.2.1 (HG.out.2.2.imp id (fun h => h.trans (World.size_alloc _ _).symm)) rfl), Lib.hid (hba.grown HG.out.2.1 (by have := HB.out.size; simp; omega) (fun k hk => hlt2 k hk))⟩
              refine Lib.hid ?_
              show World.ownsRow _ _ _ _ _ _ _
              rw [HY.out, List.length_append, List.length_singleton, flatR_app]
              exact HG.out.1
          · have HY : Hid ((refsM 1 fn nmf name lf) ++ ((E.take (k + 1)).filter (hasN nmm name)).map (fun i => (0, i)) = L) := Lib.hid (by rw [HT.out, List.filter_append, List.map_append, ← List.append_assoc, hL]; simp [hasN, HSN.out, hp2])
            have hb2 : (s.toList == name.toList) = false := by simpa using hp2
            clear hL
            go_wp2
            go_roundg g'
            case measure => omega
            case rel => exact ⟨k + 1, by omega, by omega, by go_num, Lib.hid (by rw [HY.out]; exact HO.out), HC, HB⟩
        · have hke : k = E.length := by omega
          have HON : Hid (OwnR wr w1.heap.size u7 (refsM 1 fn nmf name lf ++ refsM 0 mn nmm name lm)) := Lib.hid (by have h := HO.out; rw [hke, List.take_length, ← HRE.out] at h;  exact h)
          clear hke HC HO HEL HEM HRE HOD5 HB5
          have HO := HON
          clear HON
          go_upto_region 17 with fail
          have hbw : Below W0.heap.size W0 wr.drew := (HBW.out.trans (HB.out.mono HBW.out.size)).trans ((below_drw wr).mono (HBW.out.trans (HB.out.mono HBW.out.size)).size)
          have cE := existing_any qya qyc ly yn wr.drew (by omega) (HIY.out _ hbw)
          have HS0 : Hid (wr.drew.cell? ⟨b, off + c * 13 + 9, none⟩ = some (.slice qya ly.length qyc) ∧ wr.drew.cell? ⟨W, 4, none⟩ = some (.slice ya yn yc)) := Lib.hid ⟨HCY.out _ hbw, blk_cell (HBX.out wr.drew (HB.out.trans ((below_drw wr).mono HB.out.size))) 4⟩
          have HCE := Lib.hid cE
          have HBD : Hid (Below w1.heap.size w1 wr.drew) := Lib.hid (HB.out.trans ((below_drw wr).mono HB.out.size))
          have HOD : Hid (OwnR wr.drew w1.heap.size u7 (refsM 1 fn nmf name lf ++ refsM 0 mn nmm name lm)) := Lib.hid (own_bel HO.out (below_drw wr))
          clear hbw cE HO HB
          go_region_held3 (fun w' => w'.cell? ⟨b, off + c * 13 + 9, none⟩ = some (.slice qya ly.length qyc) ∧ w'.cell? ⟨W, 4, none⟩ = some (.slice ya yn yc)) (first | exact HS0.out | exact HS1.out | go_keep)
            (first
              | (go_at_call 39; refine HCE.out.mono ?_; rintro e w5 ⟨v5, rfl, ho5, hb5⟩; have HB5 : Hid (Below w1.heap.size w1 w5) := Lib.hid (HBD.out.trans (hb5.mono HBD.out.size)); have HS1 : Hid (w5.cell? ⟨b, off + c * 13 + 9, none⟩ = some (.slice qya ly.length qyc) ∧ w5.cell? ⟨W, 4, none⟩ = some (.slice ya yn yc)) := Lib.hid ⟨HCY.out _ (HBW.out.trans (HB5.out.mono HBW.out.size)), blk_cell (HBX.out w5 HB5.out) 4⟩; have HOD5 : Hid (OwnR w5 w1.heap.size u7 (refsM 1 fn nmf name lf ++ refsM 0 mn nmm name lm)) := Lib.hid (own_bel HOD.out hb5); have HEC : Hid (EC w5 v5 u7 (ly.filter (inT yn))) := Lib.hid (EC.of_own ho5 (fun k hk => (HOD.out.lt k hk).2)); obtain ⟨ea, ec, rfl⟩ := own_shape ho5; clear hb5 ho5))
          clear HCE HS0 HS1 HOD HBD
          obtain ⟨E, hE⟩ : ∃ E, ly.filter (inT yn) = E := ⟨_, rfl⟩
          have HEL := Lib.hid (show E.length ≤ 200 by rw [← hE]; have := List.length_filter_le (inT yn) ly; omega)
          have HEM : Hid (∀ k, k < E.length → inT yn (E.getD k 0) = true) := Lib.hid (fun k hk => by
            have hm : E.getD k 0 ∈ ly.filter (inT yn) := by rw [hE, List.getD_eq_getElem?_getD, List.getElem?_eq_getElem hk]; exact List.getElem_mem hk
            exact (List.mem_filter.1 hm).2)
          have HRE : Hid (refsM 2 yn nmy name ly = (E.filter (hasN nmy name)).map fun i => (2, i)) := Lib.hid (by rw [← hE]; rfl)
          rw [hE] at HEC
          try rw [hE]
          clear hE
          go_wp2
          go_loopg [7, 88] (E.length + 1) (fun g v y wr => ∃ k : Nat, k ≤ E.length ∧ E.length - k < g ∧ y = .int .i64 k ∧ Hid (OwnR wr w1.heap.size v ((refsM 1 fn nmf name lf ++ refsM 0 mn nmm name lm) ++ ((E.take k).filter (hasN nmy name)).map fun i => (2, i))) ∧ Hid (EC wr (.slice ea E.length ec) v E) ∧ Hid (Below w1.heap.size w1 wr))
          case atStart => exact ⟨0, by omega, by omega, rfl, Lib.hid (by simpa using HOD5.out), HEC, HB5⟩
          case round =>
            obtain ⟨k, hk, hgk, rfl, HO, HC, HB⟩ := hrel
            obtain ⟨g', rfl⟩ : ∃ m, gk = m + 1 := ⟨gk - 1, by omega⟩
            by_cases hlt : k < E.length
            · obtain ⟨a2, c2, he2, hr2⟩ := HC.out
              injection he2 with e1 e2 e3
              subst e1 e3
              obtain ⟨g5, rfl, hg5, hne5, hel5⟩ := hr2 (by omega)
              obtain ⟨xn, hxn, hxm⟩ := inT_nat (HEM.out k hlt)
              have q0 : wr.cell? ⟨g5, k, none⟩ = some (.int .i64 xn) := by have := hel5 k hlt; rw [hxn, Nat.zero_add] at this; exact this
              have HT : Hid (E.take (k + 1) = E.take k ++ [(xn : Int)]) := Lib.hid (by rw [take_snocI E k hlt, hxn])
              have hbw := HBW.out.trans (HB.out.mono HBW.out.size)
              obtain ⟨a3, c3, he3, hr3⟩ := HNY.out
              injection he3 with e1 e2 e3
              subst e1 e3
              obtain ⟨bt, ot, rfl, hbt, hnt⟩ := hr3 (by omega)
              have q1 : wr.cell? ⟨bt, ot + xn * 13, none⟩ = some (.string (nmy xn)) := (hbw.cell (p := ⟨bt, ot + xn * 13, none⟩) hbt).trans (hnt xn hxm)
              have pp := blk_cell (HBX.out wr HB.out) 4
              obtain ⟨L, hL⟩ : ∃ L, (refsM 1 fn nmf name lf ++ refsM 0 mn nmm name lm) ++ ((E.take k).filter (hasN nmy name)).map (fun i => (2, i)) = L := ⟨_, rfl⟩
              have HLZ : Hid (L.length ≤ 600) := Lib.hid (by
                rw [← hL]
                have h1 := List.length_filter_le (hasN nmy name) (E.take k)
                have h2 := List.length_take_le k E
                have h3 := HEL.out
                have h4 := bf.out
                have h5 := bm.out
                simp only [List.length_append, List.length_map, List.length_nil]
                omega)
              rw [hL] at HO
              have hlz := HLZ.out
              have hel := HEL.out
              obtain ⟨s, hs⟩ : ∃ s, nmy xn = s := ⟨_, rfl⟩
              have HSN := Lib.hid hs
              rw [hs] at q1
              clear hnt hr3 hel5 hr2 hbw hs
              by_cases hp2 : s.toList = name.toList
              · have HY : Hid ((refsM 1 fn nmf name lf ++ refsM 0 mn nmm name lm) ++ ((E.take (k + 1)).filter (hasN nmy name)).map (fun i => (2, i)) = L ++ [(2, (xn : Int))]) := Lib.hid (by rw [HT.out, List.filter_append, List.map_append, ← List.append_assoc, hL]; simp [hasN, HSN.out, hp2])
                clear hL
                go_wp2_with (first
                  | (at_builtin; refine wpList_append_lies _ rfl _ _ 40 rfl w1.heap.size 42 i0 (.agg #[.int .i64 0, .int .i64 0]) 2 16 Tryz.underlying40 hi iz0 iz1 iz2 rfl (by decide) _ L.length (flatR L) rfl (HO.out.alloc _) ⟨wr.heap.size, 0, none⟩ 1 1 [.int .i64 2, .int .i64 xn] rfl rfl (cell_two_new _ _ _ _) (by intro u hu; simp at hu; rcases hu with rfl | rfl <;> rfl) (by decide) (by unfold maxLen; omega) (by omega) (by have := HB.out.size; simp; omega) (wr.heap.size + 1) (by simp) ?_; intro gg cap' w3 hown' hgrow hat hltg; have HG := Lib.hid (And.intro hown' (And.intro hgrow hat)); clear hown' hgrow hat hltg))
                go_roundg g'
                case measure => omega
                case rel =>
                  have hba : Below w1.heap.size w1 (wr.alloc (.cells #[.int .i64 2, .int .i64 xn] 42)) := HB.out.alloc HB.out.size _
                  have hlt2 := fun k hk => ((HO.out.alloc (.cells #[.int .i64 2, .int .i64 xn] 42)).lt k hk).1
                  refine ⟨k + 1, by omega, by omega, by go_num, ?_, Lib.hid (HC.out.grown ((Below.refl _ _).alloc (Nat.le_refl _) _) HG.out.2.1 (HG.out.2.2.imp id (fun h => h.trans (World.size_alloc _ _).symm)) rfl), Lib.hid (hba.grown HG.out.2.1 (by have := HB.out.size; simp; omega) (fun k hk => hlt2 k hk))⟩
                  refine Lib.hid ?_
                  show World.ownsRow _ _ _ _ _ _ _
                  rw [HY.out, List.length_append, List.length_singleton, flatR_app]
                  exact HG.out.1
              · have HY : Hid ((refsM 1 fn nmf name lf ++ refsM 0 mn nmm name lm) ++ ((E.take (k + 1)).filter (hasN nmy name)).map (fun i => (2, i)) = L) := Lib.hid (by rw [HT.out, List.filter_append, List.map_append, ← List.append_assoc, hL]; simp [hasN, HSN.out, hp2])
                have hb2 : (s.toList == name.toList) = false := by simpa using hp2
                clear hL
                go_wp2
                go_roundg g'
                case measure => omega
                case rel => exact ⟨k + 1, by omega, by omega, by go_num, Lib.hid (by rw [HY.out]; exact HO.out), HC, HB⟩
            · have hke : k = E.length := by omega
              have HON : Hid (OwnR wr w1.heap.size u7 (refsM 1 fn nmf name lf ++ refsM 0 mn nmm name lm ++ refsM 2 yn nmy name ly)) := Lib.hid (by have h := HO.out; rw [hke, List.take_length, ← HRE.out] at h;  exact h)
              clear hke HC HO HEL HEM HRE HOD5 HB5
              have HO := HON
              clear HON
              go_wp2
              go_ret
              exact ⟨_, rfl, owns_mono HO.out HB0.out.size, HB0.out.trans (HB.out.mono HB0.out.size)⟩

end Go.Proofs.YtlipfgdjbimfjaaGreatDoor
