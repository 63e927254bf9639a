/- fits: the walk. -/
import Derived.Test.YthcoigdmammamaaGreatDoorS23
import Derived.Deep.QuietTactic
import Derived.Lib.QuietBelow
import Derived.BigQuiet
namespace Go.Proofs.YthcoigdmammamaaGreatDoor
open Go.RowKit Go.Shelf Go.Sort
set_option maxRecDepth 100000

theorem LsS.cap {w : World} {S : Nat → Prop} {a : Option Addr} {n c : Nat} {l : List Nd} (h : LsS w S (.slice a n c) l) : l.length ≤ c := by
  cases h with
  | nil => simp
  | row b off cap l vs h1 h2 h3 h4 => exact h2

theorem splitK_len (sep : List UInt8) : ∀ (n : Nat) (s : List UInt8), ∀ p ∈ Lib.splitK sep 0 n s, p.length ≤ s.length
  | 0, s => by intro p hp; rw [List.mem_singleton.1 hp]; exact Nat.le_refl _
  | n + 1, s => by
    intro p hp
    unfold Lib.splitK at hp
    split at hp
    · rw [List.mem_singleton.1 hp]; exact Nat.le_refl _
    · rcases List.mem_cons.1 hp with rfl | hp
      · rw [List.length_take]; omega
      · have := splitK_len sep n _ p hp
        rw [List.length_drop] at this
        omega
theorem all_range (n : Nat) (f : Nat → Bool) : (List.range (n + 1)).all f = ((List.range n).all f && f n) := by
  rw [List.range_succ, List.all_append]
  simp

set_option maxHeartbeats 8000000 in
theorem fits_any (l : List Nd) (v : Value) (B : Nat) (form : List UInt8) (w : World) (hG : Glob w) (hl : Ls w B v l) (hB : B ≤ w.heap.size) (hn : l.length ≤ 20000) (hf : form.length ≤ 1000) (ha : ∀ b ∈ form, b.toNat < 128) (hne : ∀ x ∈ Lib.fields form, x ≠ [] ∧ x.length ≤ 1000) (hw : (Lib.fields form).length ≤ 1000) :
    Calls Tryz.prog 47 #[v, .string (bs form)] w fun e w' => e = .returned (.bool (formM (l.map Nd.kind) form)) ∧ Below w.heap.size w w' := by
  obtain ⟨va, vc, rfl⟩ := hl.slice
  have cF := fields_any form w hG (by omega) ha
  obtain ⟨r, hr⟩ : ∃ r : Int, r = (l.length : Int) - ((Lib.fields form).length - 1) := ⟨_, rfl⟩
  obtain ⟨bb, hbb⟩ : ∃ bb, bb = formM (l.map Nd.kind) form := ⟨_, rfl⟩
  have hbb2 : bb = fitsM r (l.map Nd.kind) (Lib.fields form) := by rw [hbb, formM, hr, List.length_map]
  rw [← hbb]
  have hG1 := hG.bel ((Below.refl _ w).alloc (Nat.le_refl _) (SB (Lib.fields form)))
  have hbk := alloc_blk w (SB (Lib.fields form))
  have hB1 : Below w.heap.size w (w.alloc (SB (Lib.fields form))) := (Below.refl _ w).alloc (Nat.le_refl _) _
  have hl1 := hl.bel (hB1.mono hB)
  have hz1 : (w.alloc (SB (Lib.fields form))).heap.size = w.heap.size + 1 := by simp
  obtain ⟨w1, hw1⟩ : ∃ w1, w.alloc (SB (Lib.fields form)) = w1 := ⟨_, rfl⟩
  rw [hw1] at cF hG1 hbk hB1 hl1 hz1
  generalize Lib.fields form = ws at *
  have hr1 : IntKind.i64.wrap ((ws.length : Int) - 1) = (ws.length : Int) - 1 := IntWalk.i64_in _ (by omega)
  have hr2 : IntKind.i64.wrap ((l.length : Int) - ((ws.length : Int) - 1)) = r := by rw [hr]; exact IntWalk.i64_in _ (by omega)
  have hrb : -2000 ≤ r ∧ r ≤ 20001 := by omega
  have HBB := Lib.hid hbb2
  have HG1 := Lib.hid hG1
  have HBK := Lib.hid hbk
  have HB1 := Lib.hid hB1
  have HL1 := Lib.hid hl1
  have HZ1 := Lib.hid hz1
  have HNE := Lib.hid hne
  clear hw1 hbb hbb2 hG hG1 hbk hB1 hl hl1 hz1 hne ha hf hr
  go_enter Tryz.func47, Tryz.ntmps47
  go_wp2_with (go_at_call 68; refine cF.mono ?_; clear cF; rintro e w1 ⟨rfl, rfl⟩)
  clear hr1 hr2
  go_loopg [0, 25] (ws.length + 1) (fun n y z wr => ∃ i p : Nat, i ≤ ws.length ∧ ws.length - i < n ∧ z = .int .i64 i ∧ p ≤ l.length ∧ Hid (Ls wr B y (l.drop p)) ∧ Hid (fitsM r ((l.drop p).map Nd.kind) (ws.drop i) = bb) ∧ Hid (Below w1.heap.size w1 wr))
  case atStart => exact ⟨0, 0, by omega, by omega, rfl, by omega, HL1, HBB.out.symm, Below.refl _ _⟩
  case round =>
    obtain ⟨i, p, hi, hgk, rfl, hp, HLr, HFr, HWr⟩ := hrel
    obtain ⟨n, rfl⟩ : ∃ n, gk = n + 1 := ⟨gk - 1, by omega⟩
    have hln : (l.drop p).length ≤ 20000 := by simp; omega
    obtain ⟨k, hk⟩ : ∃ k, k = l.drop p := ⟨_, rfl⟩
    rw [← hk] at HLr HFr hln
    obtain ⟨ka, kc, rfl⟩ := HLr.out.slice
    by_cases hlt : i < ws.length
    · have hii : (i : Int) < (ws.length : Int) := by omega
      have hi0 : (0 : Int) ≤ (i : Int) := by omega
      have hz1 := HZ1.out
      have hzr := HWr.out.size
      have hc := sb_cell ((HWr.out.block w.heap.size (by omega)).trans HBK.out) i hlt
      have hwd : ws.drop i = ws.getD i [] :: ws.drop (i + 1) := by
        rw [List.drop_eq_getElem_cons hlt, List.getD_eq_getElem?_getD, List.getElem?_eq_getElem hlt]; rfl
      have hmem := HNE.out (ws.getD i []) (by rw [List.getD_eq_getElem?_getD, List.getElem?_eq_getElem hlt]; exact List.getElem_mem hlt)
      generalize ws.getD i [] = wd at *
      have HWD := Lib.hid hwd
      obtain ⟨hwn, hwl⟩ := hmem
      have hGr : Hid (Glob wr) := HG1.out.bel HWr.out
      have hHK := Lib.hid hk
      have cT := trimRight_any wd wr (by omega)
      have htl := trimRight_len wd [42, 43]
      clear hwd hk hzr hz1
      go_upto_region 8 with fail
      go_wp2_with fail
      refine cT.mono ?_
      clear cT
      rintro e w2 ⟨rfl, hb2⟩
      have cS := split_any (Lib.trimRightS wd [42, 43]) 44 w2 (hGr.out.bel hb2) (by omega)
      have hsl := (split_len (Lib.trimRightS wd [42, 43]) 44)
      have HPM : Hid (Lib.split (Lib.trimRightS wd [42, 43]) [44] = partsM wd) := rfl
      rw [HPM.out] at cS hsl
      obtain ⟨ps, hps⟩ : ∃ ps, ps = partsM wd := ⟨_, rfl⟩
      rw [← hps] at cS hsl
      have HPS := Lib.hid hps
      have hpl : 0 < ps.length ∧ ps.length ≤ 1001 := by omega
      have hB3 : Below wr.heap.size wr (w2.alloc (SB ps)) := hb2.alloc hb2.size _
      have hbk3 := alloc_blk w2 (SB ps)
      have hz2 : (w2.alloc (SB ps)).heap.size = w2.heap.size + 1 := by simp
      obtain ⟨w3, hw3⟩ : ∃ w3, w2.alloc (SB ps) = w3 := ⟨_, rfl⟩
      rw [hw3] at cS hB3 hbk3 hz2
      have HB3 := Lib.hid hB3
      have HBK3 := Lib.hid hbk3
      have HZ3 := Lib.hid hz2
      clear hps hsl hB3 hbk3 hz2 hw3 hc
      go_wp2_with fail
      refine cS.mono ?_
      clear cS
      rintro e w3 ⟨rfl, rfl⟩
      clear hb2
      go_upto_region 9 with fail
      obtain ⟨wf, c, hwe⟩ : ∃ wf c, wd = wf ++ [c] := ⟨wd.dropLast, wd.getLast hwn, (List.dropLast_concat_getLast hwn).symm⟩
      have hwlen : wd.length = wf.length + 1 := by rw [hwe]; simp
      have a1 : IntKind.i64.wrap ((wd.length : Int) - 1) = (wf.length : Int) := by rw [IntWalk.i64_in _ (by omega)]; omega
      have a2 : (wf.length : Int) < (wd.length : Int) := by omega
      have a3 : (0 : Int) ≤ (wf.length : Int) := by omega
      have a4 : wf.length < wd.length := by omega
      have HWE := Lib.hid hwe
      clear hwlen hwe
      go_upto_block 2 with fail
      have hcm : countM r wd = if c = 42 then r else if c = 43 then max r 1 else 1 := by
        have h1 : wd.getLast? = some c := by rw [HWE.out]; simp
        unfold countM
        rw [h1]
        simp
      have hg : (bs wd)[wf.length]'(by show _ < wd.toArray.size; simpa using a4) = c := by
        show wd.toArray[wf.length]'_ = c
        simp [HWE.out]
      rw [hg]
      have HCM := Lib.hid hcm
      clear hcm hg a1 a2 a3 a4
      obtain ⟨ct, hct⟩ : ∃ ct, ct = countM r wd := ⟨_, rfl⟩
      go_cut [10] from 37 to 44 (fun y wx => y = .int .i64 ct ∧ w3 = wx)
      case first =>
        by_cases h1 : c = 42
        · have hc1 : ct = r := by rw [hct, HCM.out, if_pos h1]
          subst h1
          clear hct
          subst hc1
          go_wp2
          go_meet
          exact ⟨rfl, rfl⟩
        · have q1 : ((c.toNat : Int) == 42) = false := by
            rw [beq_eq_false_iff_ne]
            intro h
            exact h1 (UInt8.toNat_inj.1 (by show c.toNat = 42; omega))
          by_cases h2 : c = 43
          · have hc1 : ct = max r 1 := by rw [hct, HCM.out, if_neg h1, if_pos h2]
            subst h2
            clear hct q1
            subst hc1
            go_wp2
            go_meet
            exact ⟨rfl, rfl⟩
          · have q2 : ((c.toNat : Int) == 43) = false := by
              rw [beq_eq_false_iff_ne]
              intro h
              exact h2 (UInt8.toNat_inj.1 (by show c.toNat = 43; omega))
            have hc1 : ct = 1 := by rw [hct, HCM.out, if_neg h1, if_neg h2]
            clear hct h1 h2
            subst hc1
            go_wp2
            go_meet
            exact ⟨rfl, rfl⟩
      obtain ⟨rfl, rfl⟩ := hcut
      have hctb : -2000 ≤ ct ∧ ct ≤ 20001 := by
        rw [hct, HCM.out]
        split
        · exact hrb
        · split
          · omega
          · omega
      have hfr : fitsM r (k.map Nd.kind) (wd :: ws.drop (i + 1)) = bb := by rw [← HWD.out]; exact HFr.out
      rw [fitsM, ← hct, ← HPS.out, List.length_map] at hfr
      have HFQ := Lib.hid hfr
      have HBW : Hid (RowKit.Below w.heap.size w w3) := HB1.out.trans ((HWr.out.mono (by have := HZ1.out; omega)).trans (HB3.out.mono (by have := HWr.out.size; have := HZ1.out; omega)))
      clear hfr
      by_cases hneg : ct < 0
      · have d1 : decide (ct < 0) = true := by simpa using hneg
        have hbf : bb = false := by rw [← HFQ.out, if_pos (.inl hneg)]
        clear hneg hct hctb
        subst hbf
        go_wp2
        go_ret
        exact ⟨rfl, HBW.out⟩
      · obtain ⟨m, hm⟩ : ∃ m : Nat, ct = (m : Int) := ⟨ct.toNat, by omega⟩
        have HCT := Lib.hid hct
        clear hct hneg
        subst hm
        have hm0 : (0 : Int) ≤ (m : Int) := by omega
        by_cases hbig : k.length < m
        · have d1 : decide (k.length < m) = true := by simpa using hbig
          have hbf : bb = false := by rw [← HFQ.out, if_pos (.inr (.inl (by omega)))]
          clear hbig hctb
          subst hbf
          go_wp2
          go_ret
          exact ⟨rfl, HBW.out⟩
        · have d1 : decide (k.length < m) = false := by simpa using hbig
          have hq0 : (0 : Int) < (ps.length : Int) := by omega
          have hq1 : (ps.length : Int) ≤ 1001 := by omega
          have hm1 : (m : Int) ≤ 20001 := by omega
          have hpe : ¬ ps = [] := by intro h; rw [h] at hpl; simp at hpl
          have hdv : wrap64 ((m : Int) / (ps.length : Int)) = (m : Int) / (ps.length : Int) := by
            have h1 : (0 : Int) ≤ (m : Int) / (ps.length : Int) := Int.ediv_nonneg hm0 (by omega)
            have h2 : (m : Int) / (ps.length : Int) ≤ (m : Int) := Int.ediv_le_self _ hm0
            exact IntWalk.wrap64_in _ (by omega)
          have hkc : m ≤ kc := by have := LsS.cap HLr.out; omega
          by_cases hmod : (m : Int) % (ps.length : Int) = 0
          · by_cases hdiv : 200 < (m : Int) / (ps.length : Int)
            · have hbf : bb = false := by rw [← HFQ.out, if_pos (.inr (.inr (.inr hdiv)))]
              clear hctb hbig
              subst hbf
              go_wp2
              go_ret
              exact ⟨rfl, HBW.out⟩
            · have hdiv2 : (m : Int) / (ps.length : Int) ≤ 200 := by omega
              go_upto_region 16 with fail
              have hkm : m ≤ k.length := by omega
              have hlm : Ls wr B (.slice ka m kc) (k.take m) := LsS.take HLr.out m hkm
              have HLM := Lib.hid hlm
              have hGc := hGr.out.bel HB3.out
              have HGC := Lib.hid hGc
              have hlt2 : (k.take m).length = m := by simp; omega
              have HL2 := Lib.hid hlt2
              have HRB := Lib.hid hrb
              have HNC : Hid (¬ ((m : Int) < 0 ∨ (k.length : Int) < m ∨ (m : Int) % (ps.length : Int) ≠ 0 ∨ 200 < (m : Int) / (ps.length : Int))) := by
                rintro (h | h | h | h)
                · omega
                · omega
                · exact h hmod
                · exact hdiv h
              clear hlm hGc hlt2 hbig hctb hdv hdiv hmod hdiv2 d1 hrb
              go_wp2
              obtain ⟨wo, rfl⟩ : ∃ wo : World, wo = wr := ⟨_, rfl⟩
              go_loopg [70] (m + 1) (fun n y wq => ∃ j : Nat, j ≤ m ∧ m - j < n ∧ y = .int .i64 j ∧ Hid ((List.range j).all (fun t => belongsM ((k.map Nd.kind).getD t 0) (ps.getD (t % ps.length) [])) = true) ∧ Hid (RowKit.Below w3.heap.size w3 wq))
              case atStart => exact ⟨0, by omega, by omega, rfl, rfl, Below.refl _ _⟩
              case round =>
                obtain ⟨j, hj, hgj, rfl, HJ, HWq⟩ := hrel
                obtain ⟨n2, rfl⟩ : ∃ n2, gk = n2 + 1 := ⟨gk - 1, by omega⟩
                by_cases hjm : j < m
                · have hjj : (j : Int) < (m : Int) := by omega
                  have hj0 : (0 : Int) ≤ (j : Int) := by omega
                  obtain ⟨lb, loff, vs, rfl, hlb, hlc, hnc, hls⟩ := HLM.out.row_of (by rw [HL2.out]; omega)
                  have hjk : j < (k.take m).length := by rw [HL2.out]; exact hjm
                  have hbq : RowKit.Below wo.heap.size wo wr := HB3.out.trans (HWq.out.mono HB3.out.size)
                  have hzr := HWr.out.size
                  have hz1 := HZ1.out
                  have hkd := (hnc j hjk).of (hbq.block _ (by omega))
                  have hgd : (k.take m).getD j Nd0 = k.getD j Nd0 := by simp [List.getD_eq_getElem?_getD, hjm]
                  have hgk2 : (k.map Nd.kind).getD j 0 = (k.getD j Nd0).kind := by
                    have : j < k.length := by omega
                    simp [List.getD_eq_getElem?_getD, this]
                  rw [hgd] at hkd
                  have hkl := hls j hjk
                  rw [hgd] at hkl
                  obtain ⟨x, hx⟩ : ∃ x : Nat, x = j % ps.length := ⟨_, rfl⟩
                  have hxl : x < ps.length := by rw [hx]; exact Nat.mod_lt _ hpl.1
                  have hxi : (j : Int) % (ps.length : Int) = (x : Int) := by rw [hx]; rfl
                  have hx2 : (x : Int) < (ps.length : Int) := by omega
                  have hx3 : (0 : Int) ≤ (x : Int) := by omega
                  have hpc := sb_cell ((HWq.out.block w2.heap.size (by have := HZ3.out; omega)).trans HBK3.out) x hxl
                  have hpl2 : (ps.getD x []).length ≤ 1000 := by
                    have h1 := splitK_len [44] (Lib.count (Lib.trimRightS wd [42, 43]) [44]) (Lib.trimRightS wd [42, 43]) (ps.getD x []) (by
                      have h2 : ps = Lib.splitK [44] 0 (Lib.count (Lib.trimRightS wd [42, 43]) [44]) (Lib.trimRightS wd [42, 43]) := by rw [HPS.out, ← HPM.out]; rfl
                      rw [← h2, List.getD_eq_getElem?_getD, List.getElem?_eq_getElem hxl]
                      exact List.getElem_mem hxl)
                    omega
                  have hstep : (List.range (j + 1)).all (fun t => belongsM ((k.map Nd.kind).getD t 0) (ps.getD (t % ps.length) [])) = belongsM (k.getD j Nd0).kind (ps.getD x []) := by
                    rw [all_range, HJ.out, Bool.true_and, hgk2, hx]
                  generalize ps.getD x [] = pc at *
                  have HST := Lib.hid hstep
                  have HXI := Lib.hid hx
                  clear hnc hls hgd hgk2 hx hstep hbq hzr
                  generalize k.getD j Nd0 = kd at *
                  generalize vs j = kv at *
                  obtain ⟨qa, qc, rfl⟩ := LsS.slice hkl
                  clear hkl
                  obtain ⟨t0, t1, t2, t3, t4, t5, t6⟩ := hkd
                  have hbk4 := alloc_blk wr (NB kd (.slice qa kd.kids.length qc))
                  have hpc2 : (wr.alloc (NB kd (.slice qa kd.kids.length qc))).cell? ⟨w2.heap.size, x, none⟩ = some (.string (bs pc)) := cell_alloc' _ hpc
                  have hB5 : RowKit.Below w3.heap.size w3 (wr.alloc (NB kd (.slice qa kd.kids.length qc))) := HWq.out.alloc HWq.out.size _
                  have HPC2 := Lib.hid hpc2
                  have HBK4 := Lib.hid hbk4
                  have HB5 := Lib.hid hB5
                  have hz4 : wr.heap.size < (wr.alloc (NB kd (.slice qa kd.kids.length qc))).heap.size := by simp
                  have HZ4 := Lib.hid hz4
                  clear hpc hbk4 hpc2 hB5 hz4
                  go_upto_region 19 with fail
                  clear t0 t1 t2 t3 t4
                  generalize wr.alloc (NB kd (.slice qa kd.kids.length qc)) = w4 at *
                  have e0 := blk_cell HBK4.out 0
                  have p0 := HPC2.out
                  have hpe2 : ¬ ps = [] := hpe
                  have cB := belongs_any kd.kind pc w4.drew (HGC.out.bel HB5.out.drew) (by omega)
                  obtain ⟨bq, hbq⟩ : ∃ bq, bq = belongsM kd.kind pc := ⟨_, rfl⟩
                  rw [← hbq] at cB
                  have HBQ := Lib.hid hbq
                  clear hbq
                  have hxt : (j : Int).tmod (ps.length : Int) = (x : Int) := by rw [Int.tmod_eq_emod_of_nonneg hj0]; exact hxi
                  have hxw : IntKind.i64.wrap ((j : Int).tmod (ps.length : Int)) = (x : Int) := by rw [hxt]; exact IntWalk.i64_in _ (by omega)
                  go_still_tail 9, (by kernel_rfl)
                  clear hxt hxw
                  change wpList _ _ _ _ _ (World.drew _)
                  have hz5 := HB5.out.size
                  cases bq with
                  | true =>
                    go_wp2_with (go_at_call 71; refine cB.mono ?_; clear cB; rintro e w5 ⟨rfl, hb5⟩)
                    have HB6 : Hid (RowKit.Below w3.heap.size w3 w5) := HB5.out.drew.trans (hb5.mono (by exact hz5))
                    go_roundg n2
                    case measure => omega
                    case rel => exact ⟨j + 1, by omega, by omega, by go_num, (by show _ = _; rw [HST.out]; exact HBQ.out.symm), HB6⟩
                  | false =>
                    have hbf : bb = false := by
                      rw [← HFQ.out]
                      split
                      · rfl
                      · rw [if_neg]
                        intro h
                        have h1 := HST.out
                        rw [← HBQ.out] at h1
                        rw [List.all_eq_true] at h
                        have h2 : (List.range (j + 1)).all (fun t => belongsM ((k.map Nd.kind).getD t 0) (ps.getD (t % ps.length) [])) = true := by
                          rw [List.all_eq_true]
                          intro t ht
                          exact h t (by rw [List.mem_range] at ht ⊢; rw [Int.toNat_natCast]; omega)
                        rw [h1] at h2
                        cases h2
                    subst hbf
                    go_wp2_with (go_at_call 71; refine cB.mono ?_; clear cB; rintro e w5 ⟨rfl, hb5⟩)
                    go_ret
                    have hz6 : w.heap.size ≤ w3.heap.size := by have := HWr.out.size; have := HB3.out.size; omega
                    exact ⟨rfl, HBW.out.trans ((HB5.out.mono hz6).drew.trans (hb5.mono (by show w.heap.size ≤ w4.heap.size; omega)))⟩
                · have he : j = m := by omega
                  subst he
                  have hjk : (j : Int) ≤ (k.length : Int) := by omega
                  have hj0 : (0 : Int) ≤ (j : Int) := by omega
                  have hdr : Ls wo B (tailV ka k.length kc j) (k.drop j) := LsS.drop HLr.out j hkm
                  have hkd : k.drop j = l.drop (p + j) := by rw [hHK.out, List.drop_drop]
                  have HDR : Hid (Ls wr B (tailV ka k.length kc j) (l.drop (p + j))) := by
                    rw [hkd] at hdr
                    have hz1 := HZ1.out
                    have hzo := HWr.out.size
                    exact hdr.bel ((HB3.out.trans (HWq.out.mono HB3.out.size)).mono (by omega))
                  have HFN : Hid (fitsM r ((l.drop (p + j)).map Nd.kind) (ws.drop (i + 1)) = bb) := by
                    have h1 := HFQ.out
                    rw [if_neg HNC.out, if_pos, Int.toNat_natCast, ← List.map_drop, hkd] at h1
                    · exact h1
                    · rw [Int.toNat_natCast]; exact HJ.out
                  have HWN : Hid (RowKit.Below w1.heap.size w1 wr) := HWr.out.trans ((HB3.out.mono HWr.out.size).trans (HWq.out.mono (Nat.le_trans HWr.out.size HB3.out.size)))
                  have hpj : p + j ≤ l.length := by
                    have h1 := congrArg List.length hHK.out
                    rw [List.length_drop] at h1
                    omega
                  clear hdr hkd
                  go_upto_region 23 with fail
                  obtain ⟨tv, htv⟩ : ∃ tv, Value.slice (if kc = j then ka else Option.map (fun x => x.add (j * 5)) ka) (k.length - j) (kc - j) = tv := ⟨_, rfl⟩
                  have HDR2 : Hid (Ls wr B tv (l.drop (p + j))) := by rw [← htv]; exact HDR.out
                  rw [htv]
                  clear htv HDR
                  go_wp2
                  go_roundg n
                  case measure => omega
                  case rel => exact ⟨i + 1, p + j, by omega, by omega, by go_num, hpj, HDR2, HFN, HWN⟩
          · have hbf : bb = false := by rw [← HFQ.out, if_pos (.inr (.inr (.inl hmod)))]
            clear hctb hbig
            subst hbf
            go_wp2
            go_ret
            exact ⟨rfl, HBW.out⟩
    · have he : i = ws.length := by omega
      clear hk
      subst he
      have hfe : bb = (k.length == 0) := by
        have h1 := HFr.out
        rw [List.drop_length, fitsM] at h1
        rw [← h1]
        cases k <;> rfl
      have HBW : Hid (RowKit.Below w.heap.size w wr) := HB1.out.trans (HWr.out.mono (by have := HZ1.out; omega))
      by_cases hz : k.length = 0
      · have z0 : ((k.length : Int) == 0) = true := by simpa using hz
        have hb1 : bb = true := by rw [hfe]; simpa using hz
        clear hz hfe
        subst hb1
        go_wp2
        go_ret
        exact ⟨rfl, HBW.out⟩
      · have z0 : ((k.length : Int) == 0) = false := by simpa using hz
        have hb1 : bb = false := by rw [hfe]; simpa using hz
        clear hz hfe
        subst hb1
        go_wp2
        go_ret
        exact ⟨rfl, HBW.out⟩
end Go.Proofs.YthcoigdmammamaaGreatDoor
