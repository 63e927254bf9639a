/- The walk of layouter.all. -/
import Derived.Test.YtkfkgdkfgpofnaaDoorJ1
import Derived.Deep.Cut
import Derived.Deep.CutRange
import Derived.BigQuiet
import Derived.Deep.AppendLies
import Derived.Deep.RegionLaw
namespace Go.Proofs.YtkfkgdkfgpofnaaDoor
open Go.RowKit
set_option maxRecDepth 100000

theorem TC.bel {w0 w : World} {b g o : Nat} {t : Tok} (h : TC w0 g o t) (hg : g < b) (hb : Below b w0 w) : TC w g o t := by
  obtain ⟨t0, t1, t2, t3, t4⟩ := h
  exact ⟨(hb.cell (by exact hg)).trans t0, (hb.cell (by exact hg)).trans t1, (hb.cell (by exact hg)).trans t2, (hb.cell (by exact hg)).trans t3, (hb.cell (by exact hg)).trans t4⟩
theorem Yd.c0w {S : List (Nat × Obj)} {b : Nat} {w0 w : World} {inp : List Tok} {t : LS} (h : Yd S b w0 w inp t) (hn : 0 < inp.length) : ∃ g cap, w.cell? ⟨b, 0, none⟩ = some (.slice (some ⟨g, 0, none⟩) inp.length cap) ∧ g < b ∧ ∀ i, i < inp.length → TC w0 g (i * 5) (inp.getD i Tz) := by
  obtain ⟨vi, vo, vr, h, _⟩ := h
  obtain ⟨g, cap, rfl, _⟩ := h.inForm hn
  exact ⟨g, cap, (yc h.blk).c0, h.far g rfl, fun i hi => by rw [tz_eq hi]; exact tc_of_row h.inp i hi⟩

theorem ylay_err {inp : List Tok} {i : Nat} {l : LS} {f : Flt} (hlt : i < inp.length) (h : ylayF inp (inp.length - i) i l = mlay inp) (he : mstep inp i l = .error f) : mlay inp = .error f := by
  rw [show inp.length - i = (inp.length - (i + 1)) + 1 from by omega, ylayF, he] at h
  exact h.symm
theorem ylay_ok {inp : List Tok} {i : Nat} {l l' : LS} (hlt : i < inp.length) (h : ylayF inp (inp.length - i) i l = mlay inp) (he : mstep inp i l = .ok l') : ylayF inp (inp.length - (i + 1)) (i + 1) l' = mlay inp := by
  rw [show inp.length - i = (inp.length - (i + 1)) + 1 from by omega, ylayF, he] at h
  exact h
theorem mhead_gd {inp : List Tok} {i : Nat} {l l' : LS} (h : mhead inp i l = .ok l') (hg : (i = 0 ∧ l = ⟨[], [], 0⟩) ∨ (0 < i ∧ Gd l.regs)) (hl : l.regs.length ≤ 64) : Gd l'.regs ∧ l'.regs.length ≤ 64 ∧ l'.out.length + l'.regs.length ≤ l.out.length + l.regs.length + 3 := by
  unfold mhead at h
  split at h
  · rename_i h0
    injection h with h; subst h
    rcases hg with ⟨_, rfl⟩ | ⟨h1, _⟩
    · exact ⟨⟨by simp, rfl⟩, by simp, by simp⟩
    · omega
  · rename_i h0
    have hg' : Gd l.regs := by
      rcases hg with ⟨h1, _⟩ | ⟨_, h1⟩
      · omega
      · exact h1
    split at h
    · exact mline_gd (l := ⟨l.out, l.regs, (inp.getD i Tz).col⟩) h hg' hl
    · injection h with h; subst h; exact ⟨hg', hl, by omega⟩

set_option maxHeartbeats 20000000 in
theorem yall_any (S : List (Nat × Obj)) (b : Nat) (w0 w : World) (inp : List Tok) (h : Yd S b w0 w inp ⟨[], [], 0⟩) (hn : inp.length ≤ 100000) :
    Calls Tryd.prog 23 #[.pointer (some ⟨b, 0, none⟩)] w (Yk S b w0 inp (mlay inp)) := by
  have HY := Lib.hid h
  obtain ⟨va, vc, c0⟩ := h.c0e
  obtain ⟨i0, hi, hz0, hz1, hz2⟩ := info_parts info32
  obtain ⟨i6, hi6, hy0, hy1, hy2⟩ := info_parts info64
  have HI1 := Lib.hid (And.intro hi (And.intro hz0 (And.intro hz1 hz2)))
  have HI2 := Lib.hid (And.intro hi6 (And.intro hy0 (And.intro hy1 hy2)))
  have HC0 := Lib.hid c0
  clear h hi hz0 hz1 hz2 hi6 hy0 hy1 hy2
  go_enter Tryd.func23, Tryd.ntmps23
  go_wp2
  clear c0
  go_loopg [9] (inp.length + 1) (fun n v wr => ∃ (i : Nat) (l : LS), i ≤ inp.length ∧ inp.length - i < n ∧ v = .int .i64 i ∧ Hid ((i = 0 ∧ l = ⟨[], [], 0⟩) ∨ (0 < i ∧ Gd l.regs)) ∧ l.regs.length ≤ 64 ∧ l.out.length + l.regs.length ≤ 5 * i ∧ Hid (ylayF inp (inp.length - i) i l = mlay inp) ∧ Hid (Yd S b w0 wr inp l))
  case atStart => exact ⟨0, ⟨[], [], 0⟩, by omega, by omega, rfl, Or.inl ⟨rfl, rfl⟩, by simp, by simp, rfl, HY⟩
  case round =>
    obtain ⟨i, l, hil, hgk, rfl, HG, hl, ho, HK, HW⟩ := hrel
    obtain ⟨n, rfl⟩ : ∃ n, gk = n + 1 := ⟨gk - 1, by omega⟩
    by_cases hlt : i < inp.length
    · have hii : (i : Int) < (inp.length : Int) := by omega
      have hi0 : (0 : Int) ≤ (i : Int) := by omega
      obtain ⟨g, cap, c0', hgb, hc⟩ := HY.out.c0w (by omega)
      have ee := HC0.out.symm.trans c0'
      injection ee with ee
      injection ee with ee1 ee2 ee3
      subst ee1 ee3
      obtain ⟨t, ht⟩ : ∃ t, t = inp.getD i Tz := ⟨_, rfl⟩
      have htc := (hc i hlt).bel hgb HW.out.bel
      rw [← ht] at htc
      obtain ⟨t0, t1, t2, t3, t4⟩ := htc
      have HB : Hid (Yd ((wr.heap.size, TBx t) :: S) b w0 (wr.alloc (.cells #[.int .i64 t.kind, .string t.text, .int .i64 t.at_, .int .i64 t.line, .int .i64 t.col] 32)) inp l) := HW.out.add _
      have HT := Lib.hid ht
      clear c0' hc ht ee2
      go_upto_if 15 with (fail)
      generalize wr.alloc (.cells #[.int .i64 t.kind, .string t.text, .int .i64 t.at_, .int .i64 t.line, .int .i64 t.col] 32) = w2 at *
      generalize wr.heap.size = q at *
      clear t0 t1 t2 t3 t4 HW
      go_cut [] from 10 to 69 (fun wx => ∃ l1, Hid (mhead inp i l = .ok l1) ∧ Hid (Yd ((q, TBx t) :: S) b w0 wx inp l1))
      case first =>
        by_cases hz : i = 0
        · have z0 : ((i : Int) == 0) = true := by rw [hz]; rfl
          have HM : Hid (mhead inp i l = .ok ⟨l.out, l.regs ++ [⟨0, t.col, 0⟩], t.col⟩) := by show mhead inp i l = _; rw [mhead, if_pos hz, HT.out]
          have ho0 : l.out.length + l.regs.length ≤ 0 := by omega
          clear hz
          obtain ⟨e0, e1, e2, e3, e4⟩ := tc_box HB.out.spare
          obtain ⟨vi, vo, vr, hly, hsp⟩ := HB.out
          obtain ⟨x0, x1, x2, x3, xf1, xf2, xf3⟩ := yc hly.blk
          have HB3 : Hid (Ly b w0 (w2.setCell ⟨b, 3, none⟩ (.int .i64 t.col)) inp l.out l.regs t.col vi vo vr) := hly.mv (yb_margin hly.blk t.col) ((Fr.refl b w2).set _ _)
          have HS3 : Hid (Sp ((q, TBx t) :: S) (w2.setCell ⟨b, 3, none⟩ (.int .i64 t.col)) b vo vr) := hsp.set
          clear hly hsp
          go_wp2
          clear x0 x1 x2 x3 xf1 xf2 xf3 e0 e1 e2 e3 e4 HB
          generalize w2.setCell ⟨b, 3, none⟩ (.int .i64 t.col) = w3 at *
          obtain ⟨e0, e1, e2, e3, e4⟩ := tc_box (HS3.out (q, TBx t) (by simp)).1
          obtain ⟨c0, c1, c2, c3, f1, f2, f3⟩ := yc HB3.out.blk
          have hblt := lt_of_block HB3.out.blk
          obtain ⟨gx, cx, hvr⟩ := own_slice HB3.out.ownr
          subst hvr
          obtain ⟨hi6, hy0, hy1, hy2⟩ := HI2.out
          go_region_law (first
            | (refine step_append_lies _ rfl _ _ 55 rfl (b + 1) 64 i6 (.agg #[.int .u8 0, .int .i64 0, .int .i64 0]) 3 24 Tryd.underlying55 hi6 hy0 hy1 hy2 rfl (by decide) (.slice gx l.regs.length cx) l.regs.length (l.regs.flatMap Rg.cells) rfl (by exact HB3.out.ownr.alloc _) ⟨w3.heap.size, 0, none⟩ 1 1 (Rg.cells ⟨0, t.col, 0⟩) rfl rfl (by exact rg_row w3 ⟨0, t.col, 0⟩ 64) (rg_one ⟨0, t.col, 0⟩) (by decide) (by unfold maxLen; omega) (by omega) (by simp; omega) (w3.heap.size + 1) (by simp) ?_; intro gg capx w4 hown' hgrow hat hltg; have HGG := Lib.hid (And.intro hown' (And.intro hgrow hat)); clear hown' hgrow hat; obtain ⟨c0', c1', c2', c3', f1', f2', f3'⟩ := yc (HB3.out.blkR _ (by rfl) HGG.out.2.1)))
          all_goals
            go_wp2
            go_meet
            exact ⟨_, HM, _, _, _, HB3.out.push (t := ⟨0, t.col, 0⟩) (by rfl) (by rfl) (by rfl) (by rfl) HGG.out.1 HGG.out.2.1 HGG.out.2.2, HS3.out.push (by rfl) HGG.out.2.1 HGG.out.2.2⟩
        · have z0 : ((i : Int) == 0) = false := by rw [beq_eq_false_iff_ne]; omega
          have hgd : Gd l.regs := by
            rcases HG.out with ⟨h, _⟩ | ⟨_, h⟩
            · exact absurd h hz
            · exact h
          have hr := hgd.1
          obtain ⟨u, hu⟩ : ∃ u, u = inp.getD (i - 1) Tz := ⟨_, rfl⟩
          obtain ⟨g', cap', c0', hc'⟩ := HB.out.c0 (by omega)
          have huc := hc' (i - 1) (by omega)
          rw [← hu] at huc
          obtain ⟨u0, u1, u2, u3, u4⟩ := huc
          have a1 : IntKind.i64.wrap ((i : Int) - 1) = (i : Int) - 1 := IntWalk.i64_in _ (by omega)
          have a2 : ((i : Int) - 1).toNat = i - 1 := by omega
          have a3 : (i : Int) - 1 < (inp.length : Int) := by omega
          have a4 : (0 : Int) ≤ (i : Int) - 1 := by omega
          obtain ⟨e0, e1, e2, e3, e4⟩ := tc_box HB.out.spare
          have hb2 := HB.out.lt
          have HR := Lib.hid hr
          by_cases hln : u.line < t.line
          · have HM : Hid (mhead inp i l = mline inp i ⟨l.out, l.regs, t.col⟩) := by show mhead inp i l = _; rw [mhead, if_neg hz, ← HT.out, ← hu, if_pos hln]
            have HZ : Hid (1 ≤ i) := by show 1 ≤ i; omega
            obtain ⟨vi, vo, vr, hly, hsp⟩ := HB.out
            obtain ⟨x0, x1, x2, x3, xf1, xf2, xf3⟩ := yc hly.blk
            clear hly hsp hz hu hc' hgd hr x0
            go_wp2
            go_quiet (fail)
            rcases hp : mline inp i ⟨l.out, l.regs, t.col⟩ with f | l1
            · have HP := Lib.hid hp
              have HE : Hid (mlay inp = .error f) := ylay_err hlt HK.out (by rw [mstep, HM.out, hp])
              clear hp
              go_wp2_with fail
              refine (lineEnd_any ((q, TBx t) :: S) b w0 _ inp ⟨l.out, l.regs, t.col⟩ i (by exact ((HB.out.drewN _).margin t.col)) hlt HZ.out hn HR.out (by simp only; omega) (by simp only; omega)).mono ?_
              intro e w4 h4
              rw [HP.out] at h4
              obtain ⟨rfl, h4⟩ := h4
              have H4 := Lib.hid h4
              clear h4
              refine ⟨rfl, ?_⟩
              show Yk S b w0 inp (mlay inp) _ _
              rw [HE.out]
              exact ⟨rfl, H4.out⟩
            · have HP := Lib.hid hp
              have HM2 : Hid (mhead inp i l = .ok l1) := by show mhead inp i l = _; rw [HM.out, hp]
              clear hp
              go_wp2_with fail
              refine (lineEnd_any ((q, TBx t) :: S) b w0 _ inp ⟨l.out, l.regs, t.col⟩ i (by exact ((HB.out.drewN _).margin t.col)) hlt HZ.out hn HR.out (by simp only; omega) (by simp only; omega)).mono ?_
              intro e w4 h4
              rw [HP.out] at h4
              obtain ⟨rfl, h4⟩ := h4
              have H4 := Lib.hid h4
              clear h4
              go_wp2
              go_meet
              exact ⟨_, HM2, H4.out⟩
          · have HM : Hid (mhead inp i l = .ok l) := by show mhead inp i l = _; rw [mhead, if_neg hz, ← HT.out, ← hu, if_neg hln]
            have hln' : decide (u.line < t.line) = false := by simpa using hln
            clear hz hu hc' hgd hr hln
            go_wp2
            go_quiet (fail)
            go_wp2
            go_meet
            exact ⟨_, HM, HB.out.drewN _⟩
      case rest =>
        obtain ⟨l1, HM1, HY1⟩ := hcut
        obtain ⟨G1, L1, O1⟩ := mhead_gd HM1.out HG.out hl
        have HG1 := Lib.hid G1
        clear G1
        rcases hp : mopen inp i l1 with f | l2
        · have HP := Lib.hid hp
          have HE : Hid (mlay inp = .error f) := ylay_err hlt HK.out (by rw [mstep, HM1.out]; simp only [hp])
          clear hp
          go_wp2_with fail
          refine (openBracket_any ((q, TBx t) :: S) b w0 wc inp l1 i HY1.out hlt hn (by omega)).mono ?_
          intro e w4 h4
          rw [HP.out] at h4
          obtain ⟨rfl, h4⟩ := h4
          have H4 := Lib.hid h4
          clear h4
          refine ⟨rfl, ?_⟩
          show Yk S b w0 inp (mlay inp) _ _
          rw [HE.out]
          exact ⟨rfl, H4.out⟩
        · have HP := Lib.hid hp
          obtain ⟨G2, L2, O2⟩ := mopen_gd hp HG1.out L1
          have HG2 := Lib.hid G2
          clear hp G2
          go_wp2_with fail
          refine (openBracket_any ((q, TBx t) :: S) b w0 wc inp l1 i HY1.out hlt hn (by omega)).mono ?_
          intro e w4 h4
          rw [HP.out] at h4
          obtain ⟨rfl, h4⟩ := h4
          have HY4 := Lib.hid h4
          clear h4 HY1
          rcases hp : mclose inp i l2 with f | l3
          · have HP2 := Lib.hid hp
            have HE : Hid (mlay inp = .error f) := ylay_err hlt HK.out (by rw [mstep, HM1.out]; simp only [HP.out, hp])
            clear hp
            go_wp2_with fail
            refine (closeBracket_any ((q, TBx t) :: S) b w0 w4 inp l2 i HY4.out hlt hn HG2.out.1 (by omega) (by omega)).mono ?_
            intro e w5 h5
            rw [HP2.out] at h5
            obtain ⟨rfl, h5⟩ := h5
            have H5 := Lib.hid h5
            clear h5
            refine ⟨rfl, ?_⟩
            show Yk S b w0 inp (mlay inp) _ _
            rw [HE.out]
            exact ⟨rfl, H5.out⟩
          · have HP2 := Lib.hid hp
            obtain ⟨G3, L3, O3⟩ := mclose_gd hp HG2.out L2
            have HG3 := Lib.hid G3
            have HK' : Hid (ylayF inp (inp.length - (i + 1)) (i + 1) ⟨l3.out ++ [t], l3.regs, l3.m⟩ = mlay inp) := ylay_ok hlt HK.out (by rw [mstep, HM1.out]; simp only [HP.out, hp]; rw [HT.out])
            clear hp G3
            go_wp2_with fail
            refine (closeBracket_any ((q, TBx t) :: S) b w0 w4 inp l2 i HY4.out hlt hn HG2.out.1 (by omega) (by omega)).mono ?_
            intro e w5 h5
            rw [HP2.out] at h5
            obtain ⟨rfl, h5⟩ := h5
            obtain ⟨vi, vo, vr, hly, hsp⟩ := h5
            have HB3 := Lib.hid hly
            have HS3 := Lib.hid hsp
            clear hly hsp HY4
            go_wp2
            obtain ⟨e0, e1, e2, e3, e4⟩ := tc_box (HS3.out (q, TBx t) (by simp)).1
            obtain ⟨c0, c1, c2, c3, f1, f2, f3⟩ := yc HB3.out.blk
            have hblt := lt_of_block HB3.out.blk
            have hql : q < w5.heap.size := lt_of_block (HS3.out (q, TBx t) (by simp)).1
            obtain ⟨hi6, hy0, hy1, hy2⟩ := HI1.out
            go_region_law (first
              | (refine step_append_lies _ rfl _ _ 23 rfl (b + 1) 32 i0 (.agg #[.int .i64 0, .string ByteArray.empty, .int .i64 0, .int .i64 0, .int .i64 0]) 5 48 Tryd.underlying23 hi6 hy0 hy1 hy2 rfl (by decide) vo l3.out.length (l3.out.flatMap Tok.cells) rfl (by exact HB3.out.own.alloc _) ⟨w5.heap.size, 0, none⟩ 1 1 t.cells rfl rfl (by exact tok_row w5 t 32) (tok_one t) (by decide) (by unfold maxLen; omega) (by omega) (by simp; omega) (w5.heap.size + 1) (by simp) ?_; intro gg capx w6 hown' hgrow hat hltg; have HGG := Lib.hid (And.intro hown' (And.intro hgrow hat)); clear hown' hgrow hat; obtain ⟨c0', c1', c2', c3', f1', f2', f3'⟩ := yc (HB3.out.blkO _ (by rfl) HGG.out.2.1)))
            all_goals
              have HY6 : Hid (Yd S b w0 _ inp ⟨l3.out ++ [t], l3.regs, l3.m⟩) := Yd.tail (x := (q, TBx t)) ⟨_, _, _, HB3.out.put (t := t) (by rfl) (by rfl) (by rfl) (by rfl) HGG.out.1 HGG.out.2.1 HGG.out.2.2, HS3.out.put (by rfl) HGG.out.2.1 HGG.out.2.2⟩
              go_wp2
              go_roundg n
              case measure => omega
              case rel => exact ⟨i + 1, ⟨l3.out ++ [t], l3.regs, l3.m⟩, by omega, by omega, by go_num, Or.inr ⟨by omega, HG3.out⟩, by simp only; omega, by simp; omega, HK', HY6⟩
    · have HF : Hid (mlay inp = mend inp l) := by
        have := HK.out
        rw [show inp.length - i = 0 from by omega, ylayF] at this
        exact this.symm
      have hii : decide ((i : Int) < (inp.length : Int)) = false := by simp; omega
      rcases hp : mend inp l with f | l'
      · have HP := Lib.hid hp
        clear hp
        go_wp2_with fail
        refine (end_any S b w0 wr inp l HW.out hn (by omega) (by omega)).mono ?_
        intro e w4 h4
        rw [HP.out] at h4
        obtain ⟨rfl, h4⟩ := h4
        have H4 := Lib.hid h4
        clear h4
        refine ⟨rfl, ?_⟩
        show Yk S b w0 inp (mlay inp) _ _
        rw [HF.out, HP.out]
        exact ⟨rfl, H4.out⟩
      · have HP := Lib.hid hp
        clear hp
        go_wp2_with fail
        refine (end_any S b w0 wr inp l HW.out hn (by omega) (by omega)).mono ?_
        intro e w4 h4
        rw [HP.out] at h4
        obtain ⟨rfl, h4⟩ := h4
        have H4 := Lib.hid h4
        clear h4
        go_wp2
        go_end0
        show Yk S b w0 inp (mlay inp) _ _
        rw [HF.out, HP.out]
        exact ⟨rfl, H4.out⟩
end Go.Proofs.YtkfkgdkfgpofnaaDoor
