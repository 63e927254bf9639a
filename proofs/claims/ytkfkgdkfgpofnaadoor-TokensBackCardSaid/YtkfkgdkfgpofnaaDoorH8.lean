/- The walk of closeBracket. -/
import Derived.Test.YtkfkgdkfgpofnaaDoorH6
namespace Go.Proofs.YtkfkgdkfgpofnaaDoor
open Go.RowKit Go.Sort
set_option maxRecDepth 100000

/-- The outdents inside of a bracket that ends. -/
def closeF (t : Tok) : Nat → List Tok → List Rg → List Tok × List Rg
  | 0, o, rs => (o, rs)
  | n + 1, o, rs => if 1 < rs.length ∧ (lastR rs).closer = 0 then closeF t n (o ++ [layTok 13 t]) rs.dropLast else (o, rs)
def isClose (t : Tok) : Bool := t.kind == 3 && (t.text.toList == [41] || t.text.toList == [93] || t.text.toList == [125])
def mclose (inp : List Tok) (i : Nat) (l : LS) : Except Flt LS :=
  if isClose (inp.getD i Tz) = true then
    (if (lastR (closeF (inp.getD i Tz) (l.regs.length + 1) l.out l.regs).2).closer = bt (inp.getD i Tz).text 0 then
      .ok ⟨(closeF (inp.getD i Tz) (l.regs.length + 1) l.out l.regs).1, (closeF (inp.getD i Tz) (l.regs.length + 1) l.out l.regs).2.dropLast, l.m⟩ else .error (i, 27))
  else .ok l
set_option maxHeartbeats 20000000 in
theorem closeBracket_any (S : List (Nat × Obj)) (b : Nat) (w0 w : World) (inp : List Tok) (l : LS) (i : Nat) (h : Yd S b w0 w inp l) (hi : i < inp.length) (hn : inp.length ≤ 100000) (hr : l.regs ≠ []) (ho : l.out.length + l.regs.length ≤ 1000000) (hl : l.regs.length ≤ 1000) :
    Calls Tryd.prog 44 #[.pointer (some ⟨b, 0, none⟩), .int .i64 i] w (Yk S b w0 inp (mclose inp i l)) := by
  obtain ⟨g, cap, c0, hc⟩ := h.c0 (by omega)
  obtain ⟨t, ht⟩ : ∃ t, t = inp.getD i Tz := ⟨_, rfl⟩
  have htc := hc i hi
  rw [← ht] at htc
  obtain ⟨t0, t1, t2, t3, t4⟩ := htc
  have HB : Hid (Yd ((w.heap.size, TBx t) :: S) b w0 (w.alloc (.cells #[.int .i64 t.kind, .string t.text, .int .i64 t.at_, .int .i64 t.line, .int .i64 t.col] 32)) inp l) := h.add _
  have hii : (i : Int) < (inp.length : Int) := by omega
  have hi0 : (0 : Int) ≤ (i : Int) := by omega
  by_cases hq : isClose t = true
  · have HMC : Hid (mclose inp i l = if (lastR (closeF t (l.regs.length + 1) l.out l.regs).2).closer = bt t.text 0 then .ok ⟨(closeF t (l.regs.length + 1) l.out l.regs).1, (closeF t (l.regs.length + 1) l.out l.regs).2.dropLast, l.m⟩ else .error (i, 27)) := by
      show mclose inp i l = _; rw [mclose, ← ht, if_pos hq]
    have HT := Lib.hid ht
    have hq' : (t.kind == 3) = true ∧ ((t.text.toList == [41]) = true ∨ ((t.text.toList == [41]) = false ∧ (t.text.toList == [93]) = true) ∨ ((t.text.toList == [41]) = false ∧ (t.text.toList == [93]) = false ∧ (t.text.toList == [125]) = true)) := by
      simp only [isClose, Bool.and_eq_true, Bool.or_eq_true] at hq
      refine ⟨hq.1, ?_⟩
      cases h1 : (t.text.toList == [41]) <;> cases h2 : (t.text.toList == [93]) <;> cases h3 : (t.text.toList == [125]) <;> simp_all
    have hsz : 0 < t.text.size := by
      have : t.text.toList.length = 1 := by
        rcases hq'.2 with h | ⟨_, h⟩ | ⟨_, _, h⟩ <;> (rw [beq_iff_eq] at h; rw [h]; rfl)
      rw [ByteArray.toList_eq] at this
      have h2 : t.text.data.toList.length = t.text.size := Array.length_toList
      omega
    have hbt := bt_eq t.text 0 hsz
    clear h hc ht hq
    obtain ⟨k0, hq⟩ := hq'
    have k0' : (t.kind != 3) = false := by simp only [bne, k0]; rfl
    go_enter Tryd.func44, Tryd.ntmps44
    rcases hq with n1 | ⟨n1, n2⟩ | ⟨n1, n2, n3⟩
    all_goals
      go_wp2
      generalize w.alloc (.cells #[.int .i64 t.kind, .string t.text, .int .i64 t.at_, .int .i64 t.line, .int .i64 t.col] 32) = w2 at *
      generalize w.heap.size = B5 at *
      go_loopg [] (l.regs.length + 1) (fun n wr => ∃ (o : List Tok) (rs : List Rg), rs.length < n ∧ rs ≠ [] ∧ rs.length ≤ 1000 ∧ o.length + rs.length ≤ 1000000 ∧ Hid (closeF t n o rs = closeF t (l.regs.length + 1) l.out l.regs) ∧ Hid (Yd ((B5, TBx t) :: S) b w0 wr inp ⟨o, rs, l.m⟩))
      case atStart => exact ⟨l.out, l.regs, by omega, hr, hl, ho, rfl, HB⟩
      case round =>
        obtain ⟨o, rs, hn, hne, hrl, hol, HK, HY⟩ := hrel
        obtain ⟨n, rfl⟩ : ∃ n, gk = n + 1 := ⟨gk - 1, by omega⟩
        obtain ⟨va, vc, c2⟩ := HY.out.c2
        have cT := HY.out.top hne hrl
        simp only at c2 cT
        have hf0 := fld0 (lastR rs)
        by_cases hx : 1 < rs.length ∧ (lastR rs).closer = 0
        · obtain ⟨g1', g2'⟩ := hx
          have g1 : (1 : Int) < (rs.length : Int) := by omega
          have g2 : (((lastR rs).closer : Int) == 0) = true := by simp [g2']
          have HK' : Hid (closeF t n (o ++ [layTok 13 t]) rs.dropLast = closeF t (l.regs.length + 1) l.out l.regs) := by
            have := HK.out; rw [closeF, if_pos ⟨g1', g2'⟩] at this; exact this
          clear g1' g2'
          go_wp2_with (go_at_call 57; refine (top_last _ b w0 wr inp ⟨o, rs, l.m⟩ HY.out hne hrl).mono ?_; rintro e w3 ⟨rfl, hb3⟩; have HY2 := Lib.hid (HY.out.grown hb3); clear hb3 c2; obtain ⟨e0, e1, e2, e3, e4⟩ := tc_box HY2.out.spare)
          refine (yput_any _ b w0 w3 inp ⟨o, rs, l.m⟩ 13 t HY2.out (by simp only; omega)).mono ?_
          rintro e w4 ⟨rfl, hy4⟩
          have HY4 := Lib.hid hy4
          clear hy4 e0 e1 e2 e3 e4
          go_wp2_with fail
          refine (pop_last _ b w0 w4 inp _ HY4.out hne hrl).mono ?_
          rintro e w5 ⟨rfl, hy5⟩
          have HY5 := Lib.hid hy5
          clear hy5
          go_wp2
          go_roundg n
          case measure => omega
          case rel => exact ⟨o ++ [layTok 13 t], rs.dropLast, by simp; omega, by intro e; have := congrArg List.length e; simp at this; omega, by simp; omega, by simp; omega, HK', HY5⟩
        · have HX : Hid (closeF t (l.regs.length + 1) l.out l.regs = (o, rs)) := by
            have := HK.out; rw [closeF, if_neg hx] at this; exact this.symm
          have d1 : decide ((1 : Int) < (rs.length : Int)) = false ∨ (decide ((1 : Int) < (rs.length : Int)) = true ∧ (((lastR rs).closer : Int) == 0) = false) := by
            by_cases g1 : 1 < rs.length
            · right; refine ⟨by simp; omega, ?_⟩; rw [beq_eq_false_iff_ne]; intro e; exact hx ⟨g1, by omega⟩
            · left; simp; omega
          by_cases hm : (lastR rs).closer = bt t.text 0
          · have HM : Hid (mclose inp i l = .ok ⟨o, rs.dropLast, l.m⟩) := by show mclose inp i l = _; rw [HMC.out, HX.out]; exact if_pos hm
            have m0 : (((lastR rs).closer : Int) == (bt t.text 0 : Int)) = true := by simp [hm]
            clear hx hm
            rcases d1 with g1 | ⟨g1, g2⟩
            · go_wp2
              have HY2 := HY
              clear c2 cT
              generalize wr = w3 at *
              have cT := HY2.out.top hne hrl
              obtain ⟨e0, e1, e2, e3, e4⟩ := tc_box HY2.out.spare
              have k1 := cell_regrown e1
              simp only at cT
              refine wp_region_quiet_below (by kernel_rfl) (by kernel_rfl) ?_
              repeat (go_big_quiet_step (exact cT _ _))
              refine wpQuiet_nil ?_
              intro _ hw'
              obtain ⟨⟨dq, osq⟩, hw''⟩ := hw'
              subst hw''
              have HY5 := Lib.hid (HY2.out.grown (below_regrown w3 dq osq))
              clear e0 e1 e2 e3 e4 k1 cT
              generalize grow (redrawn w3 dq) osq = w5 at *
              go_wp2_with fail
              refine (pop_last _ b w0 w5 inp _ HY5.out hne hrl).mono ?_
              rintro e w6 ⟨rfl, hy6⟩
              have HY6 := Lib.hid hy6
              clear hy6
              go_wp2
              go_end0
              rw [HM.out]
              exact ⟨rfl, HY6.out.tail⟩
            · go_wp2_with (go_at_call 57; refine (top_last _ b w0 wr inp ⟨o, rs, l.m⟩ HY.out hne hrl).mono ?_; rintro e w3 ⟨rfl, hb3⟩; have HY2 := Lib.hid (HY.out.grown hb3); clear hb3 c2 cT)
              have cT := HY2.out.top hne hrl
              obtain ⟨e0, e1, e2, e3, e4⟩ := tc_box HY2.out.spare
              have k1 := cell_regrown e1
              simp only at cT
              refine wp_region_quiet_below (by kernel_rfl) (by kernel_rfl) ?_
              repeat (go_big_quiet_step (exact cT _ _))
              refine wpQuiet_nil ?_
              intro _ hw'
              obtain ⟨⟨dq, osq⟩, hw''⟩ := hw'
              subst hw''
              have HY5 := Lib.hid (HY2.out.grown (below_regrown w3 dq osq))
              clear e0 e1 e2 e3 e4 k1 cT
              generalize grow (redrawn w3 dq) osq = w5 at *
              go_wp2_with fail
              refine (pop_last _ b w0 w5 inp _ HY5.out hne hrl).mono ?_
              rintro e w6 ⟨rfl, hy6⟩
              have HY6 := Lib.hid hy6
              clear hy6
              go_wp2
              go_end0
              rw [HM.out]
              exact ⟨rfl, HY6.out.tail⟩
          · have HM : Hid (mclose inp i l = .error (i, 27)) := by show mclose inp i l = _; rw [HMC.out, HX.out]; exact if_neg hm
            have m0 : (((lastR rs).closer : Int) == (bt t.text 0 : Int)) = false := by rw [beq_eq_false_iff_ne]; omega
            clear hx hm
            rcases d1 with g1 | ⟨g1, g2⟩
            · go_wp2
              have HY2 := HY
              clear c2 cT
              generalize wr = w3 at *
              have cT := HY2.out.top hne hrl
              obtain ⟨e0, e1, e2, e3, e4⟩ := tc_box HY2.out.spare
              have k1 := cell_regrown e1
              simp only at cT
              refine wp_region_quiet_below (by kernel_rfl) (by kernel_rfl) ?_
              repeat (go_big_quiet_step (exact cT _ _))
              refine wpQuiet_nil ?_
              intro _ hw'
              obtain ⟨⟨dq, osq⟩, hw''⟩ := hw'
              subst hw''
              have HY5 := Lib.hid (HY2.out.grown (below_regrown w3 dq osq))
              clear e0 e1 e2 e3 e4 k1 cT
              generalize grow (redrawn w3 dq) osq = w5 at *
              go_wp2_with (go_at_call 18; refine (fail_any _ _ _).mono ?_; rintro e w' ⟨rfl, rfl⟩)
              refine ⟨rfl, ?_⟩
              rw [HM.out]
              exact ⟨rfl, HY5.out.bel⟩
            · go_wp2_with (go_at_call 57; refine (top_last _ b w0 wr inp ⟨o, rs, l.m⟩ HY.out hne hrl).mono ?_; rintro e w3 ⟨rfl, hb3⟩; have HY2 := Lib.hid (HY.out.grown hb3); clear hb3 c2 cT)
              have cT := HY2.out.top hne hrl
              obtain ⟨e0, e1, e2, e3, e4⟩ := tc_box HY2.out.spare
              have k1 := cell_regrown e1
              simp only at cT
              refine wp_region_quiet_below (by kernel_rfl) (by kernel_rfl) ?_
              repeat (go_big_quiet_step (exact cT _ _))
              refine wpQuiet_nil ?_
              intro _ hw'
              obtain ⟨⟨dq, osq⟩, hw''⟩ := hw'
              subst hw''
              have HY5 := Lib.hid (HY2.out.grown (below_regrown w3 dq osq))
              clear e0 e1 e2 e3 e4 k1 cT
              generalize grow (redrawn w3 dq) osq = w5 at *
              go_wp2_with (go_at_call 18; refine (fail_any _ _ _).mono ?_; rintro e w' ⟨rfl, rfl⟩)
              refine ⟨rfl, ?_⟩
              rw [HM.out]
              exact ⟨rfl, HY5.out.bel⟩
  · have HM : Hid (mclose inp i l = .ok l) := by show mclose inp i l = _; rw [mclose, ← ht, if_neg hq]
    have HT := Lib.hid ht
    clear h hc ht
    have hq' : (t.kind != 3) = true ∨ ((t.kind != 3) = false ∧ (t.text.toList == [41]) = false ∧ (t.text.toList == [93]) = false ∧ (t.text.toList == [125]) = false) := by
      simp only [isClose] at hq
      simp only [bne]
      cases h0 : (t.kind == 3) <;> cases h1 : (t.text.toList == [41]) <;> cases h2 : (t.text.toList == [93]) <;> cases h3 : (t.text.toList == [125]) <;> simp_all
    clear hq
    go_enter Tryd.func44, Tryd.ntmps44
    rcases hq' with k0 | ⟨k0, n1, n2, n3⟩
    all_goals
      go_wp2
      go_end0
      rw [HM.out]
      exact ⟨rfl, HB.out.tail⟩
end Go.Proofs.YtkfkgdkfgpofnaaDoor
