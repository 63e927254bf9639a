/- The walk of outdents. -/
import Derived.Test.YtkfkgdkfgpofnaaDoorH5
import Derived.Test.YtkfkgdkfgpofnaaDoorH3
import Derived.Lib.QuietBelow
import Derived.BigQuiet
import Derived.Deep.LoopGhost
namespace Go.Proofs.YtkfkgdkfgpofnaaDoor
open Go.RowKit Go.Sort
set_option maxRecDepth 100000

/-- A token in a block of its own. -/
def TBx (t : Tok) : Obj := .cells #[.int .i64 t.kind, .string t.text, .int .i64 t.at_, .int .i64 t.line, .int .i64 t.col] 32
theorem tc_box {w : World} {q : Nat} {t : Tok} (hbk : w.heap[q]? = some (TBx t)) : TC w q 0 t := ⟨blk_cell hbk 0, blk_cell hbk 1, blk_cell hbk 2, blk_cell hbk 3, blk_cell hbk 4⟩
section
variable {S : List (Nat × Obj)} {b : Nat} {w0 w w' : World} {inp : List Tok} {t : LS}
theorem Yd.c2 (h : Yd S b w0 w inp t) : ∃ va vc, w.cell? ⟨b, 2, none⟩ = some (.slice va t.regs.length vc) := by
  obtain ⟨vi, vo, vr, h, _⟩ := h
  obtain ⟨va, vc, rfl⟩ := own_slice h.ownr
  exact ⟨va, vc, (yc h.blk).c2⟩
theorem Yd.c0 (h : Yd S b w0 w inp t) (hn : 0 < inp.length) : ∃ g cap, w.cell? ⟨b, 0, none⟩ = some (.slice (some ⟨g, 0, none⟩) inp.length cap) ∧ ∀ i, i < inp.length → TC w g (i * 5) (inp.getD i Tz) := by
  obtain ⟨vi, vo, vr, h, _⟩ := h
  obtain ⟨g, cap, rfl, _⟩ := h.inForm hn
  exact ⟨g, cap, (yc h.blk).c0, fun i hi => h.td i hi⟩
theorem Yd.top (h : Yd S b w0 w inp t) (hr : t.regs ≠ []) (hl : t.regs.length ≤ 1000) (d : Nat) (os : Array Obj) :
    Calls Tryd.prog 57 #[.pointer (some ⟨b, 0, none⟩)] (grow (redrawn w d) os) fun e w'' => e = .returned (.agg #[.int .u8 (lastR t.regs).closer, .int .i64 (lastR t.regs).width, .int .i64 (lastR t.regs).index]) ∧ ∃ p : Regrown, w'' = grow (redrawn w p.d) p.os :=
  Calls.regrown_of (top_last S b w0 _ inp t (h.grown (below_regrown w d os)) hr hl)
end

theorem fld0 (r : Rg) (w : World) : (Instr.field 64 (.agg #[.int .u8 r.closer, .int .i64 r.width, .int .i64 r.index]) 0).run Tryd.prog w = .ok (.int .u8 r.closer) w := by kernel_rfl
theorem fld1 (r : Rg) (w : World) : (Instr.field 64 (.agg #[.int .u8 r.closer, .int .i64 r.width, .int .i64 r.index]) 1).run Tryd.prog w = .ok (.int .i64 r.width) w := by kernel_rfl
/-- The outdents in front of a token. -/
def outF (t : Tok) : Nat → List Tok → List Rg → Bool → List Tok × List Rg × Bool
  | 0, o, rs, p => (o, rs, p)
  | n + 1, o, rs, p => if 1 < rs.length ∧ (lastR rs).closer = 0 ∧ t.col < (lastR rs).width then outF t n (o ++ [layTok 13 t]) rs.dropLast true else (o, rs, p)
def moutd (t : Tok) (l : LS) : Except Flt LS :=
  if (lastR (outF t (l.regs.length + 1) l.out l.regs false).2.1).closer = 0 ∧
      (t.col < (lastR (outF t (l.regs.length + 1) l.out l.regs false).2.1).width ∨
        ((outF t (l.regs.length + 1) l.out l.regs false).2.2 = true ∧ (lastR (outF t (l.regs.length + 1) l.out l.regs false).2.1).width < t.col)) then .error (t.at_, 23)
  else .ok ⟨(outF t (l.regs.length + 1) l.out l.regs false).1, (outF t (l.regs.length + 1) l.out l.regs false).2.1, l.m⟩

set_option maxHeartbeats 20000000 in
theorem outdents_any (S : List (Nat × Obj)) (b : Nat) (w0 w : World) (inp : List Tok) (l : LS) (t : Tok) (h : Yd S b w0 w inp l) (hr : l.regs ≠ []) (ho : l.out.length + l.regs.length ≤ 1000000) (hl : l.regs.length ≤ 1000) :
    Calls Tryd.prog 61 #[.pointer (some ⟨b, 0, none⟩), t.agg] w (Yk S b w0 inp (moutd t l)) := by
  have HB : Hid (Yd ((w.heap.size, TBx t) :: S) b w0 (w.alloc (.cells #[.int .i64 t.kind, .string t.text, .int .i64 t.at_, .int .i64 t.line, .int .i64 t.col] 32)) inp l) := h.add _
  clear h
  unfold Tok.agg
  go_enter Tryd.func61, Tryd.ntmps61
  go_wp2
  generalize w.alloc (.cells #[.int .i64 t.kind, .string t.text, .int .i64 t.at_, .int .i64 t.line, .int .i64 t.col] 32) = w2 at *
  generalize w.heap.size = B5 at *
  go_loopg [4] (l.regs.length + 1) (fun n v wr => ∃ (o : List Tok) (rs : List Rg) (p : Bool), rs.length < n ∧ rs ≠ [] ∧ v = .bool p ∧ rs.length ≤ 1000 ∧ o.length + rs.length ≤ 1000000 ∧ Hid (outF t n o rs p = outF t (l.regs.length + 1) l.out l.regs false) ∧ Hid (Yd ((B5, TBx t) :: S) b w0 wr inp ⟨o, rs, l.m⟩))
  case atStart => exact ⟨l.out, l.regs, false, by omega, hr, rfl, hl, ho, rfl, HB⟩
  case round =>
    obtain ⟨o, rs, p, hn, hne, rfl, hrl, hol, HK, HY⟩ := hrel
    obtain ⟨n, rfl⟩ : ∃ n, gk = n + 1 := ⟨gk - 1, by omega⟩
    obtain ⟨va, vc, c2⟩ := HY.out.c2
    have k2 := cell_regrown c2
    obtain ⟨e0, e1, e2, e3, e4⟩ := tc_box HY.out.spare
    have k4 := cell_regrown e4
    have cT := HY.out.top hne hrl
    simp only at c2 k2 cT
    have hf0 := fld0 (lastR rs)
    have hf1 := fld1 (lastR rs)
    by_cases hx : 1 < rs.length ∧ (lastR rs).closer = 0 ∧ t.col < (lastR rs).width
    · obtain ⟨g1', g2', g3⟩ := hx
      have g1 : (1 : Int) < (rs.length : Int) := by omega
      have g2 : (((lastR rs).closer : Int) == 0) = true := by simp [g2']
      have HK' : Hid (outF t n (o ++ [layTok 13 t]) rs.dropLast true = outF t (l.regs.length + 1) l.out l.regs false) := by
        have := HK.out; rw [outF, if_pos ⟨g1', g2', g3⟩] at this; exact this
      clear g1' g2'
      go_wp2
      refine wp_region_quiet_below (by kernel_rfl) (by kernel_rfl) ?_
      repeat (go_big_quiet_step (exact cT _ _))
      refine wpQuiet_nil ?_
      intro _ hw'
      obtain ⟨⟨dq, osq⟩, hw''⟩ := hw'
      subst hw''
      have HY2 := Lib.hid (HY.out.grown (below_regrown wr dq osq))
      clear c2 k2 e0 e1 e2 e3 e4 k4 cT
      generalize grow (redrawn wr dq) osq = w3 at *
      obtain ⟨e0, e1, e2, e3, e4⟩ := tc_box HY2.out.spare
      go_wp2_with fail
      refine (yput_any _ b w0 w3 inp ⟨o, rs, l.m⟩ 13 t HY2.out (by simp only; omega)).mono ?_
      rintro e w4 ⟨rfl, hy4⟩
      have HY4 := Lib.hid hy4
      clear hy4 e0 e1 e2 e3 e4
      go_wp2_with fail
      refine (pop_last _ b w0 w4 inp _ HY4.out hne hrl).mono ?_
      rintro e w5 ⟨rfl, hy5⟩
      have HY5 := Lib.hid hy5
      clear hy5
      go_wp2
      go_roundg n
      case measure => omega
      case rel => exact ⟨o ++ [layTok 13 t], rs.dropLast, true, by simp; omega, by intro e; have := congrArg List.length e; simp at this; omega, rfl, by simp; omega, by simp; omega, HK', HY5⟩
    · have HX : Hid (outF t (l.regs.length + 1) l.out l.regs false = (o, rs, p)) := by
        have := HK.out; rw [outF, if_neg hx] at this; exact this.symm
      have d1 : decide ((1 : Int) < (rs.length : Int)) = true ∨ decide ((1 : Int) < (rs.length : Int)) = false := by cases decide ((1 : Int) < (rs.length : Int)) <;> simp
      have d3 : decide (t.col < (lastR rs).width) = true ∨ decide (t.col < (lastR rs).width) = false := by cases decide (t.col < (lastR rs).width) <;> simp
      have d5 : decide ((lastR rs).width < t.col) = true ∨ decide ((lastR rs).width < t.col) = false := by cases decide ((lastR rs).width < t.col) <;> simp
      by_cases q2' : (lastR rs).closer = 0
      · have q2 : (((lastR rs).closer : Int) == 0) = true := by simp [q2']
        have hx' : ¬ (1 < rs.length ∧ t.col < (lastR rs).width) := fun h => hx ⟨h.1, q2', h.2⟩
        clear hx
        rcases d3 with q3 | q3
        · rcases d1 with g1 | g1
          · exfalso; simp at g1 q3; exact hx' ⟨by omega, q3⟩
          · have HM : Hid (moutd t l = .error (t.at_, 23)) := by show moutd t l = _; rw [moutd, HX.out]; simp only [decide_eq_true_eq] at q3; rw [if_pos ⟨q2', Or.inl q3⟩]
            clear hx' d5 q2'
            go_wp2
            refine wp_region_quiet_below (by kernel_rfl) (by kernel_rfl) ?_
            repeat (go_big_quiet_step (exact cT _ _))
            refine wpQuiet_nil ?_
            intro _ hw'
            obtain ⟨⟨dq, osq⟩, hw''⟩ := hw'
            subst hw''
            have HY2 := Lib.hid (HY.out.grown (below_regrown wr dq osq))
            clear c2 k2 e0 e1 e2 e3 e4 k4 cT
            generalize grow (redrawn wr dq) osq = w3 at *
            go_wp2_with (go_at_call 57; refine (top_last _ b w0 w3 inp ⟨o, rs, l.m⟩ HY2.out hne hrl).mono ?_; rintro e w4 ⟨rfl, hb4⟩; have HY4 := Lib.hid (HY2.out.grown hb4); clear hb4)
            have cT := HY4.out.top hne hrl
            obtain ⟨e0, e1, e2, e3, e4⟩ := tc_box HY4.out.spare
            have k4 := cell_regrown e4
            simp only at cT
            refine wp_region_quiet_below (by kernel_rfl) (by kernel_rfl) ?_
            repeat (go_big_quiet_step (exact cT _ _))
            refine wpQuiet_nil ?_
            intro _ hw'
            obtain ⟨⟨dq, osq⟩, hw''⟩ := hw'
            subst hw''
            have HY5 := Lib.hid (HY4.out.grown (below_regrown w4 dq osq))
            clear e0 e1 e2 e3 e4 k4 cT
            generalize grow (redrawn w4 dq) osq = w5 at *
            obtain ⟨e0, e1, e2, e3, e4⟩ := tc_box HY5.out.spare
            go_wp2_with (go_at_call 18; refine (fail_any _ _ _).mono ?_; rintro e w' ⟨rfl, rfl⟩)
            refine ⟨rfl, ?_⟩
            rw [HM.out]
            exact ⟨rfl, HY5.out.bel⟩
        · cases p with
          | false =>
            have HM : Hid (moutd t l = .ok ⟨o, rs, l.m⟩) := by show moutd t l = _; rw [moutd, HX.out]; simp only [decide_eq_false_iff_not] at q3; rw [if_neg (by simp [q3])]
            clear hx' d5 q2'
            rcases d1 with g1 | g1
            all_goals
              go_wp2
              refine wp_region_quiet_below (by kernel_rfl) (by kernel_rfl) ?_
              repeat (go_big_quiet_step (exact cT _ _))
              refine wpQuiet_nil ?_
              intro _ hw'
              obtain ⟨⟨dq, osq⟩, hw''⟩ := hw'
              subst hw''
              have HY2 := Lib.hid (HY.out.grown (below_regrown wr dq osq))
              clear c2 k2 e0 e1 e2 e3 e4 k4 cT
              generalize grow (redrawn wr dq) osq = w3 at *
              go_wp2_with (go_at_call 57; refine (top_last _ b w0 w3 inp ⟨o, rs, l.m⟩ HY2.out hne hrl).mono ?_; rintro e w4 ⟨rfl, hb4⟩; have HY4 := Lib.hid (HY2.out.grown hb4); clear hb4)
              have cT := HY4.out.top hne hrl
              obtain ⟨e0, e1, e2, e3, e4⟩ := tc_box HY4.out.spare
              have k4 := cell_regrown e4
              simp only at cT
              refine wp_region_quiet_below (by kernel_rfl) (by kernel_rfl) ?_
              repeat (go_big_quiet_step (exact cT _ _))
              refine wpQuiet_nil ?_
              intro _ hw'
              obtain ⟨⟨dq, osq⟩, hw''⟩ := hw'
              subst hw''
              have HY5 := Lib.hid (HY4.out.grown (below_regrown w4 dq osq))
              clear e0 e1 e2 e3 e4 k4 cT
              generalize grow (redrawn w4 dq) osq = w5 at *
              go_wp2
              go_end0
              rw [HM.out]
              exact ⟨rfl, HY5.out.tail⟩
          | true =>
            rcases d5 with q5 | q5
            · have HM : Hid (moutd t l = .error (t.at_, 23)) := by show moutd t l = _; rw [moutd, HX.out]; simp only [decide_eq_true_eq] at q5; rw [if_pos ⟨q2', Or.inr ⟨rfl, q5⟩⟩]
              clear hx' q2'
              rcases d1 with g1 | g1
              all_goals
                go_wp2
                refine wp_region_quiet_below (by kernel_rfl) (by kernel_rfl) ?_
                repeat (go_big_quiet_step (exact cT _ _))
                refine wpQuiet_nil ?_
                intro _ hw'
                obtain ⟨⟨dq, osq⟩, hw''⟩ := hw'
                subst hw''
                have HY2 := Lib.hid (HY.out.grown (below_regrown wr dq osq))
                clear c2 k2 e0 e1 e2 e3 e4 k4 cT
                generalize grow (redrawn wr dq) osq = w3 at *
                go_wp2_with (go_at_call 57; refine (top_last _ b w0 w3 inp ⟨o, rs, l.m⟩ HY2.out hne hrl).mono ?_; rintro e w4 ⟨rfl, hb4⟩; have HY4 := Lib.hid (HY2.out.grown hb4); clear hb4)
                have cT := HY4.out.top hne hrl
                obtain ⟨e0, e1, e2, e3, e4⟩ := tc_box HY4.out.spare
                have k4 := cell_regrown e4
                simp only at cT
                refine wp_region_quiet_below (by kernel_rfl) (by kernel_rfl) ?_
                repeat (go_big_quiet_step (exact cT _ _))
                refine wpQuiet_nil ?_
                intro _ hw'
                obtain ⟨⟨dq, osq⟩, hw''⟩ := hw'
                subst hw''
                have HY5 := Lib.hid (HY4.out.grown (below_regrown w4 dq osq))
                clear e0 e1 e2 e3 e4 k4 cT
                generalize grow (redrawn w4 dq) osq = w5 at *
                obtain ⟨e0, e1, e2, e3, e4⟩ := tc_box HY5.out.spare
                go_wp2_with (go_at_call 18; refine (fail_any _ _ _).mono ?_; rintro e w' ⟨rfl, rfl⟩)
                refine ⟨rfl, ?_⟩
                rw [HM.out]
                exact ⟨rfl, HY5.out.bel⟩
            · have HM : Hid (moutd t l = .ok ⟨o, rs, l.m⟩) := by show moutd t l = _; rw [moutd, HX.out]; simp only [decide_eq_false_iff_not] at q3 q5; rw [if_neg (by simp [q3, q5])]
              clear hx' q2'
              rcases d1 with g1 | g1
              all_goals
                go_wp2
                refine wp_region_quiet_below (by kernel_rfl) (by kernel_rfl) ?_
                repeat (go_big_quiet_step (exact cT _ _))
                refine wpQuiet_nil ?_
                intro _ hw'
                obtain ⟨⟨dq, osq⟩, hw''⟩ := hw'
                subst hw''
                have HY2 := Lib.hid (HY.out.grown (below_regrown wr dq osq))
                clear c2 k2 e0 e1 e2 e3 e4 k4 cT
                generalize grow (redrawn wr dq) osq = w3 at *
                go_wp2_with (go_at_call 57; refine (top_last _ b w0 w3 inp ⟨o, rs, l.m⟩ HY2.out hne hrl).mono ?_; rintro e w4 ⟨rfl, hb4⟩; have HY4 := Lib.hid (HY2.out.grown hb4); clear hb4)
                have cT := HY4.out.top hne hrl
                obtain ⟨e0, e1, e2, e3, e4⟩ := tc_box HY4.out.spare
                have k4 := cell_regrown e4
                simp only at cT
                refine wp_region_quiet_below (by kernel_rfl) (by kernel_rfl) ?_
                repeat (go_big_quiet_step (exact cT _ _))
                refine wpQuiet_nil ?_
                intro _ hw'
                obtain ⟨⟨dq, osq⟩, hw''⟩ := hw'
                subst hw''
                have HY5 := Lib.hid (HY4.out.grown (below_regrown w4 dq osq))
                clear e0 e1 e2 e3 e4 k4 cT
                generalize grow (redrawn w4 dq) osq = w5 at *
                go_wp2
                go_end0
                rw [HM.out]
                exact ⟨rfl, HY5.out.tail⟩
      · have q2 : (((lastR rs).closer : Int) == 0) = false := by rw [beq_eq_false_iff_ne]; omega
        have HM : Hid (moutd t l = .ok ⟨o, rs, l.m⟩) := by show moutd t l = _; rw [moutd, HX.out, if_neg (by simp [q2'])]
        clear hx d3 d5 q2'
        rcases d1 with g1 | g1
        all_goals
          go_wp2
          refine wp_region_quiet_below (by kernel_rfl) (by kernel_rfl) ?_
          repeat (go_big_quiet_step (exact cT _ _))
          refine wpQuiet_nil ?_
          intro _ hw'
          obtain ⟨⟨dq, osq⟩, hw''⟩ := hw'
          subst hw''
          have HY2 := Lib.hid (HY.out.grown (below_regrown wr dq osq))
          clear c2 k2 e0 e1 e2 e3 e4 k4 cT
          generalize grow (redrawn wr dq) osq = w3 at *
          go_wp2_with (go_at_call 57; refine (top_last _ b w0 w3 inp ⟨o, rs, l.m⟩ HY2.out hne hrl).mono ?_; rintro e w4 ⟨rfl, hb4⟩; have HY4 := Lib.hid (HY2.out.grown hb4); clear hb4)
          go_end0
          rw [HM.out]
          exact ⟨rfl, HY4.out.tail⟩
end Go.Proofs.YtkfkgdkfgpofnaaDoor
