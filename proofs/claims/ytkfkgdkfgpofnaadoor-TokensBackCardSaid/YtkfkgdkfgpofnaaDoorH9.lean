/- The walk of lineEnd. -/
import Derived.Test.YtkfkgdkfgpofnaaDoorH6
import Derived.Test.YtkfkgdkfgpofnaaDoorH2
import Derived.BigRegion
namespace Go.Proofs.YtkfkgdkfgpofnaaDoor
open Go.RowKit Go.Sort
set_option maxRecDepth 100000

/-- What stands in front of the first token of a line. -/
def mline (inp : List Tok) (i : Nat) (l : LS) : Except Flt LS :=
  if (lastR l.regs).closer = 41 ∨ (lastR l.regs).closer = 93 then .ok l
  else
    match (if openerB (inp.getD (i - 1) Tz) = true ∧ (lastR l.regs).width < (inp.getD i Tz).col then LS.push ⟨l.out ++ [layTok 12 (inp.getD i Tz)], l.regs, l.m⟩ i ⟨0, (inp.getD i Tz).col, 0⟩ else moutd (inp.getD i Tz) l) with
    | .error f => .error f
    | .ok l' => .ok (if contB inp i = false ∧ unfB (inp.getD (i - 1) Tz) = false then ⟨l'.out ++ [layTok 11 (inp.getD i Tz)], l'.regs, l'.m⟩ else l')

theorem yd_swap {S : List (Nat × Obj)} {b : Nat} {w0 w : World} {inp : List Tok} {t : LS} {x y : Nat × Obj} (h : Yd (x :: y :: S) b w0 w inp t) : Yd (y :: x :: S) b w0 w inp t := by
  obtain ⟨vi, vo, vr, h, hs⟩ := h
  refine ⟨vi, vo, vr, h, fun z hz => hs z ?_⟩
  simp only [List.mem_cons] at hz ⊢
  rcases hz with h | h | h
  · exact Or.inr (Or.inl h)
  · exact Or.inl h
  · exact Or.inr (Or.inr h)
theorem yd_two {S : List (Nat × Obj)} {b : Nat} {w0 w : World} {inp : List Tok} {t : LS} (h : Yd S b w0 w inp t) (o q : Obj) : Yd ((w.heap.size, o) :: (w.heap.size + 1, q) :: S) b w0 ((w.alloc o).alloc q).drew inp t := by
  have h2 := (h.add o).add q
  rw [show (w.alloc o).heap.size = w.heap.size + 1 from by simp] at h2
  exact yd_swap (h2.drewN 1)
theorem push_len {l l' : LS} {i : Int} {r : Rg} (h : l.push i r = .ok l') : l'.out.length + l'.regs.length = l.out.length + l.regs.length + 1 := by
  unfold LS.push at h
  split at h
  · cases h
  · injection h with h; subst h; simp; omega
theorem outF_len (t : Tok) (n : Nat) : ∀ (o : List Tok) (rs : List Rg) (p : Bool), (outF t n o rs p).1.length + (outF t n o rs p).2.1.length = o.length + rs.length := by
  induction n with
  | zero => intro o rs p; rfl
  | succ n ih =>
    intro o rs p
    rw [outF]
    split
    · rw [ih]; simp; omega
    · rfl
theorem moutd_len {t : Tok} {l l' : LS} (h : moutd t l = .ok l') : l'.out.length + l'.regs.length = l.out.length + l.regs.length := by
  unfold moutd at h
  split at h
  · cases h
  · injection h with h; subst h; exact outF_len _ _ _ _ _

set_option maxHeartbeats 20000000 in
theorem lineEnd_any (S : List (Nat × Obj)) (b : Nat) (w0 w : World) (inp : List Tok) (l : LS) (i : Nat) (h : Yd S b w0 w inp l) (hi : i < inp.length) (h1i : 1 ≤ i) (hn : inp.length ≤ 100000) (hr : l.regs ≠ []) (ho : l.out.length + l.regs.length ≤ 900000) (hl : l.regs.length ≤ 1000) :
    Calls Tryd.prog 42 #[.pointer (some ⟨b, 0, none⟩), .int .i64 i] w (Yk S b w0 inp (mline inp i l)) := by
  obtain ⟨t, ht⟩ : ∃ t, t = inp.getD i Tz := ⟨_, rfl⟩
  obtain ⟨u, hu⟩ : ∃ u, u = inp.getD (i - 1) Tz := ⟨_, rfl⟩
  have HY := Lib.hid h
  have HTU := Lib.hid (And.intro ht hu)
  have hii : (i : Int) < (inp.length : Int) := by omega
  have hi0 : (0 : Int) ≤ (i : Int) := by omega
  have a1 : IntKind.i64.wrap ((i : Int) - 1) = (i : Int) - 1 := IntWalk.i64_in _ (by omega)
  have a2 : ((i : Int) - 1).toNat = i - 1 := by omega
  have a3 : (i : Int) - 1 < (inp.length : Int) := by omega
  have a4 : (0 : Int) ≤ (i : Int) - 1 := by omega
  by_cases hc : (lastR l.regs).closer = 41 ∨ (lastR l.regs).closer = 93
  · have HM : Hid (mline inp i l = .ok l) := by show mline inp i l = _; rw [mline, if_pos hc]
    have hq : (((lastR l.regs).closer : Int) == 41) = true ∨ ((((lastR l.regs).closer : Int) == 41) = false ∧ (((lastR l.regs).closer : Int) == 93) = true) := by
      rcases hc with h | h
      · left; rw [h]; rfl
      · right; rw [h]; exact ⟨rfl, rfl⟩
    clear h ht hu hc
    go_enter Tryd.func42, Tryd.ntmps42
    rcases hq with q1 | ⟨q1, q2⟩
    all_goals
      go_wp2_with (go_at_call 57; refine (top_last _ b w0 w inp l HY.out hr hl).mono ?_; rintro e w3 ⟨rfl, hb3⟩; have HY2 := Lib.hid (HY.out.grown hb3); clear hb3; have hf0 := fld0 (lastR l.regs))
      go_end0
      rw [HM.out]
      exact ⟨rfl, HY2.out⟩
  · obtain ⟨eb, heb⟩ : ∃ eb, eb = openerB u := ⟨_, rfl⟩
    obtain ⟨cb, hcb⟩ : ∃ cb, cb = contB inp i := ⟨_, rfl⟩
    obtain ⟨ub, hub⟩ : ∃ ub, ub = unfB u := ⟨_, rfl⟩
    have HML : Hid (mline inp i l = match (if eb = true ∧ (lastR l.regs).width < t.col then LS.push ⟨l.out ++ [layTok 12 t], l.regs, l.m⟩ i ⟨0, t.col, 0⟩ else moutd t l) with
        | .error f => .error f
        | .ok l' => .ok (if cb = false ∧ ub = false then ⟨l'.out ++ [layTok 11 t], l'.regs, l'.m⟩ else l')) := by
      show mline inp i l = _
      rw [mline, if_neg hc, ← ht, ← hu, ← heb, ← hcb, ← hub]
    have HEB := Lib.hid heb
    have HCC : Hid (∀ S' l' w', Yd S' b w0 w' inp l' → Calls Tryd.prog 62 #[.pointer (some ⟨b, 0, none⟩), .int .i64 i] w' fun e w'' => e = .returned (.bool cb) ∧ Below w'.heap.size w' w'') := by
      intro S' l' w' h'
      rw [hcb]
      exact cont_any S' b w0 w' inp l' h' i hi hn
    have HCU : Hid (∀ w', Calls Tryd.prog 63 #[.agg #[.int .i64 u.kind, .string u.text, .int .i64 u.at_, .int .i64 u.line, .int .i64 u.col]] w' fun e w'' => e = .returned (.bool ub) ∧ Below w'.heap.size w' w'') := by
      intro w'
      rw [hub]
      exact unfinished_any u w'
    have q1 : (((lastR l.regs).closer : Int) == 41) = false := by rw [beq_eq_false_iff_ne]; omega
    have q2 : (((lastR l.regs).closer : Int) == 93) = false := by rw [beq_eq_false_iff_ne]; omega
    have hew : (eb = true ∧ decide ((lastR l.regs).width < t.col) = true) ∨ (eb = false ∨ (eb = true ∧ decide ((lastR l.regs).width < t.col) = false)) := by cases eb <;> by_cases hx : (lastR l.regs).width < t.col <;> simp [hx]
    have hcu : (cb = false ∧ ub = false) ∨ (cb = true ∨ (cb = false ∧ ub = true)) := by cases cb <;> cases ub <;> simp
    clear h ht hu hc heb hcb hub
    go_enter Tryd.func42, Tryd.ntmps42
    go_wp2_with (go_at_call 57; refine (top_last _ b w0 w inp l HY.out hr hl).mono ?_; rintro e w3 ⟨rfl, hb3⟩; have HY2 := Lib.hid (HY.out.grown hb3); clear hb3; have hf0 := fld0 (lastR l.regs); have hf1 := fld1 (lastR l.regs))
    obtain ⟨g, cap, c0, hc⟩ := HY2.out.c0 (by omega)
    have htc := hc i hi
    have huc := hc (i - 1) (by omega)
    rw [← HTU.out.1] at htc
    rw [← HTU.out.2] at huc
    obtain ⟨t0, t1, t2, t3, t4⟩ := htc
    obtain ⟨u0, u1, u2, u3, u4⟩ := huc
    have hb := HY2.out.lt
    have hg := block_lt_of_cell t0
    have HA : Hid (Yd ((w3.heap.size, TBx t) :: (w3.heap.size + 1, TBx u) :: S) b w0 ((w3.alloc (Obj.cells #[.int .i64 t.kind, .string t.text, .int .i64 t.at_, .int .i64 t.line, .int .i64 t.col] 32)).alloc (Obj.cells #[.int .i64 u.kind, .string u.text, .int .i64 u.at_, .int .i64 u.line, .int .i64 u.col] 32)).drew inp l) := yd_two HY2.out (TBx t) (TBx u)
    have HC : Hid (Yd ((w3.heap.size + 1, TBx t) :: (w3.heap.size, TBx u) :: S) b w0 ((w3.alloc (Obj.cells #[.int .i64 u.kind, .string u.text, .int .i64 u.at_, .int .i64 u.line, .int .i64 u.col] 32)).alloc (Obj.cells #[.int .i64 t.kind, .string t.text, .int .i64 t.at_, .int .i64 t.line, .int .i64 t.col] 32)).drew inp l) := yd_swap (yd_two HY2.out (TBx u) (TBx t))
    clear hc
    go_region
    all_goals clear t0 t1 t2 t3 t4 u0 u1 u2 u3 u4 c0 hg a1 a2 a3 a4
    · have HY4 := HA
      clear HA HC
      generalize w3.heap.size + 1 = p6 at *
      generalize w3.heap.size = p5 at *
      generalize ((w3.alloc (Obj.cells #[.int .i64 t.kind, .string t.text, .int .i64 t.at_, .int .i64 t.line, .int .i64 t.col] 32)).alloc (Obj.cells #[.int .i64 u.kind, .string u.text, .int .i64 u.at_, .int .i64 u.line, .int .i64 u.col] 32)).drew = w4 at *
      go_wp2
      obtain ⟨e0, e1, e2, e3, e4⟩ := tc_box HY4.out.spare
      obtain ⟨d0, d1, d2, d3, d4⟩ := tc_box HY4.out.tail.spare
      have k0 := cell_regrown d0
      have k1 := cell_regrown d1
      have k2 := cell_regrown d2
      have k3 := cell_regrown d3
      have k4 := cell_regrown d4
      have j4 := cell_regrown e4
      have cT := HY4.out.top hr hl
      have cO : ∀ d os, Calls Tryd.prog 58 #[.agg #[.int .i64 u.kind, .string u.text, .int .i64 u.at_, .int .i64 u.line, .int .i64 u.col]] (grow (redrawn w4 d) os) fun e w'' => e = .returned (.bool eb) ∧ ∃ p : Regrown, w'' = grow (redrawn w4 p.d) p.os := fun d os => Calls.regrown_of (by have h := opener_any u (grow (redrawn w4 d) os); rw [← HEB.out] at h; exact h)
      rcases hew with ⟨rfl, g1⟩ | hew
      · rcases hp : LS.push ⟨l.out ++ [layTok 12 t], l.regs, l.m⟩ i ⟨0, t.col, 0⟩ with f | l'
        · have HM : Hid (mline inp i l = .error f) := by show mline inp i l = _; rw [HML.out, if_pos ⟨rfl, by simpa using g1⟩, hp]
          have HP := Lib.hid hp
          clear hp
          refine wp_region_quiet_below (by kernel_rfl) (by kernel_rfl) ?_
          repeat (go_big_quiet_step (first | exact cO _ _ | exact cT _ _))
          refine wpQuiet_nil ?_
          intro _ hw'
          obtain ⟨⟨dq, osq⟩, hw''⟩ := hw'
          subst hw''
          have HY5 := Lib.hid (HY4.out.grown (below_regrown w4 dq osq))
          clear e0 e1 e2 e3 e4 d0 d1 d2 d3 d4 k0 k1 k2 k3 k4 j4 cT cO
          generalize grow (redrawn w4 dq) osq = w5 at *
          obtain ⟨e0, e1, e2, e3, e4⟩ := tc_box HY5.out.spare
          go_wp2_with fail
          refine (yput_any _ b w0 w5 inp l 12 t HY5.out (by omega)).mono ?_
          rintro e w6 ⟨rfl, hy6⟩
          have HY6 := Lib.hid hy6
          clear hy6 e0 e1 e2 e3 e4
          obtain ⟨e0, e1, e2, e3, e4⟩ := tc_box HY6.out.spare
          go_wp2_with fail
          refine (ypush_any _ b w0 w6 inp _ i ⟨0, t.col, 0⟩ HY6.out hl).mono ?_
          intro e w7 h7
          rw [HP.out] at h7
          obtain ⟨rfl, h7⟩ := h7
          have H7 := Lib.hid h7
          clear h7
          refine ⟨rfl, ?_⟩
          show Yk S b w0 inp (mline inp i l) _ _
          rw [HM.out]
          exact ⟨rfl, H7.out⟩
        · have HR : Hid ((if true = true ∧ (lastR l.regs).width < t.col then LS.push ⟨l.out ++ [layTok 12 t], l.regs, l.m⟩ i ⟨0, t.col, 0⟩ else moutd t l) = .ok l') := by show _ = _; rw [if_pos ⟨rfl, by simpa using g1⟩, hp]
          have HP := Lib.hid hp
          have hlo := push_len hp
          simp only [List.length_append, List.length_singleton] at hlo
          clear hp
          refine wp_region_quiet_below (by kernel_rfl) (by kernel_rfl) ?_
          repeat (go_big_quiet_step (first | exact cO _ _ | exact cT _ _))
          refine wpQuiet_nil ?_
          intro _ hw'
          obtain ⟨⟨dq, osq⟩, hw''⟩ := hw'
          subst hw''
          have HY5 := Lib.hid (HY4.out.grown (below_regrown w4 dq osq))
          clear e0 e1 e2 e3 e4 d0 d1 d2 d3 d4 k0 k1 k2 k3 k4 j4 cT cO
          generalize grow (redrawn w4 dq) osq = w5 at *
          obtain ⟨e0, e1, e2, e3, e4⟩ := tc_box HY5.out.spare
          go_wp2_with fail
          refine (yput_any _ b w0 w5 inp l 12 t HY5.out (by omega)).mono ?_
          rintro e w6 ⟨rfl, hy6⟩
          have HY6 := Lib.hid hy6
          clear hy6 e0 e1 e2 e3 e4
          obtain ⟨e0, e1, e2, e3, e4⟩ := tc_box HY6.out.spare
          go_wp2_with fail
          refine (ypush_any _ b w0 w6 inp _ i ⟨0, t.col, 0⟩ HY6.out hl).mono ?_
          intro e w7 h7
          rw [HP.out] at h7
          obtain ⟨rfl, h7⟩ := h7
          have HY7 := Lib.hid h7
          clear h7
          rcases hcu with ⟨rfl, rfl⟩ | hcu
          · have HM : Hid (mline inp i l = .ok ⟨l'.out ++ [layTok 11 t], l'.regs, l'.m⟩) := by show mline inp i l = _; rw [HML.out, HR.out]; simp only [and_self, if_true]
            go_wp2_with (first | (go_at_call 62; refine (HCC.out _ _ w7 HY7.out).mono ?_; rintro e w8 ⟨rfl, hb8⟩; have HY8 := Lib.hid (HY7.out.grown hb8); clear hb8; obtain ⟨d0, d1, d2, d3, d4⟩ := tc_box HY8.out.tail.spare) | (go_at_call 63; refine (HCU.out w8).mono ?_; rintro e w9 ⟨rfl, hb9⟩; have HY9 := Lib.hid (HY8.out.grown hb9); clear hb9 d0 d1 d2 d3 d4; obtain ⟨e0, e1, e2, e3, e4⟩ := tc_box HY9.out.spare))
            refine (yput_any _ b w0 w9 inp l' 11 t HY9.out (by omega)).mono ?_
            rintro e wA ⟨rfl, hyA⟩
            have HYA := Lib.hid hyA
            clear hyA
            go_wp2
            go_end0
            show Yk S b w0 inp (mline inp i l) _ _
            rw [HM.out]
            exact ⟨rfl, HYA.out.tail.tail⟩
          · have HM : Hid (mline inp i l = .ok l') := by
              show mline inp i l = _
              rw [HML.out, HR.out]
              rcases hcu with rfl | ⟨rfl, rfl⟩ <;> simp
            rcases hcu with rfl | ⟨rfl, rfl⟩
            · go_wp2_with (go_at_call 62; refine (HCC.out _ _ w7 HY7.out).mono ?_; rintro e w8 ⟨rfl, hb8⟩; have HY8 := Lib.hid (HY7.out.grown hb8); clear hb8; obtain ⟨d0, d1, d2, d3, d4⟩ := tc_box HY8.out.tail.spare)
              go_end0
              show Yk S b w0 inp (mline inp i l) _ _
              rw [HM.out]
              exact ⟨rfl, HY8.out.tail.tail⟩
            · go_wp2_with (first | (go_at_call 62; refine (HCC.out _ _ w7 HY7.out).mono ?_; rintro e w8 ⟨rfl, hb8⟩; have HY8 := Lib.hid (HY7.out.grown hb8); clear hb8; obtain ⟨d0, d1, d2, d3, d4⟩ := tc_box HY8.out.tail.spare) | (go_at_call 63; refine (HCU.out w8).mono ?_; rintro e w9 ⟨rfl, hb9⟩; have HY9 := Lib.hid (HY8.out.grown hb9); clear hb9 d0 d1 d2 d3 d4; obtain ⟨e0, e1, e2, e3, e4⟩ := tc_box HY9.out.spare))
              go_end0
              show Yk S b w0 inp (mline inp i l) _ _
              rw [HM.out]
              exact ⟨rfl, HY9.out.tail.tail⟩
      · rcases hp : moutd t l with f | l'
        · have HM : Hid (mline inp i l = .error f) := by
            show mline inp i l = _
            rw [HML.out, if_neg (by rcases hew with rfl | ⟨rfl, g1⟩ <;> simp_all), hp]
          have HP := Lib.hid hp
          clear hp
          rcases hew with rfl | ⟨rfl, g1⟩
          all_goals
            refine wp_region_quiet_below (by kernel_rfl) (by kernel_rfl) ?_
            repeat (go_big_quiet_step (first | exact cO _ _ | exact cT _ _))
            refine wpQuiet_nil ?_
            intro _ hw'
            obtain ⟨⟨dq, osq⟩, hw''⟩ := hw'
            subst hw''
            have HY5 := Lib.hid (HY4.out.grown (below_regrown w4 dq osq))
            clear e0 e1 e2 e3 e4 d0 d1 d2 d3 d4 k0 k1 k2 k3 k4 j4 cT cO
            generalize grow (redrawn w4 dq) osq = w5 at *
            obtain ⟨e0, e1, e2, e3, e4⟩ := tc_box HY5.out.spare
            go_wp2_with fail
            refine (outdents_any _ b w0 w5 inp l t HY5.out hr (by omega) hl).mono ?_
            intro e w7 h7
            rw [HP.out] at h7
            obtain ⟨rfl, h7⟩ := h7
            have H7 := Lib.hid h7
            clear h7
            refine ⟨rfl, ?_⟩
            show Yk S b w0 inp (mline inp i l) _ _
            rw [HM.out]
            exact ⟨rfl, H7.out⟩
        · have HR : Hid ((if eb = true ∧ (lastR l.regs).width < t.col then LS.push ⟨l.out ++ [layTok 12 t], l.regs, l.m⟩ i ⟨0, t.col, 0⟩ else moutd t l) = .ok l') := by
            show _ = _
            rw [if_neg (by rcases hew with rfl | ⟨rfl, g1⟩ <;> simp_all), hp]
          have HP := Lib.hid hp
          have hlo := moutd_len hp
          clear hp
          rcases hew with rfl | ⟨rfl, g1⟩
          all_goals
            refine wp_region_quiet_below (by kernel_rfl) (by kernel_rfl) ?_
            repeat (go_big_quiet_step (first | exact cO _ _ | exact cT _ _))
            refine wpQuiet_nil ?_
            intro _ hw'
            obtain ⟨⟨dq, osq⟩, hw''⟩ := hw'
            subst hw''
            have HY5 := Lib.hid (HY4.out.grown (below_regrown w4 dq osq))
            clear e0 e1 e2 e3 e4 d0 d1 d2 d3 d4 k0 k1 k2 k3 k4 j4 cT cO
            generalize grow (redrawn w4 dq) osq = w5 at *
            obtain ⟨e0, e1, e2, e3, e4⟩ := tc_box HY5.out.spare
            go_wp2_with fail
            refine (outdents_any _ b w0 w5 inp l t HY5.out hr (by omega) hl).mono ?_
            intro e w7 h7
            rw [HP.out] at h7
            obtain ⟨rfl, h7⟩ := h7
            have HY7 := Lib.hid h7
            clear h7
            rcases hcu with ⟨rfl, rfl⟩ | hcu
            · have HM : Hid (mline inp i l = .ok ⟨l'.out ++ [layTok 11 t], l'.regs, l'.m⟩) := by show mline inp i l = _; rw [HML.out, HR.out]; simp only [and_self, if_true]
              go_wp2_with (first | (go_at_call 62; refine (HCC.out _ _ w7 HY7.out).mono ?_; rintro e w8 ⟨rfl, hb8⟩; have HY8 := Lib.hid (HY7.out.grown hb8); clear hb8; obtain ⟨d0, d1, d2, d3, d4⟩ := tc_box HY8.out.tail.spare) | (go_at_call 63; refine (HCU.out w8).mono ?_; rintro e w9 ⟨rfl, hb9⟩; have HY9 := Lib.hid (HY8.out.grown hb9); clear hb9 d0 d1 d2 d3 d4; obtain ⟨e0, e1, e2, e3, e4⟩ := tc_box HY9.out.spare))
              refine (yput_any _ b w0 w9 inp l' 11 t HY9.out (by omega)).mono ?_
              rintro e wA ⟨rfl, hyA⟩
              have HYA := Lib.hid hyA
              clear hyA
              go_wp2
              go_end0
              show Yk S b w0 inp (mline inp i l) _ _
              rw [HM.out]
              exact ⟨rfl, HYA.out.tail.tail⟩
            · have HM : Hid (mline inp i l = .ok l') := by
                show mline inp i l = _
                rw [HML.out, HR.out]
                rcases hcu with rfl | ⟨rfl, rfl⟩ <;> simp
              rcases hcu with rfl | ⟨rfl, rfl⟩
              · go_wp2_with (go_at_call 62; refine (HCC.out _ _ w7 HY7.out).mono ?_; rintro e w8 ⟨rfl, hb8⟩; have HY8 := Lib.hid (HY7.out.grown hb8); clear hb8; obtain ⟨d0, d1, d2, d3, d4⟩ := tc_box HY8.out.tail.spare)
                go_end0
                show Yk S b w0 inp (mline inp i l) _ _
                rw [HM.out]
                exact ⟨rfl, HY8.out.tail.tail⟩
              · go_wp2_with (first | (go_at_call 62; refine (HCC.out _ _ w7 HY7.out).mono ?_; rintro e w8 ⟨rfl, hb8⟩; have HY8 := Lib.hid (HY7.out.grown hb8); clear hb8; obtain ⟨d0, d1, d2, d3, d4⟩ := tc_box HY8.out.tail.spare) | (go_at_call 63; refine (HCU.out w8).mono ?_; rintro e w9 ⟨rfl, hb9⟩; have HY9 := Lib.hid (HY8.out.grown hb9); clear hb9 d0 d1 d2 d3 d4; obtain ⟨e0, e1, e2, e3, e4⟩ := tc_box HY9.out.spare))
                go_end0
                show Yk S b w0 inp (mline inp i l) _ _
                rw [HM.out]
                exact ⟨rfl, HY9.out.tail.tail⟩
    · have HY4 := HC
      clear HA HC
      generalize w3.heap.size + 1 = p5 at *
      generalize w3.heap.size = p6 at *
      generalize ((w3.alloc (Obj.cells #[.int .i64 u.kind, .string u.text, .int .i64 u.at_, .int .i64 u.line, .int .i64 u.col] 32)).alloc (Obj.cells #[.int .i64 t.kind, .string t.text, .int .i64 t.at_, .int .i64 t.line, .int .i64 t.col] 32)).drew = w4 at *
      go_wp2
      obtain ⟨e0, e1, e2, e3, e4⟩ := tc_box HY4.out.spare
      obtain ⟨d0, d1, d2, d3, d4⟩ := tc_box HY4.out.tail.spare
      have k0 := cell_regrown d0
      have k1 := cell_regrown d1
      have k2 := cell_regrown d2
      have k3 := cell_regrown d3
      have k4 := cell_regrown d4
      have j4 := cell_regrown e4
      have cT := HY4.out.top hr hl
      have cO : ∀ d os, Calls Tryd.prog 58 #[.agg #[.int .i64 u.kind, .string u.text, .int .i64 u.at_, .int .i64 u.line, .int .i64 u.col]] (grow (redrawn w4 d) os) fun e w'' => e = .returned (.bool eb) ∧ ∃ p : Regrown, w'' = grow (redrawn w4 p.d) p.os := fun d os => Calls.regrown_of (by have h := opener_any u (grow (redrawn w4 d) os); rw [← HEB.out] at h; exact h)
      rcases hew with ⟨rfl, g1⟩ | hew
      · rcases hp : LS.push ⟨l.out ++ [layTok 12 t], l.regs, l.m⟩ i ⟨0, t.col, 0⟩ with f | l'
        · have HM : Hid (mline inp i l = .error f) := by show mline inp i l = _; rw [HML.out, if_pos ⟨rfl, by simpa using g1⟩, hp]
          have HP := Lib.hid hp
          clear hp
          refine wp_region_quiet_below (by kernel_rfl) (by kernel_rfl) ?_
          repeat (go_big_quiet_step (first | exact cO _ _ | exact cT _ _))
          refine wpQuiet_nil ?_
          intro _ hw'
          obtain ⟨⟨dq, osq⟩, hw''⟩ := hw'
          subst hw''
          have HY5 := Lib.hid (HY4.out.grown (below_regrown w4 dq osq))
          clear e0 e1 e2 e3 e4 d0 d1 d2 d3 d4 k0 k1 k2 k3 k4 j4 cT cO
          generalize grow (redrawn w4 dq) osq = w5 at *
          obtain ⟨e0, e1, e2, e3, e4⟩ := tc_box HY5.out.spare
          go_wp2_with fail
          refine (yput_any _ b w0 w5 inp l 12 t HY5.out (by omega)).mono ?_
          rintro e w6 ⟨rfl, hy6⟩
          have HY6 := Lib.hid hy6
          clear hy6 e0 e1 e2 e3 e4
          obtain ⟨e0, e1, e2, e3, e4⟩ := tc_box HY6.out.spare
          go_wp2_with fail
          refine (ypush_any _ b w0 w6 inp _ i ⟨0, t.col, 0⟩ HY6.out hl).mono ?_
          intro e w7 h7
          rw [HP.out] at h7
          obtain ⟨rfl, h7⟩ := h7
          have H7 := Lib.hid h7
          clear h7
          refine ⟨rfl, ?_⟩
          show Yk S b w0 inp (mline inp i l) _ _
          rw [HM.out]
          exact ⟨rfl, H7.out⟩
        · have HR : Hid ((if true = true ∧ (lastR l.regs).width < t.col then LS.push ⟨l.out ++ [layTok 12 t], l.regs, l.m⟩ i ⟨0, t.col, 0⟩ else moutd t l) = .ok l') := by show _ = _; rw [if_pos ⟨rfl, by simpa using g1⟩, hp]
          have HP := Lib.hid hp
          have hlo := push_len hp
          simp only [List.length_append, List.length_singleton] at hlo
          clear hp
          refine wp_region_quiet_below (by kernel_rfl) (by kernel_rfl) ?_
          repeat (go_big_quiet_step (first | exact cO _ _ | exact cT _ _))
          refine wpQuiet_nil ?_
          intro _ hw'
          obtain ⟨⟨dq, osq⟩, hw''⟩ := hw'
          subst hw''
          have HY5 := Lib.hid (HY4.out.grown (below_regrown w4 dq osq))
          clear e0 e1 e2 e3 e4 d0 d1 d2 d3 d4 k0 k1 k2 k3 k4 j4 cT cO
          generalize grow (redrawn w4 dq) osq = w5 at *
          obtain ⟨e0, e1, e2, e3, e4⟩ := tc_box HY5.out.spare
          go_wp2_with fail
          refine (yput_any _ b w0 w5 inp l 12 t HY5.out (by omega)).mono ?_
          rintro e w6 ⟨rfl, hy6⟩
          have HY6 := Lib.hid hy6
          clear hy6 e0 e1 e2 e3 e4
          obtain ⟨e0, e1, e2, e3, e4⟩ := tc_box HY6.out.spare
          go_wp2_with fail
          refine (ypush_any _ b w0 w6 inp _ i ⟨0, t.col, 0⟩ HY6.out hl).mono ?_
          intro e w7 h7
          rw [HP.out] at h7
          obtain ⟨rfl, h7⟩ := h7
          have HY7 := Lib.hid h7
          clear h7
          rcases hcu with ⟨rfl, rfl⟩ | hcu
          · have HM : Hid (mline inp i l = .ok ⟨l'.out ++ [layTok 11 t], l'.regs, l'.m⟩) := by show mline inp i l = _; rw [HML.out, HR.out]; simp only [and_self, if_true]
            go_wp2_with (first | (go_at_call 62; refine (HCC.out _ _ w7 HY7.out).mono ?_; rintro e w8 ⟨rfl, hb8⟩; have HY8 := Lib.hid (HY7.out.grown hb8); clear hb8; obtain ⟨d0, d1, d2, d3, d4⟩ := tc_box HY8.out.tail.spare) | (go_at_call 63; refine (HCU.out w8).mono ?_; rintro e w9 ⟨rfl, hb9⟩; have HY9 := Lib.hid (HY8.out.grown hb9); clear hb9 d0 d1 d2 d3 d4; obtain ⟨e0, e1, e2, e3, e4⟩ := tc_box HY9.out.spare))
            refine (yput_any _ b w0 w9 inp l' 11 t HY9.out (by omega)).mono ?_
            rintro e wA ⟨rfl, hyA⟩
            have HYA := Lib.hid hyA
            clear hyA
            go_wp2
            go_end0
            show Yk S b w0 inp (mline inp i l) _ _
            rw [HM.out]
            exact ⟨rfl, HYA.out.tail.tail⟩
          · have HM : Hid (mline inp i l = .ok l') := by
              show mline inp i l = _
              rw [HML.out, HR.out]
              rcases hcu with rfl | ⟨rfl, rfl⟩ <;> simp
            rcases hcu with rfl | ⟨rfl, rfl⟩
            · go_wp2_with (go_at_call 62; refine (HCC.out _ _ w7 HY7.out).mono ?_; rintro e w8 ⟨rfl, hb8⟩; have HY8 := Lib.hid (HY7.out.grown hb8); clear hb8; obtain ⟨d0, d1, d2, d3, d4⟩ := tc_box HY8.out.tail.spare)
              go_end0
              show Yk S b w0 inp (mline inp i l) _ _
              rw [HM.out]
              exact ⟨rfl, HY8.out.tail.tail⟩
            · go_wp2_with (first | (go_at_call 62; refine (HCC.out _ _ w7 HY7.out).mono ?_; rintro e w8 ⟨rfl, hb8⟩; have HY8 := Lib.hid (HY7.out.grown hb8); clear hb8; obtain ⟨d0, d1, d2, d3, d4⟩ := tc_box HY8.out.tail.spare) | (go_at_call 63; refine (HCU.out w8).mono ?_; rintro e w9 ⟨rfl, hb9⟩; have HY9 := Lib.hid (HY8.out.grown hb9); clear hb9 d0 d1 d2 d3 d4; obtain ⟨e0, e1, e2, e3, e4⟩ := tc_box HY9.out.spare))
              go_end0
              show Yk S b w0 inp (mline inp i l) _ _
              rw [HM.out]
              exact ⟨rfl, HY9.out.tail.tail⟩
      · rcases hp : moutd t l with f | l'
        · have HM : Hid (mline inp i l = .error f) := by
            show mline inp i l = _
            rw [HML.out, if_neg (by rcases hew with rfl | ⟨rfl, g1⟩ <;> simp_all), hp]
          have HP := Lib.hid hp
          clear hp
          rcases hew with rfl | ⟨rfl, g1⟩
          all_goals
            refine wp_region_quiet_below (by kernel_rfl) (by kernel_rfl) ?_
            repeat (go_big_quiet_step (first | exact cO _ _ | exact cT _ _))
            refine wpQuiet_nil ?_
            intro _ hw'
            obtain ⟨⟨dq, osq⟩, hw''⟩ := hw'
            subst hw''
            have HY5 := Lib.hid (HY4.out.grown (below_regrown w4 dq osq))
            clear e0 e1 e2 e3 e4 d0 d1 d2 d3 d4 k0 k1 k2 k3 k4 j4 cT cO
            generalize grow (redrawn w4 dq) osq = w5 at *
            obtain ⟨e0, e1, e2, e3, e4⟩ := tc_box HY5.out.spare
            go_wp2_with fail
            refine (outdents_any _ b w0 w5 inp l t HY5.out hr (by omega) hl).mono ?_
            intro e w7 h7
            rw [HP.out] at h7
            obtain ⟨rfl, h7⟩ := h7
            have H7 := Lib.hid h7
            clear h7
            refine ⟨rfl, ?_⟩
            show Yk S b w0 inp (mline inp i l) _ _
            rw [HM.out]
            exact ⟨rfl, H7.out⟩
        · have HR : Hid ((if eb = true ∧ (lastR l.regs).width < t.col then LS.push ⟨l.out ++ [layTok 12 t], l.regs, l.m⟩ i ⟨0, t.col, 0⟩ else moutd t l) = .ok l') := by
            show _ = _
            rw [if_neg (by rcases hew with rfl | ⟨rfl, g1⟩ <;> simp_all), hp]
          have HP := Lib.hid hp
          have hlo := moutd_len hp
          clear hp
          rcases hew with rfl | ⟨rfl, g1⟩
          all_goals
            refine wp_region_quiet_below (by kernel_rfl) (by kernel_rfl) ?_
            repeat (go_big_quiet_step (first | exact cO _ _ | exact cT _ _))
            refine wpQuiet_nil ?_
            intro _ hw'
            obtain ⟨⟨dq, osq⟩, hw''⟩ := hw'
            subst hw''
            have HY5 := Lib.hid (HY4.out.grown (below_regrown w4 dq osq))
            clear e0 e1 e2 e3 e4 d0 d1 d2 d3 d4 k0 k1 k2 k3 k4 j4 cT cO
            generalize grow (redrawn w4 dq) osq = w5 at *
            obtain ⟨e0, e1, e2, e3, e4⟩ := tc_box HY5.out.spare
            go_wp2_with fail
            refine (outdents_any _ b w0 w5 inp l t HY5.out hr (by omega) hl).mono ?_
            intro e w7 h7
            rw [HP.out] at h7
            obtain ⟨rfl, h7⟩ := h7
            have HY7 := Lib.hid h7
            clear h7
            rcases hcu with ⟨rfl, rfl⟩ | hcu
            · have HM : Hid (mline inp i l = .ok ⟨l'.out ++ [layTok 11 t], l'.regs, l'.m⟩) := by show mline inp i l = _; rw [HML.out, HR.out]; simp only [and_self, if_true]
              go_wp2_with (first | (go_at_call 62; refine (HCC.out _ _ w7 HY7.out).mono ?_; rintro e w8 ⟨rfl, hb8⟩; have HY8 := Lib.hid (HY7.out.grown hb8); clear hb8; obtain ⟨d0, d1, d2, d3, d4⟩ := tc_box HY8.out.tail.spare) | (go_at_call 63; refine (HCU.out w8).mono ?_; rintro e w9 ⟨rfl, hb9⟩; have HY9 := Lib.hid (HY8.out.grown hb9); clear hb9 d0 d1 d2 d3 d4; obtain ⟨e0, e1, e2, e3, e4⟩ := tc_box HY9.out.spare))
              refine (yput_any _ b w0 w9 inp l' 11 t HY9.out (by omega)).mono ?_
              rintro e wA ⟨rfl, hyA⟩
              have HYA := Lib.hid hyA
              clear hyA
              go_wp2
              go_end0
              show Yk S b w0 inp (mline inp i l) _ _
              rw [HM.out]
              exact ⟨rfl, HYA.out.tail.tail⟩
            · have HM : Hid (mline inp i l = .ok l') := by
                show mline inp i l = _
                rw [HML.out, HR.out]
                rcases hcu with rfl | ⟨rfl, rfl⟩ <;> simp
              rcases hcu with rfl | ⟨rfl, rfl⟩
              · go_wp2_with (go_at_call 62; refine (HCC.out _ _ w7 HY7.out).mono ?_; rintro e w8 ⟨rfl, hb8⟩; have HY8 := Lib.hid (HY7.out.grown hb8); clear hb8; obtain ⟨d0, d1, d2, d3, d4⟩ := tc_box HY8.out.tail.spare)
                go_end0
                show Yk S b w0 inp (mline inp i l) _ _
                rw [HM.out]
                exact ⟨rfl, HY8.out.tail.tail⟩
              · go_wp2_with (first | (go_at_call 62; refine (HCC.out _ _ w7 HY7.out).mono ?_; rintro e w8 ⟨rfl, hb8⟩; have HY8 := Lib.hid (HY7.out.grown hb8); clear hb8; obtain ⟨d0, d1, d2, d3, d4⟩ := tc_box HY8.out.tail.spare) | (go_at_call 63; refine (HCU.out w8).mono ?_; rintro e w9 ⟨rfl, hb9⟩; have HY9 := Lib.hid (HY8.out.grown hb9); clear hb9 d0 d1 d2 d3 d4; obtain ⟨e0, e1, e2, e3, e4⟩ := tc_box HY9.out.spare))
                go_end0
                show Yk S b w0 inp (mline inp i l) _ _
                rw [HM.out]
                exact ⟨rfl, HY9.out.tail.tail⟩
end Go.Proofs.YtkfkgdkfgpofnaaDoor
