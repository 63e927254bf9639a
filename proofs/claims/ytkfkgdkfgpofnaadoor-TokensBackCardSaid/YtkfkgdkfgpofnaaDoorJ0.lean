/- The walk of end. -/
import Derived.Test.YtkfkgdkfgpofnaaDoorH8
import Derived.BigRegion
namespace Go.Proofs.YtkfkgdkfgpofnaaDoor
open Go.RowKit Go.Sort
set_option maxRecDepth 100000

/-- The innermost bracket that is open at the end. -/
def endBad (rs : List Rg) : Nat → Option Int
  | 0 => none
  | j + 1 => if j = 0 then none else if (rs.getD j Rz).closer = 0 then endBad rs j else some (rs.getD j Rz).index
/-- The place behind the last token. -/
def stopTok (inp : List Tok) : Tok := if inp.length = 0 then Tz else ⟨0, ByteArray.empty, IntKind.i64.wrap ((inp.getD (inp.length - 1) Tz).at_ + 1), IntKind.i64.wrap ((inp.getD (inp.length - 1) Tz).line + 1), 0⟩
def endF (t : Tok) : Nat → List Tok → List Rg → List Tok × List Rg
  | 0, o, rs => (o, rs)
  | n + 1, o, rs => if 1 < rs.length then endF t n (o ++ [layTok 13 t]) rs.dropLast else (o, rs)
def mend (inp : List Tok) (l : LS) : Except Flt LS :=
  match endBad l.regs l.regs.length with
  | some k => .error (k, 27)
  | none => .ok ⟨(endF (stopTok inp) (l.regs.length + 1) l.out l.regs).1 ++ [layTok 14 (stopTok inp)], (endF (stopTok inp) (l.regs.length + 1) l.out l.regs).2, l.m⟩

theorem Yd.c0e {S : List (Nat × Obj)} {b : Nat} {w0 w : World} {inp : List Tok} {t : LS} (h : Yd S b w0 w inp t) : ∃ va cap, w.cell? ⟨b, 0, none⟩ = some (.slice va inp.length cap) := by
  obtain ⟨vi, vo, vr, h, _⟩ := h
  obtain ⟨va, vc, rfl⟩ := own_slice h.inp
  exact ⟨va, vc, (yc h.blk).c0⟩
theorem Yd.rg {S : List (Nat × Obj)} {b : Nat} {w0 w : World} {inp : List Tok} {t : LS} (h : Yd S b w0 w inp t) (hn : 0 < t.regs.length) : ∃ g cap, w.cell? ⟨b, 2, none⟩ = some (.slice (some ⟨g, 0, none⟩) t.regs.length cap) ∧ ∀ i, i < t.regs.length → GC w g (i * 3) (t.regs.getD i Rz) := by
  obtain ⟨vi, vo, vr, h, _⟩ := h
  obtain ⟨g, cap, rfl, _, _⟩ := h.ownr.form hn
  refine ⟨g, cap, (yc h.blk).c2, fun i hi => ?_⟩
  rw [show t.regs.getD i Rz = t.regs[i]'hi from by simp [List.getD_eq_getElem?_getD, List.getElem?_eq_getElem hi]]
  exact gc_of_row h.ownr i hi

set_option maxHeartbeats 20000000 in
theorem end_any (S : List (Nat × Obj)) (b : Nat) (w0 w : World) (inp : List Tok) (l : LS) (h : Yd S b w0 w inp l) (hn : inp.length ≤ 100000) (ho : l.out.length + l.regs.length ≤ 900000) (hl : l.regs.length ≤ 1000) :
    Calls Tryd.prog 45 #[.pointer (some ⟨b, 0, none⟩)] w (Yk S b w0 inp (mend inp l)) := by
  obtain ⟨st, hst⟩ : ∃ st, st = stopTok inp := ⟨_, rfl⟩
  obtain ⟨vx, vcx, c2⟩ := h.c2
  have HY := Lib.hid h
  have HST := Lib.hid hst
  clear h hst
  have b1 : IntKind.i64.wrap ((l.regs.length : Int) - 1) = (l.regs.length : Int) - 1 := IntWalk.i64_in _ (by omega)
  go_enter Tryd.func45, Tryd.ntmps45
  go_wp2
  go_loopg [2] (l.regs.length + 1) (fun n v wr => ∃ (j : Nat) (k : Int), j < n ∧ j ≤ l.regs.length ∧ v = .int .i64 k ∧ k = (j : Int) - 1 ∧ Hid (endBad l.regs j = endBad l.regs l.regs.length) ∧ w = wr)
  case atStart => exact ⟨l.regs.length, _, by omega, by omega, rfl, rfl, rfl, rfl⟩
  case round =>
    obtain ⟨j, k, hj, hjl, rfl, hk, HK, rfl⟩ := hrel
    obtain ⟨n, rfl⟩ : ∃ n, gk = n + 1 := ⟨gk - 1, by omega⟩
    by_cases h1 : 1 < j
    · obtain ⟨j', rfl⟩ : ∃ j', j = j' + 2 := ⟨j - 2, by omega⟩
      obtain rfl : k = ((j' + 1 : Nat) : Int) := by omega
      obtain ⟨g, cap, c2', hc⟩ := HY.out.rg (by omega)
      obtain ⟨g0, g1, g2⟩ := hc (j' + 1) (by omega)
      clear c2 hc
      have b2 : (0 : Int) < ((j' + 1 : Nat) : Int) := by omega
      have b3 : ((j' + 1 : Nat) : Int) < (l.regs.length : Int) := by omega
      have b4 : IntKind.i64.wrap (((j' + 1 : Nat) : Int) - 1) = ((j' + 1 : Nat) : Int) - 1 := IntWalk.i64_in _ (by omega)
      have b5 : (0 : Int) ≤ ((j' + 1 : Nat) : Int) := by omega
      by_cases hq : (l.regs.getD (j' + 1) Rz).closer = 0
      · have HK' : Hid (endBad l.regs (j' + 1) = endBad l.regs l.regs.length) := by
          have := HK.out; rw [endBad, if_neg (by omega), if_pos hq] at this; exact this
        have q0 : (((l.regs.getD (j' + 1) Rz).closer : Int) == 0) = true := by rw [hq]; rfl
        clear hq
        generalize l.regs.getD (j' + 1) Rz = rg at *
        go_wp2
        go_roundg n
        case measure => omega
        case rel => exact ⟨j' + 1, _, by omega, by omega, rfl, by omega, HK', rfl⟩
      · have HM : Hid (mend inp l = .error ((l.regs.getD (j' + 1) Rz).index, 27)) := by
          have := HK.out; rw [endBad, if_neg (by omega), if_neg hq] at this
          show mend inp l = _; rw [mend, ← this]
        have q0 : (((l.regs.getD (j' + 1) Rz).closer : Int) == 0) = false := by rw [beq_eq_false_iff_ne]; omega
        clear hq
        generalize l.regs.getD (j' + 1) Rz = rg at *
        go_wp2_with (go_at_call 18; refine (fail_any _ _ _).mono ?_; rintro e w' ⟨rfl, rfl⟩)
        refine ⟨rfl, ?_⟩
        rw [HM.out]
        exact ⟨rfl, HY.out.bel⟩
    · have HE : Hid (endBad l.regs l.regs.length = none) := by
        have := HK.out
        rcases j with _ | j
        · exact this.symm
        · rw [endBad, if_pos (by omega)] at this; exact this.symm
      have b2 : decide ((0 : Int) < k) = false := by simp; omega
      have HM : Hid (mend inp l = .ok ⟨(endF st (l.regs.length + 1) l.out l.regs).1 ++ [layTok 14 st], (endF st (l.regs.length + 1) l.out l.regs).2, l.m⟩) := by
        show mend inp l = _; rw [mend, HE.out, HST.out]
      clear hk h1 hjl hj HK
      by_cases hi : inp.length = 0
      · obtain ⟨va, vc, c0⟩ := HY.out.c0e
        have a5 : decide ((0 : Int) < (inp.length : Int)) = false := by rw [hi]; rfl
        have hse : st = ⟨0, ByteArray.empty, 0, 0, 0⟩ := by rw [HST.out, stopTok, if_pos hi]; rfl
        have HB : Hid (Yd ((w.heap.size, TBx st) :: S) b w0 (w.alloc (Obj.cells #[.int .i64 0, .string ⟨#[]⟩, .int .i64 0, .int .i64 0, .int .i64 0] 32)) inp l) := by
          have h2 := HY.out.add (TBx st)
          rw [hse] at h2 ⊢
          exact h2
        have HSE := Lib.hid hse
        have hb := HY.out.lt
        have HI := Lib.hid hi
        clear hse hi a5
        go_wp2
        · exfalso
          have := HI.out
          omega
        clear HY
        generalize decide (0 < inp.length) = bb
        generalize w.alloc (Obj.cells #[.int .i64 0, .string ⟨#[]⟩, .int .i64 0, .int .i64 0, .int .i64 0] 32) = w2 at *
        generalize w.heap.size = B5 at *
        go_loopg [] (l.regs.length + 1) (fun n wr => ∃ (o : List Tok) (rs : List Rg), rs.length < n ∧ rs.length ≤ 1000 ∧ o.length + rs.length ≤ 900000 ∧ Hid (endF st n o rs = endF st (l.regs.length + 1) l.out l.regs) ∧ Hid (Yd ((B5, TBx st) :: S) b w0 wr inp ⟨o, rs, l.m⟩))
        case atStart => exact ⟨l.out, l.regs, by omega, hl, ho, rfl, HB⟩
        case round =>
          obtain ⟨o, rs, hn2, hrl, hol, HK2, HZ⟩ := hrel
          obtain ⟨n2, rfl⟩ : ∃ n2, gk = n2 + 1 := ⟨gk - 1, by omega⟩
          obtain ⟨va2, vc2, c2'⟩ := HZ.out.c2
          simp only at c2'
          obtain ⟨e0, e1, e2, e3, e4⟩ := tc_box HZ.out.spare
          by_cases g1' : 1 < rs.length
          · have g1 : (1 : Int) < (rs.length : Int) := by omega
            have hne : rs ≠ [] := by intro e; rw [e] at g1'; simp at g1'
            have HK3 : Hid (endF st n2 (o ++ [layTok 13 st]) rs.dropLast = endF st (l.regs.length + 1) l.out l.regs) := by
              have := HK2.out; rw [endF, if_pos g1'] at this; exact this
            go_wp2_with fail
            refine (yput_any _ b w0 wr inp ⟨o, rs, l.m⟩ 13 st HZ.out (by simp only; omega)).mono ?_
            rintro e w4 ⟨rfl, hy4⟩
            have HY4 := Lib.hid hy4
            clear hy4 e0 e1 e2 e3 e4
            go_wp2_with fail
            refine (pop_last _ b w0 w4 inp _ HY4.out hne hrl).mono ?_
            rintro e w5 ⟨rfl, hy5⟩
            have HY5 := Lib.hid hy5
            clear hy5
            go_wp2
            go_roundg n2
            case measure => omega
            case rel => exact ⟨o ++ [layTok 13 st], rs.dropLast, by simp; omega, by simp; omega, by simp; omega, HK3, HY5⟩
          · have g1 : decide ((1 : Int) < (rs.length : Int)) = false := by simp; omega
            have HX : Hid (endF st (l.regs.length + 1) l.out l.regs = (o, rs)) := by
              have := HK2.out; rw [endF, if_neg g1'] at this; exact this.symm
            have HM2 : Hid (mend inp l = .ok ⟨o ++ [layTok 14 st], rs, l.m⟩) := by show mend inp l = _; rw [HM.out, HX.out]
            go_wp2_with fail
            refine (yput_any _ b w0 wr inp ⟨o, rs, l.m⟩ 14 st HZ.out (by simp only; omega)).mono ?_
            rintro e w4 ⟨rfl, hy4⟩
            have HY4 := Lib.hid hy4
            clear hy4
            go_wp2
            go_end0
            show Yk S b w0 inp (mend inp l) _ _
            rw [HM2.out]
            exact ⟨rfl, HY4.out.tail⟩
      · obtain ⟨g, cap, c0, hc⟩ := HY.out.c0 (by omega)
        obtain ⟨t0, t1, t2, t3, t4⟩ := hc (inp.length - 1) (by omega)
        clear hc
        have hse : st = ⟨0, ByteArray.empty, wrap64 ((inp.getD (inp.length - 1) Tz).at_ + 1), wrap64 ((inp.getD (inp.length - 1) Tz).line + 1), 0⟩ := by rw [HST.out, stopTok, if_neg hi, IntWalk.i64_left, IntWalk.i64_left]
        generalize inp.getD (inp.length - 1) Tz = la at *
        have HB : Hid (Yd ((w.heap.size, TBx st) :: S) b w0 ((w.alloc (Obj.cells #[.int .i64 0, .string ⟨#[]⟩, .int .i64 (wrap64 (la.at_ + 1)), .int .i64 (wrap64 (la.line + 1)), .int .i64 0] 32)).drew) inp l) := by
          have h2 := (HY.out.add (TBx st)).grown (Below.refl _ _).drew
          rw [hse] at h2 ⊢
          exact h2
        have HSE := Lib.hid hse
        clear hse
        have a1 : IntKind.i64.wrap ((inp.length : Int) - 1) = (inp.length : Int) - 1 := IntWalk.i64_in _ (by omega)
        have a2 : ((inp.length : Int) - 1).toNat = inp.length - 1 := by omega
        have a3 : (inp.length : Int) - 1 < (inp.length : Int) := by omega
        have a4 : (0 : Int) ≤ (inp.length : Int) - 1 := by omega
        have a5 : (0 : Int) < (inp.length : Int) := by omega
        have hb := HY.out.lt
        have hg := block_lt_of_cell t0
        go_wp2
        go_region
        all_goals
          go_wp2
          clear HY
          generalize (w.alloc (Obj.cells #[.int .i64 0, .string ⟨#[]⟩, .int .i64 (wrap64 (la.at_ + 1)), .int .i64 (wrap64 (la.line + 1)), .int .i64 0] 32)).drew = w2 at *
          generalize w.heap.size = B5 at *
          go_loopg [] (l.regs.length + 1) (fun n wr => ∃ (o : List Tok) (rs : List Rg), rs.length < n ∧ rs.length ≤ 1000 ∧ o.length + rs.length ≤ 900000 ∧ Hid (endF st n o rs = endF st (l.regs.length + 1) l.out l.regs) ∧ Hid (Yd ((B5, TBx st) :: S) b w0 wr inp ⟨o, rs, l.m⟩))
          case atStart => exact ⟨l.out, l.regs, by omega, hl, ho, rfl, HB⟩
          case round =>
            obtain ⟨o, rs, hn2, hrl, hol, HK2, HZ⟩ := hrel
            obtain ⟨n2, rfl⟩ : ∃ n2, gk = n2 + 1 := ⟨gk - 1, by omega⟩
            obtain ⟨va2, vc2, c2'⟩ := HZ.out.c2
            simp only at c2'
            obtain ⟨e0, e1, e2, e3, e4⟩ := tc_box HZ.out.spare
            by_cases g1' : 1 < rs.length
            · have g1 : (1 : Int) < (rs.length : Int) := by omega
              have hne : rs ≠ [] := by intro e; rw [e] at g1'; simp at g1'
              have HK3 : Hid (endF st n2 (o ++ [layTok 13 st]) rs.dropLast = endF st (l.regs.length + 1) l.out l.regs) := by
                have := HK2.out; rw [endF, if_pos g1'] at this; exact this
              go_wp2_with fail
              refine (yput_any _ b w0 wr inp ⟨o, rs, l.m⟩ 13 st HZ.out (by simp only; omega)).mono ?_
              rintro e w4 ⟨rfl, hy4⟩
              have HY4 := Lib.hid hy4
              clear hy4 e0 e1 e2 e3 e4
              go_wp2_with fail
              refine (pop_last _ b w0 w4 inp _ HY4.out hne hrl).mono ?_
              rintro e w5 ⟨rfl, hy5⟩
              have HY5 := Lib.hid hy5
              clear hy5
              go_wp2
              go_roundg n2
              case measure => omega
              case rel => exact ⟨o ++ [layTok 13 st], rs.dropLast, by simp; omega, by simp; omega, by simp; omega, HK3, HY5⟩
            · have g1 : decide ((1 : Int) < (rs.length : Int)) = false := by simp; omega
              have HX : Hid (endF st (l.regs.length + 1) l.out l.regs = (o, rs)) := by
                have := HK2.out; rw [endF, if_neg g1'] at this; exact this.symm
              have HM2 : Hid (mend inp l = .ok ⟨o ++ [layTok 14 st], rs, l.m⟩) := by show mend inp l = _; rw [HM.out, HX.out]
              go_wp2_with fail
              refine (yput_any _ b w0 wr inp ⟨o, rs, l.m⟩ 14 st HZ.out (by simp only; omega)).mono ?_
              rintro e w4 ⟨rfl, hy4⟩
              have HY4 := Lib.hid hy4
              clear hy4
              go_wp2
              go_end0
              show Yk S b w0 inp (mend inp l) _ _
              rw [HM2.out]
              exact ⟨rfl, HY4.out.tail⟩
end Go.Proofs.YtkfkgdkfgpofnaaDoor
