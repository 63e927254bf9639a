/- The walk of openBracket. -/
import Derived.Test.YtkfkgdkfgpofnaaDoorH6
import Derived.Test.YtkfkgdkfgpofnaaDoorC1
namespace Go.Proofs.YtkfkgdkfgpofnaaDoor
open Go.RowKit
set_option maxRecDepth 100000

/-- A bracket that a token opens. -/
def mopen (inp : List Tok) (i : Nat) (l : LS) : Except Flt LS :=
  if (inp.getD i Tz).kind = 3 then (if closerOf (inp.getD i Tz).text.toList = 0 then .ok l else l.push i ⟨closerOf (inp.getD i Tz).text.toList, l.m, i⟩) else .ok l
theorem Yd.c3 {S : List (Nat × Obj)} {b : Nat} {w0 w : World} {inp : List Tok} {t : LS} (h : Yd S b w0 w inp t) : w.cell? ⟨b, 3, none⟩ = some (.int .i64 t.m) := by
  obtain ⟨vi, vo, vr, h, _⟩ := h
  exact (yc h.blk).c3
set_option maxHeartbeats 2000000 in
theorem openBracket_any (S : List (Nat × Obj)) (b : Nat) (w0 w : World) (inp : List Tok) (l : LS) (i : Nat) (h : Yd S b w0 w inp l) (hi : i < inp.length) (hn : inp.length ≤ 100000) (hl : l.regs.length ≤ 1000) :
    Calls Tryd.prog 43 #[.pointer (some ⟨b, 0, none⟩), .int .i64 i] w (Yk S b w0 inp (mopen inp i l)) := by
  obtain ⟨g, cap, c0, hc⟩ := h.c0 (by omega)
  obtain ⟨t, ht⟩ : ∃ t, t = inp.getD i Tz := ⟨_, rfl⟩
  have htc := hc i hi
  rw [← ht] at htc
  obtain ⟨t0, t1, t2, t3, t4⟩ := htc
  have HB : Hid (Yd ((w.heap.size, TBx t) :: S) b w0 (w.alloc (.cells #[.int .i64 t.kind, .string t.text, .int .i64 t.at_, .int .i64 t.line, .int .i64 t.col] 32)) inp l) := h.add _
  have c3 := h.c3
  have hb := h.lt
  have HMO : Hid (mopen inp i l = if t.kind = 3 then (if closerOf t.text.toList = 0 then .ok l else l.push i ⟨closerOf t.text.toList, l.m, i⟩) else .ok l) := by show mopen inp i l = _; rw [ht]; rfl
  have HT := Lib.hid ht
  have hii : (i : Int) < (inp.length : Int) := by omega
  have hi0 : (0 : Int) ≤ (i : Int) := by omega
  clear h hc ht
  by_cases hk : t.kind = 3
  · have k0 : (t.kind == 3) = true := by simp [hk]
    have HK := Lib.hid hk
    clear hk
    by_cases hq : closerOf t.text.toList = 0
    · have q0 : ((closerOf t.text.toList : Int) == 0) = true := by simp [hq]
      have HM : Hid (mopen inp i l = .ok l) := by show mopen inp i l = _; rw [HMO.out, if_pos HK.out, if_pos hq]
      clear hq
      go_enter Tryd.func43, Tryd.ntmps43
      go_wp2_with (go_at_call 64; refine (closer_any _ _).mono ?_; rintro e w' ⟨rfl, rfl⟩)
      go_end0
      rw [HM.out]
      exact ⟨rfl, HB.out.tail⟩
    · have q0 : ((closerOf t.text.toList : Int) == 0) = false := by rw [beq_eq_false_iff_ne]; omega
      have HM : Hid (mopen inp i l = l.push i ⟨closerOf t.text.toList, l.m, i⟩) := by show mopen inp i l = _; rw [HMO.out, if_pos HK.out, if_neg hq]
      clear hq
      go_enter Tryd.func43, Tryd.ntmps43
      go_wp2_with (go_at_call 64; refine (closer_any _ _).mono ?_; rintro e w' ⟨rfl, rfl⟩)
      refine (ypush_any S b w0 _ inp l i ⟨closerOf t.text.toList, l.m, i⟩ HB.out.tail hl).mono ?_
      intro e w1 h1
      rw [HM.out]
      rcases hp : l.push i ⟨closerOf t.text.toList, l.m, i⟩ with f | l'
      · rw [hp] at h1
        obtain ⟨rfl, h1⟩ := h1
        exact ⟨rfl, rfl, h1⟩
      · rw [hp] at h1
        obtain ⟨rfl, h1⟩ := h1
        have H1 := Lib.hid h1
        clear h1
        go_wp2
        go_end0
        show Yk S b w0 inp (mopen inp i l) _ _
        rw [HM.out, hp]
        exact ⟨rfl, H1.out⟩
  · have k0 : (t.kind == 3) = false := by rw [beq_eq_false_iff_ne]; exact hk
    have HM : Hid (mopen inp i l = .ok l) := by show mopen inp i l = _; rw [HMO.out, if_neg hk]
    clear hk
    go_enter Tryd.func43, Tryd.ntmps43
    go_wp2
    go_end0
    rw [HM.out]
    exact ⟨rfl, HB.out.tail⟩
end Go.Proofs.YtkfkgdkfgpofnaaDoor
