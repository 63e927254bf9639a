/- The walk of word. -/
import Derived.Test.YtkfkgdkfgpofnaaDoorE5
import Derived.Test.YtkfkgdkfgpofnaaDoorB2
namespace Go.Proofs.YtkfkgdkfgpofnaaDoor
open Go.RowKit
set_option maxRecDepth 100000

theorem St.Good.putA {t : St} {s : ByteArray} (h : t.Good s) (k : Int) (x : ByteArray) (st en : Nat) (h1 : t.p < en) (h2 : en ≤ s.size) : (t.put k x st en).Good s := by
  obtain ⟨k1, k2, k3, k4, k5⟩ := h
  refine ⟨h2, ?_, ?_, ?_, k5⟩
  · show t.l ≤ en; omega
  · show t.g ≤ en; omega
  · show (t.out ++ [_]).length ≤ 2 * en; simp; omega

def mword (s : ByteArray) (t : St) : Except Flt St :=
  if (sub s t.p (wEnd s t.p)).toList = [95] then .ok (t.put 3 (sub s t.p (wEnd s t.p)) t.p (wEnd s t.p))
  else if kwB (sub s t.p (wEnd s t.p)).toList = true then .ok (t.put 1 (sub s t.p (wEnd s t.p)) t.p (wEnd s t.p))
  else if ah s (wEnd s t.p) ⟨#[34]⟩ = true then
    match t.putN 8 (sub s t.p (wEnd s t.p)) t.p (wEnd s t.p + 1) with
    | .error f => .error f
    | .ok t1 => mparts s t1
  else t.putN 0 (sub s t.p (wEnd s t.p)) t.p (wEnd s t.p)

set_option maxHeartbeats 1000000 in
theorem word_any (b : Nat) (s : ByteArray) (w0 : World) (t : St) (w : World) (hT : Tab w0) (hb0 : 0 < b) (h : Sd b s w0 w t) (hk : t.Good s) (hs : s.size < 100000) (hlt : t.p < s.size) :
    Calls Tryd.prog 29 #[.pointer (some ⟨b, 0, none⟩)] w (Tk b s w0 (mword s t)) := by
  have HS := Lib.hid h
  have HT := Lib.hid (h.tab hT hb0)
  have HT0 := Lib.hid hT
  have HG := Lib.hid hk
  clear hT
  obtain ⟨vo, vp, hr⟩ := h
  obtain ⟨p, l, g, out, op⟩ := t
  obtain ⟨k1, k2, k3, k4, k5⟩ := hk
  simp only at k1 k2 k3 k4 k5 hr hlt
  obtain ⟨c0, c1, c2, c3, c4, c5, f1, f2, f3, f4, f5⟩ := rc hr.blk
  have HB := Lib.hid hr.blk
  have he := wEnd_bd s p (by omega)
  clear hr
  by_cases hA : (s.extract p (wEnd s p)).toList = [95]
  · have HR : Hid (mword s ⟨p, l, g, out, op⟩ = .ok (St.put ⟨p, l, g, out, op⟩ 3 (s.extract p (wEnd s p)) p (wEnd s p))) := by show mword _ _ = _; unfold mword; rw [if_pos hA]
    have HQ := Lib.hid hA
    clear hA
    go_enter Tryd.func29, Tryd.ntmps29
    go_wp2
    go_quiet ((go_at_call 47; exact quiet_left (wordEnd_any b s p l g vo vp p _ HT.out HB.out k1 (by omega))))
    have q1 : ((s.extract p (wEnd s p)).toList == [95]) = true := by rw [HQ.out]; rfl
    go_wp2_with fail
    refine (put_st b s w0 _ _ _ p (wEnd s p) _ (HS.out.drewN _) (by simp only; omega) (by omega) (by omega) (by simp only; omega)).mono ?_
    rintro e2 w5 ⟨rfl, h5⟩
    have H5 := Lib.hid h5
    clear h5
    go_wp2
    first | go_end0 | refine bodyPost_ret (results_none rfl _ _ _) rfl ?_
    rw [HR.out]
    exact ⟨rfl, H5.out⟩
  · have q1 : ((s.extract p (wEnd s p)).toList == [95]) = false := by rw [beq_eq_false_iff_ne]; exact hA
    by_cases hB : kwB (s.extract p (wEnd s p)).toList = true
    · have HR : Hid (mword s ⟨p, l, g, out, op⟩ = .ok (St.put ⟨p, l, g, out, op⟩ 1 (s.extract p (wEnd s p)) p (wEnd s p))) := by show mword _ _ = _; unfold mword; rw [if_neg hA]; simp only [sub, hB, if_true]
      clear hA
      have HQ := Lib.hid (And.intro q1 hB)
      clear q1 hB
      go_enter Tryd.func29, Tryd.ntmps29
      go_wp2
      go_quiet ((go_at_call 47; exact quiet_left (wordEnd_any b s p l g vo vp p _ HT.out HB.out k1 (by omega))))
      have q1 := HQ.out.1
      have q2 := HQ.out.2
      go_wp2_with (go_at_call 49; refine (keyword_any _ _).mono ?_; rintro e w' ⟨rfl, rfl⟩)
      refine (put_st b s w0 _ _ _ p (wEnd s p) _ (HS.out.drewN _) (by simp only; omega) (by omega) (by omega) (by simp only; omega)).mono ?_
      rintro e2 w5 ⟨rfl, h5⟩
      have H5 := Lib.hid h5
      clear h5
      go_wp2
      first | go_end0 | refine bodyPost_ret (results_none rfl _ _ _) rfl ?_
      rw [HR.out]
      exact ⟨rfl, H5.out⟩
    · have hB : kwB (s.extract p (wEnd s p)).toList = false := by simpa using hB
      by_cases hC : ah s (wEnd s p) ⟨#[34]⟩ = true
      · have hlt2 : wEnd s p < s.size := by
          have h1 : 1 ≤ s.size - wEnd s p := ah_le s _ _ hC
          omega
        have HR : Hid (mword s ⟨p, l, g, out, op⟩ = match St.putN ⟨p, l, g, out, op⟩ 8 (s.extract p (wEnd s p)) p (wEnd s p + 1) with
            | .error f => .error f
            | .ok t1 => mparts s t1) := by show mword _ _ = _; unfold mword; rw [if_neg hA]; simp only [sub, hB, hC, if_true, Bool.false_eq_true, if_false]
        clear hA
        have HQ := Lib.hid (And.intro q1 (And.intro hB hC))
        clear q1 hB hC
        go_enter Tryd.func29, Tryd.ntmps29
        go_wp2
        go_quiet ((go_at_call 47; exact quiet_left (wordEnd_any b s p l g vo vp p _ HT.out HB.out k1 (by omega))))
        have q1 := HQ.out.1
        have q2 := HQ.out.2.1
        have q3 := HQ.out.2.2
        go_wp2_with (first | (go_at_call 49; refine (keyword_any _ _).mono ?_; rintro e w' ⟨rfl, rfl⟩) | (go_at_call 26; refine (ahead_any b s p l g vo vp (wEnd s p) _ _ (by exact HB.out) he.2).mono ?_; rintro e w' ⟨rfl, rfl⟩))
        rw [show ((wEnd s p : Nat) : Int) + 1 = ((wEnd s p + 1 : Nat) : Int) from rfl]
        refine (putName_st b s w0 ⟨p, l, g, out, op⟩ 8 _ p (wEnd s p + 1) _ (HS.out.drewN _) (by simp only; omega) (by omega) (by omega) (by simp only; omega)).mono ?_
        intro e2 w5 h1
        rcases hm : St.putN ⟨p, l, g, out, op⟩ 8 (s.extract p (wEnd s p)) p (wEnd s p + 1) with f | t'
        · rw [hm] at h1
          obtain ⟨rfl, hf1⟩ := h1
          refine ⟨rfl, ?_⟩
          rw [HR.out, hm]
          exact ⟨rfl, hf1⟩
        · rw [hm] at h1
          obtain ⟨rfl, hf1⟩ := h1
          have HF := Lib.hid hf1
          have HM := Lib.hid hm
          have HG2 : Hid (t'.Good s) := by rw [putN_ok hm]; exact HG.out.putA _ _ _ _ (by simp only; omega) (by omega)
          clear hf1 hm
          go_wp2_with fail
          refine (parts_any b s w0 t' _ HT0.out hb0 HF.out HG2.out hs).mono ?_
          intro e3 w6 h3
          rcases hm : mparts s t' with f | t3
          · rw [hm] at h3
            obtain ⟨rfl, hf3⟩ := h3
            refine ⟨rfl, ?_⟩
            rw [HR.out, HM.out]
            simp only []
            rw [hm]
            exact ⟨rfl, hf3⟩
          · rw [hm] at h3
            obtain ⟨rfl, hf3⟩ := h3
            have HF3 := Lib.hid hf3
            have HM3 := Lib.hid hm
            clear hf3 hm
            go_wp2
            first | go_end0 | refine bodyPost_ret (results_none rfl _ _ _) rfl ?_
            rw [HR.out, HM.out]
            simp only []
            rw [HM3.out]
            exact ⟨rfl, HF3.out⟩
      · have hC : ah s (wEnd s p) ⟨#[34]⟩ = false := by simpa using hC
        have HR : Hid (mword s ⟨p, l, g, out, op⟩ = St.putN ⟨p, l, g, out, op⟩ 0 (s.extract p (wEnd s p)) p (wEnd s p)) := by show mword _ _ = _; unfold mword; rw [if_neg hA]; simp only [sub, hB, hC, Bool.false_eq_true, if_false]
        clear hA
        have HQ := Lib.hid (And.intro q1 (And.intro hB hC))
        clear q1 hB hC
        go_enter Tryd.func29, Tryd.ntmps29
        go_wp2
        go_quiet ((go_at_call 47; exact quiet_left (wordEnd_any b s p l g vo vp p _ HT.out HB.out k1 (by omega))))
        have q1 := HQ.out.1
        have q2 := HQ.out.2.1
        have q3 := HQ.out.2.2
        go_wp2_with (first | (go_at_call 49; refine (keyword_any _ _).mono ?_; rintro e w' ⟨rfl, rfl⟩) | (go_at_call 26; refine (ahead_any b s p l g vo vp (wEnd s p) _ _ (by exact HB.out) he.2).mono ?_; rintro e w' ⟨rfl, rfl⟩))
        refine (putName_st b s w0 ⟨p, l, g, out, op⟩ 0 _ p (wEnd s p) _ (HS.out.drewN _) (by simp only; omega) (by omega) (by omega) (by simp only; omega)).mono ?_
        intro e2 w5 h1
        rcases hm : St.putN ⟨p, l, g, out, op⟩ 0 (s.extract p (wEnd s p)) p (wEnd s p) with f | t'
        · rw [hm] at h1
          obtain ⟨rfl, hf1⟩ := h1
          refine ⟨rfl, ?_⟩
          rw [HR.out, hm]
          exact ⟨rfl, hf1⟩
        · rw [hm] at h1
          obtain ⟨rfl, hf1⟩ := h1
          have HF := Lib.hid hf1
          have HM := Lib.hid hm
          clear hf1 hm
          go_wp2
          first | go_end0 | refine bodyPost_ret (results_none rfl _ _ _) rfl ?_
          rw [HR.out, HM.out]
          exact ⟨rfl, HF.out⟩
end Go.Proofs.YtkfkgdkfgpofnaaDoor
