/- The walk of inserted. -/
import Derived.Test.YtkfkgdkfgpofnaaDoorE2
import Derived.Test.YtkfkgdkfgpofnaaDoorB1
namespace Go.Proofs.YtkfkgdkfgpofnaaDoor
open Go.RowKit
set_option maxRecDepth 100000

theorem extract_list (s : ByteArray) (a e : Nat) : (s.extract a e).toList = (s.data.toList.drop a).take (e - a) := by
  rw [ByteArray.toList_eq, ByteArray.data_extract, Array.toList_extract, List.extract_eq_take_drop]
theorem extract_first (s : ByteArray) (a e : Nat) (h : 0 < (s.extract a e).size) : ((s.extract a e)[0]'h).toNat = bt s a := by
  have h1 := bt_eq (s.extract a e) 0 h
  rw [h1]
  unfold bt
  rw [← ByteArray.toList_eq, extract_list]
  have hz : 0 < e - a := by
    rw [ByteArray.size_extract] at h; omega
  obtain ⟨n, hn⟩ : ∃ n, e - a = n + 1 := ⟨e - a - 1, by omega⟩
  rw [hn, List.getD_eq_getElem?_getD, List.getD_eq_getElem?_getD, List.getElem?_take, if_pos (by omega), List.getElem?_drop]
  rfl

/-- A name behind a dollar sign. -/
def minserted (s : ByteArray) (t : St) : Except Flt St :=
  if wEnd s (t.p + 1) = t.p + 1 ∨ (sub s (t.p + 1) (wEnd s (t.p + 1))).toList = [95] ∨ cls (bt s (t.p + 1)) = 3 then .error (t.p, 27)
  else if kwB (sub s (t.p + 1) (wEnd s (t.p + 1))).toList = true then .ok (t.put 1 (sub s (t.p + 1) (wEnd s (t.p + 1))) (t.p + 1) (wEnd s (t.p + 1)))
  else t.putN 0 (sub s (t.p + 1) (wEnd s (t.p + 1))) (t.p + 1) (wEnd s (t.p + 1))

set_option maxHeartbeats 1000000 in
theorem inserted_any (b : Nat) (s : ByteArray) (w0 : World) (t : St) (w : World) (hT : Tab w0) (hb0 : 0 < b) (h : Sd b s w0 w t) (hk : t.Ok s) (hs : s.size < 100000) (hlt : t.p < s.size) :
    Calls Tryd.prog 67 #[.pointer (some ⟨b, 0, none⟩)] w (Tk b s w0 (minserted s t)) := by
  have HS := Lib.hid h
  have HT := Lib.hid (h.tab hT hb0)
  clear hT
  obtain ⟨vo, vp, hr⟩ := h
  obtain ⟨p, l, g, out, op⟩ := t
  obtain ⟨k1, k2, k3, k4, k5⟩ := hk
  simp only at k1 k2 k3 k4 k5 hr hlt
  obtain ⟨c0, c1, c2, c3, c4, c5, f1, f2, f3, f4, f5⟩ := rc hr.blk
  have HB := Lib.hid hr.blk
  have he := wEnd_bd s (p + 1) (by omega)
  have hxs := extract_size s (p + 1) (wEnd s (p + 1)) he.2
  have hxl := extract_list s (p + 1) (wEnd s (p + 1))
  clear hr
  by_cases hA : wEnd s (p + 1) = p + 1
  · have HR : Hid (minserted s ⟨p, l, g, out, op⟩ = .error (p, 27)) := by show minserted _ _ = _; unfold minserted; rw [if_pos (Or.inl hA)]
    have q1 : (s.extract (p + 1) (wEnd s (p + 1))).toList = [] := by rw [hxl, hA]; simp
    have HQ := Lib.hid q1
    clear hxl q1 hA hxs
    go_enter Tryd.func67, Tryd.ntmps67
    go_wp2_with fail
    rw [show ((p : Int) + 1) = ((p + 1 : Nat) : Int) from rfl]
    refine (wordEnd_any b s p l g vo vp (p + 1) w HT.out HB.out (by omega) (by omega)).mono ?_
    rintro e1 w1 ⟨rfl, rfl⟩
    have q1 := HQ.out
    go_wp2_with (go_at_call 18; refine (fail_any _ _ _).mono ?_; rintro e w' ⟨rfl, rfl⟩)
    refine ⟨rfl, ?_⟩
    rw [HR.out]
    exact ⟨rfl, HS.out.bel⟩
  · have hpos : 0 < (s.extract (p + 1) (wEnd s (p + 1))).size := by omega
    have q0 : ¬ (s.extract (p + 1) (wEnd s (p + 1))).toList = [] := by
      intro hc
      have : (s.extract (p + 1) (wEnd s (p + 1))).data.toList.length = 0 := by rw [← ByteArray.toList_eq, hc]; rfl
      have h2 : (s.extract (p + 1) (wEnd s (p + 1))).data.toList.length = (s.extract (p + 1) (wEnd s (p + 1))).size := Array.length_toList
      omega
    have q0' : (s.extract (p + 1) (wEnd s (p + 1))).toList.isEmpty = false := by simpa using q0
    have hlt2 : p + 1 < wEnd s (p + 1) := by omega
    clear hxl hxs
    by_cases hB : (s.extract (p + 1) (wEnd s (p + 1))).toList = [95]
    · have HR : Hid (minserted s ⟨p, l, g, out, op⟩ = .error (p, 27)) := by show minserted _ _ = _; unfold minserted; rw [if_pos (Or.inr (Or.inl hB))]
      have HQ := Lib.hid (And.intro q0 (And.intro q0' (And.intro hB hA)))
      clear q0 q0' hB hA
      go_enter Tryd.func67, Tryd.ntmps67
      go_wp2_with fail
      rw [show ((p : Int) + 1) = ((p + 1 : Nat) : Int) from rfl]
      refine (wordEnd_any b s p l g vo vp (p + 1) w HT.out HB.out (by omega) (by omega)).mono ?_
      rintro e1 w1 ⟨rfl, rfl⟩
      have q1 := HQ.out.2.1
      have q2 : ((s.extract (p + 1) (wEnd s (p + 1))).toList == [95]) = true := by rw [HQ.out.2.2.1]; rfl
      go_wp2_with (go_at_call 18; refine (fail_any _ _ _).mono ?_; rintro e w' ⟨rfl, rfl⟩)
      refine ⟨rfl, ?_⟩
      rw [HR.out]
      exact ⟨rfl, HS.out.bel⟩
    · have q2 : ((s.extract (p + 1) (wEnd s (p + 1))).toList == [95]) = false := by rw [beq_eq_false_iff_ne]; exact hB
      have e0 := extract_first s (p + 1) (wEnd s (p + 1)) hpos
      by_cases hC : cls (bt s (p + 1)) = 3
      · have HR : Hid (minserted s ⟨p, l, g, out, op⟩ = .error (p, 27)) := by show minserted _ _ = _; unfold minserted; rw [if_pos (Or.inr (Or.inr hC))]
        have HQ := Lib.hid (And.intro q0 (And.intro q0' (And.intro q2 (And.intro hC (And.intro hpos e0)))))
        clear q0 q0' q2 hC hB hA e0
        go_enter Tryd.func67, Tryd.ntmps67
        go_wp2_with fail
        rw [show ((p : Int) + 1) = ((p + 1 : Nat) : Int) from rfl]
        refine (wordEnd_any b s p l g vo vp (p + 1) w HT.out HB.out (by omega) (by omega)).mono ?_
        rintro e1 w1 ⟨rfl, rfl⟩
        have q0 := HQ.out.1
        have q1 := HQ.out.2.1
        have q2 := HQ.out.2.2.1
        have e0 := HQ.out.2.2.2.2.2
        have q3 : (cls (bt s (p + 1)) == 3) = true := by rw [HQ.out.2.2.2.1]; rfl
        go_wp2_with (first | (go_at_call 25; refine (class_any _ _ HT.out).mono ?_; rintro e w' ⟨rfl, rfl⟩) | (go_at_call 18; refine (fail_any _ _ _).mono ?_; rintro e w' ⟨rfl, rfl⟩))
        refine ⟨rfl, ?_⟩
        rw [HR.out]
        exact ⟨rfl, HS.out.bel⟩
      · have HN : ¬ (wEnd s (p + 1) = p + 1 ∨ (s.extract (p + 1) (wEnd s (p + 1))).toList = [95] ∨ cls (bt s (p + 1)) = 3) := by
          intro h; rcases h with h | h | h
          · exact hA h
          · exact hB h
          · exact hC h
        by_cases hD : kwB (s.extract (p + 1) (wEnd s (p + 1))).toList = true
        · have HR : Hid (minserted s ⟨p, l, g, out, op⟩ = .ok (St.put ⟨p, l, g, out, op⟩ 1 (s.extract (p + 1) (wEnd s (p + 1))) (p + 1) (wEnd s (p + 1)))) := by show minserted _ _ = _; unfold minserted; rw [if_neg HN]; simp only [sub, hD, if_true]
          have HQ := Lib.hid (And.intro q0 (And.intro q0' (And.intro q2 (And.intro hC (And.intro hpos (And.intro e0 hD))))))
          clear q0 q0' q2 hC hB hA e0 hD HN
          go_enter Tryd.func67, Tryd.ntmps67
          go_wp2_with fail
          rw [show ((p : Int) + 1) = ((p + 1 : Nat) : Int) from rfl]
          refine (wordEnd_any b s p l g vo vp (p + 1) w HT.out HB.out (by omega) (by omega)).mono ?_
          rintro e1 w1 ⟨rfl, rfl⟩
          have q0 := HQ.out.1
          have q1 := HQ.out.2.1
          have q2 := HQ.out.2.2.1
          have e0 := HQ.out.2.2.2.2.2.1
          have q4 := HQ.out.2.2.2.2.2.2
          have q3 : (cls (bt s (p + 1)) == 3) = false := by rw [beq_eq_false_iff_ne]; exact HQ.out.2.2.2.1
          go_wp2_with (first | (go_at_call 25; refine (class_any _ _ HT.out).mono ?_; rintro e w' ⟨rfl, rfl⟩) | (go_at_call 49; refine (keyword_any _ _).mono ?_; rintro e w' ⟨rfl, rfl⟩))
          rw [show ((p : Int) + 1) = ((p + 1 : Nat) : Int) from rfl]
          refine (put_st b s w0 _ _ _ (p + 1) (wEnd s (p + 1)) _ HS.out (by simp only; omega) (by omega) (by omega) (by simp only; omega)).mono ?_
          rintro e2 w5 ⟨rfl, h5⟩
          have H5 := Lib.hid h5
          clear h5
          go_wp2
          first | go_end0 | refine bodyPost_ret (results_none rfl _ _ _) rfl ?_
          rw [HR.out]
          exact ⟨rfl, H5.out⟩
        · have hD : kwB (s.extract (p + 1) (wEnd s (p + 1))).toList = false := by simpa using hD
          have HR : Hid (minserted s ⟨p, l, g, out, op⟩ = St.putN ⟨p, l, g, out, op⟩ 0 (s.extract (p + 1) (wEnd s (p + 1))) (p + 1) (wEnd s (p + 1))) := by show minserted _ _ = _; unfold minserted; rw [if_neg HN]; simp only [sub, hD, if_false, Bool.false_eq_true]
          have HQ := Lib.hid (And.intro q0 (And.intro q0' (And.intro q2 (And.intro hC (And.intro hpos (And.intro e0 hD))))))
          clear q0 q0' q2 hC hB hA e0 hD HN
          go_enter Tryd.func67, Tryd.ntmps67
          go_wp2_with fail
          rw [show ((p : Int) + 1) = ((p + 1 : Nat) : Int) from rfl]
          refine (wordEnd_any b s p l g vo vp (p + 1) w HT.out HB.out (by omega) (by omega)).mono ?_
          rintro e1 w1 ⟨rfl, rfl⟩
          have q0 := HQ.out.1
          have q1 := HQ.out.2.1
          have q2 := HQ.out.2.2.1
          have e0 := HQ.out.2.2.2.2.2.1
          have q4 := HQ.out.2.2.2.2.2.2
          have q3 : (cls (bt s (p + 1)) == 3) = false := by rw [beq_eq_false_iff_ne]; exact HQ.out.2.2.2.1
          go_wp2_with (first | (go_at_call 25; refine (class_any _ _ HT.out).mono ?_; rintro e w' ⟨rfl, rfl⟩) | (go_at_call 49; refine (keyword_any _ _).mono ?_; rintro e w' ⟨rfl, rfl⟩))
          rw [show ((p : Int) + 1) = ((p + 1 : Nat) : Int) from rfl]
          refine (putName_st b s w0 _ _ _ (p + 1) (wEnd s (p + 1)) _ HS.out (by simp only; omega) (by omega) (by omega) (by simp only; omega)).mono ?_
          intro e2 w5 h1
          rcases hm : St.putN ⟨p, l, g, out, op⟩ 0 (s.extract (p + 1) (wEnd s (p + 1))) (p + 1) (wEnd s (p + 1)) with f | t'
          · rw [hm] at h1
            obtain ⟨rfl, hf1⟩ := h1
            refine ⟨rfl, ?_⟩
            rw [HR.out, hm]
            exact ⟨rfl, hf1⟩
          · rw [hm] at h1
            obtain ⟨rfl, hf1⟩ := h1
            have HF := Lib.hid hf1
            have HM := Lib.hid hm
            clear hf1 hm
            go_wp2
            first | go_end0 | refine bodyPost_ret (results_none rfl _ _ _) rfl ?_
            rw [HR.out, HM.out]
            exact ⟨rfl, HF.out⟩
end Go.Proofs.YtkfkgdkfgpofnaaDoor
