/- The walk of operator. -/
import Derived.Test.YtkfkgdkfgpofnaaDoorE6
namespace Go.Proofs.YtkfkgdkfgpofnaaDoor
open Go.RowKit
set_option maxRecDepth 100000

/-- Does a run of operator bytes go on at a place? -/
def opB (s : ByteArray) (q : Nat) : Bool := decide (q < s.size) && (cls (bt s q) == 4) && !ah s q ⟨#[47, 47]⟩ && !ah s q ⟨#[47, 42]⟩
def oEndF (s : ByteArray) : Nat → Nat → Nat
  | 0, q => q
  | n + 1, q => if opB s q = true then oEndF s n (q + 1) else q
def oEnd (s : ByteArray) (q : Nat) : Nat := oEndF s (s.size - q + 1) q
theorem opB_lt {s : ByteArray} {q : Nat} (h : opB s q = true) : q < s.size := by
  unfold opB at h; simp at h; exact h.1.1.1
theorem oEndF_bd (s : ByteArray) (n q : Nat) (h : q ≤ s.size) : q ≤ oEndF s n q ∧ oEndF s n q ≤ s.size := by
  induction n generalizing q with
  | zero => simp only [oEndF]; omega
  | succ n ih =>
    simp only [oEndF]
    split
    · rename_i hc; have := opB_lt hc; have := ih (q + 1) (by omega); omega
    · omega
theorem oEnd_bd (s : ByteArray) (q : Nat) (h : q ≤ s.size) : q ≤ oEnd s q ∧ oEnd s q ≤ s.size := oEndF_bd s _ q h
def opMarks : List (List UInt8) := [[61], [61, 62], [60, 45], [58], [60, 58], [62, 58]]
def moperator (s : ByteArray) (t : St) : Except Flt St :=
  if opMarks.contains (sub s t.p (oEnd s (t.p + 1))).toList = true then .ok (t.put 3 (sub s t.p (oEnd s (t.p + 1))) t.p (oEnd s (t.p + 1)))
  else t.putN 2 (sub s t.p (oEnd s (t.p + 1))) t.p (oEnd s (t.p + 1))

set_option maxHeartbeats 4000000 in
theorem operator_any (b : Nat) (s : ByteArray) (w0 : World) (t : St) (w : World) (hT : Tab w0) (hb0 : 0 < b) (h : Sd b s w0 w t) (hk : t.Good s) (hs : s.size < 100000) (hlt : t.p < s.size) :
    Calls Tryd.prog 31 #[.pointer (some ⟨b, 0, none⟩)] w (Tk b s w0 (moperator s t)) := by
  have HS := Lib.hid h
  have HT := Lib.hid (h.tab hT hb0)
  have HG := Lib.hid hk
  clear hT
  obtain ⟨vo, vp, hr⟩ := h
  obtain ⟨p, l, g, out, op⟩ := t
  obtain ⟨k1, k2, k3, k4, k5⟩ := hk
  simp only at k1 k2 k3 k4 k5 hr hlt
  obtain ⟨c0, c1, c2, c3, c4, c5, f1, f2, f3, f4, f5⟩ := rc hr.blk
  have HB := Lib.hid hr.blk
  have a1 : IntKind.i64.wrap ((p : Int) + 1) = (p : Int) + 1 := IntWalk.i64_in _ (by omega)
  clear hr
  go_enter Tryd.func31, Tryd.ntmps31
  go_wp2
  go_quiet (fail)
  go_wp2
  go_loopg [3] (s.size - (p + 1) + 1) (fun n i wr => ∃ k : Nat, k ≤ s.size ∧ s.size - k < n ∧ p + 1 ≤ k ∧ i = .int .i64 k ∧ Hid (oEndF s n k = oEnd s (p + 1)) ∧ Hid (∃ m, wr = w.drewN m))
  case atStart => exact ⟨p + 1, by omega, by omega, by omega, rfl, rfl, ⟨_, rfl⟩⟩
  case round =>
    obtain ⟨k, hk, hn, hpk, rfl, HK, HW⟩ := hrel
    obtain ⟨m, rfl⟩ := HW.out
    clear HW
    obtain ⟨n, rfl⟩ : ∃ n, gk = n + 1 := ⟨gk - 1, by omega⟩
    by_cases hcont : opB s k = true
    · have hlt1 := opB_lt hcont
      have e := bt_eq s k hlt1
      have HK' : Hid (oEndF s n (k + 1) = oEnd s (p + 1)) := by
        have := HK.out; simp only [oEndF, hcont, if_true] at this; exact this
      unfold opB at hcont
      simp only [Bool.and_eq_true, Bool.not_eq_true', decide_eq_true_eq] at hcont
      obtain ⟨⟨⟨_, t0⟩, t1⟩, t2⟩ := hcont
      go_wp2_with (first | (go_at_call 25; refine (class_any _ (w.drewN m) (by exact HT.out)).mono ?_; rintro e w' ⟨rfl, rfl⟩) | (go_at_call 26; refine (ahead_any b s p l g vo vp k _ (w.drewN m) (by exact HB.out) hk).mono ?_; rintro e w' ⟨rfl, rfl⟩))
      go_roundg n
      case measure => omega
      case rel => exact ⟨k + 1, by omega, by omega, by omega, by go_num, HK', ⟨m, rfl⟩⟩
    · have HK' : Hid (oEnd s (p + 1) = k) := by
        have := HK.out; simp only [oEndF, hcont, if_false] at this; exact this.symm
      have HM : Hid (moperator s ⟨p, l, g, out, op⟩ = if opMarks.contains (s.extract p k).toList = true then .ok (St.put ⟨p, l, g, out, op⟩ 3 (s.extract p k) p k)
          else St.putN ⟨p, l, g, out, op⟩ 2 (s.extract p k) p k) := by show moperator _ _ = _; unfold moperator; simp only [HK'.out]
      have hx : (k < s.size ∧ (cls (bt s k) == 4) = false) ∨ (k < s.size ∧ (cls (bt s k) == 4) = true ∧ ah s k ⟨#[47, 47]⟩ = true) ∨ (k < s.size ∧ (cls (bt s k) == 4) = true ∧ ah s k ⟨#[47, 47]⟩ = false ∧ ah s k ⟨#[47, 42]⟩ = true) ∨ (s.size ≤ k) := by
        by_cases h1 : k < s.size
        · rcases h2 : (cls (bt s k) == 4) with _ | _
          · exact Or.inl ⟨h1, rfl⟩
          · rcases h3 : ah s k ⟨#[47, 47]⟩ with _ | _
            · rcases h4 : ah s k ⟨#[47, 42]⟩ with _ | _
              · exfalso; apply hcont; unfold opB; simp [h1, h2, h3, h4]
              · exact Or.inr (Or.inr (Or.inl ⟨h1, rfl, rfl, rfl⟩))
            · exact Or.inr (Or.inl ⟨h1, rfl, rfl⟩)
        · right; right; right; omega
      clear hcont
      by_cases hmk : opMarks.contains (s.extract p k).toList = true
      · have HR : Hid (moperator s ⟨p, l, g, out, op⟩ = .ok (St.put ⟨p, l, g, out, op⟩ 3 (s.extract p k) p k)) := by show moperator _ _ = _; rw [HM.out, if_pos hmk]
        have hmk2 : ((s.extract p k).toList == [61]) = true ∨ (((s.extract p k).toList == [61]) = false ∧ ((s.extract p k).toList == [61, 62]) = true) ∨ (((s.extract p k).toList == [61]) = false ∧ ((s.extract p k).toList == [61, 62]) = false ∧ ((s.extract p k).toList == [60, 45]) = true)
          ∨ (((s.extract p k).toList == [61]) = false ∧ ((s.extract p k).toList == [61, 62]) = false ∧ ((s.extract p k).toList == [60, 45]) = false ∧ ((s.extract p k).toList == [58]) = true)
          ∨ (((s.extract p k).toList == [61]) = false ∧ ((s.extract p k).toList == [61, 62]) = false ∧ ((s.extract p k).toList == [60, 45]) = false ∧ ((s.extract p k).toList == [58]) = false ∧ ((s.extract p k).toList == [60, 58]) = true)
          ∨ (((s.extract p k).toList == [61]) = false ∧ ((s.extract p k).toList == [61, 62]) = false ∧ ((s.extract p k).toList == [60, 45]) = false ∧ ((s.extract p k).toList == [58]) = false ∧ ((s.extract p k).toList == [60, 58]) = false ∧ ((s.extract p k).toList == [62, 58]) = true) := by
          simp only [opMarks, List.contains_cons, List.contains_nil, Bool.or_false, Bool.or_eq_true] at hmk
          rcases hmk with h | h | h | h | h | h <;> rw [beq_iff_eq] at h <;> rw [h] <;> decide
        clear hmk HM
        rcases hx with ⟨hlt1, t0⟩ | ⟨hlt1, t0, t1⟩ | ⟨hlt1, t0, t1, t2⟩ | hge
        rotate_left 3
        · have hgei : decide ((k : Int) < s.size) = false := by simp; omega
          rcases hmk2 with q0 | ⟨q0, q1⟩ | ⟨q0, q1, q2⟩ | ⟨q0, q1, q2, q3⟩ | ⟨q0, q1, q2, q3, q4⟩ | ⟨q0, q1, q2, q3, q4, q5⟩
          all_goals
            go_wp2_with fail
            refine (put_st b s w0 ⟨p, l, g, out, op⟩ 3 _ p k _ (HS.out.drewN _) (by simp only; omega) (by omega) (by omega) (by simp only; omega)).mono ?_
            rintro e2 w5 ⟨rfl, h5⟩
            have H5 := Lib.hid h5
            clear h5
            go_wp2
            first | go_end0 | refine bodyPost_ret (results_none rfl _ _ _) rfl ?_
            rw [HR.out]
            exact ⟨rfl, H5.out⟩
        all_goals
          have e := bt_eq s k hlt1
          have hlti : (k : Int) < s.size := by omega
          rcases hmk2 with q0 | ⟨q0, q1⟩ | ⟨q0, q1, q2⟩ | ⟨q0, q1, q2, q3⟩ | ⟨q0, q1, q2, q3, q4⟩ | ⟨q0, q1, q2, q3, q4, q5⟩
          all_goals
            go_wp2_with (first | (go_at_call 25; refine (class_any _ (w.drewN m) (by exact HT.out)).mono ?_; rintro e w' ⟨rfl, rfl⟩) | (go_at_call 26; refine (ahead_any b s p l g vo vp k _ (w.drewN m) (by exact HB.out) hk).mono ?_; rintro e w' ⟨rfl, rfl⟩))
            refine (put_st b s w0 ⟨p, l, g, out, op⟩ 3 _ p k _ (HS.out.drewN _) (by simp only; omega) (by omega) (by omega) (by simp only; omega)).mono ?_
            rintro e2 w5 ⟨rfl, h5⟩
            have H5 := Lib.hid h5
            clear h5
            go_wp2
            first | go_end0 | refine bodyPost_ret (results_none rfl _ _ _) rfl ?_
            rw [HR.out]
            exact ⟨rfl, H5.out⟩
      · have HR : Hid (moperator s ⟨p, l, g, out, op⟩ = St.putN ⟨p, l, g, out, op⟩ 2 (s.extract p k) p k) := by show moperator _ _ = _; rw [HM.out, if_neg hmk]
        have hmk2 : ((s.extract p k).toList == [61]) = false ∧ ((s.extract p k).toList == [61, 62]) = false ∧ ((s.extract p k).toList == [60, 45]) = false ∧ ((s.extract p k).toList == [58]) = false ∧ ((s.extract p k).toList == [60, 58]) = false ∧ ((s.extract p k).toList == [62, 58]) = false := by
          simpa [opMarks, List.contains_cons] using hmk
        obtain ⟨q0, q1, q2, q3, q4, q5⟩ := hmk2
        clear hmk HM
        rcases hx with ⟨hlt1, t0⟩ | ⟨hlt1, t0, t1⟩ | ⟨hlt1, t0, t1, t2⟩ | hge
        rotate_left 3
        · have hgei : decide ((k : Int) < s.size) = false := by simp; omega
          go_wp2_with fail
          refine (putName_st b s w0 ⟨p, l, g, out, op⟩ 2 _ p k _ (HS.out.drewN _) (by simp only; omega) (by omega) (by omega) (by simp only; omega)).mono ?_
          intro e2 w5 h1
          rcases hm : St.putN ⟨p, l, g, out, op⟩ 2 (s.extract p k) p k with f | t'
          · rw [hm] at h1
            obtain ⟨rfl, hf1⟩ := h1
            refine ⟨rfl, ?_⟩
            rw [HR.out, hm]
            exact ⟨rfl, hf1⟩
          · rw [hm] at h1
            obtain ⟨rfl, hf1⟩ := h1
            have HF := Lib.hid hf1
            have HM := Lib.hid hm
            clear hf1 hm
            go_wp2
            first | go_end0 | refine bodyPost_ret (results_none rfl _ _ _) rfl ?_
            rw [HR.out, HM.out]
            exact ⟨rfl, HF.out⟩
        all_goals
          have e := bt_eq s k hlt1
          have hlti : (k : Int) < s.size := by omega
          go_wp2_with (first | (go_at_call 25; refine (class_any _ (w.drewN m) (by exact HT.out)).mono ?_; rintro e w' ⟨rfl, rfl⟩) | (go_at_call 26; refine (ahead_any b s p l g vo vp k _ (w.drewN m) (by exact HB.out) hk).mono ?_; rintro e w' ⟨rfl, rfl⟩))
          refine (putName_st b s w0 ⟨p, l, g, out, op⟩ 2 _ p k _ (HS.out.drewN _) (by simp only; omega) (by omega) (by omega) (by simp only; omega)).mono ?_
          intro e2 w5 h1
          rcases hm : St.putN ⟨p, l, g, out, op⟩ 2 (s.extract p k) p k with f | t'
          · rw [hm] at h1
            obtain ⟨rfl, hf1⟩ := h1
            refine ⟨rfl, ?_⟩
            rw [HR.out, hm]
            exact ⟨rfl, hf1⟩
          · rw [hm] at h1
            obtain ⟨rfl, hf1⟩ := h1
            have HF := Lib.hid hf1
            have HM := Lib.hid hm
            clear hf1 hm
            go_wp2
            first | go_end0 | refine bodyPost_ret (results_none rfl _ _ _) rfl ?_
            rw [HR.out, HM.out]
            exact ⟨rfl, HF.out⟩
end Go.Proofs.YtkfkgdkfgpofnaaDoor
