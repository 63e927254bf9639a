/- The walks of single, double. -/
import Derived.Test.YtkfkgdkfgpofnaaDoorE2
import Derived.Test.YtkfkgdkfgpofnaaDoorF1
import Derived.Test.YtkfkgdkfgpofnaaDoorB1
namespace Go.Proofs.YtkfkgdkfgpofnaaDoor
open Go.RowKit
set_option maxRecDepth 100000

theorem mquotF_bd (s stops : ByteArray) (n : Nat) : ∀ (p : Nat) (acc l : List Int) (q : Nat), mquotF s stops n p acc = some (l, q) → p ≤ q ∧ q < s.size ∧ 0 ≤ sidx stops (bt s q) := by
  induction n with
  | zero => intro p acc l q h; simp [mquotF] at h
  | succ n ih =>
    intro p acc l q h
    simp only [mquotF] at h
    split at h
    · rename_i hlt
      split at h
      · split at h
        · cases h
        · rename_i v q' hc
          have h1 := mchar_bd s p v q' hlt hc
          have := ih _ _ _ _ h
          omega
      · rename_i hx
        simp at h
        obtain ⟨rfl, rfl⟩ := h
        exact ⟨Nat.le_refl _, hlt, by omega⟩
    · cases h
theorem mquoted_bd (s : ByteArray) (p : Nat) (stops : ByteArray) (l : List Int) (q : Nat) (h : mquoted s p stops = some (l, q)) : p ≤ q ∧ q < s.size ∧ 0 ≤ sidx stops (bt s q) := mquotF_bd s stops _ _ _ _ _ h

def QtS (b : Nat) (s : ByteArray) (w0 : World) (t : St) (st : Int) (r : Option (List Int × Nat)) (e : Ending) (w' : World) : Prop :=
  match r with
  | some (l, q) => e = .returned (.string (strOfNums l)) ∧ Sd b s w0 w' { t with p := q }
  | none => e = .panicked [{ v := .iface 26 (.agg #[.int .i64 st, .int .i64 27]), recovered := false }] ∧ Below b w0 w'
theorem quoted_st (b : Nat) (s : ByteArray) (w0 : World) (t : St) (st : Int) (q0 : Nat) (stops : ByteArray) (w : World) (h : Sd b s w0 w t) (hq : q0 ≤ s.size) (hs : s.size < 100000) :
    Calls Tryd.prog 54 #[.pointer (some ⟨b, 0, none⟩), .int .i64 st, .int .i64 q0, .string stops] w (QtS b s w0 t st (mquoted s q0 stops)) := by
  obtain ⟨vo, vp, hr⟩ := h
  refine (quoted_any b s t.p t.l t.g vo vp st q0 stops w hr.blk hq hs).mono fun e w' hh => ?_
  unfold Qt at hh
  unfold QtS
  split
  · rename_i l q hm
    rw [hm] at hh
    obtain ⟨h1, h2, h3⟩ := hh
    exact ⟨h1, vo, vp, hr.mv h2 h3⟩
  · rename_i hm
    rw [hm] at hh
    exact ⟨hh.1, hr.fr hh.2⟩

def msingle (s : ByteArray) (t : St) : Except Flt St :=
  if ah s t.p ⟨#[39, 123]⟩ = true then t.openMark ⟨#[39, 123]⟩ false
  else match mquoted s (t.p + 1) ⟨#[39]⟩ with
    | none => .error (t.p, 27)
    | some (l, q) => if (strOfNums l).size = 1 then .ok (St.put { t with p := q } 6 (strOfNums l) t.p (q + 1)) else .error (t.p, 27)

theorem single_any (b : Nat) (s : ByteArray) (w0 : World) (t : St) (w : World) (h : Sd b s w0 w t) (hk : t.Ok s) (hs : s.size < 100000) (hlt : t.p < s.size) :
    Calls Tryd.prog 35 #[.pointer (some ⟨b, 0, none⟩)] w (Tk b s w0 (msingle s t)) := by
  have HS := Lib.hid h
  have HK := Lib.hid hk
  obtain ⟨vo, vp, hr⟩ := h
  obtain ⟨p, l, g, out, op⟩ := t
  obtain ⟨k1, k2, k3, k4, k5⟩ := hk
  simp only at k1 k2 k3 k4 k5 hr hlt
  obtain ⟨c0, c1, c2, c3, c4, c5, f1, f2, f3, f4, f5⟩ := rc hr.blk
  have HB := Lib.hid hr.blk
  clear hr
  by_cases h1 : ah s p ⟨#[39, 123]⟩ = true
  · have HR : Hid (msingle s ⟨p, l, g, out, op⟩ = St.openMark ⟨p, l, g, out, op⟩ ⟨#[39, 123]⟩ false) := by show msingle _ _ = _; unfold msingle; rw [if_pos h1]
    go_enter Tryd.func35, Tryd.ntmps35
    go_wp2_with (go_at_call 26; refine (ahead_any b s p l g vo vp p _ _ HB.out k1).mono ?_; rintro e w' ⟨rfl, rfl⟩)
    refine (openMark_any b s w0 _ _ _ _ HS.out HK.out hs (by decide)).mono ?_
    intro e1 w1 h1
    rcases hm : St.openMark ⟨p, l, g, out, op⟩ ⟨#[39, 123]⟩ false with f | t'
    · rw [hm] at h1
      obtain ⟨rfl, hf1⟩ := h1
      refine ⟨rfl, ?_⟩
      rw [HR.out, hm]
      exact ⟨rfl, hf1⟩
    · rw [hm] at h1
      obtain ⟨rfl, hf1⟩ := h1
      have HF := Lib.hid hf1
      have HM := Lib.hid hm
      clear hf1 hm
      go_wp2
      first | go_end0 | refine bodyPost_ret (results_none rfl _ _ _) rfl ?_
      rw [HR.out, HM.out]
      exact ⟨rfl, HF.out⟩
  · have h1 : ah s p ⟨#[39, 123]⟩ = false := by simpa using h1
    have HR : Hid (msingle s ⟨p, l, g, out, op⟩ = match mquoted s (p + 1) ⟨#[39]⟩ with
      | none => .error (p, 27)
      | some (l', q) => if (strOfNums l').size = 1 then .ok (St.put ⟨q, l, g, out, op⟩ 6 (strOfNums l') p (q + 1)) else .error (p, 27)) := by show msingle _ _ = _; unfold msingle; simp only []; rw [h1]; simp only [Bool.false_eq_true, if_false]
    go_enter Tryd.func35, Tryd.ntmps35
    go_wp2_with (go_at_call 26; refine (ahead_any b s p l g vo vp p _ _ HB.out k1).mono ?_; rintro e w' ⟨rfl, rfl⟩)
    rw [show ((p : Int) + 1) = ((p + 1 : Nat) : Int) from rfl]
    refine (quoted_st b s w0 ⟨p, l, g, out, op⟩ p (p + 1) _ _ HS.out (by omega) hs).mono ?_
    intro e1 w1 h1
    rcases hm : mquoted s (p + 1) ⟨#[39]⟩ with _ | ⟨lq, q⟩
    · rw [hm] at h1
      obtain ⟨rfl, hf1⟩ := h1
      refine ⟨rfl, ?_⟩
      rw [HR.out, hm]
      exact ⟨rfl, hf1⟩
    · rw [hm] at h1
      obtain ⟨rfl, hf1⟩ := h1
      have hq := mquoted_bd _ _ _ _ _ hm
      have HM := Lib.hid hm
      have HF := Lib.hid hf1
      clear hm c0 c1 c2 c3 c4 c5 f1 f2 f3 f4 f5
      obtain ⟨vo1, vp1, hr1⟩ := hf1
      obtain ⟨c0, c1, c2, c3, c4, c5, f1, f2, f3, f4, f5⟩ := rc hr1.blk
      clear hr1
      simp only at c1
      by_cases hz : (strOfNums lq).size = 1
      · have t0 : (((strOfNums lq).size : Int) != 1) = false := by rw [hz]; rfl
        have HZ := Lib.hid hz
        clear hz
        go_wp2_with fail
        rw [show ((q : Int) + 1) = ((q + 1 : Nat) : Int) from rfl]
        refine (put_st b s w0 _ _ _ _ (q + 1) _ HF.out (by simp only; omega) (by omega) (by omega) (by simp only; omega)).mono ?_
        rintro e2 w5 ⟨rfl, h5⟩
        have H5 := Lib.hid h5
        clear h5
        go_wp2
        go_end0
        rw [HR.out, HM.out]
        simp only [HZ.out, if_true]
        exact ⟨rfl, H5.out⟩
      · have t0 : (((strOfNums lq).size : Int) != 1) = true := by rw [bne_iff_ne]; omega
        have HZ := Lib.hid hz
        clear hz
        go_wp2_with (go_at_call 18; refine (fail_any _ _ _).mono ?_; rintro e w' ⟨rfl, rfl⟩)
        refine ⟨rfl, ?_⟩
        rw [HR.out, HM.out]
        simp only [HZ.out, if_false]
        exact ⟨rfl, HF.out.bel⟩

def mdouble (s : ByteArray) (t : St) : Except Flt St :=
  match mquoted s (t.p + 1) ⟨#[34]⟩ with
    | none => .error (t.p, 27)
    | some (l, q) => .ok (St.put { t with p := q } 7 (strOfNums l) t.p (q + 1))
theorem double_any (b : Nat) (s : ByteArray) (w0 : World) (t : St) (w : World) (h : Sd b s w0 w t) (hk : t.Ok s) (hs : s.size < 100000) (hlt : t.p < s.size) :
    Calls Tryd.prog 36 #[.pointer (some ⟨b, 0, none⟩)] w (Tk b s w0 (mdouble s t)) := by
  have HS := Lib.hid h
  obtain ⟨vo, vp, hr⟩ := h
  obtain ⟨p, l, g, out, op⟩ := t
  obtain ⟨k1, k2, k3, k4, k5⟩ := hk
  simp only at k1 k2 k3 k4 k5 hr hlt
  obtain ⟨c0, c1, c2, c3, c4, c5, f1, f2, f3, f4, f5⟩ := rc hr.blk
  clear hr
  go_enter Tryd.func36, Tryd.ntmps36
  go_wp2_with fail
  rw [show ((p : Int) + 1) = ((p + 1 : Nat) : Int) from rfl]
  refine (quoted_st b s w0 ⟨p, l, g, out, op⟩ p (p + 1) _ _ HS.out (by omega) hs).mono ?_
  intro e1 w1 h1
  rcases hm : mquoted s (p + 1) ⟨#[34]⟩ with _ | ⟨lq, q⟩
  · rw [hm] at h1
    obtain ⟨rfl, hf1⟩ := h1
    refine ⟨rfl, ?_⟩
    unfold mdouble
    simp only []
    rw [hm]
    exact ⟨rfl, hf1⟩
  · rw [hm] at h1
    obtain ⟨rfl, hf1⟩ := h1
    have hq := mquoted_bd _ _ _ _ _ hm
    have HM := Lib.hid hm
    have HF := Lib.hid hf1
    clear hm c0 c1 c2 c3 c4 c5 f1 f2 f3 f4 f5
    obtain ⟨vo1, vp1, hr1⟩ := hf1
    obtain ⟨c0, c1, c2, c3, c4, c5, f1, f2, f3, f4, f5⟩ := rc hr1.blk
    clear hr1
    simp only at c1
    go_wp2_with fail
    rw [show ((q : Int) + 1) = ((q + 1 : Nat) : Int) from rfl]
    refine (put_st b s w0 _ _ _ _ (q + 1) _ HF.out (by simp only; omega) (by omega) (by omega) (by simp only; omega)).mono ?_
    rintro e2 w5 ⟨rfl, h5⟩
    have H5 := Lib.hid h5
    clear h5
    go_wp2
    go_end0
    unfold mdouble
    simp only []
    rw [HM.out]
    exact ⟨rfl, H5.out⟩
end Go.Proofs.YtkfkgdkfgpofnaaDoor
