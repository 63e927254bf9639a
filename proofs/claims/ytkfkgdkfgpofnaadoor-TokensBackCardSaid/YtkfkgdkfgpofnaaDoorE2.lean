/- The walks of separator, opening, nothing, dollar. -/
import Derived.Test.YtkfkgdkfgpofnaaDoorE1
namespace Go.Proofs.YtkfkgdkfgpofnaaDoor
open Go.RowKit
set_option maxRecDepth 100000

theorem extract_size (s : ByteArray) (a e : Nat) (h : e ≤ s.size) : (s.extract a e).size = e - a := by
  rw [ByteArray.size_extract]; omega

def mnothing (t : St) : Except Flt St := .error (t.p, 27)
theorem nothing_any (b : Nat) (s : ByteArray) (w0 : World) (t : St) (w : World) (h : Sd b s w0 w t) :
    Calls Tryd.prog 38 #[.pointer (some ⟨b, 0, none⟩)] w (Tk b s w0 (mnothing t)) := by
  obtain ⟨vo, vp, hr⟩ := h
  obtain ⟨c0, c1, c2, c3, c4, c5, f1, f2, f3, f4, f5⟩ := rc hr.blk
  have HR := Lib.hid hr
  clear hr
  go_enter Tryd.func38, Tryd.ntmps38
  go_wp2_with (go_at_call 18; refine (fail_any _ _ _).mono ?_; rintro e w' ⟨rfl, rfl⟩)
  exact ⟨rfl, rfl, HR.out.bel⟩

def msep (s : ByteArray) (t : St) : St := t.put 3 (sub s t.p (t.p + 1)) t.p (t.p + 1)
set_option maxHeartbeats 1000000 in
theorem separator_any (b : Nat) (s : ByteArray) (w0 : World) (t : St) (w : World) (h : Sd b s w0 w t) (hk : t.Ok s) (hs : s.size < 100000) (hlt : t.p < s.size) :
    Calls Tryd.prog 34 #[.pointer (some ⟨b, 0, none⟩)] w (Tk b s w0 (.ok (msep s t))) := by
  have HS := Lib.hid h
  obtain ⟨vo, vp, hr⟩ := h
  obtain ⟨p, l, g, out, op⟩ := t
  obtain ⟨k1, k2, k3, k4, k5⟩ := hk
  simp only at k1 k2 k3 k4 k5 hr hlt
  obtain ⟨c0, c1, c2, c3, c4, c5, f1, f2, f3, f4, f5⟩ := rc hr.blk
  clear hr
  have a1 : IntKind.i64.wrap ((p : Int) + 1) = (p : Int) + 1 := IntWalk.i64_in _ (by omega)
  have a2 : ((p : Int) + 1).toNat = p + 1 := by omega
  have a3 : 0 ≤ (p : Int) + 1 := by omega
  have a4 : (p : Int) ≤ (p : Int) + 1 := by omega
  have a5 : (p : Int) + 1 ≤ (s.size : Int) := by omega
  go_enter Tryd.func34, Tryd.ntmps34
  go_wp2
  go_still_tail 24, (by kernel_rfl)
  change wpList _ _ _ _ _ (World.drew _)
  go_wp2_with fail
  rw [show ((p : Int) + 1) = ((p + 1 : Nat) : Int) from rfl]
  refine (put_st b s w0 ⟨p, l, g, out, op⟩ 3 _ p (p + 1) _ HS.out.drew (by simp only; omega) (by omega) (by omega) (by simp only; omega)).mono ?_
  rintro e1 w5 ⟨rfl, h5⟩
  have H5 := Lib.hid h5
  clear h5
  go_wp2
  go_end0
  exact ⟨rfl, H5.out⟩

def mopening (s : ByteArray) (t : St) : Except Flt St := t.openMark (sub s t.p (t.p + 1)) false
theorem opening_any (b : Nat) (s : ByteArray) (w0 : World) (t : St) (w : World) (h : Sd b s w0 w t) (hk : t.Ok s) (hs : s.size < 100000) (hlt : t.p < s.size) :
    Calls Tryd.prog 32 #[.pointer (some ⟨b, 0, none⟩)] w (Tk b s w0 (mopening s t)) := by
  have HS := Lib.hid h
  have HK := Lib.hid hk
  obtain ⟨vo, vp, hr⟩ := h
  obtain ⟨p, l, g, out, op⟩ := t
  obtain ⟨k1, k2, k3, k4, k5⟩ := hk
  simp only at k1 k2 k3 k4 k5 hr hlt
  obtain ⟨c0, c1, c2, c3, c4, c5, f1, f2, f3, f4, f5⟩ := rc hr.blk
  clear hr
  have a1 : IntKind.i64.wrap ((p : Int) + 1) = (p : Int) + 1 := IntWalk.i64_in _ (by omega)
  have a2 : ((p : Int) + 1).toNat = p + 1 := by omega
  have a3 : 0 ≤ (p : Int) + 1 := by omega
  have a4 : (p : Int) ≤ (p : Int) + 1 := by omega
  have a5 : (p : Int) + 1 ≤ (s.size : Int) := by omega
  go_enter Tryd.func32, Tryd.ntmps32
  go_wp2
  go_still_tail 15, (by kernel_rfl)
  change wpList _ _ _ _ _ (World.drew _)
  go_wp2_with fail
  refine (openMark_any b s w0 _ _ _ _ HS.out.drew HK.out hs (by rw [extract_size _ _ _ (by omega)]; omega)).mono ?_
  intro e1 w1 h1
  rcases hm : mopening s ⟨p, l, g, out, op⟩ with f | t'
  · have hm' := hm
    unfold mopening at hm'
    rw [hm'] at h1
    obtain ⟨rfl, hf1⟩ := h1
    refine ⟨rfl, ?_⟩
    exact ⟨rfl, hf1⟩
  · have hm' := hm
    unfold mopening at hm'
    rw [hm'] at h1
    obtain ⟨rfl, hf1⟩ := h1
    have HF := Lib.hid hf1
    have HM := Lib.hid hm
    clear hf1 hm hm'
    go_wp2
    go_end0
    rw [HM.out]
    exact ⟨rfl, HF.out⟩

def lc : ByteArray := ⟨#[36, 123]⟩
def mdollar (s : ByteArray) (t : St) : Except Flt St := if ah s t.p ⟨#[36, 123]⟩ = true then t.openMark ⟨#[36, 123]⟩ false else mnothing t
theorem dollar_any (b : Nat) (s : ByteArray) (w0 : World) (t : St) (w : World) (h : Sd b s w0 w t) (hk : t.Ok s) (hs : s.size < 100000) (hlt : t.p < s.size) :
    Calls Tryd.prog 37 #[.pointer (some ⟨b, 0, none⟩)] w (Tk b s w0 (mdollar s t)) := by
  have HS := Lib.hid h
  have HK := Lib.hid hk
  obtain ⟨vo, vp, hr⟩ := h
  obtain ⟨p, l, g, out, op⟩ := t
  obtain ⟨k1, k2, k3, k4, k5⟩ := hk
  simp only at k1 k2 k3 k4 k5 hr hlt
  obtain ⟨c0, c1, c2, c3, c4, c5, f1, f2, f3, f4, f5⟩ := rc hr.blk
  have HB := Lib.hid hr.blk
  clear hr
  by_cases h1 : ah s p ⟨#[36, 123]⟩ = true
  · have HR : Hid (mdollar s ⟨p, l, g, out, op⟩ = St.openMark ⟨p, l, g, out, op⟩ ⟨#[36, 123]⟩ false) := by show mdollar _ _ = _; unfold mdollar; rw [if_pos h1]
    go_enter Tryd.func37, Tryd.ntmps37
    go_wp2_with (go_at_call 26; refine (ahead_any b s p l g vo vp p _ _ HB.out k1).mono ?_; rintro e w' ⟨rfl, rfl⟩)
    refine (openMark_any b s w0 _ _ _ _ HS.out HK.out hs (by decide)).mono ?_
    intro e1 w1 h1
    rcases hm : St.openMark ⟨p, l, g, out, op⟩ ⟨#[36, 123]⟩ false with f | t'
    · rw [hm] at h1
      obtain ⟨rfl, hf1⟩ := h1
      refine ⟨rfl, ?_⟩
      rw [HR.out, hm]
      exact ⟨rfl, hf1⟩
    · rw [hm] at h1
      obtain ⟨rfl, hf1⟩ := h1
      have HF := Lib.hid hf1
      have HM := Lib.hid hm
      clear hf1 hm
      go_wp2
      go_end0
      rw [HR.out, HM.out]
      exact ⟨rfl, HF.out⟩
  · have h1 : ah s p ⟨#[36, 123]⟩ = false := by simpa using h1
    have HR : Hid (mdollar s ⟨p, l, g, out, op⟩ = mnothing ⟨p, l, g, out, op⟩) := by show mdollar _ _ = _; unfold mdollar; rw [h1]; rfl
    go_enter Tryd.func37, Tryd.ntmps37
    go_wp2_with (go_at_call 26; refine (ahead_any b s p l g vo vp p _ _ HB.out k1).mono ?_; rintro e w' ⟨rfl, rfl⟩)
    refine (nothing_any b s w0 _ _ HS.out).mono ?_
    rintro e1 w1 ⟨rfl, hf1⟩
    refine ⟨rfl, ?_⟩
    rw [HR.out]
    exact ⟨rfl, hf1⟩
end Go.Proofs.YtkfkgdkfgpofnaaDoor
