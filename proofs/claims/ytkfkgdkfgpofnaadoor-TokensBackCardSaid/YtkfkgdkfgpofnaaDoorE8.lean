/- The walk of number. -/
import Derived.Test.YtkfkgdkfgpofnaaDoorE6
namespace Go.Proofs.YtkfkgdkfgpofnaaDoor
open Go.RowKit
set_option maxRecDepth 100000

/-- The end of the digits from a place on. -/
def nEndF (s : ByteArray) : Nat → Nat → Nat
  | 0, q => q
  | n + 1, q => if q < s.size ∧ cls (bt s q) = 3 then nEndF s n (q + 1) else q
def nEnd (s : ByteArray) (q : Nat) : Nat := nEndF s (s.size - q + 1) q
theorem nEndF_bd (s : ByteArray) (n q : Nat) (h : q ≤ s.size) : q ≤ nEndF s n q ∧ nEndF s n q ≤ s.size := by
  induction n generalizing q with
  | zero => simp only [nEndF]; omega
  | succ n ih =>
    simp only [nEndF]
    split
    · rename_i hc; have := ih (q + 1) (by omega); omega
    · omega
theorem nEnd_bd (s : ByteArray) (q : Nat) (h : q ≤ s.size) : q ≤ nEnd s q ∧ nEnd s q ≤ s.size := nEndF_bd s _ q h

def most (L : Bool) : List UInt8 := if L then [57, 50, 50, 51, 51, 55, 50, 48, 51, 54, 56, 53, 52, 55, 55, 53, 56, 48, 55] else [50, 49, 52, 55, 52, 56, 51, 54, 52, 55]
/-- A number. -/
def mnumber (s : ByteArray) (t : St) : Except Flt St :=
  if (1 < nEnd s t.p - t.p ∧ bt s t.p = 48) ∨ ((if ah s (nEnd s t.p) ⟨#[76]⟩ = true then nEnd s t.p + 1 else nEnd s t.p) < s.size ∧ wordB (bt s (if ah s (nEnd s t.p) ⟨#[76]⟩ = true then nEnd s t.p + 1 else nEnd s t.p)) = true) then .error (t.p, 27)
  else if (if ah s (nEnd s t.p) ⟨#[76]⟩ = true then 19 else 10) < nEnd s t.p - t.p ∨ (nEnd s t.p - t.p = (if ah s (nEnd s t.p) ⟨#[76]⟩ = true then 19 else 10) ∧ Op.bytesLess (sub s t.p (nEnd s t.p)).toList (if ah s (nEnd s t.p) ⟨#[76]⟩ = true then [57, 50, 50, 51, 51, 55, 50, 48, 51, 54, 56, 53, 52, 55, 55, 53, 56, 48, 55] else [50, 49, 52, 55, 52, 56, 51, 54, 52, 55]) = false ∧ ((sub s t.p (nEnd s t.p)).toList == (if ah s (nEnd s t.p) ⟨#[76]⟩ = true then [57, 50, 50, 51, 51, 55, 50, 48, 51, 54, 56, 53, 52, 55, 55, 53, 56, 48, 55] else [50, 49, 52, 55, 52, 56, 51, 54, 52, 55])) = false) then .error (t.p, 25)
  else .ok (t.put (if ah s (nEnd s t.p) ⟨#[76]⟩ = true then 5 else 4) (sub s t.p (nEnd s t.p)) t.p (if ah s (nEnd s t.p) ⟨#[76]⟩ = true then nEnd s t.p + 1 else nEnd s t.p))

set_option maxHeartbeats 4000000 in
theorem number_any (b : Nat) (s : ByteArray) (w0 : World) (t : St) (w : World) (hT : Tab w0) (hb0 : 0 < b) (h : Sd b s w0 w t) (hk : t.Good s) (hs : s.size < 100000) (hlt : t.p < s.size) :
    Calls Tryd.prog 30 #[.pointer (some ⟨b, 0, none⟩)] w (Tk b s w0 (mnumber s t)) := by
  have HS := Lib.hid h
  have HT := Lib.hid (h.tab hT hb0)
  have HG := Lib.hid hk
  clear hT
  obtain ⟨vo, vp, hr⟩ := h
  obtain ⟨p, l, g, out, op⟩ := t
  obtain ⟨k1, k2, k3, k4, k5⟩ := hk
  simp only at k1 k2 k3 k4 k5 hr hlt
  obtain ⟨c0, c1, c2, c3, c4, c5, f1, f2, f3, f4, f5⟩ := rc hr.blk
  have HB := Lib.hid hr.blk
  clear hr
  go_enter Tryd.func30, Tryd.ntmps30
  go_wp2
  go_quiet (fail)
  go_wp2
  go_loopg [3] (s.size - p + 1) (fun n i wr => ∃ k : Nat, k ≤ s.size ∧ s.size - k < n ∧ p ≤ k ∧ i = .int .i64 k ∧ Hid (nEndF s n k = nEnd s p) ∧ Hid (∃ m, wr = w.drewN m))
  case atStart => exact ⟨p, k1, by omega, by omega, rfl, rfl, ⟨_, rfl⟩⟩
  case round =>
    obtain ⟨k, hk, hn, hpk, rfl, HK, HW⟩ := hrel
    obtain ⟨m, rfl⟩ := HW.out
    clear HW
    obtain ⟨n, rfl⟩ : ∃ n, gk = n + 1 := ⟨gk - 1, by omega⟩
    by_cases hcont : k < s.size ∧ cls (bt s k) = 3
    · obtain ⟨hlt1, hw⟩ := hcont
      have e := bt_eq s k hlt1
      have HK' : Hid (nEndF s n (k + 1) = nEnd s p) := by
        have := HK.out; simp only [nEndF, hlt1, hw, and_self, if_true] at this; exact this
      have t0 : (cls (bt s k) == 3) = true := by rw [hw]; rfl
      clear hw
      go_wp2_with (go_at_call 25; refine (class_any _ (w.drewN m) (by exact HT.out)).mono ?_; rintro e w' ⟨rfl, rfl⟩)
      go_roundg n
      case measure => omega
      case rel => exact ⟨k + 1, by omega, by omega, by omega, by go_num, HK', ⟨m, rfl⟩⟩
    · have HK' : Hid (nEnd s p = k) := by
        have := HK.out; simp only [nEndF, hcont, if_false] at this; exact this.symm
      have hx : (k < s.size ∧ (cls (bt s k) == 3) = false) ∨ (s.size ≤ k) := by
        by_cases h1 : k < s.size
        · left; refine ⟨h1, ?_⟩; rw [beq_eq_false_iff_ne]; intro h2; exact hcont ⟨h1, h2⟩
        · right; omega
      clear hcont
      rcases hx with ⟨hlt1, t0⟩ | hge
      · have e := bt_eq s k hlt1
        have hlti : (k : Int) < s.size := by omega
        rcases hL : ah s k ⟨#[76]⟩ with _ | _
        rotate_left
        · skip
          have hL0 : True := trivial
          by_cases hZ1 : 1 < k - p
          · have hZi : (1 : Int) < ((k - p : Nat) : Int) := by omega
            have hZp : 0 < k - p := by omega
            have hsz : 0 < (s.extract p k).size := by rw [extract_size _ _ _ hk]; omega
            have e0 := extract_first s p k hsz
            by_cases hZ2 : bt s p = 48
            · have hZb : ((bt s p : Int) == 48) = true := by rw [hZ2]; rfl
              have HR : Hid (mnumber s ⟨p, l, g, out, op⟩ = .error (p, 27)) := by show mnumber _ _ = _; unfold mnumber; simp only [HK'.out, hL, if_true, Bool.false_eq_true, if_false]; rw [if_pos (Or.inl ⟨hZ1, hZ2⟩)]
              clear hL0; try clear hN2; try clear hZ2
              go_wp2_with (first | (go_at_call 26; refine (ahead_any b s p l g vo vp k _ (w.drewN m) (by exact HB.out) hk).mono ?_; rintro e w' ⟨rfl, rfl⟩) | (go_at_call 52; refine (inWord_any _ (w.drewN m) (by exact HT.out)).mono ?_; rintro e w' ⟨rfl, rfl⟩) | (go_at_call 25; refine (class_any _ (w.drewN m) (by exact HT.out)).mono ?_; rintro e w' ⟨rfl, rfl⟩) | (go_at_call 18; refine (fail_any _ _ _).mono ?_; rintro e w' ⟨rfl, rfl⟩))
              refine ⟨rfl, ?_⟩
              rw [HR.out]
              exact ⟨rfl, (HS.out.drewN _).bel⟩
            · have hZb : ((bt s p : Int) == 48) = false := by rw [beq_eq_false_iff_ne]; omega
              by_cases hE : (k + 1) < s.size
              · have eE := bt_eq s (k + 1) hE
                have hEi : (((k + 1) : Nat) : Int) < s.size := by omega
                rcases hW : wordB (bt s (k + 1)) with _ | _
                · skip
                  by_cases hN : 19 < k - p
                  · have hN1 : (19 : Int) < ((k - p : Nat) : Int) := by omega
                    have HR : Hid (mnumber s ⟨p, l, g, out, op⟩ = .error (p, 25)) := by show mnumber _ _ = _; unfold mnumber; simp only [HK'.out, hL, if_true, Bool.false_eq_true, if_false]; rw [if_neg (by intro h; rcases h with h | h; exact (fun h => hZ2 h.2) h; rw [hW] at h; exact absurd h.2 (by decide)), if_pos (Or.inl hN)]
                    clear hL0; try clear hN2; try clear hZ2
                    go_wp2_with (first | (go_at_call 26; refine (ahead_any b s p l g vo vp k _ (w.drewN m) (by exact HB.out) hk).mono ?_; rintro e w' ⟨rfl, rfl⟩) | (go_at_call 52; refine (inWord_any _ (w.drewN m) (by exact HT.out)).mono ?_; rintro e w' ⟨rfl, rfl⟩) | (go_at_call 25; refine (class_any _ (w.drewN m) (by exact HT.out)).mono ?_; rintro e w' ⟨rfl, rfl⟩) | (go_at_call 18; refine (fail_any _ _ _).mono ?_; rintro e w' ⟨rfl, rfl⟩))
                    refine ⟨rfl, ?_⟩
                    rw [HR.out]
                    exact ⟨rfl, (HS.out.drewN _).bel⟩
                  · skip
                    have hN1 : ((k - p : Nat) : Int) ≤ 19 := by omega
                    by_cases hN2 : k - p = 19
                    · have hN3 : (((k - p : Nat) : Int) == 19) = true := by rw [beq_iff_eq]; omega
                      rcases hS : Op.bytesLess (s.extract p k).toList [57, 50, 50, 51, 51, 55, 50, 48, 51, 54, 56, 53, 52, 55, 55, 53, 56, 48, 55] with _ | _
                      · skip
                        rcases hQ : ((s.extract p k).toList == [57, 50, 50, 51, 51, 55, 50, 48, 51, 54, 56, 53, 52, 55, 55, 53, 56, 48, 55]) with _ | _
                        · skip
                          have HR : Hid (mnumber s ⟨p, l, g, out, op⟩ = .error (p, 25)) := by show mnumber _ _ = _; unfold mnumber; simp only [HK'.out, hL, if_true, Bool.false_eq_true, if_false]; rw [if_neg (by intro h; rcases h with h | h; exact (fun h => hZ2 h.2) h; rw [hW] at h; exact absurd h.2 (by decide)), if_pos (Or.inr ⟨hN2, hS, hQ⟩)]
                          clear hL0; try clear hN2; try clear hZ2
                          go_wp2_with (first | (go_at_call 26; refine (ahead_any b s p l g vo vp k _ (w.drewN m) (by exact HB.out) hk).mono ?_; rintro e w' ⟨rfl, rfl⟩) | (go_at_call 52; refine (inWord_any _ (w.drewN m) (by exact HT.out)).mono ?_; rintro e w' ⟨rfl, rfl⟩) | (go_at_call 25; refine (class_any _ (w.drewN m) (by exact HT.out)).mono ?_; rintro e w' ⟨rfl, rfl⟩) | (go_at_call 18; refine (fail_any _ _ _).mono ?_; rintro e w' ⟨rfl, rfl⟩))
                          refine ⟨rfl, ?_⟩
                          rw [HR.out]
                          exact ⟨rfl, (HS.out.drewN _).bel⟩
                        · skip
                          have HR : Hid (mnumber s ⟨p, l, g, out, op⟩ = .ok (St.put ⟨p, l, g, out, op⟩ 5 (s.extract p k) p (k + 1))) := by show mnumber _ _ = _; unfold mnumber; simp only [HK'.out, hL, if_true, Bool.false_eq_true, if_false]; rw [if_neg (by intro h; rcases h with h | h; exact (fun h => hZ2 h.2) h; rw [hW] at h; exact absurd h.2 (by decide)), if_neg (by intro h; rcases h with h | h; exact hN h; rw [hQ] at h; exact absurd h.2.2 (by decide))]
                          clear hL0; try clear hN2; try clear hZ2
                          go_wp2_with (first | (go_at_call 26; refine (ahead_any b s p l g vo vp k _ (w.drewN m) (by exact HB.out) hk).mono ?_; rintro e w' ⟨rfl, rfl⟩) | (go_at_call 52; refine (inWord_any _ (w.drewN m) (by exact HT.out)).mono ?_; rintro e w' ⟨rfl, rfl⟩) | (go_at_call 25; refine (class_any _ (w.drewN m) (by exact HT.out)).mono ?_; rintro e w' ⟨rfl, rfl⟩) | (go_at_call 18; refine (fail_any _ _ _).mono ?_; rintro e w' ⟨rfl, rfl⟩))
                          rw [show ((k : Nat) : Int) + 1 = ((k + 1 : Nat) : Int) from rfl]
                          refine (put_st b s w0 ⟨p, l, g, out, op⟩ 5 _ p (k + 1) _ (HS.out.drewN _) (by simp only; omega) (by omega) (by omega) (by simp only; omega)).mono ?_
                          rintro e2 w5 ⟨rfl, h5⟩
                          have H5 := Lib.hid h5
                          clear h5
                          go_wp2
                          first | go_end0 | refine bodyPost_ret (results_none rfl _ _ _) rfl ?_
                          rw [HR.out]
                          exact ⟨rfl, H5.out⟩
                      · skip
                        have HR : Hid (mnumber s ⟨p, l, g, out, op⟩ = .ok (St.put ⟨p, l, g, out, op⟩ 5 (s.extract p k) p (k + 1))) := by show mnumber _ _ = _; unfold mnumber; simp only [HK'.out, hL, if_true, Bool.false_eq_true, if_false]; rw [if_neg (by intro h; rcases h with h | h; exact (fun h => hZ2 h.2) h; rw [hW] at h; exact absurd h.2 (by decide)), if_neg (by intro h; rcases h with h | h; exact hN h; rw [hS] at h; exact absurd h.2.1 (by decide))]
                        clear hL0; try clear hN2; try clear hZ2
                        go_wp2_with (first | (go_at_call 26; refine (ahead_any b s p l g vo vp k _ (w.drewN m) (by exact HB.out) hk).mono ?_; rintro e w' ⟨rfl, rfl⟩) | (go_at_call 52; refine (inWord_any _ (w.drewN m) (by exact HT.out)).mono ?_; rintro e w' ⟨rfl, rfl⟩) | (go_at_call 25; refine (class_any _ (w.drewN m) (by exact HT.out)).mono ?_; rintro e w' ⟨rfl, rfl⟩) | (go_at_call 18; refine (fail_any _ _ _).mono ?_; rintro e w' ⟨rfl, rfl⟩))
                        rw [show ((k : Nat) : Int) + 1 = ((k + 1 : Nat) : Int) from rfl]
                        refine (put_st b s w0 ⟨p, l, g, out, op⟩ 5 _ p (k + 1) _ (HS.out.drewN _) (by simp only; omega) (by omega) (by omega) (by simp only; omega)).mono ?_
                        rintro e2 w5 ⟨rfl, h5⟩
                        have H5 := Lib.hid h5
                        clear h5
                        go_wp2
                        first | go_end0 | refine bodyPost_ret (results_none rfl _ _ _) rfl ?_
                        rw [HR.out]
                        exact ⟨rfl, H5.out⟩
                    · skip
                      have hN3 : (((k - p : Nat) : Int) == 19) = false := by rw [beq_eq_false_iff_ne]; omega
                      have HR : Hid (mnumber s ⟨p, l, g, out, op⟩ = .ok (St.put ⟨p, l, g, out, op⟩ 5 (s.extract p k) p (k + 1))) := by show mnumber _ _ = _; unfold mnumber; simp only [HK'.out, hL, if_true, Bool.false_eq_true, if_false]; rw [if_neg (by intro h; rcases h with h | h; exact (fun h => hZ2 h.2) h; rw [hW] at h; exact absurd h.2 (by decide)), if_neg (by intro h; rcases h with h | h; exact hN h; exact hN2 h.1)]
                      clear hL0; try clear hN2; try clear hZ2
                      go_wp2_with (first | (go_at_call 26; refine (ahead_any b s p l g vo vp k _ (w.drewN m) (by exact HB.out) hk).mono ?_; rintro e w' ⟨rfl, rfl⟩) | (go_at_call 52; refine (inWord_any _ (w.drewN m) (by exact HT.out)).mono ?_; rintro e w' ⟨rfl, rfl⟩) | (go_at_call 25; refine (class_any _ (w.drewN m) (by exact HT.out)).mono ?_; rintro e w' ⟨rfl, rfl⟩) | (go_at_call 18; refine (fail_any _ _ _).mono ?_; rintro e w' ⟨rfl, rfl⟩))
                      rw [show ((k : Nat) : Int) + 1 = ((k + 1 : Nat) : Int) from rfl]
                      refine (put_st b s w0 ⟨p, l, g, out, op⟩ 5 _ p (k + 1) _ (HS.out.drewN _) (by simp only; omega) (by omega) (by omega) (by simp only; omega)).mono ?_
                      rintro e2 w5 ⟨rfl, h5⟩
                      have H5 := Lib.hid h5
                      clear h5
                      go_wp2
                      first | go_end0 | refine bodyPost_ret (results_none rfl _ _ _) rfl ?_
                      rw [HR.out]
                      exact ⟨rfl, H5.out⟩
                · skip
                  have HR : Hid (mnumber s ⟨p, l, g, out, op⟩ = .error (p, 27)) := by show mnumber _ _ = _; unfold mnumber; simp only [HK'.out, hL, if_true, Bool.false_eq_true, if_false]; rw [if_pos (Or.inr ⟨hE, hW⟩)]
                  clear hL0; try clear hN2; try clear hZ2
                  go_wp2_with (first | (go_at_call 26; refine (ahead_any b s p l g vo vp k _ (w.drewN m) (by exact HB.out) hk).mono ?_; rintro e w' ⟨rfl, rfl⟩) | (go_at_call 52; refine (inWord_any _ (w.drewN m) (by exact HT.out)).mono ?_; rintro e w' ⟨rfl, rfl⟩) | (go_at_call 25; refine (class_any _ (w.drewN m) (by exact HT.out)).mono ?_; rintro e w' ⟨rfl, rfl⟩) | (go_at_call 18; refine (fail_any _ _ _).mono ?_; rintro e w' ⟨rfl, rfl⟩))
                  refine ⟨rfl, ?_⟩
                  rw [HR.out]
                  exact ⟨rfl, (HS.out.drewN _).bel⟩
              · skip
                have hEi : decide ((((k + 1) : Nat) : Int) < s.size) = false := by simp; omega
                by_cases hN : 19 < k - p
                · have hN1 : (19 : Int) < ((k - p : Nat) : Int) := by omega
                  have HR : Hid (mnumber s ⟨p, l, g, out, op⟩ = .error (p, 25)) := by show mnumber _ _ = _; unfold mnumber; simp only [HK'.out, hL, if_true, Bool.false_eq_true, if_false]; rw [if_neg (by intro h; rcases h with h | h; exact (fun h => hZ2 h.2) h; exact hE h.1), if_pos (Or.inl hN)]
                  clear hL0; try clear hN2; try clear hZ2
                  go_wp2_with (first | (go_at_call 26; refine (ahead_any b s p l g vo vp k _ (w.drewN m) (by exact HB.out) hk).mono ?_; rintro e w' ⟨rfl, rfl⟩) | (go_at_call 52; refine (inWord_any _ (w.drewN m) (by exact HT.out)).mono ?_; rintro e w' ⟨rfl, rfl⟩) | (go_at_call 25; refine (class_any _ (w.drewN m) (by exact HT.out)).mono ?_; rintro e w' ⟨rfl, rfl⟩) | (go_at_call 18; refine (fail_any _ _ _).mono ?_; rintro e w' ⟨rfl, rfl⟩))
                  refine ⟨rfl, ?_⟩
                  rw [HR.out]
                  exact ⟨rfl, (HS.out.drewN _).bel⟩
                · skip
                  have hN1 : ((k - p : Nat) : Int) ≤ 19 := by omega
                  by_cases hN2 : k - p = 19
                  · have hN3 : (((k - p : Nat) : Int) == 19) = true := by rw [beq_iff_eq]; omega
                    rcases hS : Op.bytesLess (s.extract p k).toList [57, 50, 50, 51, 51, 55, 50, 48, 51, 54, 56, 53, 52, 55, 55, 53, 56, 48, 55] with _ | _
                    · skip
                      rcases hQ : ((s.extract p k).toList == [57, 50, 50, 51, 51, 55, 50, 48, 51, 54, 56, 53, 52, 55, 55, 53, 56, 48, 55]) with _ | _
                      · skip
                        have HR : Hid (mnumber s ⟨p, l, g, out, op⟩ = .error (p, 25)) := by show mnumber _ _ = _; unfold mnumber; simp only [HK'.out, hL, if_true, Bool.false_eq_true, if_false]; rw [if_neg (by intro h; rcases h with h | h; exact (fun h => hZ2 h.2) h; exact hE h.1), if_pos (Or.inr ⟨hN2, hS, hQ⟩)]
                        clear hL0; try clear hN2; try clear hZ2
                        go_wp2_with (first | (go_at_call 26; refine (ahead_any b s p l g vo vp k _ (w.drewN m) (by exact HB.out) hk).mono ?_; rintro e w' ⟨rfl, rfl⟩) | (go_at_call 52; refine (inWord_any _ (w.drewN m) (by exact HT.out)).mono ?_; rintro e w' ⟨rfl, rfl⟩) | (go_at_call 25; refine (class_any _ (w.drewN m) (by exact HT.out)).mono ?_; rintro e w' ⟨rfl, rfl⟩) | (go_at_call 18; refine (fail_any _ _ _).mono ?_; rintro e w' ⟨rfl, rfl⟩))
                        refine ⟨rfl, ?_⟩
                        rw [HR.out]
                        exact ⟨rfl, (HS.out.drewN _).bel⟩
                      · skip
                        have HR : Hid (mnumber s ⟨p, l, g, out, op⟩ = .ok (St.put ⟨p, l, g, out, op⟩ 5 (s.extract p k) p (k + 1))) := by show mnumber _ _ = _; unfold mnumber; simp only [HK'.out, hL, if_true, Bool.false_eq_true, if_false]; rw [if_neg (by intro h; rcases h with h | h; exact (fun h => hZ2 h.2) h; exact hE h.1), if_neg (by intro h; rcases h with h | h; exact hN h; rw [hQ] at h; exact absurd h.2.2 (by decide))]
                        clear hL0; try clear hN2; try clear hZ2
                        go_wp2_with (first | (go_at_call 26; refine (ahead_any b s p l g vo vp k _ (w.drewN m) (by exact HB.out) hk).mono ?_; rintro e w' ⟨rfl, rfl⟩) | (go_at_call 52; refine (inWord_any _ (w.drewN m) (by exact HT.out)).mono ?_; rintro e w' ⟨rfl, rfl⟩) | (go_at_call 25; refine (class_any _ (w.drewN m) (by exact HT.out)).mono ?_; rintro e w' ⟨rfl, rfl⟩) | (go_at_call 18; refine (fail_any _ _ _).mono ?_; rintro e w' ⟨rfl, rfl⟩))
                        rw [show ((k : Nat) : Int) + 1 = ((k + 1 : Nat) : Int) from rfl]
                        refine (put_st b s w0 ⟨p, l, g, out, op⟩ 5 _ p (k + 1) _ (HS.out.drewN _) (by simp only; omega) (by omega) (by omega) (by simp only; omega)).mono ?_
                        rintro e2 w5 ⟨rfl, h5⟩
                        have H5 := Lib.hid h5
                        clear h5
                        go_wp2
                        first | go_end0 | refine bodyPost_ret (results_none rfl _ _ _) rfl ?_
                        rw [HR.out]
                        exact ⟨rfl, H5.out⟩
                    · skip
                      have HR : Hid (mnumber s ⟨p, l, g, out, op⟩ = .ok (St.put ⟨p, l, g, out, op⟩ 5 (s.extract p k) p (k + 1))) := by show mnumber _ _ = _; unfold mnumber; simp only [HK'.out, hL, if_true, Bool.false_eq_true, if_false]; rw [if_neg (by intro h; rcases h with h | h; exact (fun h => hZ2 h.2) h; exact hE h.1), if_neg (by intro h; rcases h with h | h; exact hN h; rw [hS] at h; exact absurd h.2.1 (by decide))]
                      clear hL0; try clear hN2; try clear hZ2
                      go_wp2_with (first | (go_at_call 26; refine (ahead_any b s p l g vo vp k _ (w.drewN m) (by exact HB.out) hk).mono ?_; rintro e w' ⟨rfl, rfl⟩) | (go_at_call 52; refine (inWord_any _ (w.drewN m) (by exact HT.out)).mono ?_; rintro e w' ⟨rfl, rfl⟩) | (go_at_call 25; refine (class_any _ (w.drewN m) (by exact HT.out)).mono ?_; rintro e w' ⟨rfl, rfl⟩) | (go_at_call 18; refine (fail_any _ _ _).mono ?_; rintro e w' ⟨rfl, rfl⟩))
                      rw [show ((k : Nat) : Int) + 1 = ((k + 1 : Nat) : Int) from rfl]
                      refine (put_st b s w0 ⟨p, l, g, out, op⟩ 5 _ p (k + 1) _ (HS.out.drewN _) (by simp only; omega) (by omega) (by omega) (by simp only; omega)).mono ?_
                      rintro e2 w5 ⟨rfl, h5⟩
                      have H5 := Lib.hid h5
                      clear h5
                      go_wp2
                      first | go_end0 | refine bodyPost_ret (results_none rfl _ _ _) rfl ?_
                      rw [HR.out]
                      exact ⟨rfl, H5.out⟩
                  · skip
                    have hN3 : (((k - p : Nat) : Int) == 19) = false := by rw [beq_eq_false_iff_ne]; omega
                    have HR : Hid (mnumber s ⟨p, l, g, out, op⟩ = .ok (St.put ⟨p, l, g, out, op⟩ 5 (s.extract p k) p (k + 1))) := by show mnumber _ _ = _; unfold mnumber; simp only [HK'.out, hL, if_true, Bool.false_eq_true, if_false]; rw [if_neg (by intro h; rcases h with h | h; exact (fun h => hZ2 h.2) h; exact hE h.1), if_neg (by intro h; rcases h with h | h; exact hN h; exact hN2 h.1)]
                    clear hL0; try clear hN2; try clear hZ2
                    go_wp2_with (first | (go_at_call 26; refine (ahead_any b s p l g vo vp k _ (w.drewN m) (by exact HB.out) hk).mono ?_; rintro e w' ⟨rfl, rfl⟩) | (go_at_call 52; refine (inWord_any _ (w.drewN m) (by exact HT.out)).mono ?_; rintro e w' ⟨rfl, rfl⟩) | (go_at_call 25; refine (class_any _ (w.drewN m) (by exact HT.out)).mono ?_; rintro e w' ⟨rfl, rfl⟩) | (go_at_call 18; refine (fail_any _ _ _).mono ?_; rintro e w' ⟨rfl, rfl⟩))
                    rw [show ((k : Nat) : Int) + 1 = ((k + 1 : Nat) : Int) from rfl]
                    refine (put_st b s w0 ⟨p, l, g, out, op⟩ 5 _ p (k + 1) _ (HS.out.drewN _) (by simp only; omega) (by omega) (by omega) (by simp only; omega)).mono ?_
                    rintro e2 w5 ⟨rfl, h5⟩
                    have H5 := Lib.hid h5
                    clear h5
                    go_wp2
                    first | go_end0 | refine bodyPost_ret (results_none rfl _ _ _) rfl ?_
                    rw [HR.out]
                    exact ⟨rfl, H5.out⟩
          · have hZi : ((k - p : Nat) : Int) ≤ 1 := by omega
            by_cases hE : (k + 1) < s.size
            · have eE := bt_eq s (k + 1) hE
              have hEi : (((k + 1) : Nat) : Int) < s.size := by omega
              rcases hW : wordB (bt s (k + 1)) with _ | _
              · skip
                have hN : ¬ 19 < k - p := by omega
                have hN2 : ¬ k - p = 19 := by omega
                have hN1 : ((k - p : Nat) : Int) ≤ 19 := by omega
                have hN3 : (((k - p : Nat) : Int) == 19) = false := by rw [beq_eq_false_iff_ne]; omega
                have HR : Hid (mnumber s ⟨p, l, g, out, op⟩ = .ok (St.put ⟨p, l, g, out, op⟩ 5 (s.extract p k) p (k + 1))) := by show mnumber _ _ = _; unfold mnumber; simp only [HK'.out, hL, if_true, Bool.false_eq_true, if_false]; rw [if_neg (by intro h; rcases h with h | h; exact (fun h => hZ1 h.1) h; rw [hW] at h; exact absurd h.2 (by decide)), if_neg (by intro h; rcases h with h | h; exact hN h; exact hN2 h.1)]
                clear hL0; try clear hN2; try clear hZ2
                go_wp2_with (first | (go_at_call 26; refine (ahead_any b s p l g vo vp k _ (w.drewN m) (by exact HB.out) hk).mono ?_; rintro e w' ⟨rfl, rfl⟩) | (go_at_call 52; refine (inWord_any _ (w.drewN m) (by exact HT.out)).mono ?_; rintro e w' ⟨rfl, rfl⟩) | (go_at_call 25; refine (class_any _ (w.drewN m) (by exact HT.out)).mono ?_; rintro e w' ⟨rfl, rfl⟩) | (go_at_call 18; refine (fail_any _ _ _).mono ?_; rintro e w' ⟨rfl, rfl⟩))
                rw [show ((k : Nat) : Int) + 1 = ((k + 1 : Nat) : Int) from rfl]
                refine (put_st b s w0 ⟨p, l, g, out, op⟩ 5 _ p (k + 1) _ (HS.out.drewN _) (by simp only; omega) (by omega) (by omega) (by simp only; omega)).mono ?_
                rintro e2 w5 ⟨rfl, h5⟩
                have H5 := Lib.hid h5
                clear h5
                go_wp2
                first | go_end0 | refine bodyPost_ret (results_none rfl _ _ _) rfl ?_
                rw [HR.out]
                exact ⟨rfl, H5.out⟩
              · skip
                have HR : Hid (mnumber s ⟨p, l, g, out, op⟩ = .error (p, 27)) := by show mnumber _ _ = _; unfold mnumber; simp only [HK'.out, hL, if_true, Bool.false_eq_true, if_false]; rw [if_pos (Or.inr ⟨hE, hW⟩)]
                clear hL0; try clear hN2; try clear hZ2
                go_wp2_with (first | (go_at_call 26; refine (ahead_any b s p l g vo vp k _ (w.drewN m) (by exact HB.out) hk).mono ?_; rintro e w' ⟨rfl, rfl⟩) | (go_at_call 52; refine (inWord_any _ (w.drewN m) (by exact HT.out)).mono ?_; rintro e w' ⟨rfl, rfl⟩) | (go_at_call 25; refine (class_any _ (w.drewN m) (by exact HT.out)).mono ?_; rintro e w' ⟨rfl, rfl⟩) | (go_at_call 18; refine (fail_any _ _ _).mono ?_; rintro e w' ⟨rfl, rfl⟩))
                refine ⟨rfl, ?_⟩
                rw [HR.out]
                exact ⟨rfl, (HS.out.drewN _).bel⟩
            · skip
              have hEi : decide ((((k + 1) : Nat) : Int) < s.size) = false := by simp; omega
              have hN : ¬ 19 < k - p := by omega
              have hN2 : ¬ k - p = 19 := by omega
              have hN1 : ((k - p : Nat) : Int) ≤ 19 := by omega
              have hN3 : (((k - p : Nat) : Int) == 19) = false := by rw [beq_eq_false_iff_ne]; omega
              have HR : Hid (mnumber s ⟨p, l, g, out, op⟩ = .ok (St.put ⟨p, l, g, out, op⟩ 5 (s.extract p k) p (k + 1))) := by show mnumber _ _ = _; unfold mnumber; simp only [HK'.out, hL, if_true, Bool.false_eq_true, if_false]; rw [if_neg (by intro h; rcases h with h | h; exact (fun h => hZ1 h.1) h; exact hE h.1), if_neg (by intro h; rcases h with h | h; exact hN h; exact hN2 h.1)]
              clear hL0; try clear hN2; try clear hZ2
              go_wp2_with (first | (go_at_call 26; refine (ahead_any b s p l g vo vp k _ (w.drewN m) (by exact HB.out) hk).mono ?_; rintro e w' ⟨rfl, rfl⟩) | (go_at_call 52; refine (inWord_any _ (w.drewN m) (by exact HT.out)).mono ?_; rintro e w' ⟨rfl, rfl⟩) | (go_at_call 25; refine (class_any _ (w.drewN m) (by exact HT.out)).mono ?_; rintro e w' ⟨rfl, rfl⟩) | (go_at_call 18; refine (fail_any _ _ _).mono ?_; rintro e w' ⟨rfl, rfl⟩))
              rw [show ((k : Nat) : Int) + 1 = ((k + 1 : Nat) : Int) from rfl]
              refine (put_st b s w0 ⟨p, l, g, out, op⟩ 5 _ p (k + 1) _ (HS.out.drewN _) (by simp only; omega) (by omega) (by omega) (by simp only; omega)).mono ?_
              rintro e2 w5 ⟨rfl, h5⟩
              have H5 := Lib.hid h5
              clear h5
              go_wp2
              first | go_end0 | refine bodyPost_ret (results_none rfl _ _ _) rfl ?_
              rw [HR.out]
              exact ⟨rfl, H5.out⟩
        · skip
          have hL0 : True := trivial
          by_cases hZ1 : 1 < k - p
          · have hZi : (1 : Int) < ((k - p : Nat) : Int) := by omega
            have hZp : 0 < k - p := by omega
            have hsz : 0 < (s.extract p k).size := by rw [extract_size _ _ _ hk]; omega
            have e0 := extract_first s p k hsz
            by_cases hZ2 : bt s p = 48
            · have hZb : ((bt s p : Int) == 48) = true := by rw [hZ2]; rfl
              have HR : Hid (mnumber s ⟨p, l, g, out, op⟩ = .error (p, 27)) := by show mnumber _ _ = _; unfold mnumber; simp only [HK'.out, hL, if_true, Bool.false_eq_true, if_false]; rw [if_pos (Or.inl ⟨hZ1, hZ2⟩)]
              clear hL0; try clear hN2; try clear hZ2
              go_wp2_with (first | (go_at_call 26; refine (ahead_any b s p l g vo vp k _ (w.drewN m) (by exact HB.out) hk).mono ?_; rintro e w' ⟨rfl, rfl⟩) | (go_at_call 52; refine (inWord_any _ (w.drewN m) (by exact HT.out)).mono ?_; rintro e w' ⟨rfl, rfl⟩) | (go_at_call 25; refine (class_any _ (w.drewN m) (by exact HT.out)).mono ?_; rintro e w' ⟨rfl, rfl⟩) | (go_at_call 18; refine (fail_any _ _ _).mono ?_; rintro e w' ⟨rfl, rfl⟩))
              refine ⟨rfl, ?_⟩
              rw [HR.out]
              exact ⟨rfl, (HS.out.drewN _).bel⟩
            · have hZb : ((bt s p : Int) == 48) = false := by rw [beq_eq_false_iff_ne]; omega
              by_cases hE : k < s.size
              · have eE := bt_eq s k hE
                have hEi : ((k : Nat) : Int) < s.size := by omega
                rcases hW : wordB (bt s k) with _ | _
                · skip
                  by_cases hN : 10 < k - p
                  · have hN1 : (10 : Int) < ((k - p : Nat) : Int) := by omega
                    have HR : Hid (mnumber s ⟨p, l, g, out, op⟩ = .error (p, 25)) := by show mnumber _ _ = _; unfold mnumber; simp only [HK'.out, hL, if_true, Bool.false_eq_true, if_false]; rw [if_neg (by intro h; rcases h with h | h; exact (fun h => hZ2 h.2) h; rw [hW] at h; exact absurd h.2 (by decide)), if_pos (Or.inl hN)]
                    clear hL0; try clear hN2; try clear hZ2
                    go_wp2_with (first | (go_at_call 26; refine (ahead_any b s p l g vo vp k _ (w.drewN m) (by exact HB.out) hk).mono ?_; rintro e w' ⟨rfl, rfl⟩) | (go_at_call 52; refine (inWord_any _ (w.drewN m) (by exact HT.out)).mono ?_; rintro e w' ⟨rfl, rfl⟩) | (go_at_call 25; refine (class_any _ (w.drewN m) (by exact HT.out)).mono ?_; rintro e w' ⟨rfl, rfl⟩) | (go_at_call 18; refine (fail_any _ _ _).mono ?_; rintro e w' ⟨rfl, rfl⟩))
                    refine ⟨rfl, ?_⟩
                    rw [HR.out]
                    exact ⟨rfl, (HS.out.drewN _).bel⟩
                  · skip
                    have hN1 : ((k - p : Nat) : Int) ≤ 10 := by omega
                    by_cases hN2 : k - p = 10
                    · have hN3 : (((k - p : Nat) : Int) == 10) = true := by rw [beq_iff_eq]; omega
                      rcases hS : Op.bytesLess (s.extract p k).toList [50, 49, 52, 55, 52, 56, 51, 54, 52, 55] with _ | _
                      · skip
                        rcases hQ : ((s.extract p k).toList == [50, 49, 52, 55, 52, 56, 51, 54, 52, 55]) with _ | _
                        · skip
                          have HR : Hid (mnumber s ⟨p, l, g, out, op⟩ = .error (p, 25)) := by show mnumber _ _ = _; unfold mnumber; simp only [HK'.out, hL, if_true, Bool.false_eq_true, if_false]; rw [if_neg (by intro h; rcases h with h | h; exact (fun h => hZ2 h.2) h; rw [hW] at h; exact absurd h.2 (by decide)), if_pos (Or.inr ⟨hN2, hS, hQ⟩)]
                          clear hL0; try clear hN2; try clear hZ2
                          go_wp2_with (first | (go_at_call 26; refine (ahead_any b s p l g vo vp k _ (w.drewN m) (by exact HB.out) hk).mono ?_; rintro e w' ⟨rfl, rfl⟩) | (go_at_call 52; refine (inWord_any _ (w.drewN m) (by exact HT.out)).mono ?_; rintro e w' ⟨rfl, rfl⟩) | (go_at_call 25; refine (class_any _ (w.drewN m) (by exact HT.out)).mono ?_; rintro e w' ⟨rfl, rfl⟩) | (go_at_call 18; refine (fail_any _ _ _).mono ?_; rintro e w' ⟨rfl, rfl⟩))
                          refine ⟨rfl, ?_⟩
                          rw [HR.out]
                          exact ⟨rfl, (HS.out.drewN _).bel⟩
                        · skip
                          have HR : Hid (mnumber s ⟨p, l, g, out, op⟩ = .ok (St.put ⟨p, l, g, out, op⟩ 4 (s.extract p k) p k)) := by show mnumber _ _ = _; unfold mnumber; simp only [HK'.out, hL, if_true, Bool.false_eq_true, if_false]; rw [if_neg (by intro h; rcases h with h | h; exact (fun h => hZ2 h.2) h; rw [hW] at h; exact absurd h.2 (by decide)), if_neg (by intro h; rcases h with h | h; exact hN h; rw [hQ] at h; exact absurd h.2.2 (by decide))]
                          clear hL0; try clear hN2; try clear hZ2
                          go_wp2_with (first | (go_at_call 26; refine (ahead_any b s p l g vo vp k _ (w.drewN m) (by exact HB.out) hk).mono ?_; rintro e w' ⟨rfl, rfl⟩) | (go_at_call 52; refine (inWord_any _ (w.drewN m) (by exact HT.out)).mono ?_; rintro e w' ⟨rfl, rfl⟩) | (go_at_call 25; refine (class_any _ (w.drewN m) (by exact HT.out)).mono ?_; rintro e w' ⟨rfl, rfl⟩) | (go_at_call 18; refine (fail_any _ _ _).mono ?_; rintro e w' ⟨rfl, rfl⟩))
                          refine (put_st b s w0 ⟨p, l, g, out, op⟩ 4 _ p k _ (HS.out.drewN _) (by simp only; omega) (by omega) (by omega) (by simp only; omega)).mono ?_
                          rintro e2 w5 ⟨rfl, h5⟩
                          have H5 := Lib.hid h5
                          clear h5
                          go_wp2
                          first | go_end0 | refine bodyPost_ret (results_none rfl _ _ _) rfl ?_
                          rw [HR.out]
                          exact ⟨rfl, H5.out⟩
                      · skip
                        have HR : Hid (mnumber s ⟨p, l, g, out, op⟩ = .ok (St.put ⟨p, l, g, out, op⟩ 4 (s.extract p k) p k)) := by show mnumber _ _ = _; unfold mnumber; simp only [HK'.out, hL, if_true, Bool.false_eq_true, if_false]; rw [if_neg (by intro h; rcases h with h | h; exact (fun h => hZ2 h.2) h; rw [hW] at h; exact absurd h.2 (by decide)), if_neg (by intro h; rcases h with h | h; exact hN h; rw [hS] at h; exact absurd h.2.1 (by decide))]
                        clear hL0; try clear hN2; try clear hZ2
                        go_wp2_with (first | (go_at_call 26; refine (ahead_any b s p l g vo vp k _ (w.drewN m) (by exact HB.out) hk).mono ?_; rintro e w' ⟨rfl, rfl⟩) | (go_at_call 52; refine (inWord_any _ (w.drewN m) (by exact HT.out)).mono ?_; rintro e w' ⟨rfl, rfl⟩) | (go_at_call 25; refine (class_any _ (w.drewN m) (by exact HT.out)).mono ?_; rintro e w' ⟨rfl, rfl⟩) | (go_at_call 18; refine (fail_any _ _ _).mono ?_; rintro e w' ⟨rfl, rfl⟩))
                        refine (put_st b s w0 ⟨p, l, g, out, op⟩ 4 _ p k _ (HS.out.drewN _) (by simp only; omega) (by omega) (by omega) (by simp only; omega)).mono ?_
                        rintro e2 w5 ⟨rfl, h5⟩
                        have H5 := Lib.hid h5
                        clear h5
                        go_wp2
                        first | go_end0 | refine bodyPost_ret (results_none rfl _ _ _) rfl ?_
                        rw [HR.out]
                        exact ⟨rfl, H5.out⟩
                    · skip
                      have hN3 : (((k - p : Nat) : Int) == 10) = false := by rw [beq_eq_false_iff_ne]; omega
                      have HR : Hid (mnumber s ⟨p, l, g, out, op⟩ = .ok (St.put ⟨p, l, g, out, op⟩ 4 (s.extract p k) p k)) := by show mnumber _ _ = _; unfold mnumber; simp only [HK'.out, hL, if_true, Bool.false_eq_true, if_false]; rw [if_neg (by intro h; rcases h with h | h; exact (fun h => hZ2 h.2) h; rw [hW] at h; exact absurd h.2 (by decide)), if_neg (by intro h; rcases h with h | h; exact hN h; exact hN2 h.1)]
                      clear hL0; try clear hN2; try clear hZ2
                      go_wp2_with (first | (go_at_call 26; refine (ahead_any b s p l g vo vp k _ (w.drewN m) (by exact HB.out) hk).mono ?_; rintro e w' ⟨rfl, rfl⟩) | (go_at_call 52; refine (inWord_any _ (w.drewN m) (by exact HT.out)).mono ?_; rintro e w' ⟨rfl, rfl⟩) | (go_at_call 25; refine (class_any _ (w.drewN m) (by exact HT.out)).mono ?_; rintro e w' ⟨rfl, rfl⟩) | (go_at_call 18; refine (fail_any _ _ _).mono ?_; rintro e w' ⟨rfl, rfl⟩))
                      refine (put_st b s w0 ⟨p, l, g, out, op⟩ 4 _ p k _ (HS.out.drewN _) (by simp only; omega) (by omega) (by omega) (by simp only; omega)).mono ?_
                      rintro e2 w5 ⟨rfl, h5⟩
                      have H5 := Lib.hid h5
                      clear h5
                      go_wp2
                      first | go_end0 | refine bodyPost_ret (results_none rfl _ _ _) rfl ?_
                      rw [HR.out]
                      exact ⟨rfl, H5.out⟩
                · skip
                  have HR : Hid (mnumber s ⟨p, l, g, out, op⟩ = .error (p, 27)) := by show mnumber _ _ = _; unfold mnumber; simp only [HK'.out, hL, if_true, Bool.false_eq_true, if_false]; rw [if_pos (Or.inr ⟨hE, hW⟩)]
                  clear hL0; try clear hN2; try clear hZ2
                  go_wp2_with (first | (go_at_call 26; refine (ahead_any b s p l g vo vp k _ (w.drewN m) (by exact HB.out) hk).mono ?_; rintro e w' ⟨rfl, rfl⟩) | (go_at_call 52; refine (inWord_any _ (w.drewN m) (by exact HT.out)).mono ?_; rintro e w' ⟨rfl, rfl⟩) | (go_at_call 25; refine (class_any _ (w.drewN m) (by exact HT.out)).mono ?_; rintro e w' ⟨rfl, rfl⟩) | (go_at_call 18; refine (fail_any _ _ _).mono ?_; rintro e w' ⟨rfl, rfl⟩))
                  refine ⟨rfl, ?_⟩
                  rw [HR.out]
                  exact ⟨rfl, (HS.out.drewN _).bel⟩
              · exact absurd hlt1 hE
          · have hZi : ((k - p : Nat) : Int) ≤ 1 := by omega
            by_cases hE : k < s.size
            · have eE := bt_eq s k hE
              have hEi : ((k : Nat) : Int) < s.size := by omega
              rcases hW : wordB (bt s k) with _ | _
              · skip
                have hN : ¬ 10 < k - p := by omega
                have hN2 : ¬ k - p = 10 := by omega
                have hN1 : ((k - p : Nat) : Int) ≤ 10 := by omega
                have hN3 : (((k - p : Nat) : Int) == 10) = false := by rw [beq_eq_false_iff_ne]; omega
                have HR : Hid (mnumber s ⟨p, l, g, out, op⟩ = .ok (St.put ⟨p, l, g, out, op⟩ 4 (s.extract p k) p k)) := by show mnumber _ _ = _; unfold mnumber; simp only [HK'.out, hL, if_true, Bool.false_eq_true, if_false]; rw [if_neg (by intro h; rcases h with h | h; exact (fun h => hZ1 h.1) h; rw [hW] at h; exact absurd h.2 (by decide)), if_neg (by intro h; rcases h with h | h; exact hN h; exact hN2 h.1)]
                clear hL0; try clear hN2; try clear hZ2
                go_wp2_with (first | (go_at_call 26; refine (ahead_any b s p l g vo vp k _ (w.drewN m) (by exact HB.out) hk).mono ?_; rintro e w' ⟨rfl, rfl⟩) | (go_at_call 52; refine (inWord_any _ (w.drewN m) (by exact HT.out)).mono ?_; rintro e w' ⟨rfl, rfl⟩) | (go_at_call 25; refine (class_any _ (w.drewN m) (by exact HT.out)).mono ?_; rintro e w' ⟨rfl, rfl⟩) | (go_at_call 18; refine (fail_any _ _ _).mono ?_; rintro e w' ⟨rfl, rfl⟩))
                refine (put_st b s w0 ⟨p, l, g, out, op⟩ 4 _ p k _ (HS.out.drewN _) (by simp only; omega) (by omega) (by omega) (by simp only; omega)).mono ?_
                rintro e2 w5 ⟨rfl, h5⟩
                have H5 := Lib.hid h5
                clear h5
                go_wp2
                first | go_end0 | refine bodyPost_ret (results_none rfl _ _ _) rfl ?_
                rw [HR.out]
                exact ⟨rfl, H5.out⟩
              · skip
                have HR : Hid (mnumber s ⟨p, l, g, out, op⟩ = .error (p, 27)) := by show mnumber _ _ = _; unfold mnumber; simp only [HK'.out, hL, if_true, Bool.false_eq_true, if_false]; rw [if_pos (Or.inr ⟨hE, hW⟩)]
                clear hL0; try clear hN2; try clear hZ2
                go_wp2_with (first | (go_at_call 26; refine (ahead_any b s p l g vo vp k _ (w.drewN m) (by exact HB.out) hk).mono ?_; rintro e w' ⟨rfl, rfl⟩) | (go_at_call 52; refine (inWord_any _ (w.drewN m) (by exact HT.out)).mono ?_; rintro e w' ⟨rfl, rfl⟩) | (go_at_call 25; refine (class_any _ (w.drewN m) (by exact HT.out)).mono ?_; rintro e w' ⟨rfl, rfl⟩) | (go_at_call 18; refine (fail_any _ _ _).mono ?_; rintro e w' ⟨rfl, rfl⟩))
                refine ⟨rfl, ?_⟩
                rw [HR.out]
                exact ⟨rfl, (HS.out.drewN _).bel⟩
            · exact absurd hlt1 hE
      · have hL : ah s k ⟨#[76]⟩ = false := by
          rcases h : ah s k ⟨#[76]⟩ with _ | _
          · rfl
          · have h1 : 1 ≤ s.size - k := ah_le s k _ h
            omega
        have hgei : decide ((k : Int) < s.size) = false := by simp; omega
        have hL0 : True := trivial
        by_cases hZ1 : 1 < k - p
        · have hZi : (1 : Int) < ((k - p : Nat) : Int) := by omega
          have hZp : 0 < k - p := by omega
          have hsz : 0 < (s.extract p k).size := by rw [extract_size _ _ _ hk]; omega
          have e0 := extract_first s p k hsz
          by_cases hZ2 : bt s p = 48
          · have hZb : ((bt s p : Int) == 48) = true := by rw [hZ2]; rfl
            have HR : Hid (mnumber s ⟨p, l, g, out, op⟩ = .error (p, 27)) := by show mnumber _ _ = _; unfold mnumber; simp only [HK'.out, hL, if_true, Bool.false_eq_true, if_false]; rw [if_pos (Or.inl ⟨hZ1, hZ2⟩)]
            clear hL0; try clear hN2; try clear hZ2
            go_wp2_with (first | (go_at_call 26; refine (ahead_any b s p l g vo vp k _ (w.drewN m) (by exact HB.out) hk).mono ?_; rintro e w' ⟨rfl, rfl⟩) | (go_at_call 52; refine (inWord_any _ (w.drewN m) (by exact HT.out)).mono ?_; rintro e w' ⟨rfl, rfl⟩) | (go_at_call 25; refine (class_any _ (w.drewN m) (by exact HT.out)).mono ?_; rintro e w' ⟨rfl, rfl⟩) | (go_at_call 18; refine (fail_any _ _ _).mono ?_; rintro e w' ⟨rfl, rfl⟩))
            refine ⟨rfl, ?_⟩
            rw [HR.out]
            exact ⟨rfl, (HS.out.drewN _).bel⟩
          · have hZb : ((bt s p : Int) == 48) = false := by rw [beq_eq_false_iff_ne]; omega
            by_cases hN : 10 < k - p
            · have hN1 : (10 : Int) < ((k - p : Nat) : Int) := by omega
              have HR : Hid (mnumber s ⟨p, l, g, out, op⟩ = .error (p, 25)) := by show mnumber _ _ = _; unfold mnumber; simp only [HK'.out, hL, if_true, Bool.false_eq_true, if_false]; rw [if_neg (by intro h; rcases h with h | h; exact hZ2 h.2; omega), if_pos (Or.inl hN)]
              clear hL0; try clear hN2; try clear hZ2
              go_wp2_with (first | (go_at_call 26; refine (ahead_any b s p l g vo vp k _ (w.drewN m) (by exact HB.out) hk).mono ?_; rintro e w' ⟨rfl, rfl⟩) | (go_at_call 52; refine (inWord_any _ (w.drewN m) (by exact HT.out)).mono ?_; rintro e w' ⟨rfl, rfl⟩) | (go_at_call 25; refine (class_any _ (w.drewN m) (by exact HT.out)).mono ?_; rintro e w' ⟨rfl, rfl⟩) | (go_at_call 18; refine (fail_any _ _ _).mono ?_; rintro e w' ⟨rfl, rfl⟩))
              refine ⟨rfl, ?_⟩
              rw [HR.out]
              exact ⟨rfl, (HS.out.drewN _).bel⟩
            · skip
              have hN1 : ((k - p : Nat) : Int) ≤ 10 := by omega
              by_cases hN2 : k - p = 10
              · have hN3 : (((k - p : Nat) : Int) == 10) = true := by rw [beq_iff_eq]; omega
                rcases hS : Op.bytesLess (s.extract p k).toList [50, 49, 52, 55, 52, 56, 51, 54, 52, 55] with _ | _
                · skip
                  rcases hQ : ((s.extract p k).toList == [50, 49, 52, 55, 52, 56, 51, 54, 52, 55]) with _ | _
                  · skip
                    have HR : Hid (mnumber s ⟨p, l, g, out, op⟩ = .error (p, 25)) := by show mnumber _ _ = _; unfold mnumber; simp only [HK'.out, hL, if_true, Bool.false_eq_true, if_false]; rw [if_neg (by intro h; rcases h with h | h; exact hZ2 h.2; omega), if_pos (Or.inr ⟨hN2, hS, hQ⟩)]
                    clear hL0; try clear hN2; try clear hZ2
                    go_wp2_with (first | (go_at_call 26; refine (ahead_any b s p l g vo vp k _ (w.drewN m) (by exact HB.out) hk).mono ?_; rintro e w' ⟨rfl, rfl⟩) | (go_at_call 52; refine (inWord_any _ (w.drewN m) (by exact HT.out)).mono ?_; rintro e w' ⟨rfl, rfl⟩) | (go_at_call 25; refine (class_any _ (w.drewN m) (by exact HT.out)).mono ?_; rintro e w' ⟨rfl, rfl⟩) | (go_at_call 18; refine (fail_any _ _ _).mono ?_; rintro e w' ⟨rfl, rfl⟩))
                    refine ⟨rfl, ?_⟩
                    rw [HR.out]
                    exact ⟨rfl, (HS.out.drewN _).bel⟩
                  · skip
                    have HR : Hid (mnumber s ⟨p, l, g, out, op⟩ = .ok (St.put ⟨p, l, g, out, op⟩ 4 (s.extract p k) p k)) := by show mnumber _ _ = _; unfold mnumber; simp only [HK'.out, hL, if_true, Bool.false_eq_true, if_false]; rw [if_neg (by intro h; rcases h with h | h; exact hZ2 h.2; omega), if_neg (by intro h; rcases h with h | h; exact hN h; rw [hQ] at h; exact absurd h.2.2 (by decide))]
                    clear hL0; try clear hN2; try clear hZ2
                    go_wp2_with (first | (go_at_call 26; refine (ahead_any b s p l g vo vp k _ (w.drewN m) (by exact HB.out) hk).mono ?_; rintro e w' ⟨rfl, rfl⟩) | (go_at_call 52; refine (inWord_any _ (w.drewN m) (by exact HT.out)).mono ?_; rintro e w' ⟨rfl, rfl⟩) | (go_at_call 25; refine (class_any _ (w.drewN m) (by exact HT.out)).mono ?_; rintro e w' ⟨rfl, rfl⟩) | (go_at_call 18; refine (fail_any _ _ _).mono ?_; rintro e w' ⟨rfl, rfl⟩))
                    refine (put_st b s w0 ⟨p, l, g, out, op⟩ 4 _ p k _ (HS.out.drewN _) (by simp only; omega) (by omega) (by omega) (by simp only; omega)).mono ?_
                    rintro e2 w5 ⟨rfl, h5⟩
                    have H5 := Lib.hid h5
                    clear h5
                    go_wp2
                    first | go_end0 | refine bodyPost_ret (results_none rfl _ _ _) rfl ?_
                    rw [HR.out]
                    exact ⟨rfl, H5.out⟩
                · skip
                  have HR : Hid (mnumber s ⟨p, l, g, out, op⟩ = .ok (St.put ⟨p, l, g, out, op⟩ 4 (s.extract p k) p k)) := by show mnumber _ _ = _; unfold mnumber; simp only [HK'.out, hL, if_true, Bool.false_eq_true, if_false]; rw [if_neg (by intro h; rcases h with h | h; exact hZ2 h.2; omega), if_neg (by intro h; rcases h with h | h; exact hN h; rw [hS] at h; exact absurd h.2.1 (by decide))]
                  clear hL0; try clear hN2; try clear hZ2
                  go_wp2_with (first | (go_at_call 26; refine (ahead_any b s p l g vo vp k _ (w.drewN m) (by exact HB.out) hk).mono ?_; rintro e w' ⟨rfl, rfl⟩) | (go_at_call 52; refine (inWord_any _ (w.drewN m) (by exact HT.out)).mono ?_; rintro e w' ⟨rfl, rfl⟩) | (go_at_call 25; refine (class_any _ (w.drewN m) (by exact HT.out)).mono ?_; rintro e w' ⟨rfl, rfl⟩) | (go_at_call 18; refine (fail_any _ _ _).mono ?_; rintro e w' ⟨rfl, rfl⟩))
                  refine (put_st b s w0 ⟨p, l, g, out, op⟩ 4 _ p k _ (HS.out.drewN _) (by simp only; omega) (by omega) (by omega) (by simp only; omega)).mono ?_
                  rintro e2 w5 ⟨rfl, h5⟩
                  have H5 := Lib.hid h5
                  clear h5
                  go_wp2
                  first | go_end0 | refine bodyPost_ret (results_none rfl _ _ _) rfl ?_
                  rw [HR.out]
                  exact ⟨rfl, H5.out⟩
              · skip
                have hN3 : (((k - p : Nat) : Int) == 10) = false := by rw [beq_eq_false_iff_ne]; omega
                have HR : Hid (mnumber s ⟨p, l, g, out, op⟩ = .ok (St.put ⟨p, l, g, out, op⟩ 4 (s.extract p k) p k)) := by show mnumber _ _ = _; unfold mnumber; simp only [HK'.out, hL, if_true, Bool.false_eq_true, if_false]; rw [if_neg (by intro h; rcases h with h | h; exact hZ2 h.2; omega), if_neg (by intro h; rcases h with h | h; exact hN h; exact hN2 h.1)]
                clear hL0; try clear hN2; try clear hZ2
                go_wp2_with (first | (go_at_call 26; refine (ahead_any b s p l g vo vp k _ (w.drewN m) (by exact HB.out) hk).mono ?_; rintro e w' ⟨rfl, rfl⟩) | (go_at_call 52; refine (inWord_any _ (w.drewN m) (by exact HT.out)).mono ?_; rintro e w' ⟨rfl, rfl⟩) | (go_at_call 25; refine (class_any _ (w.drewN m) (by exact HT.out)).mono ?_; rintro e w' ⟨rfl, rfl⟩) | (go_at_call 18; refine (fail_any _ _ _).mono ?_; rintro e w' ⟨rfl, rfl⟩))
                refine (put_st b s w0 ⟨p, l, g, out, op⟩ 4 _ p k _ (HS.out.drewN _) (by simp only; omega) (by omega) (by omega) (by simp only; omega)).mono ?_
                rintro e2 w5 ⟨rfl, h5⟩
                have H5 := Lib.hid h5
                clear h5
                go_wp2
                first | go_end0 | refine bodyPost_ret (results_none rfl _ _ _) rfl ?_
                rw [HR.out]
                exact ⟨rfl, H5.out⟩
        · have hZi : ((k - p : Nat) : Int) ≤ 1 := by omega
          have hN : ¬ 10 < k - p := by omega
          have hN2 : ¬ k - p = 10 := by omega
          have hN1 : ((k - p : Nat) : Int) ≤ 10 := by omega
          have hN3 : (((k - p : Nat) : Int) == 10) = false := by rw [beq_eq_false_iff_ne]; omega
          have HR : Hid (mnumber s ⟨p, l, g, out, op⟩ = .ok (St.put ⟨p, l, g, out, op⟩ 4 (s.extract p k) p k)) := by show mnumber _ _ = _; unfold mnumber; simp only [HK'.out, hL, if_true, Bool.false_eq_true, if_false]; rw [if_neg (by intro h; rcases h with h | h; exact hZ1 h.1; omega), if_neg (by intro h; rcases h with h | h; exact hN h; exact hN2 h.1)]
          clear hL0; try clear hN2; try clear hZ2
          go_wp2_with (first | (go_at_call 26; refine (ahead_any b s p l g vo vp k _ (w.drewN m) (by exact HB.out) hk).mono ?_; rintro e w' ⟨rfl, rfl⟩) | (go_at_call 52; refine (inWord_any _ (w.drewN m) (by exact HT.out)).mono ?_; rintro e w' ⟨rfl, rfl⟩) | (go_at_call 25; refine (class_any _ (w.drewN m) (by exact HT.out)).mono ?_; rintro e w' ⟨rfl, rfl⟩) | (go_at_call 18; refine (fail_any _ _ _).mono ?_; rintro e w' ⟨rfl, rfl⟩))
          refine (put_st b s w0 ⟨p, l, g, out, op⟩ 4 _ p k _ (HS.out.drewN _) (by simp only; omega) (by omega) (by omega) (by simp only; omega)).mono ?_
          rintro e2 w5 ⟨rfl, h5⟩
          have H5 := Lib.hid h5
          clear h5
          go_wp2
          first | go_end0 | refine bodyPost_ret (results_none rfl _ _ _) rfl ?_
          rw [HR.out]
          exact ⟨rfl, H5.out⟩
end Go.Proofs.YtkfkgdkfgpofnaaDoor
