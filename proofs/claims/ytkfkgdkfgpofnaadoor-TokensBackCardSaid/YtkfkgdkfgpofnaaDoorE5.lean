/- The walk of parts. -/
import Derived.Test.YtkfkgdkfgpofnaaDoorE3
import Derived.Test.YtkfkgdkfgpofnaaDoorE4
import Derived.Deep.LoopGhost
import Derived.StillTailTactics
namespace Go.Proofs.YtkfkgdkfgpofnaaDoor
open Go.RowKit
set_option maxRecDepth 100000

/-- The parts of an interpolated string. -/
def mpartsF (s : ByteArray) : Nat → St → Except Flt St
  | 0, _ => .error (0, 0)
  | n + 1, t => match mquoted s t.p ⟨#[34, 36]⟩ with
    | none => .error (t.p, 27)
    | some (l, q) =>
      if ah s q ⟨#[34]⟩ = true then .ok ((St.put { t with p := q } 9 (strOfNums l) t.p q).put 10 ⟨#[]⟩ q (q + 1))
      else if ah s q ⟨#[36, 123]⟩ = true then (St.put { t with p := q } 9 (strOfNums l) t.p q).openMark ⟨#[36, 123]⟩ true
      else match minserted s (St.put { t with p := q } 9 (strOfNums l) t.p q) with
        | .error f => .error f
        | .ok t2 => mpartsF s n t2
def mparts (s : ByteArray) (t : St) : Except Flt St := mpartsF s (s.size - t.p + 1) t

theorem putN_ok {t t' : St} {k : Int} {x : ByteArray} {st en : Nat} (h : t.putN k x st en = .ok t') : t' = t.put k x st en := by
  unfold St.putN at h
  split at h
  · cases h
  · injection h with h; exact h.symm
/-- inserted adds one token of at least two bytes. -/
theorem minserted_ok {s : ByteArray} {t t' : St} (h : minserted s t = .ok t') (hp : t.p < s.size) : ∃ k x, t' = t.put k x (t.p + 1) (wEnd s (t.p + 1)) ∧ t.p + 2 ≤ wEnd s (t.p + 1) ∧ wEnd s (t.p + 1) ≤ s.size := by
  have he := wEnd_bd s (t.p + 1) (by omega)
  unfold minserted at h
  split at h
  · cases h
  · rename_i hn
    have h2 : t.p + 2 ≤ wEnd s (t.p + 1) := by
      rcases Nat.lt_or_ge (t.p + 1) (wEnd s (t.p + 1)) with h3 | h3
      · omega
      · exact absurd (Or.inl (by omega)) hn
    split at h
    · injection h with h; exact ⟨1, _, h.symm, h2, he.2⟩
    · exact ⟨0, _, putN_ok h, h2, he.2⟩

set_option maxHeartbeats 2000000 in
theorem parts_any (b : Nat) (s : ByteArray) (w0 : World) (t : St) (w : World) (hT : Tab w0) (hb0 : 0 < b) (h : Sd b s w0 w t) (hk : t.Good s) (hs : s.size < 100000) :
    Calls Tryd.prog 51 #[.pointer (some ⟨b, 0, none⟩)] w (Tk b s w0 (mparts s t)) := by
  have HS := Lib.hid h
  have HT0 := Lib.hid hT
  clear hT h
  go_enter Tryd.func51, Tryd.ntmps51
  go_wp2
  go_loopg [] (s.size - t.p + 1) (fun n wr => ∃ (u : St), s.size - u.p < n ∧ Hid (u.Good s) ∧ Hid (mpartsF s n u = mparts s t) ∧ Hid (Sd b s w0 wr u))
  case atStart => exact ⟨t, by omega, hk, rfl, HS⟩
  case round =>
    obtain ⟨u, hn, HG, HK, HD⟩ := hrel
    obtain ⟨n, rfl⟩ : ∃ n, gk = n + 1 := ⟨gk - 1, by omega⟩
    obtain ⟨p, l, g, out, op⟩ := u
    obtain ⟨k1, k2, k3, k4, k5⟩ := HG.out
    simp only at k1 k2 k3 k4 k5 hn
    obtain ⟨vo, vp, hr⟩ := HD.out
    obtain ⟨c0, c1, c2, c3, c4, c5, f1, f2, f3, f4, f5⟩ := rc hr.blk
    clear hr
    simp only at c0 c1 c2 c3 c4 c5
    go_wp2_with fail
    refine (quoted_st b s w0 ⟨p, l, g, out, op⟩ p p _ _ HD.out (by omega) hs).mono ?_
    intro e1 w1 h1
    rcases hm : mquoted s p ⟨#[34, 36]⟩ with _ | ⟨lq, q⟩
    · have HK' : Hid (mparts s t = .error (p, 27)) := by
        have := HK.out; simp only [mpartsF, hm] at this; exact this.symm
      rw [hm] at h1
      obtain ⟨rfl, hf1⟩ := h1
      refine ⟨rfl, ?_⟩
      rw [HK'.out]
      exact ⟨rfl, hf1⟩
    · have hq := mquoted_bd _ _ _ _ _ hm
      obtain ⟨hq1, hq2, hq3⟩ := hq
      have HK1 : Hid ((if ah s q ⟨#[34]⟩ = true then .ok ((St.put ⟨q, l, g, out, op⟩ 9 (strOfNums lq) p q).put 10 ⟨#[]⟩ q (q + 1))
          else if ah s q ⟨#[36, 123]⟩ = true then (St.put ⟨q, l, g, out, op⟩ 9 (strOfNums lq) p q).openMark ⟨#[36, 123]⟩ true
          else match minserted s (St.put ⟨q, l, g, out, op⟩ 9 (strOfNums lq) p q) with
            | .error f => .error f
            | .ok t2 => mpartsF s n t2) = mparts s t) := by
        have := HK.out; simp only [mpartsF, hm] at this; exact this
      rw [hm] at h1
      obtain ⟨rfl, hf1⟩ := h1
      have HF := Lib.hid hf1
      clear hm c0 c1 c2 c3 c4 c5 f1 f2 f3 f4 f5 hq3
      obtain ⟨vo1, vp1, hr1⟩ := hf1
      obtain ⟨c0, c1, c2, c3, c4, c5, f1, f2, f3, f4, f5⟩ := rc hr1.blk
      clear hr1
      simp only at c0 c1 c2 c3 c4 c5
      go_wp2_with fail
      refine (put_st b s w0 ⟨q, l, g, out, op⟩ 9 (strOfNums lq) p q _ HF.out (by simp only; omega) (by omega) (by omega) (by simp only; omega)).mono ?_
      rintro e2 w2 ⟨rfl, h2⟩
      obtain ⟨t1, ht1⟩ : ∃ t1, t1 = St.put ⟨q, l, g, out, op⟩ 9 (strOfNums lq) p q := ⟨_, rfl⟩
      rw [← ht1] at h2
      have HK2 : Hid ((if ah s q ⟨#[34]⟩ = true then .ok (t1.put 10 ⟨#[]⟩ q (q + 1))
          else if ah s q ⟨#[36, 123]⟩ = true then t1.openMark ⟨#[36, 123]⟩ true
          else match minserted s t1 with
            | .error f => .error f
            | .ok t2 => mpartsF s n t2) = mparts s t) := by rw [ht1]; exact HK1.out
      have HO : Hid (t1.Ok s ∧ t1.p = q ∧ t1.l = l ∧ t1.g = g ∧ t1.out.length = out.length + 1 ∧ t1.op = op) := by
        show t1.Ok s ∧ _
        subst ht1
        refine ⟨⟨?_, ?_, ?_, ?_, k5⟩, rfl, rfl, rfl, ?_, rfl⟩
        · show q ≤ s.size; omega
        · show l ≤ q; omega
        · show g ≤ q; omega
        · simp [St.put]; omega
        · simp [St.put]
      have HP := Lib.hid h2
      clear ht1 HK1 HF c0 c1 c2 c3 c4 c5 f1 f2 f3 f4 f5
      obtain ⟨vo2, vp2, hr2⟩ := h2
      have hr2' : Rd b s w0 w2 q l g t1.out t1.op vo2 vp2 := by have := hr2; rw [HO.out.2.1, HO.out.2.2.1, HO.out.2.2.2.1] at this; exact this
      obtain ⟨c0, c1, c2, c3, c4, c5, f1, f2, f3, f4, f5⟩ := rc hr2'.blk
      have HB := Lib.hid hr2'.blk
      clear hr2 hr2'
      by_cases h1 : ah s q ⟨#[34]⟩ = true
      · have HK' : Hid (mparts s t = .ok (t1.put 10 ⟨#[]⟩ q (q + 1))) := by
          have := HK2.out; rw [if_pos h1] at this; exact this.symm
        have a1 : IntKind.i64.wrap ((q : Int) + 1) = (q : Int) + 1 := IntWalk.i64_in _ (by omega)
        go_wp2_with (go_at_call 26; refine (ahead_any b s q l g vo2 vp2 q _ _ HB.out (by omega)).mono ?_; rintro e w' ⟨rfl, rfl⟩)
        go_still_tail 10, (by kernel_rfl)
        change wpList _ _ _ _ _ (World.drew _)
        go_wp2_with fail
        rw [show ((q : Int) + 1) = ((q + 1 : Nat) : Int) from rfl]
        refine (put_st b s w0 t1 10 _ q (q + 1) _ HP.out.drew (by rw [HO.out.2.2.2.2.1]; omega) (by omega) (by omega) (by rw [HO.out.2.2.2.1]; omega)).mono ?_
        rintro e3 w3 ⟨rfl, h3⟩
        have H3 := Lib.hid h3
        clear h3
        go_wp2
        first | go_end0 | refine bodyPost_ret (results_none rfl _ _ _) rfl ?_
        rw [HK'.out]
        exact ⟨rfl, H3.out⟩
      · have h1 : ah s q ⟨#[34]⟩ = false := by simpa using h1
        by_cases h2 : ah s q ⟨#[36, 123]⟩ = true
        · have HK' : Hid (mparts s t = t1.openMark ⟨#[36, 123]⟩ true) := by
            have := HK2.out; simp only [h1, h2, if_true, Bool.false_eq_true, if_false] at this; exact this.symm
          go_wp2_with (go_at_call 26; refine (ahead_any b s q l g vo2 vp2 q _ _ HB.out (by omega)).mono ?_; rintro e w' ⟨rfl, rfl⟩)
          refine (openMark_any b s w0 t1 _ _ _ HP.out HO.out.1 hs (by decide)).mono ?_
          intro e3 w3 h3
          rcases hm : t1.openMark ⟨#[36, 123]⟩ true with f | t'
          · rw [hm] at h3
            obtain ⟨rfl, hf1⟩ := h3
            refine ⟨rfl, ?_⟩
            rw [HK'.out, hm]
            exact ⟨rfl, hf1⟩
          · rw [hm] at h3
            obtain ⟨rfl, hf1⟩ := h3
            have HF := Lib.hid hf1
            have HM := Lib.hid hm
            clear hf1 hm
            go_wp2
            first | go_end0 | refine bodyPost_ret (results_none rfl _ _ _) rfl ?_
            rw [HK'.out, HM.out]
            exact ⟨rfl, HF.out⟩
        · have h2 : ah s q ⟨#[36, 123]⟩ = false := by simpa using h2
          have HK' : Hid ((match minserted s t1 with
              | .error f => .error f
              | .ok t2 => mpartsF s n t2) = mparts s t) := by
            have := HK2.out; simp only [h1, h2, Bool.false_eq_true, if_false] at this; exact this
          go_wp2_with (go_at_call 26; refine (ahead_any b s q l g vo2 vp2 q _ _ HB.out (by omega)).mono ?_; rintro e w' ⟨rfl, rfl⟩)
          refine (inserted_any b s w0 t1 _ HT0.out hb0 HP.out HO.out.1 hs (by rw [HO.out.2.1]; omega)).mono ?_
          intro e3 w3 h3
          rcases hm : minserted s t1 with f | t2
          · rw [hm] at h3
            obtain ⟨rfl, hf1⟩ := h3
            refine ⟨rfl, ?_⟩
            rw [← HK'.out, hm]
            exact ⟨rfl, hf1⟩
          · rw [hm] at h3
            obtain ⟨rfl, hf1⟩ := h3
            have HF := Lib.hid hf1
            have HK3 : Hid (mpartsF s n t2 = mparts s t) := by have := HK'.out; rw [hm] at this; exact this
            obtain ⟨kx, xx, hx1, hx2, hx3⟩ := minserted_ok hm (by rw [HO.out.2.1]; omega)
            have HG2 : Hid (t2.Good s ∧ q + 2 ≤ t2.p) := by
              show t2.Good s ∧ _
              have hp2 : t2.p = wEnd s (t1.p + 1) := by rw [hx1]; rfl
              have hq := HO.out.2.1
              refine ⟨⟨by omega, ?_, ?_, ?_, ?_⟩, by omega⟩
              · have : t2.l = t1.l := by rw [hx1]; rfl
                rw [this, HO.out.2.2.1]; omega
              · have : t2.g = t1.g := by rw [hx1]; rfl
                rw [this, HO.out.2.2.2.1]; omega
              · have : t2.out.length = t1.out.length + 1 := by rw [hx1]; simp [St.put]
                rw [this, HO.out.2.2.2.2.1]; omega
              · have : t2.op = t1.op := by rw [hx1]; rfl
                rw [this, HO.out.2.2.2.2.2]; exact k5
            clear hf1 hm hx1 hx2 hx3
            have hp2 := HG2.out.2
            go_wp2
            go_roundg n
            case measure => omega
            case rel => exact ⟨t2, by omega, HG2.out.1, HK3, HF⟩
end Go.Proofs.YtkfkgdkfgpofnaaDoor
