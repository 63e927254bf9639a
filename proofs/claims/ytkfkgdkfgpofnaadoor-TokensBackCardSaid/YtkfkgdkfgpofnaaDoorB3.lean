/- The walk of skip. -/
import Derived.Test.YtkfkgdkfgpofnaaDoorB2
namespace Go.Proofs.YtkfkgdkfgpofnaaDoor
open Go.RowKit
set_option maxRecDepth 100000

theorem mcomF_bd (s : ByteArray) (n : Nat) : ∀ (p : Nat) (d : Int) (l g p' l' g' : Nat), mcomF s n p d l g = some (p', l', g') → p ≤ s.size → l ≤ p → g ≤ p → p < p' ∧ p' ≤ s.size ∧ l' ≤ p' ∧ g' ≤ p' := by
  induction n with
  | zero => intro p d l g p' l' g' h; simp [mcomF] at h
  | succ n ih =>
    intro p d l g p' l' g' h hp hl hg
    simp only [mcomF] at h
    split at h
    · rename_i hlt
      split at h
      · rename_i h1
        have h2 : 2 ≤ s.size - p := ah_le s p _ h1
        have := ih _ _ _ _ _ _ _ h (by omega) (by omega) (by omega)
        omega
      · split at h
        · rename_i h1
          have h2 : 2 ≤ s.size - p := ah_le s p _ h1
          split at h
          · simp at h; omega
          · have := ih _ _ _ _ _ _ _ h (by omega) (by omega) (by omega)
            omega
        · split at h
          · have := ih _ _ _ _ _ _ _ h (by omega) (by omega) (by omega)
            omega
          · have := ih _ _ _ _ _ _ _ h (by omega) (by omega) (by omega)
            omega
    · cases h
theorem mcom_bd (s : ByteArray) (p l g p' l' g' : Nat) (h : mcom s p l g = .ok (p', l', g')) (hp : p ≤ s.size) (hl : l ≤ p) (hg : g ≤ p) : p < p' ∧ p' ≤ s.size ∧ l' ≤ p' ∧ g' ≤ p' := by
  unfold mcom at h
  split at h
  · cases h
  · rename_i r hr
    injection h with h
    subst h
    exact mcomF_bd s _ _ _ _ _ _ _ _ hr hp hl hg
theorem ah_bt (s : ByteArray) (q : Nat) (a b : UInt8) (h : ah s q ⟨#[a, b]⟩ = true) : bt s q = a.toNat := by
  unfold ah Lib.hasPrefix at h
  have h := List.isPrefixOf_iff_prefix.1 h
  obtain ⟨t, ht⟩ := h
  have : (s.data.toList.drop q)[0]? = some a := by rw [← ht]; rfl
  rw [List.getElem?_drop] at this
  unfold bt
  rw [List.getD_eq_getElem?_getD]
  simp only [Nat.add_zero] at this
  rw [this]; rfl

/-- The next byte that is neither blank nor in a comment. -/
def mskipF (s : ByteArray) : Nat → Nat → Nat → Nat → Except Int (Nat × Nat × Nat)
  | 0, _, _, _ => .error 0
  | n + 1, p, l, g =>
    if p < s.size then
      if bt s p = 10 then mskipF s n (p + 1) (l + 1) (p + 1)
      else if cls (bt s p) = 1 then mskipF s n (p + 1) l g
      else if ah s p ⟨#[47, 47]⟩ = true then mskipF s n (lcEnd s p) l g
      else if ah s p ⟨#[47, 42]⟩ = true then
        match mcom s p l g with
        | .error a => .error a
        | .ok (p', l', g') => mskipF s n p' l' g'
      else .ok (p, l, g)
    else .ok (p, l, g)
def mskip (s : ByteArray) (p l g : Nat) : Except Int (Nat × Nat × Nat) := mskipF s (s.size - p + 1) p l g

theorem mskipF_bd (s : ByteArray) (n : Nat) : ∀ (p l g p' l' g' : Nat), mskipF s n p l g = .ok (p', l', g') → p ≤ s.size → l ≤ p → g ≤ p → p ≤ p' ∧ p' ≤ s.size ∧ l' ≤ p' ∧ g' ≤ p' := by
  induction n with
  | zero => intro p l g p' l' g' h; simp [mskipF] at h
  | succ n ih =>
    intro p l g p' l' g' h hp hl hg
    simp only [mskipF] at h
    split at h
    · rename_i hlt
      split at h
      · have := ih _ _ _ _ _ _ h (by omega) (by omega) (by omega); omega
      · split at h
        · have := ih _ _ _ _ _ _ h (by omega) (by omega) (by omega); omega
        · split at h
          · have hb := lcEnd_bd s p hp
            have := ih _ _ _ _ _ _ h (by omega) (by omega) (by omega); omega
          · split at h
            · split at h
              · cases h
              · rename_i hc
                have hb := mcom_bd s _ _ _ _ _ _ hc hp hl hg
                have := ih _ _ _ _ _ _ h (by omega) (by omega) (by omega); omega
            · injection h with h; simp at h; omega
    · injection h with h; simp at h; omega
theorem mskip_bd (s : ByteArray) (p l g p' l' g' : Nat) (h : mskip s p l g = .ok (p', l', g')) (hp : p ≤ s.size) (hl : l ≤ p) (hg : g ≤ p) : p ≤ p' ∧ p' ≤ s.size ∧ l' ≤ p' ∧ g' ≤ p' :=
  mskipF_bd s _ _ _ _ _ _ _ h hp hl hg

set_option maxHeartbeats 1000000 in
theorem skip_any (b : Nat) (s : ByteArray) (p line beg : Nat) (vo vp : Value) (w : World) (hT : Tab w) (hb0 : 0 < b) (hb : w.heap[b]? = some (RB s p line beg vo vp)) (hp : p ≤ s.size) (hl : line ≤ p) (hg : beg ≤ p) (hs : s.size < 1000000) :
    Calls Tryd.prog 16 #[.pointer (some ⟨b, 0, none⟩)] w (Mv b s vo vp (mskip s p line beg) w) := by
  have HB := Lib.hid hb
  have HT := Lib.hid hT
  clear hb hT
  go_enter Tryd.func16, Tryd.ntmps16
  go_wp2
  go_loopg [] (s.size - p + 1) (fun n wr => ∃ (k l g : Nat), k ≤ s.size ∧ s.size - k < n ∧ l ≤ k ∧ g ≤ k ∧ Hid (mskipF s n k l g = mskip s p line beg) ∧ Hid (wr.heap[b]? = some (RB s k l g vo vp)) ∧ Fr b w wr)
  case atStart => exact ⟨p, line, beg, hp, by omega, hl, hg, rfl, HB, Fr.refl _ _⟩
  case round =>
    obtain ⟨k, l, g, hk, hn, hlk, hgk, HK, HB1, hfr⟩ := hrel
    have HF := Lib.hid hfr
    have HT1 : Hid (Tab wr) := fun i hi => hfr.cell (HT.out i hi) (by show 0 ≠ b; omega)
    obtain ⟨n, rfl⟩ : ∃ n, gk = n + 1 := ⟨gk - 1, by omega⟩
    obtain ⟨c0, c1, c2, c3, c4, c5, f1, f2, f3, f4, f5⟩ := rc HB1.out
    clear hfr
    by_cases hlt : k < s.size
    · have e := bt_eq s k hlt
      by_cases h1 : bt s k = 10
      · have HK' : Hid (mskipF s n (k + 1) (l + 1) (k + 1) = mskip s p line beg) := by
          have := HK.out; simp only [mskipF, hlt, h1, if_true] at this; exact this
        have t0 : ((bt s k : Int) == 10) = true := by simp [h1]
        clear h1
        go_wp2
        go_quiet (fail)
        go_wp2
        go_quiet (fail)
        go_wp2_with fail
        refine (lineFeed_any b s k l g vo vp _ (by exact HB1.out) (by omega) (by omega)).mono ?_
        rintro e w1 ⟨rfl, hb1, hf1⟩
        have HB2 := Lib.hid hb1
        have HF2 := Lib.hid hf1
        clear hb1 hf1 c0 c1 c2 c3 c4 c5 f1 f2 f3 f4 f5
        go_wp2
        go_roundg n
        case measure => omega
        case rel => exact ⟨k + 1, l + 1, k + 1, by omega, by omega, by omega, by omega, HK', HB2, (HF.out.drewN _).trans HF2.out⟩
      · have t0 : ((bt s k : Int) == 10) = false := by rw [beq_eq_false_iff_ne]; omega
        by_cases h2 : cls (bt s k) = 1
        · have HK' : Hid (mskipF s n (k + 1) l g = mskip s p line beg) := by
            have := HK.out; simp only [mskipF, hlt, h1, h2, if_true, if_false] at this; exact this
          have t1 : (cls (bt s k) == 1) = true := by rw [beq_iff_eq]; exact h2
          clear h1 h2
          go_wp2
          go_quiet (fail)
          go_wp2
          go_quiet (fail)
          go_wp2
          go_quiet ((go_at_call 25; exact quiet_add_left (class_any _ _ HT1.out)))
          go_wp2
          go_roundg n
          case measure => omega
          case rel => exact ⟨k + 1, l, g, by omega, by omega, by omega, by omega, HK', rb_at HB1.out (k + 1), (HF.out.drewN _).set _ _⟩
        · have t1 : (cls (bt s k) == 1) = false := by rw [beq_eq_false_iff_ne]; exact h2
          by_cases h3 : ah s k ⟨#[47, 47]⟩ = true
          · have HK' : Hid (mskipF s n (lcEnd s k) l g = mskip s p line beg) := by
              have := HK.out; simp only [mskipF, hlt, h1, h2, h3, if_true, if_false] at this; exact this
            have hgt := lcEnd_gt s k hlt h1
            have hle := (lcEnd_bd s k hk).2
            clear h1 h2
            go_wp2
            go_quiet (fail)
            go_wp2
            go_quiet (fail)
            go_wp2
            go_quiet ((go_at_call 25; exact quiet_add_left (class_any _ _ HT1.out)))
            go_wp2_with (go_at_call 26; refine (ahead_any b s k l g vo vp k _ _ (by exact HB1.out) hk).mono ?_; rintro e w' ⟨rfl, rfl⟩)
            refine (lineComment_any b s k l g vo vp _ (by exact HB1.out) hk hs).mono ?_
            rintro e w1 ⟨rfl, hb1, hf1⟩
            have HB2 := Lib.hid hb1
            have HF2 := Lib.hid hf1
            clear hb1 hf1 c0 c1 c2 c3 c4 c5 f1 f2 f3 f4 f5
            go_wp2
            go_roundg n
            case measure => omega
            case rel => exact ⟨lcEnd s k, l, g, hle, by omega, by omega, by omega, HK', HB2, (HF.out.drewN _).trans HF2.out⟩
          · have h3 : ah s k ⟨#[47, 47]⟩ = false := by simpa using h3
            by_cases h4 : ah s k ⟨#[47, 42]⟩ = true
            · rcases hm : mcom s k l g with a | ⟨p', l', g'⟩
              · have HK' : Hid (mskip s p line beg = .error a) := by
                  have := HK.out; simp only [mskipF, hlt, h1, h2, h3, h4, hm, if_true, if_false, Bool.false_eq_true] at this; exact this.symm
                have HM := Lib.hid hm
                clear h1 h2 hm
                go_wp2
                go_quiet (fail)
                go_wp2
                go_quiet (fail)
                go_wp2
                go_quiet ((go_at_call 25; exact quiet_add_left (class_any _ _ HT1.out)))
                go_wp2_with (go_at_call 26; refine (ahead_any b s k l g vo vp k _ _ (by exact HB1.out) hk).mono ?_; rintro e w' ⟨rfl, rfl⟩)
                refine (comment_any b s k l g vo vp _ (by exact HB1.out) hk hlk hs).mono ?_
                intro e w1 h1
                rw [HM.out] at h1
                obtain ⟨rfl, hf1⟩ := h1
                refine ⟨rfl, ?_⟩
                rw [HK'.out]
                exact ⟨rfl, (HF.out.drewN _).trans hf1⟩
              · have HK' : Hid (mskipF s n p' l' g' = mskip s p line beg) := by
                  have := HK.out; simp only [mskipF, hlt, h1, h2, h3, h4, hm, if_true, if_false, Bool.false_eq_true] at this; exact this
                have hbd := mcom_bd s k l g p' l' g' hm hk hlk hgk
                have HM := Lib.hid hm
                clear h1 h2 hm
                go_wp2
                go_quiet (fail)
                go_wp2
                go_quiet (fail)
                go_wp2
                go_quiet ((go_at_call 25; exact quiet_add_left (class_any _ _ HT1.out)))
                go_wp2_with (go_at_call 26; refine (ahead_any b s k l g vo vp k _ _ (by exact HB1.out) hk).mono ?_; rintro e w' ⟨rfl, rfl⟩)
                refine (comment_any b s k l g vo vp _ (by exact HB1.out) hk hlk hs).mono ?_
                intro e w1 h1
                rw [HM.out] at h1
                obtain ⟨rfl, hb1, hf1⟩ := h1
                have HB2 := Lib.hid hb1
                have HF2 := Lib.hid hf1
                clear hb1 hf1 c0 c1 c2 c3 c4 c5 f1 f2 f3 f4 f5
                go_wp2
                go_roundg n
                case measure => omega
                case rel => exact ⟨p', l', g', by omega, by omega, by omega, by omega, HK', HB2, (HF.out.drewN _).trans HF2.out⟩
            · have h4 : ah s k ⟨#[47, 42]⟩ = false := by simpa using h4
              have HK' : Hid (mskip s p line beg = .ok (k, l, g)) := by
                have := HK.out; simp only [mskipF, hlt, h1, h2, h3, h4, if_true, if_false, Bool.false_eq_true] at this; exact this.symm
              clear h1 h2
              go_wp2
              go_quiet (fail)
              go_wp2
              go_quiet (fail)
              go_wp2
              go_quiet ((go_at_call 25; exact quiet_add_left (class_any _ _ HT1.out)))
              go_wp2_with (go_at_call 26; refine (ahead_any b s k l g vo vp k _ _ (by exact HB1.out) hk).mono ?_; rintro e w' ⟨rfl, rfl⟩)
              refine bodyPost_ret (results_none rfl _ _ _) rfl ?_
              rw [HK'.out]
              exact ⟨rfl, HB1.out, HF.out.drewN _⟩
    · have HK' : Hid (mskip s p line beg = .ok (k, l, g)) := by
        have := HK.out; simp only [mskipF, hlt, if_false] at this; exact this.symm
      have t0 : decide ((k : Int) < s.size) = false := by simp; omega
      go_wp2
      go_quiet (fail)
      go_wp2
      go_end0
      rw [HK'.out]
      exact ⟨rfl, HB1.out, HF.out.drewN _⟩
end Go.Proofs.YtkfkgdkfgpofnaaDoor
