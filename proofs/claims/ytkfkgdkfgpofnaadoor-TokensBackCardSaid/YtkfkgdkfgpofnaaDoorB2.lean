/- The walk of comment. -/
import Derived.Test.YtkfkgdkfgpofnaaDoorB1
namespace Go.Proofs.YtkfkgdkfgpofnaaDoor
open Go.RowKit
set_option maxRecDepth 100000

theorem ah_le (s : ByteArray) (k : Nat) (u : ByteArray) (h : ah s k u = true) : u.size ≤ s.size - k := by
  unfold ah Lib.hasPrefix at h
  have := (List.isPrefixOf_iff_prefix.1 h).length_le
  simpa [List.length_drop] using this

/-- The end of a comment: its place, its line, the line's beginning. -/
def mcomF (s : ByteArray) : Nat → Nat → Int → Nat → Nat → Option (Nat × Nat × Nat)
  | 0, _, _, _, _ => none
  | n + 1, p, d, l, g =>
    if p < s.size then
      if ah s p ⟨#[47, 42]⟩ = true then mcomF s n (p + 2) (d + 1) l g
      else if ah s p ⟨#[42, 47]⟩ = true then (if d - 1 = 0 then some (p + 2, l, g) else mcomF s n (p + 2) (d - 1) l g)
      else if bt s p = 10 then mcomF s n (p + 1) d (l + 1) (p + 1)
      else mcomF s n (p + 1) d l g
    else none
def mcom (s : ByteArray) (p l g : Nat) : Except Int (Nat × Nat × Nat) := match mcomF s (s.size - p + 1) p 0 l g with | none => .error p | some r => .ok r

set_option maxHeartbeats 1000000 in
theorem comment_any (b : Nat) (s : ByteArray) (p line beg : Nat) (vo vp : Value) (w : World) (hb : w.heap[b]? = some (RB s p line beg vo vp)) (hp : p ≤ s.size) (hl : line ≤ p) (hs : s.size < 1000000) :
    Calls Tryd.prog 28 #[.pointer (some ⟨b, 0, none⟩)] w (Mv b s vo vp (mcom s p line beg) w) := by
  have HB := Lib.hid hb
  obtain ⟨c0, c1, c2, c3, c4, c5, f1, f2, f3, f4, f5⟩ := rc hb
  clear hb
  go_enter Tryd.func28, Tryd.ntmps28
  go_wp2
  clear c0 c1 c2 c3 c4 c5 f1 f2 f3 f4 f5
  go_loopg [3] (s.size - p + 1) (fun n i wr => ∃ (k : Nat) (d : Int) (l g : Nat), k ≤ s.size ∧ s.size - k < n ∧ i = .int .i64 d ∧ d ≤ k ∧ -(k : Int) ≤ d ∧ l ≤ k ∧ Hid (mcomF s n k d l g = mcomF s (s.size - p + 1) p 0 line beg) ∧ Hid (wr.heap[b]? = some (RB s k l g vo vp)) ∧ Fr b w wr)
  case atStart => exact ⟨p, 0, line, beg, hp, by omega, rfl, by omega, by omega, hl, rfl, HB, Fr.refl _ _⟩
  case round =>
    obtain ⟨k, d, l, g, hk, hn, rfl, hd1, hd2, hlk, HK, HB1, hfr⟩ := hrel
    have HF := Lib.hid hfr
    obtain ⟨n, rfl⟩ : ∃ n, gk = n + 1 := ⟨gk - 1, by omega⟩
    obtain ⟨c0, c1, c2, c3, c4, c5, f1, f2, f3, f4, f5⟩ := rc HB1.out
    clear hfr
    by_cases hlt : k < s.size
    · have e := bt_eq s k hlt
      by_cases h1 : ah s k ⟨#[47, 42]⟩ = true
      · have h2s := ah_le s k _ h1
        have h2s : 2 ≤ s.size - k := h2s
        have HK' : Hid (mcomF s n (k + 2) (d + 1) l g = mcomF s (s.size - p + 1) p 0 line beg) := by
          have := HK.out; simp only [mcomF, hlt, h1, if_true] at this; exact this
        go_wp2
        go_quiet (fail)
        go_wp2_with (go_at_call 26; refine (ahead_any b s k l g vo vp k _ _ (by exact HB1.out) hk).mono ?_; rintro e w' ⟨rfl, rfl⟩)
        go_roundg n
        case measure => omega
        case rel => exact ⟨k + 2, d + 1, l, g, by omega, by omega, rfl, by omega, by omega, by omega, HK', rb_at HB1.out (k + 2), (HF.out.drewN _).set _ _⟩
      · have h1 : ah s k ⟨#[47, 42]⟩ = false := by simpa using h1
        by_cases h2 : ah s k ⟨#[42, 47]⟩ = true
        · have h2s := ah_le s k _ h2
          have h2s : 2 ≤ s.size - k := h2s
          by_cases hd : d - 1 = 0
          · have HK' : Hid (mcomF s (s.size - p + 1) p 0 line beg = some (k + 2, l, g)) := by
              have := HK.out; simp only [mcomF, hlt, h1, h2, hd, if_true, Bool.false_eq_true, if_false] at this; exact this.symm
            have t0 : ((d - 1 : Int) == 0) = true := by rw [beq_iff_eq]; exact hd
            clear hd
            go_wp2
            go_quiet (fail)
            go_wp2_with (go_at_call 26; refine (ahead_any b s k l g vo vp k _ _ (by exact HB1.out) hk).mono ?_; rintro e w' ⟨rfl, rfl⟩)
            refine bodyPost_ret (results_none rfl _ _ _) rfl ?_
            unfold mcom
            rw [HK'.out]
            exact ⟨rfl, rb_at HB1.out (k + 2), (HF.out.drewN _).set _ _⟩
          · have HK' : Hid (mcomF s n (k + 2) (d - 1) l g = mcomF s (s.size - p + 1) p 0 line beg) := by
              have := HK.out; simp only [mcomF, hlt, h1, h2, hd, if_true, Bool.false_eq_true, if_false] at this; exact this
            have t0 : ((d - 1 : Int) == 0) = false := by rw [beq_eq_false_iff_ne]; exact hd
            clear hd
            go_wp2
            go_quiet (fail)
            go_wp2_with (go_at_call 26; refine (ahead_any b s k l g vo vp k _ _ (by exact HB1.out) hk).mono ?_; rintro e w' ⟨rfl, rfl⟩)
            go_roundg n
            case measure => omega
            case rel => exact ⟨k + 2, d - 1, l, g, by omega, by omega, rfl, by omega, by omega, by omega, HK', rb_at HB1.out (k + 2), (HF.out.drewN _).set _ _⟩
        · have h2 : ah s k ⟨#[42, 47]⟩ = false := by simpa using h2
          by_cases h3 : bt s k = 10
          · have HK' : Hid (mcomF s n (k + 1) d (l + 1) (k + 1) = mcomF s (s.size - p + 1) p 0 line beg) := by
              have := HK.out; simp only [mcomF, hlt, h1, h2, h3, if_true, Bool.false_eq_true, if_false] at this; exact this
            have t0 : ((bt s k : Int) == 10) = true := by simp [h3]
            clear h3
            go_wp2
            go_quiet (fail)
            go_wp2_with (go_at_call 26; refine (ahead_any b s k l g vo vp k _ _ (by exact HB1.out) hk).mono ?_; rintro e w' ⟨rfl, rfl⟩)
            go_quiet (fail)
            go_wp2_with (go_at_call 24; refine (lineFeed_any b s k l g vo vp _ (by exact HB1.out) (by omega) (by omega)).mono ?_; rintro e w1 ⟨rfl, hb1, hf1⟩)
            go_roundg n
            case measure => omega
            case rel => exact ⟨k + 1, d, l + 1, k + 1, by omega, by omega, rfl, by omega, by omega, by omega, HK', hb1, (HF.out.drewN _).trans hf1⟩
          · have HK' : Hid (mcomF s n (k + 1) d l g = mcomF s (s.size - p + 1) p 0 line beg) := by
              have := HK.out; simp only [mcomF, hlt, h1, h2, h3, if_true, Bool.false_eq_true, if_false] at this; exact this
            have t0 : ((bt s k : Int) == 10) = false := by rw [beq_eq_false_iff_ne]; omega
            clear h3
            go_wp2
            go_quiet (fail)
            go_wp2_with (go_at_call 26; refine (ahead_any b s k l g vo vp k _ _ (by exact HB1.out) hk).mono ?_; rintro e w' ⟨rfl, rfl⟩)
            go_quiet (fail)
            go_wp2
            go_roundg n
            case measure => omega
            case rel => exact ⟨k + 1, d, l, g, by omega, by omega, rfl, by omega, by omega, by omega, HK', rb_at HB1.out (k + 1), (HF.out.drewN _).set _ _⟩
    · have HK' : Hid (mcomF s (s.size - p + 1) p 0 line beg = none) := by
        have := HK.out; simp only [mcomF, hlt, if_false] at this; exact this.symm
      have t0 : decide ((k : Int) < s.size) = false := by simp; omega
      go_wp2
      go_quiet (fail)
      go_wp2_with (go_at_call 18; refine (fail_any _ _ _).mono ?_; rintro e w' ⟨rfl, rfl⟩)
      refine ⟨rfl, ?_⟩
      unfold mcom
      rw [HK'.out]
      exact ⟨rfl, HF.out.drewN _⟩
end Go.Proofs.YtkfkgdkfgpofnaaDoor
