/- The walk of TokensMatch. -/
import Derived.Test.YtcfdmkpgnphhiaaDoorJ8
import Derived.Deep.LoopGhost
namespace Go.Proofs.YtcfdmkpgnphhiaaDoor
open Go.RowKit
set_option maxRecDepth 100000

theorem endF_len (t : Tok) (n : Nat) : ∀ (o : List Tok) (rs : List Rg), (endF t n o rs).1.length ≤ o.length + rs.length := by
  induction n with
  | zero => intro o rs; show o.length ≤ _; omega
  | succ n ih =>
    intro o rs
    rw [endF]
    split
    · refine Nat.le_trans (ih _ _) ?_
      simp; omega
    · simp only; omega
theorem ylayF_len {inp : List Tok} (n : Nat) : ∀ (i : Nat) (l l' : LS), i + n = inp.length → l.regs.length ≤ 64 → l.out.length + l.regs.length ≤ 5 * i → ((i = 0 ∧ l = ⟨[], [], 0⟩) ∨ (0 < i ∧ Gd l.regs)) → ylayF inp n i l = .ok l' → l'.out.length ≤ 5 * inp.length + 1 := by
  induction n with
  | zero =>
    intro i l l' hi hl ho hg h
    rw [ylayF] at h
    unfold mend at h
    rcases hb : endBad l.regs l.regs.length with _ | k
    · rw [hb] at h
      injection h with h; subst h
      have := endF_len (stopTok inp) (l.regs.length + 1) l.out l.regs
      simp only [List.length_append, List.length_singleton]
      omega
    · rw [hb] at h; cases h
  | succ n ih =>
    intro i l l' hi hl ho hg h
    rw [ylayF] at h
    rcases hs : mstep inp i l with f | l4
    · rw [hs] at h; cases h
    · rw [hs] at h
      unfold mstep at hs
      rcases h1 : mhead inp i l with f | l1
      · rw [h1] at hs; cases hs
      · rw [h1] at hs
        simp only at hs
        rcases h2 : mopen inp i l1 with f | l2
        · rw [h2] at hs; cases hs
        · rw [h2] at hs
          simp only at hs
          rcases h3 : mclose inp i l2 with f | l3
          · rw [h3] at hs; cases hs
          · rw [h3] at hs
            injection hs with hs
            have g1 := mhead_gd h1 hg hl
            have g2 := mopen_gd h2 g1.1 g1.2.1
            have g3 := mclose_gd h3 g2.1 g2.2.1
            subst hs
            exact ih (i + 1) ⟨l3.out ++ [inp.getD i Tz], l3.regs, l3.m⟩ l' (by omega) g3.2.1 (by simp only [List.length_append, List.length_singleton]; omega) (Or.inr ⟨by omega, g3.1⟩) h
theorem mlayout_len {l l' : List Tok} (h : mlayout l = .ok l') : l'.length ≤ 5 * l.length + 1 := by
  unfold mlayout at h
  split at h
  · cases h
  · rcases hm : mlay l with f | t
    · rw [hm] at h; cases h
    · rw [hm] at h
      injection h with h; subst h
      exact ylayF_len l.length 0 ⟨[], [], 0⟩ t (by omega) (by simp) (by simp) (Or.inl ⟨rfl, rfl⟩) hm
theorem mscan_len {s : ByteArray} {l : List Tok} (h : mscan s = .ok l) : l.length ≤ 10 * s.size + 1 := by
  unfold mscan at h
  rcases hm : mraw s with f | l0
  · rw [hm] at h
    simp only at h
    split at h
    · cases h
    · have := mlayout_len h; simp at this; omega
  · rw [hm] at h
    have := mlayout_len h
    have := mraw_len hm
    omega
theorem dep_take (l : List Tok) (i : Nat) (hi : i < l.length) : dep (l.take (i + 1)) = dstep (dep (l.take i)) (l.getD i Tz) := by
  rw [List.take_succ_eq_append_getElem hi, tz_eq hi]
  unfold dep
  rw [List.foldl_append]
  rfl
theorem dep_le (l : List Tok) (i : Nat) (hi : i ≤ l.length) : dep (l.take i) ≤ i := by
  induction i with
  | zero => simp [dep]
  | succ i ih =>
    rw [dep_take l i hi]
    have := ih (by omega)
    unfold dstep
    split
    · omega
    · split <;> omega
theorem fin_facts {l : List Tok} (h : Fin l) : 0 < l.length ∧ dep l = 0 ∧ ∀ i, i < l.length → 0 ≤ dep (l.take (i + 1)) ∧ ((l.getD i Tz).kind = 14 ↔ i + 1 = l.length) := by
  obtain ⟨o, t, rfl, ht, hb⟩ := h
  have h0 : dep (o ++ [t]) = 0 := by
    unfold dep
    rw [List.foldl_append]
    show dstep (dep o) t = 0
    rw [hb.dep]
    simp [dstep, ht]
  refine ⟨by simp, h0, fun i hi => ?_⟩
  simp only [List.length_append, List.length_singleton] at hi ⊢
  rcases Nat.lt_or_ge i o.length with hlt | hge
  · constructor
    · rw [List.take_append_of_le_length (by omega)]; exact hb.pre _
    · have : (o ++ [t]).getD i Tz = o[i]'hlt := by
        rw [List.getD_eq_getElem?_getD, List.getElem?_append_left hlt, List.getElem?_eq_getElem hlt]; rfl
      rw [this]
      have := hb.kind _ (List.getElem_mem hlt)
      constructor
      · intro h; exact absurd h this
      · intro h; omega
  · have hi' : i = o.length := by omega
    subst hi'
    constructor
    · rw [List.take_of_length_le (by simp), h0]; omega
    · have : (o ++ [t]).getD o.length Tz = t := by simp [List.getD_eq_getElem?_getD]
      rw [this]
      exact ⟨fun _ => rfl, fun _ => ht⟩
theorem tab_bel {w w' : World} (hT : Tab w) (h0 : 0 < w.heap.size) (hb : Below w.heap.size w w') : Tab w' := by
  intro i hi
  rw [hb.cell (p := ⟨0, i, none⟩) h0]; exact hT i hi

set_option maxHeartbeats 4000000 in
theorem match_any (s : ByteArray) (w : World) (hT : Tab w) (h0 : 0 < w.heap.size) :
    Calls Tryd.prog 4 #[.string s] w fun e w' => e = .returned (.bool true) ∧ Below w.heap.size w w' := by
  have HT := Lib.hid hT
  clear hT
  by_cases hs : 4000 < s.size
  · have hs1 : (4000 : Int) < (s.size : Int) := by omega
    clear hs
    go_enter Tryd.func4, Tryd.ntmps4
    go_wp2_with (go_at_call 6; refine (awake_any w HT.out h0).mono ?_; rintro e w1 ⟨rfl, hb1⟩; have HB1 := Lib.hid hb1; clear hb1)
    go_ret
    exact ⟨rfl, HB1.out⟩
  · have hs1 : decide ((4000 : Int) < (s.size : Int)) = false := by simp; omega
    have HS : Hid (s.size ≤ 4000) := by show _ ≤ _; omega
    clear hs
    go_enter Tryd.func4, Tryd.ntmps4
    go_wp2_with (first | (go_at_call 6; refine (awake_any w HT.out h0).mono ?_; rintro e w1 ⟨rfl, hb1⟩; have HB1 := Lib.hid hb1; have HT1 := Lib.hid (tab_bel HT.out h0 hb1); have HZ1 : Hid (0 < w1.heap.size) := by { show 0 < _; have := hb1.size; omega }; clear hb1))
    refine (scan_any s w1 HT1.out HZ1.out (by have := HS.out; omega)).mono ?_
    intro e2 w2 h2
    rcases hm : mscan s with f | l
    · rw [hm] at h2
      obtain ⟨rfl, hb2⟩ := h2
      have hc : (f.2 != 0) = true := by rw [bne_iff_ne]; exact mscan_code hm
      have HB2 := Lib.hid (HB1.out.trans (hb2.mono HB1.out.size))
      clear hb2 hm
      go_wp2
      go_ret
      exact ⟨rfl, HB2.out.alloc HB2.out.size _⟩
    · rw [hm] at h2
      obtain ⟨v, rfl, hown, hb2⟩ := h2
      have HB2 := Lib.hid (HB1.out.trans (hb2.mono HB1.out.size))
      have hfin := fin_facts (mscan_fin hm)
      have HLN : Hid (l.length ≤ 40001) := by have := mscan_len hm; have := HS.out; show _ ≤ _; omega
      obtain ⟨va, vc, rfl⟩ := own_slice hown
      obtain ⟨g, cap, he, hg0, hgl⟩ := hown.form hfin.1
      injection he with he1 he2 he3
      subst he1 he3
      have HO := Lib.hid hown
      have HF := Lib.hid hfin
      clear hb2 hm hown hfin he2
      go_wp2
      have HB3 : Hid (Below w2.heap.size w2 (w2.alloc (.cells #[.int .i64 0, .int .i64 0] 26))) := (Below.refl _ _).alloc (Nat.le_refl _) _
      go_loopg [5, 29] (l.length + 1) (fun n x y wr => ∃ i : Nat, i ≤ l.length ∧ l.length - i < n ∧ x = .int .i64 (dep (l.take i)) ∧ y = .int .i64 i ∧ Hid (Below w2.heap.size w2 wr))
      case atStart => exact ⟨0, by omega, by omega, rfl, rfl, HB3⟩
      case round =>
        obtain ⟨i, hi, hgk, rfl, rfl, HW⟩ := hrel
        obtain ⟨n, rfl⟩ : ∃ n, gk = n + 1 := ⟨gk - 1, by omega⟩
        have hln := HLN.out
        by_cases hlt : i < l.length
        · have hii : (i : Int) < (l.length : Int) := by omega
          have hi0 : (0 : Int) ≤ (i : Int) := by omega
          obtain ⟨t, ht⟩ : ∃ t, t = l.getD i Tz := ⟨_, rfl⟩
          have htc := tc_of_row HO.out i hlt
          rw [← tz_eq hlt, ← ht] at htc
          obtain ⟨t0, t1, t2, t3, t4⟩ := htc
          have k0 := (HW.out.cell (by exact hgl)).trans t0
          have k1 := (HW.out.cell (by exact hgl)).trans t1
          have k2 := (HW.out.cell (by exact hgl)).trans t2
          have k3 := (HW.out.cell (by exact hgl)).trans t3
          have k4 := (HW.out.cell (by exact hgl)).trans t4
          clear t0 t1 t2 t3 t4
          obtain ⟨hp, hq⟩ := HF.out.2.2 i hlt
          have hd := dep_take l i hlt
          have hdl := dep_le l i hi
          rw [← ht] at hq hd
          have HD := Lib.hid hd
          rw [hd] at hp
          have a1 : IntKind.i64.wrap ((l.length : Int) - 1) = (l.length : Int) - 1 := IntWalk.i64_in _ (by omega)
          have HW3 : Hid (Below w2.heap.size w2 (wr.alloc (.cells #[.int .i64 t.kind, .string t.text, .int .i64 t.at_, .int .i64 t.line, .int .i64 t.col] 32))) := HW.out.alloc HW.out.size _
          have h0d : 0 ≤ dep (l.take i) ∨ i = 0 := by
            rcases Nat.eq_zero_or_pos i with h | h
            · exact Or.inr h
            · left
              have := (HF.out.2.2 (i - 1) (by omega)).1
              rw [show i - 1 + 1 = i from by omega] at this
              exact this
          have h0d : 0 ≤ dep (l.take i) := by
            rcases h0d with h | h
            · exact h
            · rw [h]; simp [dep]
          have HT2 := Lib.hid ht
          clear ht hd
          generalize dep (l.take i) = d at *
          have a2 : IntKind.i64.wrap (d + 1) = d + 1 := IntWalk.i64_in _ (by omega)
          have a3 : IntKind.i64.wrap (d - 1) = d - 1 := IntWalk.i64_in _ (by omega)
          by_cases hl1 : i + 1 = l.length
          · have e14 : t.kind = 14 := hq.mpr hl1
            have b1 : (t.kind == 12) = false := by rw [e14]; rfl
            have b2 : (t.kind == 13) = false := by rw [e14]; rfl
            have b3 : (t.kind == 14) = true := by rw [e14]; rfl
            have b4 : ((i : Int) == (l.length : Int) - 1) = true := by rw [beq_iff_eq]; omega
            have b5 : decide (d < 0) = false := by simp; omega
            have HD2 : Hid (dep (l.take (i + 1)) = d) := by show dep _ = _; rw [HD.out]; unfold dstep; rw [if_neg (by omega), if_neg (by omega)]
            clear hq hp e14 hl1
            go_wp2
            go_roundg n
            case measure => omega
            case rel => exact ⟨i + 1, by omega, by omega, by rw [HD2.out], by go_num, HW3⟩
          · have e14 : t.kind ≠ 14 := fun h => hl1 (hq.mp h)
            have b3 : (t.kind == 14) = false := by rw [beq_eq_false_iff_ne]; exact e14
            have b4 : ((i : Int) == (l.length : Int) - 1) = false := by rw [beq_eq_false_iff_ne]; omega
            by_cases h12 : t.kind = 12
            · have b1 : (t.kind == 12) = true := by rw [h12]; rfl
              have b5 : decide (d + 1 < 0) = false := by simp; omega
              have HD2 : Hid (dep (l.take (i + 1)) = d + 1) := by show dep _ = _; rw [HD.out]; unfold dstep; rw [if_pos h12]
              clear hq hp e14 hl1 h12
              go_wp2
              go_roundg n
              case measure => omega
              case rel => exact ⟨i + 1, by omega, by omega, by rw [HD2.out], by go_num, HW3⟩
            · have b1 : (t.kind == 12) = false := by rw [beq_eq_false_iff_ne]; exact h12
              by_cases h13 : t.kind = 13
              · have b2 : (t.kind == 13) = true := by rw [h13]; rfl
                have hd1 : 0 ≤ d - 1 := by have h := hp; unfold dstep at h; rw [if_neg h12, if_pos h13] at h; exact h
                have b5 : decide (d - 1 < 0) = false := by simp; omega
                have HD2 : Hid (dep (l.take (i + 1)) = d - 1) := by show dep _ = _; rw [HD.out]; unfold dstep; rw [if_neg h12, if_pos h13]
                clear hq hp e14 hl1 h12 h13
                go_wp2
                go_roundg n
                case measure => omega
                case rel => exact ⟨i + 1, by omega, by omega, by rw [HD2.out], by go_num, HW3⟩
              · have b2 : (t.kind == 13) = false := by rw [beq_eq_false_iff_ne]; exact h13
                have b5 : decide (d < 0) = false := by simp; omega
                have HD2 : Hid (dep (l.take (i + 1)) = d) := by show dep _ = _; rw [HD.out]; unfold dstep; rw [if_neg h12, if_neg h13]
                clear hq hp e14 hl1 h12 h13
                go_wp2
                go_roundg n
                case measure => omega
                case rel => exact ⟨i + 1, by omega, by omega, by rw [HD2.out], by go_num, HW3⟩
        · have hii : decide ((i : Int) < (l.length : Int)) = false := by simp; omega
          have hdz : dep (l.take i) = 0 := by
            rw [List.take_of_length_le (by omega)]; exact HF.out.2.1
          have hlp : (0 : Int) < (l.length : Int) := by have := HF.out.1; omega
          rw [hdz]
          clear hdz
          go_wp2
          go_ret
          exact ⟨ret_bool (by simpa using HF.out.1), HB2.out.trans (HW.out.mono HB2.out.size)⟩
end Go.Proofs.YtcfdmkpgnphhiaaDoor
