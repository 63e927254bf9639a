/- Indents and outdents match: a property of the model of Scan. No program. -/
import Derived.Test.YtcfdmkpgnphhiaaDoorJ7
namespace Go.Proofs.YtcfdmkpgnphhiaaDoor
open Go.RowKit

def dstep (d : Int) (t : Tok) : Int := if t.kind = 12 then d + 1 else if t.kind = 13 then d - 1 else d
/-- How deep a list ends. -/
def dep (l : List Tok) : Int := l.foldl dstep 0
structure Bl (out : List Tok) (d : Int) : Prop where
  dep : dep out = d
  pre : ∀ n, 0 ≤ Go.Proofs.YtcfdmkpgnphhiaaDoor.dep (out.take n)
  kind : ∀ t ∈ out, t.kind ≠ 14
theorem Bl.nil : Bl [] 0 := ⟨rfl, fun n => by simp [Go.Proofs.YtcfdmkpgnphhiaaDoor.dep], by simp⟩
theorem Bl.app {out : List Tok} {d e : Int} {t : Tok} (h : Bl out d) (he : dstep d t = e) (h0 : 0 ≤ e) (hk : t.kind ≠ 14) : Bl (out ++ [t]) e := by
  have hd : Go.Proofs.YtcfdmkpgnphhiaaDoor.dep (out ++ [t]) = e := by
    unfold Go.Proofs.YtcfdmkpgnphhiaaDoor.dep
    rw [List.foldl_append]
    show dstep (Go.Proofs.YtcfdmkpgnphhiaaDoor.dep out) t = e
    rw [h.dep]; exact he
  refine ⟨hd, fun n => ?_, ?_⟩
  · rcases Nat.lt_or_ge out.length n with hn | hn
    · rw [List.take_of_length_le (by simp; omega), hd]; exact h0
    · rw [List.take_append_of_le_length hn]; exact h.pre n
  · intro u hu
    rcases List.mem_append.mp hu with hu | hu
    · exact h.kind u hu
    · rw [List.mem_singleton.mp hu]; exact hk

def cnt (rs : List Rg) : Int := ((rs.filter (fun r => r.closer == 0)).length : Int)
theorem cnt_app (rs : List Rg) (r : Rg) : cnt (rs ++ [r]) = cnt rs + if r.closer = 0 then 1 else 0 := by
  unfold cnt
  rw [List.filter_append, List.length_append]
  by_cases h : r.closer = 0
  · simp [h]
  · simp [h]
theorem cnt_last {rs : List Rg} (h : rs ≠ []) : cnt rs = cnt rs.dropLast + if (lastR rs).closer = 0 then 1 else 0 := by
  have e := last_split h
  generalize lastR rs = r at *
  generalize rs.dropLast = q at *
  rw [e, cnt_app]
theorem cnt_gd {rs : List Rg} (h : Gd rs) : 1 ≤ cnt rs := by
  obtain ⟨h1, h2⟩ := h
  rcases rs with _ | ⟨r, q⟩
  · exact absurd rfl h1
  · have h2 : r.closer = 0 := h2
    unfold cnt
    rw [List.filter_cons_of_pos (by simp [h2])]
    simp
    omega

theorem outF_bl (t : Tok) (n : Nat) : ∀ (o : List Tok) (rs : List Rg) (p : Bool), Gd rs → Bl o (cnt rs - 1) → Bl (outF t n o rs p).1 (cnt (outF t n o rs p).2.1 - 1) := by
  induction n with
  | zero => intro o rs p _ h; exact h
  | succ n ih =>
    intro o rs p hg h
    rw [outF]
    split
    · rename_i hc
      have hd := hg.dropLast hc.1
      have hl := cnt_last hg.1
      rw [if_pos hc.2.1] at hl
      have h1 := cnt_gd hd
      exact ih _ _ _ hd (h.app (t := layTok 13 t) (by show dstep (cnt rs - 1) (layTok 13 t) = _; simp [dstep, layTok]; omega) (by omega) (by simp [layTok]))
    · exact h
theorem closeF_bl (t : Tok) (n : Nat) : ∀ (o : List Tok) (rs : List Rg), Gd rs → Bl o (cnt rs - 1) → Bl (closeF t n o rs).1 (cnt (closeF t n o rs).2 - 1) := by
  induction n with
  | zero => intro o rs _ h; exact h
  | succ n ih =>
    intro o rs hg h
    rw [closeF]
    split
    · rename_i hc
      have hd := hg.dropLast hc.1
      have hl := cnt_last hg.1
      rw [if_pos hc.2] at hl
      have h1 := cnt_gd hd
      exact ih _ _ hd (h.app (t := layTok 13 t) (by show dstep (cnt rs - 1) (layTok 13 t) = _; simp [dstep, layTok]; omega) (by omega) (by simp [layTok]))
    · exact h
theorem push_bl {l l' : LS} {i : Int} {r : Rg} (h : l.push i r = .ok l') : l'.out = l.out ∧ l'.regs = l.regs ++ [r] := by
  unfold LS.push at h
  split at h
  · cases h
  · injection h with h; subst h; exact ⟨rfl, rfl⟩
theorem moutd_bl {t : Tok} {l l' : LS} (h : moutd t l = .ok l') (hg : Gd l.regs) (hb : Bl l.out (cnt l.regs - 1)) : Bl l'.out (cnt l'.regs - 1) := by
  unfold moutd at h
  split at h
  · cases h
  · injection h with h; subst h; exact outF_bl _ _ _ _ _ hg hb
theorem mline_bl {inp : List Tok} {i : Nat} {l l' : LS} (h : mline inp i l = .ok l') (hg : Gd l.regs) (hb : Bl l.out (cnt l.regs - 1)) : Bl l'.out (cnt l'.regs - 1) := by
  unfold mline at h
  split at h
  · injection h with h; subst h; exact hb
  · rcases hp : (if openerB (inp.getD (i - 1) Tz) = true ∧ (lastR l.regs).width < (inp.getD i Tz).col then LS.push ⟨l.out ++ [layTok 12 (inp.getD i Tz)], l.regs, l.m⟩ i ⟨0, (inp.getD i Tz).col, 0⟩ else moutd (inp.getD i Tz) l) with f | l1
    · rw [hp] at h; cases h
    · rw [hp] at h
      injection h with h
      have hh : Gd l1.regs ∧ Bl l1.out (cnt l1.regs - 1) := by
        split at hp
        · have h1 := push_gd hp hg
          obtain ⟨e1, e2⟩ := push_bl hp
          refine ⟨h1.1, ?_⟩
          have hc := cnt_gd hg
          rw [e1, e2, cnt_app]
          exact hb.app (t := layTok 12 (inp.getD i Tz)) (by simp [dstep, layTok]) (by simp; omega) (by simp [layTok])
        · exact ⟨(moutd_gd hp hg).1, moutd_bl hp hg hb⟩
      subst h
      have hc := cnt_gd hh.1
      split
      · exact hh.2.app (t := layTok 11 (inp.getD i Tz)) (by simp [dstep, layTok]) (by simp only; omega) (by simp [layTok])
      · exact hh.2
theorem mopen_bl {inp : List Tok} {i : Nat} {l l' : LS} (h : mopen inp i l = .ok l') (hb : Bl l.out (cnt l.regs - 1)) : Bl l'.out (cnt l'.regs - 1) := by
  unfold mopen at h
  split at h
  · split at h
    · injection h with h; subst h; exact hb
    · rename_i hq
      obtain ⟨e1, e2⟩ := push_bl h
      rw [e1, e2, cnt_app, if_neg hq, Int.add_zero]
      exact hb
  · injection h with h; subst h; exact hb
theorem mclose_bl {inp : List Tok} {i : Nat} {l l' : LS} (h : mclose inp i l = .ok l') (hg : Gd l.regs) (hb : Bl l.out (cnt l.regs - 1)) : Bl l'.out (cnt l'.regs - 1) := by
  unfold mclose at h
  split at h
  · rename_i hc
    have hbt := close_byte hc
    have hx := closeF_bl (inp.getD i Tz) (l.regs.length + 1) l.out l.regs hg hb
    have hy := closeF_gd (inp.getD i Tz) (l.regs.length + 1) l.out l.regs hg
    generalize closeF (inp.getD i Tz) (l.regs.length + 1) l.out l.regs = r at *
    split at h
    · rename_i hq
      injection h with h; subst h
      have hl := cnt_last hy.1.1
      rw [if_neg (by rw [hq]; exact hbt), Int.add_zero] at hl
      show Bl r.1 (cnt r.2.dropLast - 1)
      rw [← hl]; exact hx
    · cases h
  · injection h with h; subst h; exact hb

theorem endBad_all (rs : List Rg) : ∀ n, endBad rs n = none → ∀ j, 1 ≤ j → j < n → (rs.getD j Rz).closer = 0 := by
  intro n
  induction n with
  | zero => intro _ j _ h; omega
  | succ n ih =>
    intro h j h1 h2
    rw [endBad] at h
    split at h
    · omega
    · split at h
      · rename_i hc
        rcases Nat.lt_or_ge j n with hj | hj
        · exact ih h j h1 hj
        · rw [show j = n from by omega]; exact hc
      · cases h
theorem cnt_all {rs : List Rg} (h : ∀ j, j < rs.length → (rs.getD j Rz).closer = 0) : cnt rs = rs.length := by
  unfold cnt
  rw [List.filter_eq_self.mpr]
  intro r hr
  obtain ⟨j, hj, he⟩ := List.getElem_of_mem hr
  have := h j hj
  rw [List.getD_eq_getElem?_getD, List.getElem?_eq_getElem hj] at this
  rw [← he]; simpa using this
theorem endF_bl (t : Tok) (n : Nat) : ∀ (o : List Tok) (rs : List Rg), rs.length < n → Bl o ((rs.length - 1 : Nat) : Int) → Bl (endF t n o rs).1 0 := by
  induction n with
  | zero => intro o rs h; omega
  | succ n ih =>
    intro o rs hn h
    rw [endF]
    split
    · rename_i hc
      refine ih _ _ (by simp; omega) ?_
      refine h.app (t := layTok 13 t) ?_ (by omega) (by simp [layTok])
      simp [dstep, layTok]
      omega
    · rename_i hc
      have : rs.length - 1 = 0 := by omega
      rw [this] at h
      exact h
/-- A list of tokens with layout, as it must be. -/
def Fin (l : List Tok) : Prop := ∃ o t, l = o ++ [t] ∧ t.kind = 14 ∧ Bl o 0
theorem mend_bl {inp : List Tok} {l l' : LS} (h : mend inp l = .ok l') (hg : (l.regs = [] ∧ l.out = []) ∨ (Gd l.regs ∧ Bl l.out (cnt l.regs - 1))) : Fin l'.out := by
  unfold mend at h
  rcases hb : endBad l.regs l.regs.length with _ | k
  · rw [hb] at h
    injection h with h; subst h
    refine ⟨_, _, rfl, rfl, endF_bl _ _ _ _ (by omega) ?_⟩
    rcases hg with ⟨h1, h2⟩ | ⟨h1, h2⟩
    · rw [h1, h2]; exact Bl.nil
    · have hl := List.length_pos_iff.mpr h1.1
      rw [cnt_all (rs := l.regs)] at h2
      · rw [show ((l.regs.length - 1 : Nat) : Int) = (l.regs.length : Int) - 1 from by omega]; exact h2
      · intro j hj
        rcases Nat.eq_zero_or_pos j with rfl | hj0
        · exact h1.2
        · exact endBad_all _ _ hb j hj0 hj
  · rw [hb] at h; cases h
theorem ylayF_bl {inp : List Tok} (hk : ∀ j, j < inp.length → (inp.getD j Tz).kind ≤ 10) (n : Nat) : ∀ (i : Nat) (l l' : LS), i + n = inp.length → l.regs.length ≤ 64 → ((i = 0 ∧ l = ⟨[], [], 0⟩) ∨ (0 < i ∧ Gd l.regs ∧ Bl l.out (cnt l.regs - 1))) → ylayF inp n i l = .ok l' → Fin l'.out := by
  induction n with
  | zero =>
    intro i l l' hi _ hg h
    rw [ylayF] at h
    refine mend_bl h ?_
    rcases hg with ⟨_, rfl⟩ | ⟨_, hg⟩
    · exact Or.inl ⟨rfl, rfl⟩
    · exact Or.inr hg
  | succ n ih =>
    intro i l l' hi hl hg h
    rw [ylayF] at h
    rcases hs : mstep inp i l with f | l4
    · rw [hs] at h; cases h
    · rw [hs] at h
      unfold mstep at hs
      rcases h1 : mhead inp i l with f | l1
      · rw [h1] at hs; cases hs
      · rw [h1] at hs
        simp only at hs
        rcases h2 : mopen inp i l1 with f | l2
        · rw [h2] at hs; cases hs
        · rw [h2] at hs
          simp only at hs
          rcases h3 : mclose inp i l2 with f | l3
          · rw [h3] at hs; cases hs
          · rw [h3] at hs
            injection hs with hs
            have g1 := mhead_gd h1 (by rcases hg with hg | hg; exact Or.inl hg; exact Or.inr ⟨hg.1, hg.2.1⟩) hl
            have b1 : Bl l1.out (cnt l1.regs - 1) := by
              unfold mhead at h1
              rcases hg with ⟨h0, rfl⟩ | ⟨h0, hgd, hbl⟩
              · rw [if_pos h0] at h1
                injection h1 with h1; subst h1
                exact Bl.nil
              · rw [if_neg (by omega)] at h1
                split at h1
                · exact mline_bl (l := ⟨l.out, l.regs, (inp.getD i Tz).col⟩) h1 hgd hbl
                · injection h1 with h1; subst h1; exact hbl
            have g2 := mopen_gd h2 g1.1 g1.2.1
            have b2 := mopen_bl h2 b1
            have g3 := mclose_gd h3 g2.1 g2.2.1
            have b3 := mclose_bl h3 g2.1 b2
            have hc := cnt_gd g3.1
            have hki := hk i (by omega)
            subst hs
            refine ih (i + 1) ⟨l3.out ++ [inp.getD i Tz], l3.regs, l3.m⟩ l' (by omega) g3.2.1 (Or.inr ⟨by omega, g3.1, ?_⟩) h
            exact b3.app (t := inp.getD i Tz) (by unfold dstep; rw [if_neg (by omega), if_neg (by omega)]) (by show 0 ≤ cnt l3.regs - 1; omega) (by omega)
theorem badlF_kind (l : List Tok) (n : Nat) : ∀ i, (badlF l n i).2 = 0 → ∀ j, i ≤ j → j < i + n → (l.getD j Tz).kind ≤ 10 := by
  induction n with
  | zero => intro i _ j h1 h2; omega
  | succ n ih =>
    intro i h j h1 h2
    rw [badlF] at h
    split at h
    · cases h
    · rename_i hq
      split at h
      · cases h
      · rcases Nat.eq_or_lt_of_le h1 with rfl | h3
        · omega
        · exact ih (i + 1) h j h3 (by omega)
theorem mlayout_fin {l l' : List Tok} (h : mlayout l = .ok l') : Fin l' := by
  unfold mlayout at h
  split at h
  · cases h
  · rename_i hq
    have hz : (mbadl l).2 = 0 := by simpa using hq
    rcases hm : mlay l with f | t
    · rw [hm] at h; cases h
    · rw [hm] at h
      injection h with h; subst h
      exact ylayF_bl (fun j hj => badlF_kind l l.length 0 hz j (Nat.zero_le _) (by omega)) l.length 0 ⟨[], [], 0⟩ t (by omega) (by simp) (Or.inl ⟨rfl, rfl⟩) hm
theorem mscan_fin {s : ByteArray} {l : List Tok} (h : mscan s = .ok l) : Fin l := by
  unfold mscan at h
  rcases hm : mraw s with f | l0
  · rw [hm] at h
    simp only at h
    split at h
    · cases h
    · exact mlayout_fin h
  · rw [hm] at h; exact mlayout_fin h

/-- Faults have codes. -/
theorem push_code {l : LS} {i : Int} {r : Rg} {f : Flt} (h : l.push i r = .error f) : f.2 ≠ 0 := by
  unfold LS.push at h
  split at h
  · injection h with h; subst h; simp
  · cases h
theorem moutd_code {t : Tok} {l : LS} {f : Flt} (h : moutd t l = .error f) : f.2 ≠ 0 := by
  unfold moutd at h
  split at h
  · injection h with h; subst h; simp
  · cases h
theorem mline_code {inp : List Tok} {i : Nat} {l : LS} {f : Flt} (h : mline inp i l = .error f) : f.2 ≠ 0 := by
  unfold mline at h
  split at h
  · cases h
  · rcases hp : (if openerB (inp.getD (i - 1) Tz) = true ∧ (lastR l.regs).width < (inp.getD i Tz).col then LS.push ⟨l.out ++ [layTok 12 (inp.getD i Tz)], l.regs, l.m⟩ i ⟨0, (inp.getD i Tz).col, 0⟩ else moutd (inp.getD i Tz) l) with g | l1
    · rw [hp] at h
      injection h with h; subst h
      split at hp
      · exact push_code hp
      · exact moutd_code hp
    · rw [hp] at h; cases h
theorem mstep_code {inp : List Tok} {i : Nat} {l : LS} {f : Flt} (h : mstep inp i l = .error f) : f.2 ≠ 0 := by
  unfold mstep at h
  rcases h1 : mhead inp i l with g | l1
  · rw [h1] at h
    injection h with h; subst h
    unfold mhead at h1
    split at h1
    · cases h1
    · split at h1
      · exact mline_code h1
      · cases h1
  · rw [h1] at h
    simp only at h
    rcases h2 : mopen inp i l1 with g | l2
    · rw [h2] at h
      injection h with h; subst h
      unfold mopen at h2
      split at h2
      · split at h2
        · cases h2
        · exact push_code h2
      · cases h2
    · rw [h2] at h
      simp only at h
      rcases h3 : mclose inp i l2 with g | l3
      · rw [h3] at h
        injection h with h; subst h
        unfold mclose at h3
        split at h3
        · split at h3
          · cases h3
          · injection h3 with h3; subst h3; simp
        · cases h3
      · rw [h3] at h; cases h
theorem ylayF_code {inp : List Tok} (n : Nat) : ∀ (i : Nat) (l : LS) (f : Flt), ylayF inp n i l = .error f → f.2 ≠ 0 := by
  induction n with
  | zero =>
    intro i l f h
    rw [ylayF] at h
    unfold mend at h
    rcases hb : endBad l.regs l.regs.length with _ | k
    · rw [hb] at h; cases h
    · rw [hb] at h; injection h with h; subst h; simp
  | succ n ih =>
    intro i l f h
    rw [ylayF] at h
    rcases hs : mstep inp i l with g | l4
    · rw [hs] at h
      injection h with h; subst h
      exact mstep_code hs
    · rw [hs] at h; exact ih _ _ _ h
theorem mlayout_code {l : List Tok} {f : Flt} (h : mlayout l = .error f) : f.2 ≠ 0 := by
  unfold mlayout at h
  split at h
  · rename_i hq
    injection h with h; subst h
    simpa using hq
  · rcases hm : mlay l with g | t
    · rw [hm] at h
      injection h with h; subst h
      exact ylayF_code _ _ _ _ hm
    · rw [hm] at h; cases h
theorem mscan_code {s : ByteArray} {f : Flt} (h : mscan s = .error f) : f.2 ≠ 0 := by
  unfold mscan at h
  rcases hm : mraw s with g | l0
  · rw [hm] at h
    simp only at h
    split at h
    · rename_i hq
      injection h with h; subst h
      simpa using hq
    · exact mlayout_code h
  · rw [hm] at h; exact mlayout_code h
end Go.Proofs.YtcfdmkpgnphhiaaDoor
