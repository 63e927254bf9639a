/- What a token comes to in the layouter; the regions stay well formed. No program. -/
import Derived.Test.YtkfkgdkfgpofnaaDoorH7
import Derived.Test.YtkfkgdkfgpofnaaDoorH8
import Derived.Test.YtkfkgdkfgpofnaaDoorH9
import Derived.Test.YtkfkgdkfgpofnaaDoorJ0
namespace Go.Proofs.YtkfkgdkfgpofnaaDoor
open Go.RowKit

/-- Ahead of the brackets. -/
def mhead (inp : List Tok) (i : Nat) (l : LS) : Except Flt LS :=
  if i = 0 then .ok ⟨l.out, l.regs ++ [⟨0, (inp.getD i Tz).col, 0⟩], (inp.getD i Tz).col⟩
  else if (inp.getD (i - 1) Tz).line < (inp.getD i Tz).line then mline inp i ⟨l.out, l.regs, (inp.getD i Tz).col⟩ else .ok l
/-- One token. -/
def mstep (inp : List Tok) (i : Nat) (l : LS) : Except Flt LS :=
  match mhead inp i l with
  | .error f => .error f
  | .ok l1 => match mopen inp i l1 with
    | .error f => .error f
    | .ok l2 => match mclose inp i l2 with
      | .error f => .error f
      | .ok l3 => .ok ⟨l3.out ++ [inp.getD i Tz], l3.regs, l3.m⟩
def ylayF (inp : List Tok) : Nat → Nat → LS → Except Flt LS
  | 0, _, l => mend inp l
  | n + 1, i, l => match mstep inp i l with
    | .error f => .error f
    | .ok l' => ylayF inp n (i + 1) l'
def mlay (inp : List Tok) : Except Flt LS := ylayF inp inp.length 0 ⟨[], [], 0⟩

/-- The outermost region is an indentation. -/
def Gd (rs : List Rg) : Prop := rs ≠ [] ∧ (rs.getD 0 Rz).closer = 0
theorem Gd.dropLast {rs : List Rg} (h : Gd rs) (h1 : 1 < rs.length) : Gd rs.dropLast := by
  obtain ⟨h2, h3⟩ := h
  refine ⟨by intro e; have := congrArg List.length e; simp at this; omega, ?_⟩
  rw [List.getD_eq_getElem?_getD] at h3 ⊢
  rw [List.getElem?_dropLast, if_pos (by omega)]; exact h3
theorem Gd.app {rs : List Rg} (h : Gd rs) (r : Rg) : Gd (rs ++ [r]) := by
  obtain ⟨h2, h3⟩ := h
  refine ⟨by simp, ?_⟩
  rw [List.getD_eq_getElem?_getD] at h3 ⊢
  rw [List.getElem?_append_left (by have := List.length_pos_iff.mpr h2; omega)]; exact h3
theorem outF_gd (t : Tok) (n : Nat) : ∀ (o : List Tok) (rs : List Rg) (p : Bool), Gd rs → Gd (outF t n o rs p).2.1 ∧ (outF t n o rs p).2.1.length ≤ rs.length := by
  induction n with
  | zero => intro o rs p h; exact ⟨h, Nat.le_refl _⟩
  | succ n ih =>
    intro o rs p h
    rw [outF]
    split
    · rename_i hc
      have := ih (o ++ [layTok 13 t]) rs.dropLast true (h.dropLast hc.1)
      refine ⟨this.1, Nat.le_trans this.2 ?_⟩
      simp
    · exact ⟨h, Nat.le_refl _⟩
theorem closeF_gd (t : Tok) (n : Nat) : ∀ (o : List Tok) (rs : List Rg), Gd rs → Gd (closeF t n o rs).2 ∧ (closeF t n o rs).2.length ≤ rs.length ∧ (closeF t n o rs).1.length + (closeF t n o rs).2.length = o.length + rs.length := by
  induction n with
  | zero => intro o rs h; exact ⟨h, Nat.le_refl _, rfl⟩
  | succ n ih =>
    intro o rs h
    rw [closeF]
    split
    · rename_i hc
      obtain ⟨a, b, c⟩ := ih (o ++ [layTok 13 t]) rs.dropLast (h.dropLast hc.1)
      refine ⟨a, Nat.le_trans b (by simp), ?_⟩
      rw [c]; simp; omega
    · exact ⟨h, Nat.le_refl _, rfl⟩
theorem push_gd {l l' : LS} {i : Int} {r : Rg} (h : l.push i r = .ok l') (hg : Gd l.regs) : Gd l'.regs ∧ l'.regs.length ≤ 64 ∧ l'.m = l.m := by
  unfold LS.push at h
  split at h
  · cases h
  · injection h with h; subst h; exact ⟨hg.app r, by simp; omega, rfl⟩
theorem moutd_gd {t : Tok} {l l' : LS} (h : moutd t l = .ok l') (hg : Gd l.regs) : Gd l'.regs ∧ l'.regs.length ≤ l.regs.length := by
  unfold moutd at h
  split at h
  · cases h
  · injection h with h; subst h; exact outF_gd _ _ _ _ _ hg
theorem mline_gd {inp : List Tok} {i : Nat} {l l' : LS} (h : mline inp i l = .ok l') (hg : Gd l.regs) (hl : l.regs.length ≤ 64) : Gd l'.regs ∧ l'.regs.length ≤ 64 ∧ l'.out.length + l'.regs.length ≤ l.out.length + l.regs.length + 3 := by
  unfold mline at h
  split at h
  · injection h with h; subst h; exact ⟨hg, hl, by omega⟩
  · rcases hp : (if openerB (inp.getD (i - 1) Tz) = true ∧ (lastR l.regs).width < (inp.getD i Tz).col then LS.push ⟨l.out ++ [layTok 12 (inp.getD i Tz)], l.regs, l.m⟩ i ⟨0, (inp.getD i Tz).col, 0⟩ else moutd (inp.getD i Tz) l) with f | l1
    · rw [hp] at h; cases h
    · rw [hp] at h
      injection h with h
      have hh : Gd l1.regs ∧ l1.regs.length ≤ 64 ∧ l1.out.length + l1.regs.length ≤ l.out.length + l.regs.length + 2 := by
        split at hp
        · have h1 := push_gd hp hg
          have h2 := push_len hp
          simp at h2
          exact ⟨h1.1, h1.2.1, by omega⟩
        · have h1 := moutd_gd hp hg
          have h2 := moutd_len hp
          exact ⟨h1.1, by omega, by omega⟩
      subst h
      split
      · refine ⟨hh.1, hh.2.1, ?_⟩
        simp; omega
      · exact ⟨hh.1, hh.2.1, by omega⟩
theorem mopen_gd {inp : List Tok} {i : Nat} {l l' : LS} (h : mopen inp i l = .ok l') (hg : Gd l.regs) (hl : l.regs.length ≤ 64) : Gd l'.regs ∧ l'.regs.length ≤ 64 ∧ l'.out.length + l'.regs.length ≤ l.out.length + l.regs.length + 1 := by
  unfold mopen at h
  split at h
  · split at h
    · injection h with h; subst h; exact ⟨hg, hl, by omega⟩
    · have h1 := push_gd h hg
      have h2 := push_len h
      exact ⟨h1.1, h1.2.1, by omega⟩
  · injection h with h; subst h; exact ⟨hg, hl, by omega⟩
theorem close_byte {t : Tok} (h : isClose t = true) : bt t.text 0 ≠ 0 := by
  simp only [isClose, Bool.and_eq_true, Bool.or_eq_true, beq_iff_eq] at h
  have e : bt t.text 0 = (t.text.toList.getD 0 0).toNat := by unfold bt; rw [ByteArray.toList_eq]
  rw [e]
  rcases h.2 with (h | h) | h <;> (rw [h]; decide)
theorem mclose_gd {inp : List Tok} {i : Nat} {l l' : LS} (h : mclose inp i l = .ok l') (hg : Gd l.regs) (hl : l.regs.length ≤ 64) : Gd l'.regs ∧ l'.regs.length ≤ 64 ∧ l'.out.length + l'.regs.length ≤ l.out.length + l.regs.length := by
  unfold mclose at h
  split at h
  · rename_i hc
    have hb := close_byte hc
    obtain ⟨a, b, c⟩ := closeF_gd (inp.getD i Tz) (l.regs.length + 1) l.out l.regs hg
    generalize closeF (inp.getD i Tz) (l.regs.length + 1) l.out l.regs = r at *
    split at h
    · rename_i hq
      injection h with h; subst h
      have h1 : 1 < r.2.length := by
        have h0 : 0 < r.2.length := List.length_pos_iff.mpr a.1
        rcases Nat.lt_or_ge 1 r.2.length with h | h
        · exact h
        · exfalso
          have hlen : r.2.length = 1 := by omega
          obtain ⟨x, hx⟩ := List.length_eq_one_iff.mp hlen
          have := a.2
          rw [hx] at this hq
          apply hb
          rw [← hq]
          exact this
      exact ⟨a.dropLast h1, by simp; omega, by simp; omega⟩
    · cases h
  · injection h with h; subst h; exact ⟨hg, hl, Nat.le_refl _⟩
theorem Yd.margin {S : List (Nat × Obj)} {b : Nat} {w0 w : World} {inp : List Tok} {t : LS} (h : Yd S b w0 w inp t) (q : Int) : Yd S b w0 (w.setCell ⟨b, 3, none⟩ (.int .i64 q)) inp ⟨t.out, t.regs, q⟩ := by
  obtain ⟨vi, vo, vr, h, hs⟩ := h
  exact ⟨vi, vo, vr, h.mv (yb_margin h.blk q) ((Fr.refl b w).set _ _), hs.set⟩
end Go.Proofs.YtkfkgdkfgpofnaaDoor
