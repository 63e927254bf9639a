/- The model of the reader's methods that add tokens: their state, put, putName, openMark. -/
import Derived.Test.YtkfkgdkfgpofnaaDoorD1
import Derived.Test.YtkfkgdkfgpofnaaDoorC1
namespace Go.Proofs.YtkfkgdkfgpofnaaDoor
open Go.RowKit

structure St where
  p : Nat
  l : Nat
  g : Nat
  out : List Tok
  op : List Br
abbrev Flt := Int × Int
def St.put (t : St) (k : Int) (x : ByteArray) (st en : Nat) : St := { t with p := en, out := t.out ++ [⟨k, x, st, t.l, (st : Int) - t.g⟩] }
def St.putN (t : St) (k : Int) (x : ByteArray) (st en : Nat) : Except Flt St := if 64 < x.size then .error (st, 18) else .ok (t.put k x st en)
def St.opens (t : St) (m : ByteArray) (inside : Bool) : St := { t with op := t.op ++ [⟨closerOf m.toList, t.p, inside⟩] }
def St.openMark (t : St) (m : ByteArray) (inside : Bool) : Except Flt St := if 64 ≤ t.op.length then .error (t.p, 8) else .ok ((t.opens m inside).put 3 m t.p (t.p + m.size))
/-- A part of the text. -/
abbrev sub (s : ByteArray) (a e : Nat) : ByteArray := s.extract a e

/-- The bounds of a state. -/
structure St.Ok (t : St) (s : ByteArray) : Prop where
  p : t.p ≤ s.size
  l : t.l ≤ t.p
  g : t.g ≤ t.p
  out : t.out.length ≤ 400000
  op : t.op.length ≤ 64
/-- .. between two tokens. -/
structure St.Good (t : St) (s : ByteArray) : Prop where
  p : t.p ≤ s.size
  l : t.l ≤ t.p
  g : t.g ≤ t.p
  out : t.out.length ≤ 2 * t.p
  op : t.op.length ≤ 64
theorem St.Good.ok {t : St} {s : ByteArray} (h : t.Good s) (hs : s.size < 100000) : t.Ok s := ⟨h.p, h.l, h.g, by have := h.out; have := h.p; omega, h.op⟩

/-- The reader in a state. -/
def Sd (b : Nat) (s : ByteArray) (w0 w : World) (t : St) : Prop := ∃ vo vp, Rd b s w0 w t.p t.l t.g t.out t.op vo vp

/-- What a method comes to. -/
def Tk (b : Nat) (s : ByteArray) (w0 : World) (r : Except Flt St) (e : Ending) (w' : World) : Prop :=
  match r with
  | .ok t => e = .returned (.tuple #[]) ∧ Sd b s w0 w' t
  | .error f => e = .panicked [{ v := .iface 26 (.agg #[.int .i64 f.1, .int .i64 f.2]), recovered := false }] ∧ Below b w0 w'

theorem Rd.drew {b : Nat} {s : ByteArray} {w0 w : World} {p l g : Nat} {out : List Tok} {op : List Br} {vo vp : Value} (h : Rd b s w0 w p l g out op vo vp) : Rd b s w0 w.drew p l g out op vo vp := h.mv h.blk (Fr.refl b w).drew
theorem Rd.drewN {b : Nat} {s : ByteArray} {w0 w : World} {p l g : Nat} {out : List Tok} {op : List Br} {vo vp : Value} (h : Rd b s w0 w p l g out op vo vp) (n : Nat) : Rd b s w0 (w.drewN n) p l g out op vo vp := h.mv h.blk ((Fr.refl b w).drewN n)
theorem Sd.drew {b : Nat} {s : ByteArray} {w0 w : World} {t : St} (h : Sd b s w0 w t) : Sd b s w0 w.drew t := by obtain ⟨vo, vp, h⟩ := h; exact ⟨vo, vp, h.drew⟩
theorem Sd.drewN {b : Nat} {s : ByteArray} {w0 w : World} {t : St} (h : Sd b s w0 w t) (n : Nat) : Sd b s w0 (w.drewN n) t := by obtain ⟨vo, vp, h⟩ := h; exact ⟨vo, vp, h.drewN n⟩
theorem Sd.bel {b : Nat} {s : ByteArray} {w0 w : World} {t : St} (h : Sd b s w0 w t) : Below b w0 w := by obtain ⟨vo, vp, h⟩ := h; exact h.bel
theorem Rd.tab {b : Nat} {s : ByteArray} {w0 w : World} {p l g : Nat} {out : List Tok} {op : List Br} {vo vp : Value} (h : Rd b s w0 w p l g out op vo vp) (hT : Tab w0) (hb : 0 < b) : Tab w :=
  fun i hi => by rw [h.bel.cell (p := ⟨0, i, none⟩) hb]; exact hT i hi
theorem Sd.tab {b : Nat} {s : ByteArray} {w0 w : World} {t : St} (h : Sd b s w0 w t) (hT : Tab w0) (hb : 0 < b) : Tab w := by obtain ⟨vo, vp, h⟩ := h; exact h.tab hT hb

/-- put, putName, on states. -/
theorem put_st (b : Nat) (s : ByteArray) (w0 : World) (t : St) (k : Int) (x : ByteArray) (st en : Nat) (w : World) (h : Sd b s w0 w t) (ho : t.out.length ≤ 1000000) (hst : st < 1000000) (hen : en < 1000000) (hg : t.g < 1000000) :
    Calls Tryd.prog 48 #[.pointer (some ⟨b, 0, none⟩), .int .i64 k, .string x, .int .i64 st, .int .i64 en] w fun e w' => e = .returned (.tuple #[]) ∧ Sd b s w0 w' (t.put k x st en) := by
  obtain ⟨vo, vp, h⟩ := h
  exact (put_any b s w0 t.p t.l t.g vo vp t.out t.op k x st en w h ho hst hen hg).mono fun e w' hh => hh
theorem putName_st (b : Nat) (s : ByteArray) (w0 : World) (t : St) (k : Int) (x : ByteArray) (st en : Nat) (w : World) (h : Sd b s w0 w t) (ho : t.out.length ≤ 1000000) (hst : st < 1000000) (hen : en < 1000000) (hg : t.g < 1000000) :
    Calls Tryd.prog 50 #[.pointer (some ⟨b, 0, none⟩), .int .i64 k, .string x, .int .i64 st, .int .i64 en] w (Tk b s w0 (t.putN k x st en)) := by
  obtain ⟨vo, vp, h⟩ := h
  refine (putName_any b s w0 t.p t.l t.g vo vp t.out t.op k x st en w h ho hst hen hg).mono fun e w' hh => ?_
  unfold PutN at hh
  unfold St.putN
  split
  · rename_i hx; rw [if_pos hx] at hh; exact hh
  · rename_i hx; rw [if_neg hx] at hh; exact hh
end Go.Proofs.YtkfkgdkfgpofnaaDoor
