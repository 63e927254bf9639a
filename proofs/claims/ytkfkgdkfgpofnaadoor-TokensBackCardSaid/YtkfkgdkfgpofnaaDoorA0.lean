/- Small facts on blocks that are known whole, and on worlds in which one block alone may have turned. No program. -/
import Derived.WalkKit
import Derived.WalkLawsBesides
import Derived.WalkSpells
import Derived.OneCell
import Derived.Lib.Hide
import Derived.Deep.QuietTactic
import Derived.BigQuiet
namespace Go.Proofs.YtkfkgdkfgpofnaaDoor
open Go.RowKit

section
variable {w : World} {b : Nat} {xs : Array Value} {t : TypeId}
theorem blk_cell (h : w.heap[b]? = some (.cells xs t (0, 0))) (i : Nat) : w.cell? ⟨b, i, none⟩ = xs[i]? := by simp [World.cell?, h]
theorem blk_free (h : w.heap[b]? = some (.cells xs t (0, 0))) (i : Nat) : w.frozen? ⟨b, i, none⟩ = false := by simp [World.frozen?, h]
theorem blk_set (h : w.heap[b]? = some (.cells xs t (0, 0))) (i : Nat) (v : Value) : (w.setCell ⟨b, i, none⟩ v).heap[b]? = some (.cells (xs.setIfInBounds i v) t (0, 0)) := by
  have hlt := lt_of_block h
  have h' : w.heap[b] = .cells xs t (0, 0) := by simpa [Array.getElem?_eq_getElem hlt] using h
  show (w.heap.modify b _)[b]? = _
  rw [Array.getElem?_eq_getElem (by simpa using hlt), Array.getElem_modify_self, h']
  rfl
end

theorem quiet_add_same {P : Program} {f : FuncId} {args : Array Value} {w : World} {a n : Nat} {v : Value}
    (h : Calls P f args (w.drewN (a + n)) fun e w' => e = .returned v ∧ w' = w.drewN (a + n)) :
    Calls P f args (w.drewN (a + n)) fun e w'' => e = .returned v ∧ ∃ m, w'' = w.drewN (a + m) :=
  h.mono fun _ _ ⟨he, hm⟩ => ⟨he, n, hm⟩
theorem quiet_add_left {P : Program} {f : FuncId} {args : Array Value} {w : World} {a n : Nat} {v : Value}
    (h : Calls P f args (w.drewN (a + n)) fun e w' => e = .returned v ∧ w.drewN (a + n) = w') :
    Calls P f args (w.drewN (a + n)) fun e w'' => e = .returned v ∧ ∃ m, w'' = w.drewN (a + m) :=
  h.mono fun _ _ ⟨he, hm⟩ => ⟨he, n, hm.symm⟩
theorem quiet_left {P : Program} {f : FuncId} {args : Array Value} {w : World} {n : Nat} {v : Value}
    (h : Calls P f args (w.drewN n) fun e w' => e = .returned v ∧ w.drewN n = w') : Calls P f args (w.drewN n) fun e w'' => e = .returned v ∧ ∃ m, w'' = w.drewN m :=
  h.mono fun _ _ ⟨he, hm⟩ => ⟨he, n, hm.symm⟩

/-- Other blocks than 'row' are as they were; the streams too. -/
abbrev Fr (row : Nat) (w w' : World) : Prop := w.grownBy w' (some row)
theorem Fr.refl (r : Nat) (w : World) : Fr r w w := ⟨rfl, rfl, rfl, Nat.le_refl _, fun _ _ _ => rfl⟩
theorem Fr.trans {r : Nat} {a b c : World} (h : Fr r a b) (k : Fr r b c) : Fr r a c :=
  ⟨k.os.trans h.os, k.tape.trans h.tape, k.output.trans h.output, Nat.le_trans h.size k.size, fun i hi hr => (k.block i (Nat.lt_of_lt_of_le hi h.size) hr).trans (h.block i hi hr)⟩
theorem Fr.set {r : Nat} {a w : World} (h : Fr r a w) (i : Nat) (v : Value) : Fr r a (w.setCell ⟨r, i, none⟩ v) :=
  h.trans ⟨rfl, rfl, rfl, by simp [World.setCell], fun k _ hr => Below.heap_setCell _ _ _ _ (fun e => hr (by simp [e]))⟩
theorem Fr.drewN {r : Nat} {a w : World} (h : Fr r a w) (n : Nat) : Fr r a (w.drewN n) := h.trans ⟨rfl, rfl, rfl, Nat.le_refl _, fun _ _ _ => rfl⟩
theorem Fr.drew {r : Nat} {a w : World} (h : Fr r a w) : Fr r a w.drew := h.trans ⟨rfl, rfl, rfl, Nat.le_refl _, fun _ _ _ => rfl⟩
/-- A block below, other than r, reads as it did. -/
theorem Fr.cell {r : Nat} {w w' : World} (h : Fr r w w') {a : Addr} {v : Value} (hc : w.cell? a = some v) (hne : a.block ≠ r) : w'.cell? a = some v :=
  World.grownBy.cell h hc (fun e => hne (Option.some.inj e))

/-- The object of the reader: its six cells. -/
def RB (s : ByteArray) (p line beg : Nat) (vo vp : Value) : Obj := .cells #[.string s, .int .i64 p, .int .i64 line, .int .i64 beg, vo, vp] 41 (0, 0)

structure RC (w : World) (b : Nat) (s : ByteArray) (p line beg : Nat) (vo vp : Value) : Prop where
  c0 : w.cell? ⟨b, 0, none⟩ = some (.string s)
  c1 : w.cell? ⟨b, 1, none⟩ = some (.int .i64 p)
  c2 : w.cell? ⟨b, 2, none⟩ = some (.int .i64 line)
  c3 : w.cell? ⟨b, 3, none⟩ = some (.int .i64 beg)
  c4 : w.cell? ⟨b, 4, none⟩ = some vo
  c5 : w.cell? ⟨b, 5, none⟩ = some vp
  f1 : w.frozen? ⟨b, 1, none⟩ = false
  f2 : w.frozen? ⟨b, 2, none⟩ = false
  f3 : w.frozen? ⟨b, 3, none⟩ = false
  f4 : w.frozen? ⟨b, 4, none⟩ = false
  f5 : w.frozen? ⟨b, 5, none⟩ = false
theorem rc {w : World} {b : Nat} {s : ByteArray} {p line beg : Nat} {vo vp : Value} (h : w.heap[b]? = some (RB s p line beg vo vp)) : RC w b s p line beg vo vp :=
  ⟨blk_cell h 0, blk_cell h 1, blk_cell h 2, blk_cell h 3, blk_cell h 4, blk_cell h 5, blk_free h 1, blk_free h 2, blk_free h 3, blk_free h 4, blk_free h 5⟩
section
variable {w : World} {b : Nat} {s : ByteArray} {p line beg : Nat} {vo vp : Value}
theorem rb_at (h : w.heap[b]? = some (RB s p line beg vo vp)) (q : Nat) : (w.setCell ⟨b, 1, none⟩ (.int .i64 q)).heap[b]? = some (RB s q line beg vo vp) := blk_set h 1 _
theorem rb_line (h : w.heap[b]? = some (RB s p line beg vo vp)) (q : Nat) : (w.setCell ⟨b, 2, none⟩ (.int .i64 q)).heap[b]? = some (RB s p q beg vo vp) := blk_set h 2 _
theorem rb_beg (h : w.heap[b]? = some (RB s p line beg vo vp)) (q : Nat) : (w.setCell ⟨b, 3, none⟩ (.int .i64 q)).heap[b]? = some (RB s p line q vo vp) := blk_set h 3 _
theorem rb_out (h : w.heap[b]? = some (RB s p line beg vo vp)) (v : Value) : (w.setCell ⟨b, 4, none⟩ v).heap[b]? = some (RB s p line beg v vp) := blk_set h 4 _
theorem rb_open (h : w.heap[b]? = some (RB s p line beg vo vp)) (v : Value) : (w.setCell ⟨b, 5, none⟩ v).heap[b]? = some (RB s p line beg vo v) := blk_set h 5 _
end
end Go.Proofs.YtkfkgdkfgpofnaaDoor
