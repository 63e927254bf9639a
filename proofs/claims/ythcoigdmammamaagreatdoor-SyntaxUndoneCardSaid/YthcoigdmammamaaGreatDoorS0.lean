/- Trees in memory: what is read of them, and what leaves them as they are. -/
import Derived.Test.YthcoigdmammamaaGreatDoorChecked
import Derived.WalkKit
import Derived.WalkLawsBesides
import Derived.WalkSpells
import Derived.Lib.Hide
import Derived.Below
namespace Go.Proofs.YthcoigdmammamaaGreatDoor
open Go.RowKit

/-- A node of a tree. -/
inductive Nd where
  | mk (k : Int) (t : ByteArray) (n : Int) (kids : List Nd) (a : Int)
def Nd.kind : Nd → Int | .mk k _ _ _ _ => k
def Nd.text : Nd → ByteArray | .mk _ t _ _ _ => t
def Nd.num : Nd → Int | .mk _ _ n _ _ => n
def Nd.kids : Nd → List Nd | .mk _ _ _ l _ => l
def Nd.at_ : Nd → Int | .mk _ _ _ _ a => a
def Nd0 : Nd := .mk 0 .empty 0 [] 0
theorem Nd.size_kid {x : Nd} {i : Nat} (h : i < x.kids.length) : SizeOf.sizeOf (x.kids.getD i Nd0) < SizeOf.sizeOf x := by
  obtain ⟨k, t, n, l, a⟩ := x
  have h' : i < l.length := h
  have e : (Nd.mk k t n l a).kids.getD i Nd0 = l[i] := by
    show l.getD i Nd0 = _
    simp [List.getD_eq_getElem?_getD, List.getElem?_eq_getElem h']
  rw [e]
  have h1 : SizeOf.sizeOf l[i] < SizeOf.sizeOf l := List.sizeOf_lt_of_mem (List.getElem_mem h')
  have h2 := Nd.mk.sizeOf_spec k t n l a
  omega

mutual
/-- How many nodes. -/
def Nd.nodes : Nd → Nat
  | .mk _ _ _ l _ => 1 + nodesL l
def nodesL : List Nd → Nat
  | [] => 0
  | x :: r => x.nodes + nodesL r
end
mutual
/-- How many bytes of texts. -/
def Nd.bytes : Nd → Nat
  | .mk _ t _ l _ => t.size + bytesL l
def bytesL : List Nd → Nat
  | [] => 0
  | x :: r => x.bytes + bytesL r
end
theorem Nd.nodes_eq (x : Nd) : x.nodes = 1 + nodesL x.kids := by cases x; rw [Nd.nodes]; rfl
theorem Nd.bytes_eq (x : Nd) : x.bytes = x.text.size + bytesL x.kids := by cases x; rw [Nd.bytes]; rfl
theorem nodesL_app (a : List Nd) (x : Nd) : nodesL (a ++ [x]) = nodesL a + x.nodes := by
  induction a with
  | nil => show x.nodes + 0 = 0 + x.nodes; omega
  | cons y r ih => show y.nodes + nodesL (r ++ [x]) = y.nodes + nodesL r + x.nodes; rw [ih]; omega
theorem bytesL_app (a : List Nd) (x : Nd) : bytesL (a ++ [x]) = bytesL a + x.bytes := by
  induction a with
  | nil => show x.bytes + 0 = 0 + x.bytes; omega
  | cons y r ih => show y.bytes + bytesL (r ++ [x]) = y.bytes + bytesL r + x.bytes; rw [ih]; omega
theorem nd_take {l : List Nd} {i : Nat} (h : i < l.length) : l.take (i + 1) = l.take i ++ [l.getD i Nd0] := by
  rw [List.take_succ_eq_append_getElem h, List.getD_eq_getElem?_getD, List.getElem?_eq_getElem h]
  rfl
/-- What a program's values keep to. -/
structure Nd.ok (x : Nd) : Prop where
  sz : x.text.size ≤ 140737488355328
  k0 : -9223372036854775808 ≤ x.kind
  k1 : x.kind ≤ 9223372036854775807
  n0 : -9223372036854775808 ≤ x.num
  n1 : x.num ≤ 9223372036854775807
  a0 : -9223372036854775808 ≤ x.at_
  a1 : x.at_ ≤ 9223372036854775807
/-- The cells of a node; v: what its list of kids is in memory. -/
structure NC (w : World) (b o : Nat) (x : Nd) (v : Value) : Prop where
  c0 : w.cell? ⟨b, o, none⟩ = some (.int .i64 x.kind)
  c1 : w.cell? ⟨b, o + 1, none⟩ = some (.string x.text)
  c2 : w.cell? ⟨b, o + 2, none⟩ = some (.int .i64 x.num)
  c3 : w.cell? ⟨b, o + 3, none⟩ = some v
  c4 : w.cell? ⟨b, o + 4, none⟩ = some (.int .i64 x.at_)
  ok : x.ok
  fz : w.frozen? ⟨b, o, none⟩ = false
/-- A list of trees in memory, all of it in blocks of a kind. -/
inductive LsS (w : World) (S : Nat → Prop) : Value → List Nd → Prop
  | nil (a : Option Addr) (c : Nat) : LsS w S (.slice a 0 c) []
  | row (b off cap : Nat) (l : List Nd) (vs : Nat → Value) : S b → l.length ≤ cap → (∀ i, i < l.length → NC w b (off + i * 5) (l.getD i Nd0) (vs i)) → (∀ i, i < l.length → LsS w S (vs i) (l.getD i Nd0).kids) →
      LsS w S (.slice (some ⟨b, off, none⟩) l.length cap) l
/-- .. below a block. -/
abbrev Ls (w : World) (B : Nat) (v : Value) (l : List Nd) : Prop := LsS w (fun k => k < B) v l
theorem NC.of {w w' : World} {b o : Nat} {x : Nd} {v : Value} (h : NC w b o x v) (hb : w'.heap[b]? = w.heap[b]?) : NC w' b o x v := by
  obtain ⟨t0, t1, t2, t3, t4, t5, t6⟩ := h
  exact ⟨(World.cell?_of_block (w := w) (w' := w') (a := ⟨b, _, none⟩) hb).trans t0, (World.cell?_of_block (w := w) (w' := w') (a := ⟨b, _, none⟩) hb).trans t1, (World.cell?_of_block (w := w) (w' := w') (a := ⟨b, _, none⟩) hb).trans t2, (World.cell?_of_block (w := w) (w' := w') (a := ⟨b, _, none⟩) hb).trans t3, (World.cell?_of_block (w := w) (w' := w') (a := ⟨b, _, none⟩) hb).trans t4, t5, (World.frozen?_of_block (w := w) (w' := w') (a := ⟨b, _, none⟩) hb).trans t6⟩
theorem LsS.of {w w' : World} {S S' : Nat → Prop} {v : Value} {l : List Nd} (h : LsS w S v l) (hb : ∀ k, S k → w'.heap[k]? = w.heap[k]?) (hs : ∀ k, S k → S' k) : LsS w' S' v l := by
  induction h with
  | nil a c => exact .nil a c
  | row b off cap l vs h1 h2 h3 _ ih => exact .row b off cap l vs (hs b h1) h2 (fun i hi => (h3 i hi).of (hb b h1)) ih
theorem Ls.of {w w' : World} {B : Nat} {v : Value} {l : List Nd} (h : Ls w B v l) (hb : ∀ k, k < B → w'.heap[k]? = w.heap[k]?) : Ls w' B v l := LsS.of h hb (fun _ h => h)
theorem Ls.bel {w w' : World} {B : Nat} {v : Value} {l : List Nd} (h : Ls w B v l) (hb : Below B w w') : Ls w' B v l := h.of hb.block
theorem Ls.slice {w : World} {B : Nat} {v : Value} {l : List Nd} (h : Ls w B v l) : ∃ a c, v = .slice a l.length c := by
  cases h with
  | nil => exact ⟨_, _, rfl⟩
  | row b off cap l vs => exact ⟨_, _, rfl⟩
/-- A node as a value. -/
abbrev nv (x : Nd) (v : Value) : Value := .agg #[.int .i64 x.kind, .string x.text, .int .i64 x.num, v, .int .i64 x.at_]
/-- .. as a block. -/
abbrev NB (x : Nd) (v : Value) : Obj := .cells #[.int .i64 x.kind, .string x.text, .int .i64 x.num, v, .int .i64 x.at_] 24
section
variable {w : World} {b : Nat} {xs : Array Value} {t : TypeId}
theorem lt_of_block {o : Obj} (h : w.heap[b]? = some o) : b < w.heap.size := (Array.getElem?_eq_some_iff.1 h).1
theorem blk_cell (h : w.heap[b]? = some (.cells xs t (0, 0))) (i : Nat) : w.cell? ⟨b, i, none⟩ = xs[i]? := by simp [World.cell?, h]
theorem blk_free (h : w.heap[b]? = some (.cells xs t (0, 0))) (i : Nat) : w.frozen? ⟨b, i, none⟩ = false := by simp [World.frozen?, h]
theorem blk_set (h : w.heap[b]? = some (.cells xs t (0, 0))) (i : Nat) (v : Value) : (w.setCell ⟨b, i, none⟩ v).heap[b]? = some (.cells (xs.setIfInBounds i v) t (0, 0)) := by
  have hlt := lt_of_block h
  have h' : w.heap[b] = .cells xs t (0, 0) := by simpa [Array.getElem?_eq_getElem hlt] using h
  show (w.heap.modify b _)[b]? = _
  rw [Array.getElem?_eq_getElem (by simpa using hlt), Array.getElem_modify_self, h']
  rfl
theorem alloc_blk (w : World) (o : Obj) : (w.alloc o).heap[w.heap.size]? = some o := heap_alloc_new w o
end
end Go.Proofs.YthcoigdmammamaaGreatDoor
