/- below: what the rounds keep. -/
import Derived.Test.YthcoigdmammamaaGreatDoorS16
import Derived.Test.YthcoigdmammamaaGreatDoorS11
namespace Go.Proofs.YthcoigdmammamaaGreatDoor
open Go.RowKit Go.Shelf
set_option maxRecDepth 100000

mutual
/-- How many levels. -/
def Nd.high : Nd → Nat
  | .mk _ _ _ l _ => 1 + highL l
def highL : List Nd → Nat
  | [] => 0
  | x :: r => max x.high (highL r)
end
theorem Nd.high_eq (x : Nd) : x.high = 1 + highL x.kids := by cases x; rw [Nd.high]; rfl
theorem highL_mem (l : List Nd) (i : Nat) (h : i < l.length) : (l.getD i Nd0).high ≤ highL l := by
  induction l generalizing i with
  | nil => simp at h
  | cons x r ih =>
    rw [highL]
    cases i with
    | zero => exact Nat.le_max_left _ _
    | succ i => exact Nat.le_trans (ih i (by simpa using h)) (Nat.le_max_right _ _)
/-- How many nodes in some lists. -/
def nodesLL (ls : List (List Nd)) : Nat := (ls.map nodesL).sum
/-- How high the highest of some lists is. -/
def highLL (ls : List (List Nd)) : Nat := (ls.map highL).foldr max 0
theorem highLL_mem (ls : List (List Nd)) (i : Nat) (h : i < ls.length) : highL (ls.getD i []) ≤ highLL ls := by
  induction ls generalizing i with
  | nil => simp at h
  | cons x r ih =>
    show _ ≤ max (highL x) (highLL r)
    cases i with
    | zero => exact Nat.le_max_left _ _
    | succ i => exact Nat.le_trans (ih i (by simpa using h)) (Nat.le_max_right _ _)
theorem nodesLL_app (a : List (List Nd)) (l : List Nd) : nodesLL (a ++ [l]) = nodesLL a + nodesL l := by simp [nodesLL]
theorem nodesLL_take (ls : List (List Nd)) (i : Nat) : nodesLL (ls.take i) ≤ nodesLL ls := by
  induction ls generalizing i with
  | nil => simp
  | cons x r ih =>
    cases i with
    | zero => simp [nodesLL]
    | succ i => have := ih i; simp [nodesLL] at this ⊢; omega
theorem ll_take {ls : List (List Nd)} {i : Nat} (h : i < ls.length) : ls.take (i + 1) = ls.take i ++ [ls.getD i []] := by
  rw [List.take_succ_eq_append_getElem h, List.getD_eq_getElem?_getD, List.getElem?_eq_getElem h]
  rfl
/-- A list of lists of trees: its cells in a block of a kind, its trees below a block. -/
def LL (w : World) (B : Nat) (v : Value) (ls : List (List Nd)) : Prop :=
  (v = .slice none 0 0 ∧ ls = []) ∨ ∃ (b off cap : Nat) (vs : Nat → Value), v = .slice (some ⟨b, off, none⟩) ls.length cap ∧ b < w.heap.size ∧ ls.length ≤ cap ∧ ∀ i, i < ls.length → w.cell? ⟨b, off + i, none⟩ = some (vs i) ∧ Ls w B (vs i) (ls.getD i [])
theorem LL.slice {w : World} {B : Nat} {v : Value} {ls : List (List Nd)} (h : LL w B v ls) : ∃ a c, v = .slice a ls.length c := by
  rcases h with ⟨rfl, rfl⟩ | ⟨b, off, cap, vs, rfl, _⟩
  · exact ⟨_, _, rfl⟩
  · exact ⟨_, _, rfl⟩
/-- What the rounds of below keep: w the world at the start, W the present one; y the lists so far, p how many nodes were looked at. -/
structure BInv (w : World) (B h : Nat) (W : World) (y : Value) (p : Nat) where
  outs : List (Value × List Nd)
  own : W.ownsRow (w.heap.size + 1) 22 1 y outs.length (outs.map (·.1))
  all : ∀ o ∈ outs, Ls w B o.1 o.2 ∧ 0 < o.2.length ∧ highL o.2 + 1 ≤ h
  cnt : outs.length ≤ p
  sum : nodesLL (outs.map (·.2)) ≤ p
  es : Array MapEntry
  c : Nat
  map : W.heap[w.heap.size]? = some (.map es c)
  ents : Ents w.heap.size W es.toList
  bel : Below w.heap.size w W
/-- .. said as a sentence. -/
def BI (w : World) (B h : Nat) (W : World) (y : Value) (p : Nat) : Prop := Nonempty (BInv w B h W y p)
theorem Ents.of {N : Nat} {w w' : World} {es : List MapEntry} (h : Ents N w es) (hb : ∀ k, k < N → w'.heap[k]? = w.heap[k]?) : Ents N w' es := fun e he => by
  obtain ⟨⟨p, n, h1, h2, h4⟩, h3⟩ := h e he
  exact ⟨⟨p, n, h1, h2.of (hb _ h4), h4⟩, h3⟩
theorem BI.bel {w : World} {B h : Nat} {W W' : World} {y : Value} {p : Nat} (hI : BI w B h W y p) (hb : Below W.heap.size W W') : BI w B h W' y p := by
  obtain ⟨i⟩ := hI
  have hz := i.bel.size
  exact ⟨⟨i.outs, own_bel i.own hb, i.all, i.cnt, i.sum, i.es, i.c, (hb.block _ (lt_of_block i.map)).trans i.map, i.ents.of (fun k hk => hb.block k (Nat.lt_of_lt_of_le hk hz)), i.bel.trans (hb.mono hz)⟩⟩
theorem BI.more {w : World} {B h : Nat} {W : World} {y : Value} {p q : Nat} (hI : BI w B h W y p) (hpq : p ≤ q) : BI w B h W y q := by
  obtain ⟨i⟩ := hI
  exact ⟨⟨i.outs, i.own, i.all, Nat.le_trans i.cnt hpq, Nat.le_trans i.sum hpq, i.es, i.c, i.map, i.ents, i.bel⟩⟩
theorem BI.look {w : World} {B h : Nat} {W : World} {y : Value} {p : Nat} (hI : BI w B h W y p) {a : Addr} (ha : Gd W a) (n : Int) :
    ∃ (b : Bool) (W' : World), (Instr.lookup 85 (.map (some w.heap.size)) (pk a n) false).run Tryz.prog W = .ok (.bool b) W' ∧ BI w B h W' y p ∧ Below W.heap.size W W' := by
  have hI' := hI
  obtain ⟨i⟩ := hI
  obtain ⟨b, d, hr⟩ := look_some w.heap.size W w.heap.size i.c i.es a n i.map ha i.ents
  have hb : Below W.heap.size W (redrawn W d) := ⟨rfl, rfl, rfl, Nat.le_refl _, fun _ _ => rfl⟩
  exact ⟨b, redrawn W d, hr, hI'.bel hb, hb⟩
theorem BI.upd {w : World} {B h : Nat} {W : World} {y : Value} {p : Nat} (hI : BI w B h W y p) {a : Addr} (ha : Gd W a) (hlt : a.block < w.heap.size) (n : Int) :
    ∃ W' : World, (Instr.mapUpdate 85 (.map (some w.heap.size)) (pk a n) (.bool true)).run Tryz.prog W = .ok () W' ∧ BI w B h W' y p ∧ W.grownBy W' (some w.heap.size) := by
  obtain ⟨i⟩ := hI
  obtain ⟨es', c', W', h1, h2, h3, h4⟩ := upd_some w.heap.size W w.heap.size i.c i.es a n i.map ha hlt i.ents
  refine ⟨W', h1, ⟨⟨i.outs, i.own.kept h4 ?_, i.all, i.cnt, i.sum, es', c', h2, h3, i.bel.grown h4 i.bel.size (fun k e => by cases e; exact Nat.le_refl _)⟩⟩, h4⟩
  rcases i.own.2 with ⟨e, _⟩ | ⟨g, cap, cur, e, hb, _⟩
  · exact .inl (by rw [e]; rfl)
  · refine .inr fun e' => ?_
    rw [e] at e'
    have : g = w.heap.size := by injection e'
    omega
theorem BInv.push {w : World} {B h : Nat} {W : World} {y : Value} {p : Nat} (i : BInv w B h W y p) {W' : World} {y' kv : Value} {l : List Nd} (hown : W'.ownsRow (w.heap.size + 1) 22 1 y' (i.outs.length + 1) (i.outs.map (·.1) ++ [kv]))
    (hg : W.grownBy W' y.ownBlock) (hk : Ls w B kv l) (hpos : 0 < l.length) (hh : highL l + 1 ≤ h) (q : Nat) (hq : p + 1 + nodesL l ≤ q) : BI w B h W' y' q := by
  have hy : ∀ g, y.ownBlock = some g → w.heap.size + 1 ≤ g := fun g hg => (i.own.lt g hg).1
  have hz := i.bel.size
  refine ⟨⟨i.outs ++ [(kv, l)], ?_, ?_, ?_, ?_, i.es, i.c, ?_, ?_, ?_⟩⟩
  · rw [List.length_append, List.map_append]
    exact hown
  · intro o ho
    rcases List.mem_append.1 ho with h1 | h1
    · exact i.all o h1
    · rw [List.mem_singleton.1 h1]
      exact ⟨hk, hpos, hh⟩
  · have := i.cnt
    rw [List.length_append, List.length_singleton]
    omega
  · have := i.sum
    rw [List.map_append, List.map_singleton, nodesLL_app]
    show _ + nodesL l ≤ q
    omega
  · have hM := lt_of_block i.map
    rw [hg.block _ hM (fun e => by have := hy _ e.symm; omega)]
    exact i.map
  · exact i.ents.of fun k hk => hg.block k (by omega) (fun e => by have := hy _ e.symm; omega)
  · exact i.bel.grown hg hz (fun g e => by have := hy g e; omega)
end Go.Proofs.YthcoigdmammamaaGreatDoor
