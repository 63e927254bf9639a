/- What lies in memory while Ancestors goes; the closure that adds a class's parents. -/
import Derived.Test.YtlipfgdjbimfjaaGreatDoorP10
namespace Go.Proofs.YtlipfgdjbimfjaaGreatDoor
open Go.RowKit Go.Shelf Go.Sort
set_option maxRecDepth 100000

abbrev ints (l : List Nat) : List Int := l.map Int.ofNat
/-- An own row of indices. -/
abbrev OwnN (w : World) (B : Nat) (v : Value) (l : List Nat) : Prop := w.ownsRow B 3 1 v l.length (l.map fun (k : Nat) => Value.int .i64 (k : Int))
theorem OwnN.ints {w : World} {B : Nat} {v : Value} {l : List Nat} (h : OwnN w B v l) : OwnI w B v (ints l) := by
  show World.ownsRow _ _ _ _ _ _ _
  rw [List.length_map, List.map_map]
  exact h
/-- A list of types in memory, their kinds and symbols told; below a block. -/
def TyRow (w : World) (B : Nat) (v : Value) (l : List (Int × Int)) : Prop :=
  ∃ a c, v = .slice a l.length c ∧ l.length ≤ 2199023255488 ∧ (l ≠ [] → ∃ b off, a = some ⟨b, off, none⟩ ∧ b < B ∧ ∀ k, k < l.length → ∃ (x2 : ByteArray) (x3 : Int) (a4 : Option Addr) (n4 c4 : Nat),
    w.cell? ⟨b, off + k * 5, none⟩ = some (.int .i64 (l.getD k (0, 0)).1) ∧ w.cell? ⟨b, off + k * 5 + 1, none⟩ = some (.int .i64 (l.getD k (0, 0)).2) ∧ w.cell? ⟨b, off + k * 5 + 2, none⟩ = some (.string x2) ∧ w.cell? ⟨b, off + k * 5 + 3, none⟩ = some (.int .i64 x3) ∧ w.cell? ⟨b, off + k * 5 + 4, none⟩ = some (.slice a4 n4 c4))
theorem TyRow.bel {w w' : World} {B B' : Nat} {v : Value} {l : List (Int × Int)} (h : TyRow w B v l) (hb : Below B' w w') (hB : B ≤ B') : TyRow w' B v l := by
  obtain ⟨a, c, h1, h2, h3⟩ := h
  refine ⟨a, c, h1, h2, fun hl => ?_⟩
  obtain ⟨b, off, h4, h5, h6⟩ := h3 hl
  refine ⟨b, off, h4, h5, fun k hk => ?_⟩
  obtain ⟨x2, x3, a4, n4, c4, e0, e1, e2, e3, e4⟩ := h6 k hk
  exact ⟨x2, x3, a4, n4, c4, (hb.cell (p := ⟨b, _, none⟩) (by show b < _; omega)).trans e0, (hb.cell (p := ⟨b, _, none⟩) (by show b < _; omega)).trans e1, (hb.cell (p := ⟨b, _, none⟩) (by show b < _; omega)).trans e2, (hb.cell (p := ⟨b, _, none⟩) (by show b < _; omega)).trans e3, (hb.cell (p := ⟨b, _, none⟩) (by show b < _; omega)).trans e4⟩
/-- The classes' parents in memory. -/
abbrev Pars (w : World) (B cb co n : Nat) (pl : Nat → List (Int × Int)) : Prop := ∀ i, i < n → ∃ v, w.cell? ⟨cb, co + i * 13 + 5, none⟩ = some v ∧ TyRow w B v (pl i)
theorem Pars.bel {w w' : World} {B B' cb co n : Nat} {pl : Nat → List (Int × Int)} (h : Pars w B cb co n pl) (hb : Below B' w w') (hB : B ≤ B') (hc : cb < B') : Pars w' B cb co n pl := fun i hi => by
  obtain ⟨v, h1, h2⟩ := h i hi
  exact ⟨v, (hb.cell (p := ⟨cb, _, none⟩) hc).trans h1, h2.bel hb hB⟩

/-- The call's own blocks, from B on: the program, the list, the marks, their slice. -/
structure AI (w0 : World) (B n : Nat) (pv : Array Value) (l : List Nat) (w : World) : Prop where
  bel : Below B w0 w
  kp : w.heap[B]? = some (.cells pv 28 (0, 0))
  kf : ∃ v, w.heap[B + 1]? = some (.cells #[v] 32 (0, 0)) ∧ OwnN w (B + 4) v l
  km : w.heap[B + 2]? = some (.cells (marks n l) 4 (0, 0))
  ks : w.heap[B + 3]? = some (.cells #[.slice (some ⟨B + 2, 0, none⟩) n n] 87 (0, 0))
theorem AI.sz {w0 w : World} {B n : Nat} {pv : Array Value} {l : List Nat} (h : AI w0 B n pv l w) : B + 4 ≤ w.heap.size := (Array.getElem?_eq_some_iff.1 h.ks).1
theorem AI.alloc {w0 w : World} {B n : Nat} {pv : Array Value} {l : List Nat} (h : AI w0 B n pv l w) (o : Obj) : AI w0 B n pv l (w.alloc o) := by
  have hz := h.sz
  obtain ⟨h1, h2, ⟨v, h3, h4⟩, h5, h6⟩ := h
  exact ⟨h1.alloc (by omega) _, by rw [Below.heap_alloc _ _ _ (by omega)]; exact h2, ⟨v, by rw [Below.heap_alloc _ _ _ (by omega)]; exact h3, h4.alloc _⟩, by rw [Below.heap_alloc _ _ _ (by omega)]; exact h5, by rw [Below.heap_alloc _ _ _ (by omega)]; exact h6⟩
theorem blk_cell {w : World} {b : Nat} {xs : Array Value} {t : TypeId} (h : w.heap[b]? = some (.cells xs t (0, 0))) (i : Nat) : w.cell? ⟨b, i, none⟩ = xs[i]? := by simp [World.cell?, h]
theorem blk_free {w : World} {b : Nat} {xs : Array Value} {t : TypeId} (h : w.heap[b]? = some (.cells xs t (0, 0))) (i : Nat) : w.frozen? ⟨b, i, none⟩ = false := by simp [World.frozen?, h]
theorem blk_set {w : World} {b : Nat} {xs : Array Value} {t : TypeId} (h : w.heap[b]? = some (.cells xs t (0, 0))) (i : Nat) (v : Value) : (w.setCell ⟨b, i, none⟩ v).heap[b]? = some (.cells (xs.setIfInBounds i v) t (0, 0)) := by
  have hlt := (Array.getElem?_eq_some_iff.1 h).1
  have h' : w.heap[b] = .cells xs t (0, 0) := by simpa [Array.getElem?_eq_getElem hlt] using h
  show (w.heap.modify b _)[b]? = _
  rw [Array.getElem?_eq_getElem (by simpa using hlt), Array.getElem_modify_self, h']
  rfl
theorem box_kept {w w3 : World} {B s : Nat} {l : List Nat} {v : Value} (hz : B + 4 ≤ w.heap.size) (hv : w.heap[B + 1]? = some (.cells #[v] 32 (0, 0))) (ho : OwnN w (B + 4) v l)
    (hg : ((w.setCell ⟨B + 2, s, none⟩ (.bool true)).alloc (.cells #[.int .i64 (s : Int)] 3)).grownBy w3 v.ownBlock) : w3.heap[B + 1]? = some (.cells #[v] 32 (0, 0)) := by
  rw [hg.block (B + 1) (by simp; omega) (fun e => by have := (ho.lt _ e.symm).1; omega), Below.heap_alloc _ _ _ (by simp; omega), Below.heap_setCell _ _ _ _ (by show B + 1 ≠ B + 2; omega)]
  exact hv
/-- A mark is set, and the class laid behind the list. -/
theorem AI.mark {w0 w w3 : World} {B n s g cap : Nat} {pv : Array Value} {l : List Nat} {v : Value} (h : AI w0 B n pv l w) (hv : w.heap[B + 1]? = some (.cells #[v] 32 (0, 0))) (ho : OwnN w (B + 4) v l)
    (hown : w3.ownsRow (B + 4) 3 1 (.slice (some ⟨g, 0, none⟩) (l.length + 1) cap) (l.length + 1) ((l.map fun (k : Nat) => Value.int .i64 (k : Int)) ++ [.int .i64 (s : Int)]))
    (hg : ((w.setCell ⟨B + 2, s, none⟩ (.bool true)).alloc (.cells #[.int .i64 (s : Int)] 3)).grownBy w3 v.ownBlock) :
    AI w0 B n pv (l ++ [s]) (w3.setCell ⟨B + 1, 0, none⟩ (.slice (some ⟨g, 0, none⟩) (l.length + 1) cap)) := by
  have hz := h.sz
  have hlt := ho.lt
  obtain ⟨h1, h2, _, h5, h6⟩ := h
  have hne : ∀ k, k < B + 4 → some k ≠ v.ownBlock := fun k hk e => by have := (hlt k e.symm).1; omega
  have hkeep : ∀ k, k < B + 4 → k ≠ B + 2 → w3.heap[k]? = w.heap[k]? := fun k hk hk2 => by
    rw [hg.block k (by simp; omega) (hne k hk), Below.heap_alloc _ _ _ (by simp; omega), Below.heap_setCell _ _ _ _ (fun e => hk2 e)]
  have hm : w3.heap[B + 2]? = some (.cells (marks n (l ++ [s])) 4 (0, 0)) := by
    rw [hg.block (B + 2) (by simp; omega) (hne _ (by omega)), Below.heap_alloc _ _ _ (by simp; omega), blk_set h5, marks_set]
  have hset : ∀ (u : Value) k, k ≠ B + 1 → (w3.setCell ⟨B + 1, 0, none⟩ u).heap[k]? = w3.heap[k]? := fun u k hk => Below.heap_setCell _ _ _ _ (fun e => hk e)
  have hgB : B + 4 ≤ g := (hown.lt g rfl).1
  refine ⟨⟨hg.os.trans h1.os, hg.tape.trans h1.tape, hg.output.trans h1.output, ?_, fun k hk => ?_⟩, ?_, ⟨.slice (some ⟨g, 0, none⟩) (l.length + 1) cap, ?_, ?_⟩, ?_, ?_⟩
  · have := hg.size
    simp at this ⊢
    have := h1.size
    omega
  · rw [hset _ k (by omega), hkeep k (by omega) (by omega)]
    exact h1.block k hk
  · rw [hset _ B (by omega), hkeep B (by omega) (by omega)]; exact h2
  · have := blk_set ((hkeep (B + 1) (by omega) (by omega)).trans hv) 0 (.slice (some ⟨g, 0, none⟩) (l.length + 1) cap)
    exact this
  · have h9 := ownsRow_setCell_other hown (a := ⟨B + 1, 0, none⟩) (by simp [Value.ownBlock]; omega) (.slice (some ⟨g, 0, none⟩) (l.length + 1) cap)
    show World.ownsRow _ _ _ _ _ _ _
    rw [List.length_append, List.length_singleton, List.map_append]
    exact h9
  · rw [hset _ _ (by omega)]; exact hm
  · rw [hset _ _ (by omega), hkeep _ (by omega) (by omega)]; exact h6
end Go.Proofs.YtlipfgdjbimfjaaGreatDoor
