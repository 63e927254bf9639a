/- What the layouter owns: the tokens that come out, the regions; the tokens that came in. No program. -/
import Derived.Test.YtkfkgdkfgpofnaaDoorD0
import Derived.WalkSmall
namespace Go.Proofs.YtkfkgdkfgpofnaaDoor
open Go.RowKit

structure Rg where
  closer : Nat
  width : Int
  index : Int
def Rg.cells (t : Rg) : List Value := [.int .u8 t.closer, .int .i64 t.width, .int .i64 t.index]
def Tok.agg (t : Tok) : Value := .agg #[.int .i64 t.kind, .string t.text, .int .i64 t.at_, .int .i64 t.line, .int .i64 t.col]
def Rg.agg (t : Rg) : Value := .agg #[.int .u8 t.closer, .int .i64 t.width, .int .i64 t.index]

/-- The object of the layouter: its four cells. -/
def YB (vi vo vr : Value) (m : Int) : Obj := .cells #[vi, vo, vr, .int .i64 m] 57 (0, 0)
structure YC (w : World) (b : Nat) (vi vo vr : Value) (m : Int) : Prop where
  c0 : w.cell? ⟨b, 0, none⟩ = some vi
  c1 : w.cell? ⟨b, 1, none⟩ = some vo
  c2 : w.cell? ⟨b, 2, none⟩ = some vr
  c3 : w.cell? ⟨b, 3, none⟩ = some (.int .i64 m)
  f1 : w.frozen? ⟨b, 1, none⟩ = false
  f2 : w.frozen? ⟨b, 2, none⟩ = false
  f3 : w.frozen? ⟨b, 3, none⟩ = false
theorem yc {w : World} {b : Nat} {vi vo vr : Value} {m : Int} (h : w.heap[b]? = some (YB vi vo vr m)) : YC w b vi vo vr m :=
  ⟨blk_cell h 0, blk_cell h 1, blk_cell h 2, blk_cell h 3, blk_free h 1, blk_free h 2, blk_free h 3⟩
section
variable {w : World} {b : Nat} {vi vo vr : Value} {m : Int}
theorem yb_out (h : w.heap[b]? = some (YB vi vo vr m)) (v : Value) : (w.setCell ⟨b, 1, none⟩ v).heap[b]? = some (YB vi v vr m) := blk_set h 1 _
theorem yb_regs (h : w.heap[b]? = some (YB vi vo vr m)) (v : Value) : (w.setCell ⟨b, 2, none⟩ v).heap[b]? = some (YB vi vo v m) := blk_set h 2 _
theorem yb_margin (h : w.heap[b]? = some (YB vi vo vr m)) (q : Int) : (w.setCell ⟨b, 3, none⟩ (.int .i64 q)).heap[b]? = some (YB vi vo vr q) := blk_set h 3 _
end

/-- The layouter at block b, made in the world w0, in the world w. -/
structure Ly (b : Nat) (w0 w : World) (inp out : List Tok) (regs : List Rg) (m : Int) (vi vo vr : Value) : Prop where
  blk : w.heap[b]? = some (YB vi vo vr m)
  inp : w0.ownsRow 0 32 5 vi inp.length (inp.flatMap Tok.cells)
  far : ∀ k, vi.ownBlock = some k → k < b
  own : w.ownsRow (b + 1) 32 5 vo out.length (out.flatMap Tok.cells)
  ownr : w.ownsRow (b + 1) 64 3 vr regs.length (regs.flatMap Rg.cells)
  apart : vo.ownBlock = none ∨ vo.ownBlock ≠ vr.ownBlock
  bel : Below b w0 w

section
variable {b : Nat} {w0 w w' : World} {inp out : List Tok} {regs : List Rg} {m m' : Int} {vi vo vr : Value}
theorem Ly.mv (h : Ly b w0 w inp out regs m vi vo vr) (hb : w'.heap[b]? = some (YB vi vo vr m')) (hf : Fr b w w') : Ly b w0 w' inp out regs m' vi vo vr := by
  have hlt := lt_of_block h.blk
  have ne : ∀ {v : Value} {e sz n xs}, w.ownsRow (b + 1) e sz v n xs → v.ownBlock ≠ some b := by
    intro v e sz n xs ho heq
    have := (ho.lt b heq).1
    omega
  exact ⟨hb, h.inp, h.far, h.own.kept hf (Or.inr (ne h.own)), h.ownr.kept hf (Or.inr (ne h.ownr)), h.apart,
    h.bel.trans ⟨hf.os, hf.tape, hf.output, hf.size, fun k hk => hf.block k (by omega) (fun e => by injection e; omega)⟩⟩
theorem Ly.grown (h : Ly b w0 w inp out regs m vi vo vr) (hb : Below w.heap.size w w') : Ly b w0 w' inp out regs m vi vo vr := by
  have hlt := lt_of_block h.blk
  refine h.mv (by rw [hb.block b hlt]; exact h.blk) ⟨hb.os, hb.tape, hb.output, hb.size, fun k hk _ => hb.block k hk⟩
theorem Ly.drew (h : Ly b w0 w inp out regs m vi vo vr) : Ly b w0 w.drew inp out regs m vi vo vr := h.mv h.blk (Fr.refl b w).drew
theorem Ly.drewN (h : Ly b w0 w inp out regs m vi vo vr) (n : Nat) : Ly b w0 (w.drewN n) inp out regs m vi vo vr := h.mv h.blk ((Fr.refl b w).drewN n)
theorem Ly.alloc (h : Ly b w0 w inp out regs m vi vo vr) (o : Obj) : Ly b w0 (w.alloc o) inp out regs m vi vo vr := h.grown ((Below.refl _ _).alloc (Nat.le_refl _) o)
/-- The cells of what came in. -/
theorem tok_len (op : List Tok) : (op.flatMap Tok.cells).length = op.length * 5 := by
  induction op with
  | nil => rfl
  | cons a l ih => rw [List.flatMap_cons, List.length_append, ih]; simp [Tok.cells]; omega
theorem tok_get (l : List Tok) (i : Nat) (hi : i < l.length) (j : Nat) (hj : j < 5) : (l.flatMap Tok.cells)[i * 5 + j]? = (l[i]'hi).cells[j]? := by
  induction l generalizing i with
  | nil => simp at hi
  | cons a l ih =>
    rw [List.flatMap_cons]
    have ha : a.cells.length = 5 := rfl
    cases i with
    | zero => rw [List.getElem?_append_left (by omega)]; simp
    | succ i =>
      rw [List.getElem?_append_right (by omega), ha, show (i + 1) * 5 + j - 5 = i * 5 + j from by omega]
      exact ih i (by simpa using hi)
theorem add_plain' (g j : Nat) : (⟨g, 0, none⟩ : Addr).add j = ⟨g, j, none⟩ := by unfold Addr.add; split <;> simp_all
end

/-- A token's cells at a place of a row. -/
structure TC (w : World) (g o : Nat) (t : Tok) : Prop where
  t0 : w.cell? ⟨g, o, none⟩ = some (.int .i64 t.kind)
  t1 : w.cell? ⟨g, o + 1, none⟩ = some (.string t.text)
  t2 : w.cell? ⟨g, o + 2, none⟩ = some (.int .i64 t.at_)
  t3 : w.cell? ⟨g, o + 3, none⟩ = some (.int .i64 t.line)
  t4 : w.cell? ⟨g, o + 4, none⟩ = some (.int .i64 t.col)
theorem tc_of_row {w : World} {base : Nat} {g cap : Nat} {l : List Tok} (h : w.ownsRow base 32 5 (.slice (some ⟨g, 0, none⟩) l.length cap) l.length (l.flatMap Tok.cells)) (i : Nat) (hi : i < l.length) : TC w g (i * 5) (l[i]'hi) := by
  have hc := h.cells (g := g) rfl
  refine ⟨?_, ?_, ?_, ?_, ?_⟩
  · have := hc (i * 5 + 0) _ (tok_get l i hi 0 (by omega)); rw [add_plain'] at this; exact this
  · have := hc (i * 5 + 1) _ (tok_get l i hi 1 (by omega)); rw [add_plain'] at this; exact this
  · have := hc (i * 5 + 2) _ (tok_get l i hi 2 (by omega)); rw [add_plain'] at this; exact this
  · have := hc (i * 5 + 3) _ (tok_get l i hi 3 (by omega)); rw [add_plain'] at this; exact this
  · have := hc (i * 5 + 4) _ (tok_get l i hi 4 (by omega)); rw [add_plain'] at this; exact this
theorem Ly.tc {b : Nat} {w0 w : World} {inp out : List Tok} {regs : List Rg} {m : Int} {vo vr : Value} {g cap : Nat} (h : Ly b w0 w inp out regs m (.slice (some ⟨g, 0, none⟩) inp.length cap) vo vr) (i : Nat) (hi : i < inp.length) : TC w g (i * 5) (inp[i]'hi) := by
  obtain ⟨t0, t1, t2, t3, t4⟩ := tc_of_row h.inp i hi
  have hg := h.far g rfl
  exact ⟨(h.bel.cell (by exact hg)).trans t0, (h.bel.cell (by exact hg)).trans t1, (h.bel.cell (by exact hg)).trans t2, (h.bel.cell (by exact hg)).trans t3, (h.bel.cell (by exact hg)).trans t4⟩

theorem rg_len (op : List Rg) : (op.flatMap Rg.cells).length = op.length * 3 := by
  induction op with
  | nil => rfl
  | cons a l ih => rw [List.flatMap_cons, List.length_append, ih]; simp [Rg.cells]; omega
theorem rg_get (l : List Rg) (i : Nat) (hi : i < l.length) (j : Nat) (hj : j < 3) : (l.flatMap Rg.cells)[i * 3 + j]? = (l[i]'hi).cells[j]? := by
  induction l generalizing i with
  | nil => simp at hi
  | cons a l ih =>
    rw [List.flatMap_cons]
    have ha : a.cells.length = 3 := rfl
    cases i with
    | zero => rw [List.getElem?_append_left (by omega)]; simp
    | succ i =>
      rw [List.getElem?_append_right (by omega), ha, show (i + 1) * 3 + j - 3 = i * 3 + j from by omega]
      exact ih i (by simpa using hi)
structure GC (w : World) (g o : Nat) (t : Rg) : Prop where
  g0 : w.cell? ⟨g, o, none⟩ = some (.int .u8 t.closer)
  g1 : w.cell? ⟨g, o + 1, none⟩ = some (.int .i64 t.width)
  g2 : w.cell? ⟨g, o + 2, none⟩ = some (.int .i64 t.index)
theorem gc_of_row {w : World} {base : Nat} {g cap : Nat} {l : List Rg} (h : w.ownsRow base 64 3 (.slice (some ⟨g, 0, none⟩) l.length cap) l.length (l.flatMap Rg.cells)) (i : Nat) (hi : i < l.length) : GC w g (i * 3) (l[i]'hi) := by
  have hc := h.cells (g := g) rfl
  refine ⟨?_, ?_, ?_⟩
  · have := hc (i * 3 + 0) _ (rg_get l i hi 0 (by omega)); rw [add_plain'] at this; exact this
  · have := hc (i * 3 + 1) _ (rg_get l i hi 1 (by omega)); rw [add_plain'] at this; exact this
  · have := hc (i * 3 + 2) _ (rg_get l i hi 2 (by omega)); rw [add_plain'] at this; exact this
theorem Ly.last {b : Nat} {w0 w : World} {inp out : List Tok} {regs : List Rg} {r : Rg} {m : Int} {vi vo : Value} {g cap : Nat} (h : Ly b w0 w inp out (regs ++ [r]) m vi vo (.slice (some ⟨g, 0, none⟩) (regs ++ [r]).length cap)) : GC w g (regs.length * 3) r := by
  have := gc_of_row h.ownr regs.length (by simp)
  simpa using this
theorem Ly.cap {b : Nat} {w0 w : World} {inp out : List Tok} {regs : List Rg} {m : Int} {vi vo : Value} {g cap : Nat} (h : Ly b w0 w inp out regs m vi vo (.slice (some ⟨g, 0, none⟩) regs.length cap)) : regs.length ≤ cap := by
  rcases h.ownr.2 with ⟨h, _⟩ | ⟨g', cap', cur, h, _, _, h2, _⟩
  · cases h
  · cases h; exact h2

section
variable {b : Nat} {w0 w w1 w3 : World} {inp out : List Tok} {regs : List Rg} {m : Int} {vi vo vr : Value}
/-- An append to the tokens; an append to the regions. -/
theorem Ly.put {o : Obj} {t : Tok} {gg cap : Nat} (h : Ly b w0 w inp out regs m vi vo vr) (hw1 : w1.heap = (w.alloc o).heap) (hos : w1.os = w.os) (htp : w1.tape = w.tape) (hou : w1.output = w.output)
    (hown : w3.ownsRow (b + 1) 32 5 (.slice (some ⟨gg, 0, none⟩) (out.length + 1) cap) (out.length + 1) (out.flatMap Tok.cells ++ t.cells)) (hg : w1.grownBy w3 vo.ownBlock) (hat : vo.ownBlock = some gg ∨ gg = w.heap.size + 1) :
    Ly b w0 (w3.setCell ⟨b, 1, none⟩ (.slice (some ⟨gg, 0, none⟩) (out.length + 1) cap)) inp (out ++ [t]) regs m vi (.slice (some ⟨gg, 0, none⟩) (out.length + 1) cap) vr := by
  have hlt := lt_of_block h.blk
  have hsz : (w.alloc o).heap.size = w.heap.size + 1 := by simp
  have hbo : vo.ownBlock ≠ some b := fun e => by have := (h.own.lt b e).1; omega
  have hg' : (w.alloc o).grownBy w3 vo.ownBlock := ⟨hg.os.trans hos, hg.tape.trans htp, hg.output.trans hou, by rw [← hw1]; exact hg.size, fun k hk hr => by rw [← hw1] at hk ⊢; exact hg.block k hk hr⟩
  have hb3 : w3.heap[b]? = some (YB vi vo vr m) := by
    rw [hg'.block b (by omega) (fun e => hbo e.symm), Below.heap_alloc _ _ _ hlt]; exact h.blk
  have hap : some gg ≠ vr.ownBlock ∨ True := Or.inr trivial
  have hap : (Value.slice (some ⟨gg, 0, none⟩) (out.length + 1) cap).ownBlock = none ∨ (Value.slice (some ⟨gg, 0, none⟩) (out.length + 1) cap).ownBlock ≠ vr.ownBlock := by
    right
    rcases hat with e | e
    · rcases h.apart with e2 | e2
      · rw [e2] at e; cases e
      · intro e3; exact e2 (e.trans e3)
    · intro e2
      have := (h.ownr.lt gg e2.symm).2; omega
  have hop3 : w3.ownsRow (b + 1) 64 3 vr regs.length (regs.flatMap Rg.cells) := by
    refine (h.ownr.alloc o).kept hg' ?_
    rcases h.apart with e | e
    · rw [e]; cases hv : vr.ownBlock <;> simp
    · exact Or.inr (fun e2 => e e2.symm)
  have nb : (Value.slice (some ⟨gg, 0, none⟩) (out.length + 1) cap).ownBlock ≠ some b := fun e => by have := (hown.lt b e).1; omega
  have nbp : vr.ownBlock ≠ some b := fun e => by have := (h.ownr.lt b e).1; omega
  refine ⟨yb_out hb3 _, h.inp, h.far, ?_, ownsRow_setCell_other hop3 (a := ⟨b, 1, none⟩) nbp _, hap, ?_⟩
  · have := ownsRow_setCell_other hown (a := ⟨b, 1, none⟩) nb (.slice (some ⟨gg, 0, none⟩) (out.length + 1) cap)
    simpa using this
  · exact Below.setCell ((h.bel.alloc (by omega) o).grown hg' (by omega) (fun k e => by have := (h.own.lt k e).1; omega)) (Nat.le_refl _) _
theorem Ly.push {o : Obj} {t : Rg} {gg cap : Nat} (h : Ly b w0 w inp out regs m vi vo vr) (hw1 : w1.heap = (w.alloc o).heap) (hos : w1.os = w.os) (htp : w1.tape = w.tape) (hou : w1.output = w.output)
    (hown : w3.ownsRow (b + 1) 64 3 (.slice (some ⟨gg, 0, none⟩) (regs.length + 1) cap) (regs.length + 1) (regs.flatMap Rg.cells ++ t.cells)) (hg : w1.grownBy w3 vr.ownBlock) (hat : vr.ownBlock = some gg ∨ gg = w.heap.size + 1) :
    Ly b w0 (w3.setCell ⟨b, 2, none⟩ (.slice (some ⟨gg, 0, none⟩) (regs.length + 1) cap)) inp out (regs ++ [t]) m vi vo (.slice (some ⟨gg, 0, none⟩) (regs.length + 1) cap) := by
  have hlt := lt_of_block h.blk
  have hsz : (w.alloc o).heap.size = w.heap.size + 1 := by simp
  have hbo : vr.ownBlock ≠ some b := fun e => by have := (h.ownr.lt b e).1; omega
  have hg' : (w.alloc o).grownBy w3 vr.ownBlock := ⟨hg.os.trans hos, hg.tape.trans htp, hg.output.trans hou, by rw [← hw1]; exact hg.size, fun k hk hr => by rw [← hw1] at hk ⊢; exact hg.block k hk hr⟩
  have hb3 : w3.heap[b]? = some (YB vi vo vr m) := by
    rw [hg'.block b (by omega) (fun e => hbo e.symm), Below.heap_alloc _ _ _ hlt]; exact h.blk
  have hap : vo.ownBlock = none ∨ vo.ownBlock ≠ (Value.slice (some ⟨gg, 0, none⟩) (regs.length + 1) cap).ownBlock := by
    rcases hv : vo.ownBlock with _ | k
    · left; rfl
    · right
      intro e3
      have e3 : some k = some gg := e3
      rcases hat with e | e
      · rcases h.apart with e2 | e2
        · rw [hv] at e2; cases e2
        · exact e2 (by rw [hv, e, e3])
      · have := (h.own.lt k hv).2
        injection e3
        omega
  have hop3 : w3.ownsRow (b + 1) 32 5 vo out.length (out.flatMap Tok.cells) := by
    refine (h.own.alloc o).kept hg' ?_
    rcases h.apart with e | e
    · exact Or.inl e
    · exact Or.inr e
  have nb : (Value.slice (some ⟨gg, 0, none⟩) (regs.length + 1) cap).ownBlock ≠ some b := fun e => by have := (hown.lt b e).1; omega
  have nbp : vo.ownBlock ≠ some b := fun e => by have := (h.own.lt b e).1; omega
  refine ⟨yb_regs hb3 _, h.inp, h.far, ownsRow_setCell_other hop3 (a := ⟨b, 2, none⟩) nbp _, ?_, hap, ?_⟩
  · have := ownsRow_setCell_other hown (a := ⟨b, 2, none⟩) nb (.slice (some ⟨gg, 0, none⟩) (regs.length + 1) cap)
    simpa using this
  · exact Below.setCell ((h.bel.alloc (by omega) o).grown hg' (by omega) (fun k e => by have := (h.ownr.lt k e).1; omega)) (Nat.le_refl _) _
theorem Ly.pop {t : Rg} {gg cap : Nat} (h : Ly b w0 w inp out (regs ++ [t]) m vi vo (.slice (some ⟨gg, 0, none⟩) (regs ++ [t]).length cap)) :
    Ly b w0 (w.setCell ⟨b, 2, none⟩ (.slice (some ⟨gg, 0, none⟩) regs.length cap)) inp out regs m vi vo (.slice (some ⟨gg, 0, none⟩) regs.length cap) := by
  have nb : vo.ownBlock ≠ some b := fun e => by have := (h.own.lt b e).1; omega
  have h2 := h.ownr
  rw [List.length_append, List.flatMap_append] at h2
  have h3 : w.ownsRow (b + 1) 64 3 (.slice (some ⟨gg, 0, none⟩) regs.length cap) regs.length (regs.flatMap Rg.cells) := ownsRow_pop (rg_len regs) h2
  have hgb : gg ≠ b := by have := (h.ownr.lt gg rfl).1; omega
  refine ⟨yb_regs h.blk _, h.inp, h.far, ownsRow_setCell_other h.own (a := ⟨b, 2, none⟩) nb _, ownsRow_setCell_other h3 (a := ⟨b, 2, none⟩) (fun e => hgb (Option.some.inj e)) _, h.apart, Below.setCell h.bel (Nat.le_refl _) _⟩
theorem Ly.blkO (o : Obj) (h : Ly b w0 w inp out regs m vi vo vr) (hw1 : w1.heap = (w.alloc o).heap) (hg : w1.grownBy w3 vo.ownBlock) : w3.heap[b]? = some (YB vi vo vr m) := by
  have hlt := lt_of_block h.blk
  have hbo : vo.ownBlock ≠ some b := fun e => by have := (h.own.lt b e).1; omega
  have hsz : (w.alloc o).heap.size = w.heap.size + 1 := by simp
  rw [hg.block b (by rw [hw1]; omega) (fun e => hbo e.symm), hw1, Below.heap_alloc _ _ _ hlt]; exact h.blk
theorem Ly.blkR (o : Obj) (h : Ly b w0 w inp out regs m vi vo vr) (hw1 : w1.heap = (w.alloc o).heap) (hg : w1.grownBy w3 vr.ownBlock) : w3.heap[b]? = some (YB vi vo vr m) := by
  have hlt := lt_of_block h.blk
  have hbo : vr.ownBlock ≠ some b := fun e => by have := (h.ownr.lt b e).1; omega
  have hsz : (w.alloc o).heap.size = w.heap.size + 1 := by simp
  rw [hg.block b (by rw [hw1]; omega) (fun e => hbo e.symm), hw1, Below.heap_alloc _ _ _ hlt]; exact h.blk
end
theorem rg_one (t : Rg) : ∀ u ∈ t.cells, u.oneCell' = true := by
  intro u hu
  simp [Rg.cells] at hu
  rcases hu with rfl | rfl | rfl <;> rfl
theorem rg_row (w : World) (t : Rg) (T : TypeId) : ∀ j u, t.cells[j]? = some u → (w.alloc (.cells #[.int .u8 t.closer, .int .i64 t.width, .int .i64 t.index] T)).cell? ((⟨w.heap.size, 0, none⟩ : Addr).add j) = some u := by
  intro j u hj
  match j, hj with
  | 0, hj => simp [Rg.cells] at hj; subst hj; simp [Addr.add]
  | 1, hj => simp [Rg.cells] at hj; subst hj; simp [Addr.add]
  | 2, hj => simp [Rg.cells] at hj; subst hj; simp [Addr.add]
end Go.Proofs.YtkfkgdkfgpofnaaDoor
