/- What the reader owns: the tokens, the open brackets; how an append turns it. No program. -/
import Derived.Test.YtkfkgdkfgpofnaaDoorA0
import Derived.Deep.AppendLies
namespace Go.Proofs.YtkfkgdkfgpofnaaDoor
open Go.RowKit

structure Tok where
  kind : Int
  text : ByteArray
  at_ : Int
  line : Int
  col : Int
def Tok.cells (t : Tok) : List Value := [.int .i64 t.kind, .string t.text, .int .i64 t.at_, .int .i64 t.line, .int .i64 t.col]
structure Br where
  closer : Nat
  at_ : Nat
  inside : Bool
def Br.cells (t : Br) : List Value := [.int .u8 t.closer, .int .i64 t.at_, .bool t.inside]

structure Rd (b : Nat) (s : ByteArray) (w0 w : World) (p l g : Nat) (out : List Tok) (op : List Br) (vo vp : Value) : Prop where
  blk : w.heap[b]? = some (RB s p l g vo vp)
  own : w.ownsRow (b + 1) 32 5 vo out.length (out.flatMap Tok.cells)
  ownp : w.ownsRow (b + 1) 50 3 vp op.length (op.flatMap Br.cells)
  apart : vo.ownBlock = none ∨ vo.ownBlock ≠ vp.ownBlock
  bel : Below b w0 w

/-- A step that writes to block b alone. -/
theorem Rd.mv {b : Nat} {s : ByteArray} {w0 w w' : World} {p l g p' l' g' : Nat} {out : List Tok} {op : List Br} {vo vp : Value} (h : Rd b s w0 w p l g out op vo vp)
    (hb : w'.heap[b]? = some (RB s p' l' g' vo vp)) (hf : Fr b w w') : Rd b s w0 w' p' l' g' out op vo vp := by
  have hlt := lt_of_block h.blk
  have ne : ∀ {v : Value} {e sz n xs}, w.ownsRow (b + 1) e sz v n xs → v.ownBlock ≠ some b := by
    intro v e sz n xs ho heq
    have := (ho.lt b heq).1
    omega
  exact ⟨hb, h.own.kept hf (Or.inr (ne h.own)), h.ownp.kept hf (Or.inr (ne h.ownp)), h.apart,
    h.bel.trans ⟨hf.os, hf.tape, hf.output, hf.size, fun k hk => hf.block k (by omega) (fun e => by injection e; omega)⟩⟩

theorem Rd.fr {b : Nat} {s : ByteArray} {w0 w w' : World} {p l g : Nat} {out : List Tok} {op : List Br} {vo vp : Value} (h : Rd b s w0 w p l g out op vo vp) (hf : Fr b w w') : Below b w0 w' := by
  have hlt := lt_of_block h.blk
  exact h.bel.trans ⟨hf.os, hf.tape, hf.output, hf.size, fun k hk => hf.block k (by omega) (fun e => by injection e; omega)⟩

/-- An append to the tokens. -/
theorem Rd.put {b : Nat} {s : ByteArray} {w0 w w3 : World} {p l g q : Nat} {out : List Tok} {op : List Br} {vo vp v' : Value} {o : Obj} {t : Tok} (h : Rd b s w0 w p l g out op vo vp)
    (hown : w3.ownsRow (b + 1) 32 5 v' (out.length + 1) (out.flatMap Tok.cells ++ t.cells)) (hg : (w.alloc o).grownBy w3 vo.ownBlock) (hat : v'.ownBlock = vo.ownBlock ∨ v'.ownBlock = some (w.heap.size + 1)) :
    Rd b s w0 ((w3.setCell ⟨b, 4, none⟩ v').setCell ⟨b, 1, none⟩ (.int .i64 q)) q l g (out ++ [t]) op v' vp := by
  have hlt := lt_of_block h.blk
  have hsz : (w.alloc o).heap.size = w.heap.size + 1 := by simp
  have hbo : vo.ownBlock ≠ some b := fun e => by have := (h.own.lt b e).1; omega
  have hb3 : w3.heap[b]? = some (RB s p l g vo vp) := by
    rw [hg.block b (by omega) (fun e => hbo e.symm), Below.heap_alloc _ _ _ hlt]; exact h.blk
  have hap : v'.ownBlock = none ∨ v'.ownBlock ≠ vp.ownBlock := by
    rcases hat with e | e
    · rw [e]; exact h.apart
    · right; rw [e]; intro e2; have := (h.ownp.lt _ e2.symm).2; omega
  have hop3 : w3.ownsRow (b + 1) 50 3 vp op.length (op.flatMap Br.cells) := by
    refine (h.ownp.alloc o).kept hg ?_
    rcases h.apart with e | e
    · rw [e]; cases hv : vp.ownBlock <;> simp
    · exact Or.inr (fun e2 => e e2.symm)
  have nb : v'.ownBlock ≠ some b := fun e => by have := (hown.lt b e).1; omega
  have nbp : vp.ownBlock ≠ some b := fun e => by have := (h.ownp.lt b e).1; omega
  refine ⟨rb_at (rb_out hb3 v') q, ?_, ?_, hap, ?_⟩
  · have := ownsRow_setCell_other (ownsRow_setCell_other hown (a := ⟨b, 4, none⟩) nb v') (a := ⟨b, 1, none⟩) nb (.int .i64 q)
    simpa using this
  · exact ownsRow_setCell_other (ownsRow_setCell_other hop3 (a := ⟨b, 4, none⟩) nbp v') (a := ⟨b, 1, none⟩) nbp (.int .i64 q)
  · refine Below.setCell (Below.setCell ((h.bel.alloc (by omega) o).grown hg (by omega) (fun k e => by have := (h.own.lt k e).1; omega)) ?_ _) ?_ _
    · exact Nat.le_refl _
    · exact Nat.le_refl _

/-- An append to the open brackets. -/
theorem Rd.opens {b : Nat} {s : ByteArray} {w0 w w3 : World} {p l g : Nat} {out : List Tok} {op : List Br} {vo vp v' : Value} {o : Obj} {t : Br} (h : Rd b s w0 w p l g out op vo vp)
    (hown : w3.ownsRow (b + 1) 50 3 v' (op.length + 1) (op.flatMap Br.cells ++ t.cells)) (hg : (w.alloc o).grownBy w3 vp.ownBlock) (hat : v'.ownBlock = vp.ownBlock ∨ v'.ownBlock = some (w.heap.size + 1)) :
    Rd b s w0 (w3.setCell ⟨b, 5, none⟩ v') p l g out (op ++ [t]) vo v' := by
  have hlt := lt_of_block h.blk
  have hsz : (w.alloc o).heap.size = w.heap.size + 1 := by simp
  have hbo : vp.ownBlock ≠ some b := fun e => by have := (h.ownp.lt b e).1; omega
  have hb3 : w3.heap[b]? = some (RB s p l g vo vp) := by
    rw [hg.block b (by omega) (fun e => hbo e.symm), Below.heap_alloc _ _ _ hlt]; exact h.blk
  have hap : vo.ownBlock = none ∨ vo.ownBlock ≠ v'.ownBlock := by
    rcases hat with e | e
    · rw [e]; exact h.apart
    · rcases hv : vo.ownBlock with _ | k
      · left; rfl
      · right; rw [e]; intro e2; have := (h.own.lt k hv).2; injection e2; omega
  have hop3 : w3.ownsRow (b + 1) 32 5 vo out.length (out.flatMap Tok.cells) := by
    refine (h.own.alloc o).kept hg ?_
    rcases h.apart with e | e
    · exact Or.inl e
    · exact Or.inr e
  have nb : v'.ownBlock ≠ some b := fun e => by have := (hown.lt b e).1; omega
  have nbp : vo.ownBlock ≠ some b := fun e => by have := (h.own.lt b e).1; omega
  refine ⟨rb_open hb3 v', ?_, ?_, hap, ?_⟩
  · exact ownsRow_setCell_other hop3 (a := ⟨b, 5, none⟩) nbp v'
  · have := ownsRow_setCell_other hown (a := ⟨b, 5, none⟩) nb v'
    simpa using this
  · exact Below.setCell ((h.bel.alloc (by omega) o).grown hg (by omega) (fun k e => by have := (h.ownp.lt k e).1; omega)) (Nat.le_refl _) _

/-- As 'Rd.put', the new value written out. -/
theorem Rd.put2 {b : Nat} {s : ByteArray} {w0 w w1 w3 : World} {p l g q : Nat} {out : List Tok} {op : List Br} {vo vp : Value} {o : Obj} {t : Tok} {gg cap : Nat} (h : Rd b s w0 w p l g out op vo vp) (hw1 : w1.heap = (w.alloc o).heap) (hos : w1.os = w.os) (htp : w1.tape = w.tape) (hou : w1.output = w.output)
    (hown : w3.ownsRow (b + 1) 32 5 (.slice (some ⟨gg, 0, none⟩) (out.length + 1) cap) (out.length + 1) (out.flatMap Tok.cells ++ t.cells)) (hg : w1.grownBy w3 vo.ownBlock) (hat : vo.ownBlock = some gg ∨ gg = w.heap.size + 1) :
    Rd b s w0 ((w3.setCell ⟨b, 4, none⟩ (.slice (some ⟨gg, 0, none⟩) (out.length + 1) cap)).setCell ⟨b, 1, none⟩ (.int .i64 q)) q l g (out ++ [t]) op (.slice (some ⟨gg, 0, none⟩) (out.length + 1) cap) vp := by
  refine h.put (o := o) hown ⟨hg.os.trans hos, hg.tape.trans htp, hg.output.trans hou, by rw [← hw1]; exact hg.size, fun k hk hr => ?_⟩ ?_
  · rw [← hw1] at hk ⊢; exact hg.block k hk hr
  · rcases hat with e | e
    · exact Or.inl e.symm
    · right; rw [e]; rfl
theorem Rd.opens2 {b : Nat} {s : ByteArray} {w0 w w1 w3 : World} {p l g : Nat} {out : List Tok} {op : List Br} {vo vp : Value} {o : Obj} {t : Br} {gg cap : Nat} (h : Rd b s w0 w p l g out op vo vp) (hw1 : w1.heap = (w.alloc o).heap) (hos : w1.os = w.os) (htp : w1.tape = w.tape) (hou : w1.output = w.output)
    (hown : w3.ownsRow (b + 1) 50 3 (.slice (some ⟨gg, 0, none⟩) (op.length + 1) cap) (op.length + 1) (op.flatMap Br.cells ++ t.cells)) (hg : w1.grownBy w3 vp.ownBlock) (hat : vp.ownBlock = some gg ∨ gg = w.heap.size + 1) :
    Rd b s w0 (w3.setCell ⟨b, 5, none⟩ (.slice (some ⟨gg, 0, none⟩) (op.length + 1) cap)) p l g out (op ++ [t]) vo (.slice (some ⟨gg, 0, none⟩) (op.length + 1) cap) := by
  refine h.opens (o := o) hown ⟨hg.os.trans hos, hg.tape.trans htp, hg.output.trans hou, by rw [← hw1]; exact hg.size, fun k hk hr => ?_⟩ ?_
  · rw [← hw1] at hk ⊢; exact hg.block k hk hr
  · rcases hat with e | e
    · exact Or.inl e.symm
    · right; rw [e]; rfl

/-- Behind an append the reader's block is as it was. -/
theorem Rd.blk3 {b : Nat} {s : ByteArray} {w0 w w1 w3 : World} {p l g : Nat} {out : List Tok} {op : List Br} {vo vp : Value} (o : Obj) (h : Rd b s w0 w p l g out op vo vp) (hw1 : w1.heap = (w.alloc o).heap) (hg : w1.grownBy w3 vo.ownBlock) : w3.heap[b]? = some (RB s p l g vo vp) := by
  have hlt := lt_of_block h.blk
  have hbo : vo.ownBlock ≠ some b := fun e => by have := (h.own.lt b e).1; omega
  have hsz : (w.alloc o).heap.size = w.heap.size + 1 := by simp
  rw [hg.block b (by rw [hw1]; omega) (fun e => hbo e.symm), hw1, Below.heap_alloc _ _ _ hlt]; exact h.blk
theorem Rd.blk3' {b : Nat} {s : ByteArray} {w0 w w1 w3 : World} {p l g : Nat} {out : List Tok} {op : List Br} {vo vp : Value} (o : Obj) (h : Rd b s w0 w p l g out op vo vp) (hw1 : w1.heap = (w.alloc o).heap) (hg : w1.grownBy w3 vp.ownBlock) : w3.heap[b]? = some (RB s p l g vo vp) := by
  have hlt := lt_of_block h.blk
  have hbo : vp.ownBlock ≠ some b := fun e => by have := (h.ownp.lt b e).1; omega
  have hsz : (w.alloc o).heap.size = w.heap.size + 1 := by simp
  rw [hg.block b (by rw [hw1]; omega) (fun e => hbo e.symm), hw1, Below.heap_alloc _ _ _ hlt]; exact h.blk

theorem own_slice {w : World} {base e sz : Nat} {v : Value} {n : Nat} {xs : List Value} (h : w.ownsRow base e sz v n xs) : ∃ a c, v = .slice a n c := by
  rcases h.2 with ⟨h, h0⟩ | ⟨g, cap, cur, h, _⟩
  · exact ⟨none, 0, by rw [h, h0]⟩
  · exact ⟨_, _, h⟩

theorem tok_one (t : Tok) : ∀ u ∈ t.cells, u.oneCell' = true := by
  intro u hu
  simp [Tok.cells] at hu
  rcases hu with rfl | rfl | rfl | rfl | rfl <;> rfl
theorem tok_row (w : World) (t : Tok) (T : TypeId) : ∀ j u, t.cells[j]? = some u → (w.alloc (.cells #[.int .i64 t.kind, .string t.text, .int .i64 t.at_, .int .i64 t.line, .int .i64 t.col] T)).cell? ((⟨w.heap.size, 0, none⟩ : Addr).add j) = some u := by
  intro j u hj
  match j, hj with
  | 0, hj => simp [Tok.cells] at hj; subst hj; simp [Addr.add]
  | 1, hj => simp [Tok.cells] at hj; subst hj; simp [Addr.add]
  | 2, hj => simp [Tok.cells] at hj; subst hj; simp [Addr.add]
  | 3, hj => simp [Tok.cells] at hj; subst hj; simp [Addr.add]
  | 4, hj => simp [Tok.cells] at hj; subst hj; simp [Addr.add]
theorem br_one (t : Br) : ∀ u ∈ t.cells, u.oneCell' = true := by
  intro u hu
  simp [Br.cells] at hu
  rcases hu with rfl | rfl | rfl <;> rfl
theorem br_row (w : World) (t : Br) (T : TypeId) : ∀ j u, t.cells[j]? = some u → (w.alloc (.cells #[.int .u8 t.closer, .int .i64 t.at_, .bool t.inside] T)).cell? ((⟨w.heap.size, 0, none⟩ : Addr).add j) = some u := by
  intro j u hj
  match j, hj with
  | 0, hj => simp [Br.cells] at hj; subst hj; simp [Addr.add]
  | 1, hj => simp [Br.cells] at hj; subst hj; simp [Addr.add]
  | 2, hj => simp [Br.cells] at hj; subst hj; simp [Addr.add]
end Go.Proofs.YtkfkgdkfgpofnaaDoor
