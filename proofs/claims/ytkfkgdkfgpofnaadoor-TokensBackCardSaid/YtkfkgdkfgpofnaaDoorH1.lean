/- The walks of top, pop. -/
import Derived.Test.YtkfkgdkfgpofnaaDoorH0
import Derived.Test.YtkfkgdkfgpofnaaDoorE0
import Derived.StillTailTactics
import Derived.Deep.RegionLaw
namespace Go.Proofs.YtkfkgdkfgpofnaaDoor
open Go.RowKit
set_option maxRecDepth 100000

structure LS where
  out : List Tok
  regs : List Rg
  m : Int
/-- Blocks that the layouter does not own, and what is in them. -/
def Sp (S : List (Nat × Obj)) (w : World) (b : Nat) (vo vr : Value) : Prop := ∀ x ∈ S, w.heap[x.1]? = some x.2 ∧ x.1 ≠ b ∧ vo.ownBlock ≠ some x.1 ∧ vr.ownBlock ≠ some x.1
section
variable {S : List (Nat × Obj)} {b : Nat} {w0 w w' w1 w3 : World} {inp out : List Tok} {regs : List Rg} {m : Int} {vi vo vr : Value}
theorem Sp.grown (h : Sp S w b vo vr) (hb : Below w.heap.size w w') : Sp S w' b vo vr := by
  intro x hx
  obtain ⟨h1, h2⟩ := h x hx
  exact ⟨(hb.block _ (lt_of_block h1)).trans h1, h2⟩
theorem Sp.alloc (h : Sp S w b vo vr) (o : Obj) : Sp S (w.alloc o) b vo vr := h.grown ((Below.refl _ _).alloc (Nat.le_refl _) o)
theorem Sp.drew (h : Sp S w b vo vr) : Sp S w.drew b vo vr := fun x hx => h x hx
theorem Sp.set (h : Sp S w b vo vr) {j : Nat} {v : Value} : Sp S (w.setCell ⟨b, j, none⟩ v) b vo vr := by
  intro x hx
  obtain ⟨h1, h2, h3⟩ := h x hx
  refine ⟨?_, h2, h3⟩
  rw [((Fr.refl b w).set j v).block x.1 (lt_of_block h1) (fun e => h2 (Option.some.inj e))]; exact h1
theorem Sp.app {o : Obj} {gg cap n : Nat} {own : Option Nat} (h : Sp S w b vo vr) (hn : ∀ x ∈ S, own ≠ some x.1) (hw1 : w1.heap = (w.alloc o).heap) (hg : w1.grownBy w3 own) (hat : own = some gg ∨ gg = w.heap.size + 1) :
    ∀ x ∈ S, w3.heap[x.1]? = some x.2 ∧ (Value.slice (some ⟨gg, 0, none⟩) n cap).ownBlock ≠ some x.1 := by
  intro x hx
  obtain ⟨h1, h2, h3, h4⟩ := h x hx
  have hlt := lt_of_block h1
  have hsz : (w.alloc o).heap.size = w.heap.size + 1 := by simp
  constructor
  · rw [hg.block x.1 (by rw [hw1]; omega) (fun e => hn x hx e.symm), hw1, Below.heap_alloc _ _ _ hlt]; exact h1
  · intro e
    have e : some gg = some x.1 := e
    rcases hat with e2 | e2
    · exact hn x hx (e2.trans e)
    · injection e; omega
theorem Sp.put {o : Obj} {gg cap n : Nat} (h : Sp S w b vo vr) (hw1 : w1.heap = (w.alloc o).heap) (hg : w1.grownBy w3 vo.ownBlock) (hat : vo.ownBlock = some gg ∨ gg = w.heap.size + 1) {v : Value} :
    Sp S (w3.setCell ⟨b, 1, none⟩ v) b (.slice (some ⟨gg, 0, none⟩) n cap) vr := by
  have hh := h.app (n := n) (cap := cap) (fun x hx => (h x hx).2.2.1) hw1 hg hat
  exact Sp.set (fun x hx => ⟨(hh x hx).1, (h x hx).2.1, (hh x hx).2, (h x hx).2.2.2⟩)
theorem Sp.push {o : Obj} {gg cap n : Nat} (h : Sp S w b vo vr) (hw1 : w1.heap = (w.alloc o).heap) (hg : w1.grownBy w3 vr.ownBlock) (hat : vr.ownBlock = some gg ∨ gg = w.heap.size + 1) {v : Value} :
    Sp S (w3.setCell ⟨b, 2, none⟩ v) b vo (.slice (some ⟨gg, 0, none⟩) n cap) := by
  have hh := h.app (n := n) (cap := cap) (fun x hx => (h x hx).2.2.2) hw1 hg hat
  exact Sp.set (fun x hx => ⟨(hh x hx).1, (h x hx).2.1, (h x hx).2.2.1, (hh x hx).2⟩)
theorem Sp.pop {gg c1 c2 n1 n2 : Nat} (h : Sp S w b vo (.slice (some ⟨gg, 0, none⟩) n1 c1)) {v : Value} : Sp S (w.setCell ⟨b, 2, none⟩ v) b vo (.slice (some ⟨gg, 0, none⟩) n2 c2) :=
  Sp.set (fun x hx => ⟨(h x hx).1, (h x hx).2.1, (h x hx).2.2.1, (h x hx).2.2.2⟩)
end
def Yd (S : List (Nat × Obj)) (b : Nat) (w0 w : World) (inp : List Tok) (t : LS) : Prop := ∃ vi vo vr, Ly b w0 w inp t.out t.regs t.m vi vo vr ∧ Sp S w b vo vr
/-- What a method of the layouter comes to. -/
def Yk (S : List (Nat × Obj)) (b : Nat) (w0 : World) (inp : List Tok) (r : Except Flt LS) (e : Ending) (w' : World) : Prop :=
  match r with
  | .ok t => e = .returned (.tuple #[]) ∧ Yd S b w0 w' inp t
  | .error f => e = .panicked [{ v := .iface 26 (.agg #[.int .i64 f.1, .int .i64 f.2]), recovered := false }] ∧ Below b w0 w'
section
variable {S : List (Nat × Obj)} {b : Nat} {w0 w w' : World} {inp : List Tok} {t : LS}
theorem Yd.bel (h : Yd S b w0 w inp t) : Below b w0 w := by obtain ⟨vi, vo, vr, h, _⟩ := h; exact h.bel
theorem Yd.lt (h : Yd S b w0 w inp t) : b < w.heap.size := by obtain ⟨vi, vo, vr, h, _⟩ := h; exact lt_of_block h.blk
theorem Yd.grown (h : Yd S b w0 w inp t) (hb : Below w.heap.size w w') : Yd S b w0 w' inp t := by obtain ⟨vi, vo, vr, h, hs⟩ := h; exact ⟨vi, vo, vr, h.grown hb, hs.grown hb⟩
theorem Yd.alloc (h : Yd S b w0 w inp t) (o : Obj) : Yd S b w0 (w.alloc o) inp t := h.grown ((Below.refl _ _).alloc (Nat.le_refl _) o)
theorem Yd.drewN (h : Yd S b w0 w inp t) (n : Nat) : Yd S b w0 (w.drewN n) inp t := h.grown (below_drewN (Below.refl _ _) n)
theorem Yd.spare {x : Nat × Obj} (h : Yd (x :: S) b w0 w inp t) : w.heap[x.1]? = some x.2 := by obtain ⟨vi, vo, vr, h, hs⟩ := h; exact (hs x (by simp)).1
theorem Yd.tail {x : Nat × Obj} (h : Yd (x :: S) b w0 w inp t) : Yd S b w0 w inp t := by obtain ⟨vi, vo, vr, h, hs⟩ := h; exact ⟨vi, vo, vr, h, fun y hy => hs y (by simp [hy])⟩
theorem Yd.add (h : Yd S b w0 w inp t) (o : Obj) : Yd ((w.heap.size, o) :: S) b w0 (w.alloc o) inp t := by
  obtain ⟨vi, vo, vr, h, hs⟩ := h
  have hlt := lt_of_block h.blk
  refine ⟨vi, vo, vr, h.alloc o, ?_⟩
  intro x hx
  rcases List.mem_cons.mp hx with rfl | hx
  · exact ⟨heap_alloc_new w o, by simp only; omega, fun e => by have := (h.own.lt _ e).2; simp only at this; omega, fun e => by have := (h.ownr.lt _ e).2; simp only at this; omega⟩
  · exact hs.alloc o x hx
end

def Rz : Rg := ⟨0, 0, 0⟩
def lastR (rs : List Rg) : Rg := rs.getLastD Rz
theorem last_split {rs : List Rg} (h : rs ≠ []) : rs = rs.dropLast ++ [lastR rs] := by
  rw [lastR, List.getLastD_eq_getLast?, List.getLast?_eq_some_getLast h]
  exact (List.dropLast_concat_getLast h).symm
set_option maxHeartbeats 1000000 in
theorem top_any (S : List (Nat × Obj)) (b : Nat) (w0 w : World) (inp out : List Tok) (regs : List Rg) (r : Rg) (m : Int) (h : Yd S b w0 w inp ⟨out, regs ++ [r], m⟩) (hl : regs.length < 1000) :
    Calls Tryd.prog 57 #[.pointer (some ⟨b, 0, none⟩)] w fun e w' => e = .returned r.agg ∧ Below w.heap.size w w' := by
  obtain ⟨vi, vo, vr, h, hs⟩ := h
  obtain ⟨gg, vc, rfl, hgg, hgl⟩ := h.ownr.form (by simp)
  obtain ⟨d0, d1, d2⟩ := h.last
  obtain ⟨c0, c1, c2, c3, f1, f2, f3⟩ := yc h.blk
  have hb := lt_of_block h.blk
  have hll : (regs ++ [r]).length = regs.length + 1 := by simp
  simp only at c2
  rw [hll] at c2
  clear h hs hll
  have t1 : IntKind.i64.wrap ((regs.length : Int) + 1 - 1) = (regs.length : Int) := by rw [IntWalk.i64_in _ (by omega)]; omega
  have t2 : (regs.length : Int) < (regs.length : Int) + 1 := by omega
  have t3 : (0 : Int) ≤ (regs.length : Int) := by omega
  go_enter Tryd.func57, Tryd.ntmps57
  go_wp2
  go_region
  all_goals
    go_wp2
    refine bodyPost_ret (v := r.agg) (by simp [results, Tryd.results57, go_sem, Rg.agg]) rfl ⟨rfl, ?_⟩
    exact ((Below.refl _ _).alloc (Nat.le_refl _) _).drew

theorem pop_any (S : List (Nat × Obj)) (b : Nat) (w0 w : World) (inp out : List Tok) (regs : List Rg) (r : Rg) (m : Int) (h : Yd S b w0 w inp ⟨out, regs ++ [r], m⟩) (hl : regs.length < 1000) :
    Calls Tryd.prog 65 #[.pointer (some ⟨b, 0, none⟩)] w fun e w' => e = .returned (.tuple #[]) ∧ Yd S b w0 w' inp ⟨out, regs, m⟩ := by
  obtain ⟨vi, vo, vr, h, hs⟩ := h
  obtain ⟨gg, vc, rfl, hgg, hgl⟩ := h.ownr.form (by simp)
  obtain ⟨c0, c1, c2, c3, f1, f2, f3⟩ := yc h.blk
  have hcap := h.cap
  have HP := Lib.hid h.pop.drew
  have HPS : Hid (Sp S ((w.setCell ⟨b, 2, none⟩ (.slice (some ⟨gg, 0, none⟩) regs.length vc)).drew) b vo (.slice (some ⟨gg, 0, none⟩) regs.length vc)) := hs.pop.drew
  have hll : (regs ++ [r]).length = regs.length + 1 := by simp
  simp only at c2 hcap
  rw [hll] at c2 hcap
  clear h hs hll
  have t1 : IntKind.i64.wrap ((regs.length : Int) + 1 - 1) = (regs.length : Int) := by rw [IntWalk.i64_in _ (by omega)]; omega
  have t2 : (regs.length : Int) < (regs.length : Int) + 1 := by omega
  have t3 : (0 : Int) ≤ (regs.length : Int) := by omega
  have t4 : (regs.length : Int) ≤ (vc : Int) := by omega
  go_enter Tryd.func65, Tryd.ntmps65
  go_wp2
  go_region
  all_goals
    go_wp2
    go_end0
    exact ⟨rfl, _, _, _, HP.out, HPS.out⟩
theorem top_last (S : List (Nat × Obj)) (b : Nat) (w0 w : World) (inp : List Tok) (t : LS) (h : Yd S b w0 w inp t) (hr : t.regs ≠ []) (hl : t.regs.length ≤ 1000) :
    Calls Tryd.prog 57 #[.pointer (some ⟨b, 0, none⟩)] w fun e w' => e = .returned (.agg #[.int .u8 (lastR t.regs).closer, .int .i64 (lastR t.regs).width, .int .i64 (lastR t.regs).index]) ∧ Below w.heap.size w w' := by
  obtain ⟨out, regs, m⟩ := t
  have e := last_split hr
  simp only at e hl ⊢
  have hl2 : regs.dropLast.length < 1000 := by simp; have := List.length_pos_iff.mpr hr; simp only at this; omega
  exact top_any S b w0 w inp out regs.dropLast (lastR regs) m (by rw [← e]; exact h) hl2
theorem pop_last (S : List (Nat × Obj)) (b : Nat) (w0 w : World) (inp : List Tok) (t : LS) (h : Yd S b w0 w inp t) (hr : t.regs ≠ []) (hl : t.regs.length ≤ 1000) :
    Calls Tryd.prog 65 #[.pointer (some ⟨b, 0, none⟩)] w fun e w' => e = .returned (.tuple #[]) ∧ Yd S b w0 w' inp ⟨t.out, t.regs.dropLast, t.m⟩ := by
  obtain ⟨out, regs, m⟩ := t
  have e := last_split hr
  simp only at e hl ⊢
  have hl2 : regs.dropLast.length < 1000 := by simp; have := List.length_pos_iff.mpr hr; simp only at this; omega
  exact pop_any S b w0 w inp out regs.dropLast (lastR regs) m (by rw [← e]; exact h) hl2
end Go.Proofs.YtkfkgdkfgpofnaaDoor
