/- The walk of Layout. -/
import Derived.Test.YtkfkgdkfgpofnaaDoorG6
import Derived.Test.YtkfkgdkfgpofnaaDoorJ2
import Derived.Test.YtkfkgdkfgpofnaaDoorJ3
import Derived.Test.YtkfkgdkfgpofnaaDoorJ4
namespace Go.Proofs.YtkfkgdkfgpofnaaDoor
open Go.RowKit
set_option maxRecDepth 100000

/-- The list with layout, or its fault. -/
def mlayout (l : List Tok) : Except Flt (List Tok) :=
  if (mbadl l).2 != 0 then .error (mbadl l) else
    match mlay l with
    | .error f => .error f
    | .ok t => .ok t.out
theorem results15_run (tmps : Array Value) (W : World) (L F : Nat) (va : Option Addr) (n vc : Nat) (a c : Int) (h2 : tmps[2]?.getD undef = .pointer (some ⟨L, 0, none⟩)) (h3 : tmps[3]?.getD undef = .pointer (some ⟨F, 0, none⟩))
    (l0 : W.cell? ⟨L, 0, none⟩ = some (.slice va n vc)) (r0 : W.cell? ⟨F, 0, none⟩ = some (.int .i64 a)) (r1 : W.cell? ⟨F, 1, none⟩ = some (.int .i64 c)) :
    (results Tryd.f15 tmps).run Tryd.prog W = .ok (.tuple #[.slice va n vc, .agg #[.int .i64 a, .int .i64 c]]) W := by
  simp [results, Tryd.results15, go_sem, h2, h3, l0, r0, r1]

set_option maxHeartbeats 2000000 in
theorem layout_any (l : List Tok) (v : Value) (w : World) (h : w.ownsRow 0 32 5 v l.length (l.flatMap Tok.cells)) (hl : l.length ≤ 100000) :
    Calls Tryd.prog 15 #[v] w (Ls w (mlayout l)) := by
  obtain ⟨va0, vc0, rfl⟩ := own_slice h
  have HO := Lib.hid h
  clear h
  have hmf : ∀ (fn : Fn) (first cap : Array Value) (w : World), (Instr.makeFunc fn first cap).run Tryd.prog w = .ok (.func fn first cap) w := fun _ _ _ _ => rfl
  obtain ⟨a, c, hac⟩ : ∃ a c, mbadl l = (a, c) := ⟨_, _, rfl⟩
  have HAC := Lib.hid hac
  clear hac
  go_enter_defers Tryd.func15, Tryd.ntmps15
  go_wp2_with fail
  refine (badl_any l _ _ ((HO.out.alloc _).alloc _) hl).mono ?_
  rintro e2 w2 ⟨rfl, hb2⟩
  rw [show (mbadl l).1 = a from by rw [HAC.out], show (mbadl l).2 = c from by rw [HAC.out]]
  have hL : w2.heap[w.heap.size]? = some (.cells #[.slice none 0 0] 23 (0, 0)) := by
    rw [hb2.block _ (by simp; omega), Below.heap_alloc _ _ _ (by simp), alloc_blk]
  have hF : w2.heap[w.heap.size + 1]? = some (.cells #[.int .i64 0, .int .i64 0] 26 (0, 0)) := by
    rw [hb2.block _ (by simp), show w.heap.size + 1 = (w.alloc (.cells #[.slice none 0 0] 23)).heap.size from by simp, alloc_blk]
  have hz2 : w.heap.size + 2 ≤ w2.heap.size := by have := hb2.size; simp at this; omega
  have HB2 : Hid (Below w.heap.size w w2) := ((((Below.refl _ _).alloc (Nat.le_refl _) _).alloc (by simp) _).trans (hb2.mono (by simp; omega)))
  clear hb2
  obtain ⟨l0, l1⟩ : w2.cell? ⟨w.heap.size, 0, none⟩ = some (.slice none 0 0) ∧ w2.frozen? ⟨w.heap.size, 0, none⟩ = false := ⟨blk_cell hL 0, blk_free hL 0⟩
  obtain ⟨r0, r1, r2, r3⟩ : w2.cell? ⟨w.heap.size + 1, 0, none⟩ = some (.int .i64 0) ∧ w2.cell? ⟨w.heap.size + 1, 1, none⟩ = some (.int .i64 0) ∧ w2.frozen? ⟨w.heap.size + 1, 0, none⟩ = false ∧ w2.frozen? ⟨w.heap.size + 1, 1, none⟩ = false := ⟨blk_cell hF 0, blk_cell hF 1, blk_free hF 0, blk_free hF 1⟩
  have HL := Lib.hid hL
  have HFF := Lib.hid hF
  clear hL hF
  have ca : ∀ (o : Obj) (x : Addr), x.block < w2.heap.size → (w2.alloc o).cell? x = w2.cell? x := fun o x hx => World.cell?_of_block (Below.heap_alloc w2 o _ hx)
  have fa : ∀ (o : Obj) (x : Addr), x.block < w2.heap.size → (w2.alloc o).frozen? x = w2.frozen? x := fun o x hx => World.frozen?_of_block (Below.heap_alloc w2 o _ hx)
  by_cases hbad : (c != 0) = true
  · have HR : Hid (mlayout l = .error (a, c)) := by show mlayout l = _; unfold mlayout; rw [HAC.out]; rw [if_pos hbad]
    have l0' : ∀ o, (w2.alloc o).cell? ⟨w.heap.size, 0, none⟩ = some (.slice none 0 0) := fun o => (ca o ⟨w.heap.size, 0, none⟩ (by simp only; omega)).trans l0
    have l1' : ∀ o, (w2.alloc o).frozen? ⟨w.heap.size, 0, none⟩ = false := fun o => (fa o ⟨w.heap.size, 0, none⟩ (by simp only; omega)).trans l1
    have r0' : ∀ o, (w2.alloc o).cell? ⟨w.heap.size + 1, 0, none⟩ = some (.int .i64 0) := fun o => (ca o ⟨w.heap.size + 1, 0, none⟩ (by simp only; omega)).trans r0
    have r1' : ∀ o, (w2.alloc o).cell? ⟨w.heap.size + 1, 1, none⟩ = some (.int .i64 0) := fun o => (ca o ⟨w.heap.size + 1, 1, none⟩ (by simp only; omega)).trans r1
    have r2' : ∀ o, (w2.alloc o).frozen? ⟨w.heap.size + 1, 0, none⟩ = false := fun o => (fa o ⟨w.heap.size + 1, 0, none⟩ (by simp only; omega)).trans r2
    have r3' : ∀ o, (w2.alloc o).frozen? ⟨w.heap.size + 1, 1, none⟩ = false := fun o => (fa o ⟨w.heap.size + 1, 1, none⟩ (by simp only; omega)).trans r3
    clear ca fa l0 l1 r0 r1 r2 r3
    go_wp2
    go_region
    all_goals
      go_wp2
      have hLa : (w2.alloc (.cells #[.int .i64 a, .int .i64 c] 26)).heap[w.heap.size]? = some (.cells #[.slice none 0 0] 23 (0, 0)) := by rw [Below.heap_alloc _ _ _ (by omega)]; exact HL.out
      have hFa : (w2.alloc (.cells #[.int .i64 a, .int .i64 c] 26)).heap[w.heap.size + 1]? = some (.cells #[.int .i64 0, .int .i64 0] 26 (0, 0)) := by rw [Below.heap_alloc _ _ _ (by omega)]; exact HFF.out
      obtain ⟨g1, g2⟩ := two_blocks (by omega) hLa hFa (.slice none 0 0) (.int .i64 a) (.int .i64 c)
      refine ⟨_, results15_run _ _ w.heap.size (w.heap.size + 1) none 0 0 a c rfl rfl (blk_cell g1 0) (blk_cell g2 0) (blk_cell g2 1), ?_⟩
      rw [HR.out]
      exact ⟨rfl, (three_below (HB2.out.alloc (by omega) _) (Nat.le_refl _) (by omega) _ _ _).drew⟩
  · have hbad : (c != 0) = false := by simpa using hbad
    have HR : Hid (mlayout l = match mlay l with
      | .error f => .error f
      | .ok t => .ok t.out) := by show mlayout l = _; unfold mlayout; rw [HAC.out]; simp only [hbad, Bool.false_eq_true, if_false]
    go_wp2_with fail
    obtain ⟨w5, hw5⟩ : ∃ w5, w5 = (w2.alloc (.cells #[.int .i64 a, .int .i64 c] 26)).alloc (.cells #[.slice va0 l.length vc0, .slice none 0 0, .slice none 0 0, .int .i64 0] 57) := ⟨_, rfl⟩
    rw [← hw5]
    have hb5 : w5.heap[w2.heap.size + 1]? = some (YB (.slice va0 l.length vc0) (.slice none 0 0) (.slice none 0 0) 0) := by
      rw [hw5, show w2.heap.size + 1 = (w2.alloc (.cells #[.int .i64 a, .int .i64 c] 26)).heap.size from by simp, alloc_blk]; rfl
    have HB5 : Hid (Below w.heap.size w w5) := by
      show Below w.heap.size w w5
      rw [hw5]; exact (HB2.out.alloc (by omega) _).alloc (by simp; omega) _
    have HB25 : Hid (Below w2.heap.size w2 w5) := by
      show Below w2.heap.size w2 w5
      rw [hw5]; exact ((Below.refl _ _).alloc (Nat.le_refl _) _).alloc (by simp) _
    have HS5 : Hid (Yd [] (w2.heap.size + 1) w5 w5 l ⟨[], [], 0⟩) := by
      refine ⟨_, _, _, ⟨hb5, ?_, ?_, World.ownsRow_nil _ _ _ _, World.ownsRow_nil _ _ _ _, Or.inl rfl, Below.refl _ _⟩, fun x hx => by cases hx⟩
      · refine HO.out.kept (row := none) ⟨HB5.out.os, HB5.out.tape, HB5.out.output, HB5.out.size, fun k hk _ => HB5.out.block k hk⟩ ?_
        cases hv : (Value.slice va0 l.length vc0).ownBlock with
        | none => exact Or.inl rfl
        | some k => exact Or.inr (by simp)
      · intro k hk
        have := (HO.out.lt k hk).2
        omega
    clear hw5 hb5 ca fa
    refine (yall_any [] (w2.heap.size + 1) w5 w5 l HS5.out hl).mono ?_
    intro e6 w6 h6
    rcases hm : mlay l with f | t
    · rw [hm] at h6
      obtain ⟨rfl, hb6⟩ := h6
      have HM := Lib.hid hm
      have H26 : Hid (Below (w.heap.size + 2) w2 w6) := (HB25.out.mono hz2).trans (hb6.mono (by omega))
      have H06 : Hid (Below w.heap.size w w6) := HB5.out.trans (hb6.mono (by omega))
      clear hb6 hm
      refine leaves_cons (f := 22) (args := #[.pointer (some ⟨w.heap.size, 0, none⟩), .pointer (some ⟨w.heap.size + 1, 0, none⟩)]) (by simp) (by simp [go_sem]) ?_
      refine (catch_fault2 w.heap.size (w.heap.size + 1) f.1 f.2 w6 _ _ _ (by omega) ((H26.out.cell (by simp only; omega)).trans l0) ((H26.out.cell (by simp only; omega)).trans r0) ((H26.out.cell (by simp only; omega)).trans r1) ((H26.out.frozen (by simp only; omega)).trans l1) ((H26.out.frozen (by simp only; omega)).trans r2) ((H26.out.frozen (by simp only; omega)).trans r3)).mono ?_
      rintro e7 u7 w7 ⟨rfl, rfl, rfl⟩
      have hLa : w6.heap[w.heap.size]? = some (.cells #[.slice none 0 0] 23 (0, 0)) := by rw [H26.out.block _ (by omega)]; exact HL.out
      have hFa : w6.heap[w.heap.size + 1]? = some (.cells #[.int .i64 0, .int .i64 0] 26 (0, 0)) := by rw [H26.out.block _ (by omega)]; exact HFF.out
      obtain ⟨g1, g2⟩ := two_blocks (by omega) hLa hFa (.slice none 0 0) (.int .i64 f.1) (.int .i64 f.2)
      have hz6 := H26.out.size
      have g1' : ((((w6.setCell ⟨w.heap.size, 0, none⟩ (.slice none 0 0)).setCell ⟨w.heap.size + 1, 0, none⟩ (.int .i64 f.1)).setCell ⟨w.heap.size + 1, 1, none⟩ (.int .i64 f.2)).alloc (.cells #[.int .i64 f.1, .int .i64 f.2] 26)).heap[w.heap.size]? = some (.cells #[.slice none 0 0] 23 (0, 0)) := by
        rw [Below.heap_alloc _ _ _ (by simp; omega)]; exact g1
      have g2' : ((((w6.setCell ⟨w.heap.size, 0, none⟩ (.slice none 0 0)).setCell ⟨w.heap.size + 1, 0, none⟩ (.int .i64 f.1)).setCell ⟨w.heap.size + 1, 1, none⟩ (.int .i64 f.2)).alloc (.cells #[.int .i64 f.1, .int .i64 f.2] 26)).heap[w.heap.size + 1]? = some (.cells #[.int .i64 f.1, .int .i64 f.2] 26 (0, 0)) := by
        rw [Below.heap_alloc _ _ _ (by simp; omega)]; exact g2
      refine ⟨_, results15_run _ _ w.heap.size (w.heap.size + 1) none 0 0 f.1 f.2 rfl rfl (blk_cell g1' 0) (blk_cell g2' 0) (blk_cell g2' 1), ?_⟩
      rw [HR.out, HM.out]
      exact ⟨rfl, ((three_below H06.out (Nat.le_refl _) (by omega) _ _ _).alloc (by simp; have := H06.out.size; omega) _).drew⟩
    · rw [hm] at h6
      obtain ⟨rfl, h6⟩ := h6
      have HM := Lib.hid hm
      obtain ⟨vi, vo, vp, hr, _⟩ := h6
      obtain ⟨va, vc, rfl⟩ := own_slice hr.own
      obtain ⟨c0, c1, c2, c3, f1, f2, f3⟩ := yc hr.blk
      have HRd := Lib.hid hr
      have H26 : Hid (Below (w.heap.size + 2) w2 w6) := (HB25.out.mono hz2).trans (hr.bel.mono (by omega))
      have H06 : Hid (Below w.heap.size w w6) := HB5.out.trans (hr.bel.mono (by omega))
      have m0 : w6.cell? ⟨w.heap.size, 0, none⟩ = some (.slice none 0 0) := (H26.out.cell (by simp only; omega)).trans l0
      have m1 : w6.frozen? ⟨w.heap.size, 0, none⟩ = false := (H26.out.frozen (by simp only; omega)).trans l1
      have n0 : w6.cell? ⟨w.heap.size + 1, 0, none⟩ = some (.int .i64 0) := (H26.out.cell (by simp only; omega)).trans r0
      have n1 : w6.cell? ⟨w.heap.size + 1, 1, none⟩ = some (.int .i64 0) := (H26.out.cell (by simp only; omega)).trans r1
      have n2 : w6.frozen? ⟨w.heap.size + 1, 0, none⟩ = false := (H26.out.frozen (by simp only; omega)).trans r2
      have n3 : w6.frozen? ⟨w.heap.size + 1, 1, none⟩ = false := (H26.out.frozen (by simp only; omega)).trans r3
      clear hm hr l0 l1 r0 r1 r2 r3
      go_wp2
      refine leaves_cons (f := 22) (args := #[.pointer (some ⟨w.heap.size, 0, none⟩), .pointer (some ⟨w.heap.size + 1, 0, none⟩)]) (by simp) (by simp [go_sem]) ?_
      refine (catch_idle2 _ _ _).mono ?_
      rintro e7 u7 w7 ⟨rfl, rfl, rfl⟩
      have hLa : w6.heap[w.heap.size]? = some (.cells #[.slice none 0 0] 23 (0, 0)) := by rw [H26.out.block _ (by omega)]; exact HL.out
      have hFa : w6.heap[w.heap.size + 1]? = some (.cells #[.int .i64 0, .int .i64 0] 26 (0, 0)) := by rw [H26.out.block _ (by omega)]; exact HFF.out
      obtain ⟨g1, g2⟩ := two_blocks (by omega) hLa hFa (.slice va t.out.length vc) (.int .i64 0) (.int .i64 0)
      have hz6 := H26.out.size
      have g1' : ((((w6.setCell ⟨w.heap.size, 0, none⟩ (.slice va t.out.length vc)).setCell ⟨w.heap.size + 1, 0, none⟩ (.int .i64 0)).setCell ⟨w.heap.size + 1, 1, none⟩ (.int .i64 0)).alloc (.cells #[.int .i64 0, .int .i64 0] 26)).heap[w.heap.size]? = some (.cells #[.slice va t.out.length vc] 23 (0, 0)) := by
        rw [Below.heap_alloc _ _ _ (by simp; omega)]; exact g1
      have g2' : ((((w6.setCell ⟨w.heap.size, 0, none⟩ (.slice va t.out.length vc)).setCell ⟨w.heap.size + 1, 0, none⟩ (.int .i64 0)).setCell ⟨w.heap.size + 1, 1, none⟩ (.int .i64 0)).alloc (.cells #[.int .i64 0, .int .i64 0] 26)).heap[w.heap.size + 1]? = some (.cells #[.int .i64 0, .int .i64 0] 26 (0, 0)) := by
        rw [Below.heap_alloc _ _ _ (by simp; omega)]; exact g2
      refine ⟨_, results15_run _ _ w.heap.size (w.heap.size + 1) va t.out.length vc 0 0 rfl rfl (blk_cell g1' 0) (blk_cell g2' 0) (blk_cell g2' 1), ?_⟩
      rw [HR.out, HM.out]
      refine ⟨_, rfl, ?_, (three_below H06.out (Nat.le_refl _) (by omega) _ _ _).alloc (by simp; have := H06.out.size; omega) _⟩
      refine owns_base (base := w2.heap.size + 1 + 1) ?_ (by omega)
      exact (ownsRow_setCell_below (ownsRow_setCell_below (ownsRow_setCell_below HRd.out.own (by simp only; omega) _) (by simp only; omega) _) (by simp only; omega) _).alloc _
end Go.Proofs.YtkfkgdkfgpofnaaDoor
