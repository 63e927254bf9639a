/- The walk of Raw. -/
import Derived.Test.YtkfkgdkfgpofnaaDoorG3
import Derived.Test.YtkfkgdkfgpofnaaDoorG4
import Derived.Test.YtkfkgdkfgpofnaaDoorG5
namespace Go.Proofs.YtkfkgdkfgpofnaaDoor
open Go.RowKit
set_option maxRecDepth 100000

def st0 : St := ⟨0, 0, 0, [], []⟩
/-- The tokens of a text, or the first fault. -/
def mraw (s : ByteArray) : Except Flt (List Tok) :=
  if (mbad s).2 != 0 then .error (mbad s) else
    match mall s st0 with
    | .error f => .error f
    | .ok t => .ok t.out

/-- What a function comes to that hands back tokens and a fault. -/
def Ls (w : World) (r : Except Flt (List Tok)) (e : Ending) (w' : World) : Prop :=
  match r with
  | .ok out => ∃ v, e = .returned (.tuple #[v, .agg #[.int .i64 0, .int .i64 0]]) ∧ w'.ownsRow w.heap.size 32 5 v out.length (out.flatMap Tok.cells) ∧ Below w.heap.size w w'
  | .error f => e = .returned (.tuple #[.slice none 0 0, .agg #[.int .i64 f.1, .int .i64 f.2]]) ∧ Below w.heap.size w w'

theorem alloc_blk (w : World) (o : Obj) : (w.alloc o).heap[w.heap.size]? = some o := heap_alloc_new w o

theorem results7_run (tmps : Array Value) (W : World) (L F : Nat) (va : Option Addr) (n vc : Nat) (a c : Int) (h2 : tmps[2]?.getD undef = .pointer (some ⟨L, 0, none⟩)) (h3 : tmps[3]?.getD undef = .pointer (some ⟨F, 0, none⟩))
    (l0 : W.cell? ⟨L, 0, none⟩ = some (.slice va n vc)) (r0 : W.cell? ⟨F, 0, none⟩ = some (.int .i64 a)) (r1 : W.cell? ⟨F, 1, none⟩ = some (.int .i64 c)) :
    (results Tryd.f7 tmps).run Tryd.prog W = .ok (.tuple #[.slice va n vc, .agg #[.int .i64 a, .int .i64 c]]) W := by
  simp [results, Tryd.results7, go_sem, h2, h3, l0, r0, r1]

theorem two_blocks {W : World} {L F : Nat} {u x y : Value} (hne : L ≠ F) (hL : W.heap[L]? = some (.cells #[u] 23 (0, 0))) (hF : W.heap[F]? = some (.cells #[x, y] 26 (0, 0))) (v a c : Value) :
    (((W.setCell ⟨L, 0, none⟩ v).setCell ⟨F, 0, none⟩ a).setCell ⟨F, 1, none⟩ c).heap[L]? = some (.cells #[v] 23 (0, 0)) ∧ (((W.setCell ⟨L, 0, none⟩ v).setCell ⟨F, 0, none⟩ a).setCell ⟨F, 1, none⟩ c).heap[F]? = some (.cells #[a, c] 26 (0, 0)) := by
  constructor
  · rw [Below.heap_setCell _ _ _ _ hne, Below.heap_setCell _ _ _ _ hne]
    exact blk_set hL 0 v
  · have h1 : (W.setCell ⟨L, 0, none⟩ v).heap[F]? = some (.cells #[x, y] 26 (0, 0)) := by rw [Below.heap_setCell _ _ _ _ (fun e => hne e.symm)]; exact hF
    exact blk_set (blk_set h1 0 a) 1 c
theorem three_below {W w : World} {L F : Nat} (hb : Below w.heap.size w W) (hl : w.heap.size ≤ L) (hf : w.heap.size ≤ F) (v a c : Value) : Below w.heap.size w (((W.setCell ⟨L, 0, none⟩ v).setCell ⟨F, 0, none⟩ a).setCell ⟨F, 1, none⟩ c) :=
  Below.setCell (Below.setCell (Below.setCell hb hl _) hf _) hf _

theorem owns_base {w : World} {base base' e sz : Nat} {v : Value} {n : Nat} {xs : List Value} (h : w.ownsRow base e sz v n xs) (hb : base' ≤ base) : w.ownsRow base' e sz v n xs := by
  refine ⟨h.1, ?_⟩
  rcases h.2 with h2 | ⟨g, cap, cur, h1, h2, h3⟩
  · exact Or.inl h2
  · exact Or.inr ⟨g, cap, cur, h1, Nat.le_trans hb h2, h3⟩

set_option maxHeartbeats 2000000 in
theorem raw_any (s : ByteArray) (w : World) (hT : Tab w) (h0 : 0 < w.heap.size) (hs : s.size ≤ 60000) :
    Calls Tryd.prog 7 #[.string s] w (Ls w (mraw s)) := by
  have HT := Lib.hid hT
  clear hT
  have hmf : ∀ (fn : Fn) (first cap : Array Value) (w : World), (Instr.makeFunc fn first cap).run Tryd.prog w = .ok (.func fn first cap) w := fun _ _ _ _ => rfl
  obtain ⟨a, c, hac⟩ : ∃ a c, mbad s = (a, c) := ⟨_, _, rfl⟩
  have HAC := Lib.hid hac
  clear hac
  go_enter_defers Tryd.func7, Tryd.ntmps7
  go_wp2_with fail
  refine (badText_any s _ (by omega)).mono ?_
  rintro e2 w2 ⟨rfl, hb2⟩
  rw [show (mbad s).1 = a from by rw [HAC.out], show (mbad s).2 = c from by rw [HAC.out]]
  have hL : w2.heap[w.heap.size]? = some (.cells #[.slice none 0 0] 23 (0, 0)) := by
    rw [hb2.block _ (by simp; omega), Below.heap_alloc _ _ _ (by simp), alloc_blk]
  have hF : w2.heap[w.heap.size + 1]? = some (.cells #[.int .i64 0, .int .i64 0] 26 (0, 0)) := by
    rw [hb2.block _ (by simp), show w.heap.size + 1 = (w.alloc (.cells #[.slice none 0 0] 23)).heap.size from by simp, alloc_blk]
  have hz2 : w.heap.size + 2 ≤ w2.heap.size := by have := hb2.size; simp at this; omega
  have HB2 : Hid (Below w.heap.size w w2) := ((((Below.refl _ _).alloc (Nat.le_refl _) _).alloc (by simp) _).trans (hb2.mono (by simp; omega)))
  clear hb2
  obtain ⟨l0, l1⟩ : w2.cell? ⟨w.heap.size, 0, none⟩ = some (.slice none 0 0) ∧ w2.frozen? ⟨w.heap.size, 0, none⟩ = false := ⟨blk_cell hL 0, blk_free hL 0⟩
  obtain ⟨r0, r1, r2, r3⟩ : w2.cell? ⟨w.heap.size + 1, 0, none⟩ = some (.int .i64 0) ∧ w2.cell? ⟨w.heap.size + 1, 1, none⟩ = some (.int .i64 0) ∧ w2.frozen? ⟨w.heap.size + 1, 0, none⟩ = false ∧ w2.frozen? ⟨w.heap.size + 1, 1, none⟩ = false := ⟨blk_cell hF 0, blk_cell hF 1, blk_free hF 0, blk_free hF 1⟩
  have HL := Lib.hid hL
  have HFF := Lib.hid hF
  clear hL hF
  have ca : ∀ (o : Obj) (x : Addr), x.block < w2.heap.size → (w2.alloc o).cell? x = w2.cell? x := fun o x hx => World.cell?_of_block (Below.heap_alloc w2 o _ hx)
  have fa : ∀ (o : Obj) (x : Addr), x.block < w2.heap.size → (w2.alloc o).frozen? x = w2.frozen? x := fun o x hx => World.frozen?_of_block (Below.heap_alloc w2 o _ hx)
  by_cases hbad : (c != 0) = true
  · have HR : Hid (mraw s = .error (a, c)) := by show mraw s = _; unfold mraw; rw [HAC.out]; rw [if_pos hbad]
    have l0' : ∀ o, (w2.alloc o).cell? ⟨w.heap.size, 0, none⟩ = some (.slice none 0 0) := fun o => (ca o ⟨w.heap.size, 0, none⟩ (by simp only; omega)).trans l0
    have l1' : ∀ o, (w2.alloc o).frozen? ⟨w.heap.size, 0, none⟩ = false := fun o => (fa o ⟨w.heap.size, 0, none⟩ (by simp only; omega)).trans l1
    have r0' : ∀ o, (w2.alloc o).cell? ⟨w.heap.size + 1, 0, none⟩ = some (.int .i64 0) := fun o => (ca o ⟨w.heap.size + 1, 0, none⟩ (by simp only; omega)).trans r0
    have r1' : ∀ o, (w2.alloc o).cell? ⟨w.heap.size + 1, 1, none⟩ = some (.int .i64 0) := fun o => (ca o ⟨w.heap.size + 1, 1, none⟩ (by simp only; omega)).trans r1
    have r2' : ∀ o, (w2.alloc o).frozen? ⟨w.heap.size + 1, 0, none⟩ = false := fun o => (fa o ⟨w.heap.size + 1, 0, none⟩ (by simp only; omega)).trans r2
    have r3' : ∀ o, (w2.alloc o).frozen? ⟨w.heap.size + 1, 1, none⟩ = false := fun o => (fa o ⟨w.heap.size + 1, 1, none⟩ (by simp only; omega)).trans r3
    clear ca fa l0 l1 r0 r1 r2 r3
    go_wp2
    go_region
    all_goals
      go_wp2
      have hLa : (w2.alloc (.cells #[.int .i64 a, .int .i64 c] 26)).heap[w.heap.size]? = some (.cells #[.slice none 0 0] 23 (0, 0)) := by rw [Below.heap_alloc _ _ _ (by omega)]; exact HL.out
      have hFa : (w2.alloc (.cells #[.int .i64 a, .int .i64 c] 26)).heap[w.heap.size + 1]? = some (.cells #[.int .i64 0, .int .i64 0] 26 (0, 0)) := by rw [Below.heap_alloc _ _ _ (by omega)]; exact HFF.out
      obtain ⟨g1, g2⟩ := two_blocks (by omega) hLa hFa (.slice none 0 0) (.int .i64 a) (.int .i64 c)
      refine ⟨_, results7_run _ _ w.heap.size (w.heap.size + 1) none 0 0 a c rfl rfl (blk_cell g1 0) (blk_cell g2 0) (blk_cell g2 1), ?_⟩
      rw [HR.out]
      exact ⟨rfl, (three_below (HB2.out.alloc (by omega) _) (Nat.le_refl _) (by omega) _ _ _).drew⟩
  · have hbad : (c != 0) = false := by simpa using hbad
    have HR : Hid (mraw s = match mall s st0 with
      | .error f => .error f
      | .ok t => .ok t.out) := by show mraw s = _; unfold mraw; rw [HAC.out]; simp only [hbad, Bool.false_eq_true, if_false]
    go_wp2_with fail
    obtain ⟨w5, hw5⟩ : ∃ w5, w5 = (w2.alloc (.cells #[.int .i64 a, .int .i64 c] 26)).alloc (.cells #[.string s, .int .i64 0, .int .i64 0, .int .i64 0, .slice none 0 0, .slice none 0 0] 41) := ⟨_, rfl⟩
    rw [← hw5]
    have hb5 : w5.heap[w2.heap.size + 1]? = some (RB s 0 0 0 (.slice none 0 0) (.slice none 0 0)) := by
      rw [hw5, show w2.heap.size + 1 = (w2.alloc (.cells #[.int .i64 a, .int .i64 c] 26)).heap.size from by simp, alloc_blk]; rfl
    have HB5 : Hid (Below w.heap.size w w5) := by
      show Below w.heap.size w w5
      rw [hw5]; exact (HB2.out.alloc (by omega) _).alloc (by simp; omega) _
    have HB25 : Hid (Below w2.heap.size w2 w5) := by
      show Below w2.heap.size w2 w5
      rw [hw5]; exact ((Below.refl _ _).alloc (Nat.le_refl _) _).alloc (by simp) _
    have HT5 : Hid (Tab w5) := by
      show Tab w5
      intro i hi
      rw [HB5.out.cell (p := ⟨0, i, none⟩) h0]; exact HT.out i hi
    have HS5 : Hid (Sd (w2.heap.size + 1) s w5 w5 st0) := ⟨_, _, hb5, World.ownsRow_nil _ _ _ _, World.ownsRow_nil _ _ _ _, Or.inl rfl, Below.refl _ _⟩
    clear hw5 hb5 ca fa
    refine (all_any (w2.heap.size + 1) s w5 st0 w5 HT5.out (by omega) HS5.out ⟨Nat.zero_le _, Nat.le_refl _, Nat.le_refl _, Nat.zero_le _, Nat.zero_le _⟩ (by omega)).mono ?_
    intro e6 w6 h6
    rcases hm : mall s st0 with f | t
    · rw [hm] at h6
      obtain ⟨rfl, hb6⟩ := h6
      have HM := Lib.hid hm
      have H26 : Hid (Below (w.heap.size + 2) w2 w6) := (HB25.out.mono hz2).trans (hb6.mono (by omega))
      have H06 : Hid (Below w.heap.size w w6) := HB5.out.trans (hb6.mono (by omega))
      clear hb6 hm
      refine leaves_cons (f := 11) (args := #[.pointer (some ⟨w.heap.size, 0, none⟩), .pointer (some ⟨w.heap.size + 1, 0, none⟩)]) (by simp) (by simp [go_sem]) ?_
      refine (catch_fault w.heap.size (w.heap.size + 1) f.1 f.2 w6 _ _ _ (by omega) ((H26.out.cell (by simp only; omega)).trans l0) ((H26.out.cell (by simp only; omega)).trans r0) ((H26.out.cell (by simp only; omega)).trans r1) ((H26.out.frozen (by simp only; omega)).trans l1) ((H26.out.frozen (by simp only; omega)).trans r2) ((H26.out.frozen (by simp only; omega)).trans r3)).mono ?_
      rintro e7 u7 w7 ⟨rfl, rfl, rfl⟩
      have hLa : w6.heap[w.heap.size]? = some (.cells #[.slice none 0 0] 23 (0, 0)) := by rw [H26.out.block _ (by omega)]; exact HL.out
      have hFa : w6.heap[w.heap.size + 1]? = some (.cells #[.int .i64 0, .int .i64 0] 26 (0, 0)) := by rw [H26.out.block _ (by omega)]; exact HFF.out
      obtain ⟨g1, g2⟩ := two_blocks (by omega) hLa hFa (.slice none 0 0) (.int .i64 f.1) (.int .i64 f.2)
      have hz6 := H26.out.size
      have g1' : ((((w6.setCell ⟨w.heap.size, 0, none⟩ (.slice none 0 0)).setCell ⟨w.heap.size + 1, 0, none⟩ (.int .i64 f.1)).setCell ⟨w.heap.size + 1, 1, none⟩ (.int .i64 f.2)).alloc (.cells #[.int .i64 f.1, .int .i64 f.2] 26)).heap[w.heap.size]? = some (.cells #[.slice none 0 0] 23 (0, 0)) := by
        rw [Below.heap_alloc _ _ _ (by simp; omega)]; exact g1
      have g2' : ((((w6.setCell ⟨w.heap.size, 0, none⟩ (.slice none 0 0)).setCell ⟨w.heap.size + 1, 0, none⟩ (.int .i64 f.1)).setCell ⟨w.heap.size + 1, 1, none⟩ (.int .i64 f.2)).alloc (.cells #[.int .i64 f.1, .int .i64 f.2] 26)).heap[w.heap.size + 1]? = some (.cells #[.int .i64 f.1, .int .i64 f.2] 26 (0, 0)) := by
        rw [Below.heap_alloc _ _ _ (by simp; omega)]; exact g2
      refine ⟨_, results7_run _ _ w.heap.size (w.heap.size + 1) none 0 0 f.1 f.2 rfl rfl (blk_cell g1' 0) (blk_cell g2' 0) (blk_cell g2' 1), ?_⟩
      rw [HR.out, HM.out]
      exact ⟨rfl, ((three_below H06.out (Nat.le_refl _) (by omega) _ _ _).alloc (by simp; have := H06.out.size; omega) _).drew⟩
    · rw [hm] at h6
      obtain ⟨rfl, h6⟩ := h6
      have HM := Lib.hid hm
      obtain ⟨vo, vp, hr⟩ := h6
      obtain ⟨va, vc, rfl⟩ := own_slice hr.own
      obtain ⟨c0, c1, c2, c3, c4, c5, f1, f2, f3, f4, f5⟩ := rc hr.blk
      have HRd := Lib.hid hr
      have H26 : Hid (Below (w.heap.size + 2) w2 w6) := (HB25.out.mono hz2).trans (hr.bel.mono (by omega))
      have H06 : Hid (Below w.heap.size w w6) := HB5.out.trans (hr.bel.mono (by omega))
      have m0 : w6.cell? ⟨w.heap.size, 0, none⟩ = some (.slice none 0 0) := (H26.out.cell (by simp only; omega)).trans l0
      have m1 : w6.frozen? ⟨w.heap.size, 0, none⟩ = false := (H26.out.frozen (by simp only; omega)).trans l1
      have n0 : w6.cell? ⟨w.heap.size + 1, 0, none⟩ = some (.int .i64 0) := (H26.out.cell (by simp only; omega)).trans r0
      have n1 : w6.cell? ⟨w.heap.size + 1, 1, none⟩ = some (.int .i64 0) := (H26.out.cell (by simp only; omega)).trans r1
      have n2 : w6.frozen? ⟨w.heap.size + 1, 0, none⟩ = false := (H26.out.frozen (by simp only; omega)).trans r2
      have n3 : w6.frozen? ⟨w.heap.size + 1, 1, none⟩ = false := (H26.out.frozen (by simp only; omega)).trans r3
      clear hm hr l0 l1 r0 r1 r2 r3
      go_wp2
      refine leaves_cons (f := 11) (args := #[.pointer (some ⟨w.heap.size, 0, none⟩), .pointer (some ⟨w.heap.size + 1, 0, none⟩)]) (by simp) (by simp [go_sem]) ?_
      refine (catch_idle _ _ _).mono ?_
      rintro e7 u7 w7 ⟨rfl, rfl, rfl⟩
      have hLa : w6.heap[w.heap.size]? = some (.cells #[.slice none 0 0] 23 (0, 0)) := by rw [H26.out.block _ (by omega)]; exact HL.out
      have hFa : w6.heap[w.heap.size + 1]? = some (.cells #[.int .i64 0, .int .i64 0] 26 (0, 0)) := by rw [H26.out.block _ (by omega)]; exact HFF.out
      obtain ⟨g1, g2⟩ := two_blocks (by omega) hLa hFa (.slice va t.out.length vc) (.int .i64 0) (.int .i64 0)
      have hz6 := H26.out.size
      have g1' : ((((w6.setCell ⟨w.heap.size, 0, none⟩ (.slice va t.out.length vc)).setCell ⟨w.heap.size + 1, 0, none⟩ (.int .i64 0)).setCell ⟨w.heap.size + 1, 1, none⟩ (.int .i64 0)).alloc (.cells #[.int .i64 0, .int .i64 0] 26)).heap[w.heap.size]? = some (.cells #[.slice va t.out.length vc] 23 (0, 0)) := by
        rw [Below.heap_alloc _ _ _ (by simp; omega)]; exact g1
      have g2' : ((((w6.setCell ⟨w.heap.size, 0, none⟩ (.slice va t.out.length vc)).setCell ⟨w.heap.size + 1, 0, none⟩ (.int .i64 0)).setCell ⟨w.heap.size + 1, 1, none⟩ (.int .i64 0)).alloc (.cells #[.int .i64 0, .int .i64 0] 26)).heap[w.heap.size + 1]? = some (.cells #[.int .i64 0, .int .i64 0] 26 (0, 0)) := by
        rw [Below.heap_alloc _ _ _ (by simp; omega)]; exact g2
      refine ⟨_, results7_run _ _ w.heap.size (w.heap.size + 1) va t.out.length vc 0 0 rfl rfl (blk_cell g1' 0) (blk_cell g2' 0) (blk_cell g2' 1), ?_⟩
      rw [HR.out, HM.out]
      refine ⟨_, rfl, ?_, (three_below H06.out (Nat.le_refl _) (by omega) _ _ _).alloc (by simp; have := H06.out.size; omega) _⟩
      refine owns_base (base := w2.heap.size + 1 + 1) ?_ (by omega)
      exact (ownsRow_setCell_below (ownsRow_setCell_below (ownsRow_setCell_below HRd.out.own (by simp only; omega) _) (by simp only; omega) _) (by simp only; omega) _).alloc _
end Go.Proofs.YtkfkgdkfgpofnaaDoor
