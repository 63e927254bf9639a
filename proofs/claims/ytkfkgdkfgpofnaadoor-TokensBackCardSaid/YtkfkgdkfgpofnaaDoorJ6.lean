/- The walk of Scan. -/
import Derived.Test.YtkfkgdkfgpofnaaDoorJ5
namespace Go.Proofs.YtkfkgdkfgpofnaaDoor
open Go.RowKit
set_option maxRecDepth 100000

theorem mallF_good (s : ByteArray) (n : Nat) : ∀ (t t' : St), t.Good s → mallF s n t = .ok t' → t'.Good s := by
  induction n with
  | zero => intro t t' _ h; simp [mallF] at h
  | succ n ih =>
    intro t t' hg h
    rw [mallF] at h
    split at h
    · rename_i hlt
      rcases hm : mtok s t with f | t1
      · rw [hm] at h; cases h
      · rw [hm] at h
        obtain ⟨g1, _⟩ := mtok_good s t t1 hg hlt hm
        simp only at h
        rcases hk : mskip s t1.p t1.l t1.g with a | ⟨p, l, g⟩
        · rw [hk] at h; cases h
        · rw [hk] at h
          have hb := mskip_bd s _ _ _ _ _ _ hk g1.p g1.l g1.g
          exact ih { t1 with p := p, l := l, g := g } t' ⟨hb.2.1, hb.2.2.1, hb.2.2.2, by have := g1.out; simp only; omega, g1.op⟩ h
    · rcases ho : t.op.getLast? with _ | br
      · rw [ho] at h; injection h with h; subst h; exact hg
      · rw [ho] at h; cases h
theorem mraw_len {s : ByteArray} {l : List Tok} (h : mraw s = .ok l) : l.length ≤ 2 * s.size := by
  unfold mraw at h
  split at h
  · cases h
  · rcases hm : mall s st0 with f | t
    · rw [hm] at h; cases h
    · rw [hm] at h
      injection h with h
      subst h
      unfold mall at hm
      rcases hk : mskip s st0.p st0.l st0.g with a | ⟨p, q, g⟩
      · rw [hk] at hm; cases hm
      · rw [hk] at hm
        have hb := mskip_bd s _ _ _ _ _ _ hk (Nat.zero_le _) (Nat.le_refl _) (Nat.le_refl _)
        have hg := mallF_good s _ _ _ ⟨hb.2.1, hb.2.2.1, hb.2.2.2, Nat.zero_le _, Nat.zero_le _⟩ hm
        have := hg.out
        have := hg.p
        omega

/-- The tokens of a text, with layout, or the first fault. -/
def mscan (s : ByteArray) : Except Flt (List Tok) :=
  match mraw s with
  | .error f => if (f.2 != 0) = true then .error f else mlayout []
  | .ok l => mlayout l

theorem results9_run (tmps : Array Value) (W : World) (F : Nat) (v : Value) (x y : Value) (a c : Int) (h1 : tmps[2]?.getD undef = v) (h2 : tmps[3]?.getD undef = .pointer (some ⟨F, 0, none⟩)) (hF : W.heap[F]? = some (.cells #[x, y] 26 (0, 0))) :
    (results Tryd.f9 tmps).run Tryd.prog ((W.setCell ⟨F, 0, none⟩ (.int .i64 a)).setCell ⟨F, 1, none⟩ (.int .i64 c)) = .ok (.tuple #[v, .agg #[.int .i64 a, .int .i64 c]]) ((W.setCell ⟨F, 0, none⟩ (.int .i64 a)).setCell ⟨F, 1, none⟩ (.int .i64 c)) := by
  have h := blk_set (blk_set hF 0 (.int .i64 a)) 1 (.int .i64 c)
  have r0 : ((W.setCell ⟨F, 0, none⟩ (.int .i64 a)).setCell ⟨F, 1, none⟩ (.int .i64 c)).cell? ⟨F, 0, none⟩ = some (.int .i64 a) := blk_cell h 0
  have r1 : ((W.setCell ⟨F, 0, none⟩ (.int .i64 a)).setCell ⟨F, 1, none⟩ (.int .i64 c)).cell? ⟨F, 1, none⟩ = some (.int .i64 c) := blk_cell h 1
  generalize (W.setCell ⟨F, 0, none⟩ (.int .i64 a)).setCell ⟨F, 1, none⟩ (.int .i64 c) = W2 at *
  simp [results, Tryd.results9, go_sem, h1, h2, r0, r1]

theorem results9_drew (tmps : Array Value) (W : World) (F : Nat) (v : Value) (x y : Value) (a c : Int) (h1 : tmps[2]?.getD undef = v) (h2 : tmps[3]?.getD undef = .pointer (some ⟨F, 0, none⟩)) (hF : W.heap[F]? = some (.cells #[x, y] 26 (0, 0))) :
    (results Tryd.f9 tmps).run Tryd.prog ((W.setCell ⟨F, 0, none⟩ (.int .i64 a)).setCell ⟨F, 1, none⟩ (.int .i64 c)).drew = .ok (.tuple #[v, .agg #[.int .i64 a, .int .i64 c]]) ((W.setCell ⟨F, 0, none⟩ (.int .i64 a)).setCell ⟨F, 1, none⟩ (.int .i64 c)).drew := by
  have h := blk_set (blk_set hF 0 (.int .i64 a)) 1 (.int .i64 c)
  have r0 : ((W.setCell ⟨F, 0, none⟩ (.int .i64 a)).setCell ⟨F, 1, none⟩ (.int .i64 c)).drew.cell? ⟨F, 0, none⟩ = some (.int .i64 a) := blk_cell h 0
  have r1 : ((W.setCell ⟨F, 0, none⟩ (.int .i64 a)).setCell ⟨F, 1, none⟩ (.int .i64 c)).drew.cell? ⟨F, 1, none⟩ = some (.int .i64 c) := blk_cell h 1
  generalize ((W.setCell ⟨F, 0, none⟩ (.int .i64 a)).setCell ⟨F, 1, none⟩ (.int .i64 c)).drew = W2 at *
  simp [results, Tryd.results9, go_sem, h1, h2, r0, r1]
theorem scan_below {w w1 W : World} (h0 : Below w.heap.size w w1) (hb : Below (w.heap.size + 1) w1 W) (hz : w.heap.size ≤ w.heap.size) (a c : Value) : Below w.heap.size w ((W.setCell ⟨w.heap.size, 0, none⟩ a).setCell ⟨w.heap.size, 1, none⟩ c) :=
  Below.setCell (Below.setCell (h0.trans (hb.mono (by omega))) hz _) hz _
set_option maxHeartbeats 4000000 in
theorem scan_any (s : ByteArray) (w : World) (hT : Tab w) (h0 : 0 < w.heap.size) (hs : s.size ≤ 40000) :
    Calls Tryd.prog 9 #[.string s] w (Ls w (mscan s)) := by
  have HT := Lib.hid hT
  clear hT
  have HB0 : Hid (Below w.heap.size w (w.alloc (.cells #[.int .i64 0, .int .i64 0] 26))) := (Below.refl _ _).alloc (Nat.le_refl _) _
  have HT0 : Hid (Tab (w.alloc (.cells #[.int .i64 0, .int .i64 0] 26))) := by
    intro i hi
    rw [HB0.out.cell (p := ⟨0, i, none⟩) h0]; exact HT.out i hi
  have hbk : (w.alloc (.cells #[.int .i64 0, .int .i64 0] 26)).heap[w.heap.size]? = some (.cells #[.int .i64 0, .int .i64 0] 26 (0, 0)) := heap_alloc_new w _
  have HBK := Lib.hid hbk
  clear hbk
  go_enter Tryd.func9, Tryd.ntmps9
  go_wp2_with fail
  generalize hw1 : w.alloc (.cells #[.int .i64 0, .int .i64 0] 26) = w1 at *
  have hz1 : w1.heap.size = w.heap.size + 1 := by rw [← hw1]; simp
  clear hw1
  refine (raw_any s w1 HT0.out (by omega) (by omega)).mono ?_
  intro e2 w2 h2
  rcases hm : mraw s with f | l
  · rw [hm] at h2
    obtain ⟨rfl, hb2⟩ := h2
    have HB2 : Hid (Below (w.heap.size + 1) w1 w2) := by rw [← hz1]; exact hb2
    have HBK2 : Hid (w2.heap[w.heap.size]? = some (.cells #[.int .i64 0, .int .i64 0] 26 (0, 0))) := (HB2.out.block _ (by omega)).trans HBK.out
    have HM := Lib.hid hm
    clear hb2 hm
    by_cases hc : (f.2 != 0) = true
    · have HR : Hid (mscan s = .error f) := by show mscan s = _; unfold mscan; rw [HM.out]; exact if_pos hc
      have hbb : ∀ o, (w2.alloc o).heap[w.heap.size]? = some (.cells #[.int .i64 0, .int .i64 0] 26 (0, 0)) := fun o => by rw [Below.heap_alloc _ _ _ (by have := HB2.out.size; omega)]; exact HBK2.out
      have HBB := Lib.hid hbb
      have b0 : ∀ o, (w2.alloc o).cell? ⟨w.heap.size, 0, none⟩ = some (.int .i64 0) := fun o => (fault_blk (hbb o)).1
      have b1 : ∀ o, (w2.alloc o).cell? ⟨w.heap.size, 1, none⟩ = some (.int .i64 0) := fun o => (fault_blk (hbb o)).2.1
      have b2 : ∀ o, (w2.alloc o).frozen? ⟨w.heap.size, 0, none⟩ = false := fun o => (fault_blk (hbb o)).2.2.1
      have b3 : ∀ o, (w2.alloc o).frozen? ⟨w.heap.size, 1, none⟩ = false := fun o => (fault_blk (hbb o)).2.2.2
      have hz2 : w.heap.size + 1 ≤ w2.heap.size := by have := HB2.out.size; omega
      clear hbb
      go_wp2
      go_region
      all_goals
        go_wp2
        refine bodyPost_ret (v := .tuple #[.slice none 0 0, .agg #[.int .i64 f.1, .int .i64 f.2]]) (results9_drew _ _ w.heap.size (.slice none 0 0) _ _ f.1 f.2 rfl rfl (HBB.out _)) rfl ?_
        rw [HR.out]
        exact ⟨rfl, (scan_below HB0.out (HB2.out.alloc hz2 _) (by omega) _ _).drew⟩
    · have hc : (f.2 != 0) = false := by simpa using hc
      have HMS : Hid (mscan s = mlayout []) := by show mscan s = _; unfold mscan; rw [HM.out]; simp only [hc, Bool.false_eq_true, if_false]
      go_wp2_with fail
      generalize hw3 : w2.alloc (.cells #[.int .i64 f.1, .int .i64 f.2] 26) = w3 at *
      have HB3 : Hid (Below (w.heap.size + 1) w1 w3) := by show Below _ _ _; rw [← hw3]; exact HB2.out.alloc (by have := HB2.out.size; omega) _
      have HO3 : Hid (w3.ownsRow 0 32 5 (.slice none 0 0) ([] : List Tok).length (([] : List Tok).flatMap Tok.cells)) := by show World.ownsRow _ _ _ _ _ _ _; rw [← hw3]; exact World.ownsRow_nil _ _ _ _
      clear hw3
      refine (layout_any ([] : List Tok) _ w3 HO3.out (by simp)).mono ?_
      intro e4 w4 h4
      have hz3 : w.heap.size + 1 ≤ w3.heap.size := by have := HB3.out.size; omega
      rcases hq : mlayout ([] : List Tok) with f4 | l4
      · rw [hq] at h4
        obtain ⟨rfl, hb4⟩ := h4
        have HR : Hid (mscan s = .error f4) := by show mscan s = _; rw [HMS.out, hq]
        have HB4 := Lib.hid (HB3.out.trans (hb4.mono (by omega)))
        have HBK4 : Hid (w4.heap[w.heap.size]? = some (.cells #[.int .i64 0, .int .i64 0] 26 (0, 0))) := (HB4.out.block _ (by omega)).trans HBK.out
        obtain ⟨b0, b1, b2, b3⟩ := fault_blk HBK4.out
        clear hb4 hq
        go_wp2
        refine bodyPost_ret (v := .tuple #[.slice none 0 0, .agg #[.int .i64 f4.1, .int .i64 f4.2]]) (results9_run _ w4 w.heap.size (.slice none 0 0) _ _ f4.1 f4.2 rfl rfl HBK4.out) rfl ?_
        rw [HR.out]
        exact ⟨rfl, scan_below HB0.out HB4.out (by omega) _ _⟩
      · rw [hq] at h4
        obtain ⟨v4, rfl, hown4, hb4⟩ := h4
        have HR : Hid (mscan s = .ok l4) := by show mscan s = _; rw [HMS.out, hq]
        have HB4 := Lib.hid (HB3.out.trans (hb4.mono (by omega)))
        have HBK4 : Hid (w4.heap[w.heap.size]? = some (.cells #[.int .i64 0, .int .i64 0] 26 (0, 0))) := (HB4.out.block _ (by omega)).trans HBK.out
        have HO4 := Lib.hid hown4
        obtain ⟨b0, b1, b2, b3⟩ := fault_blk HBK4.out
        clear hb4 hq hown4
        go_wp2
        refine bodyPost_ret (v := .tuple #[v4, .agg #[.int .i64 0, .int .i64 0]]) (results9_run _ w4 w.heap.size v4 _ _ 0 0 rfl rfl HBK4.out) rfl ?_
        rw [HR.out]
        refine ⟨v4, rfl, ?_, scan_below HB0.out HB4.out (by omega) _ _⟩
        exact owns_base (ownsRow_setCell_below (ownsRow_setCell_below HO4.out (by simp only; omega) _) (by simp only; omega) _) (by omega)
  · rw [hm] at h2
    obtain ⟨v, rfl, hown, hb2⟩ := h2
    have HMS : Hid (mscan s = mlayout l) := by show mscan s = _; unfold mscan; rw [hm]
    have HLN : Hid (l.length ≤ 100000) := by have := mraw_len hm; show _ ≤ _; omega
    have HB2 : Hid (Below (w.heap.size + 1) w1 w2) := by rw [← hz1]; exact hb2
    have HOW := Lib.hid hown
    clear hb2 hm hown
    go_wp2_with fail
    generalize hw3 : w2.alloc (.cells #[.int .i64 0, .int .i64 0] 26) = w3 at *
    have HB3 : Hid (Below (w.heap.size + 1) w1 w3) := by show Below _ _ _; rw [← hw3]; exact HB2.out.alloc (by have := HB2.out.size; omega) _
    have HO3 : Hid (w3.ownsRow 0 32 5 v l.length (l.flatMap Tok.cells)) := by show World.ownsRow _ _ _ _ _ _ _; rw [← hw3]; exact owns_base (HOW.out.alloc _) (by omega)
    clear hw3
    refine (layout_any l _ w3 HO3.out (HLN.out)).mono ?_
    intro e4 w4 h4
    have hz3 : w.heap.size + 1 ≤ w3.heap.size := by have := HB3.out.size; omega
    rcases hq : mlayout l with f4 | l4
    · rw [hq] at h4
      obtain ⟨rfl, hb4⟩ := h4
      have HR : Hid (mscan s = .error f4) := by show mscan s = _; rw [HMS.out, hq]
      have HB4 := Lib.hid (HB3.out.trans (hb4.mono (by omega)))
      have HBK4 : Hid (w4.heap[w.heap.size]? = some (.cells #[.int .i64 0, .int .i64 0] 26 (0, 0))) := (HB4.out.block _ (by omega)).trans HBK.out
      obtain ⟨b0, b1, b2, b3⟩ := fault_blk HBK4.out
      clear hb4 hq
      go_wp2
      refine bodyPost_ret (v := .tuple #[.slice none 0 0, .agg #[.int .i64 f4.1, .int .i64 f4.2]]) (results9_run _ w4 w.heap.size (.slice none 0 0) _ _ f4.1 f4.2 rfl rfl HBK4.out) rfl ?_
      rw [HR.out]
      exact ⟨rfl, scan_below HB0.out HB4.out (by omega) _ _⟩
    · rw [hq] at h4
      obtain ⟨v4, rfl, hown4, hb4⟩ := h4
      have HR : Hid (mscan s = .ok l4) := by show mscan s = _; rw [HMS.out, hq]
      have HB4 := Lib.hid (HB3.out.trans (hb4.mono (by omega)))
      have HBK4 : Hid (w4.heap[w.heap.size]? = some (.cells #[.int .i64 0, .int .i64 0] 26 (0, 0))) := (HB4.out.block _ (by omega)).trans HBK.out
      have HO4 := Lib.hid hown4
      obtain ⟨b0, b1, b2, b3⟩ := fault_blk HBK4.out
      clear hb4 hq hown4
      go_wp2
      refine bodyPost_ret (v := .tuple #[v4, .agg #[.int .i64 0, .int .i64 0]]) (results9_run _ w4 w.heap.size v4 _ _ 0 0 rfl rfl HBK4.out) rfl ?_
      rw [HR.out]
      refine ⟨v4, rfl, ?_, scan_below HB0.out HB4.out (by omega) _ _⟩
      exact owns_base (ownsRow_setCell_below (ownsRow_setCell_below HO4.out (by simp only; omega) _) (by simp only; omega) _) (by omega)
end Go.Proofs.YtkfkgdkfgpofnaaDoor
