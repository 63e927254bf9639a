/- The walk of badList. -/
import Derived.Test.YtkfkgdkfgpofnaaDoorH4
import Derived.Test.YtkfkgdkfgpofnaaDoorH6
import Derived.Deep.Cut
import Derived.Deep.CutRange
namespace Go.Proofs.YtkfkgdkfgpofnaaDoor
open Go.RowKit Go.Sort
set_option maxRecDepth 100000

def badlF (l : List Tok) : Nat → Nat → Int × Int
  | 0, _ => if 20000 < l.length then (0, 18) else (0, 0)
  | n + 1, i => if (l.getD i Tz).kind < 0 ∨ 10 < (l.getD i Tz).kind then (i, 16) else if 0 < i ∧ inOrd (l.getD (i - 1) Tz) (l.getD i Tz) = false then (i, 23) else badlF l n (i + 1)
/-- The fault of a list of tokens. -/
def mbadl (l : List Tok) : Int × Int := badlF l l.length 0

theorem fault_blk {w : World} {B : Nat} {x y : Value} (h : w.heap[B]? = some (.cells #[x, y] 26 (0, 0))) : w.cell? ⟨B, 0, none⟩ = some x ∧ w.cell? ⟨B, 1, none⟩ = some y ∧ w.frozen? ⟨B, 0, none⟩ = false ∧ w.frozen? ⟨B, 1, none⟩ = false :=
  ⟨blk_cell h 0, blk_cell h 1, blk_free h 0, blk_free h 1⟩
theorem results21_run (tmps : Array Value) (W : World) (F : Nat) (x y : Value) (a c : Int) (h2 : tmps[2]?.getD undef = .pointer (some ⟨F, 0, none⟩)) (hF : W.heap[F]? = some (.cells #[x, y] 26 (0, 0))) :
    (results Tryd.f21 tmps).run Tryd.prog ((W.setCell ⟨F, 0, none⟩ (.int .i64 a)).setCell ⟨F, 1, none⟩ (.int .i64 c)) = .ok (.agg #[.int .i64 a, .int .i64 c]) ((W.setCell ⟨F, 0, none⟩ (.int .i64 a)).setCell ⟨F, 1, none⟩ (.int .i64 c)) := by
  have h := blk_set (blk_set hF 0 (.int .i64 a)) 1 (.int .i64 c)
  have r0 : ((W.setCell ⟨F, 0, none⟩ (.int .i64 a)).setCell ⟨F, 1, none⟩ (.int .i64 c)).cell? ⟨F, 0, none⟩ = some (.int .i64 a) := blk_cell h 0
  have r1 : ((W.setCell ⟨F, 0, none⟩ (.int .i64 a)).setCell ⟨F, 1, none⟩ (.int .i64 c)).cell? ⟨F, 1, none⟩ = some (.int .i64 c) := blk_cell h 1
  generalize (W.setCell ⟨F, 0, none⟩ (.int .i64 a)).setCell ⟨F, 1, none⟩ (.int .i64 c) = W2 at *
  simp [results, Tryd.results21, go_sem, h2, r0, r1]
theorem fault_below {w W : World} (hb : Below (w.heap.size + 1) (w.alloc (.cells #[.int .i64 0, .int .i64 0] 26)) W) (a c : Value) : Below w.heap.size w ((W.setCell ⟨w.heap.size, 0, none⟩ a).setCell ⟨w.heap.size, 1, none⟩ c) :=
  Below.setCell (Below.setCell (((Below.refl _ _).alloc (Nat.le_refl _) _).trans (hb.mono (by omega))) (Nat.le_refl _) _) (Nat.le_refl _) _

set_option maxHeartbeats 20000000 in
theorem badl_any (l : List Tok) (v : Value) (w : World) (h : w.ownsRow 0 32 5 v l.length (l.flatMap Tok.cells)) (hl : l.length ≤ 100000) :
    Calls Tryd.prog 21 #[v] w fun e w' => e = .returned (.agg #[.int .i64 (mbadl l).1, .int .i64 (mbadl l).2]) ∧ Below w.heap.size w w' := by
  obtain ⟨va, vc, rfl⟩ := own_slice h
  have HO := Lib.hid h
  clear h
  go_enter Tryd.func21, Tryd.ntmps21
  go_wp2
  have hbk : (w.alloc (.cells #[.int .i64 0, .int .i64 0] 26)).heap[w.heap.size]? = some (.cells #[.int .i64 0, .int .i64 0] 26 (0, 0)) := heap_alloc_new w _
  have HBK := Lib.hid hbk
  clear hbk
  go_loopg [7] (l.length + 1) (fun n x wr => ∃ i : Nat, i ≤ l.length ∧ l.length - i < n ∧ x = .int .i64 i ∧ Hid (badlF l (l.length - i) i = mbadl l) ∧ Hid (Below (w.heap.size + 1) (w.alloc (.cells #[.int .i64 0, .int .i64 0] 26)) wr))
  case atStart => exact ⟨0, by omega, by omega, rfl, rfl, Below.refl _ _⟩
  case round =>
    obtain ⟨i, hil, hgk, rfl, HK, HW⟩ := hrel
    obtain ⟨n, rfl⟩ : ∃ n, gk = n + 1 := ⟨gk - 1, by omega⟩
    have HBW : Hid (wr.heap[w.heap.size]? = some (.cells #[.int .i64 0, .int .i64 0] 26 (0, 0))) := (HW.out.block _ (by omega)).trans HBK.out
    have hz : w.heap.size + 1 ≤ wr.heap.size := by have := HW.out.size; simp at this; omega
    by_cases hlt : i < l.length
    · obtain ⟨g, cap, he, hg0, hgl⟩ := HO.out.form (by omega)
      injection he with he1 he2 he3
      subst he1 he3
      have hii : (i : Int) < (l.length : Int) := by omega
      have hi0 : (0 : Int) ≤ (i : Int) := by omega
      have HC : Hid (∀ i, i < l.length → TC wr g (i * 5) (l.getD i Tz)) := by
        intro i hi
        rw [tz_eq hi]
        obtain ⟨t0, t1, t2, t3, t4⟩ := tc_of_row HO.out i hi
        have hb : Below w.heap.size w wr := ((Below.refl _ _).alloc (Nat.le_refl _) _).trans (HW.out.mono (by omega))
        exact ⟨(hb.cell (by exact hgl)).trans t0, (hb.cell (by exact hgl)).trans t1, (hb.cell (by exact hgl)).trans t2, (hb.cell (by exact hgl)).trans t3, (hb.cell (by exact hgl)).trans t4⟩
      obtain ⟨t, ht⟩ : ∃ t, t = l.getD i Tz := ⟨_, rfl⟩
      have htc := HC.out i hlt
      rw [← ht] at htc
      obtain ⟨t0, t1, t2, t3, t4⟩ := htc
      obtain ⟨b0, b1, b2, b3⟩ := fault_blk HBW.out
      clear he2
      have hgw : g < wr.heap.size := by omega
      have HKK : Hid (badlF l (l.length - (i + 1) + 1) i = mbadl l) := by have := HK.out; rw [show l.length - i = l.length - (i + 1) + 1 from by omega] at this; exact this
      by_cases hkk : t.kind < 0 ∨ 10 < t.kind
      · have HR : Hid (mbadl l = ((i : Int), 16)) := by have := HKK.out; rw [badlF, ← ht, if_pos hkk] at this; exact this.symm
        have hx : decide (t.kind < 0) = true ∨ (decide (t.kind < 0) = false ∧ decide (10 < t.kind) = true) := by simp; omega
        clear hkk ht
        rcases hx with h1 | ⟨h1, h2⟩
        all_goals
          have hbox : (wr.alloc (.cells #[.int .i64 t.kind, .string t.text, .int .i64 t.at_, .int .i64 t.line, .int .i64 t.col] 32)).heap[wr.heap.size]? = some (TBx t) := heap_alloc_new wr _
          have HBOX := Lib.hid hbox
          have HW2 : Hid (Below (w.heap.size + 1) (w.alloc (.cells #[.int .i64 0, .int .i64 0] 26)) (wr.alloc (.cells #[.int .i64 t.kind, .string t.text, .int .i64 t.at_, .int .i64 t.line, .int .i64 t.col] 32))) := HW.out.alloc (by omega) _
          have HBW2 : Hid ((wr.alloc (.cells #[.int .i64 t.kind, .string t.text, .int .i64 t.at_, .int .i64 t.line, .int .i64 t.col] 32)).heap[w.heap.size]? = some (.cells #[.int .i64 0, .int .i64 0] 26 (0, 0))) := (HW2.out.block _ (by omega)).trans HBK.out
          have HC2 : Hid (∀ i, i < l.length → TC (wr.alloc (.cells #[.int .i64 t.kind, .string t.text, .int .i64 t.at_, .int .i64 t.line, .int .i64 t.col] 32)) g (i * 5) (l.getD i Tz)) := by
            intro i hi
            obtain ⟨t0, t1, t2, t3, t4⟩ := HC.out i hi
            have hb : Below wr.heap.size wr (wr.alloc (.cells #[.int .i64 t.kind, .string t.text, .int .i64 t.at_, .int .i64 t.line, .int .i64 t.col] 32)) := (Below.refl _ _).alloc (Nat.le_refl _) _
            exact ⟨(hb.cell (by exact hgw)).trans t0, (hb.cell (by exact hgw)).trans t1, (hb.cell (by exact hgw)).trans t2, (hb.cell (by exact hgw)).trans t3, (hb.cell (by exact hgw)).trans t4⟩
          have hgl2 : g < (wr.alloc (.cells #[.int .i64 t.kind, .string t.text, .int .i64 t.at_, .int .i64 t.line, .int .i64 t.col] 32)).heap.size := by simp; omega
          clear b0 b1 b2 b3 hbox
          go_upto_if 19 with (fail)
          generalize wr.alloc (.cells #[.int .i64 t.kind, .string t.text, .int .i64 t.at_, .int .i64 t.line, .int .i64 t.col] 32) = w2 at *
          generalize wr.heap.size = q at *
          clear t0 t1 t2 t3 t4
          obtain ⟨b0, b1, b2, b3⟩ := fault_blk HBW2.out
          go_wp2
          refine bodyPost_ret (v := .agg #[.int .i64 i, .int .i64 16]) (results21_run _ w2 w.heap.size _ _ i 16 rfl HBW2.out) rfl ⟨?_, fault_below HW2.out _ _⟩
          rw [HR.out]
      · have h1 : decide (t.kind < 0) = false := by simp; omega
        have h2 : decide (10 < t.kind) = false := by simp; omega
        by_cases hi1 : i = 0
        · have d0 : decide (0 < i) = false := by rw [hi1]; rfl
          have HK' : Hid (badlF l (l.length - (i + 1)) (i + 1) = mbadl l) := by have := HKK.out; rw [badlF, ← ht, if_neg hkk, if_neg (by omega)] at this; exact this
          clear hkk ht hi1
          have hbox : (wr.alloc (.cells #[.int .i64 t.kind, .string t.text, .int .i64 t.at_, .int .i64 t.line, .int .i64 t.col] 32)).heap[wr.heap.size]? = some (TBx t) := heap_alloc_new wr _
          have HBOX := Lib.hid hbox
          have HW2 : Hid (Below (w.heap.size + 1) (w.alloc (.cells #[.int .i64 0, .int .i64 0] 26)) (wr.alloc (.cells #[.int .i64 t.kind, .string t.text, .int .i64 t.at_, .int .i64 t.line, .int .i64 t.col] 32))) := HW.out.alloc (by omega) _
          have HBW2 : Hid ((wr.alloc (.cells #[.int .i64 t.kind, .string t.text, .int .i64 t.at_, .int .i64 t.line, .int .i64 t.col] 32)).heap[w.heap.size]? = some (.cells #[.int .i64 0, .int .i64 0] 26 (0, 0))) := (HW2.out.block _ (by omega)).trans HBK.out
          have HC2 : Hid (∀ i, i < l.length → TC (wr.alloc (.cells #[.int .i64 t.kind, .string t.text, .int .i64 t.at_, .int .i64 t.line, .int .i64 t.col] 32)) g (i * 5) (l.getD i Tz)) := by
            intro i hi
            obtain ⟨t0, t1, t2, t3, t4⟩ := HC.out i hi
            have hb : Below wr.heap.size wr (wr.alloc (.cells #[.int .i64 t.kind, .string t.text, .int .i64 t.at_, .int .i64 t.line, .int .i64 t.col] 32)) := (Below.refl _ _).alloc (Nat.le_refl _) _
            exact ⟨(hb.cell (by exact hgw)).trans t0, (hb.cell (by exact hgw)).trans t1, (hb.cell (by exact hgw)).trans t2, (hb.cell (by exact hgw)).trans t3, (hb.cell (by exact hgw)).trans t4⟩
          have hgl2 : g < (wr.alloc (.cells #[.int .i64 t.kind, .string t.text, .int .i64 t.at_, .int .i64 t.line, .int .i64 t.col] 32)).heap.size := by simp; omega
          clear b0 b1 b2 b3 hbox
          go_upto_if 19 with (fail)
          generalize wr.alloc (.cells #[.int .i64 t.kind, .string t.text, .int .i64 t.at_, .int .i64 t.line, .int .i64 t.col] 32) = w2 at *
          generalize wr.heap.size = q at *
          clear t0 t1 t2 t3 t4
          have cI : ∀ d os, Calls Tryd.prog 41 #[.agg #[.int .i64 t.kind, .string t.text, .int .i64 t.at_, .int .i64 t.line, .int .i64 t.col], .agg #[.int .i64 t.kind, .string t.text, .int .i64 t.at_, .int .i64 t.line, .int .i64 t.col]] (grow (redrawn w2 d) os) fun e w'' => e = .returned (.bool (inOrd t t)) ∧ ∃ p : Regrown, w'' = grow (redrawn w2 p.d) p.os := fun d os => Calls.regrown_of (inOrder_any t t _)
          go_wp2
          refine wp_region_quiet_below (by kernel_rfl) (by kernel_rfl) ?_
          repeat (go_big_quiet_step (exact cI _ _))
          refine wpQuiet_nil ?_
          intro _ hw'
          obtain ⟨⟨dq, osq⟩, hw''⟩ := hw'
          subst hw''
          have HW3 := Lib.hid (HW2.out.trans ((below_regrown w2 dq osq).mono (by have := HW2.out.size; simp at this; omega)))
          clear cI
          go_wp2
          go_roundg n
          case measure => omega
          case rel => exact ⟨i + 1, by omega, by omega, by go_num, HK', HW3⟩
        · have d0 : decide (0 < i) = true := by simp; omega
          obtain ⟨u, hu⟩ : ∃ u, u = l.getD (i - 1) Tz := ⟨_, rfl⟩
          have a1 : IntKind.i64.wrap ((i : Int) - 1) = (i : Int) - 1 := IntWalk.i64_in _ (by omega)
          have a2 : ((i : Int) - 1).toNat = i - 1 := by omega
          have a3 : (i : Int) - 1 < (l.length : Int) := by omega
          have a4 : (0 : Int) ≤ (i : Int) - 1 := by omega
          have HI1 : Hid (0 < i) := by show 0 < i; omega
          cases hob : inOrd u t with
          | false =>
            have HR : Hid (mbadl l = ((i : Int), 23)) := by have := HKK.out; rw [badlF, ← ht, ← hu, if_neg hkk, if_pos ⟨HI1.out, hob⟩] at this; exact this.symm
            have HOB := Lib.hid hob
            have HU := Lib.hid hu
            clear hkk ht hi1 hob hu
            have hbox : (wr.alloc (.cells #[.int .i64 t.kind, .string t.text, .int .i64 t.at_, .int .i64 t.line, .int .i64 t.col] 32)).heap[wr.heap.size]? = some (TBx t) := heap_alloc_new wr _
            have HBOX := Lib.hid hbox
            have HW2 : Hid (Below (w.heap.size + 1) (w.alloc (.cells #[.int .i64 0, .int .i64 0] 26)) (wr.alloc (.cells #[.int .i64 t.kind, .string t.text, .int .i64 t.at_, .int .i64 t.line, .int .i64 t.col] 32))) := HW.out.alloc (by omega) _
            have HBW2 : Hid ((wr.alloc (.cells #[.int .i64 t.kind, .string t.text, .int .i64 t.at_, .int .i64 t.line, .int .i64 t.col] 32)).heap[w.heap.size]? = some (.cells #[.int .i64 0, .int .i64 0] 26 (0, 0))) := (HW2.out.block _ (by omega)).trans HBK.out
            have HC2 : Hid (∀ i, i < l.length → TC (wr.alloc (.cells #[.int .i64 t.kind, .string t.text, .int .i64 t.at_, .int .i64 t.line, .int .i64 t.col] 32)) g (i * 5) (l.getD i Tz)) := by
              intro i hi
              obtain ⟨t0, t1, t2, t3, t4⟩ := HC.out i hi
              have hb : Below wr.heap.size wr (wr.alloc (.cells #[.int .i64 t.kind, .string t.text, .int .i64 t.at_, .int .i64 t.line, .int .i64 t.col] 32)) := (Below.refl _ _).alloc (Nat.le_refl _) _
              exact ⟨(hb.cell (by exact hgw)).trans t0, (hb.cell (by exact hgw)).trans t1, (hb.cell (by exact hgw)).trans t2, (hb.cell (by exact hgw)).trans t3, (hb.cell (by exact hgw)).trans t4⟩
            have hgl2 : g < (wr.alloc (.cells #[.int .i64 t.kind, .string t.text, .int .i64 t.at_, .int .i64 t.line, .int .i64 t.col] 32)).heap.size := by simp; omega
            clear b0 b1 b2 b3 hbox
            go_upto_if 19 with (fail)
            generalize wr.alloc (.cells #[.int .i64 t.kind, .string t.text, .int .i64 t.at_, .int .i64 t.line, .int .i64 t.col] 32) = w2 at *
            generalize wr.heap.size = q at *
            clear t0 t1 t2 t3 t4
            have huc := HC2.out (i - 1) (by omega)
            rw [← HU.out] at huc
            obtain ⟨u0, u1, u2, u3, u4⟩ := huc
            obtain ⟨e0, e1, e2, e3, e4⟩ := tc_box HBOX.out
            have cI : ∀ d os, Calls Tryd.prog 41 #[.agg #[.int .i64 u.kind, .string u.text, .int .i64 u.at_, .int .i64 u.line, .int .i64 u.col], .agg #[.int .i64 t.kind, .string t.text, .int .i64 t.at_, .int .i64 t.line, .int .i64 t.col]] (grow (redrawn w2 d) os) fun e w'' => e = .returned (.bool false) ∧ ∃ p : Regrown, w'' = grow (redrawn w2 p.d) p.os := fun d os => Calls.regrown_of (by have h := inOrder_any u t (grow (redrawn w2 d) os); rw [HOB.out] at h; exact h)
            have j0 := cell_regrown e0
            have j1 := cell_regrown e1
            have j2 := cell_regrown e2
            have j3 := cell_regrown e3
            have j4 := cell_regrown e4
            have k0 := cell_regrown u0
            have k1 := cell_regrown u1
            have k2 := cell_regrown u2
            have k3 := cell_regrown u3
            have k4 := cell_regrown u4
            clear e0 e1 e2 e3 e4 u0 u1 u2 u3 u4
            go_wp2
            refine wp_region_quiet_below (by kernel_rfl) (by kernel_rfl) ?_
            repeat (go_big_quiet_step (exact cI _ _))
            refine wpQuiet_nil ?_
            intro _ hw'
            obtain ⟨⟨dq, osq⟩, hw''⟩ := hw'
            subst hw''
            have HW3 := Lib.hid (HW2.out.trans ((below_regrown w2 dq osq).mono (by have := HW2.out.size; simp at this; omega)))
            have HBW3 : Hid ((grow (redrawn w2 dq) osq).heap[w.heap.size]? = some (.cells #[.int .i64 0, .int .i64 0] 26 (0, 0))) := (HW3.out.block _ (by omega)).trans HBK.out
            clear cI j0 j1 j2 j3 j4 k0 k1 k2 k3 k4
            generalize grow (redrawn w2 dq) osq = w3 at *
            obtain ⟨b0, b1, b2, b3⟩ := fault_blk HBW3.out
            go_wp2
            refine bodyPost_ret (v := .agg #[.int .i64 i, .int .i64 23]) (results21_run _ w3 w.heap.size _ _ i 23 rfl HBW3.out) rfl ⟨?_, fault_below HW3.out _ _⟩
            rw [HR.out]
          | true =>
            have HK' : Hid (badlF l (l.length - (i + 1)) (i + 1) = mbadl l) := by have := HKK.out; rw [badlF, ← ht, ← hu, if_neg hkk, if_neg (by rw [hob]; simp)] at this; exact this
            have HOB := Lib.hid hob
            have HU := Lib.hid hu
            clear hkk ht hi1 hob hu
            have hbox : (wr.alloc (.cells #[.int .i64 t.kind, .string t.text, .int .i64 t.at_, .int .i64 t.line, .int .i64 t.col] 32)).heap[wr.heap.size]? = some (TBx t) := heap_alloc_new wr _
            have HBOX := Lib.hid hbox
            have HW2 : Hid (Below (w.heap.size + 1) (w.alloc (.cells #[.int .i64 0, .int .i64 0] 26)) (wr.alloc (.cells #[.int .i64 t.kind, .string t.text, .int .i64 t.at_, .int .i64 t.line, .int .i64 t.col] 32))) := HW.out.alloc (by omega) _
            have HBW2 : Hid ((wr.alloc (.cells #[.int .i64 t.kind, .string t.text, .int .i64 t.at_, .int .i64 t.line, .int .i64 t.col] 32)).heap[w.heap.size]? = some (.cells #[.int .i64 0, .int .i64 0] 26 (0, 0))) := (HW2.out.block _ (by omega)).trans HBK.out
            have HC2 : Hid (∀ i, i < l.length → TC (wr.alloc (.cells #[.int .i64 t.kind, .string t.text, .int .i64 t.at_, .int .i64 t.line, .int .i64 t.col] 32)) g (i * 5) (l.getD i Tz)) := by
              intro i hi
              obtain ⟨t0, t1, t2, t3, t4⟩ := HC.out i hi
              have hb : Below wr.heap.size wr (wr.alloc (.cells #[.int .i64 t.kind, .string t.text, .int .i64 t.at_, .int .i64 t.line, .int .i64 t.col] 32)) := (Below.refl _ _).alloc (Nat.le_refl _) _
              exact ⟨(hb.cell (by exact hgw)).trans t0, (hb.cell (by exact hgw)).trans t1, (hb.cell (by exact hgw)).trans t2, (hb.cell (by exact hgw)).trans t3, (hb.cell (by exact hgw)).trans t4⟩
            have hgl2 : g < (wr.alloc (.cells #[.int .i64 t.kind, .string t.text, .int .i64 t.at_, .int .i64 t.line, .int .i64 t.col] 32)).heap.size := by simp; omega
            clear b0 b1 b2 b3 hbox
            go_upto_if 19 with (fail)
            generalize wr.alloc (.cells #[.int .i64 t.kind, .string t.text, .int .i64 t.at_, .int .i64 t.line, .int .i64 t.col] 32) = w2 at *
            generalize wr.heap.size = q at *
            clear t0 t1 t2 t3 t4
            have huc := HC2.out (i - 1) (by omega)
            rw [← HU.out] at huc
            obtain ⟨u0, u1, u2, u3, u4⟩ := huc
            obtain ⟨e0, e1, e2, e3, e4⟩ := tc_box HBOX.out
            have cI : ∀ d os, Calls Tryd.prog 41 #[.agg #[.int .i64 u.kind, .string u.text, .int .i64 u.at_, .int .i64 u.line, .int .i64 u.col], .agg #[.int .i64 t.kind, .string t.text, .int .i64 t.at_, .int .i64 t.line, .int .i64 t.col]] (grow (redrawn w2 d) os) fun e w'' => e = .returned (.bool true) ∧ ∃ p : Regrown, w'' = grow (redrawn w2 p.d) p.os := fun d os => Calls.regrown_of (by have h := inOrder_any u t (grow (redrawn w2 d) os); rw [HOB.out] at h; exact h)
            have j0 := cell_regrown e0
            have j1 := cell_regrown e1
            have j2 := cell_regrown e2
            have j3 := cell_regrown e3
            have j4 := cell_regrown e4
            have k0 := cell_regrown u0
            have k1 := cell_regrown u1
            have k2 := cell_regrown u2
            have k3 := cell_regrown u3
            have k4 := cell_regrown u4
            clear e0 e1 e2 e3 e4 u0 u1 u2 u3 u4
            go_wp2
            refine wp_region_quiet_below (by kernel_rfl) (by kernel_rfl) ?_
            repeat (go_big_quiet_step (exact cI _ _))
            refine wpQuiet_nil ?_
            intro _ hw'
            obtain ⟨⟨dq, osq⟩, hw''⟩ := hw'
            subst hw''
            have HW3 := Lib.hid (HW2.out.trans ((below_regrown w2 dq osq).mono (by have := HW2.out.size; simp at this; omega)))
            have HBW3 : Hid ((grow (redrawn w2 dq) osq).heap[w.heap.size]? = some (.cells #[.int .i64 0, .int .i64 0] 26 (0, 0))) := (HW3.out.block _ (by omega)).trans HBK.out
            clear cI j0 j1 j2 j3 j4 k0 k1 k2 k3 k4
            generalize grow (redrawn w2 dq) osq = w3 at *
            go_wp2
            go_roundg n
            case measure => omega
            case rel => exact ⟨i + 1, by omega, by omega, by go_num, HK', HW3⟩
    · have HX : Hid (mbadl l = if 20000 < l.length then (0, 18) else (0, 0)) := by
        have := HK.out
        rw [show l.length - i = 0 from by omega, badlF] at this
        exact this.symm
      have hii : decide ((i : Int) < (l.length : Int)) = false := by simp; omega
      obtain ⟨b0, b1, b2, b3⟩ := fault_blk HBW.out
      by_cases hq : 20000 < l.length
      · have HR : Hid (mbadl l = (0, 18)) := by show mbadl l = _; rw [HX.out, if_pos hq]
        have hq' : (20000 : Int) < (l.length : Int) := by omega
        go_wp2
        refine bodyPost_ret (v := .agg #[.int .i64 0, .int .i64 18]) (results21_run _ wr w.heap.size _ _ 0 18 rfl HBW.out) rfl ⟨?_, fault_below HW.out _ _⟩
        rw [HR.out]
      · have HR : Hid (mbadl l = (0, 0)) := by show mbadl l = _; rw [HX.out, if_neg hq]
        have hq' : decide ((20000 : Int) < (l.length : Int)) = false := by simp; omega
        clear hq
        go_wp2
        refine bodyPost_ret (v := .agg #[.int .i64 0, .int .i64 0]) (results21_run _ wr w.heap.size _ _ 0 0 rfl HBW.out) rfl ⟨?_, fault_below HW.out _ _⟩
        rw [HR.out]
end Go.Proofs.YtkfkgdkfgpofnaaDoor
