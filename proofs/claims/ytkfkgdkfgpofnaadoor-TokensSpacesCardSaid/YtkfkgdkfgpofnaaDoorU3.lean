/- The walk of TokensSpaces. -/
import Derived.Test.YtkfkgdkfgpofnaaDoorT
import Derived.Test.YtkfkgdkfgpofnaaDoorJ7
import Derived.Deep.LoopGhost
import Derived.BigQuiet
import Derived.StillTailTactics
import Derived.Deep.Cut
import Derived.Deep.CutRange
import Derived.Deep.RegionHeld3
namespace Go.Proofs.YtkfkgdkfgpofnaaDoor
open Go.RowKit
set_option maxRecDepth 100000


theorem tab_bel {w w' : World} (hT : Tab w) (h0 : 0 < w.heap.size) (hb : Below w.heap.size w w') : Tab w' := by
  intro i hi
  rw [hb.cell (p := ⟨0, i, none⟩) h0]; exact hT i hi
/-- What the second list's world gives. -/
def Again (l L' : List Tok) (w2 : World) (g2 vc2 G : Nat) (wx : World) : Prop :=
  l.length ≤ vc2 ∧ wx.cell? ⟨G, 1, none⟩ = some (.int .i64 0) ∧ Below w2.heap.size w2 wx ∧ ∀ i, i < l.length → TC wx g2 (i * 5) (L'.getD i Tz)
theorem raw_again (u : ByteArray) (L' : List Tok) (w2 W : World) (hu : mraw u = .ok L') (hn : 0 < L'.length) (hT : Tab w2) (h0 : 0 < w2.heap.size) (hs : u.size ≤ 60000) (hb : Below w2.heap.size w2 W) :
    Calls Tryd.prog 7 #[.string u] W fun e W' => ∃ g2 vc2, e = .returned (.tuple #[.slice (some ⟨g2, 0, none⟩) L'.length vc2, .agg #[.int .i64 0, .int .i64 0]]) ∧ Hid (L'.length ≤ vc2 ∧ Below W.heap.size W W' ∧ W.heap.size ≤ g2 ∧ g2 < W'.heap.size ∧ ∀ i, i < L'.length → TC W' g2 (i * 5) (L'.getD i Tz)) := by
  refine (raw_any u W (tab_bel hT h0 hb) (by have := hb.size; omega) hs).mono ?_
  intro e W' h
  rw [hu] at h
  obtain ⟨v, rfl, hown, hb2⟩ := h
  obtain ⟨va, vc, rfl⟩ := own_slice hown
  obtain ⟨g, cap, he, hg0, hgl⟩ := hown.form hn
  injection he with he1 he2 he3
  subst he1 he3
  refine ⟨g, vc, rfl, own_cap hown, hb2, hg0, hgl, fun i hi => ?_⟩
  rw [tz_eq hi]
  exact tc_of_row hown i hi


theorem fault_box {W W' : World} (h : Below (W.alloc (.cells #[.int .i64 0, .int .i64 0] 26)).drew.heap.size (W.alloc (.cells #[.int .i64 0, .int .i64 0] 26)).drew W') :
    W'.heap[W.heap.size]? = some (.cells #[.int .i64 0, .int .i64 0] 26 (0, 0)) ∧ W'.cell? ⟨W.heap.size, 0, none⟩ = some (.int .i64 0) ∧ W'.cell? ⟨W.heap.size, 1, none⟩ = some (.int .i64 0) ∧ W'.frozen? ⟨W.heap.size, 0, none⟩ = false ∧ W'.frozen? ⟨W.heap.size, 1, none⟩ = false := by
  have hs : (W.alloc (.cells #[.int .i64 0, .int .i64 0] 26)).drew.heap.size = W.heap.size + 1 := by show (W.heap.push _).size = _; simp
  have hb : (W.alloc (.cells #[.int .i64 0, .int .i64 0] 26)).drew.heap[W.heap.size]? = some (.cells #[.int .i64 0, .int .i64 0] 26 (0, 0)) := alloc_blk W _
  have hb2 : W'.heap[W.heap.size]? = some (.cells #[.int .i64 0, .int .i64 0] 26 (0, 0)) := by rw [h.block _ (by omega)]; exact hb
  exact ⟨hb2, blk_cell hb2 0, blk_cell hb2 1, blk_free hb2 0, blk_free hb2 1⟩
theorem tc_block {w w' : World} {g o : Nat} {t : Tok} (h : TC w g o t) (hb : w'.heap[g]? = w.heap[g]?) : TC w' g o t := by
  obtain ⟨t0, t1, t2, t3, t4⟩ := h
  exact ⟨(World.cell?_of_block (w := w) (w' := w') (a := ⟨g, _, none⟩) hb).trans t0, (World.cell?_of_block (w := w) (w' := w') (a := ⟨g, _, none⟩) hb).trans t1, (World.cell?_of_block (w := w) (w' := w') (a := ⟨g, _, none⟩) hb).trans t2, (World.cell?_of_block (w := w) (w' := w') (a := ⟨g, _, none⟩) hb).trans t3, (World.cell?_of_block (w := w) (w' := w') (a := ⟨g, _, none⟩) hb).trans t4⟩
theorem below_drewN {B : Nat} {a w : World} (h : Below B a w) (n : Nat) : Below B a (w.drewN n) := ⟨h.os, h.tape, h.output, h.size, h.block⟩
/-- The fault's variable is laid behind the call. -/
theorem again_after {l L' : List Tok} {w2 W0 W' : World} {g2 vc2 : Nat} (hB : Below w2.heap.size w2 W0) (f1 : L'.length = l.length) (HQ : L'.length ≤ vc2 ∧ Below W0.heap.size W0 W' ∧ W0.heap.size ≤ g2 ∧ g2 < W'.heap.size ∧ ∀ i, i < L'.length → TC W' g2 (i * 5) (L'.getD i Tz)) :
    Again l L' w2 g2 vc2 W'.heap.size (W'.alloc (.cells #[.int .i64 0, .int .i64 0] 26)) := by
  obtain ⟨h1, h2, h3, h4, h5⟩ := HQ
  refine ⟨by omega, blk_cell (alloc_blk W' _) 1, (hB.trans (h2.mono hB.size)).alloc (by have := hB.size; have := h2.size; omega) _, fun i hi => tc_block (h5 i (by omega)) (Below.heap_alloc _ _ _ h4)⟩
/-- .. ahead of it. -/
theorem again_before {l L' : List Tok} {w2 W0 W' : World} {g2 vc2 G : Nat} (hB : Below w2.heap.size w2 W0) (f1 : L'.length = l.length) (HQ : L'.length ≤ vc2 ∧ Below W0.heap.size W0 W' ∧ W0.heap.size ≤ g2 ∧ g2 < W'.heap.size ∧ ∀ i, i < L'.length → TC W' g2 (i * 5) (L'.getD i Tz))
    (hG : w2.heap.size ≤ G) (hG2 : G < W0.heap.size) (hb : W'.heap[G]? = some (.cells #[.int .i64 0, .int .i64 0] 26 (0, 0))) :
    Again l L' w2 g2 vc2 G ((W'.setCell ⟨G, 0, none⟩ (.int .i64 0)).setCell ⟨G, 1, none⟩ (.int .i64 0)) := by
  obtain ⟨h1, h2, h3, h4, h5⟩ := HQ
  refine ⟨by omega, blk_cell (blk_set (blk_set hb 0 (.int .i64 0)) 1 (.int .i64 0)) 1, Below.setCell (Below.setCell (hB.trans (h2.mono hB.size)) hG _) hG _, fun i hi => tc_block (h5 i (by omega)) ?_⟩
  rw [Below.heap_setCell _ _ _ _ (by show g2 ≠ G; omega), Below.heap_setCell _ _ _ _ (by show g2 ≠ G; omega)]
theorem set2_keep {W : World} {g o B : Nat} {v x y : Value} (hne : g ≠ B) (h : W.cell? ⟨g, o, none⟩ = some v) : ((W.setCell ⟨B, 0, none⟩ x).setCell ⟨B, 1, none⟩ y).cell? ⟨g, o, none⟩ = some v := by
  have h1 : ((W.setCell ⟨B, 0, none⟩ x).setCell ⟨B, 1, none⟩ y).heap[g]? = W.heap[g]? := by
    rw [Below.heap_setCell _ _ _ _ hne, Below.heap_setCell _ _ _ _ hne]
  rw [World.cell?_of_block (w := W) (a := ⟨g, o, none⟩) h1]; exact h
set_option maxHeartbeats 4000000 in
theorem spaces_any (s : ByteArray) (x : Nat) (hx : x < 65536) (w : World) (hT : Tab w) (h0 : 0 < w.heap.size) :
    Calls Tryd.prog 5 #[.string s, .int .u16 (x : Int)] w fun e w' => e = .returned (.bool true) ∧ Below w.heap.size w w' := by
  have HT := Lib.hid hT
  clear hT
  by_cases hs : 4000 < s.size
  · have hs1 : (4000 : Int) < (s.size : Int) := by omega
    clear hs
    go_enter Tryd.func5, Tryd.ntmps5
    go_wp2_with (go_at_call 6; refine (awake_any w HT.out h0).mono ?_; rintro e w1 ⟨rfl, hb1⟩; have HB1 := Lib.hid hb1; clear hb1)
    go_ret
    exact ⟨rfl, HB1.out⟩
  · have hs1 : decide ((4000 : Int) < (s.size : Int)) = false := by simp; omega
    have HS : Hid (s.size ≤ 4000) := by show _ ≤ _; omega
    clear hs
    go_enter Tryd.func5, Tryd.ntmps5
    go_wp2_with (first | (go_at_call 6; refine (awake_any w HT.out h0).mono ?_; rintro e w1 ⟨rfl, hb1⟩; have HB1 := Lib.hid hb1; have HT1 := Lib.hid (tab_bel HT.out h0 hb1); have HZ1 : Hid (0 < w1.heap.size) := by { show 0 < _; have := hb1.size; omega }; clear hb1))
    refine (raw_any s w1 HT1.out HZ1.out (by have := HS.out; omega)).mono ?_
    intro e2 w2 h2
    rcases hm : mraw s with f | l
    · rw [hm] at h2
      obtain ⟨rfl, hb2⟩ := h2
      have HB2 := Lib.hid (HB1.out.trans (hb2.mono HB1.out.size))
      clear hb2 hm
      by_cases hc : f.2 = 0
      · have hc1 : (f.2 == 0) = true := by simp [hc]
        have hc2 : (f.2 != 0) = false := by simp [hc]
        clear hc
        go_wp2
        go_ret
        exact ⟨rfl, HB2.out.alloc HB2.out.size _⟩
      · have hc1 : (f.2 == 0) = false := by simp [hc]
        have hc2 : (f.2 != 0) = true := by simp [hc]
        clear hc
        go_wp2
        go_ret
        exact ⟨rfl, HB2.out.alloc HB2.out.size _⟩
    · rw [hm] at h2
      obtain ⟨v, rfl, hown, hb2⟩ := h2
      have HB2 := Lib.hid (HB1.out.trans (hb2.mono HB1.out.size))
      have HLN : Hid (l.length ≤ 8000) := by have := mraw_len hm; have := HS.out; show _ ≤ _; omega
      obtain ⟨va, vc, rfl⟩ := own_slice hown
      by_cases hl0 : l.length = 0
      · have hz : ((l.length : Int) == 0) = true := by rw [hl0]; rfl
        clear hb2 hm hown hl0
        go_wp2
        go_ret
        exact ⟨rfl, HB2.out.alloc HB2.out.size _⟩
      · obtain ⟨g, cap, he, hg0, hgl⟩ := hown.form (by omega)
        injection he with he1 he2 he3
        subst he1 he3
        have HO := Lib.hid hown
        have HM := Lib.hid hm
        obtain ⟨k, hk⟩ : ∃ k, k = x % l.length := ⟨_, rfl⟩
        have hkl : k < l.length := by rw [hk]; exact Nat.mod_lt _ (by omega)
        have hcap : l.length ≤ vc := own_cap hown
        have hz : ((l.length : Int) == 0) = false := by rw [beq_eq_false_iff_ne]; omega
        have hz1 : ((l.length : Int) != 0) = true := by rw [bne_iff_ne]; omega
        have hmod : Int.tmod (x : Int) (l.length : Int) = (k : Int) := by rw [hk]; rfl
        have hxw : IntKind.i64.wrap (x : Int) = (x : Int) := IntWalk.i64_in _ (by omega)
        have hln := HLN.out
        have hkw : IntKind.i64.wrap (k : Int) = (k : Int) := IntWalk.i64_in _ (by omega)
        have hk0 : (0 : Int) ≤ (k : Int) := by omega
        have hkl1 : (k : Int) ≤ (l.length : Int) := by omega
        have hkc : (k : Int) ≤ (vc : Int) := by omega
        have hlw : IntKind.i64.wrap (l.length : Int) = (l.length : Int) := IntWalk.i64_in _ (by omega)
        have HB3 : Hid (Below w2.heap.size w2 (w2.alloc (.cells #[.int .i64 0, .int .i64 0] 26))) := (Below.refl _ _).alloc (Nat.le_refl _) _
        have HX := Lib.hid (And.intro hk (And.intro hkl hcap))
        clear hb2 hm hown he2 hk hl0
        go_wp2
        go_loopg [8, 45] (k + 1) (fun n x y wr => ∃ i : Nat, i ≤ k ∧ k - i < n ∧ x = .int .i64 (ins (l.take i)) ∧ y = .int .i64 i ∧ Hid (Below w2.heap.size w2 wr))
        case atStart => exact ⟨0, by omega, by omega, rfl, rfl, HB3⟩
        case round =>
          obtain ⟨i, hi, hgk, rfl, rfl, HW⟩ := hrel
          obtain ⟨n, rfl⟩ : ∃ n, gk = n + 1 := ⟨gk - 1, by omega⟩
          by_cases hlt : i < k
          · have hii : (i : Int) < (k : Int) := by omega
            have hi0 : (0 : Int) ≤ (i : Int) := by omega
            have hil : i < l.length := by omega
            obtain ⟨t, ht⟩ : ∃ t, t = l.getD i Tz := ⟨_, rfl⟩
            have htc := tc_of_row HO.out i hil
            rw [← tz_eq hil, ← ht] at htc
            obtain ⟨t0, t1, t2, t3, t4⟩ := htc
            have k0 := (HW.out.cell (by exact hgl)).trans t0
            have k1 := (HW.out.cell (by exact hgl)).trans t1
            have k2 := (HW.out.cell (by exact hgl)).trans t2
            have k3 := (HW.out.cell (by exact hgl)).trans t3
            have k4 := (HW.out.cell (by exact hgl)).trans t4
            clear t0 t1 t2 t3 t4
            have hd := ins_take l i hil
            have hdl := ins_bd l i (by omega)
            rw [← ht] at hd
            have HD := Lib.hid hd
            have HW3 : Hid (Below w2.heap.size w2 (wr.alloc (.cells #[.int .i64 t.kind, .string t.text, .int .i64 t.at_, .int .i64 t.line, .int .i64 t.col] 32))) := HW.out.alloc HW.out.size _
            clear ht hd
            generalize ins (l.take i) = d at *
            have a2 : IntKind.i64.wrap (d + 1) = d + 1 := IntWalk.i64_in _ (by omega)
            have a3 : IntKind.i64.wrap (d - 1) = d - 1 := IntWalk.i64_in _ (by omega)
            by_cases h8 : t.kind = 8
            · have b1 : (t.kind == 8) = true := by rw [h8]; rfl
              have HD2 : Hid (ins (l.take (i + 1)) = d + 1) := by show ins _ = _; rw [HD.out]; unfold insS; rw [if_pos h8]
              clear h8
              go_wp2
              go_roundg n
              case measure => omega
              case rel => exact ⟨i + 1, by omega, by omega, by rw [HD2.out], by go_num, HW3⟩
            · have b1 : (t.kind == 8) = false := by rw [beq_eq_false_iff_ne]; exact h8
              by_cases h10 : t.kind = 10
              · have b2 : (t.kind == 10) = true := by rw [h10]; rfl
                have HD2 : Hid (ins (l.take (i + 1)) = d - 1) := by show ins _ = _; rw [HD.out]; unfold insS; rw [if_neg h8, if_pos h10]
                clear h8 h10
                go_wp2
                go_roundg n
                case measure => omega
                case rel => exact ⟨i + 1, by omega, by omega, by rw [HD2.out], by go_num, HW3⟩
              · have b2 : (t.kind == 10) = false := by rw [beq_eq_false_iff_ne]; exact h10
                have HD2 : Hid (ins (l.take (i + 1)) = d) := by show ins _ = _; rw [HD.out]; unfold insS; rw [if_neg h8, if_neg h10]
                clear h8 h10
                go_wp2
                go_roundg n
                case measure => omega
                case rel => exact ⟨i + 1, by omega, by omega, by rw [HD2.out], by go_num, HW3⟩
          · have hik : i = k := by omega
            subst hik
            have hii : decide ((i : Int) < (i : Int)) = false := by simp
            by_cases hin : 0 < ins (l.take i)
            · generalize ins (l.take i) = d at *
              have HD := Lib.hid hin
              go_wp2
              go_ret
              exact ⟨rfl, HB2.out.trans (HW.out.mono HB2.out.size)⟩
            · obtain ⟨a, ha, has⟩ := raw_place HM.out hkl (by omega)
              have hnp : decide ((0 : Int) < ins (l.take i)) = false := by simp; omega
              obtain ⟨t, ht⟩ : ∃ t, t = l.getD i Tz := ⟨_, rfl⟩
              have htc := tc_of_row HO.out i hkl
              rw [← tz_eq hkl, ← ht] at htc
              obtain ⟨t0, t1, t2, t3, t4⟩ := htc
              have k2 := (HW.out.cell (by exact hgl)).trans t2
              rw [show t.at_ = (a : Int) from by rw [ht]; exact ha] at k2
              clear t0 t1 t2 t3 t4
              have HIN := Lib.hid hin
              have c1 : decide ((a : Int) < 0) = false := by simp
              have c2 : decide ((s.size : Int) < (a : Int)) = false := by simp; omega
              have c2n : decide (s.size < a) = false := by simp; omega
              have c3 : (0 : Int) ≤ (a : Int) := by omega
              have c4 : (a : Int) ≤ (s.size : Int) := by omega
              have c5 : (i : Int) < (l.length : Int) := by omega
              have HA := Lib.hid ha
              obtain ⟨L', B', hu, e1, e2⟩ := raw_blank HM.out hkl (by have := HIN.out; omega) (blanked_pf (Nat.le_of_lt has)) (blanked_sh (Nat.le_of_lt has)) HA.out has
              clear ht hin ha
              generalize ins (l.take i) = d at *
              obtain ⟨f1, f2⟩ := blank_facts hkl e1 e2
              have HF := Lib.hid f2
              have HU := Lib.hid hu
              have HT2 := Lib.hid (tab_bel HT.out h0 HB2.out)
              have HZ2 : Hid (0 < w2.heap.size) := by show 0 < _; have := HB2.out.size; omega
              have HSZ : Hid ((blanked s a).size ≤ 60000) := by show _ ≤ _; rw [blanked_size (Nat.le_of_lt has)]; have := HS.out; omega
              have hL0 : 0 < L'.length := by omega
              clear e1 e2 f2 hu
              go_upto_region 19 with fail
              go_cut [11, 12] from 82 to 101 (fun p q wx => ∃ (g2 vc2 G : Nat), p = .slice (some ⟨g2, 0, none⟩) l.length vc2 ∧ q = .pointer (some ⟨G, 0, none⟩) ∧ Again l L' w2 g2 vc2 G wx)
              case first =>
                have hwz : w2.heap.size ≤ wr.heap.size := HW.out.size
                have y1 : (s.extract 0 a).size = a := by rw [extract_size _ _ _ (by omega)]; omega
                have y2 : (s.extract a s.size).size = s.size - a := extract_size _ _ _ (Nat.le_refl _)
                have hss := HS.out
                have z1 : ¬ (9223372036854775807 < (s.extract 0 a).size + 1) := by omega
                have z2 : ¬ (9223372036854775807 < (s.extract 0 a).size + 1 + (s.extract a s.size).size) := by omega
                have k2b : (wr.alloc (.cells #[.int .i64 0, .int .i64 0] 26)).cell? ⟨g, i * 5 + 2, none⟩ = some (.int .i64 (a : Int)) := (World.cell?_of_block (Below.heap_alloc wr _ _ (by show g < _; omega))).trans k2
                have zz1 : ∀ W : World, (Op.stringOp .add (s.extract 0 a) ⟨#[32]⟩).run Tryd.prog W = .ok (.string (s.extract 0 a ++ ⟨#[32]⟩)) W := fun W => run_string_add_sum W _ _ (by rw [y1]; show a + 1 ≤ _; omega)
                have zz2 : ∀ W : World, (Op.stringOp .add (s.extract 0 a ++ ⟨#[32]⟩) (s.extract a s.size)).run Tryd.prog W = .ok (.string (s.extract 0 a ++ ⟨#[32]⟩ ++ s.extract a s.size)) W := fun W => run_string_add_sum W _ _ (by rw [ByteArray.size_append, y1, y2]; show a + 1 + _ ≤ _; omega)
                clear y1 y2
                go_region_held3 (fun w' => w'.cell? ⟨g, i * 5 + 2, none⟩ = some (.int .i64 (a : Int))) (first | exact k2 | exact k2b | assumption | exact set2_keep (by omega) q5 | go_keep)
                  (first
                    | (go_at_call 7; refine (raw_again (blanked s a) L' w2 _ HU.out hL0 HT2.out HZ2.out HSZ.out HW.out.drew).mono ?_; rintro e W' ⟨g2, vc2, rfl, HQ⟩; have q5 : W'.cell? ⟨g, i * 5 + 2, none⟩ = some (.int .i64 (a : Int)) := (HQ.out.2.1.cell (by show g < wr.heap.size; omega)).trans k2; have q6 : (W'.alloc (.cells #[.int .i64 0, .int .i64 0] 26)).cell? ⟨g, i * 5 + 2, none⟩ = some (.int .i64 (a : Int)) := (World.cell?_of_block (Below.heap_alloc W' _ _ (by show g < _; have := HQ.out.2.1.size; have h9 : wr.drew.heap.size = wr.heap.size := rfl; omega))).trans q5)
                    | (go_at_call 7; refine (raw_again (blanked s a) L' w2 _ HU.out hL0 HT2.out HZ2.out HSZ.out (HW.out.alloc HW.out.size _).drew).mono ?_; rintro e W' ⟨g2, vc2, rfl, HQ⟩; obtain ⟨qb, q0, q1, q2, q3⟩ := fault_box HQ.out.2.1; have QB := Lib.hid qb; clear qb; have q5 : W'.cell? ⟨g, i * 5 + 2, none⟩ = some (.int .i64 (a : Int)) := (HQ.out.2.1.cell (by show g < (wr.alloc _).heap.size; simp; omega)).trans k2b))
                all_goals
                  go_wp2
                  go_meet
                  first
                    | exact ⟨_, _, _, rfl, rfl, again_after HW.out.drew f1 HQ.out⟩
                    | exact ⟨_, _, _, rfl, rfl, again_before (HW.out.alloc HW.out.size _).drew f1 HQ.out hwz (by show _ < (wr.heap.push _).size; simp) QB.out⟩
              case rest =>
                obtain ⟨g2, vc2, G, rfl, rfl, r1, r2, r3, r4⟩ := hcut
                have R4 := Lib.hid r4
                have R3 := Lib.hid r3
                have hle2 : l.length ≤ vc2 := r1
                clear r4 r3
                have d1 : ((l.length : Int) != (l.length : Int)) = false := by simp
                go_wp2
                have HBC : Hid (Below wc.heap.size wc wc) := Below.refl _ _
                go_loopg [114] (l.length + 1) (fun n z wq => ∃ j : Nat, j ≤ l.length ∧ l.length - j < n ∧ z = .int .i64 j ∧ Hid (Below wc.heap.size wc wq))
                case atStart => exact ⟨0, by omega, by omega, rfl, HBC⟩
                case round =>
                  obtain ⟨j, hj, hgk2, rfl, HQ⟩ := hrel
                  obtain ⟨m, rfl⟩ : ∃ m, gk = m + 1 := ⟨gk - 1, by omega⟩
                  by_cases hjl : j < l.length
                  · have hjj : (j : Int) < (l.length : Int) := by omega
                    have hj0 : (0 : Int) ≤ (j : Int) := by omega
                    obtain ⟨y, hy⟩ : ∃ y, y = l.getD j Tz := ⟨_, rfl⟩
                    obtain ⟨y', hy'⟩ : ∃ y', y' = L'.getD j Tz := ⟨_, rfl⟩
                    have htc := tc_of_row HO.out j hjl
                    rw [← tz_eq hjl, ← hy] at htc
                    obtain ⟨t0, t1, t2, t3, t4⟩ := htc
                    have hgc : g < wc.heap.size := by have := R3.out.size; omega
                    have k0 := (HQ.out.cell (by exact hgc)).trans ((R3.out.cell (by exact hgl)).trans t0)
                    have k1 := (HQ.out.cell (by exact hgc)).trans ((R3.out.cell (by exact hgl)).trans t1)
                    have k2' := (HQ.out.cell (by exact hgc)).trans ((R3.out.cell (by exact hgl)).trans t2)
                    have k3 := (HQ.out.cell (by exact hgc)).trans ((R3.out.cell (by exact hgl)).trans t3)
                    clear t0 t1 t2 t3 t4
                    have htc2 := R4.out j hjl
                    rw [← hy'] at htc2
                    obtain ⟨t0, t1, t2, t3, t4⟩ := htc2
                    have hg2 : g2 < wc.heap.size := block_lt_of_cell t0
                    have m0 := (HQ.out.cell (by exact hg2)).trans t0
                    have m1 := (HQ.out.cell (by exact hg2)).trans t1
                    have m2 := (HQ.out.cell (by exact hg2)).trans t2
                    have m3 := (HQ.out.cell (by exact hg2)).trans t3
                    clear t0 t1 t2 t3 t4
                    obtain ⟨q1, q2, q3, q4⟩ := HF.out j hjl
                    rw [← hy, ← hy'] at q1 q2 q3 q4
                    rw [← q1] at m0
                    rw [← q2] at m1
                    rw [← q3] at m3
                    rw [← q4] at m2
                    have hbd := mraw_at HM.out y (by rw [hy, tz_eq hjl]; exact List.getElem_mem hjl)
                    have hss := HS.out
                    have HQ2 := HQ
                    clear hy hy' q1 q2 q3 q4
                    have w1' : IntKind.i64.wrap (y.at_ + 1) = y.at_ + 1 := IntWalk.i64_in _ (by omega)
                    have w0' : IntKind.i64.wrap y.at_ = y.at_ := IntWalk.i64_in _ (by omega)
                    by_cases hij : i ≤ j
                    · have hij1 : (i : Int) ≤ (j : Int) := by omega
                      rw [if_pos hij] at m2
                      go_wp2
                      go_quiet (fail)
                      go_wp2
                      go_roundg m
                      case measure => omega
                      case rel => exact ⟨j + 1, by omega, by omega, by go_num, below_drewN HQ.out _⟩
                    · have hij1 : decide ((i : Int) ≤ (j : Int)) = false := by simp; omega
                      rw [if_neg hij] at m2
                      rw [Int.add_zero] at m2
                      go_wp2
                      go_quiet (fail)
                      go_wp2
                      go_roundg m
                      case measure => omega
                      case rel => exact ⟨j + 1, by omega, by omega, by go_num, below_drewN HQ.out _⟩
                  · have hjj : decide ((j : Int) < (l.length : Int)) = false := by simp; omega
                    go_wp2
                    go_ret
                    exact ⟨rfl, HB2.out.trans ((R3.out.trans (HQ.out.mono R3.out.size)).mono HB2.out.size)⟩
end Go.Proofs.YtkfkgdkfgpofnaaDoor
