/- The walks of canonical, sameTokens, Show and TokensBack. -/
import Derived.Test.YtkfkgdkfgpofnaaDoorW5
import Derived.Test.YtkfkgdkfgpofnaaDoorH5
import Derived.StillTailTactics
import Derived.Lib.QuietBelow
import Derived.BigQuiet
import Derived.Deep.LoopGhost
import Derived.Test.YtkfkgdkfgpofnaaDoorJ7
/- The walk of canonical. -/
namespace Go.Proofs.YtkfkgdkfgpofnaaDoor
open Go.RowKit Go.Sort
set_option maxRecDepth 100000

theorem tokA_any (B : Nat) (v : Value) (n : Nat) (xs : List Value) (va : Option Addr) (m vc : Nat) (last : Int) (x : Tok) (w : World) (hT : Tab w) (h0 : 0 < w.heap.size) (h : w.ownsRow B 5 1 v n xs) (hB : B ≤ w.heap.size) (hn : n ≤ 200000) (ht : x.text.size ≤ 50000) (hf : Front w va m last) (hm : m ≤ 100000) :
    Calls Tryd.prog 20 #[v, .slice va m vc, .agg x.cells.toArray] w (At B w n xs (eTok last x)) := by
  by_cases h6 : x.kind = 6
  · obtain ⟨k, tx, a1, l1, c1⟩ := x
    simp only at h6 ht
    subst h6
    exact tokA_chr B v n xs va m vc last tx a1 l1 c1 w h hB hn ht hf hm
  · by_cases h7 : x.kind = 7
    · obtain ⟨k, tx, a1, l1, c1⟩ := x
      simp only at h7 ht
      subst h7
      exact tokA_str B v n xs va m vc last tx a1 l1 c1 w h hB hn ht hf hm
    · exact tokA_plain B v n xs va m vc last x w hT h0 h hB hn ht hf hm ⟨h6, h7⟩

/-- The kind of the last token. -/
def kAfter : Option Int → List Tok → Option Int
  | k, [] => k
  | _, x :: r => kAfter (some x.kind) r
theorem eFrom_app (a b : List Tok) : ∀ k, eFrom k (a ++ b) = eFrom k a ++ eFrom (kAfter k a) b := by
  induction a with
  | nil => intro k; cases k <;> rfl
  | cons x r ih =>
    intro k
    rcases k with _ | k
    · show eTok (-1) x ++ eFrom (some x.kind) (r ++ b) = eTok (-1) x ++ eFrom (some x.kind) r ++ eFrom (kAfter (some x.kind) r) b
      rw [ih, List.append_assoc]
    · rw [List.cons_append, eFrom_some, ih, eFrom_some]
      show _ = _ ++ eFrom (kAfter (some x.kind) r) b
      simp only [List.append_assoc]
theorem kAfter_app (a : List Tok) (x : Tok) : ∀ k, kAfter k (a ++ [x]) = some x.kind := by
  induction a with
  | nil => intro k; rfl
  | cons y r ih => intro k; exact ih _
theorem kAfter_take {l : List Tok} {i : Nat} (h : i < l.length) : ∀ k, kAfter k (l.take (i + 1)) = some (l.getD i Tz).kind := by
  intro k
  rw [List.take_succ_eq_append_getElem h, kAfter_app, tz_eq h]
theorem eNext0 {l : List Tok} (h : 0 < l.length) : eFrom none (l.take 1) = eTok (-1) (l.getD 0 Tz) := by
  rw [List.take_succ_eq_append_getElem h, tz_eq h]
  show eTok (-1) _ ++ [] = _
  rw [List.append_nil]
theorem eNext {l : List Tok} {i : Nat} (h : i + 1 < l.length) : eFrom none (l.take (i + 1 + 1)) = eFrom none (l.take (i + 1)) ++ ((if spc (l.getD i Tz).kind (l.getD (i + 1) Tz).kind = true then [32] else []) ++ eTok (l.getD i Tz).kind (l.getD (i + 1) Tz)) := by
  rw [List.take_succ_eq_append_getElem h, eFrom_app, kAfter_take (by omega), ← tz_eq h]
  show _ ++ (_ ++ _ ++ []) = _
  rw [List.append_nil]
theorem tw_take (l : List Tok) (i : Nat) : tw (l.take i) ≤ tw l := by
  have h := tw_app (l.take i) (l.drop i)
  rw [List.take_append_drop] at h
  omega
theorem tw_mem {l : List Tok} {x : Tok} (h : x ∈ l) : x.text.size ≤ tw l := by
  induction l with
  | nil => cases h
  | cons y r ih =>
    rw [tw_cons]
    rcases List.mem_cons.mp h with rfl | h
    · omega
    · have := ih h; omega
theorem own_next {B : Nat} {v : Value} {w : World} {E Y F : List UInt8} (h : w.ownsRow B 5 1 v (E.length + Y.length) (vb E ++ vb Y)) (e : F = E ++ Y) : w.ownsRow B 5 1 v F.length (vb F) := by
  subst e
  rw [vb_app, List.length_append]
  exact h
theorem below_drew1 {B : Nat} {w w' : World} (h : Below B w.drew w') : Below B w w' := ⟨h.os, h.tape, h.output, h.size, h.block⟩
theorem own_below {B n : Nat} {xs : List Value} {v : Value} {w w' : World} (h : w.ownsRow B 5 1 v n xs) (hb : Below w.heap.size w w') : w'.ownsRow B 5 1 v n xs :=
  h.kept (row := none) ⟨hb.os, hb.tape, hb.output, hb.size, fun k hk _ => hb.block k hk⟩ (by
    by_cases hv : v.ownBlock = none
    · exact Or.inl hv
    · exact Or.inr hv)
theorem own_next2 {B : Nat} {v : Value} {w : World} {E Y F : List UInt8} (h : w.ownsRow B 5 1 v (E.length + 1 + Y.length) (vb E ++ [Value.int .u8 32] ++ vb Y)) (e : F = E ++ ([32] ++ Y)) : w.ownsRow B 5 1 v F.length (vb F) := by
  subst e
  rw [vb_app, vb_app, List.length_append, List.length_append, ← List.append_assoc, ← Nat.add_assoc]
  exact h
theorem box_kept2 {w4 w6 : World} {P : Nat} {o o2 : Obj} {v : Value} (hb : w4.heap[P]? = some o) (hg : (w4.alloc o2).grownBy w6 v.ownBlock) (hne : some P ≠ v.ownBlock) : w6.heap[P]? = some o := by
  have hlt : P < w4.heap.size := (Array.getElem?_eq_some_iff.1 hb).1
  rw [hg.block P (by simp; omega) hne, Below.heap_alloc _ _ _ hlt]; exact hb
/-- The list of an argument. -/
def RowT (w : World) (va : Option Addr) (l : List Tok) : Prop := ∀ i, i < l.length → ∃ g, va = some ⟨g, 0, none⟩ ∧ TC w g (i * 5) (l.getD i Tz)
theorem RowT.bel {w w' : World} {va : Option Addr} {l : List Tok} (h : RowT w va l) (hb : Below w.heap.size w w') : RowT w' va l := by
  intro i hi
  obtain ⟨g, h1, t0, t1, t2, t3, t4⟩ := h i hi
  have hg := block_lt_of_cell t0
  exact ⟨g, h1, (hb.cell (by exact hg)).trans t0, (hb.cell (by exact hg)).trans t1, (hb.cell (by exact hg)).trans t2, (hb.cell (by exact hg)).trans t3, (hb.cell (by exact hg)).trans t4⟩
theorem tab_below {w w' : World} (hT : Tab w) (h0 : 0 < w.heap.size) (hb : Below w.heap.size w w') : Tab w' := by
  intro i hi
  rw [hb.cell (p := ⟨0, i, none⟩) h0]; exact hT i hi
theorem conv_vb {w : World} {base : Nat} {v : Value} {ys : List UInt8} (h : w.ownsRow base 5 1 v ys.length (vb ys)) : (convert 51 9 v).run Tryd.prog w = .ok (.string ⟨ys.toArray⟩) w := by
  have h2 : w.ownsRow base 5 1 v (ys.map fun b => (b.toNat : Int)).length ((ys.map fun b => (b.toNat : Int)).map (Value.int .u8)) := by
    rw [List.length_map, List.map_map]; exact h
  rw [conv_own h2, str_nums]

set_option maxHeartbeats 8000000 in
theorem canon_any (l : List Tok) (va : Option Addr) (vc : Nat) (w : World) (hT : Tab w) (h0 : 0 < w.heap.size) (hl : RowT w va l) (hvc : l.length ≤ vc) (hn : l.length ≤ 8000) (ht : tw l ≤ 4000) :
    Calls Tryd.prog 13 #[.slice va l.length vc] w fun e w' => e = .returned (.tuple #[.string (canon l), .bool true]) ∧ Below w.heap.size w w' := by
  obtain ⟨i0, hi5, hz0, hz1, hz2⟩ := info_parts info5
  have HT := Lib.hid hT
  have HL := Lib.hid hl
  have HE : Hid (∀ i, (eFrom none (l.take i)).length ≤ 40000) := by
    intro i
    have h1 := eFrom_len (l.take i) none
    have h2 := tw_take l i
    have h3 : (l.take i).length ≤ l.length := by rw [List.length_take]; omega
    omega
  have HX : Hid (∀ i, i < l.length → (l.getD i Tz).text.size ≤ 4000) := by
    intro i hi
    have := tw_mem (l := l) (x := l.getD i Tz) (by rw [tz_eq hi]; exact List.getElem_mem hi)
    omega
  have HB0 : Hid (Below w.heap.size w w) := Below.refl _ _
  have HO0 : Hid (w.ownsRow w.heap.size 5 1 (.slice none 0 0) (eFrom none (l.take 0)).length (vb (eFrom none (l.take 0)))) := World.ownsRow_nil _ _ _ _
  clear hT hl
  go_enter Tryd.func13, Tryd.ntmps13
  go_wp2
  go_loopg [4, 9] (l.length + 1) (fun m y z wr => ∃ i : Nat, i ≤ l.length ∧ l.length - i < m ∧ z = .int .i64 i ∧ Hid (wr.ownsRow w.heap.size 5 1 y (eFrom none (l.take i)).length (vb (eFrom none (l.take i)))) ∧ Hid (Below w.heap.size w wr))
  case atStart => exact ⟨0, by omega, by omega, rfl, HO0, HB0⟩
  case round =>
    obtain ⟨i, hi, hgk, rfl, HO, HB⟩ := hrel
    obtain ⟨m, rfl⟩ : ∃ m, gk = m + 1 := ⟨gk - 1, by omega⟩
    by_cases hlt : i < l.length
    · have hii : (i : Int) < (l.length : Int) := by omega
      have hi0 : (0 : Int) ≤ (i : Int) := by omega
      have hiv : (i : Int) ≤ (vc : Int) := by omega
      obtain ⟨g, hg, htc⟩ := HL.out i hlt
      subst hg
      obtain ⟨t, htt⟩ : ∃ t, t = l.getD i Tz := ⟨_, rfl⟩
      rw [← htt] at htc
      obtain ⟨t0, t1, t2, t3, t4⟩ := htc
      have hgw : g < w.heap.size := block_lt_of_cell t0
      have k0 := (HB.out.cell (by exact hgw)).trans t0
      have k1 := (HB.out.cell (by exact hgw)).trans t1
      have k2 := (HB.out.cell (by exact hgw)).trans t2
      have k3 := (HB.out.cell (by exact hgw)).trans t3
      have k4 := (HB.out.cell (by exact hgw)).trans t4
      clear t0 t1 t2 t3 t4
      have hws : w.heap.size ≤ wr.heap.size := HB.out.size
      have HBX : Hid (Below w.heap.size w (wr.alloc (TB t))) := HB.out.alloc hws _
      have HOX : Hid ((wr.alloc (TB t)).ownsRow w.heap.size 5 1 u4 (eFrom none (l.take i)).length (vb (eFrom none (l.take i)))) := HO.out.alloc _
      have hb : (wr.alloc (TB t)).heap[wr.heap.size]? = some (.cells #[.int .i64 t.kind, .string t.text, .int .i64 t.at_, .int .i64 t.line, .int .i64 t.col] 32 (0, 0)) := alloc_blk wr _
      have HBK := Lib.hid hb
      have e0 := blk_cell hb 0
      have e1 := blk_cell hb 1
      have e2 := blk_cell hb 2
      have e3 := blk_cell hb 3
      have e4 := blk_cell hb 4
      clear hb
      have HTX : Hid (t.text.size ≤ 4000) := by show _ ≤ _; rw [htt]; exact HX.out i hlt
      have HTT := Lib.hid htt
      clear htt
      rcases i with _ | i
      · have HN : Hid (eFrom none (l.take (0 + 1)) = eTok (-1) t) := by show _ = _; rw [eNext0 hlt, HTT.out]
        go_wp2
        go_quiet (fail)
        have HB4 : Hid (Below w.heap.size w ((wr.alloc (TB t)).drewN nq)) := below_drewN HBX.out nq
        have HO4 : Hid (((wr.alloc (TB t)).drewN nq).ownsRow w.heap.size 5 1 u4 (eFrom none (l.take 0)).length (vb (eFrom none (l.take 0)))) := HOX.out
        have hb4 : ((wr.alloc (TB t)).drewN nq).heap[wr.heap.size]? = some (.cells #[.int .i64 t.kind, .string t.text, .int .i64 t.at_, .int .i64 t.line, .int .i64 t.col] 32 (0, 0)) := HBK.out
        clear k0 k1 k2 k3 k4 e0 e1 e2 e3 e4
        generalize (wr.alloc (TB t)).drewN nq = w4 at *
        have e0 := blk_cell hb4 0
        have e1 := blk_cell hb4 1
        have e2 := blk_cell hb4 2
        have e3 := blk_cell hb4 3
        have e4 := blk_cell hb4 4
        go_wp2
        go_still_tail 5, (by kernel_rfl)
        change wpList _ _ _ _ _ (World.drew _)
        go_wp2_with fail
        refine (tokA_any w.heap.size u4 (eFrom none (l.take 0)).length (vb (eFrom none (l.take 0))) (some ⟨g, 0, none⟩) 0 vc (-1) t w4.drew (tab_below HT.out h0 HB4.out.drew) (by have := HB4.out.size; show 0 < w4.heap.size; omega) HO4.out HB4.out.size (by have := HE.out 0; omega) (by have := HTX.out; omega) (Or.inl ⟨rfl, rfl⟩) (by omega)).mono ?_
        rintro e5 w5 ⟨v5, rfl, h51, h52⟩
        obtain ⟨F, hF⟩ : ∃ F, F = eFrom none (l.take (0 + 1)) := ⟨_, rfl⟩
        have h53 := own_next (F := F) h51 (by rw [hF]; exact HN.out)
        have HF := Lib.hid hF
        obtain ⟨va5, vc5, rfl⟩ := own_slice h53
        have HO5 := Lib.hid h53
        have HB5 : Hid (Below w.heap.size w w5) := HB4.out.trans (below_drew1 h52)
        have hle := HE.out (0 + 1)
        rw [← hF] at hle
        have hdc : decide ((65536 : Int) < (F.length : Int)) = false := by rw [decide_eq_false_iff_not]; omega
        clear h51 h52 h53 hb4 e0 e1 e2 e3 e4 hF
        go_wp2
        go_roundg m
        case measure => omega
        case rel => exact ⟨0 + 1, by omega, by omega, by go_num, by rw [← HF.out]; exact HO5, HB5⟩
      · obtain ⟨p, hp⟩ : ∃ p, p = l.getD i Tz := ⟨_, rfl⟩
        obtain ⟨g', hg', htc'⟩ := HL.out i (by omega)
        injection hg' with hg'
        injection hg' with hg' _
        subst hg'
        rw [← hp] at htc'
        obtain ⟨t0, t1, t2, t3, t4⟩ := htc'
        have p0 := (HBX.out.cell (by exact hgw)).trans t0
        have p1 := (HBX.out.cell (by exact hgw)).trans t1
        have p2 := (HBX.out.cell (by exact hgw)).trans t2
        have p3 := (HBX.out.cell (by exact hgw)).trans t3
        have p4 := (HBX.out.cell (by exact hgw)).trans t4
        have KPW := Lib.hid t0
        clear t0 t1 t2 t3 t4
        have HP := Lib.hid hp
        have HN : Hid (eFrom none (l.take (i + 1 + 1)) = eFrom none (l.take (i + 1)) ++ ((if spc p.kind t.kind = true then [32] else []) ++ eTok p.kind t)) := by show _ = _; rw [eNext hlt, HP.out, HTT.out]
        have q0 := cell_regrown p0
        have q1 := cell_regrown p1
        have q2 := cell_regrown p2
        have q3 := cell_regrown p3
        have q4 := cell_regrown p4
        have r0 := cell_regrown e0
        have r1 := cell_regrown e1
        have r2 := cell_regrown e2
        have r3 := cell_regrown e3
        have r4 := cell_regrown e4
        have cS : ∀ d os, Calls Tryd.prog 19 #[.agg #[.int .i64 p.kind, .string p.text, .int .i64 p.at_, .int .i64 p.line, .int .i64 p.col], .agg #[.int .i64 t.kind, .string t.text, .int .i64 t.at_, .int .i64 t.line, .int .i64 t.col]] (grow (redrawn (wr.alloc (TB t)) d) os) _ := fun d os => Calls.regrown_of (spaced_any p t _)
        have m1 : (0 : Int) < ((i + 1 : Nat) : Int) := by omega
        have m2 : IntKind.i64.wrap (((i + 1 : Nat) : Int) - 1) = (i : Int) := by rw [show ((i + 1 : Nat) : Int) - 1 = (i : Int) from by omega]; exact IntWalk.i64_in _ (by omega)
        have m3 : (0 : Int) ≤ (i : Int) := by omega
        have m4 : (i : Int) < (l.length : Int) := by omega
        have n1 : (0 : Int) ≤ (i : Int) + 1 := by omega
        have n2 : (i : Int) + 1 ≤ (vc : Int) := by omega
        have n3 : ((i : Int) + 1).toNat = i + 1 := by omega
        clear hp
        go_wp2
        refine wp_region_quiet_below (by kernel_rfl) (by kernel_rfl) ?_
        repeat (go_big_quiet_step (exact cS _ _))
        refine wpQuiet_nil ?_
        intro _ hw'
        obtain ⟨⟨dq, osq⟩, hw''⟩ := hw'
        subst hw''
        have HB4 : Hid (Below w.heap.size w (grow (redrawn (wr.alloc (TB t)) dq) osq)) := HBX.out.trans ((below_regrown (wr.alloc (TB t)) dq osq).mono HBX.out.size)
        have HG4 : Hid (Below (wr.alloc (TB t)).heap.size (wr.alloc (TB t)) (grow (redrawn (wr.alloc (TB t)) dq) osq)) := below_regrown _ _ _
        have HO4 : Hid ((grow (redrawn (wr.alloc (TB t)) dq) osq).ownsRow w.heap.size 5 1 u4 (eFrom none (l.take (i + 1))).length (vb (eFrom none (l.take (i + 1))))) := own_below HOX.out HG4.out
        have hb4 : (grow (redrawn (wr.alloc (TB t)) dq) osq).heap[wr.heap.size]? = some (.cells #[.int .i64 t.kind, .string t.text, .int .i64 t.at_, .int .i64 t.line, .int .i64 t.col] 32 (0, 0)) := (HG4.out.block _ (by simp)).trans HBK.out
        have hz4 : wr.heap.size + 1 ≤ (grow (redrawn (wr.alloc (TB t)) dq) osq).heap.size := by have h := HG4.out.size; simp at h ⊢; omega
        have hne4 : some wr.heap.size ≠ u4.ownBlock := own_ne HO.out (Nat.le_refl _)
        clear k0 k1 k2 k3 k4 e0 e1 e2 e3 e4 p0 p1 p2 p3 p4 q0 q1 q2 q3 q4 r0 r1 r2 r3 r4 cS HG4
        generalize grow (redrawn (wr.alloc (TB t)) dq) osq = w4 at *
        have KP : Hid (w4.cell? ⟨g, i * 5, none⟩ = some (.int .i64 p.kind)) := (HB4.out.cell (by exact hgw)).trans KPW.out
        have hEl := HE.out (i + 1)
        by_cases hs : spc p.kind t.kind = true
        · have HN2 : Hid (eFrom none (l.take (i + 1 + 1)) = eFrom none (l.take (i + 1)) ++ ([32] ++ eTok p.kind t)) := by show _ = _; rw [HN.out, if_pos hs]
          rw [hs]
          clear hs
          go_wp2_with (at_builtin; refine wpList_append_lies _ rfl _ _ 51 rfl w.heap.size 5 i0 (.int .u8 0) 1 1 Tryd.underlying51 hi5 hz0 hz1 hz2 rfl (by decide) u4 ((eFrom none (l.take (i + 1))).length) (vb (eFrom none (l.take (i + 1)))) rfl (HO4.out.alloc _) ⟨w4.heap.size, 0, none⟩ 1 1 [.int .u8 32] rfl rfl (row1 w4 32) (ints_one [32]) (by decide) (by unfold maxLen; omega) (by omega) (by have h8 := HB4.out.size; simp; omega) (w4.heap.size + 1) (by simp) ?_; intro gg cap w6 hown' hgrow hat hltg; have HB6 : Hid (Below w.heap.size w w6) := HB4.out.trans (two_below HB4.out.size HO4.out hgrow); have HO6 := Lib.hid hown'; have hb6 := box_kept2 hb4 hgrow hne4; have KP6 : Hid (w6.cell? ⟨g, i * 5, none⟩ = some (.int .i64 p.kind)) := (HB6.out.cell (by exact hgw)).trans KPW.out; clear hown' hgrow hat hltg; have e0 := blk_cell hb6 0; have e1 := blk_cell hb6 1; have e2 := blk_cell hb6 2; have e3 := blk_cell hb6 3; have e4 := blk_cell hb6 4)
          go_still_tail 5, (by kernel_rfl)
          change wpList _ _ _ _ _ (World.drew _)
          go_wp2_with fail
          refine (tokA_any w.heap.size _ ((eFrom none (l.take (i + 1))).length + 1) (vb (eFrom none (l.take (i + 1))) ++ [Value.int .u8 32]) (some ⟨g, 0, none⟩) (i + 1) vc p.kind t (w6).drew (tab_below HT.out h0 HB6.out.drew) (by have := HB6.out.size; show 0 < (w6).heap.size; omega) HO6.out HB6.out.size (by omega) (by have := HTX.out; omega) (Or.inr ⟨by omega, g, rfl, by rw [Nat.add_sub_cancel]; exact KP6.out⟩) (by omega)).mono ?_
          rintro e5 w5 ⟨v5, rfl, h51, h52⟩
          obtain ⟨F, hF⟩ : ∃ F, F = eFrom none (l.take (i + 1 + 1)) := ⟨_, rfl⟩
          have h53 : w5.ownsRow w.heap.size 5 1 v5 F.length (vb F) := own_next2 (F := F) h51 (by rw [hF]; exact HN2.out)
          have HF := Lib.hid hF
          obtain ⟨va5, vc5, rfl⟩ := own_slice h53
          have HO5 := Lib.hid h53
          have HB5 : Hid (Below w.heap.size w w5) := HB6.out.trans (below_drew1 h52)
          have hle := HE.out (i + 1 + 1)
          rw [← hF] at hle
          have hdc : decide ((65536 : Int) < (F.length : Int)) = false := by rw [decide_eq_false_iff_not]; omega
          clear h51 h52 h53 hb6 e0 e1 e2 e3 e4 hF
          go_wp2
          go_roundg m
          case measure => omega
          case rel => exact ⟨i + 1 + 1, by omega, by omega, by go_num, by rw [← HF.out]; exact HO5, HB5⟩
        · have hs2 : spc p.kind t.kind = false := by simpa using hs
          have HN2 : Hid (eFrom none (l.take (i + 1 + 1)) = eFrom none (l.take (i + 1)) ++ eTok p.kind t) := by show _ = _; rw [HN.out, if_neg hs]; rfl
          have e0 := blk_cell hb4 0
          have e1 := blk_cell hb4 1
          have e2 := blk_cell hb4 2
          have e3 := blk_cell hb4 3
          have e4 := blk_cell hb4 4
          clear hs
          rw [hs2]
          clear hs2
          go_wp2
          go_still_tail 5, (by kernel_rfl)
          change wpList _ _ _ _ _ (World.drew _)
          go_wp2_with fail
          refine (tokA_any w.heap.size _ ((eFrom none (l.take (i + 1))).length) (vb (eFrom none (l.take (i + 1)))) (some ⟨g, 0, none⟩) (i + 1) vc p.kind t (w4).drew (tab_below HT.out h0 HB4.out.drew) (by have := HB4.out.size; show 0 < (w4).heap.size; omega) HO4.out HB4.out.size (by omega) (by have := HTX.out; omega) (Or.inr ⟨by omega, g, rfl, by rw [Nat.add_sub_cancel]; exact KP.out⟩) (by omega)).mono ?_
          rintro e5 w5 ⟨v5, rfl, h51, h52⟩
          obtain ⟨F, hF⟩ : ∃ F, F = eFrom none (l.take (i + 1 + 1)) := ⟨_, rfl⟩
          have h53 : w5.ownsRow w.heap.size 5 1 v5 F.length (vb F) := own_next (F := F) h51 (by rw [hF]; exact HN2.out)
          have HF := Lib.hid hF
          obtain ⟨va5, vc5, rfl⟩ := own_slice h53
          have HO5 := Lib.hid h53
          have HB5 : Hid (Below w.heap.size w w5) := HB4.out.trans (below_drew1 h52)
          have hle := HE.out (i + 1 + 1)
          rw [← hF] at hle
          have hdc : decide ((65536 : Int) < (F.length : Int)) = false := by rw [decide_eq_false_iff_not]; omega
          clear h51 h52 h53 hb4 e0 e1 e2 e3 e4 hF
          go_wp2
          go_roundg m
          case measure => omega
          case rel => exact ⟨i + 1 + 1, by omega, by omega, by go_num, by rw [← HF.out]; exact HO5, HB5⟩
    · have hii : decide ((i : Int) < (l.length : Int)) = false := by simp; omega
      have hie : l.take i = l := List.take_of_length_le (by omega)
      have HO2 := HO.out
      rw [hie] at HO2
      have hconv := conv_vb HO2
      clear HO2 hie
      go_wp2
      go_ret2
      exact ⟨rfl, HB.out⟩
end Go.Proofs.YtkfkgdkfgpofnaaDoor
/- The walks of sameTokens and Show. -/
namespace Go.Proofs.YtkfkgdkfgpofnaaDoor
open Go.RowKit
set_option maxRecDepth 100000

/-- The kinds and texts of a list. -/
def RowK (w : World) (va : Option Addr) (l : List Tok) : Prop := ∀ i, i < l.length → ∃ g, va = some ⟨g, 0, none⟩ ∧ w.cell? ⟨g, i * 5, none⟩ = some (.int .i64 (l.getD i Tz).kind) ∧ w.cell? ⟨g, i * 5 + 1, none⟩ = some (.string (l.getD i Tz).text)
theorem RowT.k {w : World} {va : Option Addr} {l : List Tok} (h : RowT w va l) : RowK w va l := fun i hi => by
  obtain ⟨g, h1, t0, t1, _⟩ := h i hi
  exact ⟨g, h1, t0, t1⟩
theorem RowK.bel {w w' : World} {va : Option Addr} {l : List Tok} (h : RowK w va l) (hb : Below w.heap.size w w') : RowK w' va l := by
  intro i hi
  obtain ⟨g, h1, t0, t1⟩ := h i hi
  have hg := block_lt_of_cell t0
  exact ⟨g, h1, (hb.cell (by exact hg)).trans t0, (hb.cell (by exact hg)).trans t1⟩
theorem RowK.drewN {w : World} {va : Option Addr} {l : List Tok} (h : RowK w va l) (n : Nat) : RowK (w.drewN n) va l := h
theorem RowT.of {w : World} {base : Nat} {va : Option Addr} {vc : Nat} {l : List Tok} (h : w.ownsRow base 32 5 (.slice va l.length vc) l.length (l.flatMap Tok.cells)) : RowT w va l ∧ l.length ≤ vc := by
  by_cases h0 : l.length = 0
  · exact ⟨fun i hi => absurd hi (by omega), by omega⟩
  · obtain ⟨g, cap, he, hg0, hgl⟩ := h.form (by omega)
    injection he with he1 he2 he3
    subst he1 he3
    exact ⟨fun i hi => ⟨g, rfl, by rw [tz_eq hi]; exact tc_of_row h i hi⟩, own_cap h⟩
theorem pk_get {l l' : List Tok} (h : l'.map pk = l.map pk) : l'.length = l.length ∧ ∀ i, i < l.length → (l'.getD i Tz).kind = (l.getD i Tz).kind ∧ (l'.getD i Tz).text = (l.getD i Tz).text := by
  have hl : l'.length = l.length := by have := congrArg List.length h; simpa using this
  refine ⟨hl, fun i hi => ?_⟩
  have h2 : (l'.map pk)[i]? = (l.map pk)[i]? := by rw [h]
  rw [List.getElem?_map, List.getElem?_map, List.getElem?_eq_getElem (by omega), List.getElem?_eq_getElem hi] at h2
  simp only [Option.map_some, Option.some.injEq, pk, Prod.mk.injEq] at h2
  rw [tz_eq hi, tz_eq (by omega)]
  exact h2
theorem RowK.of {w : World} {va : Option Addr} {l l' : List Tok} (h : RowK w va l') (hp : l'.map pk = l.map pk) : RowK w va l := by
  obtain ⟨h1, h2⟩ := pk_get hp
  intro i hi
  obtain ⟨g, g1, g2, g3⟩ := h i (by omega)
  obtain ⟨q1, q2⟩ := h2 i hi
  rw [q1] at g2
  rw [q2] at g3
  exact ⟨g, g1, g2, g3⟩

set_option maxHeartbeats 4000000 in
theorem same_any (l : List Tok) (va vb : Option Addr) (vc vd : Nat) (w : World) (h1 : RowK w va l) (h2 : RowK w vb l) (hc : l.length ≤ vc) (hd : l.length ≤ vd) (hn : l.length ≤ 8000) :
    Calls Tryd.prog 14 #[.slice va l.length vc, .slice vb l.length vd] w fun e w' => e = .returned (.bool true) ∧ Below w.heap.size w w' := by
  have H1 := Lib.hid h1
  have H2 := Lib.hid h2
  have d1 : ((l.length : Int) != (l.length : Int)) = false := by simp
  have HB0 : Hid (Below w.heap.size w w) := Below.refl _ _
  clear h1 h2
  go_enter Tryd.func14, Tryd.ntmps14
  go_wp2
  go_loopg [13] (l.length + 1) (fun m z wr => ∃ i : Nat, i ≤ l.length ∧ l.length - i < m ∧ z = .int .i64 i ∧ Hid (Below w.heap.size w wr))
  case atStart => exact ⟨0, by omega, by omega, rfl, HB0⟩
  case round =>
    obtain ⟨i, hi, hgk, rfl, HB⟩ := hrel
    obtain ⟨m, rfl⟩ : ∃ m, gk = m + 1 := ⟨gk - 1, by omega⟩
    by_cases hlt : i < l.length
    · have hii : (i : Int) < (l.length : Int) := by omega
      have hi0 : (0 : Int) ≤ (i : Int) := by omega
      obtain ⟨g1, e1, a0, a1⟩ := (H1.out.bel HB.out) i hlt
      obtain ⟨g2, e2, b0, b1⟩ := (H2.out.bel HB.out) i hlt
      subst e1 e2
      generalize (l.getD i Tz).kind = k at *
      generalize (l.getD i Tz).text = tx at *
      go_wp2
      go_quiet (fail)
      go_wp2
      go_roundg m
      case measure => omega
      case rel => exact ⟨i + 1, by omega, by omega, by go_num, below_drewN HB.out _⟩
    · have hii : decide ((i : Int) < (l.length : Int)) = false := by simp; omega
      go_wp2
      go_ret
      exact ⟨rfl, HB.out⟩

theorem canon_list (l : List Tok) : (canon l).data.toList = eFrom none l := by unfold canon; simp
theorem canon_sz (l : List Tok) (hn : l.length ≤ 8000) (ht : tw l ≤ 4000) : (canon l).size ≤ 60000 := by
  unfold canon
  rw [arr_size]
  have := eFrom_len l none
  omega
/-- Raw of the canonical text. -/
theorem raw_canon (l l' : List Tok) (w : World) (hT : Tab w) (h0 : 0 < w.heap.size) (hn : l.length ≤ 8000) (ht : tw l ≤ 4000) (hr : mraw (canon l) = .ok l') (hp : l'.map pk = l.map pk) :
    Calls Tryd.prog 7 #[.string (canon l)] w fun e w' => ∃ va vc, e = .returned (.tuple #[.slice va l.length vc, .agg #[.int .i64 0, .int .i64 0]]) ∧ Hid (RowK w' va l ∧ l.length ≤ vc ∧ Below w.heap.size w w') := by
  refine (raw_any (canon l) w hT h0 (canon_sz l hn ht)).mono ?_
  intro e w' h
  rw [hr] at h
  obtain ⟨v, rfl, hown, hb⟩ := h
  obtain ⟨va, vc, rfl⟩ := own_slice hown
  obtain ⟨h1, h2⟩ := RowT.of hown
  have hl := (pk_get hp).1
  rw [hl] at h2
  refine ⟨va, vc, by rw [hl], h1.k.of hp, h2, hb⟩

set_option maxHeartbeats 4000000 in
theorem show_any (l l' : List Tok) (va : Option Addr) (vc : Nat) (w : World) (hT : Tab w) (h0 : 0 < w.heap.size) (hl : RowT w va l) (hvc : l.length ≤ vc) (hn : l.length ≤ 8000) (ht : tw l ≤ 4000) (hr : mraw (canon l) = .ok l') (hp : l'.map pk = l.map pk) :
    Calls Tryd.prog 8 #[.slice va l.length vc] w fun e w' => e = .returned (.tuple #[.string (canon l), .int .i64 0]) ∧ Below w.heap.size w w' := by
  have HT := Lib.hid hT
  have HL := Lib.hid hl
  have HR := Lib.hid (And.intro hr hp)
  clear hT hl hr hp
  go_enter Tryd.func8, Tryd.ntmps8
  go_wp2_with fail
  refine (canon_any l va vc w HT.out h0 HL.out hvc hn ht).mono ?_
  rintro e w1 ⟨rfl, hb1⟩
  have HB1 := Lib.hid hb1
  clear hb1
  go_wp2_with fail
  refine (raw_canon l l' w1 (tab_below HT.out h0 HB1.out) (by have := HB1.out.size; omega) hn ht HR.out.1 HR.out.2).mono ?_
  rintro e w2 ⟨vb, vd, rfl, H2⟩
  have hz1 := HB1.out.size
  have HB2 : Hid (Below w.heap.size w w2) := HB1.out.trans (H2.out.2.2.mono hz1)
  have hvd := H2.out.2.1
  have H1 : Hid (RowK w2 va l) := HL.out.k.bel HB2.out
  have HA : Hid (∀ o, RowK (w2.alloc o) va l ∧ RowK (w2.alloc o) vb l) := fun o => ⟨H1.out.bel ((Below.refl _ _).alloc (Nat.le_refl _) o), H2.out.1.bel ((Below.refl _ _).alloc (Nat.le_refl _) o)⟩
  go_wp2_with fail
  refine (same_any l va vb vc vd _ (HA.out _).1 (HA.out _).2 hvc hvd hn).mono ?_
  rintro e w3 ⟨rfl, hb3⟩
  have HB3 : Hid (Below w.heap.size w w3) := (HB2.out.alloc HB2.out.size _).trans (hb3.mono (by have := HB2.out.size; simp; omega))
  clear hb3
  go_wp2
  go_ret2
  exact ⟨rfl, HB3.out⟩
end Go.Proofs.YtkfkgdkfgpofnaaDoor
/- The walk of TokensBack. -/
namespace Go.Proofs.YtkfkgdkfgpofnaaDoor
open Go.RowKit
set_option maxRecDepth 100000

/-- Raw of the text: a fault, or tokens whose canonical text is read as they are. -/
theorem back_raw (s : ByteArray) (w : World) (hT : Tab w) (h0 : 0 < w.heap.size) (hs : s.size ≤ 4000) :
    Calls Tryd.prog 7 #[.string s] w fun e w' => ∃ va vc l c1 c2, e = .returned (.tuple #[.slice va l.length vc, .agg #[.int .i64 c1, .int .i64 c2]]) ∧
      Hid (Below w.heap.size w w' ∧ RowT w' va l ∧ l.length ≤ vc ∧ l.length ≤ 8000 ∧ tw l ≤ 4000 ∧ (∃ l', mraw (canon l) = .ok l' ∧ l'.map pk = l.map pk) ∧ (c2 = 0 ∨ l = [])) := by
  refine (raw_any s w hT h0 (by omega)).mono ?_
  intro e w' h
  rcases hm : mraw s with f | l
  · rw [hm] at h
    obtain ⟨rfl, hb⟩ := h
    have hrow : RowT w' none [] := fun i hi => absurd hi (Nat.not_lt_zero i)
    have hraw : mraw (canon []) = .ok [] := by kernel_rfl
    refine ⟨none, 0, [], f.1, f.2, rfl, ?_⟩
    show _ ∧ _
    exact ⟨hb, hrow, Nat.le_refl _, Nat.zero_le _, Nat.zero_le _, ⟨[], hraw, rfl⟩, Or.inr rfl⟩
  · rw [hm] at h
    obtain ⟨v, rfl, hown, hb⟩ := h
    obtain ⟨va, vc, rfl⟩ := own_slice hown
    obtain ⟨h1, h2⟩ := RowT.of hown
    have hl := mraw_len hm
    have ht := (raw_run hm).2
    exact ⟨va, vc, l, 0, 0, rfl, hb, h1, h2, by omega, by omega, raw_back hm, Or.inl rfl⟩

set_option maxHeartbeats 4000000 in
theorem back_any (s : ByteArray) (w : World) (hT : Tab w) (h0 : 0 < w.heap.size) :
    Calls Tryd.prog 3 #[.string s] w fun e w' => e = .returned (.bool true) ∧ Below w.heap.size w w' := by
  have HT := Lib.hid hT
  clear hT
  by_cases hs : 4000 < s.size
  · have hs1 : (4000 : Int) < (s.size : Int) := by omega
    clear hs
    go_enter Tryd.func3, Tryd.ntmps3
    go_wp2_with (go_at_call 6; refine (awake_any w HT.out h0).mono ?_; rintro e w1 ⟨rfl, hb1⟩; have HB1 := Lib.hid hb1; clear hb1)
    go_ret
    exact ⟨rfl, HB1.out⟩
  · have hs1 : decide ((4000 : Int) < (s.size : Int)) = false := by simp; omega
    have HS : Hid (s.size ≤ 4000) := by show _ ≤ _; omega
    clear hs
    go_enter Tryd.func3, Tryd.ntmps3
    go_wp2_with (first | (go_at_call 6; refine (awake_any w HT.out h0).mono ?_; rintro e w1 ⟨rfl, hb1⟩; have HB1 := Lib.hid hb1; have HT1 := Lib.hid (tab_below HT.out h0 hb1); have HZ1 : Hid (0 < w1.heap.size) := by { show 0 < _; have := hb1.size; omega }; clear hb1))
    refine (back_raw s w1 HT1.out HZ1.out HS.out).mono ?_
    rintro e2 w2 ⟨va, vc, l, c1, c2, rfl, H2⟩
    have HB2 : Hid (Below w.heap.size w w2) := HB1.out.trans (H2.out.1.mono HB1.out.size)
    obtain ⟨_, _, hvc, hn, ht, ⟨l', hr, hp⟩, hc⟩ := H2.out
    have HR := Lib.hid (And.intro hr hp)
    have HL : Hid (RowT w2 va l) := H2.out.2.1
    clear hr hp H2
    by_cases h2 : c2 = 0
    · subst h2
      clear hc
      have HB3 : Hid (Below w.heap.size w (w2.alloc (.cells #[.int .i64 c1, .int .i64 0] 26))) := HB2.out.alloc HB2.out.size _
      have HL3 : Hid (RowT (w2.alloc (.cells #[.int .i64 c1, .int .i64 0] 26)) va l) := HL.out.bel ((Below.refl _ _).alloc (Nat.le_refl _) _)
      have HZ3 : Hid (0 < (w2.alloc (.cells #[.int .i64 c1, .int .i64 0] 26)).heap.size) := by show 0 < _; simp
      go_wp2_with fail
      refine (show_any l l' va vc _ (tab_below HT.out h0 HB3.out) HZ3.out HL3.out hvc hn ht HR.out.1 HR.out.2).mono ?_
      rintro e w4 ⟨rfl, hb4⟩
      have HB4 : Hid (Below w.heap.size w w4) := HB3.out.trans (hb4.mono HB3.out.size)
      have HL4 : Hid (RowT w4 va l) := HL3.out.bel hb4
      clear hb4
      go_wp2_with fail
      refine (raw_canon l l' w4 (tab_below HT.out h0 HB4.out) (by have := HB4.out.size; omega) hn ht HR.out.1 HR.out.2).mono ?_
      rintro e w5 ⟨vb, vd, rfl, H5⟩
      have HB5 : Hid (Below w.heap.size w w5) := HB4.out.trans (H5.out.2.2.mono HB4.out.size)
      have hvd := H5.out.2.1
      have HA : Hid (∀ o, RowK (w5.alloc o) va l ∧ RowK (w5.alloc o) vb l) := fun o => ⟨(HL4.out.k.bel H5.out.2.2).bel ((Below.refl _ _).alloc (Nat.le_refl _) o), H5.out.1.bel ((Below.refl _ _).alloc (Nat.le_refl _) o)⟩
      have d1 : ((l.length : Int) != (l.length : Int)) = false := by simp
      go_wp2
      have HA6 := Lib.hid (HA.out (.cells #[.int .i64 0, .int .i64 0] 26))
      have HB6 : Hid (Below w.heap.size w (w5.alloc (.cells #[.int .i64 0, .int .i64 0] 26))) := HB5.out.alloc HB5.out.size _
      clear HA
      generalize w5.alloc (.cells #[.int .i64 0, .int .i64 0] 26) = w6 at *
      have HB0 : Hid (Below w6.heap.size w6 w6) := Below.refl _ _
      go_loopg [55] (l.length + 1) (fun m z wr => ∃ i : Nat, i ≤ l.length ∧ l.length - i < m ∧ z = .int .i64 i ∧ Hid (Below w6.heap.size w6 wr))
      case atStart => exact ⟨0, by omega, by omega, rfl, HB0⟩
      case round =>
        obtain ⟨i, hi, hgk, rfl, HB⟩ := hrel
        obtain ⟨m, rfl⟩ : ∃ m, gk = m + 1 := ⟨gk - 1, by omega⟩
        by_cases hlt : i < l.length
        · have hii : (i : Int) < (l.length : Int) := by omega
          have hi0 : (0 : Int) ≤ (i : Int) := by omega
          obtain ⟨g1, e1, a0, a1⟩ := (HA6.out.1.bel HB.out) i hlt
          obtain ⟨g2, e2, b0, b1⟩ := (HA6.out.2.bel HB.out) i hlt
          subst e1 e2
          generalize (l.getD i Tz).kind = k at *
          generalize (l.getD i Tz).text = tx at *
          go_wp2
          go_quiet (fail)
          go_wp2
          go_roundg m
          case measure => omega
          case rel => exact ⟨i + 1, by omega, by omega, by go_num, below_drewN HB.out _⟩
        · have hii : decide ((i : Int) < (l.length : Int)) = false := by simp; omega
          go_wp2
          go_ret
          exact ⟨rfl, HB6.out.trans (HB.out.mono HB6.out.size)⟩
    · have hlz : l = [] := hc.resolve_left h2
      subst hlz
      have hc1 : (c2 == 0) = false := by simp [h2]
      have hc2 : (c2 != 0) = true := by simp [h2]
      clear h2 hc
      go_wp2
      go_ret
      exact ⟨rfl, HB2.out.alloc HB2.out.size _⟩
end Go.Proofs.YtkfkgdkfgpofnaaDoor
