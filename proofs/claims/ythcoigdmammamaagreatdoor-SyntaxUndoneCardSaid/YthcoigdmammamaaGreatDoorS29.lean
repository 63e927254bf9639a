/- Check, at a tree that is right. -/
import Derived.Test.YthcoigdmammamaaGreatDoorS30
namespace Go.Proofs.YthcoigdmammamaaGreatDoor
open Go.RowKit Go.Shelf
attribute [local go_sem] Oper.semAt_some
set_option maxRecDepth 100000

mutual
theorem pre_sub (z : Nd) : ∀ x : Nd, z ∈ x.pre → ∀ u ∈ z.pre, u ∈ x.pre
  | .mk k t n l a => by
    intro h u hu
    rw [Nd.pre] at h ⊢
    rcases List.mem_cons.1 h with rfl | h
    · rw [Nd.pre] at hu; exact hu
    · exact List.mem_cons_of_mem _ (preL_sub z l h u hu)
theorem preL_sub (z : Nd) : ∀ l : List Nd, z ∈ preL l → ∀ u ∈ z.pre, u ∈ preL l
  | [] => by intro h; cases h
  | x :: r => by
    intro h u hu
    rw [preL, List.mem_append] at h ⊢
    rcases h with h | h
    · exact .inl (pre_sub z x h u hu)
    · exact .inr (preL_sub z r h u hu)
end
theorem mem_preL (l : List Nd) (i : Nat) (h : i < l.length) : l.getD i Nd0 ∈ preL l := by
  induction l generalizing i with
  | nil => simp at h
  | cons x r ih =>
    rw [preL, List.mem_append]
    cases i with
    | zero => left; show x ∈ x.pre; rw [Nd.pre_eq]; exact List.mem_cons_self
    | succ i => right; exact ih i (by simpa using h)
theorem pre_kid (x z : Nd) (h : z ∈ x.pre) (i : Nat) (hi : i < z.kids.length) : z.kids.getD i Nd0 ∈ x.pre := by
  refine pre_sub z x h _ ?_
  rw [Nd.pre_eq]
  exact List.mem_cons_of_mem _ (mem_preL _ i hi)

theorem results16_run (tmps : Array Value) (W : World) (F : Nat) (c0 c1 : Value) (h2 : tmps[2]?.getD undef = .pointer (some ⟨F, 0, none⟩)) (hF : W.heap[F]? = some (.cells #[c0, c1] 31 (0, 0))) :
    (results Tryz.f16 tmps).run Tryz.prog W = .ok (.agg #[c0, c1]) W := by
  have r0 : W.cell? ⟨F, 0, none⟩ = some c0 := blk_cell hF 0
  have r1 : W.cell? ⟨F, 1, none⟩ = some c1 := blk_cell hF 1
  simp [results, Tryz.results16, go_sem, h2, r0, r1]

set_option maxHeartbeats 4000000 in
theorem check_ok (x : Nd) (v : Value) (B : Nat) (w : World) (hG : Glob w) (hl : Ls w B v x.kids) (hB : B ≤ w.heap.size) (hok : x.ok) (hx : x.nodes ≤ 20000) (hh : x.high ≤ 64)
    (hW : ∀ (n0 : Nat) (W0 W : World) (y : It W0 n0), y.x ∈ x.pre → n0 ≤ W0.heap.size → Below n0 W0 W → Glob W → Calls Tryz.prog 31 #[y.enc] W fun e W' => e = .returned (.int .i64 0) ∧ Below W.heap.size W W') :
    Calls Tryz.prog 16 #[nv x v] w fun e w' => e = .returned (.agg #[.int .i64 0, .int .i64 0]) ∧ Below w.heap.size w w' := by
  refine (callsIn_wide (n := 6)).1 ?_
  have hro : Fence.wide.round = none := rfl
  have h1 : 1 ≤ 6 := by omega
  obtain ⟨va, vc, rfl⟩ := hl.slice
  obtain ⟨w1, hw1⟩ : ∃ w1, (w.alloc (NB x (.slice va x.kids.length vc))).alloc (.cells #[.int .i64 0, .int .i64 0] 31) = w1 := ⟨_, rfl⟩
  have hz1 : w1.heap.size = w.heap.size + 2 := by rw [← hw1]; simp
  have hb0 : Below w.heap.size w w1 := by rw [← hw1]; exact ((Below.refl _ w).alloc (Nat.le_refl _) _).alloc (by simp) _
  have hP : w1.heap[w.heap.size]? = some (NB x (.slice va x.kids.length vc)) := by
    rw [← hw1, Below.heap_alloc _ _ _ (by simp)]; exact alloc_blk w _
  have hQ : w1.heap[w.heap.size + 1]? = some (.cells #[.int .i64 0, .int .i64 0] 31 (0, 0)) := by
    rw [← hw1]
    have h := alloc_blk (w.alloc (NB x (.slice va x.kids.length vc))) (.cells #[.int .i64 0, .int .i64 0] 31)
    rw [World.size_alloc] at h; exact h
  have hl1 := hl.bel (hb0.mono hB)
  have cD := depth_any x _ B w1 hl1 (by omega) hok hx
  have HB0 := Lib.hid hb0
  have HP := Lib.hid hP
  have HQ := Lib.hid hQ
  have HL1 := Lib.hid hl1
  have HZ1 := Lib.hid hz1
  have HG := Lib.hid hG
  rw [← hw1] at cD
  have HW1 := Lib.hid hw1
  clear hl hb0 hP hQ hl1 hz1 hw1 hG
  refine callsIn_of_wp_marks Tryz.func16 rfl trivial ?_ rfl
  simp only [Tryz.ntmps16, List.size_toArray, List.length_cons, List.length_nil, Nat.reduceAdd, Nat.reduceSub, Array.replicate_succ, Array.replicate_zero, List.push_toArray, List.append_toArray, List.nil_append, List.cons_append]
  gi_wp2_with fail
  refine ⟨trivial, (callsIn_wide.2 cD).mono ?_⟩
  clear cD
  rintro e w2 ⟨⟨d, rfl, hd, _⟩, hb2⟩
  rw [HW1.out] at hb2
  have hz1 := HZ1.out
  have hz2 := hb2.size
  have hP2 := (hb2.block w.heap.size (by omega)).trans HP.out
  have p0 := blk_cell hP2 0
  have p1 := blk_cell hP2 1
  have p2 := blk_cell hP2 2
  have p3 := blk_cell hP2 3
  have p4 := blk_cell hP2 4
  have d1 : decide ((64 : Int) < (d : Int)) = false := by simp; omega
  have cS := small_any x (.slice va x.kids.length vc) B w2 (HL1.out.bel (hb2.mono (by omega))) (by omega) hok hx
  have HB2 := Lib.hid hb2
  have HP2 := Lib.hid hP2
  clear hb2 hP2
  gi_wp2_with fail
  refine ⟨trivial, (callsIn_wide.2 cS).mono ?_⟩
  clear cS p0 p1 p2 p3 p4 d1
  rintro e w3 ⟨rfl, hb3⟩
  have hz3 := hb3.size
  have HB3 := Lib.hid hb3
  clear hb3
  gi_wp2_with (refine ⟨trivial, ?_⟩; gi_at_call 22; refine (preorder_in Fence.wide _ trivial rfl _ _).mono ?_; rintro e w9 ⟨rfl, rfl⟩)
  obtain ⟨w4, hw4⟩ : ∃ w4, (w3.alloc (.cells #[.int .i64 0] 3)).alloc (.cells #[.pointer (some ⟨w.heap.size, 0, none⟩)] 48) = w4 := ⟨_, rfl⟩
  have hz4 : w4.heap.size = w3.heap.size + 2 := by rw [← hw4]; simp
  have hB34 : Below w3.heap.size w3 w4 := by rw [← hw4]; exact ((Below.refl _ w3).alloc (Nat.le_refl _) _).alloc (by simp) _
  have hB14 : Below w1.heap.size w1 w4 := HB2.out.trans ((HB3.out.mono hz2).trans (hB34.mono (by omega)))
  have hB4 : Below w.heap.size w w4 := HB0.out.trans (hB14.mono (by omega))
  have hbk : w4.heap[w.heap.size]? = some (NB x (.slice va x.kids.length vc)) := (hB14.block _ (by omega)).trans HP.out
  have hs : w4.cell? ⟨w3.heap.size, 0, none⟩ = some (.int .i64 0) ∧ w4.frozen? ⟨w3.heap.size, 0, none⟩ = false := by
    have h := cell_new w3 (.int .i64 0) 3
    rw [← hw4]
    exact ⟨cell_alloc' _ h.1, frozen_alloc' _ h.1 h.2⟩
  have hb : w4.cell? ⟨w3.heap.size + 1, 0, none⟩ = some (.pointer (some ⟨w.heap.size, 0, none⟩)) := by
    have h := cell_new (w3.alloc (.cells #[.int .i64 0] 3)) (.pointer (some ⟨w.heap.size, 0, none⟩)) 48
    rw [World.size_alloc] at h
    rw [← hw4]
    exact h.1
  have HY : ∃ y : ItQ w4 w3.heap.size (fun z => z ∈ x.pre), y.x = x ∧ y.enc = .pointer (some ⟨w.heap.size, 0, none⟩) :=
    ⟨⟨⟨w.heap.size, 0, x, .slice va x.kids.length vc, by omega, ⟨blk_cell hbk 0, blk_cell hbk 1, blk_cell hbk 2, blk_cell hbk 3, blk_cell hbk 4, hok, blk_free hbk 0⟩, (HL1.out.bel (hB14.mono (by omega))).up (by omega)⟩, by show x ∈ x.pre; rw [Nd.pre_eq]; exact List.mem_cons_self⟩, rfl, rfl⟩
  obtain ⟨y, hyx, hye⟩ := HY
  rw [← hye] at hb
  rw [hw4]
  clear hw4 hbk
  refine wpIn_rangeFunc_ownG hro h1 (gf := 39) (lb := #[.pointer (some ⟨w3.heap.size + 1, 0, none⟩)]) rfl trivial (enters_of Tryz.func39 (by kernel_rfl) rfl)
    (pre_stopsq (Q := fun z => z ∈ x.pre) (fun z hz i hi => pre_kid x z hz i hi) Fence.wide rfl (6 - 1) trivial trivial hro (w3.heap.size + 1) w3.heap.size w4 y (by rw [hyx]; omega) (by omega) (by omega) hb) belowK_t (belowK_b (by omega)) (Below.refl _ _) (fun _ => rfl)
    (fun pre W => (W.cell? ⟨w3.heap.size, 0, none⟩ = some (.int .i64 pre.length) ∧ W.frozen? ⟨w3.heap.size, 0, none⟩ = false) ∧ Below w3.heap.size w4 W)
    (fun _ _ _ => False)
    (OwnFrom.and (Own.from (fun s A B row hs hg hr => ⟨cell_kept hs.1 hg hr, (frozen_kept hs.1 hg hr).trans hs.2⟩) _) (ownFrom_below (by omega) (by omega)))
    (fun _ _ _ _ _ hs _ _ => hs)
    ⟨hs, Below.refl _ _⟩
    (fun z => { tmps := #[nv x (.slice va x.kids.length vc), .pointer (some ⟨w.heap.size, 0, none⟩), .pointer (some ⟨w.heap.size + 1, 0, none⟩), .pointer (some ⟨w3.heap.size, 0, none⟩), z.enc, undef, nv x (.slice va x.kids.length vc), .int .i64 d, .bool false, undef, nv x (.slice va x.kids.length vc), .bool true, .bool false, undef, .func (.func 39) #[] #[.pointer (some ⟨w3.heap.size + 1, 0, none⟩)], z.enc, undef, undef, undef, undef, undef, undef, undef, undef, undef, undef], defers := [] }) ?assign ?body ?done ?stop
  case assign =>
    intro l z W K hK
    gi_wp2
    simpa using hK
  case body =>
    rintro l pre z W ⟨⟨hc, hf⟩, hBW⟩ hlt
    have hle : (pre.length : Int) + 1 ≤ 20000 := by rw [hyx] at hlt; omega
    have h0 : (0 : Int) ≤ pre.length := by omega
    have a1 : IntKind.i64.wrap ((pre.length : Int) + 1) = (pre.length : Int) + 1 := IntWalk.i64_in _ (by omega)
    have hzW := hBW.size
    have hlW : w3.heap.size < W.heap.size := by omega
    have hGW : Glob W := HG.out.bel (hB4.trans (hBW.mono (by omega)))
    have cW := hW w3.heap.size w4 W z.toIt z.hq (by omega) hBW hGW
    have HBW := Lib.hid hBW
    clear hlt hGW hBW
    gi_wp2_with fail
    refine ⟨trivial, (CallsIn.inRound l (callsIn_wide.2 cW)).mono ?_⟩
    clear cW
    rintro e W1 ⟨rfl, hbW⟩
    have hc1 : W1.cell? ⟨w3.heap.size, 0, none⟩ = some (.int .i64 pre.length) := (hbW.cell (p := ⟨w3.heap.size, 0, none⟩) hlW).trans hc
    have hf1 : W1.frozen? ⟨w3.heap.size, 0, none⟩ = false := (hbW.frozen (p := ⟨w3.heap.size, 0, none⟩) hlW).trans hf
    have hc2 : (W1.setCell ⟨w3.heap.size, 0, none⟩ (.int .i64 ((pre.length : Int) + 1))).cell? ⟨w3.heap.size, 0, none⟩ = some (.int .i64 ((pre.length : Int) + 1)) := World.cell?_setCell_same' _ _ _ (by rw [hc1]; rfl)
    have HBX := Lib.hid hbW
    clear hc hf hbW
    gi_wp2
    have hgr : W.grownBy W1 none := ⟨HBX.out.os, HBX.out.tape, HBX.out.output, HBX.out.size, fun i hi _ => HBX.out.block i hi⟩
    refine ⟨(KeepsFrom.of_grownBy hgr (fun j e => by cases e)).trans ((KeepsOthers.setCell _ _ _).from _), (HBX.out.mono (Nat.le_of_lt hlW)).setCell (p := ⟨w3.heap.size, 0, none⟩) (Nat.le_refl _) _, ⟨?_, by rw [World.frozen?_setCell]; exact hf1⟩, (HBW.out.trans (HBX.out.mono (Nat.le_of_lt hlW))).setCell (p := ⟨w3.heap.size, 0, none⟩) (Nat.le_refl _) _⟩
    rw [hc2]; simp
  case done =>
    rintro D ys W hD hys ⟨⟨hc, hf⟩, hBW⟩ hK
    have hzW := hBW.size
    have hQW : W.heap[w.heap.size + 1]? = some (.cells #[.int .i64 0, .int .i64 0] 31 (0, 0)) := ((hB14.trans (hBW.mono (by omega))).block _ (by omega)).trans HQ.out
    have g0 := blk_cell hQW 0
    have g1 := blk_cell hQW 1
    have f0 := blk_free hQW 0
    have f1 := blk_free hQW 1
    have HQW := Lib.hid hQW
    have HBW := Lib.hid hBW
    have HK := Lib.hid hK
    clear hQW hBW hK hys hc hf
    gi_wp2
    have hlD := lt_of_block HK.out
    have hne : D ≠ w.heap.size + 1 := by omega
    have hK2 : ((W.setCell ⟨w.heap.size + 1, 0, none⟩ (.int .i64 0)).setCell ⟨w.heap.size + 1, 1, none⟩ (.int .i64 0)).heap[D]? = some (.deferred (some [])) := by
      rw [Below.heap_setCell _ _ _ _ hne, Below.heap_setCell _ _ _ _ hne]
      exact HK.out
    have hF : ((W.setCell ⟨w.heap.size + 1, 0, none⟩ (.int .i64 0)).setCell ⟨w.heap.size + 1, 1, none⟩ (.int .i64 0)).heap[w.heap.size + 1]? = some (.cells #[.int .i64 0, .int .i64 0] 31 (0, 0)) := blk_set (blk_set HQW.out 0 (.int .i64 0)) 1 (.int .i64 0)
    have hBZ : Below w.heap.size w ((W.setCell ⟨w.heap.size + 1, 0, none⟩ (.int .i64 0)).setCell ⟨w.heap.size + 1, 1, none⟩ (.int .i64 0)) := by
      have h0 : w.heap.size ≤ w.heap.size + 1 := Nat.le_succ _
      exact ((hB4.trans (HBW.out.mono (by omega))).setCell (by exact h0) _).setCell (by exact h0) _
    refine ⟨by simp, .inl ⟨_, _, rfl, run_takeDeferred hK2, ?_⟩⟩
    refine ⟨_, results16_run _ _ (w.heap.size + 1) (.int .i64 0) (.int .i64 0) rfl ?_, rfl, ?_⟩
    · rw [(grownBy_putObj' _ D _).block _ (lt_of_block hF) (fun e => hne (by injection e with e; exact e.symm))]
      exact hF
    · exact hBZ.trans (belowK_b (w := w) (Nat.le_refl _) _ D _ _ (by omega) hK2 rfl rfl)
  case stop =>
    rintro D c pre W _ _ h _
    exact h.elim
end Go.Proofs.YthcoigdmammamaaGreatDoor
