/- preorder; Size. -/
import Derived.Test.YthcoigdmammamaaGreatDoorS2
import Derived.RangeFuncFrom
namespace Go.Proofs.YthcoigdmammamaaGreatDoor
open Go.RowKit Go.Shelf
attribute [local go_sem] Oper.semAt_some
set_option maxRecDepth 100000

theorem Ls.up {w : World} {B B' : Nat} {v : Value} {l : List Nd} (h : Ls w B v l) (hb : B ≤ B') : Ls w B' v l :=
  LsS.of h (fun _ _ => rfl) (fun k hk => Nat.lt_of_lt_of_le hk hb)
theorem cell_of_box {W : World} {B : Nat} {v : Value} {t : TypeId} (h : W.heap[B]? = some (.cells #[v] t (0, 0))) : W.cell? ⟨B, 0, none⟩ = some v ∧ W.frozen? ⟨B, 0, none⟩ = false := by
  constructor <;> simp [World.cell?, World.frozen?, h]
theorem cell_new (W : World) (v : Value) (t : TypeId) : (W.alloc (.cells #[v] t)).cell? ⟨W.heap.size, 0, none⟩ = some v ∧ (W.alloc (.cells #[v] t)).frozen? ⟨W.heap.size, 0, none⟩ = false :=
  cell_of_box (World.alloc_heap_new W _)
theorem cell_alloc' {W : World} {a : Addr} {v : Value} (o : Obj) (h : W.cell? a = some v) : (W.alloc o).cell? a = some v := cell_kept h (World.grownBy_alloc W o none) (fun r e => by cases e)
theorem frozen_alloc' {W : World} {a : Addr} {v : Value} (o : Obj) (h : W.cell? a = some v) (hf : W.frozen? a = false) : (W.alloc o).frozen? a = false := (frozen_kept h (World.grownBy_alloc W o none) (fun r e => by cases e)).trans hf

set_option maxHeartbeats 1000000 in
theorem pre1_in (F : Fence) (hd : F.depth = none) (n : Nat) (h39 : F.fn 39) (h40 : F.fn 40) (hro : F.round = none) (l Bt n0 : Nat) (W0 : World) (y : It W0 n0) (J Jx : List (It W0 n0) → World → Prop) (hN1 : y.x.nodes ≤ 1000000)
    (hY : ∀ pre (y' : It W0 n0) W, J pre W → pre.length < y.x.nodes → YieldAt F (n - 1) Tryz.prog l #[y'.enc] W fun e W' =>
      (e = .returned (.bool true) ∧ J (pre ++ [y']) W' ∧ Below n0 W W') ∨ (e = .returned (.bool false) ∧ Jx (pre ++ [y']) W'))
    (W : World) (hBt : W.cell? ⟨Bt, 0, none⟩ = some y.enc) (hW : Below n0 W0 W) (h0 : J [] W) :
    CallsIn F n Tryz.prog 39 #[.func (.yield l) #[] #[], .pointer (some ⟨Bt, 0, none⟩)] W fun e W' => (∃ v, e = .returned v) ∧
      ((∃ ys : List (It W0 n0), ys.map It.x = y.x.pre ∧ J ys W') ∨ (∃ pre : List (It W0 n0), pre.map It.x <+: y.x.pre ∧ Jx pre W')) := by
  have hdd : ∀ k : Nat, (F.depth.isSome = true → 1 ≤ k) := fun k h => by rw [hd] at h; cases h
  have hp := visit_in F hd h40 hro l n0 y.x.nodes W0 J Jx (fun m pre y' W hj hl => yield_any hd m (hY pre y' W hj hl)) (SizeOf.sizeOf y.x) (n - 1) y [] W (Nat.le_refl _) hW h0 (by simp) hN1
  refine callsIn_of_wp Tryz.func39 rfl h39 ?_ hro
  simp only [Tryz.ntmps39, List.size_toArray, List.length_cons, List.length_nil, Nat.reduceAdd, Nat.reduceSub, Array.replicate_succ, Array.replicate_zero, List.push_toArray, List.append_toArray, List.nil_append, List.cons_append]
  gi_wp2_with ((try refine ⟨hdd _, ?_⟩); gi_at_call 40; refine hp.mono ?_; clear hp; rintro e W1 (⟨rfl, ⟨ys, hy1, hy2⟩, _⟩ | ⟨rfl, ys, hy1, hy2⟩))
  · go_end0
    exact ⟨⟨_, rfl⟩, .inl ⟨ys, hy1, by simpa using hy2⟩⟩
  · go_end0
    exact ⟨⟨_, rfl⟩, .inr ⟨ys, hy1, by simpa using hy2⟩⟩

set_option maxHeartbeats 1000000 in
theorem preorder_in (F : Fence) (n : Nat) (h22 : F.fn 22) (hro : F.round = none) (p0 : Option Addr) (w : World) :
    CallsIn F n Tryz.prog 22 #[.pointer p0] w fun e w' => e = .returned (.func (.func 39) #[] #[.pointer (some ⟨w.heap.size, 0, none⟩)]) ∧ w' = w.alloc (.cells #[.pointer p0] 48) := by
  refine callsIn_of_wp Tryz.func22 rfl h22 ?_ hro
  simp only [Tryz.ntmps22, List.size_toArray, List.length_cons, List.length_nil, Nat.reduceAdd, Nat.reduceSub, Array.replicate_succ, Array.replicate_zero, List.push_toArray, List.append_toArray, List.nil_append, List.cons_append]
  gi_wp2
  go_ret
  exact ⟨rfl, rfl⟩

theorem pre_stops (F : Fence) (hd : F.depth = none) (n : Nat) (h39 : F.fn 39) (h40 : F.fn 40) (hro : F.round = none) (Bt n0 : Nat) (w : World) (y : It w n0) (hN1 : y.x.nodes ≤ 1000000) (hBt : Bt < w.heap.size) (hn0 : n0 ≤ w.heap.size)
    (hc : w.cell? ⟨Bt, 0, none⟩ = some y.enc) :
    SeqStopsK F n Tryz.prog 39 #[.pointer (some ⟨Bt, 0, none⟩)] (fun z : It w n0 => #[z.enc]) (Below n0) (fun ys => ys.map It.x = y.x.pre) (fun ys => ys.map It.x <+: y.x.pre) y.x.nodes w := fun l J Jx W hW _ _ hY h0 =>
  pre1_in F hd n h39 h40 hro l Bt n0 w y J Jx hN1 hY W ((hW.cell (p := ⟨Bt, 0, none⟩) hBt).trans hc) (hW.mono hn0) h0

set_option maxHeartbeats 4000000 in
theorem size_in (F : Fence) (hd : F.depth = none) (n : Nat) (h10 : F.fn 10) (h22 : F.fn 22) (h39 : F.fn 39) (h40 : F.fn 40) (hro : F.round = none) (hn : 3 ≤ n) (x : Nd) (v : Value) (B : Nat) (w : World)
    (hl : Ls w B v x.kids) (hB : B ≤ w.heap.size) (hok : x.ok) (hx : x.nodes ≤ 20000) :
    CallsIn F n Tryz.prog 10 #[nv x v] w fun e W' => e = .returned (.int .i64 x.nodes) ∧ Below w.heap.size w W' := by
  have h1 : 1 ≤ n := by omega
  obtain ⟨va, vc, rfl⟩ := hl.slice
  have HL := Lib.hid hl
  clear hl
  refine callsIn_of_wp_marks Tryz.func10 rfl h10 ?_ hro
  simp only [Tryz.ntmps10, List.size_toArray, List.length_cons, List.length_nil, Nat.reduceAdd, Nat.reduceSub, Array.replicate_succ, Array.replicate_zero, List.push_toArray, List.append_toArray, List.nil_append, List.cons_append]
  gi_wp2_with (gi_at_call 22; refine (preorder_in F (n - 1) h22 hro _ _).mono ?_; rintro e w' ⟨rfl, rfl⟩)
  obtain ⟨w3, hw3⟩ : ∃ w3, ((w.alloc (NB x (.slice va x.kids.length vc))).alloc (.cells #[.int .i64 0] 3)).alloc (.cells #[.pointer (some ⟨w.heap.size, 0, none⟩)] 48) = w3 := ⟨_, rfl⟩
  have hz : w3.heap.size = w.heap.size + 3 := by rw [← hw3]; simp
  have hB3 : Below w.heap.size w w3 := by rw [← hw3]; exact (((Below.refl _ w).alloc (Nat.le_refl _) _).alloc (by simp) _).alloc (by simp; omega) _
  have hbk : w3.heap[w.heap.size]? = some (NB x (.slice va x.kids.length vc)) := by
    rw [← hw3, Below.heap_alloc _ _ _ (by simp; omega), Below.heap_alloc _ _ _ (by simp)]
    exact alloc_blk w _
  have hs : w3.cell? ⟨w.heap.size + 1, 0, none⟩ = some (.int .i64 0) ∧ w3.frozen? ⟨w.heap.size + 1, 0, none⟩ = false := by
    have h := cell_new (w.alloc (NB x (.slice va x.kids.length vc))) (.int .i64 0) 3
    rw [World.size_alloc] at h
    rw [← hw3]
    exact ⟨cell_alloc' _ h.1, frozen_alloc' _ h.1 h.2⟩
  have hb : w3.cell? ⟨w.heap.size + 1 + 1, 0, none⟩ = some (.pointer (some ⟨w.heap.size, 0, none⟩)) := by
    have h := cell_new ((w.alloc (NB x (.slice va x.kids.length vc))).alloc (.cells #[.int .i64 0] 3)) (.pointer (some ⟨w.heap.size, 0, none⟩)) 48
    rw [World.size_alloc, World.size_alloc] at h
    rw [← hw3]
    exact h.1
  have HY : ∃ y : It w3 (w.heap.size + 1), y.x = x ∧ y.enc = .pointer (some ⟨w.heap.size, 0, none⟩) :=
    ⟨⟨w.heap.size, 0, x, .slice va x.kids.length vc, Nat.lt_succ_self _, ⟨blk_cell hbk 0, blk_cell hbk 1, blk_cell hbk 2, blk_cell hbk 3, blk_cell hbk 4, hok, blk_free hbk 0⟩, (HL.out.up hB).bel hB3 |>.up (Nat.le_succ _)⟩, rfl, rfl⟩
  obtain ⟨y, hyx, hye⟩ := HY
  rw [← hye] at hb
  rw [hw3]
  clear hw3 hbk
  refine wpIn_rangeFunc_ownF hro h1 (gf := 39) (lb := #[.pointer (some ⟨w.heap.size + 1 + 1, 0, none⟩)]) rfl h39 (enters_of Tryz.func39 (by kernel_rfl) rfl)
    (pre_stops F hd (n - 1) h39 h40 hro (w.heap.size + 1 + 1) (w.heap.size + 1) w3 y (by rw [hyx]; omega) (by omega) (by omega) hb) belowK_t (belowK_b (by omega)) (Below.refl _ _) (fun _ => rfl)
    (fun pre W => (W.cell? ⟨w.heap.size + 1, 0, none⟩ = some (.int .i64 pre.length) ∧ W.frozen? ⟨w.heap.size + 1, 0, none⟩ = false) ∧ Below w.heap.size w W)
    (fun _ _ _ => False)
    (OwnFrom.and (Own.from (fun s A B row hs hg hr => ⟨cell_kept hs.1 hg hr, (frozen_kept hs.1 hg hr).trans hs.2⟩) _) (ownFrom_below (Nat.le_refl _) (by omega)))
    (fun _ _ _ _ _ hs _ _ => hs)
    ⟨hs, hB3⟩
    (fun z => { tmps := #[nv x (.slice va x.kids.length vc), .pointer (some ⟨w.heap.size, 0, none⟩), .int .i64 0, .pointer (some ⟨w.heap.size + 1, 0, none⟩), .func (.func 39) #[] #[.pointer (some ⟨w.heap.size + 1 + 1, 0, none⟩)], z.enc, undef, undef, undef, undef, undef], defers := [] }) ?assign ?body ?done ?stop
  case assign =>
    intro l z W K hK
    gi_wp2
    simpa using hK
  case body =>
    rintro l pre z W ⟨⟨hc, hf⟩, hB⟩ hlen
    have hle : (pre.length : Int) + 1 ≤ 20000 := by rw [hyx] at hlen; omega
    have h0 : (0 : Int) ≤ pre.length := by omega
    have a1 : IntKind.i64.wrap ((pre.length : Int) + 1) = (pre.length : Int) + 1 := IntWalk.i64_in _ (by omega)
    have a2 : decide ((20000 : Int) < (pre.length : Int) + 1) = false := by simp; omega
    have hc2 : (W.setCell ⟨w.heap.size + 1, 0, none⟩ (.int .i64 ((pre.length : Int) + 1))).cell? ⟨w.heap.size + 1, 0, none⟩ = some (.int .i64 ((pre.length : Int) + 1)) := World.cell?_setCell_same' _ _ _ (by rw [hc]; rfl)
    clear hlen
    gi_wp2
    refine ⟨KeepsOthers.setCell _ _ _, (Below.refl (w.heap.size + 1) W).setCell (p := ⟨w.heap.size + 1, 0, none⟩) (Nat.le_refl _) _, ⟨?_, by rw [World.frozen?_setCell]; exact hf⟩, hB.setCell (p := ⟨w.heap.size + 1, 0, none⟩) (Nat.le_succ _) _⟩
    rw [hc2]; simp
  case done =>
    rintro D ys W hD hys ⟨⟨hc, _⟩, hB⟩ hK
    have hlen : ys.length = x.nodes := by have := congrArg List.length hys; rw [List.length_map, hyx, x.pre_len] at this; exact this
    rw [hlen] at hc
    clear hlen hys
    gi_wp2
    refine ⟨by simp, .inl ⟨_, _, rfl, run_takeDeferred hK, ?_⟩⟩
    exact ⟨_, results_tmp rfl _ _ _, rfl, hB.trans (belowK_b (w := w) (Nat.le_refl _) W D _ _ (by omega) hK rfl rfl)⟩
  case stop =>
    rintro D c pre W _ _ h _
    exact h.elim
end Go.Proofs.YthcoigdmammamaaGreatDoor
