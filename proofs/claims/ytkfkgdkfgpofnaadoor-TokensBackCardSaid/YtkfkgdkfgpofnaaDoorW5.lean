/- The walk of appendToken: literals. -/
import Derived.Test.YtkfkgdkfgpofnaaDoorW
import Derived.Deep.RegionHeld3
namespace Go.Proofs.YtkfkgdkfgpofnaaDoor
open Go.RowKit
set_option maxRecDepth 100000

theorem row_cell {W : World} {b : Nat} {a : Int} (h : W.cell? ⟨b, 0, none⟩ = some (.int .u8 a)) : ∀ j u, ([.int .u8 a] : List Value)[j]? = some u → W.cell? ((⟨b, 0, none⟩ : Addr).add j) = some u := by
  intro j u hj
  match j, hj with
  | 0, hj =>
    simp at hj
    subst hj
    have e : (⟨b, 0, none⟩ : Addr).add 0 = ⟨b, 0, none⟩ := by unfold Addr.add; split <;> simp_all
    rw [e]; exact h
abbrev QB (q : Int) : Obj := .cells #[.int .u8 q] 5
/-- Between the appends of a literal: the row v that is written, the box P of the token, and, if it is laid, the block src of the closing quote. -/
structure Mq (B : Nat) (W w : World) (v0 v : Value) (n : Nat) (xs : List Value) (P : Nat) (tx : ByteArray) (q : Int) (src : Option Nat) : Prop where
  own : w.ownsRow B 5 1 v n xs
  gw : Gw W w v0 v
  y : w.cell? ⟨P, 1, none⟩ = some (.string tx)
  hB : B ≤ w.heap.size
  ne : some P ≠ v.ownBlock
  s : ∀ b, src = some b → w.cell? ⟨b, 0, none⟩ = some (.int .u8 q) ∧ some b ≠ v.ownBlock
theorem gw_far {w w' : World} {v v' : Value} {b j : Nat} {u : Value} (h : Gw w w' v v') (hne : some b ≠ v.ownBlock) (hc : w.cell? ⟨b, j, none⟩ = some u) : w'.cell? ⟨b, j, none⟩ = some u :=
  (World.cell?_of_block (h.grown.block b (block_lt_of_cell hc) hne)).trans hc
theorem gw_ne {w w' : World} {v v' : Value} {b : Nat} (h : Gw w w' v v') (hne : some b ≠ v.ownBlock) (hlt : b < w.heap.size) : some b ≠ v'.ownBlock := by
  intro e
  rcases h.at_ with h1 | ⟨g, h1, h2⟩
  · exact hne (e.trans h1)
  · rw [h1] at e; injection e with e; omega
section
variable {B : Nat} {W w w' : World} {v0 v v' : Value} {n m : Nat} {xs ys : List Value} {P : Nat} {tx : ByteArray} {q : Int} {src : Option Nat}
/-- A step that appends to the row. -/
theorem Mq.step (h : Mq B W w v0 v n xs P tx q src) (ho : w'.ownsRow B 5 1 v' m ys) (hg : Gw w w' v v') : Mq B W w' v0 v' m ys P tx q src :=
  ⟨ho, h.gw.trans hg, gw_far hg h.ne h.y, Nat.le_trans h.hB hg.grown.size, gw_ne hg h.ne (block_lt_of_cell h.y), fun b hb => ⟨gw_far hg (h.s b hb).2 (h.s b hb).1, gw_ne hg (h.s b hb).2 (block_lt_of_cell (h.s b hb).1)⟩⟩
theorem gw_alloc (w : World) (v : Value) (o : Obj) : Gw w (w.alloc o) v v :=
  ⟨⟨rfl, rfl, rfl, by simp, fun k hk _ => Below.heap_alloc w o k hk⟩, Or.inl rfl⟩
/-- A block is laid. -/
theorem Mq.put (h : Mq B W w v0 v n xs P tx q src) (o : Obj) : Mq B W (w.alloc o) v0 v n xs P tx q src := h.step (h.own.alloc _) (gw_alloc w v o)
theorem own_ne (h : w.ownsRow B 5 1 v n xs) {b : Nat} (hb : w.heap.size ≤ b) : some b ≠ v.ownBlock := fun e => by have := (h.lt b e.symm).2; omega
/-- The closing quote's block is laid. -/
theorem Mq.push (h : Mq B W w v0 v n xs P tx q none) : Mq B W (w.alloc (QB q)) v0 v n xs P tx q (some w.heap.size) := by
  have h1 := h.put (QB q)
  refine ⟨h1.own, h1.gw, h1.y, h1.hB, h1.ne, fun b hb => ?_⟩
  injection hb with hb
  subst hb
  exact ⟨blk_cell (alloc_blk w _) 0, own_ne h.own (Nat.le_refl _)⟩
theorem Mq.drew (h : Mq B W w v0 v n xs P tx q src) : Mq B W w.drew v0 v n xs P tx q src := ⟨h.own, ⟨⟨h.gw.grown.os, h.gw.grown.tape, h.gw.grown.output, h.gw.grown.size, h.gw.grown.block⟩, h.gw.at_⟩, h.y, h.hB, h.ne, h.s⟩
/-- An append of one byte out of a block. -/
theorem Mq.app (h : Mq B W w v0 v n xs P tx q src) {gg cap : Nat} (ho : w'.ownsRow B 5 1 (.slice (some ⟨gg, 0, none⟩) (n + 1) cap) (n + 1) ys) (hg : w.grownBy w' v.ownBlock) (hat : v.ownBlock = some gg ∨ gg = w.heap.size) : Mq B W w' v0 (.slice (some ⟨gg, 0, none⟩) (n + 1) cap) (n + 1) ys P tx q src :=
  h.step ho ⟨hg, by
    rcases hat with e | e
    · exact Or.inl e.symm
    · exact Or.inr ⟨gg, rfl, by omega⟩⟩
end

set_option maxHeartbeats 8000000 in
theorem tokA_chr (B : Nat) (v : Value) (n : Nat) (xs : List Value) (va : Option Addr) (m vc : Nat) (last : Int) (tx : ByteArray) (a1 l1 c1 : Int) (w : World) (h : w.ownsRow B 5 1 v n xs) (hB : B ≤ w.heap.size) (hn : n ≤ 200000) (ht : tx.size ≤ 50000) (hf : Front w va m last) (hm : m ≤ 100000) :
    Calls Tryd.prog 20 #[v, .slice va m vc, .agg #[.int .i64 6, .string tx, .int .i64 a1, .int .i64 l1, .int .i64 c1]] w (At B w n xs (eTok last ⟨6, tx, a1, l1, c1⟩)) := by
  obtain ⟨i0, hi, hz0, hz1, hz2⟩ := info_parts info5
  have HO := Lib.hid h
  have HBX := Lib.hid (below_box hB (TB ⟨6, tx, a1, l1, c1⟩))
  have HR : Hid (eTok last ⟨6, tx, a1, l1, c1⟩ = [39] ++ eBytes [39, 123] tx.data.toList ++ [39]) := by show _ = _; unfold eTok; simp
  have HF : Hid (m = 0 ∧ last = -1 ∨ 0 < m ∧ ∃ g, va = some ⟨g, 0, none⟩ ∧ (w.alloc (TB ⟨6, tx, a1, l1, c1⟩)).cell? ⟨g, (m - 1) * 5, none⟩ = some (.int .i64 last)) := by
    rcases hf with h | ⟨h1, g, h2, h3⟩
    · exact Or.inl h
    · exact Or.inr ⟨h1, g, h2, (World.cell?_of_block (Below.heap_alloc w _ _ (block_lt_of_cell h3))).trans h3⟩
  have HM : Hid (Mq B (w.alloc (TB ⟨6, tx, a1, l1, c1⟩)) (w.alloc (TB ⟨6, tx, a1, l1, c1⟩)) v v n xs w.heap.size tx 39 none) :=
    ⟨HO.out.alloc _, Gw.refl _ _, blk_cell (alloc_blk w _) 1, by simp; omega, own_ne HO.out (Nat.le_refl _), fun b hb => by cases hb⟩
  have hel := eBytes_len [39, 123] tx.data.toList
  rw [← text_len] at hel
  clear h hf
  go_enter Tryd.func20, Tryd.ntmps20
  go_upto_if 10 with fail
  go_cut [7] from 8 to 17 (fun y wx => y = .int .i64 last ∧ wx = w.alloc (TB ⟨6, tx, a1, l1, c1⟩))
  case first =>
    rcases HF.out with ⟨h1, h2⟩ | ⟨h1, g, h2, h3⟩
    · subst h1 h2
      go_wp2
      go_meet
      exact ⟨rfl, rfl⟩
    · obtain ⟨m', rfl⟩ : ∃ m', m = m' + 1 := ⟨m - 1, by omega⟩
      subst h2
      rw [Nat.add_sub_cancel] at h3
      have m1 : (0 : Int) < ((m' + 1 : Nat) : Int) := by omega
      have m2 : IntKind.i64.wrap (((m' + 1 : Nat) : Int) - 1) = (m' : Int) := by rw [show ((m' + 1 : Nat) : Int) - 1 = (m' : Int) from by omega]; exact IntWalk.i64_in _ (by omega)
      have m3 : (0 : Int) ≤ (m' : Int) := by omega
      have m4 : (m' : Int) < ((m' + 1 : Nat) : Int) := by omega
      clear h1
      go_wp2
      go_meet
      exact ⟨rfl, rfl⟩
  case rest =>
    obtain ⟨rfl, rfl⟩ := hcut
    have x0 : (w.alloc (TB ⟨6, tx, a1, l1, c1⟩)).cell? ⟨w.heap.size, 0, none⟩ = some (.int .i64 6) := blk_cell (alloc_blk w _) 0
    have x1 : (w.alloc (TB ⟨6, tx, a1, l1, c1⟩)).cell? ⟨w.heap.size, 1, none⟩ = some (.string tx) := blk_cell (alloc_blk w _) 1
    clear HF
    generalize w.alloc (TB ⟨6, tx, a1, l1, c1⟩) = W at *
    generalize w.heap.size = P at *
    have N1 : Hid (((W.alloc (QB 39)).alloc (QB 39)).cell? ⟨W.heap.size, 0, none⟩ = some (.int .u8 39)) := (World.cell?_of_block (Below.heap_alloc _ _ _ (by simp))).trans (blk_cell (alloc_blk W _) 0)
    have N2 : Hid (((W.alloc (QB 39)).alloc (QB 39)).cell? ⟨W.heap.size + 1, 0, none⟩ = some (.int .u8 39)) := by
      have h := blk_cell (alloc_blk (W.alloc (QB 39)) (QB 39)) 0
      rw [show (W.alloc (QB 39)).heap.size = W.heap.size + 1 from by simp] at h
      exact h
    have HWZ : Hid ((W.alloc (QB 39)).heap.size = W.heap.size + 1) := by show _ = _; simp
    go_wp2
    go_region_held3 (fun w' => w'.cell? ⟨P, 1, none⟩ = some (.string tx)) (first | exact x1 | exact (HM.out.put (QB 39)).y | exact ((HM.out.put (QB 39)).put (QB 39)).y | exact M.out.y | exact (M.out.put (QB 39)).y | exact M4.out.y | exact (M4.out.put (QB 39)).y | exact M5.out.y | go_keep)
      (first
        | (refine step_append_lies _ rfl _ _ 51 rfl B 5 i0 (.int .u8 0) 1 1 Tryd.underlying51 hi hz0 hz1 hz2 rfl (by decide) v (n) (xs) rfl (by exact (HM.out.put (QB 39)).drew.own) ⟨W.heap.size, 0, none⟩ 1 1 [.int .u8 39] rfl rfl (by exact row_cell (blk_cell (alloc_blk W _) 0)) (ints_one [39]) (by decide) (by unfold maxLen; omega) (by omega) (by exact (HM.out.put (QB 39)).drew.hB) _ rfl ?_; intro gg cap w3 hown' hgrow hat hltg; have M := Lib.hid ((HM.out.put (QB 39)).drew.app hown' hgrow hat); clear hown' hgrow hat hltg)
        | (refine step_append_lies _ rfl _ _ 51 rfl B 5 i0 (.int .u8 0) 1 1 Tryd.underlying51 hi hz0 hz1 hz2 rfl (by decide) v (n) (xs) rfl (by exact ((HM.out.put (QB 39)).push).drew.own) ⟨W.heap.size, 0, none⟩ 1 1 [.int .u8 39] rfl rfl (by exact row_cell (N1.out)) (ints_one [39]) (by decide) (by unfold maxLen; omega) (by omega) (by exact ((HM.out.put (QB 39)).push).drew.hB) _ rfl ?_; intro gg cap w3 hown' hgrow hat hltg; have M := Lib.hid (((HM.out.put (QB 39)).push).drew.app hown' hgrow hat); clear hown' hgrow hat hltg)
        | (refine step_append_lies _ rfl _ _ 51 rfl B 5 i0 (.int .u8 0) 1 1 Tryd.underlying51 hi hz0 hz1 hz2 rfl (by decide) v (n) (xs) rfl (by exact ((HM.out.push).put (QB 39)).drew.own) ⟨W.heap.size + 1, 0, none⟩ 1 1 [.int .u8 39] rfl rfl (by exact row_cell (N2.out)) (ints_one [39]) (by decide) (by unfold maxLen; omega) (by omega) (by exact ((HM.out.push).put (QB 39)).drew.hB) _ rfl ?_; intro gg cap w3 hown' hgrow hat hltg; have M := Lib.hid (((HM.out.push).put (QB 39)).drew.app hown' hgrow hat); clear hown' hgrow hat hltg)
        | (go_at_call 39; refine (bytesA_any B (.slice (some ⟨gg, 0, none⟩) (n + 1) cap) (n + 1) (xs ++ [Value.int .u8 39]) tx ⟨#[39, 123]⟩ _ (by exact M.out.own) (by exact M.out.hB) (by omega) (by omega) (by decide)).mono ?_; rintro e w4 ⟨v4, rfl, h41, h42⟩; have M4 := Lib.hid (M.out.step h41 h42); clear h41 h42)
        | (go_at_call 39; refine (bytesA_any B (.slice (some ⟨gg, 0, none⟩) (n + 1) cap) (n + 1) (xs ++ [Value.int .u8 39]) tx ⟨#[39, 123]⟩ _ (by exact (M.out.push).own) (by exact (M.out.push).hB) (by omega) (by omega) (by decide)).mono ?_; rintro e w4 ⟨v4, rfl, h41, h42⟩; have M4 := Lib.hid (M.out.push.step h41 h42); clear h41 h42)
        | (refine step_append_lies _ rfl _ _ 51 rfl B 5 i0 (.int .u8 0) 1 1 Tryd.underlying51 hi hz0 hz1 hz2 rfl (by decide) v4 (n + 1 + (eBytes [39, 123] tx.data.toList).length) (xs ++ [Value.int .u8 39] ++ vb (eBytes [39, 123] tx.data.toList)) rfl (by exact (M4.out.push).own) ⟨w4.heap.size, 0, none⟩ 1 1 [.int .u8 39] rfl rfl (by exact row_cell (blk_cell (alloc_blk w4 _) 0)) (ints_one [39]) (by decide) (by unfold maxLen; omega) (by omega) (by exact (M4.out.push).hB) _ rfl ?_; intro gg5 cap5 w5 hown5 hgrow5 hat5 hltg5; have M5 := Lib.hid ((M4.out.push).app hown5 hgrow5 hat5); clear hown5 hgrow5 hat5 hltg5)
        | (refine step_append_lies _ rfl _ _ 51 rfl B 5 i0 (.int .u8 0) 1 1 Tryd.underlying51 hi hz0 hz1 hz2 rfl (by decide) v4 (n + 1 + (eBytes [39, 123] tx.data.toList).length) (xs ++ [Value.int .u8 39] ++ vb (eBytes [39, 123] tx.data.toList)) rfl (by exact M4.out.own) ⟨w3.heap.size, 0, none⟩ 1 1 [.int .u8 39] rfl rfl (by exact row_cell ((M4.out.s _ rfl).1)) (ints_one [39]) (by decide) (by unfold maxLen; omega) (by omega) (by exact M4.out.hB) _ rfl ?_; intro gg5 cap5 w5 hown5 hgrow5 hat5 hltg5; have M5 := Lib.hid (M4.out.app hown5 hgrow5 hat5); clear hown5 hgrow5 hat5 hltg5)
        | (refine step_append_lies _ rfl _ _ 51 rfl B 5 i0 (.int .u8 0) 1 1 Tryd.underlying51 hi hz0 hz1 hz2 rfl (by decide) v4 (n + 1 + (eBytes [39, 123] tx.data.toList).length) (xs ++ [Value.int .u8 39] ++ vb (eBytes [39, 123] tx.data.toList)) rfl (by exact M4.out.own) ⟨W.heap.size + 1, 0, none⟩ 1 1 [.int .u8 39] rfl rfl (by exact row_cell ((M4.out.s _ (by simp)).1)) (ints_one [39]) (by decide) (by unfold maxLen; omega) (by omega) (by exact M4.out.hB) _ rfl ?_; intro gg5 cap5 w5 hown5 hgrow5 hat5 hltg5; have M5 := Lib.hid (M4.out.app hown5 hgrow5 hat5); clear hown5 hgrow5 hat5 hltg5)
        | (refine step_append_lies _ rfl _ _ 51 rfl B 5 i0 (.int .u8 0) 1 1 Tryd.underlying51 hi hz0 hz1 hz2 rfl (by decide) v4 (n + 1 + (eBytes [39, 123] tx.data.toList).length) (xs ++ [Value.int .u8 39] ++ vb (eBytes [39, 123] tx.data.toList)) rfl (by exact M4.out.own) ⟨W.heap.size, 0, none⟩ 1 1 [.int .u8 39] rfl rfl (by exact row_cell ((M4.out.s _ rfl).1)) (ints_one [39]) (by decide) (by unfold maxLen; omega) (by omega) (by exact M4.out.hB) _ rfl ?_; intro gg5 cap5 w5 hown5 hgrow5 hat5 hltg5; have M5 := Lib.hid (M4.out.app hown5 hgrow5 hat5); clear hown5 hgrow5 hat5 hltg5))
    all_goals
      go_wp2
      go_ret
      rw [HR.out]
      refine ⟨_, rfl, ?_, HBX.out.trans (M5.out.gw.below HM.out.own HM.out.hB)⟩
      have h1 := M5.out.own
      rw [vb_app, vb_app, List.length_append, List.length_append, ← List.append_assoc, ← List.append_assoc, ← Nat.add_assoc, ← Nat.add_assoc]
      exact h1

set_option maxHeartbeats 8000000 in
theorem tokA_str (B : Nat) (v : Value) (n : Nat) (xs : List Value) (va : Option Addr) (m vc : Nat) (last : Int) (tx : ByteArray) (a1 l1 c1 : Int) (w : World) (h : w.ownsRow B 5 1 v n xs) (hB : B ≤ w.heap.size) (hn : n ≤ 200000) (ht : tx.size ≤ 50000) (hf : Front w va m last) (hm : m ≤ 100000) :
    Calls Tryd.prog 20 #[v, .slice va m vc, .agg #[.int .i64 7, .string tx, .int .i64 a1, .int .i64 l1, .int .i64 c1]] w (At B w n xs (eTok last ⟨7, tx, a1, l1, c1⟩)) := by
  obtain ⟨i0, hi, hz0, hz1, hz2⟩ := info_parts info5
  have HO := Lib.hid h
  have HBX := Lib.hid (below_box hB (TB ⟨7, tx, a1, l1, c1⟩))
  have HR : Hid (eTok last ⟨7, tx, a1, l1, c1⟩ = [34] ++ eBytes [34] tx.data.toList ++ [34]) := by show _ = _; unfold eTok; simp
  have HF : Hid (m = 0 ∧ last = -1 ∨ 0 < m ∧ ∃ g, va = some ⟨g, 0, none⟩ ∧ (w.alloc (TB ⟨7, tx, a1, l1, c1⟩)).cell? ⟨g, (m - 1) * 5, none⟩ = some (.int .i64 last)) := by
    rcases hf with h | ⟨h1, g, h2, h3⟩
    · exact Or.inl h
    · exact Or.inr ⟨h1, g, h2, (World.cell?_of_block (Below.heap_alloc w _ _ (block_lt_of_cell h3))).trans h3⟩
  have HM : Hid (Mq B (w.alloc (TB ⟨7, tx, a1, l1, c1⟩)) (w.alloc (TB ⟨7, tx, a1, l1, c1⟩)) v v n xs w.heap.size tx 34 none) :=
    ⟨HO.out.alloc _, Gw.refl _ _, blk_cell (alloc_blk w _) 1, by simp; omega, own_ne HO.out (Nat.le_refl _), fun b hb => by cases hb⟩
  have hel := eBytes_len [34] tx.data.toList
  rw [← text_len] at hel
  clear h hf
  go_enter Tryd.func20, Tryd.ntmps20
  go_upto_if 10 with fail
  go_cut [7] from 8 to 17 (fun y wx => y = .int .i64 last ∧ wx = w.alloc (TB ⟨7, tx, a1, l1, c1⟩))
  case first =>
    rcases HF.out with ⟨h1, h2⟩ | ⟨h1, g, h2, h3⟩
    · subst h1 h2
      go_wp2
      go_meet
      exact ⟨rfl, rfl⟩
    · obtain ⟨m', rfl⟩ : ∃ m', m = m' + 1 := ⟨m - 1, by omega⟩
      subst h2
      rw [Nat.add_sub_cancel] at h3
      have m1 : (0 : Int) < ((m' + 1 : Nat) : Int) := by omega
      have m2 : IntKind.i64.wrap (((m' + 1 : Nat) : Int) - 1) = (m' : Int) := by rw [show ((m' + 1 : Nat) : Int) - 1 = (m' : Int) from by omega]; exact IntWalk.i64_in _ (by omega)
      have m3 : (0 : Int) ≤ (m' : Int) := by omega
      have m4 : (m' : Int) < ((m' + 1 : Nat) : Int) := by omega
      clear h1
      go_wp2
      go_meet
      exact ⟨rfl, rfl⟩
  case rest =>
    obtain ⟨rfl, rfl⟩ := hcut
    have x0 : (w.alloc (TB ⟨7, tx, a1, l1, c1⟩)).cell? ⟨w.heap.size, 0, none⟩ = some (.int .i64 7) := blk_cell (alloc_blk w _) 0
    have x1 : (w.alloc (TB ⟨7, tx, a1, l1, c1⟩)).cell? ⟨w.heap.size, 1, none⟩ = some (.string tx) := blk_cell (alloc_blk w _) 1
    clear HF
    generalize w.alloc (TB ⟨7, tx, a1, l1, c1⟩) = W at *
    generalize w.heap.size = P at *
    have N1 : Hid (((W.alloc (QB 34)).alloc (QB 34)).cell? ⟨W.heap.size, 0, none⟩ = some (.int .u8 34)) := (World.cell?_of_block (Below.heap_alloc _ _ _ (by simp))).trans (blk_cell (alloc_blk W _) 0)
    have N2 : Hid (((W.alloc (QB 34)).alloc (QB 34)).cell? ⟨W.heap.size + 1, 0, none⟩ = some (.int .u8 34)) := by
      have h := blk_cell (alloc_blk (W.alloc (QB 34)) (QB 34)) 0
      rw [show (W.alloc (QB 34)).heap.size = W.heap.size + 1 from by simp] at h
      exact h
    have HWZ : Hid ((W.alloc (QB 34)).heap.size = W.heap.size + 1) := by show _ = _; simp
    go_wp2
    go_region_held3 (fun w' => w'.cell? ⟨P, 1, none⟩ = some (.string tx)) (first | exact x1 | exact (HM.out.put (QB 34)).y | exact ((HM.out.put (QB 34)).put (QB 34)).y | exact M.out.y | exact (M.out.put (QB 34)).y | exact M4.out.y | exact (M4.out.put (QB 34)).y | exact M5.out.y | go_keep)
      (first
        | (refine step_append_lies _ rfl _ _ 51 rfl B 5 i0 (.int .u8 0) 1 1 Tryd.underlying51 hi hz0 hz1 hz2 rfl (by decide) v (n) (xs) rfl (by exact (HM.out.put (QB 34)).drew.own) ⟨W.heap.size, 0, none⟩ 1 1 [.int .u8 34] rfl rfl (by exact row_cell (blk_cell (alloc_blk W _) 0)) (ints_one [34]) (by decide) (by unfold maxLen; omega) (by omega) (by exact (HM.out.put (QB 34)).drew.hB) _ rfl ?_; intro gg cap w3 hown' hgrow hat hltg; have M := Lib.hid ((HM.out.put (QB 34)).drew.app hown' hgrow hat); clear hown' hgrow hat hltg)
        | (refine step_append_lies _ rfl _ _ 51 rfl B 5 i0 (.int .u8 0) 1 1 Tryd.underlying51 hi hz0 hz1 hz2 rfl (by decide) v (n) (xs) rfl (by exact ((HM.out.put (QB 34)).push).drew.own) ⟨W.heap.size, 0, none⟩ 1 1 [.int .u8 34] rfl rfl (by exact row_cell (N1.out)) (ints_one [34]) (by decide) (by unfold maxLen; omega) (by omega) (by exact ((HM.out.put (QB 34)).push).drew.hB) _ rfl ?_; intro gg cap w3 hown' hgrow hat hltg; have M := Lib.hid (((HM.out.put (QB 34)).push).drew.app hown' hgrow hat); clear hown' hgrow hat hltg)
        | (refine step_append_lies _ rfl _ _ 51 rfl B 5 i0 (.int .u8 0) 1 1 Tryd.underlying51 hi hz0 hz1 hz2 rfl (by decide) v (n) (xs) rfl (by exact ((HM.out.push).put (QB 34)).drew.own) ⟨W.heap.size + 1, 0, none⟩ 1 1 [.int .u8 34] rfl rfl (by exact row_cell (N2.out)) (ints_one [34]) (by decide) (by unfold maxLen; omega) (by omega) (by exact ((HM.out.push).put (QB 34)).drew.hB) _ rfl ?_; intro gg cap w3 hown' hgrow hat hltg; have M := Lib.hid (((HM.out.push).put (QB 34)).drew.app hown' hgrow hat); clear hown' hgrow hat hltg)
        | (go_at_call 39; refine (bytesA_any B (.slice (some ⟨gg, 0, none⟩) (n + 1) cap) (n + 1) (xs ++ [Value.int .u8 34]) tx ⟨#[34]⟩ _ (by exact M.out.own) (by exact M.out.hB) (by omega) (by omega) (by decide)).mono ?_; rintro e w4 ⟨v4, rfl, h41, h42⟩; have M4 := Lib.hid (M.out.step h41 h42); clear h41 h42)
        | (go_at_call 39; refine (bytesA_any B (.slice (some ⟨gg, 0, none⟩) (n + 1) cap) (n + 1) (xs ++ [Value.int .u8 34]) tx ⟨#[34]⟩ _ (by exact (M.out.push).own) (by exact (M.out.push).hB) (by omega) (by omega) (by decide)).mono ?_; rintro e w4 ⟨v4, rfl, h41, h42⟩; have M4 := Lib.hid (M.out.push.step h41 h42); clear h41 h42)
        | (refine step_append_lies _ rfl _ _ 51 rfl B 5 i0 (.int .u8 0) 1 1 Tryd.underlying51 hi hz0 hz1 hz2 rfl (by decide) v4 (n + 1 + (eBytes [34] tx.data.toList).length) (xs ++ [Value.int .u8 34] ++ vb (eBytes [34] tx.data.toList)) rfl (by exact (M4.out.push).own) ⟨w4.heap.size, 0, none⟩ 1 1 [.int .u8 34] rfl rfl (by exact row_cell (blk_cell (alloc_blk w4 _) 0)) (ints_one [34]) (by decide) (by unfold maxLen; omega) (by omega) (by exact (M4.out.push).hB) _ rfl ?_; intro gg5 cap5 w5 hown5 hgrow5 hat5 hltg5; have M5 := Lib.hid ((M4.out.push).app hown5 hgrow5 hat5); clear hown5 hgrow5 hat5 hltg5)
        | (refine step_append_lies _ rfl _ _ 51 rfl B 5 i0 (.int .u8 0) 1 1 Tryd.underlying51 hi hz0 hz1 hz2 rfl (by decide) v4 (n + 1 + (eBytes [34] tx.data.toList).length) (xs ++ [Value.int .u8 34] ++ vb (eBytes [34] tx.data.toList)) rfl (by exact M4.out.own) ⟨w3.heap.size, 0, none⟩ 1 1 [.int .u8 34] rfl rfl (by exact row_cell ((M4.out.s _ rfl).1)) (ints_one [34]) (by decide) (by unfold maxLen; omega) (by omega) (by exact M4.out.hB) _ rfl ?_; intro gg5 cap5 w5 hown5 hgrow5 hat5 hltg5; have M5 := Lib.hid (M4.out.app hown5 hgrow5 hat5); clear hown5 hgrow5 hat5 hltg5)
        | (refine step_append_lies _ rfl _ _ 51 rfl B 5 i0 (.int .u8 0) 1 1 Tryd.underlying51 hi hz0 hz1 hz2 rfl (by decide) v4 (n + 1 + (eBytes [34] tx.data.toList).length) (xs ++ [Value.int .u8 34] ++ vb (eBytes [34] tx.data.toList)) rfl (by exact M4.out.own) ⟨W.heap.size + 1, 0, none⟩ 1 1 [.int .u8 34] rfl rfl (by exact row_cell ((M4.out.s _ (by simp)).1)) (ints_one [34]) (by decide) (by unfold maxLen; omega) (by omega) (by exact M4.out.hB) _ rfl ?_; intro gg5 cap5 w5 hown5 hgrow5 hat5 hltg5; have M5 := Lib.hid (M4.out.app hown5 hgrow5 hat5); clear hown5 hgrow5 hat5 hltg5)
        | (refine step_append_lies _ rfl _ _ 51 rfl B 5 i0 (.int .u8 0) 1 1 Tryd.underlying51 hi hz0 hz1 hz2 rfl (by decide) v4 (n + 1 + (eBytes [34] tx.data.toList).length) (xs ++ [Value.int .u8 34] ++ vb (eBytes [34] tx.data.toList)) rfl (by exact M4.out.own) ⟨W.heap.size, 0, none⟩ 1 1 [.int .u8 34] rfl rfl (by exact row_cell ((M4.out.s _ rfl).1)) (ints_one [34]) (by decide) (by unfold maxLen; omega) (by omega) (by exact M4.out.hB) _ rfl ?_; intro gg5 cap5 w5 hown5 hgrow5 hat5 hltg5; have M5 := Lib.hid (M4.out.app hown5 hgrow5 hat5); clear hown5 hgrow5 hat5 hltg5))
    all_goals
      go_wp2
      go_ret
      rw [HR.out]
      refine ⟨_, rfl, ?_, HBX.out.trans (M5.out.gw.below HM.out.own HM.out.hB)⟩
      have h1 := M5.out.own
      rw [vb_app, vb_app, List.length_append, List.length_append, ← List.append_assoc, ← List.append_assoc, ← Nat.add_assoc, ← Nat.add_assoc]
      exact h1
end Go.Proofs.YtkfkgdkfgpofnaaDoor
