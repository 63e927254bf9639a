/- Depth: at most the height. -/
import Derived.Test.YthcoigdmammamaaGreatDoorS18
namespace Go.Proofs.YthcoigdmammamaaGreatDoor
open Go.RowKit Go.Shelf Go.Sort
set_option maxRecDepth 100000

theorem BI.lists {w : World} {B h : Nat} {W : World} {y : Value} {p : Nat} (hI : BI w B h W y p) (hB : B ≤ w.heap.size) :
    ∃ ls, LL W B y ls ∧ ls.length ≤ p ∧ nodesLL ls ≤ p ∧ (∀ l ∈ ls, 0 < l.length ∧ highL l + 1 ≤ h) ∧ Below w.heap.size w W := by
  obtain ⟨i⟩ := hI
  refine ⟨i.outs.map (·.2), ?_, by simpa using i.cnt, i.sum, ?_, i.bel⟩
  · rcases i.own.2 with ⟨e, h0⟩ | ⟨g, cap, cur, e, hb, hw, hc1, hc2, hc3, hc4⟩
    · have : i.outs = [] := List.length_eq_zero_iff.1 h0
      exact .inl ⟨e, by rw [this]; rfl⟩
    · refine .inr ⟨g, 0, cap, fun j => (i.outs.getD j (.nilFunc, [])).1, (by rw [List.length_map]; exact e), lt_of_block hw, by simpa using hc1, ?_⟩
      intro j hj
      have hj' : j < i.outs.length := by simpa using hj
      have e2 : i.outs.getD j (.nilFunc, []) = i.outs[j]'hj' := by simp [List.getD_eq_getElem?_getD, List.getElem?_eq_getElem hj']
      have e3 : (i.outs.map (·.2)).getD j [] = (i.outs[j]'hj').2 := by simp [List.getD_eq_getElem?_getD, List.getElem?_eq_getElem hj']
      rw [e3]
      show W.cell? _ = some (i.outs.getD j (.nilFunc, [])).1 ∧ Ls W B (i.outs.getD j (.nilFunc, [])).1 _
      rw [e2]
      refine ⟨?_, (i.all _ (List.getElem_mem hj')).1.bel (i.bel.mono hB)⟩
      have h1 : (i.outs.map (·.1))[j]? = some (i.outs[j]'hj').1 := by simp [List.getElem?_eq_getElem hj']
      rw [← hc4, List.getElem?_take] at h1
      split at h1
      · rw [Nat.zero_add]
        simp [World.cell?, hw]
        simpa using h1
      · exact absurd h1 (by simp)
  · intro l hl
    obtain ⟨o, ho, rfl⟩ := List.mem_map.1 hl
    exact (i.all o ho).2
theorem highLL_le (ls : List (List Nd)) (h : Nat) (hl : ∀ l ∈ ls, highL l ≤ h) : highLL ls ≤ h := by
  induction ls with
  | nil => exact Nat.zero_le _
  | cons x r ih =>
    show max (highL x) (highLL r) ≤ h
    have h1 := hl x List.mem_cons_self
    have h2 := ih fun l hl' => hl l (List.mem_cons_of_mem _ hl')
    omega
theorem highLL_pos (ls : List (List Nd)) (h0 : 0 < ls.length) (hl : ∀ l ∈ ls, 0 < l.length) : 1 ≤ highLL ls := by
  cases ls with
  | nil => simp at h0
  | cons x r =>
    show 1 ≤ max (highL x) (highLL r)
    have h1 := hl x List.mem_cons_self
    have h2 := highL_mem x 0 h1
    have h3 := (x.getD 0 Nd0).high_eq
    omega

set_option maxHeartbeats 4000000 in
theorem depth_any (x : Nd) (v : Value) (B : Nat) (w : World) (hl : Ls w B v x.kids) (hB : B ≤ w.heap.size) (hok : x.ok) (hx : x.nodes ≤ 20000) :
    Calls Tryz.prog 11 #[nv x v] w fun e w' => (∃ d : Nat, e = .returned (.int .i64 d) ∧ d ≤ x.high ∧ d ≤ 65) ∧ Below w.heap.size w w' := by
  obtain ⟨va, vc, rfl⟩ := hl.slice
  obtain ⟨w1, hw1⟩ : ∃ w1, ((w.alloc (NB x (.slice va x.kids.length vc))).alloc (.cells #[.int .i64 x.kind, .string x.text, .int .i64 x.num, .slice va x.kids.length vc, .int .i64 x.at_] 24)).alloc (.cells #[.slice (some ⟨w.heap.size + 1, 0, none⟩) 1 1] 22) = w1 := ⟨_, rfl⟩
  have hz1 : w1.heap.size = w.heap.size + 3 := by rw [← hw1]; simp
  have hb1 : Below w.heap.size w w1 := by rw [← hw1]; exact (((Below.refl _ w).alloc (Nat.le_refl _) _).alloc (by simp) _).alloc (by simp; omega) _
  have hQ : w1.heap[w.heap.size + 1]? = some (NB x (.slice va x.kids.length vc)) := by
    rw [← hw1, Below.heap_alloc _ _ _ (by simp)]
    have h := alloc_blk (w.alloc (NB x (.slice va x.kids.length vc))) (NB x (.slice va x.kids.length vc))
    rw [World.size_alloc] at h; exact h
  have hR : w1.heap[w.heap.size + 2]? = some (.cells #[.slice (some ⟨w.heap.size + 1, 0, none⟩) 1 1] 22 (0, 0)) := by
    rw [← hw1]
    have h := alloc_blk ((w.alloc (NB x (.slice va x.kids.length vc))).alloc (NB x (.slice va x.kids.length vc))) (.cells #[.slice (some ⟨w.heap.size + 1, 0, none⟩) 1 1] 22)
    rw [World.size_alloc, World.size_alloc] at h; exact h
  have hLL : LL w1 (w.heap.size + 2) (.slice (some ⟨w.heap.size + 2, 0, none⟩) 1 1) [[x]] := by
    refine .inr ⟨w.heap.size + 2, 0, 1, fun _ => .slice (some ⟨w.heap.size + 1, 0, none⟩) 1 1, rfl, by omega, Nat.le_refl _, ?_⟩
    intro i hi
    obtain rfl : i = 0 := by simpa using hi
    refine ⟨blk_cell hR 0, LsS.row (w.heap.size + 1) 0 1 [x] (fun _ => .slice va x.kids.length vc) (by show _ < _; omega) (Nat.le_refl _) ?_ ?_⟩
    · intro i hi
      obtain rfl : i = 0 := by simpa using hi
      exact ⟨blk_cell hQ 0, blk_cell hQ 1, blk_cell hQ 2, blk_cell hQ 3, blk_cell hQ 4, hok, blk_free hQ 0⟩
    · intro i hi
      obtain rfl : i = 0 := by simpa using hi
      exact (hl.bel (hb1.mono hB)).up (by omega)
  have hn1 : nodesLL [[x]] ≤ 20000 := by show x.nodes + 0 + 0 ≤ _; omega
  have hh1 : highLL [[x]] = x.high := by show max (max x.high 0) 0 = _; omega
  have HW1 := Lib.hid hw1
  have HZ1 := Lib.hid hz1
  have HB1 := Lib.hid hb1
  have HLL := Lib.hid hLL
  have HN1 := Lib.hid hn1
  have HH1 := Lib.hid hh1
  clear hw1 hl hz1 hb1 hQ hR hLL hn1 hh1
  go_enter Tryz.func11, Tryz.ntmps11
  go_wp2
  rw [HW1.out]
  go_loopg [3, 4] 67 (fun n y z wr => ∃ (d : Nat) (ls : List (List Nd)), y = .int .i64 d ∧ d ≤ 65 ∧ 66 - d < n ∧ Hid (LL wr (w.heap.size + 2) z ls) ∧ Hid (ls.length ≤ 20000 ∧ nodesLL ls ≤ 20000 ∧ (∀ l ∈ ls, 0 < l.length) ∧ highLL ls + d ≤ x.high) ∧ Hid (Below w.heap.size w wr) ∧ Hid (w.heap.size + 3 ≤ wr.heap.size))
  case atStart => exact ⟨0, [[x]], rfl, by omega, by omega, HLL, ⟨by simp, HN1.out, by intro l hl; rw [List.mem_singleton.1 hl]; simp, by have := HH1.out; omega⟩, HB1, (by show _ ≤ _; have := HZ1.out; omega)⟩
  case round =>
    obtain ⟨d, ls, rfl, hd, hgk, HL2, HF, HB2, HZ2⟩ := hrel
    obtain ⟨n, rfl⟩ : ∃ n, gk = n + 1 := ⟨gk - 1, by omega⟩
    obtain ⟨la, lc, rfl⟩ := HL2.out.slice
    have hll := HF.out.1
    by_cases hc : 0 < ls.length ∧ d ≤ 64
    · obtain ⟨h0, h1⟩ := hc
      have q0 : decide (0 < ls.length) = true := by simpa using h0
      have q1 : decide ((d : Int) ≤ 64) = true := by simp; omega
      have c := below_any (w.heap.size + 2) (highLL ls) _ ls wr HL2.out (by have := HZ2.out; omega) HF.out.2.1 hll (Nat.le_refl _)
      have a1 : IntKind.i64.wrap ((d : Int) + 1) = (d : Int) + 1 := IntWalk.i64_in _ (by omega)
      have HQ := Lib.hid h0
      clear h0 hll
      go_wp2_with fail
      refine c.mono ?_
      clear c
      rintro e w2 ⟨y, rfl, hI⟩
      obtain ⟨ls2, g1, g2, g3, g4, g5⟩ := hI.lists (by have := HZ2.out; omega)
      have HG : Hid (ls2.length ≤ 20000 ∧ nodesLL ls2 ≤ 20000 ∧ (∀ l ∈ ls2, 0 < l.length) ∧ highLL ls2 + (d + 1) ≤ x.high) := by
        have h1 := HF.out.2.1
        refine ⟨by omega, by omega, fun l hl => (g4 l hl).1, ?_⟩
        have h2 := highLL_pos ls HQ.out HF.out.2.2.1
        have h3 := highLL_le ls2 (highLL ls - 1) fun l hl => by have := (g4 l hl).2; omega
        have h4 := HF.out.2.2.2
        omega
      have HG1 := Lib.hid g1
      have HG5 := Lib.hid g5
      clear hI g1 g2 g3 g4 g5
      go_wp2
      go_roundg n
      case measure => omega
      case rel =>
        have hz2 := HZ2.out
        refine ⟨d + 1, ls2, by go_num, by omega, by omega, HG1, HG, HB2.out.trans (HG5.out.mono (by omega)), ?_⟩
        show _ ≤ _
        have := HG5.out.size
        omega
    · have hfin : Hid (d ≤ x.high) := by show _ ≤ _; have := HF.out.2.2.2; omega
      by_cases h0 : 0 < ls.length
      · have q0 : decide (0 < ls.length) = true := by simpa using h0
        have q1 : decide ((d : Int) ≤ 64) = false := by simp; omega
        clear hc hll h0
        go_wp2
        go_ret
        exact ⟨⟨d, rfl, hfin.out, hd⟩, HB2.out⟩
      · have q0 : decide (0 < ls.length) = false := by simpa using h0
        clear hc hll h0
        go_wp2
        go_ret
        exact ⟨⟨d, rfl, hfin.out, hd⟩, HB2.out⟩
end Go.Proofs.YthcoigdmammamaaGreatDoor
