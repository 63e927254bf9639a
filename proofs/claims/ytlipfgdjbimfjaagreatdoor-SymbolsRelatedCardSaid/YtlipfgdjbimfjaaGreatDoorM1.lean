/- A queue of ints; Ancestors of the reference; the law SymbolsRelated, walked. -/
import Derived.Test.YtlipfgdjbimfjaaGreatDoorL3
import Derived.Deep.AppendSrc
import Derived.Test.YtlipfgdjbimfjaaGreatDoorJ6
namespace Go.Proofs.YtlipfgdjbimfjaaGreatDoor
open Go.RowKit Go.Shelf Go.Sort
set_option maxRecDepth 100000

/-- A queue in memory. -/
def QL (w : World) (B g o n cap : Nat) (l : List Int) : Prop := n = l.length ∧ B ≤ g ∧ (∃ cur, w.heap[g]? = some (.cells cur 3 (0, 0)) ∧ o + cap ≤ cur.size ∧ ∀ j, j < l.length → cur[o + j]? = some (.int .i64 (l.getD j 0))) ∧ l.length ≤ cap ∧ cap ≤ maxLen
theorem QL.lt {w : World} {B g o n cap : Nat} {l : List Int} (h : QL w B g o n cap l) : g < w.heap.size := by
  obtain ⟨-, -, ⟨cur, h1, -⟩, -⟩ := h
  exact (Array.getElem?_eq_some_iff.1 h1).1
theorem QL.cell {w : World} {B g o n cap : Nat} {l : List Int} (h : QL w B g o n cap l) (j : Nat) (hj : j < l.length) : w.cell? ⟨g, o + j, none⟩ = some (.int .i64 (l.getD j 0)) := by
  obtain ⟨-, -, ⟨cur, h1, -, h3⟩, -⟩ := h
  exact (blk_cell h1 (o + j)).trans (h3 j hj)
theorem QL.keep {w w' : World} {B g o n cap : Nat} {l : List Int} (h : QL w B g o n cap l) (hk : w'.heap[g]? = w.heap[g]?) : QL w' B g o n cap l := by
  obtain ⟨h0, h1, ⟨cur, h2, h3⟩, h4⟩ := h
  exact ⟨h0, h1, ⟨cur, hk.trans h2, h3⟩, h4⟩
theorem QL.tail {w : World} {B g o n cap : Nat} {x : Int} {r : List Int} (h : QL w B g o n cap (x :: r)) (_hc : cap ≠ 1) : QL w B g (o + 1) r.length (cap - 1) r := by
  obtain ⟨h0, h1, ⟨cur, h2, h3, h4⟩, h5, h6⟩ := h
  rw [List.length_cons] at h5
  refine ⟨rfl, h1, ⟨cur, h2, by omega, fun j hj => ?_⟩, by omega, by omega⟩
  have h := h4 (j + 1) (by simpa using hj)
  rw [show o + 1 + j = o + (j + 1) by omega, h]
  rfl
theorem QL.tail1 {w : World} {B g o n : Nat} {x : Int} {r : List Int} (h : QL w B g o n 1 (x :: r)) : r = [] ∧ QL w B g o 0 0 [] := by
  obtain ⟨h0, h1, ⟨cur, h2, h3, h4⟩, h5, h6⟩ := h
  rw [List.length_cons] at h5
  exact ⟨List.eq_nil_of_length_eq_zero (by omega), rfl, h1, ⟨cur, h2, by omega, fun j hj => absurd hj (by simp)⟩, by simp, by simp [maxLen]⟩
theorem QL.one {w : World} {B : Nat} (x : Int) (hB : B ≤ w.heap.size) : QL (w.alloc (.cells #[.int .i64 x] 3)) B w.heap.size 0 1 1 [x] := by
  refine ⟨rfl, hB, ⟨_, heap_alloc_new w _, by simp, fun j hj => ?_⟩, by simp, by decide⟩
  obtain rfl : j = 0 := by simpa using hj
  rfl
/-- append of one int to a queue. -/
theorem run_append_queue {w : World} {B g o n cap : Nat} {l : List Int} {x : Int} {a : Nat} (ty : TypeId) (h : QL w B g o n cap l) (hx : w.cell? ⟨a, 0, none⟩ = some (.int .i64 x)) (hl : l.length ≤ 1000000) (hB : B ≤ w.heap.size) :
    ∃ g' o' cap' w', (Builtin.append_ #[32, 32] ty #[.slice (some ⟨g, o, none⟩) n cap, .slice (some ⟨a, 0, none⟩) 1 1]).run Tryz.prog w = .ok (.slice (some ⟨g', o', none⟩) (n + 1) cap') w' ∧ QL w' B g' o' (n + 1) cap' (l ++ [x]) ∧ w.grownBy w' (some g) ∧ (g' = g ∨ g' = w.heap.size) := by
  obtain ⟨i0, hi, iz0, iz1, iz2⟩ := info_parts info3
  have hQ := h
  obtain ⟨rfl, hgB, ⟨cur, hc, hsz, hel⟩, hle, hml⟩ := h
  have hglt := hQ.lt
  have src : Src Tryz.prog i0.size 32 (.slice (some ⟨a, 0, none⟩) 1 1) 1 [.int .i64 x] w := Src.ofSlice w Tryz.underlying32 ⟨a, 0, none⟩ 1 1 [.int .i64 x] (by rw [iz1]; rfl) (fun j u hu => by
    cases j with
    | zero =>
      have : u = .int .i64 x := by simpa using hu.symm
      subst this
      rw [addr_add]
      exact hx
    | succ j => simp at hu) (by intro u hu; simp at hu; subst hu; rfl)
  by_cases hroom : l.length + 1 ≤ cap
  · have r := run_append_room_src w 32 32 ty 3 i0 Tryz.underlying32 hi g o l.length cap _ 1 _ src hroom (fun j hj => by
      have hj0 : j = 0 := by simpa using hj
      rw [iz1, blk_cell hc]
      have : o + l.length * 1 + j < cur.size := by omega
      rw [Array.getElem?_eq_getElem this]; rfl) (fun j _ => by rw [iz1]; exact blk_free hc _)
    refine ⟨g, o, cap, _, r, ?_, ?_, .inl rfl⟩
    · rw [iz1]
      have hset : (w.setCells g (o + l.length * 1) [.int .i64 x]).heap[g]? = some (.cells (cur.setIfInBounds (o + l.length) (.int .i64 x)) 3 (0, 0)) := by
        have h := blk_set hc (o + l.length) (.int .i64 x)
        rw [Nat.mul_one]
        exact h
      refine ⟨by simp, hgB, ⟨_, hset, by simpa using hsz, fun j hj => ?_⟩, by simpa using hroom, hml⟩
      rw [Array.getElem?_setIfInBounds]
      by_cases hjl : j = l.length
      · rw [if_pos (by omega), if_pos (by omega), hjl]
        simp
      · rw [if_neg (by omega), hel j (by simp at hj; omega)]
        rw [List.getD_eq_getElem?_getD, List.getD_eq_getElem?_getD, List.getElem?_append_left (by simp at hj; omega)]
    · rw [iz1]
      show w.grownBy (w.setCell ⟨g, o + l.length * 1, none⟩ (.int .i64 x)) (some g)
      exact ⟨rfl, rfl, rfl, by simp, fun k _ hne => Below.heap_setCell _ _ _ _ (fun e => hne (by rw [e]))⟩
  · have hcl : cap = l.length := by omega
    have hold : (Builtin.firstCells i0.size l.length (.slice (some ⟨g, o, none⟩) l.length cap)).run Tryz.prog w.drew = .ok (l.map (Value.int .i64)).toArray w.drew :=
      run_firstCells_some w.drew i0.size l.length ⟨g, o, none⟩ l.length cap (l.map (Value.int .i64)) (by rw [iz1]; simp) (fun j v hv => by
        have hj : j < l.length := by simpa using (List.getElem?_eq_some_iff.1 hv).1
        rw [addr_add]
        have h := hQ.cell j hj
        rw [List.getElem?_map, List.getElem?_eq_getElem hj] at hv
        have e : v = .int .i64 (l.getD j 0) := by
          rw [List.getD_eq_getElem?_getD, List.getElem?_eq_getElem hj]
          exact (Option.some.inj hv).symm
        rw [e]
        exact h)
    have r := run_append_grow_src w 32 32 ty 3 i0 (.int .i64 0) Tryz.underlying32 hi iz0 (some ⟨g, o, none⟩) l.length cap _ hold _ 1 _ src (by omega) (by omega) (growslice_fits (by omega) (by rw [iz2]; omega))
    refine ⟨w.heap.size, 0, _, _, r, ?_, ?_, .inr rfl⟩
    · have hnew : (w.drew.alloc (.cells ((l.map (Value.int .i64) ++ [Value.int .i64 x]).toArray ++ Builtin.zeroCells (Value.int .i64 0).cells (grownCap w (l.length + 1) cap 3 - (l.length + 1))) 3)).heap[w.heap.size]? = some _ := heap_alloc_new w.drew _
      have hge := grownCap_ge w (l.length + 1) cap 3
      refine ⟨by simp, hB, ⟨_, hnew, ?_, fun j hj => ?_⟩, by simpa using hge, grownCap_le_maxLen _ _ _ _ (by unfold maxLen; omega)⟩
      · simp [Builtin.zeroCells, Value.cells]
        omega
      · rw [Array.getElem?_append_left (by simp at hj ⊢; omega), Nat.zero_add]
        have e : ((l ++ [x]).map (Value.int .i64))[j]? = some (.int .i64 ((l ++ [x]).getD j 0)) := by
          rw [List.getElem?_map, List.getElem?_eq_getElem hj, List.getD_eq_getElem?_getD, List.getElem?_eq_getElem hj]
          rfl
        rw [List.map_append] at e
        simpa using e
    · have h := grown_alloc (w := w) (r := some g) (.cells ((l.map (Value.int .i64) ++ [Value.int .i64 x]).toArray ++ Builtin.zeroCells (Value.int .i64 0).cells (grownCap w (l.length + 1) cap 3 - (l.length + 1))) 3)
      exact ⟨h.os, h.tape, h.output, h.size, h.block⟩
/-- An append, whatever it does. -/
theorem wpList_append_any {P : Program} {w : World} {ops : Array Oper} {rest : List Oper} {o : Oper} {a : Act} {Q : Exit → Act → World → Prop} (hgd : o.guard = none) (s x : Operand) (t : TypeId)
    (ho : o.op = .call { callee := .builtin .append, args := #[s, x], argTypes := #[t, t] })
    (v u : Value) (hs : a.eval s = v) (hx : a.eval x = u) (n : Nat) (F : Nat → Nat → Nat → World → Prop)
    (hr : ∃ g o' cap w', (Builtin.append_ #[t, t] o.type #[v, u]).run P w = .ok (.slice (some ⟨g, o', none⟩) n cap) w' ∧ F g o' cap w')
    (h : ∀ g o' cap w', F g o' cap w' → wpList P ops Q rest (a.put o.dst (.slice (some ⟨g, o', none⟩) n cap)) w') : wpList P ops Q (o :: rest) a w :=
  wpList_plain hgd fun _ hK => by
    obtain ⟨g, o', cap, w', hr, hF⟩ := hr
    unfold Oper.wp execOp
    simp only [ho, resolve, invoke, builtin, Sem.run_bind, Sem.run_pure, Result.andThen_ok, List.map_toArray, List.map_cons, List.map_nil, hs, hx, hr]
    exact hK _ _ (h g o' cap w' hF)
end Go.Proofs.YtlipfgdjbimfjaaGreatDoor
namespace Go.Proofs.YtlipfgdjbimfjaaGreatDoor
open Go.RowKit Go.Shelf Go.Sort
set_option maxRecDepth 100000

/-- What the search begins with. -/
def first0 (n : Nat) (pl : Nat → List (Int × Int)) (c : Int) : List Nat := if 0 ≤ c ∧ c < n then addP n [] (pl c.toNat) else []
/-- What it finds. -/
def ancA (n : Nat) (pl : Nat → List (Int × Int)) (c : Int) : List Nat := bfs n pl (n + 1) 0 (first0 n pl c)
theorem first0_fnd (n : Nat) (pl : Nat → List (Int × Int)) (c : Int) : Fnd n (first0 n pl c) := by
  unfold first0
  split
  · exact (Fnd.nil n).add _
  · exact Fnd.nil n
theorem ancA_fnd (n : Nat) (pl : Nat → List (Int × Int)) (c : Int) : Fnd n (ancA n pl c) := bfs_fnd n pl _ _ _ (first0_fnd n pl c)
theorem ancA_in {n : Nat} {pl : Nat → List (Int × Int)} {c : Nat} (h : c < n) : ancA n pl (c : Int) = ancL n pl c := by
  unfold ancA first0 ancL
  rw [if_pos (by omega)]
  rfl
theorem ancA_out {n : Nat} {pl : Nat → List (Int × Int)} {c : Int} (h : c < 0 ∨ (n : Int) ≤ c) : ancA n pl c = [] := by
  unfold ancA first0
  rw [if_neg (by omega), bfs, if_neg (by simp)]
/-- The search's state: how many were taken, what is found, the queue. -/
def AR (n : Nat) (pl : Nat → List (Int × Int)) (c : Int) (i : Nat) (l : List Nat) (qs : List Int) : Prop :=
  (i = 0 ∧ l = [] ∧ qs = [c]) ∨ ∃ j, i = j + 1 ∧ j ≤ l.length ∧ qs = ints (l.drop j) ∧ ancA n pl c = bfs n pl (n + 1 - j) j l
theorem AR.start (n : Nat) (pl : Nat → List (Int × Int)) (c : Int) : AR n pl c 0 [] [c] := .inl ⟨rfl, rfl, rfl⟩
theorem AR.out {n : Nat} {pl : Nat → List (Int × Int)} {c : Int} {i : Nat} {l : List Nat} {x : Int} {r : List Int} (h : AR n pl c i l (x :: r)) (hl : Fnd n l) (hx : x < 0 ∨ (n : Int) ≤ x) : AR n pl c (i + 1) l r := by
  rcases h with ⟨rfl, rfl, h⟩ | ⟨j, rfl, hj, h, hb⟩
  · injection h with h1 h2
    subst h1 h2
    exact .inr ⟨0, rfl, Nat.le_refl _, rfl, by rw [ancA_out hx, Nat.sub_zero, bfs, if_neg (by simp)]⟩
  · exfalso
    have hm : x ∈ ints (l.drop j) := by rw [← h]; exact List.mem_cons_self
    obtain ⟨k, hk, rfl⟩ := List.mem_map.1 hm
    have h1 := hl.lt k (List.mem_of_mem_drop hk)
    have h2 : (Int.ofNat k) = (k : Int) := rfl
    omega
theorem AR.next {n : Nat} {pl : Nat → List (Int × Int)} {c : Int} {i : Nat} {l : List Nat} {x : Nat} {r : List Int} (h : AR n pl c i l ((x : Int) :: r)) (hl : Fnd n l) (hx : x < n) : AR n pl c (i + 1) (addP n l (pl x)) (r ++ ints ((addP n l (pl x)).drop l.length)) := by
  rcases h with ⟨rfl, rfl, h⟩ | ⟨j, rfl, hj, h, hb⟩
  · injection h with h1 h2
    subst h1 h2
    exact .inr ⟨0, rfl, Nat.zero_le _, by simp, by unfold ancA first0; rw [if_pos (by omega), Nat.sub_zero]; rfl⟩
  · have hlt : j < l.length := by
      by_cases hlt : j < l.length
      · exact hlt
      · rw [List.drop_eq_nil_of_le (by omega)] at h; simp at h
    rw [List.drop_eq_getElem_cons hlt] at h
    injection h with h1 h2
    have hx2 : x = l[j] := by
      have h3 : (x : Int) = (l[j] : Int) := h1
      omega
    have hp := addP_pre n l (pl x)
    refine .inr ⟨j + 1, rfl, Nat.le_trans hlt hp.length_le, ?_, ?_⟩
    · obtain ⟨t, ht⟩ := hp
      rw [← ht, List.drop_append_of_le_length (Nat.le_refl _), List.drop_length, List.nil_append, List.drop_append_of_le_length (by omega)]
      have e : ints (l.drop (j + 1) ++ t) = ints (l.drop (j + 1)) ++ ints t := List.map_append
      rw [e, h2]
    · rw [hb, show n + 1 - j = (n + 1 - (j + 1)) + 1 by have := hl.len; omega, bfs, if_pos hlt, List.getD_eq_getElem?_getD, List.getElem?_eq_getElem hlt, hx2]
      rfl
theorem AR.done {n : Nat} {pl : Nat → List (Int × Int)} {c : Int} {i : Nat} {l : List Nat} (h : AR n pl c i l []) (hl : Fnd n l) : ancA n pl c = l := by
  rcases h with ⟨-, -, h⟩ | ⟨j, rfl, hj, h, hb⟩
  · cases h
  · have hge : l.length ≤ j := by
      by_cases hlt : j < l.length
      · rw [List.drop_eq_getElem_cons hlt] at h; cases h
      · omega
    rw [hb, show n + 1 - j = (n - j) + 1 by have := hl.len; omega, bfs, if_neg (by omega)]
theorem AR.few {n : Nat} {pl : Nat → List (Int × Int)} {c : Int} {i : Nat} {l : List Nat} {x : Int} {r : List Int} (h : AR n pl c i l (x :: r)) (hl : Fnd n l) : i ≤ n ∧ r.length ≤ n := by
  rcases h with ⟨rfl, rfl, h⟩ | ⟨j, rfl, hj, h, hb⟩
  · injection h with h1 h2
    subst h2
    simp
  · have h1 := congrArg List.length h
    simp at h1
    have := hl.len
    omega
/-- The found ones in order. -/
def inOrd (n : Nat) (l : List Nat) : List Int := ints ((List.range n).filter fun i => decide (i ∈ l))
theorem inOrd_len (n : Nat) (l : List Nat) : (inOrd n l).length ≤ n := by
  unfold inOrd
  rw [List.length_map]
  exact Nat.le_trans (List.length_filter_le _ _) (by simp)
theorem inOrd_yes {l : List Nat} {k : Nat} (h : (ints l).contains (k : Int) = true) : inOrd (k + 1) l = inOrd k l ++ [(k : Int)] := by
  have hm : k ∈ l := by
    rw [List.contains_iff_mem] at h
    obtain ⟨j, hj, e⟩ := List.mem_map.1 h
    have e2 : (j : Int) = (k : Int) := e
    have : j = k := by omega
    rw [← this]; exact hj
  unfold inOrd
  rw [List.range_succ, List.filter_append]
  simp [hm, ints]
theorem inOrd_no {l : List Nat} {k : Nat} (h : (ints l).contains (k : Int) = false) : inOrd (k + 1) l = inOrd k l := by
  have hm : k ∉ l := by
    intro hk
    rw [← Bool.not_eq_true, List.contains_iff_mem] at h
    exact h (List.mem_map.2 ⟨k, hk, rfl⟩)
  unfold inOrd
  rw [List.range_succ, List.filter_append]
  simp [hm, ints]
/-- Sorting what was found is taking it in order. -/
theorem srt_inOrd {n : Nat} {l : List Nat} (h : Fnd n l) : srt (ints l) = inOrd n l := by
  have hle : ∀ a b c : Int, decide (a ≤ b) = true → decide (b ≤ c) = true → decide (a ≤ c) = true := by
    intro a b c h1 h2
    simp at h1 h2 ⊢
    omega
  have htot : ∀ a b : Int, (decide (a ≤ b) || decide (b ≤ a)) = true := by
    intro a b
    simp
    omega
  have s1 : List.Pairwise (fun a b : Int => decide (a ≤ b) = true) (srt (ints l)) := List.pairwise_mergeSort hle htot _
  have s2 : List.Pairwise (fun a b : Int => decide (a ≤ b) = true) (inOrd n l) := by
    unfold inOrd ints
    rw [List.pairwise_map]
    refine List.Pairwise.filter _ ?_
    refine List.Pairwise.imp ?_ (List.pairwise_lt_range (n := n))
    intro a b hab
    simp
    omega
  have hp : (srt (ints l)).Perm (inOrd n l) := by
    refine (List.mergeSort_perm _ _).trans ?_
    unfold inOrd ints
    refine List.Perm.map _ ?_
    refine (List.perm_ext_iff_of_nodup h.nd (List.Pairwise.filter _ List.nodup_range)).2 fun a => ?_
    rw [List.mem_filter, List.mem_range, decide_eq_true_eq]
    exact ⟨fun ha => ⟨h.lt a ha, ha⟩, fun ha => ha.2⟩
  refine List.Perm.eq_of_pairwise (le := fun a b : Int => decide (a ≤ b) = true) ?_ s1 s2 hp
  intro a b _ _ h1 h2
  simp at h1 h2
  omega
theorem own_grown {w w' : World} {B g : Nat} {e : TypeId} {s : Nat} {v : Value} {n : Nat} {xs : List Value} (h : w.ownsRow B e s v n xs) (hg : w.grownBy w' (some g)) (hne : v.ownBlock ≠ some g) : w'.ownsRow B e s v n xs := by
  refine ⟨h.1, ?_⟩
  rcases h.2 with h | ⟨k, cap, cur, hv, hk, hh, rest⟩
  · exact .inl h
  · refine .inr ⟨k, cap, cur, hv, hk, (hg.block k (Array.getElem?_eq_some_iff.1 hh).1 (fun e => hne ?_)).trans hh, rest⟩
    rw [hv]
    exact e
end Go.Proofs.YtlipfgdjbimfjaaGreatDoor
namespace Go.Proofs.YtlipfgdjbimfjaaGreatDoor
open Go.RowKit Go.Shelf Go.Sort
set_option maxRecDepth 100000

set_option maxHeartbeats 8000000 in
theorem refAncestors_any (ca : Option Addr) (cb co n cap0 : Nat) (c : Int) (pl : Nat → List (Int × Int)) (v1 v2 v3 v4 v5 : Value) (w : World) (hn : n ≤ 100000) (hca : 0 < n → ca = some ⟨cb, co, none⟩) (hcb : 0 < n → cb < w.heap.size) (hP : Pars w w.heap.size cb co n pl) :
    Calls Tryz.prog 20 #[.agg #[.slice ca n cap0, v1, v2, v3, v4, v5], .int .i64 c] w (RetI w (inOrd n (ancA n pl c))) := by
  obtain ⟨i0, hi, iz0, iz1, iz2⟩ := info_parts info3
  obtain ⟨w1, hw1⟩ : ∃ w1, w.alloc (.cells #[.slice ca n cap0, v1, v2, v3, v4, v5] 28) = w1 := ⟨_, rfl⟩
  have z1 : w1.heap.size = w.heap.size + 1 := by rw [← hw1]; exact World.size_alloc _ _
  obtain ⟨w2, hw2⟩ : ∃ w2, w1.alloc (.cells #[] 3) = w2 := ⟨_, rfl⟩
  have z2 : w2.heap.size = w1.heap.size + 1 := by rw [← hw2]; exact World.size_alloc _ _
  obtain ⟨w3, hw3⟩ : ∃ w3, w2.alloc (.cells #[.int .i64 c] 3) = w3 := ⟨_, rfl⟩
  have hb1 : Below w.heap.size w w1 := by rw [← hw1]; exact (Below.refl _ _).alloc (Nat.le_refl _) _
  have hb12 : Below w1.heap.size w1 w2 := by rw [← hw2]; exact (Below.refl _ _).alloc (Nat.le_refl _) _
  have hb13 : Below w1.heap.size w1 w3 := by rw [← hw3]; exact hb12.alloc hb12.size _
  have x1 : w1.heap[w.heap.size]? = some (.cells #[.slice ca n cap0, v1, v2, v3, v4, v5] 28 (0, 0)) := by rw [← hw1]; exact heap_alloc_new w _
  have hO2 : OwnI w2 w1.heap.size (.slice (some ⟨w1.heap.size, 0, none⟩) 0 0) (ints []) := by
    rw [← hw2]
    exact ⟨rfl, .inr ⟨w1.heap.size, 0, #[], rfl, Nat.le_refl _, heap_alloc_new w1 _, Nat.le_refl _, by decide, rfl, rfl⟩⟩
  have hO3 : OwnI w3 w1.heap.size (.slice (some ⟨w1.heap.size, 0, none⟩) 0 0) (ints []) := by rw [← hw3]; exact hO2.alloc _
  have hQ3 : QL w3 w1.heap.size w2.heap.size 0 1 1 [c] := by rw [← hw3]; exact QL.one c (by omega)
  obtain ⟨B, hB⟩ : ∃ B, B = w.heap.size := ⟨_, rfl⟩
  rw [← hB] at x1 z1
  have HP := Lib.hid hP
  have HW1 := Lib.hid hw1
  have HW2 := Lib.hid hw2
  have HW3 := Lib.hid hw3
  have HB1 := Lib.hid hb1
  have HB13 := Lib.hid hb13
  have HZ1 := Lib.hid z1
  have HZ2 := Lib.hid z2
  have HBE := Lib.hid hB
  have X1 := Lib.hid x1
  have HO3 := Lib.hid hO3
  have HQ3 := Lib.hid hQ3
  have HCB := Lib.hid hcb
  have HCA := Lib.hid hca
  have HAS := Lib.hid (AR.start n pl c)
  obtain ⟨LL, hLL⟩ : ∃ LL, LL = ancA n pl c := ⟨_, rfl⟩
  rw [← hLL]
  have HLL := Lib.hid hLL
  clear hw1 hw2 hw3 hb1 hb12 hb13 x1 hP hcb hca z1 z2 hB hO2 hO3 hQ3 hLL
  go_enter Tryz.func20, Tryz.ntmps20
  go_upto_region 1 with fail
  rw [HW1.out, ← HBE.out]
  go_upto_region 2 with fail
  rw [HW2.out]
  go_upto_region 3 with fail
  rw [HW3.out]
  go_wp2
  go_loopg [5, 6] (n + 3) (fun gg vf vq wr => ∃ (i : Nat) (l : List Nat) (qs : List Int) (g o nq cap : Nat), i ≤ n + 1 ∧ n + 2 - i < gg ∧ vq = .slice (some ⟨g, o, none⟩) nq cap ∧ Hid (AR n pl c i l qs) ∧ Hid (Fnd n l) ∧ Hid (OwnI wr w1.heap.size vf (ints l)) ∧ Hid (QL wr w1.heap.size g o nq cap qs) ∧ Hid (vf.ownBlock ≠ some g) ∧ Hid (Below w1.heap.size w1 wr))
  case atStart => exact ⟨0, [], [c], w2.heap.size, 0, 1, 1, by omega, by omega, rfl, HAS, Lib.hid (Fnd.nil n), HO3, HQ3, Lib.hid (fun e => by have e2 : some w1.heap.size = some w2.heap.size := e; injection e2 with e2; have := HZ2.out; omega), HB13⟩
  case round =>
    obtain ⟨i, l, qs, g, o, nq, cap, hin1, hgk, rfl, HA, HF, HO, HQ, HNE, HB⟩ := hrel
    obtain ⟨m, rfl⟩ : ∃ m, gk = m + 1 := ⟨gk - 1, by omega⟩
    have p0 := blk_cell ((HB.out.block B (by have := HZ1.out; omega)).trans X1.out) 0
    cases qs with
    | nil =>
      obtain rfl : nq = 0 := HQ.out.1
      have HE : Hid (LL = l) := Lib.hid (by rw [HLL.out]; exact HA.out.done HF.out)
      obtain ⟨w5, hw5⟩ : ∃ w5, wr.alloc (.cells #[] 3) = w5 := ⟨_, rfl⟩
      have hb5 : Below wr.heap.size wr w5 := by rw [← hw5]; exact (Below.refl _ _).alloc (Nat.le_refl _) _
      have hO5 : OwnI w5 wr.heap.size (.slice (some ⟨wr.heap.size, 0, none⟩) 0 0) (inOrd 0 l) := by
        rw [← hw5]
        exact ⟨rfl, .inr ⟨wr.heap.size, 0, #[], rfl, Nat.le_refl _, heap_alloc_new wr _, Nat.le_refl _, by decide, rfl, rfl⟩⟩
      have HW5 := Lib.hid hw5
      have HO5 := Lib.hid hO5
      have HB5 := Lib.hid hb5
      have hfl := HF.out.len
      obtain ⟨wf, hwf⟩ : ∃ wf, wf = wr := ⟨_, rfl⟩
      have HWF := Lib.hid hwf
      have HOF : Hid (OwnI wf w1.heap.size u5 (ints l)) := Lib.hid (by rw [hwf]; exact HO.out)
      have HBF : Hid (Below w1.heap.size w1 wf) := Lib.hid (by rw [hwf]; exact HB.out)
      have HB5' : Hid (Below wf.heap.size wf w5) := Lib.hid (by rw [hwf]; exact hb5)
      have HO5' : Hid (OwnI w5 wf.heap.size (.slice (some ⟨wr.heap.size, 0, none⟩) 0 0) (inOrd 0 l)) := Lib.hid (by rw [hwf]; exact hO5)
      clear hw5 hb5 hO5 hwf HO HB HQ HNE HA HO5 HB5
      go_upto_region 15 with fail
      rw [HW5.out]
      clear p0
      obtain ⟨a5, c5, h5⟩ := own_shape HOF.out
      obtain rfl : u5 = .slice a5 l.length c5 := by rw [h5, List.length_map]
      clear h5
      go_wp2
      go_loopg [10, 11] (n + 1) (fun g v y wq => ∃ k : Nat, k ≤ n ∧ n - k < g ∧ y = .int .i64 k ∧ Hid (OwnI wq wf.heap.size v (inOrd k l)) ∧ Hid (Below wf.heap.size wf wq))
      case atStart => exact ⟨0, by omega, by omega, rfl, HO5', HB5'⟩
      case round =>
        obtain ⟨k, hk, hgk, rfl, HO, HB⟩ := hrel
        obtain ⟨m3, rfl⟩ : ∃ m3, gk = m3 + 1 := ⟨gk - 1, by omega⟩
        have p0 := blk_cell ((HB.out.block B (by have := HZ1.out; have := HBF.out.size; omega)).trans ((HBF.out.block B (by have := HZ1.out; omega)).trans X1.out)) 0
        by_cases hlt : k < n
        · have cM := among_own (k : Int) (own_bel HOF.out HB.out) (by rw [List.length_map]; omega)
          obtain ⟨cb', hcb'⟩ : ∃ b, (ints l).contains (k : Int) = b := ⟨_, rfl⟩
          rw [hcb'] at cM
          have HCM := Lib.hid cM
          have HLN := Lib.hid (inOrd_len k l)
          obtain ⟨L, hL⟩ : ∃ L, inOrd k l = L := ⟨_, rfl⟩
          rw [hL] at HO HLN
          clear cM
          go_wp2_with fail
          refine HCM.out.mono ?_; rintro e w' ⟨rfl, rfl⟩
          clear HCM p0
          cases cb' with
          | true =>
            have HY : Hid (inOrd (k + 1) l = L ++ [(k : Int)]) := Lib.hid (by rw [inOrd_yes hcb', hL])
            have hln := HLN.out
            clear hL hcb'
            go_wp2_with (at_builtin; refine wpList_append_lies _ rfl _ _ 32 rfl wf.heap.size 3 i0 (.int .i64 0) 1 8 Tryz.underlying32 hi iz0 iz1 iz2 rfl (by decide) _ L.length (L.map (Value.int .i64)) rfl (HO.out.alloc _) ⟨wr.heap.size, 0, none⟩ 1 1 [.int .i64 k] rfl rfl (cell_one_new _ _ _) (by intro u hu; simp at hu; subst hu; rfl) (by decide) (by unfold maxLen; omega) (by omega) (by have := HB.out.size; simp; omega) (wr.heap.size + 1) (by simp) ?_; intro gg cap' w4 hown' hgrow hat hltg; have HG := Lib.hid (And.intro hown' hgrow); clear hown' hgrow hat hltg)
            go_roundg m3
            case measure => omega
            case rel =>
              have hba : Below wf.heap.size wf (wr.alloc (.cells #[.int .i64 k] 3)) := HB.out.alloc HB.out.size _
              have hlt2 := fun j hj => ((HO.out.alloc (.cells #[.int .i64 k] 3)).lt j hj).1
              refine ⟨k + 1, by omega, by omega, by go_num, ?_, Lib.hid (hba.grown HG.out.2 (by have := HB.out.size; simp; omega) (fun j hj => hlt2 j hj))⟩
              refine Lib.hid ?_
              show World.ownsRow _ _ _ _ _ _ _
              rw [HY.out, List.length_append, List.length_singleton, List.map_append]
              exact HG.out.1
          | false =>
            have HY : Hid (inOrd (k + 1) l = L) := Lib.hid (by rw [inOrd_no hcb', hL])
            clear hL hcb'
            go_wp2
            go_roundg m3
            case measure => omega
            case rel => exact ⟨k + 1, by omega, by omega, by go_num, Lib.hid (by rw [HY.out]; exact HO.out), HB⟩
        · have hke : k = n := by omega
          have HR : Hid (OwnI wr wf.heap.size u10 (inOrd n LL)) := Lib.hid (by rw [HE.out, ← hke]; exact HO.out)
          clear hke HO
          go_wp2
          go_ret
          exact ⟨_, rfl, owns_mono HR.out (Nat.le_trans HB1.out.size HBF.out.size), HB1.out.trans ((HBF.out.trans (HB.out.mono HBF.out.size)).mono HB1.out.size)⟩
    | cons x r =>
      obtain rfl : nq = r.length + 1 := HQ.out.1
      have HFW := Lib.hid (HA.out.few HF.out)
      have q0 := HQ.out.cell 0 (by simp)
      rw [Nat.add_zero] at q0
      have q0 : wr.cell? ⟨g, o, none⟩ = some (.int .i64 x) := q0
      have hcl : r.length + 1 ≤ cap := by have := HQ.out.2.2.2.1; simpa using this
      by_cases hc1 : cap = 1
      · subst hc1
        obtain ⟨rfl, hq'⟩ := HQ.out.tail1
        have HQ' := Lib.hid hq'
        clear hq' hcl
        go_upto_region 6 with fail
        clear q0
        by_cases hin : 0 ≤ x ∧ x < n
        · obtain ⟨h0, h1⟩ := hin
          obtain ⟨xn, rfl⟩ : ∃ xn : Nat, x = xn := ⟨x.toNat, by omega⟩
          have hxn : xn < n := by omega
          have hn0 : 0 < n := by omega
          have hcae := HCA.out hn0
          subst hcae
          go_upto_region 7 with (go_at_call 40; refine (refIn_yes _ h0 h1).mono ?_; rintro e w' ⟨rfl, rfl⟩)
          clear p0
          go_wp2
          go_loopg [5, 6, 8] ((pl xn).length + 1) (fun gg vf vq y wr => ∃ (j g o nq cap : Nat), j ≤ (pl xn).length ∧ (pl xn).length - j < gg ∧ y = .int .i64 j ∧ vq = .slice (some ⟨g, o, none⟩) nq cap ∧ Hid (OwnI wr w1.heap.size vf (ints (addP n l ((pl xn).take j)))) ∧ Hid (QL wr w1.heap.size g o nq cap (([] : List Int) ++ ints ((addP n l ((pl xn).take j)).drop l.length))) ∧ Hid (vf.ownBlock ≠ some g) ∧ Hid (Below w1.heap.size w1 wr))
          case atStart => exact ⟨0, g, o, 0, 0, by omega, by omega, rfl, rfl, Lib.hid (by simpa [addP] using HO.out), Lib.hid (by simpa [addP] using HQ'.out), HNE, HB⟩
          case round =>
            clear HO HQ HQ' HNE HB
            obtain ⟨j, g, o, nq, cap, hj, hgj, rfl, rfl, HO, HQ, HNE, HB⟩ := hrel
            obtain ⟨m2, rfl⟩ : ∃ m2, gk = m2 + 1 := ⟨gk - 1, by omega⟩
            have p0 := blk_cell ((HB.out.block B (by have := HZ1.out; omega)).trans X1.out) 0
            have hbw := HB1.out.trans (HB.out.mono HB1.out.size)
            obtain ⟨v, hv, hT⟩ := HP.out.bel hbw (Nat.le_refl _) (HCB.out hn0) xn hxn
            obtain ⟨ta, tc, rfl, hlen, hr⟩ := hT
            clear hbw
            have HFM := Lib.hid (HF.out.add ((pl xn).take j))
            have HPRE := Lib.hid ((addP_pre n l ((pl xn).take j)).length_le)
            by_cases hjl : j < (pl xn).length
            · obtain ⟨bt, ot, rfl, hbt, hel⟩ := hr (by intro h; rw [h] at hjl; simp at hjl)
              obtain ⟨x2, x3, a4, n4, c4, q0, q1, q2, q3, q4⟩ := hel j hjl
              obtain ⟨p, hp⟩ : ∃ p, (pl xn).getD j (0, 0) = p := ⟨_, rfl⟩
              have HTK : Hid (addP n l ((pl xn).take (j + 1)) = stepP n (addP n l ((pl xn).take j)) p) := Lib.hid (by rw [addP_take n l _ _ hjl, hp])
              rw [hp] at q0 q1
              obtain ⟨kd, sy⟩ := p
              simp only at q0 q1
              obtain ⟨M, hM⟩ : ∃ M, addP n l ((pl xn).take j) = M := ⟨_, rfl⟩
              rw [hM] at HO HQ HTK HFM HPRE
              obtain ⟨W4, hW4⟩ : ∃ W4, wr.alloc (.cells #[.int .i64 kd, .int .i64 sy, .string x2, .int .i64 x3, .slice a4 n4 c4] 58) = W4 := ⟨_, rfl⟩
              have z4 : W4.heap.size = wr.heap.size + 1 := by rw [← hW4]; exact World.size_alloc _ _
              have hR4 : W4.heap[wr.heap.size]? = some (.cells #[.int .i64 kd, .int .i64 sy, .string x2, .int .i64 x3, .slice a4 n4 c4] 58 (0, 0)) := by rw [← hW4]; exact heap_alloc_new wr _
              have hb4 : Below wr.heap.size wr W4 := by rw [← hW4]; exact (Below.refl _ _).alloc (Nat.le_refl _) _
              have HB4 : Hid (Below w1.heap.size w1 W4) := Lib.hid (HB.out.trans (hb4.mono HB.out.size))
              have HO4 : Hid (OwnI W4 w1.heap.size u5 (ints M)) := Lib.hid (own_bel HO.out hb4)
              have HQ4 : Hid (QL W4 w1.heap.size g o nq cap (([] : List Int) ++ ints (M.drop l.length))) := Lib.hid (HQ.out.keep (hb4.block g HQ.out.lt))
              have HGL := Lib.hid HQ.out.lt
              have HOL := Lib.hid HO.out.lt
              have HZ4 := Lib.hid z4
              have HW4 := Lib.hid hW4
              have HR4 := Lib.hid hR4
              have p4 := blk_cell ((HB4.out.block B (by have := HZ1.out; omega)).trans X1.out) 0
              have hml := HFM.out.len
              clear hW4 hR4 hb4 z4 hel hr hp hbt HO HQ HB hM
              go_upto_region 11 with fail
              rw [HW4.out]
              clear q0 q1 q2 q3 q4 p0 hv
              have r0 := blk_cell HR4.out 0
              have r1 := blk_cell HR4.out 1
              by_cases hk10 : kd = 10
              · subst hk10
                by_cases hsy : 0 ≤ sy ∧ sy < n
                · obtain ⟨s0, s1⟩ := hsy
                  obtain ⟨s, rfl⟩ : ∃ s : Nat, sy = s := ⟨sy.toNat, by omega⟩
                  have cM := among_own (s : Int) HO4.out (by rw [List.length_map]; omega)
                  obtain ⟨cb', hcb'⟩ : ∃ b, (ints M).contains (s : Int) = b := ⟨_, rfl⟩
                  rw [hcb'] at cM
                  have HCM := Lib.hid cM
                  clear cM
                  go_wp2_with fail
                  refine (refIn_yes _ s0 s1).mono ?_; rintro e w' ⟨rfl, rfl⟩
                  go_wp2_with fail
                  refine HCM.out.mono ?_; rintro e w' ⟨rfl, rfl⟩
                  clear HCM
                  cases cb' with
                  | true =>
                    have hsm : s ∈ M := by
                      rw [List.contains_iff_mem] at hcb'
                      obtain ⟨k, hk, e⟩ := List.mem_map.1 hcb'
                      have e2 : (k : Int) = (s : Int) := e
                      have e3 : k = s := by omega
                      rw [← e3]; exact hk
                    have HY : Hid (addP n l ((pl xn).take (j + 1)) = M) := Lib.hid (by rw [HTK.out, stepP_old hsm])
                    clear hcb' hsm
                    go_wp2
                    go_roundg m2
                    case measure => omega
                    case rel => exact ⟨j + 1, g, o, nq, cap, by omega, by omega, by go_num, rfl, Lib.hid (by rw [HY.out]; exact HO4.out), Lib.hid (by rw [HY.out]; exact HQ4.out), HNE, HB4⟩
                  | false =>
                    have hsm : s ∉ M := by
                      intro hs
                      rw [← Bool.not_eq_true, List.contains_iff_mem] at hcb'
                      exact hcb' (List.mem_map.2 ⟨s, hs, rfl⟩)
                    have HY : Hid (addP n l ((pl xn).take (j + 1)) = M ++ [s]) := Lib.hid (by
                      rw [HTK.out, stepP_new rfl s0 s1 (by show ((s : Int)).toNat ∉ M; rw [Int.toNat_natCast]; exact hsm)]
                      show M ++ [((s : Int)).toNat] = _
                      rw [Int.toNat_natCast])
                    have HYI : Hid (ints (M ++ [s]) = ints M ++ [(s : Int)]) := Lib.hid List.map_append
                    have HYD : Hid (ints ((M ++ [s]).drop l.length) = ints (M.drop l.length) ++ [(s : Int)]) := Lib.hid (by rw [List.drop_append_of_le_length HPRE.out]; exact List.map_append)
                    have HLI : Hid ((ints M).length ≤ 100000) := Lib.hid (by rw [List.length_map]; omega)
                    have hli := HLI.out
                    have HLQ : Hid ((([] : List Int) ++ ints (M.drop l.length)).length ≤ 1000000) := Lib.hid (by
                      have := HFW.out.2
                      simp only [List.length_append, List.length_map, List.length_drop, List.length_nil] at *
                      omega)
                    clear hcb' hsm
                    go_upto_region 13 with (first
                      | (at_builtin; refine wpList_append_lies _ rfl _ _ 32 rfl w1.heap.size 3 i0 (.int .i64 0) 1 8 Tryz.underlying32 hi iz0 iz1 iz2 rfl (by decide) u5 (ints M).length ((ints M).map (Value.int .i64)) rfl (HO4.out.alloc _) ⟨W4.heap.size, 0, none⟩ 1 1 [.int .i64 s] rfl rfl (cell_one_new _ _ _) (by intro u hu; simp at hu; subst hu; rfl) (by decide) (by unfold maxLen; omega) (by omega) (by have := HB4.out.size; simp; omega) (W4.heap.size + 1) (by simp) ?_; intro gg cap' w6 hown' hgrow hat hltg; have HG := Lib.hid (And.intro hown' (And.intro hgrow (And.intro hat hltg))); clear hown' hgrow hat hltg))
                    have hb5 : Below W4.heap.size W4 (W4.alloc (.cells #[.int .i64 s] 3)) := (Below.refl _ _).alloc (Nat.le_refl _) _
                    have h46 : ∀ k, k < W4.heap.size → u5.ownBlock ≠ some k → w6.heap[k]? = W4.heap[k]? := fun k hk hne => (HG.out.2.1.block k (by simp; omega) (fun e => hne e.symm)).trans (hb5.block k hk)
                    have HR6 : Hid (w6.heap[wr.heap.size]? = some (.cells #[.int .i64 10, .int .i64 s, .string x2, .int .i64 x3, .slice a4 n4 c4] 58 (0, 0))) := Lib.hid ((h46 _ (by have := HZ4.out; omega) (fun e => by have := (HOL.out _ e).2; omega)).trans HR4.out)
                    have HQ6 : Hid (QL w6 w1.heap.size g o nq cap (([] : List Int) ++ ints (M.drop l.length))) := Lib.hid (HQ4.out.keep (h46 g HQ4.out.lt HNE.out))
                    have HB6 : Hid (Below w1.heap.size w1 w6) := Lib.hid ((HB4.out.trans (hb5.mono HB4.out.size)).grown HG.out.2.1 (by have := HB4.out.size; simp; omega) (fun k hk => (HOL.out k hk).1))
                    have HGN : Hid (g ≠ gg ∧ g < w6.heap.size) := Lib.hid (by
                      refine ⟨fun e => ?_, HQ6.out.lt⟩
                      rcases HG.out.2.2.1 with h | h
                      · exact HNE.out (by rw [e]; exact h)
                      · have := HGL.out; have := HZ4.out; omega)
                    have HO6 : Hid (OwnI w6 w1.heap.size (.slice (some ⟨gg, 0, none⟩) (M.length + 1) cap') (ints (M ++ [s]))) := Lib.hid (by
                      have el : (ints M).length = M.length := List.length_map _
                      have h := HG.out.1
                      rw [HYI.out]
                      show World.ownsRow _ _ _ _ _ _ _
                      rw [List.length_append, List.length_singleton, List.map_append]
                      rw [el] at h ⊢
                      exact h)
                    have HGG := Lib.hid HG.out.2.2.2
                    clear hb5 h46 HG r0 r1 p4 HO4 HQ4
                    have r1 := blk_cell HR6.out 1
                    go_wp2_with (at_builtin; refine wpList_append_any rfl _ _ 32 rfl (.slice (some ⟨g, o, none⟩) nq cap) (.slice (some ⟨w6.heap.size, 0, none⟩) 1 1) rfl rfl (nq + 1) (fun gx ox cx wx => QL wx w1.heap.size gx ox (nq + 1) cx ((([] : List Int) ++ ints (M.drop l.length)) ++ [(s : Int)]) ∧ (w6.alloc (.cells #[.int .i64 s] 3)).grownBy wx (some g) ∧ (gx = g ∨ gx = (w6.alloc (.cells #[.int .i64 s] 3)).heap.size)) (run_append_queue _ (HQ6.out.keep (((Below.refl _ w6).alloc (Nat.le_refl _) _).block g HQ6.out.lt)) (blk_cell (heap_alloc_new w6 (.cells #[.int .i64 s] 3)) 0) HLQ.out (by have := HB6.out.size; simp; omega)) ?_; intro gx ox cx wx hF; have HFX := Lib.hid hF; clear hF)
                    go_roundg m2
                    case measure => omega
                    case rel =>
                      have hb7 : Below w6.heap.size w6 (w6.alloc (.cells #[.int .i64 s] 3)) := (Below.refl _ _).alloc (Nat.le_refl _) _
                      refine ⟨j + 1, gx, ox, nq + 1, cx, by omega, by omega, by go_num, rfl, Lib.hid (by rw [HY.out]; exact own_grown (own_bel HO6.out hb7) HFX.out.2.1 (fun e => by have e2 : some gg = some g := e; injection e2 with e2; exact HGN.out.1 e2.symm)), Lib.hid (by rw [HY.out, HYD.out, ← List.append_assoc]; exact HFX.out.1), Lib.hid (fun e => ?_), Lib.hid ((HB6.out.trans (hb7.mono HB6.out.size)).grown HFX.out.2.1 (by have := HB6.out.size; simp; omega) (fun k hk => by injection hk with hk; rw [← hk]; exact HQ6.out.2.1))⟩
                      have e2 : some gg = some gx := e
                      injection e2 with e2
                      rcases HFX.out.2.2 with h | h
                      · exact HGN.out.1 (by rw [← h, ← e2])
                      · have h3 := HGG.out
                        rw [World.size_alloc] at h
                        omega
                · have hout : sy < 0 ∨ (n : Int) ≤ sy := by omega
                  have HOUT := Lib.hid hout
                  have HY : Hid (addP n l ((pl xn).take (j + 1)) = M) := Lib.hid (by rw [HTK.out, stepP_out hout])
                  clear hsy hout
                  go_wp2_with (go_at_call 40; refine (refIn_no _ HOUT.out).mono ?_; rintro e w' ⟨rfl, rfl⟩)
                  go_roundg m2
                  case measure => omega
                  case rel => exact ⟨j + 1, g, o, nq, cap, by omega, by omega, by go_num, rfl, Lib.hid (by rw [HY.out]; exact HO4.out), Lib.hid (by rw [HY.out]; exact HQ4.out), HNE, HB4⟩
              · have HY : Hid (addP n l ((pl xn).take (j + 1)) = M) := Lib.hid (by rw [HTK.out, stepP_kind hk10])
                have hb10 : (kd == 10) = false := by simpa using hk10
                go_wp2
                go_roundg m2
                case measure => omega
                case rel => exact ⟨j + 1, g, o, nq, cap, by omega, by omega, by go_num, rfl, Lib.hid (by rw [HY.out]; exact HO4.out), Lib.hid (by rw [HY.out]; exact HQ4.out), HNE, HB4⟩
            · have hje : j = (pl xn).length := by omega
              have HO' : Hid (OwnI wr w1.heap.size u5 (ints (addP n l (pl xn)))) := Lib.hid (by have h := HO.out; rw [hje, List.take_length] at h; exact h)
              have HQ' : Hid (QL wr w1.heap.size g o nq cap (([] : List Int) ++ ints ((addP n l (pl xn)).drop l.length))) := Lib.hid (by have h := HQ.out; rw [hje, List.take_length] at h; exact h)
              clear hje HO HQ hr
              go_wp2
              go_roundg m
              case measure => have := HFW.out.1; omega
              case rel => exact ⟨i + 1, addP n l (pl xn), ([] : List Int) ++ ints ((addP n l (pl xn)).drop l.length), g, o, nq, cap, by have := HFW.out.1; omega, by have := HFW.out.1; omega, rfl, Lib.hid (HA.out.next HF.out hxn), Lib.hid (HF.out.add _), HO', HQ', HNE, HB⟩
        · have hout : x < 0 ∨ (n : Int) ≤ x := by omega
          have HOUT := Lib.hid hout
          clear hin hout
          go_wp2_with (go_at_call 40; refine (refIn_no _ HOUT.out).mono ?_; rintro e w' ⟨rfl, rfl⟩)
          go_roundg m
          case measure => have := HFW.out.1; omega
          case rel => exact ⟨i + 1, l, ([] : List Int), g, o, 0, 0, by have := HFW.out.1; omega, by have := HFW.out.1; omega, rfl, Lib.hid (HA.out.out HF.out HOUT.out), HF, HO, HQ', HNE, HB⟩
      · have HQ' := Lib.hid (HQ.out.tail hc1)
        have hcl2 : 1 < cap := by omega
        have hcl3 : 1 ≤ cap := by omega
        go_upto_region 6 with fail
        clear q0 hcl2 hcl3 hcl
        by_cases hin : 0 ≤ x ∧ x < n
        · obtain ⟨h0, h1⟩ := hin
          obtain ⟨xn, rfl⟩ : ∃ xn : Nat, x = xn := ⟨x.toNat, by omega⟩
          have hxn : xn < n := by omega
          have hn0 : 0 < n := by omega
          have hcae := HCA.out hn0
          subst hcae
          go_upto_region 7 with (go_at_call 40; refine (refIn_yes _ h0 h1).mono ?_; rintro e w' ⟨rfl, rfl⟩)
          clear p0
          go_wp2
          go_loopg [5, 6, 8] ((pl xn).length + 1) (fun gg vf vq y wr => ∃ (j g o nq cap : Nat), j ≤ (pl xn).length ∧ (pl xn).length - j < gg ∧ y = .int .i64 j ∧ vq = .slice (some ⟨g, o, none⟩) nq cap ∧ Hid (OwnI wr w1.heap.size vf (ints (addP n l ((pl xn).take j)))) ∧ Hid (QL wr w1.heap.size g o nq cap (r ++ ints ((addP n l ((pl xn).take j)).drop l.length))) ∧ Hid (vf.ownBlock ≠ some g) ∧ Hid (Below w1.heap.size w1 wr))
          case atStart => exact ⟨0, g, (o + 1), r.length, (cap - 1), by omega, by omega, rfl, rfl, Lib.hid (by simpa [addP] using HO.out), Lib.hid (by simpa [addP] using HQ'.out), HNE, HB⟩
          case round =>
            clear HO HQ HQ' HNE HB
            obtain ⟨j, g, o, nq, cap, hj, hgj, rfl, rfl, HO, HQ, HNE, HB⟩ := hrel
            obtain ⟨m2, rfl⟩ : ∃ m2, gk = m2 + 1 := ⟨gk - 1, by omega⟩
            have p0 := blk_cell ((HB.out.block B (by have := HZ1.out; omega)).trans X1.out) 0
            have hbw := HB1.out.trans (HB.out.mono HB1.out.size)
            obtain ⟨v, hv, hT⟩ := HP.out.bel hbw (Nat.le_refl _) (HCB.out hn0) xn hxn
            obtain ⟨ta, tc, rfl, hlen, hr⟩ := hT
            clear hbw
            have HFM := Lib.hid (HF.out.add ((pl xn).take j))
            have HPRE := Lib.hid ((addP_pre n l ((pl xn).take j)).length_le)
            by_cases hjl : j < (pl xn).length
            · obtain ⟨bt, ot, rfl, hbt, hel⟩ := hr (by intro h; rw [h] at hjl; simp at hjl)
              obtain ⟨x2, x3, a4, n4, c4, q0, q1, q2, q3, q4⟩ := hel j hjl
              obtain ⟨p, hp⟩ : ∃ p, (pl xn).getD j (0, 0) = p := ⟨_, rfl⟩
              have HTK : Hid (addP n l ((pl xn).take (j + 1)) = stepP n (addP n l ((pl xn).take j)) p) := Lib.hid (by rw [addP_take n l _ _ hjl, hp])
              rw [hp] at q0 q1
              obtain ⟨kd, sy⟩ := p
              simp only at q0 q1
              obtain ⟨M, hM⟩ : ∃ M, addP n l ((pl xn).take j) = M := ⟨_, rfl⟩
              rw [hM] at HO HQ HTK HFM HPRE
              obtain ⟨W4, hW4⟩ : ∃ W4, wr.alloc (.cells #[.int .i64 kd, .int .i64 sy, .string x2, .int .i64 x3, .slice a4 n4 c4] 58) = W4 := ⟨_, rfl⟩
              have z4 : W4.heap.size = wr.heap.size + 1 := by rw [← hW4]; exact World.size_alloc _ _
              have hR4 : W4.heap[wr.heap.size]? = some (.cells #[.int .i64 kd, .int .i64 sy, .string x2, .int .i64 x3, .slice a4 n4 c4] 58 (0, 0)) := by rw [← hW4]; exact heap_alloc_new wr _
              have hb4 : Below wr.heap.size wr W4 := by rw [← hW4]; exact (Below.refl _ _).alloc (Nat.le_refl _) _
              have HB4 : Hid (Below w1.heap.size w1 W4) := Lib.hid (HB.out.trans (hb4.mono HB.out.size))
              have HO4 : Hid (OwnI W4 w1.heap.size u5 (ints M)) := Lib.hid (own_bel HO.out hb4)
              have HQ4 : Hid (QL W4 w1.heap.size g o nq cap (r ++ ints (M.drop l.length))) := Lib.hid (HQ.out.keep (hb4.block g HQ.out.lt))
              have HGL := Lib.hid HQ.out.lt
              have HOL := Lib.hid HO.out.lt
              have HZ4 := Lib.hid z4
              have HW4 := Lib.hid hW4
              have HR4 := Lib.hid hR4
              have p4 := blk_cell ((HB4.out.block B (by have := HZ1.out; omega)).trans X1.out) 0
              have hml := HFM.out.len
              clear hW4 hR4 hb4 z4 hel hr hp hbt HO HQ HB hM
              go_upto_region 11 with fail
              rw [HW4.out]
              clear q0 q1 q2 q3 q4 p0 hv
              have r0 := blk_cell HR4.out 0
              have r1 := blk_cell HR4.out 1
              by_cases hk10 : kd = 10
              · subst hk10
                by_cases hsy : 0 ≤ sy ∧ sy < n
                · obtain ⟨s0, s1⟩ := hsy
                  obtain ⟨s, rfl⟩ : ∃ s : Nat, sy = s := ⟨sy.toNat, by omega⟩
                  have cM := among_own (s : Int) HO4.out (by rw [List.length_map]; omega)
                  obtain ⟨cb', hcb'⟩ : ∃ b, (ints M).contains (s : Int) = b := ⟨_, rfl⟩
                  rw [hcb'] at cM
                  have HCM := Lib.hid cM
                  clear cM
                  go_wp2_with fail
                  refine (refIn_yes _ s0 s1).mono ?_; rintro e w' ⟨rfl, rfl⟩
                  go_wp2_with fail
                  refine HCM.out.mono ?_; rintro e w' ⟨rfl, rfl⟩
                  clear HCM
                  cases cb' with
                  | true =>
                    have hsm : s ∈ M := by
                      rw [List.contains_iff_mem] at hcb'
                      obtain ⟨k, hk, e⟩ := List.mem_map.1 hcb'
                      have e2 : (k : Int) = (s : Int) := e
                      have e3 : k = s := by omega
                      rw [← e3]; exact hk
                    have HY : Hid (addP n l ((pl xn).take (j + 1)) = M) := Lib.hid (by rw [HTK.out, stepP_old hsm])
                    clear hcb' hsm
                    go_wp2
                    go_roundg m2
                    case measure => omega
                    case rel => exact ⟨j + 1, g, o, nq, cap, by omega, by omega, by go_num, rfl, Lib.hid (by rw [HY.out]; exact HO4.out), Lib.hid (by rw [HY.out]; exact HQ4.out), HNE, HB4⟩
                  | false =>
                    have hsm : s ∉ M := by
                      intro hs
                      rw [← Bool.not_eq_true, List.contains_iff_mem] at hcb'
                      exact hcb' (List.mem_map.2 ⟨s, hs, rfl⟩)
                    have HY : Hid (addP n l ((pl xn).take (j + 1)) = M ++ [s]) := Lib.hid (by
                      rw [HTK.out, stepP_new rfl s0 s1 (by show ((s : Int)).toNat ∉ M; rw [Int.toNat_natCast]; exact hsm)]
                      show M ++ [((s : Int)).toNat] = _
                      rw [Int.toNat_natCast])
                    have HYI : Hid (ints (M ++ [s]) = ints M ++ [(s : Int)]) := Lib.hid List.map_append
                    have HYD : Hid (ints ((M ++ [s]).drop l.length) = ints (M.drop l.length) ++ [(s : Int)]) := Lib.hid (by rw [List.drop_append_of_le_length HPRE.out]; exact List.map_append)
                    have HLI : Hid ((ints M).length ≤ 100000) := Lib.hid (by rw [List.length_map]; omega)
                    have hli := HLI.out
                    have HLQ : Hid ((r ++ ints (M.drop l.length)).length ≤ 1000000) := Lib.hid (by
                      have := HFW.out.2
                      simp only [List.length_append, List.length_map, List.length_drop, List.length_nil] at *
                      omega)
                    clear hcb' hsm
                    go_upto_region 13 with (first
                      | (at_builtin; refine wpList_append_lies _ rfl _ _ 32 rfl w1.heap.size 3 i0 (.int .i64 0) 1 8 Tryz.underlying32 hi iz0 iz1 iz2 rfl (by decide) u5 (ints M).length ((ints M).map (Value.int .i64)) rfl (HO4.out.alloc _) ⟨W4.heap.size, 0, none⟩ 1 1 [.int .i64 s] rfl rfl (cell_one_new _ _ _) (by intro u hu; simp at hu; subst hu; rfl) (by decide) (by unfold maxLen; omega) (by omega) (by have := HB4.out.size; simp; omega) (W4.heap.size + 1) (by simp) ?_; intro gg cap' w6 hown' hgrow hat hltg; have HG := Lib.hid (And.intro hown' (And.intro hgrow (And.intro hat hltg))); clear hown' hgrow hat hltg))
                    have hb5 : Below W4.heap.size W4 (W4.alloc (.cells #[.int .i64 s] 3)) := (Below.refl _ _).alloc (Nat.le_refl _) _
                    have h46 : ∀ k, k < W4.heap.size → u5.ownBlock ≠ some k → w6.heap[k]? = W4.heap[k]? := fun k hk hne => (HG.out.2.1.block k (by simp; omega) (fun e => hne e.symm)).trans (hb5.block k hk)
                    have HR6 : Hid (w6.heap[wr.heap.size]? = some (.cells #[.int .i64 10, .int .i64 s, .string x2, .int .i64 x3, .slice a4 n4 c4] 58 (0, 0))) := Lib.hid ((h46 _ (by have := HZ4.out; omega) (fun e => by have := (HOL.out _ e).2; omega)).trans HR4.out)
                    have HQ6 : Hid (QL w6 w1.heap.size g o nq cap (r ++ ints (M.drop l.length))) := Lib.hid (HQ4.out.keep (h46 g HQ4.out.lt HNE.out))
                    have HB6 : Hid (Below w1.heap.size w1 w6) := Lib.hid ((HB4.out.trans (hb5.mono HB4.out.size)).grown HG.out.2.1 (by have := HB4.out.size; simp; omega) (fun k hk => (HOL.out k hk).1))
                    have HGN : Hid (g ≠ gg ∧ g < w6.heap.size) := Lib.hid (by
                      refine ⟨fun e => ?_, HQ6.out.lt⟩
                      rcases HG.out.2.2.1 with h | h
                      · exact HNE.out (by rw [e]; exact h)
                      · have := HGL.out; have := HZ4.out; omega)
                    have HO6 : Hid (OwnI w6 w1.heap.size (.slice (some ⟨gg, 0, none⟩) (M.length + 1) cap') (ints (M ++ [s]))) := Lib.hid (by
                      have el : (ints M).length = M.length := List.length_map _
                      have h := HG.out.1
                      rw [HYI.out]
                      show World.ownsRow _ _ _ _ _ _ _
                      rw [List.length_append, List.length_singleton, List.map_append]
                      rw [el] at h ⊢
                      exact h)
                    have HGG := Lib.hid HG.out.2.2.2
                    clear hb5 h46 HG r0 r1 p4 HO4 HQ4
                    have r1 := blk_cell HR6.out 1
                    go_wp2_with (at_builtin; refine wpList_append_any rfl _ _ 32 rfl (.slice (some ⟨g, o, none⟩) nq cap) (.slice (some ⟨w6.heap.size, 0, none⟩) 1 1) rfl rfl (nq + 1) (fun gx ox cx wx => QL wx w1.heap.size gx ox (nq + 1) cx ((r ++ ints (M.drop l.length)) ++ [(s : Int)]) ∧ (w6.alloc (.cells #[.int .i64 s] 3)).grownBy wx (some g) ∧ (gx = g ∨ gx = (w6.alloc (.cells #[.int .i64 s] 3)).heap.size)) (run_append_queue _ (HQ6.out.keep (((Below.refl _ w6).alloc (Nat.le_refl _) _).block g HQ6.out.lt)) (blk_cell (heap_alloc_new w6 (.cells #[.int .i64 s] 3)) 0) HLQ.out (by have := HB6.out.size; simp; omega)) ?_; intro gx ox cx wx hF; have HFX := Lib.hid hF; clear hF)
                    go_roundg m2
                    case measure => omega
                    case rel =>
                      have hb7 : Below w6.heap.size w6 (w6.alloc (.cells #[.int .i64 s] 3)) := (Below.refl _ _).alloc (Nat.le_refl _) _
                      refine ⟨j + 1, gx, ox, nq + 1, cx, by omega, by omega, by go_num, rfl, Lib.hid (by rw [HY.out]; exact own_grown (own_bel HO6.out hb7) HFX.out.2.1 (fun e => by have e2 : some gg = some g := e; injection e2 with e2; exact HGN.out.1 e2.symm)), Lib.hid (by rw [HY.out, HYD.out, ← List.append_assoc]; exact HFX.out.1), Lib.hid (fun e => ?_), Lib.hid ((HB6.out.trans (hb7.mono HB6.out.size)).grown HFX.out.2.1 (by have := HB6.out.size; simp; omega) (fun k hk => by injection hk with hk; rw [← hk]; exact HQ6.out.2.1))⟩
                      have e2 : some gg = some gx := e
                      injection e2 with e2
                      rcases HFX.out.2.2 with h | h
                      · exact HGN.out.1 (by rw [← h, ← e2])
                      · have h3 := HGG.out
                        rw [World.size_alloc] at h
                        omega
                · have hout : sy < 0 ∨ (n : Int) ≤ sy := by omega
                  have HOUT := Lib.hid hout
                  have HY : Hid (addP n l ((pl xn).take (j + 1)) = M) := Lib.hid (by rw [HTK.out, stepP_out hout])
                  clear hsy hout
                  go_wp2_with (go_at_call 40; refine (refIn_no _ HOUT.out).mono ?_; rintro e w' ⟨rfl, rfl⟩)
                  go_roundg m2
                  case measure => omega
                  case rel => exact ⟨j + 1, g, o, nq, cap, by omega, by omega, by go_num, rfl, Lib.hid (by rw [HY.out]; exact HO4.out), Lib.hid (by rw [HY.out]; exact HQ4.out), HNE, HB4⟩
              · have HY : Hid (addP n l ((pl xn).take (j + 1)) = M) := Lib.hid (by rw [HTK.out, stepP_kind hk10])
                have hb10 : (kd == 10) = false := by simpa using hk10
                go_wp2
                go_roundg m2
                case measure => omega
                case rel => exact ⟨j + 1, g, o, nq, cap, by omega, by omega, by go_num, rfl, Lib.hid (by rw [HY.out]; exact HO4.out), Lib.hid (by rw [HY.out]; exact HQ4.out), HNE, HB4⟩
            · have hje : j = (pl xn).length := by omega
              have HO' : Hid (OwnI wr w1.heap.size u5 (ints (addP n l (pl xn)))) := Lib.hid (by have h := HO.out; rw [hje, List.take_length] at h; exact h)
              have HQ' : Hid (QL wr w1.heap.size g o nq cap (r ++ ints ((addP n l (pl xn)).drop l.length))) := Lib.hid (by have h := HQ.out; rw [hje, List.take_length] at h; exact h)
              clear hje HO HQ hr
              go_wp2
              go_roundg m
              case measure => have := HFW.out.1; omega
              case rel => exact ⟨i + 1, addP n l (pl xn), r ++ ints ((addP n l (pl xn)).drop l.length), g, o, nq, cap, by have := HFW.out.1; omega, by have := HFW.out.1; omega, rfl, Lib.hid (HA.out.next HF.out hxn), Lib.hid (HF.out.add _), HO', HQ', HNE, HB⟩
        · have hout : x < 0 ∨ (n : Int) ≤ x := by omega
          have HOUT := Lib.hid hout
          clear hin hout
          go_wp2_with (go_at_call 40; refine (refIn_no _ HOUT.out).mono ?_; rintro e w' ⟨rfl, rfl⟩)
          go_roundg m
          case measure => have := HFW.out.1; omega
          case rel => exact ⟨i + 1, l, r, g, (o + 1), r.length, (cap - 1), by have := HFW.out.1; omega, by have := HFW.out.1; omega, rfl, Lib.hid (HA.out.out HF.out HOUT.out), HF, HO, HQ', HNE, HB⟩
end Go.Proofs.YtlipfgdjbimfjaaGreatDoor
namespace Go.Proofs.YtlipfgdjbimfjaaGreatDoor
open Go.RowKit Go.Shelf Go.Sort
set_option maxRecDepth 100000

variable {H : Type} {enc : TypeId × Value → H}
/-- A list of types as kinds and symbols. -/
theorem tyrow_old {W0 : World} {a : Option Addr} {n c : Nat} (h : Rv enc Tryz.prog W0 33 [.slice a n c]) : ∃ l : List (Int × Int), TyRow W0 W0.heap.size (.slice a n c) l := by
  obtain ⟨len, d, hlen, hok, hld⟩ := ld_old h
  obtain ⟨a', cap', he, hr⟩ := hld W0 W0.heap.size (Below.refl _ _) (Nat.le_refl _)
  injection he with e1 e2 e3
  subst e1 e2 e3
  refine ⟨(List.range n).map fun k => ((d k).kd, (d k).sy), a, c, by simp, by simpa using hlen, fun hne => ?_⟩
  have h0 : 0 < n := by
    cases n with
    | zero => simp at hne
    | succ n => omega
  obtain ⟨b, off, h1, h2, h3, h4⟩ := hr h0
  refine ⟨b, off, h1, h3, fun k hk => ?_⟩
  have hk' : k < n := by simpa using hk
  have hg : ((List.range n).map fun k => ((d k).kd, (d k).sy)).getD k (0, 0) = ((d k).kd, (d k).sy) := by
    rw [List.getD_eq_getElem?_getD, List.getElem?_map, List.getElem?_range hk']
    rfl
  obtain ⟨c0, c1, c2, c3, c4⟩ := h4 k hk'
  obtain ⟨ua, un, uc, hu, -⟩ := (hok k hk').args.slice Tryz.underlying33 cells58 (by decide)
  injection hu with hu _
  rw [hu] at c4
  refine ⟨(d k).nm, (d k).nu, ua, un, uc, ?_, ?_, c2, c3, c4⟩
  · rw [hg]; exact c0
  · rw [hg]; exact c1
/-- The owners and the parents of a program's classes. -/
theorem pars_old {W0 : World} {ca : Option Addr} {n cc : Nat} {d : Nat → ClS} (hd : ∀ i, i < n → (d i).ok enc W0) (hC : CLS W0 (.slice ca n cc) n d) :
    ∃ (cb co : Nat) (own : Nat → Int) (pl : Nat → List (Int × Int)), (0 < n → ca = some ⟨cb, co, none⟩ ∧ cb < W0.heap.size) ∧ ∀ w, Below W0.heap.size W0 w → Owns w cb co n own ∧ Pars w w.heap.size cb co n pl := by
  by_cases h0 : 0 < n
  · obtain ⟨a', cap', he, hr⟩ := hC
    injection he with e1 e2 e3
    subst e1 e3
    obtain ⟨b, off, h1, h2, h3⟩ := hr h0
    have each : ∀ i : Nat, ∃ l : List (Int × Int), i < n → TyRow W0 W0.heap.size (.slice (d i).pa (d i).pn (d i).pc) l := by
      intro i
      by_cases hi : i < n
      · obtain ⟨l, hl⟩ := tyrow_old (hd i hi).ps
        exact ⟨l, fun _ => hl⟩
      · exact ⟨[], fun h => absurd h hi⟩
    obtain ⟨pl, hpl⟩ := Classical.axiomOfChoice each
    refine ⟨b, off, fun i => (d i).ow, pl, fun _ => ⟨h1, h2⟩, fun w hb => ⟨fun i hi => h3 w hb i hi 3 (by decide), fun i hi => ⟨_, h3 w hb i hi 5 (by decide), ?_⟩⟩⟩
    obtain ⟨a, c, e1, e2, e3⟩ := (hpl i hi).bel hb (Nat.le_refl _)
    refine ⟨a, c, e1, e2, fun hne => ?_⟩
    obtain ⟨b', o', f1, f2, f3⟩ := e3 hne
    exact ⟨b', o', f1, Nat.lt_of_lt_of_le f2 hb.size, f3⟩
  · exact ⟨0, 0, fun _ => 0, fun _ => [], fun h => absurd h h0, fun w _ => ⟨fun i hi => absurd hi (by omega), fun i hi => absurd hi (by omega)⟩⟩
set_option maxHeartbeats 1000000 in
theorem inside_out' (ca : Option Addr) (n cap : Nat) (c x : Int) (v1 v2 v3 v4 v5 : Value) (w : World) (hc : c < 0 ∨ (n : Int) ≤ c) :
    Calls Tryz.prog 21 #[.agg #[.slice ca n cap, v1, v2, v3, v4, v5], .int .i64 c, .int .i64 x] w fun e w' => e = .returned (.bool false) ∧ Below w.heap.size w w' := by
  have HC := Lib.hid hc
  clear hc
  go_enter Tryz.func21, Tryz.ntmps21
  go_wp2_with fail
  refine (isIndex_out _ HC.out).mono ?_; rintro e w' ⟨rfl, rfl⟩
  go_wp2
  go_ret
  exact ⟨rfl, (Below.refl _ _).alloc (Nat.le_refl _) _⟩
set_option maxHeartbeats 1000000 in
theorem ancestors_out' (ca : Option Addr) (n cap : Nat) (c : Int) (v1 v2 v3 v4 v5 : Value) (w : World) (hc : c < 0 ∨ (n : Int) ≤ c) :
    Calls Tryz.prog 19 #[.agg #[.slice ca n cap, v1, v2, v3, v4, v5], .int .i64 c] w (RetI w []) := by
  have HC := Lib.hid hc
  clear hc
  go_enter Tryz.func19, Tryz.ntmps19
  go_wp2_with fail
  refine (isIndex_out _ HC.out).mono ?_; rintro e w' ⟨rfl, rfl⟩
  go_wp2
  go_ret
  exact ⟨_, rfl, World.ownsRow_nil _ _ _ _, (Below.refl _ _).alloc (Nat.le_refl _) _⟩
set_option maxHeartbeats 2000000 in
/-- Equal of two rows of the same ints. -/
theorem equal_ints (l : List Int) (B B' : Nat) (v v' : Value) (w : World) (hl : l.length ≤ 1000000) (h : OwnI w B v l) (h' : OwnI w B' v' l) :
    Calls Tryz.prog 16 #[v, v'] w fun e w' => e = .returned (.bool true) ∧ Below w.heap.size w w' := by
  obtain ⟨a, cap, rfl, hr⟩ := EC.of_own (r := .bool false) h (fun k hk => by cases hk)
  obtain ⟨a', cap', rfl, hr'⟩ := EC.of_own (r := .bool false) h' (fun k hk => by cases hk)
  have HR := Lib.hid hr
  have HR' := Lib.hid hr'
  clear h h' hr hr'
  go_enter Tryz.func16, Tryz.ntmps16
  go_wp2
  go_loopg [13] (l.length + 1) (fun g y wr => ∃ k : Nat, k ≤ l.length ∧ l.length - k < g ∧ y = .int .i64 k ∧ Hid (Below w.heap.size w wr))
  case atStart => exact ⟨0, by omega, by omega, rfl, Lib.hid (Below.refl _ _)⟩
  case round =>
    obtain ⟨k, hk, hgk, rfl, HB⟩ := hrel
    obtain ⟨g', rfl⟩ : ∃ m, gk = m + 1 := ⟨gk - 1, by omega⟩
    by_cases hlt : k < l.length
    · obtain ⟨b1, rfl, hb1, -, hc1⟩ := HR.out (by omega)
      obtain ⟨b2, rfl, hb2, -, hc2⟩ := HR'.out (by omega)
      obtain ⟨p, hp⟩ : ∃ p, l.getD k 0 = p := ⟨_, rfl⟩
      have c1 := hc1 k hlt
      have c2 := hc2 k hlt
      rw [hp] at c1 c2
      have q1 : wr.cell? ⟨b1, k, none⟩ = some (.int .i64 p) := by rw [← Nat.zero_add k]; exact (HB.out.cell (p := ⟨b1, 0 + k, none⟩) hb1).trans c1
      have q2 : wr.cell? ⟨b2, k, none⟩ = some (.int .i64 p) := by rw [← Nat.zero_add k]; exact (HB.out.cell (p := ⟨b2, 0 + k, none⟩) hb2).trans c2
      clear hc1 hc2 c1 c2 hp
      go_upto_region 6 with fail
      go_quiet (fail)
      clear q1 q2
      generalize hWX : World.drewN wr _ = wX
      have HX : Hid (Below w.heap.size w wX) := Lib.hid (by rw [← hWX]; exact HB.out.trans ⟨rfl, rfl, rfl, Nat.le_refl _, fun _ _ => rfl⟩)
      clear hWX
      go_wp2
      go_roundg g'
      case measure => omega
      case rel => exact ⟨k + 1, by omega, by omega, by go_num, HX⟩
    · go_wp2
      go_ret
      exact ⟨rfl, HB.out⟩

set_option maxHeartbeats 4000000 in
theorem related_any (W0 : World) (ca : Option Addr) (cn cc : Nat) (ma : Option Addr) (mn mc : Nat) (fa : Option Addr) (fn fc : Nat) (ta : Option Addr) (tn tc : Nat) (ya : Option Addr) (yn yc : Nat) (mi a b : Int)
    (hc : Rv enc Tryz.prog W0 22 [.slice ca cn cc]) (hm : Rv enc Tryz.prog W0 23 [.slice ma mn mc]) (hf : Rv enc Tryz.prog W0 24 [.slice fa fn fc]) (ht : Rv enc Tryz.prog W0 25 [.slice ta tn tc]) (hy : Rv enc Tryz.prog W0 26 [.slice ya yn yc])
    (hG : Gl W0) (h0 : 0 < W0.heap.size) :
    Calls Tryz.prog 5 #[.agg #[.slice ca cn cc, .slice ma mn mc, .slice fa fn fc, .slice ta tn tc, .slice ya yn yc, .int .i64 mi], .int .i64 a, .int .i64 b] W0 (LawR W0) := by
  obtain ⟨n, d, hn, hd, hC⟩ := cls_old2 hc
  obtain rfl : n = cn := by
    obtain ⟨a, cap, he, -⟩ := hC
    injection he with e1 e2 e3
    exact e2.symm
  have cF := few_cls W0 ca n cc d _ _ _ _ mi hn hd hC hm hf ht hy
  have cA : ∀ w, Below W0.heap.size W0 w → Calls Tryz.prog 10 #[] w fun e w' => e = .returned (.bool true) ∧ Below w.heap.size w w' := fun w hb => awake_any w (hG.bel hb h0) (by have := hb.size; omega)
  obtain ⟨cb, co, own, pl, hcb, hop⟩ := pars_old (fun i hi => (hd i hi).1) hC
  -- what the pairs answer: one list, one list, one Bool
  have cD : n ≤ 25 → ∃ (l1 l2 : List Int) (r : Bool), l1.length ≤ 100000 ∧ l2.length ≤ 100000 ∧ ∀ w, Below W0.heap.size W0 w →
      (Calls Tryz.prog 17 #[.agg #[.slice ca n cc, .slice ma mn mc, .slice fa fn fc, .slice ta tn tc, .slice ya yn yc, .int .i64 mi], .int .i64 a] w (RetI w l1) ∧
      Calls Tryz.prog 18 #[.agg #[.slice ca n cc, .slice ma mn mc, .slice fa fn fc, .slice ta tn tc, .slice ya yn yc, .int .i64 mi], .int .i64 a] w (RetI w l1)) ∧
      (Calls Tryz.prog 19 #[.agg #[.slice ca n cc, .slice ma mn mc, .slice fa fn fc, .slice ta tn tc, .slice ya yn yc, .int .i64 mi], .int .i64 a] w (RetI w l2) ∧
      Calls Tryz.prog 20 #[.agg #[.slice ca n cc, .slice ma mn mc, .slice fa fn fc, .slice ta tn tc, .slice ya yn yc, .int .i64 mi], .int .i64 a] w (RetI w l2)) ∧
      (Calls Tryz.prog 21 #[.agg #[.slice ca n cc, .slice ma mn mc, .slice fa fn fc, .slice ta tn tc, .slice ya yn yc, .int .i64 mi], .int .i64 a, .int .i64 b] w (fun e w' => e = .returned (.bool r) ∧ Below w.heap.size w w') ∧
      Calls Tryz.prog 22 #[.agg #[.slice ca n cc, .slice ma mn mc, .slice fa fn fc, .slice ta tn tc, .slice ya yn yc, .int .i64 mi], .int .i64 a, .int .i64 b] w (fun e w' => e = .returned (.bool r) ∧ Below w.heap.size w w')) := by
    intro hn25
    by_cases hin : 0 ≤ a ∧ a < n
    · obtain ⟨k, rfl⟩ : ∃ k : Nat, a = k := ⟨a.toNat, by omega⟩
      have hk : k < n := by omega
      obtain ⟨hca, hcb2⟩ := hcb (by omega)
      subst hca
      have hcap : n ≤ cc := by
        obtain ⟨a', len, cap, he, hle, -⟩ := hc.slice Tryz.underlying22 cells36 (by decide)
        injection he with he _
        injection he with e1 e2 e3
        omega
      refine ⟨chl pl k n, inOrd n (ancA n pl k), (arF own n n k).contains b, by have := chl_len pl k n; omega, by have := inOrd_len n (ancA n pl k); omega, fun w hb => ?_⟩
      obtain ⟨hO, hP⟩ := hop w hb
      have hcw : cb < w.heap.size := Nat.lt_of_lt_of_le hcb2 hb.size
      refine ⟨⟨children_in cb co n cc k pl _ _ _ _ _ w (by omega) (by omega) (by omega) hcw hP, refChildren_in cb co n cc k pl _ _ _ _ _ w (by omega) (by omega) (by omega) hcw hP⟩, ⟨?_, refAncestors_any _ cb co n cc k pl _ _ _ _ _ w (by omega) (fun _ => rfl) (fun _ => hcw) hP⟩, ⟨inside_in cb co n cc k b own _ _ _ _ _ w hk (by omega) hcap hcw hO, ?_⟩⟩
      · have h := ancestors_in cb co n cc k pl (.slice ma mn mc) (.slice fa fn fc) (.slice ta tn tc) (.slice ya yn yc) (.int .i64 mi) w hk (by omega) hcw hP
        rw [← ancA_in hk, srt_inOrd (ancA_fnd n pl k)] at h
        exact h
      · by_cases hbx : 0 ≤ b ∧ b < n
        · exact refInside_in cb co n cc k b own _ _ _ _ _ w hk hbx.1 hbx.2 (by omega) hcw hO
        · rw [arF_out (by omega)]
          exact refInside_out _ n cc k b _ _ _ _ _ w (by omega)
    · have hout : a < 0 ∨ (n : Int) ≤ a := by omega
      refine ⟨[], inOrd n (ancA n pl a), false, by simp, by have := inOrd_len n (ancA n pl a); omega, fun w hb => ?_⟩
      obtain ⟨hO, hP⟩ := hop w hb
      have he : inOrd n (ancA n pl a) = [] := by rw [ancA_out hout]; simp [inOrd, ints]
      refine ⟨⟨children_out _ n cc a _ _ _ _ _ w hout, refChildren_out _ n cc a _ _ _ _ _ w hout⟩, ⟨?_, refAncestors_any _ cb co n cc a pl _ _ _ _ _ w (by omega) (fun h => (hcb h).1) (fun h => Nat.lt_of_lt_of_le (hcb h).2 hb.size) hP⟩, ⟨inside_out' _ n cc a b _ _ _ _ _ w hout, refInside_out _ n cc a b _ _ _ _ _ w (by omega)⟩⟩
      rw [he]
      exact ancestors_out' _ n cc a _ _ _ _ _ w hout
  obtain ⟨w1, hw1⟩ : ∃ w1, W0.alloc (.cells #[.slice ca n cc, .slice ma mn mc, .slice fa fn fc, .slice ta tn tc, .slice ya yn yc, .int .i64 mi] 28) = w1 := ⟨_, rfl⟩
  have hb1 : Below W0.heap.size W0 w1 := by rw [← hw1]; exact (Below.refl _ _).alloc (Nat.le_refl _) _
  have x1 : w1.heap[W0.heap.size]? = some (.cells #[.slice ca n cc, .slice ma mn mc, .slice fa fn fc, .slice ta tn tc, .slice ya yn yc, .int .i64 mi] 28 (0, 0)) := by rw [← hw1]; exact heap_alloc_new W0 _
  have HCF := Lib.hid cF
  have HCA := Lib.hid cA
  have HCD := Lib.hid cD
  have HW1 := Lib.hid hw1
  have HB1 := Lib.hid hb1
  have X1 := Lib.hid x1
  clear cF cA cD hw1 hb1 x1 hd hc hm hf ht hy hG hC hcb hop
  go_enter Tryz.func5, Tryz.ntmps5
  go_upto_region 1 with fail
  rw [HW1.out]
  obtain ⟨s0, s1, s2, s3, s4, s5⟩ := px_of X1.out
  go_wp2_with fail
  refine (HCF.out _ HB1.out).mono ?_
  rintro e w3 ⟨bb, rfl, hb3, hs3⟩
  have HB3 := Lib.hid (HB1.out.trans (hb3.mono HB1.out.size))
  have HP3 := Lib.hid ((hb3.block _ (Array.getElem?_eq_some_iff.1 X1.out).1).trans X1.out)
  have HS3 := Lib.hid hs3
  clear hb3 hs3 s0 s1 s2 s3 s4 s5
  cases bb with
  | false =>
    go_wp2_with fail
    refine (HCA.out _ HB3.out).mono ?_
    rintro e w6 ⟨rfl, hb6⟩
    have HB6 := Lib.hid (HB3.out.trans (hb6.mono HB3.out.size))
    clear hb6
    go_wp2
    go_ret
    exact ⟨rfl, HB6.out⟩
  | true =>
  obtain ⟨l1, l2, r, hl1, hl2, hcl⟩ := HCD.out (HS3.out rfl).1
  have HCL := Lib.hid hcl
  have HL1 := Lib.hid hl1
  have HL2 := Lib.hid hl2
  have HBD : Hid (Below W0.heap.size W0 w3.drew) := Lib.hid (HB3.out.trans ((below_drw w3).mono HB3.out.size))
  have HPD : Hid (w3.drew.heap[W0.heap.size]? = some (.cells #[.slice ca n cc, .slice ma mn mc, .slice fa fn fc, .slice ta tn tc, .slice ya yn yc, .int .i64 mi] 28 (0, 0))) := HP3
  have HSD : Hid (PX W0.heap.size ca n cc ma mn mc fa fn fc ta tn tc ya yn yc mi w3.drew) := Lib.hid (px_of HPD.out)
  have stp : ∀ (v w : World), Below W0.heap.size W0 v → v.heap[W0.heap.size]? = some (.cells #[.slice ca n cc, .slice ma mn mc, .slice fa fn fc, .slice ta tn tc, .slice ya yn yc, .int .i64 mi] 28 (0, 0)) → Below v.heap.size v w → Below W0.heap.size W0 w ∧ w.heap[W0.heap.size]? = some (.cells #[.slice ca n cc, .slice ma mn mc, .slice fa fn fc, .slice ta tn tc, .slice ya yn yc, .int .i64 mi] 28 (0, 0)) ∧ PX W0.heap.size ca n cc ma mn mc fa fn fc ta tn tc ya yn yc mi w := fun v w h1 h2 h3 => by
    have h4 := (h3.block _ (Array.getElem?_eq_some_iff.1 h2).1).trans h2
    exact ⟨h1.trans (h3.mono h1.size), h4, px_of h4⟩
  have STP := Lib.hid stp
  clear hcl hl1 hl2 HS3 HCD stp
  go_upto_region 3 with fail
  go_region_held3 (fun w' => w'.cell? ⟨W0.heap.size, 0, none⟩ = some (.slice ca n cc) ∧ w'.cell? ⟨W0.heap.size, 1, none⟩ = some (.slice ma mn mc) ∧ w'.cell? ⟨W0.heap.size, 2, none⟩ = some (.slice fa fn fc) ∧ w'.cell? ⟨W0.heap.size, 3, none⟩ = some (.slice ta tn tc) ∧ w'.cell? ⟨W0.heap.size, 4, none⟩ = some (.slice ya yn yc) ∧ w'.cell? ⟨W0.heap.size, 5, none⟩ = some (.int .i64 mi)) (first | exact HSD.out | exact HX1.out.2.2 | exact HX2.out.2.2 | exact HX3.out.2.2 | exact HX4.out.2.2 | exact HX5.out.2.2 | exact HX6.out.2.2 | exact HX7.out.2.2 | exact HX8.out.2.2 | exact HX9.out.2.2 | go_keep)
    (first
      | (go_at_call 10; refine (HCA.out _ HBD.out).mono ?_; rintro e q1 ⟨rfl, hb⟩; have HX1 := Lib.hid (STP.out _ _ HBD.out HPD.out hb); clear hb)
      | (go_at_call 17; refine (HCL.out _ HX1.out.1).1.1.mono ?_; rintro e q2 ⟨v2, rfl, ho, hb⟩; have HX2 := Lib.hid (STP.out _ _ HX1.out.1 HX1.out.2.1 hb); have HO2 := Lib.hid ho; clear hb ho)
      | (go_at_call 18; refine (HCL.out _ HX2.out.1).1.2.mono ?_; rintro e q3 ⟨v3, rfl, ho, hb⟩; have HX3 := Lib.hid (STP.out _ _ HX2.out.1 HX2.out.2.1 hb); have HO3 := Lib.hid ho; have HO23 := Lib.hid (own_bel HO2.out hb); clear hb ho)
      | (go_at_call 16; refine (equal_ints l1 _ _ _ _ _ (by have := HL1.out; omega) HO23.out HO3.out).mono ?_; clear HO23 HO3; rintro e q4 ⟨rfl, hb⟩; have HX4 := Lib.hid (STP.out _ _ HX3.out.1 HX3.out.2.1 hb); clear hb)
      | (go_at_call 19; refine (HCL.out _ HX4.out.1).2.1.1.mono ?_; rintro e q5 ⟨v5, rfl, ho, hb⟩; have HX5 := Lib.hid (STP.out _ _ HX4.out.1 HX4.out.2.1 hb); have HO5 := Lib.hid ho; clear hb ho)
      | (go_at_call 20; refine (HCL.out _ HX5.out.1).2.1.2.mono ?_; rintro e q6 ⟨v6, rfl, ho, hb⟩; have HX6 := Lib.hid (STP.out _ _ HX5.out.1 HX5.out.2.1 hb); have HO6 := Lib.hid ho; have HO56 := Lib.hid (own_bel HO5.out hb); clear hb ho)
      | (go_at_call 16; refine (equal_ints l2 _ _ _ _ _ (by have := HL2.out; omega) HO56.out HO6.out).mono ?_; clear HO56 HO6; rintro e q7 ⟨rfl, hb⟩; have HX7 := Lib.hid (STP.out _ _ HX6.out.1 HX6.out.2.1 hb); clear hb)
      | (go_at_call 21; refine (HCL.out _ HX7.out.1).2.2.1.mono ?_; rintro e q8 ⟨rfl, hb⟩; have HX8 := Lib.hid (STP.out _ _ HX7.out.1 HX7.out.2.1 hb); clear hb)
      | (go_at_call 22; refine (HCL.out _ HX8.out.1).2.2.2.mono ?_; rintro e q9 ⟨rfl, hb⟩; have HX9 := Lib.hid (STP.out _ _ HX8.out.1 HX8.out.2.1 hb); clear hb))
  go_wp2
  go_ret
  exact ⟨ret_bool (by simp), HX9.out.1⟩
end Go.Proofs.YtlipfgdjbimfjaaGreatDoor
