/- A map whose keys are places: what is laid in it. -/
import Derived.Test.YthcoigdmammamaaGreatDoorS15
import Derived.MapKept
import Derived.ChangeMaps4
namespace Go.Proofs.YthcoigdmammamaaGreatDoor
open Go.RowKit Go.Shelf
set_option maxRecDepth 100000

theorem stays_some (w : World) (old new : Value) : ∃ (k : Value) (d : Nat), (Instr.keyThatStays old new).run Tryz.prog w = .ok k (redrawn w d) ∧ (k = new ∨ k = old) := by
  unfold Instr.keyThatStays
  cases hs : Instr.sameBits 10000 old new with
  | true => exact ⟨new, w.drawn, by rw [redrawn_self]; simp, .inl rfl⟩
  | false =>
    have hd : w.drew = redrawn w (w.drawn + 1) := rfl
    simp [hd]
    split
    · exact ⟨new, ⟨w.drawn, rfl⟩, .inl rfl⟩
    · exact ⟨_, ⟨_, rfl⟩, by split <;> simp⟩
theorem setBlock_at (w : World) (M : Nat) (o o' : Obj) (h : w.heap[M]? = some o) : (Go.ChangeMaps.setBlock w M o').heap[M]? = some o' := by
  have hlt := lt_of_block h
  show (w.heap.setIfInBounds M o')[M]? = _
  simp [hlt]
theorem setBlock_grown (w : World) (d M : Nat) (o' : Obj) : w.grownBy (Go.ChangeMaps.setBlock (redrawn w d) M o') (some M) :=
  ⟨rfl, rfl, rfl, by simp [Go.ChangeMaps.setBlock, redrawn], fun i _ hi => by
    have hne : M ≠ i := fun e => hi (by rw [e])
    show (w.heap.setIfInBounds M o')[i]? = _
    rw [Array.getElem?_setIfInBounds_ne hne]⟩
theorem Ents.block {N : Nat} {w : World} {es : List MapEntry} (h : Ents N w es) {d M : Nat} {es0 : Array MapEntry} {c0 : Nat} (hM : w.heap[M]? = some (.map es0 c0)) (o' : Obj) : Ents N (Go.ChangeMaps.setBlock (redrawn w d) M o') es := fun e he => by
  obtain ⟨⟨p, n, h1, h2, hN⟩, h3⟩ := h e he
  refine ⟨⟨p, n, h1, h2.of ?_, hN⟩, h3⟩
  have hne : M ≠ p.block := by
    intro e
    obtain ⟨⟨xs, t, fr, h4⟩, _⟩ := h2
    rw [← e, hM] at h4
    cases h4
  exact (setBlock_grown w d M o').block p.block (by obtain ⟨⟨xs, t, fr, h4⟩, _⟩ := h2; exact lt_of_block h4) (fun e => hne (by injection e with e; exact e.symm))
/-- What is laid in such a map. -/
theorem upd_some (N : Nat) (w : World) (M c : Nat) (es : Array MapEntry) (p : Addr) (n : Int) (h : w.heap[M]? = some (.map es c)) (hp : Gd w p) (hN : p.block < N) (he : Ents N w es.toList) :
    ∃ (es' : Array MapEntry) (c' : Nat) (w' : World), (Instr.mapUpdate 85 (.map (some M)) (pk p n) (.bool true)).run Tryz.prog w = .ok () w' ∧ w'.heap[M]? = some (.map es' c') ∧ Ents N w' es'.toList ∧ w.grownBy w' (some M) := by
  obtain ⟨r, d, h1, h2⟩ := find_key N p n es.toList w hp he
  have hg : (getObj M).run Tryz.prog w = .ok (.map es c) w := by simp [getObj, Sem.run, h]
  have hc := check87a w p n false
  have hset := fun (d : Nat) (o : Obj) => MapKept.run_setObj_map (P := Tryz.prog) (w := redrawn w d) o (show (redrawn w d).heap[M]? = some (.map es c) from h)
  cases r with
  | none =>
    have hE : Ents N w (es.push { key := pk p n, val := .bool true, born := c }).toList := by
      intro e hx
      rw [Array.toList_push] at hx
      rcases List.mem_append.1 hx with hx | hx
      · exact he e hx
      · rw [List.mem_singleton.1 hx]
        exact ⟨⟨p, n, rfl, hp, hN⟩, rfl⟩
    refine ⟨es.push { key := pk p n, val := .bool true, born := c }, c + 1, Go.ChangeMaps.setBlock (redrawn w d) M (.map (es.push { key := pk p n, val := .bool true, born := c }) (c + 1)), ?_, setBlock_at _ _ (.map es c) _ h, hE.block h _, setBlock_grown _ _ _ _⟩
    unfold Instr.mapUpdate
    simp [run_underlying Tryz.underlying85, hg, hc, h1, hset]
    rfl
  | some jv =>
    obtain ⟨j, v⟩ := jv
    obtain ⟨rfl, hj⟩ := h2 j v rfl
    obtain ⟨k, d2, hk, hk2⟩ := stays_some (redrawn w d) (((es[j]?).map (·.key)).getD (pk p n)) (pk p n)
    have hkk : ∃ q m, k = pk q m ∧ Gd w q ∧ q.block < N := by
      rcases hk2 with rfl | rfl
      · exact ⟨p, n, rfl, hp, hN⟩
      · have hj' : j < es.size := by simpa using hj
        obtain ⟨⟨q, m, h3, h4, h5⟩, _⟩ := he es[j] (by simp)
        exact ⟨q, m, by simp [hj', h3], h4, h5⟩
    have hE : Ents N w (es.modify j fun e => { e with key := k, val := .bool true }).toList := by
      intro e hx
      rw [Array.toList_modify] at hx
      obtain ⟨i, hi⟩ := List.mem_iff_getElem?.1 hx
      rw [List.getElem?_modify] at hi
      by_cases hij : j = i
      · subst hij
        simp at hi
        obtain ⟨a, ha, rfl⟩ := hi
        obtain ⟨q, m, h5, h6, h7⟩ := hkk
        exact ⟨⟨q, m, h5, h6, h7⟩, rfl⟩
      · simp [hij] at hi
        exact he e (List.mem_iff_getElem?.2 ⟨i, by simpa using hi⟩)
    refine ⟨es.modify j fun e => { e with key := k, val := .bool true }, c, Go.ChangeMaps.setBlock (redrawn w d2) M (.map (es.modify j fun e => { e with key := k, val := .bool true }) c), ?_, setBlock_at _ _ (.map es c) _ h, hE.block h _, setBlock_grown _ _ _ _⟩
    unfold Instr.mapUpdate
    rw [redrawn_redrawn] at hk
    simp [run_underlying Tryz.underlying85, hg, hc, h1]
    rw [hk]
    simp [hset]
    rfl
end Go.Proofs.YthcoigdmammamaaGreatDoor
