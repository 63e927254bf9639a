/- A map whose keys are places: what is asked of it and laid in it, whatever the answers. -/
import Derived.Test.YthcoigdmammamaaGreatDoorS10
namespace Go.Proofs.YthcoigdmammamaaGreatDoor
open Go.RowKit Go.Shelf
set_option maxRecDepth 100000

/-- An address of a cell that is not frozen. -/
def Gd (w : World) (p : Addr) : Prop := (∃ xs t fr, w.heap[p.block]? = some (.cells xs t fr)) ∧ w.frozen? p = false
theorem Gd.of {w w' : World} {p : Addr} (h : Gd w p) (hb : w'.heap[p.block]? = w.heap[p.block]?) : Gd w' p := by
  obtain ⟨⟨xs, t, fr, h1⟩, h2⟩ := h
  exact ⟨⟨xs, t, fr, hb.trans h1⟩, (World.frozen?_of_block (w := w) (w' := w') (a := p) hb).trans h2⟩
theorem redrawn_heap (w : World) (d : Nat) : (redrawn w d).heap = w.heap := rfl
theorem redrawn_redrawn (w : World) (d e : Nat) : redrawn (redrawn w d) e = redrawn w e := rfl
theorem redrawn_self (w : World) : redrawn w w.drawn = w := rfl
theorem same_some (w : World) {p q : Addr} (hp : Gd w p) (hq : Gd w q) : ∃ (b : Bool) (d : Nat), (sameAddr p q).run Tryz.prog w = .ok b (redrawn w d) := by
  obtain ⟨⟨xp, tp, fp, h1⟩, h2⟩ := hp
  obtain ⟨⟨xq, tq, fq, h3⟩, h4⟩ := hq
  by_cases hb : p.block = q.block
  · exact ⟨p == q, w.drawn, by rw [redrawn_self]; simp [sameAddr, hb]⟩
  · have hv : (noView p).run Tryz.prog w = .ok () w := by simp [noView, viewAt, World.shape?, h1]
    have hv' : (noView q).run Tryz.prog w = .ok () w := by simp [noView, viewAt, World.shape?, h3]
    have hm : ∃ c, (mayBeOne p q).run Tryz.prog w = .ok c w := by
      simp [mayBeOne, stringish, World.shape?, h1, h3, h2, h4]
    obtain ⟨c, hm⟩ := hm
    cases c with
    | false => exact ⟨false, w.drawn, by rw [redrawn_self]; simp [sameAddr, hb, h2, hv, hv', hm]⟩
    | true => exact ⟨_, _, by simp [sameAddr, hb, h2, hv, hv', hm]; rfl⟩
theorem ptr_some (w : World) {p q : Addr} (hp : Gd w p) (hq : Gd w q) : ∃ (b : Bool) (d : Nat), (Op.equalIn 9999 48 (.pointer (some p)) (.pointer (some q))).run Tryz.prog w = .ok b (redrawn w d) := by
  obtain ⟨b, d, h⟩ := same_some w hp hq
  obtain ⟨i0, hi, iz0, iz1, iz2⟩ := info_parts info24
  refine ⟨b, d, ?_⟩
  rw [show (9999 : Nat) = 9998 + 1 from rfl, Op.equalIn]
  simp [run_underlying Tryz.underlying48, sizeOf, typeInfo, hi, iz1, h]
theorem place_some (w : World) {p q : Addr} (n m : Int) (hp : Gd w p) (hq : Gd w q) :
    ∃ (b : Bool) (d : Nat), (Op.equal 87 (.agg #[.pointer (some p), .int .i64 n]) (.agg #[.pointer (some q), .int .i64 m])).run Tryz.prog w = .ok b (redrawn w d) := by
  obtain ⟨b, d, h⟩ := ptr_some w hp hq
  have a48 := Tryz.isAgg48
  have z48 := Tryz.sizeOf48
  have a3 := Tryz.isAgg3
  have z3 := Tryz.sizeOf3
  have e3 : ∀ W, (Op.equalIn 9999 3 (.int .i64 n) (.int .i64 m)).run Tryz.prog W = .ok (n == m) W := fun W => by
    rw [show (9999 : Nat) = 9998 + 1 from rfl, Op.equalIn]
    simp [run_underlying Tryz.underlying3]
  cases b with
  | false =>
    refine ⟨false, d, ?_⟩
    show (Op.equalIn (9999 + 1) 87 _ _).run _ _ = _
    rw [run_equalIn_agg w 9999 87 _ _ under87 held87]
    simp only [Program.fieldsOf, Tryz.underlying87]
    go_simp
  | true =>
    refine ⟨n == m, d, ?_⟩
    show (Op.equalIn (9999 + 1) 87 _ _).run _ _ = _
    rw [run_equalIn_agg w 9999 87 _ _ under87 held87]
    simp only [Program.fieldsOf, Tryz.underlying87]
    have e3' := e3 (redrawn w d)
    cases hnm : (n == m) <;> rw [hnm] at e3' <;> go_simp
/-- A place as a key. -/
abbrev pk (p : Addr) (n : Int) : Value := .agg #[.pointer (some p), .int .i64 n]
/-- Entries whose keys are places of unfrozen cells, all of them true. -/
def Ents (N : Nat) (w : World) (es : List MapEntry) : Prop := ∀ e ∈ es, (∃ p n, e.key = pk p n ∧ Gd w p ∧ p.block < N) ∧ e.val = .bool true
theorem Ents.drawn {N : Nat} {w : World} {es : List MapEntry} (h : Ents N w es) (d : Nat) : Ents N (redrawn w d) es := fun e he => by
  obtain ⟨⟨p, n, h1, h2, hN⟩, h3⟩ := h e he
  exact ⟨⟨p, n, h1, h2.of rfl, hN⟩, h3⟩
theorem find_some (N : Nat) (p : Addr) (n : Int) (es : List MapEntry) : ∀ (w : World) (i : Nat), Gd w p → Ents N w es →
    ∃ (r : Option (Nat × Value)) (d : Nat), (Instr.findAsking 87 (pk p n) es i).run Tryz.prog w = .ok r (redrawn w d) ∧ ∀ j v, r = some (j, v) → v = .bool true ∧ i ≤ j ∧ j < i + es.length := by
  induction es with
  | nil => intro w i _ _; exact ⟨none, w.drawn, by rw [redrawn_self]; simp [Instr.findAsking], fun j v h => by cases h⟩
  | cons e es ih =>
    intro w i hp he
    obtain ⟨⟨q, m, hk, hq, _⟩, hv⟩ := he e List.mem_cons_self
    obtain ⟨b, d, hr⟩ := place_some w n m hp hq
    cases b with
    | true =>
      refine ⟨some (i, e.val), d, ?_, ?_⟩
      · rw [Instr.findAsking]; simp [hk, hr]
      · intro j v h
        injection h with h; injection h with h1 h2
        exact ⟨h2 ▸ hv, by omega, by simp; omega⟩
    | false =>
      obtain ⟨r, d2, h2, h3⟩ := ih (redrawn w d) (i + 1) (hp.of rfl) (Ents.drawn (fun x hx => he x (List.mem_cons_of_mem _ hx)) d)
      refine ⟨r, d2, ?_, ?_⟩
      · rw [Instr.findAsking]; simp [hk, hr]; exact h2
      · intro j v h
        obtain ⟨h4, h5, h6⟩ := h3 j v h
        exact ⟨h4, by omega, by simp; omega⟩
theorem find_key (N : Nat) (p : Addr) (n : Int) (es : List MapEntry) (w : World) (hp : Gd w p) (he : Ents N w es) :
    ∃ (r : Option (Nat × Value)) (d : Nat), (Instr.findKey 87 (pk p n) es).run Tryz.prog w = .ok r (redrawn w d) ∧ ∀ j v, r = some (j, v) → v = .bool true ∧ j < es.length := by
  cases es with
  | nil => exact ⟨none, w.drawn, by rw [redrawn_self]; simp [Instr.findKey, run_underlying Tryz.underlying87, Instr.findNow], fun j v h => by cases h⟩
  | cons e es =>
    obtain ⟨⟨q, m, hk, hq, _⟩, hv⟩ := he e List.mem_cons_self
    obtain ⟨r, d, h1, h2⟩ := find_some N p n (e :: es) w 0 hp he
    refine ⟨r, d, ?_, fun j v h => ?_⟩
    · simp [Instr.findKey, run_underlying Tryz.underlying87, Instr.findNow, hk, Instr.sameNow]
      exact h1
    · obtain ⟨a, b, c⟩ := h2 j v h
      exact ⟨a, by omega⟩
theorem check87a (w : World) (p : Addr) (n : Int) (em : Bool) : (Instr.checkKey em 10000 87 (pk p n)).run Tryz.prog w = .ok () w := by
  have h1 : ∀ w, (Instr.checkKey em 9999 48 (.pointer (some p))).run Tryz.prog w = .ok () w := fun w => by
    rw [show (9999 : Nat) = 9998 + 1 from rfl, Instr.checkKey]
    simp [run_underlying Tryz.underlying48]
  have h2 : ∀ w, (Instr.checkKey em 9999 3 (.int .i64 n)).run Tryz.prog w = .ok () w := fun w => by
    rw [show (9999 : Nat) = 9998 + 1 from rfl, Instr.checkKey]
    simp [run_underlying Tryz.underlying3]
  have a48 := Tryz.isAgg48
  have z48 := Tryz.sizeOf48
  have a3 := Tryz.isAgg3
  have z3 := Tryz.sizeOf3
  rw [show (10000 : Nat) = 9999 + 1 from rfl, Instr.checkKey]
  simp only [Sem.run_bind, run_underlying Tryz.underlying87, Result.andThen_ok]
  rw [← Array.forIn_toList]
  simp only [List.forIn_cons, List.forIn_nil]
  go_simp
/-- What is asked of such a map: some answer. -/
theorem look_some (N : Nat) (w : World) (M c : Nat) (es : Array MapEntry) (p : Addr) (n : Int) (h : w.heap[M]? = some (.map es c)) (hp : Gd w p) (he : Ents N w es.toList) :
    ∃ (b : Bool) (d : Nat), (Instr.lookup 85 (.map (some M)) (pk p n) false).run Tryz.prog w = .ok (.bool b) (redrawn w d) := by
  obtain ⟨r, d, h1, h2⟩ := find_key N p n es.toList w hp he
  have hg : (getObj M).run Tryz.prog w = .ok (.map es c) w := by simp [getObj, Sem.run, h]
  have hc := check87a w p n es.isEmpty
  have hz := zero4 (redrawn w d)
  cases r with
  | none =>
    refine ⟨false, d, ?_⟩
    unfold Instr.lookup
    simp [run_underlying Tryz.underlying85, hg, hc, h1, hz]
  | some jv =>
    obtain ⟨j, v⟩ := jv
    obtain ⟨rfl, _⟩ := h2 j v rfl
    refine ⟨true, d, ?_⟩
    unfold Instr.lookup
    simp [run_underlying Tryz.underlying85, hg, hc, h1]
end Go.Proofs.YthcoigdmammamaaGreatDoor
