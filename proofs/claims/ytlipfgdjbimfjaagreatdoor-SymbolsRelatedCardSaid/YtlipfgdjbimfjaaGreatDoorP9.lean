/- parent, parents: a class with TAny alone, or with TAny and a trait. -/
import Derived.Test.YtlipfgdjbimfjaaGreatDoorP8
import Derived.ChangeMaps4
import Derived.MapKept
namespace Go.Proofs.YtlipfgdjbimfjaaGreatDoor
open Go.RowKit Go.Shelf Go.Sort
set_option maxRecDepth 100000

theorem zero4 (w : World) : (zeroValue 4).run Tryz.prog w = .ok (.bool false) w := by
  have := Tryz.zeroValue4
  simp [this]
theorem check3 (w : World) (n : Int) (em : Bool) : (Instr.checkKey em 10000 3 (.int .i64 n)).run Tryz.prog w = .ok () w := by
  rw [show (10000 : Nat) = 9999 + 1 from rfl, Instr.checkKey]
  simp [run_underlying Tryz.underlying3]
/-- A look into an empty map of ints. -/
theorem look_nil93 (w : World) (M c : Nat) (x : Int) (h : w.heap[M]? = some (.map #[] c)) :
    (Instr.lookup 162 (.map (some M)) (.int .i64 x) false).run Tryz.prog w = .ok (.bool false) w := by
  have h1 := check3 w x true
  have h2 := zero4 w
  have hg : (getObj M).run Tryz.prog w = .ok (.map #[] c) w := by simp [getObj, Sem.run, h]
  unfold Instr.lookup
  simp [run_underlying Tryz.underlying162, hg, h1, Instr.findKey, run_underlying Tryz.underlying3, Instr.findNow, h2]
/-- The first entry of a map of ints. -/
theorem upd_nil93 (w : World) (M c : Nat) (x : Int) (h : w.heap[M]? = some (.map #[] c)) :
    ∃ w', (Instr.mapUpdate 162 (.map (some M)) (.int .i64 x) (.bool true)).run Tryz.prog w = .ok () w' ∧ w.grownBy w' (some M) := by
  have h1 := check3 w x false
  have hg : (getObj M).run Tryz.prog w = .ok (.map #[] c) w := by simp [getObj, Sem.run, h]
  have hset := fun (o : Obj) => MapKept.run_setObj_map (P := Tryz.prog) (w := w) o h
  refine ⟨Go.ChangeMaps.setBlock w M (.map #[{ key := .int .i64 x, val := .bool true, born := c }] (c + 1)), ?_, rfl, rfl, rfl, by simp [Go.ChangeMaps.setBlock], fun i _ hi => ?_⟩
  · unfold Instr.mapUpdate
    simp [run_underlying Tryz.underlying162, hg, h1, Instr.findKey, run_underlying Tryz.underlying3, Instr.findNow, hset]
    rfl
  · have hne : M ≠ i := fun e => hi (by rw [e])
    show (w.heap.setIfInBounds M _)[i]? = _
    rw [Array.getElem?_setIfInBounds_ne hne]

set_option maxHeartbeats 4000000 in
theorem parent_ok (tb cb n mb i s pb eb ec : Nat) (nm nm2 : List UInt8) (kind owner owner2 : Int) (pv2 : Value) (w : World) (hT : TT w tb cb n mb) (hi : i < n) (hs : s < n) (hB : BC w cb (i * 13) nm kind owner (.slice (some ⟨pb, 0, none⟩) 2 2))
    (hB2 : BC w cb (s * 13) nm2 1 owner2 pv2) (p5 : w.cell? ⟨pb, 5, none⟩ = some (.int .i64 10)) (p6 : w.cell? ⟨pb, 6, none⟩ = some (.int .i64 s)) (p9 : w.cell? ⟨pb, 9, none⟩ = some nilS) (he : w.heap[eb]? = some (.map #[] ec)) :
    Calls Tryz.prog 127 #[.pointer (some ⟨tb, 0, none⟩), .pointer (some ⟨cb, i * 13, none⟩), .int .i64 1, .map (some eb)] w fun e w' => e = .returned (.int .i64 0) ∧ ∃ q, w' = w.drewN q := by
  have hl := fun q => look_nil93 (w.drewN q) eb ec s he
  obtain ⟨a0, a1, a2, a3, a4, a5, a6⟩ := hT
  obtain ⟨c0, c1, c2, c3, c4, c5, c6, c7, c8, c9⟩ := hB
  obtain ⟨d0, d1, d2, d3, d4, d5, d6, d7, d8, d9⟩ := hB2
  clear a1 a2 a3 a4 a5 a6 he
  go_enter Tryz.func127, Tryz.ntmps127
  go_wp2
  go_quiet ((go_at_call 38; exact quiet_left (isIndex_in _ (by omega) (by omega))))
  go_wp2
  go_quiet (fail)
  go_wp2_with (go_at_call 95; refine (has0 _ _ (by omega)).mono ?_; rintro e w' ⟨rfl, rfl⟩)
  go_quiet (fail)
  go_wp2_with (go_at_call 95; refine (has0 _ _ (by omega)).mono ?_; rintro e w' ⟨rfl, rfl⟩)
  go_ret
  exact ⟨rfl, _, rfl⟩

/-- A class whose parent is TAny. -/
theorem parents_one (tb cb n mb i pb : Nat) (nm : List UInt8) (kind owner : Int) (w : World) (hT : TT w tb cb n mb) (hi : i < n) (hB : BC w cb (i * 13) nm kind owner (.slice (some ⟨pb, 0, none⟩) 1 1)) (p0 : w.cell? ⟨pb, 0, none⟩ = some (.int .i64 1)) :
    Calls Tryz.prog 84 #[.pointer (some ⟨tb, 0, none⟩), .int .i64 i] w fun e w' => e = .returned (.int .i64 0) ∧ Below w.heap.size w w' := by
  have hmm := @run_makeMap Tryz.prog
  obtain ⟨a0, a1, a2, a3, a4, a5, a6⟩ := hT
  obtain ⟨c0, c1, c2, c3, c4, c5, c6, c7, c8, c9⟩ := hB
  have hcb : cb < w.heap.size := block_lt_of_cell c0
  have hpb : pb < w.heap.size := block_lt_of_cell p0
  clear a1 a2 a3 a4 a5 a6
  go_enter Tryz.func84, Tryz.ntmps84
  go_wp2
  go_loopw [34] (fun i wr => ∃ k : Nat, k ≤ 1 ∧ i = .int .i64 k ∧ wr = w.alloc (.map #[] 0)) (fun i _ => 1 - (intOf i).toNat)
  case atStart => exact ⟨0, by omega, rfl, rfl⟩
  case round =>
    obtain ⟨k, hk, rfl, rfl⟩ := hrel
    match k, hk with
    | 0, _ =>
      go_wp2
      go_roundw
      case rel => exact ⟨1, by omega, by go_num, by trivial⟩
      case measure => simp [intOf]
    | 1, _ =>
      go_wp2
      go_ret
      exact ⟨rfl, (Below.refl _ _).alloc (Nat.le_refl _) _⟩

/-- A class whose parents are TAny and a trait. -/
theorem parents_two (tb cb n mb i s pb : Nat) (nm nm2 : List UInt8) (kind owner owner2 : Int) (pv2 : Value) (w : World) (hT : TT w tb cb n mb) (hi : i < n) (hs : s < n) (hB : BC w cb (i * 13) nm kind owner (.slice (some ⟨pb, 0, none⟩) 2 2))
    (hB2 : BC w cb (s * 13) nm2 1 owner2 pv2) (p0 : w.cell? ⟨pb, 0, none⟩ = some (.int .i64 1)) (p5 : w.cell? ⟨pb, 5, none⟩ = some (.int .i64 10)) (p6 : w.cell? ⟨pb, 6, none⟩ = some (.int .i64 s)) (p9 : w.cell? ⟨pb, 9, none⟩ = some nilS) :
    Calls Tryz.prog 84 #[.pointer (some ⟨tb, 0, none⟩), .int .i64 i] w fun e w' => e = .returned (.int .i64 0) ∧ Below w.heap.size w w' := by
  have hmm := @run_makeMap Tryz.prog
  have hb1 : Below w.heap.size w (w.alloc (.map #[] 0)) := (Below.refl _ _).alloc (Nat.le_refl _) _
  have cP := parent_ok tb cb n mb i s pb w.heap.size 0 nm nm2 kind owner owner2 pv2 (w.alloc (.map #[] 0)) (hT.bel hb1 (block_lt_of_cell hT.c0)) hi hs (hB.bel hb1 (block_lt_of_cell hB.c0)) (hB2.bel hb1 (block_lt_of_cell hB.c0))
    ((hb1.cell (p := ⟨pb, 5, none⟩) (block_lt_of_cell p5)).trans p5) ((hb1.cell (p := ⟨pb, 6, none⟩) (block_lt_of_cell p6)).trans p6) ((hb1.cell (p := ⟨pb, 9, none⟩) (block_lt_of_cell p9)).trans p9) (alloc_blk w _)
  obtain ⟨a0, a1, a2, a3, a4, a5, a6⟩ := hT
  obtain ⟨c0, c1, c2, c3, c4, c5, c6, c7, c8, c9⟩ := hB
  have hcb : cb < w.heap.size := block_lt_of_cell c0
  have hpb : pb < w.heap.size := block_lt_of_cell p0
  clear a1 a2 a3 a4 a5 a6 hB2 p9
  go_enter Tryz.func84, Tryz.ntmps84
  go_wp2
  go_loopw [34] (fun i wr => ∃ k : Nat, k ≤ 2 ∧ i = .int .i64 k ∧ (k < 2 → wr = w.alloc (.map #[] 0)) ∧ Hid (Below w.heap.size w wr) ) (fun i _ => 2 - (intOf i).toNat)
  case atStart => exact ⟨0, by omega, rfl, fun _ => rfl, Lib.hid hb1⟩
  case round =>
    obtain ⟨k, hk, rfl, hw, HB⟩ := hrel
    match k, hk with
    | 0, _ =>
      obtain rfl := hw (by omega)
      go_wp2
      go_roundw
      case rel => exact ⟨1, by omega, by go_num, fun _ => by trivial, HB⟩
      case measure => simp [intOf]
    | 1, _ =>
      obtain rfl := hw (by omega)
      go_wp2_with fail
      refine cP.mono ?_
      rintro e w2 ⟨rfl, q, rfl⟩
      obtain ⟨w3, hu, hg⟩ := upd_nil93 ((w.alloc (.map #[] 0)).drewN q) w.heap.size 0 s (alloc_blk w _)
      have hb3 : Below w.heap.size w w3 := ((hb1.trans ((below_drewN _ _).mono (by simp))).grown hg (by simp) (fun j hj => by cases hj; exact Nat.le_refl _))
      have HB3 := Lib.hid hb3
      clear hg hb3 cP
      go_wp2
      go_roundw
      case rel => exact ⟨2, by omega, by go_num, fun h => absurd h (by omega), HB3⟩
      case measure => simp [intOf]
    | 2, _ =>
      clear cP hw
      go_wp2
      go_ret
      exact ⟨rfl, HB.out⟩
end Go.Proofs.YtlipfgdjbimfjaaGreatDoor
