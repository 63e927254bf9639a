/- once: a name is told that was not seen. -/
import Derived.Test.YtlipfgdjbimfjaaGreatDoorP15
import Derived.Test.YtlipfgdjbimfjaaGreatDoorP9
import Derived.DeepKeys4
import Derived.Maps.Keyed
import Derived.StillTailTactics
namespace Go.Proofs.YtlipfgdjbimfjaaGreatDoor
open Go.RowKit Go.Shelf Go.Sort
set_option maxRecDepth 100000

theorem laidOutP : laidOutB Tryz.prog = true := by kernel_rfl
theorem law110 : WideMaps.KeyLaw Tryz.prog 172 := deep_law_laid laidOutP (m := 2) (by omega) (of_decide_eq_true (by kernel_rfl)) (by kernel_rfl) (by rw [Tryz.underlying172])
/-- Entries whose keys read. -/
def KeysOk (es : Array MapEntry) : Prop := ∀ e ∈ es.toList, ∃ l, keyOf Tryz.prog 172 e.key = some l
theorem find_none (w : World) (key : Value) (l : Lit) (es : Array MapEntry) (hk : keyOf Tryz.prog 172 key = some l) (he : KeysOk es) (hne : ∀ e ∈ es.toList, e.key ≠ key) :
    (Instr.findKey 172 key es.toList).run Tryz.prog w = .ok none w := by
  rcases (law110).find w hk es.toList he with ⟨h, _⟩ | ⟨j, e, _, h2, h3⟩
  · exact h
  · exact absurd h3 (hne e (List.mem_of_getElem? h2))
theorem look_none (w : World) (M c : Nat) (key : Value) (l : Lit) (es : Array MapEntry) (h : w.heap[M]? = some (.map es c)) (hk : keyOf Tryz.prog 172 key = some l) (he : KeysOk es) (hne : ∀ e ∈ es.toList, e.key ≠ key) :
    (Instr.lookup 111 (.map (some M)) key false).run Tryz.prog w = .ok (.bool false) w := by
  have h1 := (law110).check w es.isEmpty hk
  have h2 := zero4 w
  have h3 := find_none w key l es hk he hne
  have hg : (getObj M).run Tryz.prog w = .ok (.map es c) w := by simp [getObj, Sem.run, h]
  unfold Instr.lookup
  simp [run_underlying Tryz.underlying111, hg, h1, h3, h2]
theorem upd_none (w : World) (M c : Nat) (key : Value) (l : Lit) (es : Array MapEntry) (h : w.heap[M]? = some (.map es c)) (hk : keyOf Tryz.prog 172 key = some l) (he : KeysOk es) (hne : ∀ e ∈ es.toList, e.key ≠ key) :
    ∃ w', (Instr.mapUpdate 111 (.map (some M)) key (.bool true)).run Tryz.prog w = .ok () w' ∧ w'.heap[M]? = some (.map (es.push { key := key, val := .bool true, born := c }) (c + 1)) ∧ w.grownBy w' (some M) := by
  have h1 := (law110).check w false hk
  have h3 := find_none w key l es hk he hne
  have hg : (getObj M).run Tryz.prog w = .ok (.map es c) w := by simp [getObj, Sem.run, h]
  have hset := fun (o : Obj) => MapKept.run_setObj_map (P := Tryz.prog) (w := w) o h
  have hlt : M < w.heap.size := (Array.getElem?_eq_some_iff.1 h).1
  refine ⟨Go.ChangeMaps.setBlock w M (.map (es.push { key := key, val := .bool true, born := c }) (c + 1)), ?_, ?_, rfl, rfl, rfl, by simp [Go.ChangeMaps.setBlock], fun i _ hi => ?_⟩
  · unfold Instr.mapUpdate
    simp [run_underlying Tryz.underlying111, hg, h1, h3, hset]
    rfl
  · show (w.heap.setIfInBounds M _)[M]? = _
    simp [hlt]
  · have hne2 : M ≠ i := fun e => hi (by rw [e])
    show (w.heap.setIfInBounds M _)[i]? = _
    rw [Array.getElem?_setIfInBounds_ne hne2]

set_option maxHeartbeats 1000000 in
theorem once_ok (tb cb n mb c : Nat) (x0 x1 x2 : Int) (s : ByteArray) (b : Bool) (l : Lit) (es : Array MapEntry) (w : World) (hT : TT w tb cb n mb) (hM : w.heap[mb]? = some (.map es c))
    (hk : keyOf Tryz.prog 172 (.agg #[.int .i64 x0, .int .i64 x1, .int .i64 x2, .string s, .bool b]) = some l) (he : KeysOk es) (hne : ∀ e ∈ es.toList, e.key ≠ .agg #[.int .i64 x0, .int .i64 x1, .int .i64 x2, .string s, .bool b]) :
    Calls Tryz.prog 135 #[.pointer (some ⟨tb, 0, none⟩), .agg #[.int .i64 x0, .int .i64 x1, .int .i64 x2, .string s, .bool b]] w fun e w' => e = .returned (.int .i64 0) ∧
      w'.heap[mb]? = some (.map (es.push { key := .agg #[.int .i64 x0, .int .i64 x1, .int .i64 x2, .string s, .bool b], val := .bool true, born := c }) (c + 1)) ∧ w.grownBy w' (some mb) := by
  obtain ⟨W, hW⟩ : ∃ W, w.alloc (.cells #[.int .i64 x0, .int .i64 x1, .int .i64 x2, .string s, .bool b] 172) = W := ⟨_, rfl⟩
  have hb0 : Below w.heap.size w W := by rw [← hW]; exact (Below.refl _ w).alloc (Nat.le_refl _) _
  have hmb : mb < w.heap.size := (Array.getElem?_eq_some_iff.1 hM).1
  have htb : tb < w.heap.size := block_lt_of_cell hT.c0
  obtain ⟨a0, a1, a2, a3, a4, a5, a6⟩ := hT.bel hb0 htb
  have hMW : W.heap[mb]? = some (.map es c) := (hb0.block mb hmb).trans hM
  have p0 : W.cell? ⟨w.heap.size, 0, none⟩ = some (.int .i64 x0) := by rw [← hW]; simp
  have p1 : W.cell? ⟨w.heap.size, 1, none⟩ = some (.int .i64 x1) := by rw [← hW]; simp
  have p2 : W.cell? ⟨w.heap.size, 2, none⟩ = some (.int .i64 x2) := by rw [← hW]; simp
  have p3 : W.cell? ⟨w.heap.size, 3, none⟩ = some (.string s) := by rw [← hW]; simp
  have p4 : W.cell? ⟨w.heap.size, 4, none⟩ = some (.bool b) := by rw [← hW]; simp
  have hl := fun q => look_none (W.drewN q) mb c _ l es hMW hk he hne
  have hu := fun (V : World) (hV : V.heap[mb]? = some (.map es c)) => upd_none V mb c _ l es hV hk he hne
  have HB0 := Lib.hid hb0
  have HMW := Lib.hid hMW
  have HMB := Lib.hid hmb
  have HU := Lib.hid hu
  have HW := Lib.hid hW
  clear hT hM hk he hne hb0 hMW hW a0 a1 a2 a3 a4 a5 hmb htb hu
  go_enter Tryz.func135, Tryz.ntmps135
  go_upto_region 1 with fail
  rw [HW.out]
  go_quiet (fail)
  go_wp2
  generalize hV0 : W.drewN _ = V0
  have b6 : V0.cell? ⟨tb, 6, none⟩ = some (.map (some mb)) := by rw [← hV0]; exact a6
  have q0 : V0.cell? ⟨w.heap.size, 0, none⟩ = some (.int .i64 x0) := by rw [← hV0]; exact p0
  have q1 : V0.cell? ⟨w.heap.size, 1, none⟩ = some (.int .i64 x1) := by rw [← hV0]; exact p1
  have q2 : V0.cell? ⟨w.heap.size, 2, none⟩ = some (.int .i64 x2) := by rw [← hV0]; exact p2
  have q3 : V0.cell? ⟨w.heap.size, 3, none⟩ = some (.string s) := by rw [← hV0]; exact p3
  have q4 : V0.cell? ⟨w.heap.size, 4, none⟩ = some (.bool b) := by rw [← hV0]; exact p4
  have hgV0 : W.grownBy V0 (some mb) := by rw [← hV0]; exact ⟨rfl, rfl, rfl, Nat.le_refl _, fun _ _ _ => rfl⟩
  have hM0 : V0.heap[mb]? = some (.map es c) := by rw [← hV0]; exact HMW.out
  have HGV0 := Lib.hid hgV0
  have HM0 := Lib.hid hM0
  clear hV0 a6 p0 p1 p2 p3 p4 hl hgV0 hM0
  go_still_tail 5, (by kernel_rfl)
  change wpList _ _ _ _ _ (World.drew _)
  obtain ⟨V, hV⟩ : ∃ V, V0.drew = V := ⟨_, rfl⟩
  have hVM : V.heap[mb]? = some (.map es c) := by rw [← hV]; exact HM0.out
  obtain ⟨w2, hrun, hm2, hg2⟩ := HU.out V hVM
  have hgV : W.grownBy V (some mb) := HGV0.out.trans (by rw [← hV]; exact ⟨rfl, rfl, rfl, Nat.le_refl _, fun _ _ _ => rfl⟩)
  have HG := Lib.hid (hgV.trans hg2)
  have HM2 := Lib.hid hm2
  rw [hV]
  clear hV hVM hgV hg2 hm2
  go_wp2
  go_ret
  refine ⟨rfl, HM2.out, ?_⟩
  have hg0 : w.grownBy W (some mb) := by rw [← HW.out]; exact World.grownBy_alloc _ _ _
  exact hg0.trans HG.out
end Go.Proofs.YtlipfgdjbimfjaaGreatDoor
