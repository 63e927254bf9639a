/- kindForm. -/
import Derived.Test.YthcoigdmammamaaGreatDoorS24
import Derived.Laws.Tables
namespace Go.Proofs.YthcoigdmammamaaGreatDoor
open Go.RowKit Go.Shelf Go.Sort
set_option maxRecDepth 100000

/-- The forms of the kinds, as bytes. -/
def kforms : List (List UInt8) := [[], [68, 42], [], [83, 77, 111, 100, 115, 32, 83, 78, 97, 109, 101, 115, 32, 83, 76, 105, 115, 116, 115, 32, 83, 80, 97, 114, 101, 110, 116, 115, 32, 83, 66, 111, 100, 121, 63], [83, 77, 111, 100, 115, 32, 83, 78, 97, 109, 101, 115, 32, 83, 76, 105, 115, 116, 115, 32, 84, 63, 32, 69, 63], [83, 77, 111, 100, 115, 32, 84, 63, 32, 69, 63], [83, 77, 111, 100, 115, 32, 83, 78, 97, 109, 101, 115, 32, 84, 63, 32, 84, 63, 32, 84, 63], [83, 77, 111, 100, 115, 32, 83, 78, 97, 109, 101, 115, 32, 83, 76, 105, 115, 116, 115, 32, 84, 32, 69], [83, 78, 97, 109, 101, 115, 32, 83, 80, 97, 114, 97, 109, 32, 83, 68, 101, 102, 43], [83, 78, 97, 109, 101, 115, 32, 83, 76, 105, 115, 116, 115, 32, 83, 80, 97, 114, 101, 110, 116, 115], [], [83, 84, 80, 97, 114, 97, 109, 42], [84, 63, 32, 84, 63, 32, 83, 78, 111, 110, 101, 42], [83, 80, 97, 114, 97, 109, 115, 42], [83, 80, 97, 114, 97, 109, 42], [83, 77, 111, 100, 115, 32, 84, 32, 69, 63], [83, 80, 97, 114, 101, 110, 116, 42], [84, 32, 69, 42], [83, 42], [], [88, 78, 97, 109, 101, 124, 88, 84, 104, 105, 115, 124, 88, 83, 101, 108, 101, 99, 116], [84, 32, 84, 43], [84, 42, 32, 84], [84, 32, 84], [84, 32, 84], [88, 78, 97, 109, 101, 124, 88, 84, 104, 105, 115, 124, 88, 83, 101, 108, 101, 99, 116], [84, 63, 32, 84, 63], [83, 78, 97, 109, 101, 115, 32, 84], [84, 32, 84, 67, 97, 115, 101, 43], [84, 32, 84], [], [69], [69, 32, 69, 124, 88, 78, 97, 109, 101, 100, 42], [69], [69, 32, 84, 43], [69, 32, 69], [69], [69, 32, 69], [], [], [], [], [], [], [], [], [], [], [88, 83, 116, 114, 105, 110, 103, 32, 69, 44, 88, 83, 116, 114, 105, 110, 103, 42], [69, 32, 69, 32, 69, 63], [69, 32, 69], [83, 71, 101, 110, 101, 114, 97, 116, 111, 114, 32, 83, 71, 101, 110, 101, 114, 97, 116, 111, 114, 124, 83, 66, 105, 110, 100, 105, 110, 103, 124, 83, 71, 117, 97, 114, 100, 42, 32, 69], [80, 32, 69], [80, 32, 69], [69], [69, 32, 83, 67, 97, 115, 101, 43], [80, 32, 69, 63, 32, 69], [69, 32, 83, 67, 97, 115, 101, 115, 32, 69, 63], [83, 67, 97, 115, 101, 42], [69], [69, 63], [83, 76, 97, 109, 98, 100, 97, 80, 97, 114, 97, 109, 42, 32, 69], [84, 63], [83, 42], [83, 80, 97, 114, 101, 110, 116, 115, 32, 83, 66, 111, 100, 121, 63], [69, 32, 84], [69], [69], [], [80], [84], [88, 73, 110, 116, 124, 88, 76, 111, 110, 103, 124, 88, 67, 104, 97, 114, 124, 88, 83, 116, 114, 105, 110, 103, 124, 88, 84, 114, 117, 101, 124, 88, 70, 97, 108, 115, 101, 124, 88, 78, 117, 108, 108, 124, 88, 85, 110, 105, 116, 124, 88, 80, 114, 101, 102, 105, 120], [], [80, 42], [80, 32, 80, 43]]
theorem kforms_len : kforms.length = 75 := by kernel_rfl
/-- The table as cells. -/
def FBc : Array Value := (kforms.map fun x => Value.string (bs x)).toArray
theorem FBc_size : FBc.size = 75 := by kernel_rfl
theorem wpList_build_as {P : Program} {ops : Array Oper} {rest : List Oper} {o : Oper} {a : Act} {w : World} {Q : Exit → Act → World → Prop} (hg : o.guard = none) (t : TypeId) (parts : Array (Nat × Operand)) (ho : o.op = .build t parts)
    (cells : Array Value) (hf : P.built t (parts.map fun (i, x) => (i, a.eval x)).toList = some cells)
    (h : wpList P ops Q rest (a.put o.dst (.agg cells)) w) : wpList P ops Q (o :: rest) a w :=
  wpList_build hg t parts ho (by rw [hf]; rfl) (by rw [hf]; exact h)

set_option maxHeartbeats 2000000 in
theorem kindForm_any (k : Nat) (hk : k < 75) (w : World) : Calls Tryz.prog 48 #[.int .i64 k] w fun e w' => e = .returned (.string (bs (kforms.getD k []))) ∧ Below w.heap.size w w' := by
  have hc : FBc[k]? = some (.string (bs (kforms.getD k []))) := by
    have : k < kforms.length := by rw [kforms_len]; exact hk
    simp [FBc, List.getD_eq_getElem?_getD, this]
  have h0 : (0 : Int) ≤ (k : Int) := by omega
  have h1 : (k : Int) < 75 := by omega
  generalize hv : bs (kforms.getD k []) = v at *
  clear hv
  have hcell : ((w.alloc (.cells Tryz.zeroCells92 92)).setRow w.heap.size FBc).cell? ⟨w.heap.size, k, none⟩ = some (.string v) := by
    rw [cell_setRow_same _ _ _ _ _ _ _ (alloc_blk w _)]; exact hc
  have HB : Hid (Below w.heap.size w ((w.alloc (.cells Tryz.zeroCells92 92)).setRow w.heap.size FBc)) :=
    ⟨rfl, rfl, rfl, by simp, fun j hj => by rw [setRow_other _ _ _ _ (by omega), Below.heap_alloc _ _ _ hj]⟩
  clear hc
  go_enter Tryz.func48, Tryz.ntmps48
  go_wp2_with (first
    | (refine wpList_build_as rfl 92 _ rfl FBc (by kernel_rfl) ?_)
    | (refine wpList_store_row rfl 92 _ _ rfl w.heap.size FBc rfl rfl 92 _ (alloc_blk w _) (by kernel_rfl) (by kernel_rfl) (by kernel_rfl) ?_))
  go_ret
  exact ⟨rfl, HB.out⟩
end Go.Proofs.YthcoigdmammamaaGreatDoor
