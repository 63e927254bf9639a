/- Equal: a new tree against the same tree elsewhere. -/
import Derived.Test.YthcoigdmammamaaGreatDoorS11
namespace Go.Proofs.YthcoigdmammamaaGreatDoor
open Go.RowKit Go.Shelf Go.Sort
set_option maxRecDepth 100000

set_option maxHeartbeats 2000000 in
theorem Equal_any (x : Nd) (va vb : Value) (B : Nat) (w : World) (hx : x.nodes ≤ 20000) (hok : x.ok) (hB : B ≤ w.heap.size) (hla : LsS w (fun j => Free w j ∧ B ≤ j ∧ j < w.heap.size) va x.kids) (hlb : Ls w B vb x.kids) :
    Calls Tryz.prog 9 #[nv x va, nv x vb] w fun e w' => e = .returned (.bool true) ∧ Below w.heap.size w w' := by
  obtain ⟨aa, ca, rfl⟩ := LsS.slice hla
  obtain ⟨ab, cb, rfl⟩ := hlb.slice
  obtain ⟨w1, hw1⟩ : ∃ w1, (((w.alloc (NB x (.slice aa x.kids.length ca))).alloc (NB x (.slice ab x.kids.length cb))).alloc (.map #[] 0)).alloc (CB 0 (w.heap.size + 2)) = w1 := ⟨_, rfl⟩
  have hb0 : Below w.heap.size w w1 := by rw [← hw1]; exact ((((Below.refl _ w).alloc (Nat.le_refl _) _).alloc (by simp) _).alloc (by simp; omega) _).alloc (by simp; omega) _
  have hP : w1.heap[w.heap.size]? = some (NB x (.slice aa x.kids.length ca)) := by
    rw [← hw1, Below.heap_alloc _ _ _ (by simp; omega), Below.heap_alloc _ _ _ (by simp; omega), Below.heap_alloc _ _ _ (by simp)]; exact alloc_blk w _
  have hQ : w1.heap[w.heap.size + 1]? = some (NB x (.slice ab x.kids.length cb)) := by
    rw [← hw1, Below.heap_alloc _ _ _ (by simp), Below.heap_alloc _ _ _ (by simp)]
    have h := alloc_blk (w.alloc (NB x (.slice aa x.kids.length ca))) (NB x (.slice ab x.kids.length cb))
    rw [World.size_alloc] at h; exact h
  have hM : w1.heap[w.heap.size + 2]? = some (.map #[] 0) := by
    rw [← hw1, Below.heap_alloc _ _ _ (by simp)]
    have h := alloc_blk ((w.alloc (NB x (.slice aa x.kids.length ca))).alloc (NB x (.slice ab x.kids.length cb))) (.map #[] 0)
    rw [World.size_alloc, World.size_alloc] at h; exact h
  have hC : w1.heap[w.heap.size + 3]? = some (CB 0 (w.heap.size + 2)) := by
    rw [← hw1]
    have h := alloc_blk (((w.alloc (NB x (.slice aa x.kids.length ca))).alloc (NB x (.slice ab x.kids.length cb))).alloc (.map #[] 0)) (CB 0 (w.heap.size + 2))
    rw [World.size_alloc, World.size_alloc, World.size_alloc] at h; exact h
  have na : NC w1 w.heap.size 0 x (.slice aa x.kids.length ca) := ⟨blk_cell hP 0, blk_cell hP 1, blk_cell hP 2, blk_cell hP 3, blk_cell hP 4, hok, blk_free hP 0⟩
  have nb : NC w1 (w.heap.size + 1) 0 x (.slice ab x.kids.length cb) := ⟨blk_cell hQ 0, blk_cell hQ 1, blk_cell hQ 2, blk_cell hQ 3, blk_cell hQ 4, hok, blk_free hQ 0⟩
  have la : LsS w1 (fun j => Free w1 j ∧ B ≤ j ∧ j < w.heap.size + 3) (.slice aa x.kids.length ca) x.kids := LsS.of hla (fun j hj => hb0.block _ hj.2.2) (fun j hj => ⟨hj.1.of (hb0.block _ hj.2.2), hj.2.1, by omega⟩)
  have lb : Ls w1 B (.slice ab x.kids.length cb) x.kids := hlb.bel (hb0.mono hB)
  have cE := equal_any (SizeOf.sizeOf x) x _ _ w.heap.size 0 (w.heap.size + 1) 0 (w.heap.size + 3) (w.heap.size + 2) 0 0 B w1 (Nat.le_refl _) na nb la lb hC hM (by omega) (by omega) (by omega) (by omega) (by omega)
  have HB0 := Lib.hid hb0
  rw [← hw1] at cE
  have HW1 := Lib.hid hw1
  clear hla hlb hb0 hP hQ hM hC na nb la lb hw1 hok
  have hmm := @run_makeMap Tryz.prog
  go_enter Tryz.func9, Tryz.ntmps9
  go_wp2_with fail
  refine cE.mono ?_
  clear cE
  rintro e w2 ⟨rfl, _, hb2⟩
  rw [HW1.out] at hb2
  go_wp2
  go_ret
  exact ⟨rfl, HB0.out.trans (hb2.mono (by omega))⟩
end Go.Proofs.YthcoigdmammamaaGreatDoor
