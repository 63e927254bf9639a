/- Few; Size, small and named as calls. -/
import Derived.Test.YthcoigdmammamaaGreatDoorS3
namespace Go.Proofs.YthcoigdmammamaaGreatDoor
open Go.RowKit Go.Shelf
set_option maxRecDepth 100000

theorem size_any (x : Nd) (v : Value) (B : Nat) (w : World) (hl : Ls w B v x.kids) (hB : B ≤ w.heap.size) (hok : x.ok) (hx : x.nodes ≤ 20000) :
    Calls Tryz.prog 10 #[nv x v] w fun e w' => e = .returned (.int .i64 x.nodes) ∧ Below w.heap.size w w' :=
  callsIn_wide.1 (size_in Fence.wide rfl 3 trivial trivial trivial trivial rfl (by omega) x v B w hl hB hok hx)

set_option maxHeartbeats 1000000 in
theorem small_any (x : Nd) (v : Value) (B : Nat) (w : World) (hl : Ls w B v x.kids) (hB : B ≤ w.heap.size) (hok : x.ok) (hx : x.nodes ≤ 20000) :
    Calls Tryz.prog 25 #[nv x v] w fun e w' => e = .returned (.bool true) ∧ Below w.heap.size w w' := by
  obtain ⟨va, vc, rfl⟩ := hl.slice
  have hb0 : Below w.heap.size w (w.alloc (NB x (.slice va x.kids.length vc))) := (Below.refl _ w).alloc (Nat.le_refl _) _
  have c := size_any x _ B (w.alloc (NB x (.slice va x.kids.length vc))) (hl.bel (hb0.mono hB)) (by simp; omega) hok hx
  have h1 : decide ((x.nodes : Int) ≤ 20000) = true := by simp; omega
  have h2 : (x.nodes : Int) ≤ 20000 := by omega
  have HB0 := Lib.hid hb0
  clear hl hb0
  go_enter Tryz.func25, Tryz.ntmps25
  go_wp2_with (go_at_call 10; refine c.mono ?_; clear c; rintro e w1 ⟨rfl, hb1⟩)
  go_ret
  exact ⟨rfl, HB0.out.trans (hb1.mono (by simp))⟩

set_option maxHeartbeats 1000000 in
theorem few_any (x : Nd) (v : Value) (B : Nat) (w : World) (hl : Ls w B v x.kids) (hB : B ≤ w.heap.size) (hsz : x.text.size ≤ 140737488355328) :
    Calls Tryz.prog 5 #[nv x v] w fun e w' => Below w.heap.size w w' ∧ ∃ r : Bool, e = .returned (.bool r) ∧ (r = true → x.nodes ≤ 1500 ∧ x.bytes ≤ 3000) := by
  obtain ⟨va, vc, rfl⟩ := hl.slice
  obtain ⟨w3, hw3⟩ : ∃ w3, ((w.alloc (NB x (.slice va x.kids.length vc))).alloc (IB 1500)).alloc (IB 3000) = w3 := ⟨_, rfl⟩
  have hb0 : Below w.heap.size w w3 := by rw [← hw3]; exact (((Below.refl _ w).alloc (Nat.le_refl _) _).alloc (by simp) _).alloc (by simp; omega) _
  have hP : w3.heap[w.heap.size + 1]? = some (IB 1500) := by
    rw [← hw3, Below.heap_alloc _ _ _ (by simp)]
    have h := alloc_blk (w.alloc (NB x (.slice va x.kids.length vc))) (IB 1500)
    rw [World.size_alloc] at h; exact h
  have hQ : w3.heap[w.heap.size + 1 + 1]? = some (IB 3000) := by
    rw [← hw3]
    have h := alloc_blk ((w.alloc (NB x (.slice va x.kids.length vc))).alloc (IB 1500)) (IB 3000)
    rw [World.size_alloc, World.size_alloc] at h; exact h
  have c := count_any (SizeOf.sizeOf x) x (.slice va x.kids.length vc) w.heap.size (w.heap.size + 1) (w.heap.size + 1 + 1) 1500 3000 w3 (Nat.le_refl _) ((hl.up hB).bel hb0) hsz (by omega) (by omega) (by omega) hP hQ (by omega) (by omega) (by omega) (by omega)
  have HB0 := Lib.hid hb0
  rw [← hw3] at c
  have HW3 := Lib.hid hw3
  clear hl hb0 hP hQ hw3
  go_enter Tryz.func5, Tryz.ntmps5
  go_wp2_with (go_at_call 15; refine c.mono ?_; clear c; rintro e w4 ⟨r, p', q', rfl, hp4, hq4, hb4, hp5, hq5, hr⟩)
  go_ret
  rw [HW3.out] at hb4
  refine ⟨HB0.out.trans hb4, r, rfl, ?_⟩
  intro h
  obtain ⟨h1, h2, h3, h4⟩ := hr h
  omega
end Go.Proofs.YthcoigdmammamaaGreatDoor
