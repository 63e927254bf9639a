/- Check at the first example's program with a class without a name. -/
import Derived.Test.YtlipfgdjbimfjaaGreatDoorP20
namespace Go.Proofs.YtlipfgdjbimfjaaGreatDoor
open Go.RowKit Go.Shelf Go.Sort
set_option maxRecDepth 100000

theorem class_bad2 (tb cb cap : Nat) (w : World) (a0 : w.cell? ⟨tb, 0, none⟩ = some (.slice (some ⟨cb, 0, none⟩) 3 cap)) (c0 : w.cell? ⟨cb, 0, none⟩ = some (.string (bs []))) :
    Calls Tryz.prog 82 #[.pointer (some ⟨tb, 0, none⟩), .int .i64 0] w fun e w' => e = .returned (.int .i64 21) ∧ w = w' := by
  go_enter Tryz.func82, Tryz.ntmps82
  go_wp2_with fail
  refine (isName_any [] _ (by simp)).mono ?_; rintro e w' ⟨rfl, rfl⟩
  rw [show nameM [] = false from rfl]
  go_wp2
  go_ret
  exact ⟨rfl, rfl⟩

set_option maxHeartbeats 8000000 in
theorem check_bad (cb cap : Nat) (w : World) (hc : w.cell? ⟨cb, 0, none⟩ = some (.string (bs []))) :
    Calls Tryz.prog 27 #[PV cb 0 3 cap nilS nilS nilS nilS (.int .i64 (-1))] w fun e w' => e = .returned (.agg #[.int .i64 1, .int .i64 0, .int .i64 21]) ∧ Below w.heap.size w w' := by
  have hmm := @run_makeMap Tryz.prog
  have HC := Lib.hid hc
  obtain ⟨W1, hW1⟩ : ∃ W1, ((w.alloc (.cells #[.slice (some ⟨cb, 0, none⟩) 3 cap, nilS, nilS, nilS, nilS, .int .i64 (-1)] 28)).alloc (.cells #[.int .i64 0, .int .i64 0, .int .i64 0] 54)).alloc (.cells #[.int .i64 0, .int .i64 3, .int .i64 0, .int .i64 0, .int .i64 0, .int .i64 0] 109) = W1 := ⟨_, rfl⟩
  have cM := max6 (w.heap.size + 1 + 1) W1 (by rw [← hW1]; have h := alloc_blk ((w.alloc (.cells #[.slice (some ⟨cb, 0, none⟩) 3 cap, nilS, nilS, nilS, nilS, .int .i64 (-1)] 28)).alloc (.cells #[.int .i64 0, .int .i64 0, .int .i64 0] 54)) (.cells #[.int .i64 0, .int .i64 3, .int .i64 0, .int .i64 0, .int .i64 0, .int .i64 0] 109); rw [World.size_alloc, World.size_alloc] at h; exact h)
  rw [← hW1] at cM
  have HW1 := Lib.hid hW1
  clear hc hW1
  go_enter Tryz.func27, Tryz.ntmps27
  go_wp2_with fail
  refine cM.mono ?_
  rintro e w' ⟨rfl, hq⟩
  obtain rfl := hq.symm
  clear cM
  go_wp2_with fail
  refine (rules_any _).mono ?_
  rintro e w6 ⟨rfl, hq⟩
  have hC0 : Below w.heap.size w w6 ∧ w6.heap[w.heap.size + 1]? = some (.cells #[.int .i64 0, .int .i64 0, .int .i64 0] 54 (0, 0)) ∧ w6.heap[w.heap.size + 2]? = some (.cells #[.int .i64 0, .int .i64 3, .int .i64 0, .int .i64 0, .int .i64 0, .int .i64 0] 109 (0, 0)) ∧ w6.heap[w.heap.size + 3]? = some (.map #[] 0) ∧
      w6.heap[w.heap.size + 4]? = some (.cells #[.slice (some ⟨cb, 0, none⟩) 3 cap, nilS, nilS, nilS, nilS, .int .i64 (-1), .map (some (w.heap.size + 3))] 113 (0, 0)) ∧ w6.heap[w.heap.size + 5]? = some (.cells RC 118 (0, 0)) := by
    obtain ⟨h0, h1, h2, h3, h4, h5⟩ := alloc6 w (.cells #[.slice (some ⟨cb, 0, none⟩) 3 cap, nilS, nilS, nilS, nilS, .int .i64 (-1)] 28) (.cells #[.int .i64 0, .int .i64 0, .int .i64 0] 54) (.cells #[.int .i64 0, .int .i64 3, .int .i64 0, .int .i64 0, .int .i64 0, .int .i64 0] 109) (.map #[] 0)
      (.cells #[.slice (some ⟨cb, 0, none⟩) 3 cap, nilS, nilS, nilS, nilS, .int .i64 (-1), .map (some (w.heap.size + 3))] 113) (.cells RC 118)
    rw [hq]
    exact ⟨h0, h1, h2, h3, h4, h5⟩
  have HC0 := Lib.hid hC0
  have hz0 : (w.heap.size + 5 : Nat) = w.heap.size + 1 + 1 + 1 + 1 + 1 := rfl
  clear hC0 hq hmm HW1
  generalize hB : w.heap.size = B at *
  go_wp2
  simp only [Nat.add_assoc, Nat.reduceAdd]
  go_loop [35] (fun y => y = .int .i64 0) (fun _ => 0)
  case atStart => rfl
  case round =>
    obtain rfl := hrel
    obtain ⟨hbel, hres, hsiz, _, htab, hrul⟩ := HC0.out
    have hz6 : B + 6 ≤ w6.heap.size := (Array.getElem?_eq_some_iff.1 hrul).1
    have hcB : cb < B := by rw [← hB]; exact block_lt_of_cell HC.out
    have k0 := blk_cell hrul 0
    have k1 := blk_cell hrul 1
    simp only [RC] at k0 k1
    obtain ⟨V, hV⟩ : ∃ V, w6.alloc (.cells #[.int .i64 1, .func (.func 82) #[] #[]] 118) = V := ⟨_, rfl⟩
    have hb6 : Below w6.heap.size w6 V := by rw [← hV]; exact (Below.refl _ _).alloc (Nat.le_refl _) _
    have hr : V.heap[w6.heap.size]? = some (.cells #[.int .i64 1, .func (.func 82) #[] #[]] 118 (0, 0)) := by rw [← hV]; exact alloc_blk _ _
    have ks : V.cell? ⟨B + 2, 1, none⟩ = some (.int .i64 3) := (hb6.cell (p := ⟨B + 2, _, none⟩) (by show B + 2 < _; omega)).trans (blk_cell hsiz 1)
    have ka : V.cell? ⟨B + 4, 0, none⟩ = some (.slice (some ⟨cb, 0, none⟩) 3 cap) := (hb6.cell (p := ⟨B + 4, _, none⟩) (by show B + 4 < _; omega)).trans (blk_cell htab 0)
    have hresV := (hb6.block (B + 1) (by omega)).trans hres
    have z0 : V.cell? ⟨B + 1, 0, none⟩ = some (.int .i64 0) := blk_cell hresV 0
    have z1 : V.cell? ⟨B + 1, 1, none⟩ = some (.int .i64 0) := blk_cell hresV 1
    have z2 : V.cell? ⟨B + 1, 2, none⟩ = some (.int .i64 0) := blk_cell hresV 2
    have y0 := blk_free hresV 0
    have y1 := blk_free hresV 1
    have y2 := blk_free hresV 2
    have hbV : Below B w V := hbel.trans (hb6.mono (by omega))
    have cC := class_bad2 (B + 4) cb cap V ka ((hbV.cell (p := ⟨cb, _, none⟩) hcB).trans HC.out)
    have q0 := blk_cell hr 0
    have q1 := blk_cell hr 1
    have HBV := Lib.hid hbV
    have HV := Lib.hid hV
    clear hV hr hb6 hbel hres hsiz htab hrul ka hbV hresV
    go_upto_region 8 with fail
    rw [HV.out]
    go_wp2
    go_loop [43] (fun y => y = .int .i64 0) (fun _ => 0)
    case atStart => rfl
    case round =>
      obtain rfl := hrel
      go_wp2_with fail
      refine cC.mono ?_
      rintro e w7 ⟨rfl, rfl⟩
      clear cC
      go_wp2
      refine bodyPost_ret (v := .agg #[.int .i64 1, .int .i64 0, .int .i64 21]) (by simp [results, Tryz.results27, go_sem, z0, z1, z2]) rfl ⟨rfl, ?_⟩
      rw [hB]
      exact ((HBV.out.setCell (p := ⟨B + 1, 0, none⟩) (by simp) _).setCell (p := ⟨B + 1, 1, none⟩) (by simp) _).setCell (p := ⟨B + 1, 2, none⟩) (by simp) _
end Go.Proofs.YtlipfgdjbimfjaaGreatDoor
