/- awake: the walk. -/
import Derived.Test.YtlipfgdjbimfjaaGreatDoorP25
namespace Go.Proofs.YtlipfgdjbimfjaaGreatDoor
open Go.RowKit Go.Shelf Go.Sort
set_option maxRecDepth 100000

theorem clx_one (B : Nat) : ∀ u ∈ (CLX B).toList, u.oneCell' = true := by
  intro u hu
  simp only [CLX, List.mem_cons, List.not_mem_nil, or_false] at hu
  rcases hu with rfl | rfl | rfl | rfl | rfl | rfl | rfl | rfl | rfl | rfl | rfl | rfl | rfl | rfl | rfl | rfl | rfl | rfl | rfl | rfl | rfl | rfl | rfl | rfl | rfl | rfl | rfl | rfl | rfl | rfl | rfl | rfl | rfl | rfl | rfl | rfl | rfl | rfl | rfl <;> rfl
set_option maxHeartbeats 8000000 in
theorem awake_any (w : World) (hG : Gl w) (h0 : 0 < w.heap.size) : Calls Tryz.prog 10 #[] w fun e w' => e = .returned (.bool true) ∧ Below w.heap.size w w' := by
  obtain ⟨W, hW⟩ : ∃ W, ((((w.alloc (.cells #[.int .i64 1, .int .i64 0, .string ⟨#[]⟩, .int .i64 0, .slice none 0 0] 58)).alloc (.cells #[.int .i64 1, .int .i64 0, .string ⟨#[]⟩, .int .i64 0, .slice none 0 0, .int .i64 10, .int .i64 0, .string ⟨#[]⟩, .int .i64 0, .slice none 0 0] 58)).alloc (.cells #[.int .i64 1, .int .i64 0, .string ⟨#[]⟩, .int .i64 0, .slice none 0 0] 58)).alloc (.cells #[.string ⟨#[65]⟩, .int .i64 1, .int .i64 0, .int .i64 (-1), .slice none 0 0, .slice (some ⟨w.heap.size, 0, none⟩) 1 1, .slice none 0 0, .slice none 0 0, .slice none 0 0, .slice none 0 0, .slice none 0 0, .slice none 0 0, .int .i64 0, .string ⟨#[66]⟩, .int .i64 2, .int .i64 0, .int .i64 (-1), .slice none 0 0, .slice (some ⟨w.heap.size + 1, 0, none⟩) 2 2, .slice none 0 0, .slice none 0 0, .slice none 0 0, .slice none 0 0, .slice none 0 0, .slice none 0 0, .int .i64 0, .string ⟨#[67]⟩, .int .i64 0, .int .i64 0, .int .i64 1, .slice none 0 0, .slice (some ⟨w.heap.size + 1 + 1, 0, none⟩) 1 1, .slice none 0 0, .slice none 0 0, .slice none 0 0, .slice none 0 0, .slice none 0 0, .slice none 0 0, .int .i64 0] 36)).alloc (.cells #[.slice (some ⟨w.heap.size + 1 + 1 + 1, 0, none⟩) 3 3, .slice none 0 0, .slice none 0 0, .slice none 0 0, .slice none 0 0, .int .i64 (-1)] 28) = W := ⟨_, rfl⟩
  have hall : Below w.heap.size w W ∧ AW W w.heap.size ∧ W.heap.size = w.heap.size + 5 := by
    obtain ⟨g1, g2, g3, g4, g5, g6, g7⟩ := alloc5 w (.cells #[.int .i64 1, .int .i64 0, .string ⟨#[]⟩, .int .i64 0, .slice none 0 0] 58) (.cells #[.int .i64 1, .int .i64 0, .string ⟨#[]⟩, .int .i64 0, .slice none 0 0, .int .i64 10, .int .i64 0, .string ⟨#[]⟩, .int .i64 0, .slice none 0 0] 58) (.cells #[.int .i64 1, .int .i64 0, .string ⟨#[]⟩, .int .i64 0, .slice none 0 0] 58) (.cells (CLX w.heap.size) 36) (.cells #[.slice (some ⟨w.heap.size + 1 + 1 + 1, 0, none⟩) 3 3, .slice none 0 0, .slice none 0 0, .slice none 0 0, .slice none 0 0, .int .i64 (-1)] 28)
    rw [← hW]
    exact ⟨g1, ⟨g2, g3, g4, g5, g6⟩, g7⟩
  obtain ⟨hb0, hA, hWz⟩ := hall
  have cN := name3 W w.heap.size hA
  have HB0 := Lib.hid hb0
  have HA := Lib.hid hA
  have HWZ := Lib.hid hWz
  have HW := Lib.hid hW
  have HG := Lib.hid (hG.bel hb0 h0)
  clear hb0 hA hWz hW hG
  generalize hBB : w.heap.size = B at *
  go_enter Tryz.func10, Tryz.ntmps10
  go_wp2_with fail
  rw [HW.out]
  refine cN.mono ?_
  rintro e w1 ⟨rfl, hb1⟩
  have hA1 := HA.out.bel hb1 (by have := HWZ.out; omega)
  have HA1 := Lib.hid hA1
  have HB1 := Lib.hid hb1
  have hz1 := hb1.size
  have p0 := blk_cell hA1.p 0
  have p1 := blk_cell hA1.p 1
  have p2 := blk_cell hA1.p 2
  have p3 := blk_cell hA1.p 3
  have p4 := blk_cell hA1.p 4
  have p5 := blk_cell hA1.p 5
  have HZ1 := Lib.hid hz1
  have hlt1 : B + 4 < w1.heap.size := by have := HWZ.out; omega
  clear hA1 hb1 cN hz1
  go_wp2_with fail
  obtain ⟨V2, hV2⟩ : ∃ V2, w1.alloc (.cells #[.slice (some ⟨B + 3, 0, none⟩) 3 3, .slice none 0 0, .slice none 0 0, .slice none 0 0, .slice none 0 0, .int .i64 (-1)] 28) = V2 := ⟨_, rfl⟩
  have hb2 : Below w1.heap.size w1 V2 := by rw [← hV2]; exact (Below.refl _ _).alloc (Nat.le_refl _) _
  have hz2 : V2.heap.size = w1.heap.size + 1 := by rw [← hV2]; simp
  have hq2 : V2.heap[w1.heap.size]? = some (.cells #[.slice (some ⟨B + 3, 0, none⟩) 3 3, nilS, nilS, nilS, nilS, .int .i64 (-1)] 28 (0, 0)) := by rw [← hV2]; exact alloc_blk _ _
  have cC := clone_any (B + 3) (CLX B) V2 ((hb2.block _ (by omega)).trans HA1.out.cl) rfl (clx_one B)
  rw [hV2]
  generalize hQ : w1.heap.size = Q at *
  have HB2 := Lib.hid hb2
  have HZ2 := Lib.hid hz2
  have HQ2 := Lib.hid hq2
  have HQ := Lib.hid hQ
  clear hV2 hb2 hz2 hq2 p0 p1 p2 p3 p4 p5
  refine cC.mono ?_
  rintro e w3 ⟨⟨g, cap, cur, rfl, hg, hgb, hcur⟩, hb3⟩
  clear cC
  have hq3 := (hb3.block Q (by have := HZ2.out; omega)).trans HQ2.out
  have hcz : 39 ≤ cur.size := by
    have h := congrArg List.length hcur
    rw [List.length_take, Array.length_toList] at h
    have h2 : (CLX B).toList.length = 39 := rfl
    omega
  have hc0 : cur[0]? = some (.string ⟨#[65]⟩) := by
    have h : (cur.toList.take 39)[0]? = (CLX B).toList[0]? := by rw [hcur]
    rw [List.getElem?_take, if_pos (by omega), Array.getElem?_toList] at h
    exact h
  have hgQ : Q < g := by have := HZ2.out; omega
  have e0 := blk_cell hq3 0
  have f0 := blk_free hq3 0
  obtain ⟨U, hU⟩ : ∃ U, w3.setCell ⟨Q, 0, none⟩ (.slice (some ⟨g, 0, none⟩) 3 cap) = U := ⟨_, rfl⟩
  have hqU : U.heap[Q]? = some (.cells #[.slice (some ⟨g, 0, none⟩) 3 cap, nilS, nilS, nilS, nilS, .int .i64 (-1)] 28 (0, 0)) := by rw [← hU]; exact blk_set hq3 0 _
  have hgU : U.heap[g]? = some (.cells cur 36 (0, 0)) := by rw [← hU, Below.heap_setCell _ _ _ _ (by intro e; have e2 : g = Q := e; omega)]; exact hgb
  have hbU : Below Q V2 U := by rw [← hU]; exact (hb3.mono (by have := HZ2.out; omega) : Below Q V2 w3).setCell (p := ⟨Q, 0, none⟩) (Nat.le_refl Q) _
  have u0 := blk_cell hqU 0
  have ug : U.cell? ⟨g, 0, none⟩ = some (.string ⟨#[65]⟩) := (blk_cell hgU 0).trans hc0
  have uf := blk_free hgU 0
  have HHU := Lib.hid hU
  have HQU := Lib.hid hqU
  have HGU := Lib.hid hgU
  have HBU := Lib.hid hbU
  have HCZ := Lib.hid hcz
  have HGQ := Lib.hid hgQ
  clear hU hqU hgU hbU hcz hq3 hb3 hgb hcur hg hc0 hgQ
  go_upto_region 5 with fail
  rw [HHU.out]
  go_upto_region 6 with fail
  obtain ⟨V4, hV4⟩ : ∃ V4, U.setCell ⟨g, 0, none⟩ (.string ⟨#[]⟩) = V4 := ⟨_, rfl⟩
  have hgQ := HGQ.out
  have hzU : Q + 1 ≤ U.heap.size := by have := HBU.out.size; have := (Array.getElem?_eq_some_iff.1 HQU.out).1; omega
  have hb4 : Below Q w1 V4 := by
    rw [← hV4]
    exact (HB2.out.trans HBU.out).setCell (p := ⟨g, 0, none⟩) (by show Q ≤ g; omega) _
  have hq4 : V4.heap[Q]? = some (.cells #[.slice (some ⟨g, 0, none⟩) 3 cap, nilS, nilS, nilS, nilS, .int .i64 (-1)] 28 (0, 0)) := by
    rw [← hV4, Below.heap_setCell _ _ _ _ (by intro e; have e2 : Q = g := e; omega)]; exact HQU.out
  have hg4 : V4.cell? ⟨g, 0, none⟩ = some (.string (bs [])) := by
    have h := blk_set HGU.out 0 (.string ⟨#[]⟩)
    rw [hV4] at h
    rw [blk_cell h 0, Array.getElem?_setIfInBounds_self_of_lt (by have := HCZ.out; omega)]
  have hA4 := HA1.out.bel hb4 (by omega)
  have hG4 : Gl V4 := (HG.out.bel HB1.out (by have := HWZ.out; omega)).bel hb4 (by omega)
  have hz4 : Q < V4.heap.size := (Array.getElem?_eq_some_iff.1 hq4).1
  have cK := check_ok (B + 3) B (B + 1) (B + 2) V4 (hA4.p3.mono (by omega)) hG4
  have HA4 := Lib.hid hA4
  have HQ4 := Lib.hid hq4
  have HG4 := Lib.hid hg4
  have HB4 := Lib.hid hb4
  have HZ4 := Lib.hid hz4
  have p0 := blk_cell hA4.p 0
  have p1 := blk_cell hA4.p 1
  have p2 := blk_cell hA4.p 2
  have p3 := blk_cell hA4.p 3
  have p4 := blk_cell hA4.p 4
  have p5 := blk_cell hA4.p 5
  rw [hV4]
  clear hV4 hgQ hzU hb4 hq4 hg4 hA4 hG4 hz4 u0 ug uf e0 f0
  go_wp2_with fail
  refine cK.mono ?_
  rintro e w5 ⟨rfl, hb5⟩
  have hq5 := (hb5.block Q HZ4.out).trans HQ4.out
  have hg5 := (hb5.cell (p := ⟨g, 0, none⟩) (block_lt_of_cell HG4.out)).trans HG4.out
  have cX := check_bad g cap w5 hg5
  have q0 := blk_cell hq5 0
  have q1 := blk_cell hq5 1
  have q2 := blk_cell hq5 2
  have q3 := blk_cell hq5 3
  have q4 := blk_cell hq5 4
  have q5 := blk_cell hq5 5
  have HB5 := Lib.hid hb5
  have hfl : ∀ W : World, (Instr.field 54 (.agg #[.int .i64 1, .int .i64 0, .int .i64 21]) 2).run Tryz.prog W = .ok (.int .i64 21) W := fun W => by kernel_rfl
  clear cK hb5 hq5 hg5 p0 p1 p2 p3 p4 p5
  go_wp2_with fail
  refine cX.mono ?_
  rintro e w6 ⟨rfl, hb6⟩
  have hb46 := HB5.out.trans (hb6.mono HB5.out.size)
  have hA6 := HA4.out.bel hb46 (by have := HZ4.out; omega)
  have cY := anc3b w6 B hA6
  have p0 := blk_cell hA6.p 0
  have p1 := blk_cell hA6.p 1
  have p2 := blk_cell hA6.p 2
  have p3 := blk_cell hA6.p 3
  have p4 := blk_cell hA6.p 4
  have p5 := blk_cell hA6.p 5
  have HB46 := Lib.hid hb46
  clear cX hb6 hb46 hA6 q0 q1 q2 q3 q4 q5
  go_wp2_with fail
  refine cY.mono ?_
  rintro e w7 ⟨v, rfl, ho, hb7⟩
  have HB7 := Lib.hid hb7
  clear cY hb7 p0 p1 p2 p3 p4 p5
  rcases own_cells ho with ⟨_, h⟩ | ⟨g7, cap7, rfl, _, hg7, _, hcc⟩
  · cases h
  have cE := Tryz.slices_Equal_int g7 0 1 cap7 w7.heap.size 0 1 1 [0] [0] (w7.alloc (.cells #[.int .i64 0] 3)) (by decide) (by decide) (by decide) (by decide)
    (fun j hj => by
      have hb8 : Below w7.heap.size w7 (w7.alloc (.cells #[.int .i64 0] 3)) := (Below.refl _ _).alloc (Nat.le_refl _) _
      rw [hb8.cell (p := ⟨g7, 0 + j, none⟩) hg7]
      exact hcc j hj)
    (fun j hj => by
      match j, hj with
      | 0, _ => exact blk_cell (alloc_blk w7 (.cells #[.int .i64 0] 3)) 0)
  clear hcc ho
  go_wp2_with fail
  refine cE.mono ?_
  rintro e w8 ⟨rfl, q, hq⟩
  have hb8 : Below w7.heap.size w7 w8 := by rw [hq]; exact ((Below.refl _ _).alloc (Nat.le_refl _) _).trans ((below_drewN _ _).mono (by simp))
  have HB8 := Lib.hid hb8
  clear cE hq hb8
  go_wp2
  go_ret
  refine ⟨rfl, ?_⟩
  have h67 := HB46.out.trans ((HB7.out.trans (HB8.out.mono HB7.out.size)).mono HB46.out.size)
  have hall := HB4.out.trans (h67.mono (by have := HZ4.out; omega))
  have hB := HB0.out.trans ((HB1.out.trans (hall.mono (by have := HZ1.out; have := HWZ.out; omega))).mono (by have := HWZ.out; omega))

  exact hB
end Go.Proofs.YtlipfgdjbimfjaaGreatDoor
