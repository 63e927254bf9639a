/- Text, at the first example; awake. -/
import Derived.Test.YthcoigdmammamaaGreatDoorS35
namespace Go.Proofs.YthcoigdmammamaaGreatDoor
open Go.RowKit Go.Shelf Go.Sort
set_option maxRecDepth 100000

/-- The text of the first example. -/
def tx35 : List UInt8 := [40, 88, 73, 110, 102, 105, 120, 32, 34, 43, 34, 32, 40, 88, 73, 110, 116, 32, 49, 41, 32, 40, 88, 78, 97, 109, 101, 32, 34, 120, 34, 41, 41]
theorem nm35 : nameM 35 = [88, 73, 110, 102, 105, 120] := by kernel_rfl
theorem nm38 : nameM 38 = [88, 73, 110, 116] := by kernel_rfl
theorem nm30 : nameM 30 = [88, 78, 97, 109, 101] := by kernel_rfl
theorem wn1 : wNum 1 = [32, 49] := by kernel_rfl
theorem wn0 : wNum 0 = [] := by kernel_rfl
theorem wt43 : wText (bs [43]) = [32, 34, 43, 34] := by kernel_rfl
theorem wt120 : wText (bs [120]) = [32, 34, 120, 34] := by kernel_rfl
theorem wt0 : wText (bs []) = [] := by kernel_rfl
theorem tf35 : n35.tf = tx35 := by
  simp only [n35, n38, n30, Nd.tf, tfL, nm35, nm38, nm30, wn1, wn0, wt43, wt120, wt0]
  rfl
theorem okN35 : ∀ z ∈ n35.pre, okN z := by
  intro z hz
  rcases pre35 z hz with rfl | rfl | rfl
  · refine ⟨?_, by decide, by decide⟩
    intro c hc
    have h : c = 43 := by simpa [n35, Nd.text] using hc
    subst h
    unfold plainB
    decide
  · refine ⟨?_, by decide, by decide⟩
    intro c hc
    exact absurd hc (by simp [n38, Nd.text])
  · refine ⟨?_, by decide, by decide⟩
    intro c hc
    have h : c = 120 := by simpa [n30, Nd.text] using hc
    subst h
    unfold plainB
    decide
theorem info46 : (Tryz.prog.info? 46).map (fun i => (i.zero, i.size, i.bytes)) = some (some (.agg #[.slice none 0 0, .bool false]), 2, 32) := by kernel_rfl

set_option maxHeartbeats 4000000 in
theorem text35 (v : Value) (B : Nat) (w : World) (hG : Glob w) (hl : Ls w B v n35.kids) (hB : B ≤ w.heap.size) :
    Calls Tryz.prog 7 #[nv n35 v] w fun e w' => e = .returned (.tuple #[.string (bs tx35), .int .i64 0]) ∧ Below w.heap.size w w' := by
  obtain ⟨va, vc, rfl⟩ := hl.slice
  obtain ⟨i0, hi, iz0, iz1, iz2⟩ := info_parts info46
  obtain ⟨w1, hw1⟩ : ∃ w1, w.alloc (NB n35 (.slice va n35.kids.length vc)) = w1 := ⟨_, rfl⟩
  have hz1 : w1.heap.size = w.heap.size + 1 := by rw [← hw1]; simp
  have hb1 : Below w.heap.size w w1 := by rw [← hw1]; exact (Below.refl _ w).alloc (Nat.le_refl _) _
  have hP : w1.heap[w.heap.size]? = some (NB n35 (.slice va n35.kids.length vc)) := by rw [← hw1]; exact alloc_blk w _
  have hl1 := hl.bel (hb1.mono hB)
  have cC := check35 (.slice va n35.kids.length vc) B w1 (hG.bel hb1) hl1 (by omega)
  have HB1 := Lib.hid hb1
  have HP := Lib.hid hP
  have HL1 := Lib.hid hl1
  have HZ1 := Lib.hid hz1
  have HG := Lib.hid hG
  rw [← hw1] at cC
  have HW1 := Lib.hid hw1
  clear hl hb1 hP hl1 hz1 hw1 hG
  go_enter Tryz.func7, Tryz.ntmps7
  go_wp2_with fail
  refine cC.mono ?_
  clear cC
  rintro e w2 ⟨rfl, hB2⟩
  rw [HW1.out] at hB2
  have HB2 := Lib.hid hB2
  clear hB2
  go_wp2_with fail
  obtain ⟨w3, hw3⟩ : ∃ w3, (w2.alloc (.cells #[.int .i64 0, .int .i64 0] 31)).alloc (.cells #[.slice none 0 0, .bool false] 46) = w3 := ⟨_, rfl⟩
  have hb3 : Below w2.heap.size w2 w3 := by rw [← hw3]; exact ((Below.refl _ w2).alloc (Nat.le_refl _) _).alloc (by simp) _
  have hz2 := HB2.out.size
  have hz1 := HZ1.out
  have hB13 : Below w1.heap.size w1 w3 := HB2.out.trans (hb3.mono hz2)
  have hB03 : Below w.heap.size w w3 := HB1.out.trans (hB13.mono (by omega))
  have hQ : w3.heap[w2.heap.size + 1]? = some (.cells #[.slice none 0 0, .bool false] 46 (0, 0)) := by
    rw [← hw3]
    have h := alloc_blk (w2.alloc (.cells #[.int .i64 0, .int .i64 0] 31)) (.cells #[.slice none 0 0, .bool false] 46)
    rw [World.size_alloc] at h; exact h
  have hbk : w3.heap[w.heap.size]? = some (NB n35 (.slice va n35.kids.length vc)) := (hB13.block _ (by omega)).trans HP.out
  have hWr : Wr w3 (w2.heap.size + 1) [] := ⟨.slice none 0 0, hQ, by exact World.ownsRow_nil w3 _ 5 1⟩
  have cN := node_any (w2.heap.size + 1) B (by omega) (by omega) (SizeOf.sizeOf n35) n35 w.heap.size 0 (.slice va n35.kids.length vc) [] w3 (Nat.le_refl _) okN35 ⟨blk_cell hbk 0, blk_cell hbk 1, blk_cell hbk 2, blk_cell hbk 3, blk_cell hbk 4, ok35, blk_free hbk 0⟩ (HL1.out.bel (hB13.mono (by omega))) (by omega) (HG.out.bel hB03).nam hWr (by rw [tf35]; decide)
  rw [tf35] at cN
  have HB03 := Lib.hid hB03
  have HZ2 := Lib.hid hz2
  rw [hw3]
  clear hw3 hb3 hz2 hz1 hB13 hB03 hQ hbk hWr
  refine cN.mono ?_
  clear cN
  rintro e w4 ⟨rfl, hW4, hB4⟩
  rw [List.nil_append] at hW4
  obtain ⟨v4, hbk, hown⟩ := hW4
  have p0 := blk_cell hbk 0
  have p1 := blk_cell hbk 1
  have hconv : (convert 44 9 v4).run Tryz.prog w4 = .ok (.string (bs tx35)) w4 := conv_bs hown
  obtain ⟨a4, c4, rfl⟩ := own_shape hown
  have HB4 := Lib.hid hB4
  clear hbk hown hB4
  go_wp2
  go_ret2
  exact ⟨rfl, HB03.out.trans (HB4.out.mono (by have h1 := HZ1.out; have h2 := HZ2.out; omega))⟩

theorem info24z : (Tryz.prog.info? 24).map (fun i => (i.zero, i.size, i.bytes)) = some (some (.agg #[.int .i64 0, .string ByteArray.empty, .int .i64 0, .slice none 0 0, .int .i64 0]), 5, 64) := by kernel_rfl
set_option maxHeartbeats 4000000 in
theorem awake_any (w : World) (hG : Glob w) : Calls Tryz.prog 6 #[] w fun e w' => e = .returned (.bool true) ∧ Below w.heap.size w w' := by
  obtain ⟨i0, hi, iz0, iz1, iz2⟩ := info_parts info24z
  have HG := Lib.hid hG
  clear hG
  go_enter Tryz.func6, Tryz.ntmps6
  go_wp2_with fail
  obtain ⟨w2, hw2⟩ : ∃ w2, (w.alloc (.cells #[.int .i64 38, .string ⟨#[]⟩, .int .i64 1, .slice none 0 0, .int .i64 0, .int .i64 30, .string ⟨#[120]⟩, .int .i64 0, .slice none 0 0, .int .i64 0] 24)).alloc
      (.cells #[.int .i64 35, .string ⟨#[43]⟩, .int .i64 0, .slice (some ⟨w.heap.size, 0, none⟩) 2 2, .int .i64 0] 24) = w2 := ⟨_, rfl⟩
  have hb2 : Below w.heap.size w w2 := by rw [← hw2]; exact ((Below.refl _ w).alloc (Nat.le_refl _) _).alloc (by simp) _
  have hz2 : w2.heap.size = w.heap.size + 2 := by rw [← hw2]; simp
  have hk : w2.heap[w.heap.size]? = some (.cells #[.int .i64 38, .string ⟨#[]⟩, .int .i64 1, .slice none 0 0, .int .i64 0, .int .i64 30, .string ⟨#[120]⟩, .int .i64 0, .slice none 0 0, .int .i64 0] 24 (0, 0)) := by
    rw [← hw2, Below.heap_alloc _ _ _ (by simp)]; exact alloc_blk w _
  have hl : Ls w2 (w.heap.size + 1) (.slice (some ⟨w.heap.size, 0, none⟩) 2 2) n35.kids := by
    refine LsS.row w.heap.size 0 2 [n38, n30] (fun _ => .slice none 0 0) (Nat.lt_succ_self _) (Nat.le_refl _) ?_ ?_
    · intro i hi
      match i, hi with
      | 0, _ => exact ⟨blk_cell hk 0, blk_cell hk 1, blk_cell hk 2, blk_cell hk 3, blk_cell hk 4, ok38, blk_free hk 0⟩
      | 1, _ => exact ⟨blk_cell hk 5, blk_cell hk 6, blk_cell hk 7, blk_cell hk 8, blk_cell hk 9, ok30, blk_free hk 5⟩
    · intro i hi
      match i, hi with
      | 0, _ => exact .nil none 0
      | 1, _ => exact .nil none 0
  have cT := text35 _ (w.heap.size + 1) w2 (HG.out.bel hb2) hl (by omega)
  have HB2 := Lib.hid hb2
  have HZ2 := Lib.hid hz2
  rw [hw2]
  clear hw2 hb2 hz2 hk hl
  refine cT.mono ?_
  clear cT
  rintro e w3 ⟨rfl, hB3⟩
  have HB3 := Lib.hid hB3
  have ht : (tx35 == [40, 88, 73, 110, 102, 105, 120, 32, 34, 43, 34, 32, 40, 88, 73, 110, 116, 32, 49, 41, 32, 40, 88, 78, 97, 109, 101, 32, 34, 120, 34, 41, 41]) = true := by decide
  clear hB3
  unfold tx35
  go_wp2
  go_ret
  exact ⟨rfl, HB2.out.trans (HB3.out.mono (by have h := HZ2.out; omega))⟩
end Go.Proofs.YthcoigdmammamaaGreatDoor
