/- What the program's tables hold; Name. -/
import Derived.Test.YthcoigdmammamaaGreatDoorS19
import Derived.Lib.LaidTab
import Derived.Test.YthcoigdmammamaaGreatDoorSh
import Derived.Lib.SmallJoins
namespace Go.Proofs.YthcoigdmammamaaGreatDoor
open Go.RowKit Go.Shelf Go.Sort
set_option maxRecDepth 100000

/-- The names of the kinds, as bytes. -/
def knames : List (List UInt8) := [[83, 78, 111, 110, 101], [83, 85, 110, 105, 116], [83, 73, 109, 112, 111, 114, 116], [83, 67, 108, 97, 115, 115], [83, 68, 101, 102], [83, 86, 97, 108], [83, 84, 121, 112, 101], [83, 71, 105, 118, 101, 110], [83, 69, 120, 116, 101, 110, 115, 105, 111, 110], [83, 69, 110, 117, 109, 67, 97, 115, 101], [83, 77, 111, 100, 115], [83, 78, 97, 109, 101, 115], [83, 84, 80, 97, 114, 97, 109], [83, 76, 105, 115, 116, 115], [83, 80, 97, 114, 97, 109, 115], [83, 80, 97, 114, 97, 109], [83, 80, 97, 114, 101, 110, 116, 115], [83, 80, 97, 114, 101, 110, 116], [83, 66, 111, 100, 121], [84, 78, 97, 109, 101], [84, 83, 101, 108, 101, 99, 116], [84, 65, 112, 112, 108, 121], [84, 70, 117, 110, 99, 116, 105, 111, 110], [84, 65, 110, 100], [84, 79, 114], [84, 83, 105, 110, 103, 108, 101], [84, 87, 105, 108, 100], [84, 76, 97, 109, 98, 100, 97], [84, 77, 97, 116, 99, 104], [84, 67, 97, 115, 101], [88, 78, 97, 109, 101], [88, 83, 101, 108, 101, 99, 116], [88, 65, 112, 112, 108, 121], [88, 78, 97, 109, 101, 100], [88, 84, 121, 112, 101, 115], [88, 73, 110, 102, 105, 120], [88, 80, 114, 101, 102, 105, 120], [88, 65, 115, 115, 105, 103, 110], [88, 73, 110, 116], [88, 76, 111, 110, 103], [88, 67, 104, 97, 114], [88, 83, 116, 114, 105, 110, 103], [88, 84, 114, 117, 101], [88, 70, 97, 108, 115, 101], [88, 78, 117, 108, 108], [88, 85, 110, 105, 116], [88, 84, 104, 105, 115], [88, 83, 117, 112, 101, 114], [88, 73, 110, 116, 101, 114, 112], [88, 73, 102], [88, 87, 104, 105, 108, 101], [88, 70, 111, 114], [83, 71, 101, 110, 101, 114, 97, 116, 111, 114], [83, 66, 105, 110, 100, 105, 110, 103], [83, 71, 117, 97, 114, 100], [88, 77, 97, 116, 99, 104], [83, 67, 97, 115, 101], [88, 84, 114, 121], [83, 67, 97, 115, 101, 115], [88, 84, 104, 114, 111, 119], [88, 82, 101, 116, 117, 114, 110], [88, 76, 97, 109, 98, 100, 97], [83, 76, 97, 109, 98, 100, 97, 80, 97, 114, 97, 109], [88, 66, 108, 111, 99, 107], [88, 78, 101, 119], [88, 84, 121, 112, 101, 100], [88, 81, 117, 111, 116, 101], [88, 83, 112, 108, 105, 99, 101], [80, 87, 105, 108, 100], [80, 66, 105, 110, 100], [80, 84, 121, 112, 101, 100], [80, 76, 105, 116, 101, 114, 97, 108], [80, 83, 116, 97, 98, 108, 101], [80, 65, 112, 112, 108, 121], [80, 65, 108, 116]]
/-- Bytes as a string. -/
abbrev bs (l : List UInt8) : ByteArray := ⟨l.toArray⟩
theorem knames_len : knames.length = 75 := by kernel_rfl
/-- The name of a kind, or nothing. -/
def nameM (k : Int) : List UInt8 := if 0 ≤ k ∧ k < 75 then knames.getD k.toNat [] else []
/-- What the tables hold. -/
structure Glob (w : World) : Prop where
  sz : 12 ≤ w.heap.size
  nam : ∀ i, i < 75 → w.cell? ⟨0, i, none⟩ = some (.string (bs (knames.getD i [])))
  spc : Lib.TabIs Tryz.prog w "strings.asciiSpace" .u8 Lib.asciiSpaceTab
  pow : Lib.TabIs Tryz.prog w "internal/strconv.uint64pow10" .u64 Lib.pow10Tab
  mx : ∃ m : Int, w.cell? ⟨6, 0, none⟩ = some (.int .i64 m)
theorem gSpc : Tryz.prog.globalNamed "strings.asciiSpace" = some 1 := by kernel_rfl
theorem gPow : Tryz.prog.globalNamed "internal/strconv.uint64pow10" = some 2 := by kernel_rfl
theorem Glob.bel {w w' : World} (h : Glob w) (hb : Below w.heap.size w w') : Glob w' := by
  obtain ⟨m, hm⟩ := h.mx
  have hz := h.sz
  exact ⟨Nat.le_trans hz hb.size, fun i hi => (hb.cell (p := ⟨0, i, none⟩) (by show 0 < _; omega)).trans (h.nam i hi), Go.Joins.tab_stays gSpc h.spc hb (Nat.le_refl _), Go.Joins.tab_stays gPow h.pow hb (Nat.le_refl _), m, (hb.cell (p := ⟨6, 0, none⟩) (by show 6 < _; omega)).trans hm⟩

set_option maxHeartbeats 1000000 in
theorem name_any (k : Int) (w : World) (hG : Glob w) : Calls Tryz.prog 33 #[.int .i64 k] w fun e w' => e = .returned (.string (bs (nameM k))) ∧ w' = w := by
  by_cases h0 : k < 0
  · have e0 : decide (k < 0) = true := by simpa using h0
    have hn : nameM k = [] := by unfold nameM; rw [if_neg (by omega)]
    rw [hn]
    clear hn h0 hG
    go_enter Tryz.func33, Tryz.ntmps33
    go_wp2
    go_ret
    exact ⟨rfl, rfl⟩
  · by_cases h1 : 75 ≤ k
    · have e0 : decide (k < 0) = false := by simpa using h0
      have e1 : decide (75 ≤ k) = true := by simpa using h1
      have hn : nameM k = [] := by unfold nameM; rw [if_neg (by omega)]
      rw [hn]
      clear hn h0 h1 hG
      go_enter Tryz.func33, Tryz.ntmps33
      go_wp2
      go_ret
      exact ⟨rfl, rfl⟩
    · have e0 : decide (k < 0) = false := by simpa using h0
      have e1 : decide (75 ≤ k) = false := by simpa using h1
      obtain ⟨n, rfl⟩ : ∃ n : Nat, k = (n : Int) := ⟨k.toNat, by omega⟩
      have hn : nameM (n : Int) = knames.getD n [] := by unfold nameM; rw [if_pos (by omega)]; simp
      have hc := hG.nam n (by omega)
      have h2 : (n : Int) < 75 := by omega
      have h3 : (0 : Int) ≤ (n : Int) := by omega
      rw [hn]
      clear hn h0 h1 hG
      go_enter Tryz.func33, Tryz.ntmps33
      go_wp2
      go_ret
      exact ⟨rfl, rfl⟩
end Go.Proofs.YthcoigdmammamaaGreatDoor
