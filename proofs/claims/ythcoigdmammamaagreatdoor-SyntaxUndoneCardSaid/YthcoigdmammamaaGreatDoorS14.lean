/- slices.Contains over the names. -/
import Derived.Test.YthcoigdmammamaaGreatDoorS13
namespace Go.Proofs.YthcoigdmammamaaGreatDoor
open Go.RowKit Go.Shelf Go.Maps Go.Sort
set_option maxRecDepth 100000

theorem contains_row (w : World) (base : Nat) (r : Value) (l : List (List UInt8)) (t : ByteArray) (hlen : l.length ≤ 100000) (h : w.ownsRow base 9 1 r l.length (l.map Go.Proofs.encStr)) :
    Calls Tryz.prog 12 #[r, .string t] w fun e w' => e = .returned (.bool (decide (t.data.toList ∈ l))) ∧ w' = w := by
  rcases h.2 with ⟨rfl, h0⟩ | ⟨g, cap, cur, rfl, hb, hw, hc1, hc2, hc3, hc4⟩
  · have : l = [] := List.length_eq_zero_iff.1 h0
    subst this
    refine (Tryz.slices_Contains_string_empty none 0 t w).mono ?_
    rintro e w' ⟨rfl, rfl⟩
    exact ⟨by simp, rfl⟩
  · have hz : (l.map fun x => (⟨x.toArray⟩ : ByteArray)).length = l.length := by simp
    refine (Tryz.slices_Contains_string g 0 l.length cap (l.map fun x => ⟨x.toArray⟩) t w (by omega) (by omega) ?_).mono ?_
    · intro j hj
      rw [hz] at hj
      have h1 : (l.map Go.Proofs.encStr)[j]? = some (.string ⟨(l[j]'hj).toArray⟩) := by simp [List.getElem?_eq_getElem hj]
      rw [← hc4, List.getElem?_take] at h1
      split at h1
      · have h2 : (l.map fun x => (⟨x.toArray⟩ : ByteArray)).getD j ByteArray.empty = ⟨(l[j]'hj).toArray⟩ := by
          simp [List.getD_eq_getElem?_getD, List.getElem?_eq_getElem hj]
        rw [h2, Nat.zero_add]
        simp [World.cell?, hw]
        simpa using h1
      · exact absurd h1 (by simp)
    · rintro e w' ⟨rfl, rfl⟩
      refine ⟨?_, rfl⟩
      congr 2
      rw [List.take_of_length_le (by omega), Bool.eq_iff_iff, Lib.containsS_iff, decide_eq_true_eq, List.mem_map]
      constructor
      · rintro ⟨x, hx, he⟩
        rw [← he]; exact hx
      · intro hx
        exact ⟨_, hx, by cases t; simp⟩
end Go.Proofs.YthcoigdmammamaaGreatDoor
