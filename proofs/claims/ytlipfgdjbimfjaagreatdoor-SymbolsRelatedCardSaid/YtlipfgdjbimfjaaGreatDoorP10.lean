/- Ancestors: the plain search, and what lies in memory while it goes. -/
import Derived.Test.YtlipfgdjbimfjaaGreatDoorP9
namespace Go.Proofs.YtlipfgdjbimfjaaGreatDoor
open Go.RowKit Go.Shelf Go.Sort
set_option maxRecDepth 100000

/-- One parent. -/
def stepP (n : Nat) (l : List Nat) (t : Int × Int) : List Nat := if t.1 = 10 ∧ 0 ≤ t.2 ∧ t.2 < n ∧ t.2.toNat ∉ l then l ++ [t.2.toNat] else l
def addP (n : Nat) (l : List Nat) (ts : List (Int × Int)) : List Nat := ts.foldl (stepP n) l
/-- Found classes: in range, no one twice. -/
structure Fnd (n : Nat) (l : List Nat) : Prop where
  lt : ∀ x ∈ l, x < n
  nd : l.Nodup
theorem Fnd.nil (n : Nat) : Fnd n [] := ⟨fun _ h => absurd h (by simp), List.nodup_nil⟩
theorem Fnd.step {n : Nat} {l : List Nat} (h : Fnd n l) (t : Int × Int) : Fnd n (stepP n l t) := by
  unfold stepP
  split
  · rename_i hc
    refine ⟨fun x hx => ?_, ?_⟩
    · rcases List.mem_append.1 hx with hx | hx
      · exact h.lt x hx
      · rw [List.mem_singleton.1 hx]; omega
    · rw [List.nodup_append]
      exact ⟨h.nd, by simp, fun a ha b hb => by rw [List.mem_singleton.1 hb]; intro e; exact hc.2.2.2 (e ▸ ha)⟩
  · exact h
theorem Fnd.add {n : Nat} {l : List Nat} (h : Fnd n l) (ts : List (Int × Int)) : Fnd n (addP n l ts) := by
  unfold addP
  induction ts generalizing l with
  | nil => exact h
  | cons t r ih => exact ih (h.step t)
theorem nodup_le : ∀ (n : Nat) (l : List Nat), (∀ x ∈ l, x < n) → l.Nodup → l.length ≤ n
  | 0, l, h, _ => by
    cases l with
    | nil => simp
    | cons a r => exact absurd (h a List.mem_cons_self) (by omega)
  | n + 1, l, h, hn => by
    have h1 := nodup_le n (l.erase n) (fun x hx => by
      have h2 := h x (List.mem_of_mem_erase hx)
      have h3 : x ≠ n := fun e => by
        subst e
        exact (List.Nodup.not_mem_erase hn) hx
      omega) (hn.erase n)
    by_cases hm : n ∈ l
    · rw [List.length_erase_of_mem hm] at h1; omega
    · rw [List.erase_of_not_mem hm] at h1; omega
theorem Fnd.len {n : Nat} {l : List Nat} (h : Fnd n l) : l.length ≤ n := nodup_le n l h.lt h.nd
theorem addP_take (n : Nat) (l : List Nat) (ts : List (Int × Int)) (k : Nat) (h : k < ts.length) : addP n l (ts.take (k + 1)) = stepP n (addP n l (ts.take k)) (ts.getD k (0, 0)) := by
  unfold addP
  rw [List.take_succ_eq_append_getElem h, List.foldl_append, List.getD_eq_getElem?_getD, List.getElem?_eq_getElem h]
  rfl
theorem stepP_pre (n : Nat) (l : List Nat) (t : Int × Int) : l <+: stepP n l t := by
  unfold stepP
  split
  · exact List.prefix_append _ _
  · exact List.prefix_refl _
theorem addP_pre (n : Nat) (l : List Nat) (ts : List (Int × Int)) : l <+: addP n l ts := by
  unfold addP
  induction ts generalizing l with
  | nil => exact List.prefix_refl _
  | cons t r ih => exact (stepP_pre n l t).trans (ih _)
/-- The search, from a place of the list on. -/
def bfs (n : Nat) (pl : Nat → List (Int × Int)) : Nat → Nat → List Nat → List Nat
  | 0, _, l => l
  | f + 1, i, l => if i < l.length then bfs n pl f (i + 1) (addP n l (pl (l.getD i 0))) else l

/-- The marks. -/
def marks (n : Nat) (l : List Nat) : Array Value := ((List.range n).map fun k => Value.bool (decide (k ∈ l))).toArray
theorem marks_size (n : Nat) (l : List Nat) : (marks n l).size = n := by simp [marks]
theorem marks_get {n : Nat} (l : List Nat) {k : Nat} (h : k < n) : (marks n l)[k]? = some (.bool (decide (k ∈ l))) := by
  simp [marks, h]
theorem marks_set (n : Nat) (l : List Nat) (s : Nat) : (marks n l).setIfInBounds s (.bool true) = marks n (l ++ [s]) := by
  apply Array.ext_getElem?
  intro k
  rw [Array.getElem?_setIfInBounds]
  by_cases hk : k < n
  · by_cases hs : s = k
    · subst hs
      rw [if_pos rfl, if_pos (by rw [marks_size]; exact hk), marks_get _ hk]
      simp
    · rw [if_neg hs, marks_get _ hk, marks_get _ hk]
      have : k ≠ s := fun e => hs e.symm
      simp [this]
  · have h1 : (marks n l)[k]? = none := Array.getElem?_eq_none (by rw [marks_size]; omega)
    have h2 : (marks n (l ++ [s]))[k]? = none := Array.getElem?_eq_none (by rw [marks_size]; omega)
    rw [h1, h2]
    split
    · rw [if_neg (by rw [marks_size]; omega)]
    · rfl
theorem marks_made (n : Nat) : madeCells #[Value.bool false] n = marks n [] := by
  apply Array.ext_getElem?
  intro k
  by_cases hk : k < n
  · rw [marks_get _ hk]
    simp [madeCells, hk, Nat.mod_one]
  · rw [Array.getElem?_eq_none (by rw [size_madeCells]; omega), Array.getElem?_eq_none (by rw [marks_size]; omega)]
end Go.Proofs.YtlipfgdjbimfjaaGreatDoor
