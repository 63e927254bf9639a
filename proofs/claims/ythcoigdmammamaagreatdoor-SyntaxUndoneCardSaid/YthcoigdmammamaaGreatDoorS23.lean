/- fits: the model; slices of lists of trees. -/
import Derived.Test.YthcoigdmammamaaGreatDoorS22
import Derived.Deep.LoopGhost
namespace Go.Proofs.YthcoigdmammamaaGreatDoor
open Go.RowKit Go.Shelf Go.Sort
set_option maxRecDepth 100000

/-- The parts of a word that take turns. -/
def partsM (w : List UInt8) : List (List UInt8) := Lib.split (Lib.trimRightS w [42, 43]) [44]
/-- How often a word is repeated. -/
def countM (r : Int) (w : List UInt8) : Int := if w.getLast? = some 42 then r else if w.getLast? = some 43 then max r 1 else 1
/-- Whether kinds have a form. -/
def fitsM (r : Int) : List Int → List (List UInt8) → Bool
  | ks, [] => ks.isEmpty
  | ks, w :: ws =>
    if countM r w < 0 ∨ (ks.length : Int) < countM r w ∨ countM r w % (partsM w).length ≠ 0 ∨ 200 < countM r w / (partsM w).length then false
    else if (List.range (countM r w).toNat).all (fun i => belongsM (ks.getD i 0) ((partsM w).getD (i % (partsM w).length) [])) then fitsM r (ks.drop (countM r w).toNat) ws else false
/-- .. by the words of a text. -/
def formM (ks : List Int) (form : List UInt8) : Bool := fitsM ((ks.length : Int) - ((Lib.fields form).length - 1)) ks (Lib.fields form)

theorem addr_add (b off k : Nat) : (⟨b, off, none⟩ : Addr).add k = ⟨b, off + k, none⟩ := by
  unfold Addr.add
  by_cases h : k = 0
  · rw [if_pos h, h, Nat.add_zero]
  · rw [if_neg h]
/-- kids[k:] -/
abbrev tailV (a : Option Addr) (n c k : Nat) : Value := .slice (if c = k then a else a.map (·.add (k * 5))) (n - k) (c - k)
theorem LsS.drop {w : World} {S : Nat → Prop} {a : Option Addr} {n c : Nat} {l : List Nd} (h : LsS w S (.slice a n c) l) (k : Nat) (hk : k ≤ l.length) : LsS w S (tailV a n c k) (l.drop k) := by
  cases h with
  | nil =>
    obtain rfl : k = 0 := by simpa using hk
    show LsS w S (.slice _ (0 - 0) _) []
    exact .nil _ _
  | row b off cap l vs h1 h2 h3 h4 =>
    by_cases he : l.length = k
    · have e1 : l.drop k = [] := by rw [← he]; simp
      have e2 : l.length - k = 0 := by omega
      rw [e1]
      unfold tailV
      rw [e2]
      exact .nil _ _
    · have e1 : ¬ (c = k) := by omega
      have e2 : l.length - k = (l.drop k).length := by simp
      unfold tailV
      rw [if_neg e1, e2]
      show LsS w S (.slice (some ((⟨b, off, none⟩ : Addr).add (k * 5))) _ _) _
      rw [addr_add]
      have hd : ∀ i, i < (l.drop k).length → (l.drop k).getD i Nd0 = l.getD (i + k) Nd0 := by
        intro i hi
        simp [List.getD_eq_getElem?_getD, List.getElem?_drop, Nat.add_comm]
      refine .row b (off + k * 5) (c - k) _ (fun i => vs (i + k)) h1 (by simp; omega) ?_ ?_
      · intro i hi
        have h5 := h3 (i + k) (by simp at hi; omega)
        rw [hd i hi]
        rw [show off + k * 5 + i * 5 = off + (i + k) * 5 by omega]
        exact h5
      · intro i hi
        rw [hd i hi]
        exact h4 (i + k) (by simp at hi; omega)
theorem LsS.take {w : World} {S : Nat → Prop} {a : Option Addr} {n c : Nat} {l : List Nd} (h : LsS w S (.slice a n c) l) (k : Nat) (hk : k ≤ l.length) : LsS w S (.slice a k c) (l.take k) := by
  cases h with
  | nil =>
    obtain rfl : k = 0 := by simpa using hk
    exact .nil _ _
  | row b off cap l vs h1 h2 h3 h4 =>
    have e2 : (l.take k).length = k := by simp; omega
    have hd : ∀ i, i < k → (l.take k).getD i Nd0 = l.getD i Nd0 := by
      intro i hi
      simp [List.getD_eq_getElem?_getD, hi]
    have h5 := LsS.row (w := w) (S := S) b off c (l.take k) vs h1 (by omega) (fun i hi => by rw [hd i (by omega)]; exact h3 i (by omega)) (fun i hi => by rw [hd i (by omega)]; exact h4 i (by omega))
    rw [e2] at h5
    exact h5
/-- strings.TrimRight at '*' and '+'. -/
theorem trimRight_any (l : List UInt8) (w : World) (hl : l.length ≤ 4294967281) :
    Calls Tryz.prog 70 #[.string (bs l), .string (bs [42, 43])] w fun e w' => e = .returned (.string (bs (Lib.trimRightS l [42, 43]))) ∧ Below w.heap.size w w' :=
  Tryz.strings_TrimRight_laid (bs l) (bs [42, 43]) w (by show l.toArray.size ≤ _; simp; omega) (by show 2 < 4294967281; omega) (by
    intro j b hb
    match j, hb with
    | 0, hb => simp at hb; subst hb; decide
    | 1, hb => simp at hb; subst hb; decide)
theorem trimRight_len (l cs : List UInt8) : (Lib.trimRightS l cs).length ≤ l.length := by
  unfold Lib.trimRightS
  rw [List.length_reverse]
  have h := (List.dropWhile_sublist (l := l.reverse) (p := fun x => cs.contains x)).length_le
  simpa using h
/-- strings.Fields of ASCII. -/
theorem fields_any (l : List UInt8) (w : World) (hG : Glob w) (hl : l.length < 4294967281) (ha : ∀ b ∈ l, b.toNat < 128) :
    Calls Tryz.prog 68 #[.string (bs l)] w fun e w' => e = .returned (.slice (some ⟨w.heap.size, 0, none⟩) (Lib.fields l).length (Lib.fields l).length) ∧ w' = w.alloc (SB (Lib.fields l)) :=
  Tryz.strings_Fields_laid (bs l) w (by show l.toArray.size < _; simpa using hl) (fun j b hb => ha b (by exact List.mem_of_getElem? hb)) hG.spc
end Go.Proofs.YthcoigdmammamaaGreatDoor
