/- named; renamed: the model; rows of nodes. -/
import Derived.Test.YthcoigdmammamaaGreatDoorS4
import Derived.Laws.AppendOwn
import Derived.Deep.AppendLies
namespace Go.Proofs.YthcoigdmammamaaGreatDoor
open Go.RowKit Go.Shelf
set_option maxRecDepth 100000

/-- Whether a node is a name of a value or a type. -/
def nam (x : Nd) : Bool := x.kind == 30 || x.kind == 19
mutual
/-- .. with another name. -/
def ren (f t : ByteArray) : Nd → Nd
  | .mk k s n l a => .mk k (if (k == 30 || k == 19) && s.toList == f.toList then t else s) n (renL f t l) a
def renL (f t : ByteArray) : List Nd → List Nd
  | [] => []
  | x :: r => ren f t x :: renL f t r
end
theorem ren_eq (f t : ByteArray) (x : Nd) : ren f t x = .mk x.kind (if nam x && x.text.toList == f.toList then t else x.text) x.num (renL f t x.kids) x.at_ := by cases x; rw [ren]; rfl
theorem renL_eq (f t : ByteArray) (l : List Nd) : renL f t l = l.map (ren f t) := by
  induction l with
  | nil => rfl
  | cons x r ih => show ren f t x :: renL f t r = _; rw [ih]; rfl
mutual
theorem ren_nodes (f t : ByteArray) : ∀ x : Nd, (ren f t x).nodes = x.nodes
  | .mk k s n l a => by rw [ren, Nd.nodes, Nd.nodes, renL_nodes f t l]
theorem renL_nodes (f t : ByteArray) : ∀ l : List Nd, nodesL (renL f t l) = nodesL l
  | [] => rfl
  | x :: r => by show (ren f t x).nodes + nodesL (renL f t r) = x.nodes + nodesL r; rw [ren_nodes f t x, renL_nodes f t r]
end
/-- A node's cells. -/
def cellsN (p : Nd × Value) : List Value := [.int .i64 p.1.kind, .string p.1.text, .int .i64 p.1.num, p.2, .int .i64 p.1.at_]
theorem row_len (ks : List (Nd × Value)) : (ks.flatMap cellsN).length = ks.length * 5 := by
  induction ks with
  | nil => rfl
  | cons a l ih => rw [List.flatMap_cons, List.length_append, ih]; simp [cellsN]; omega
theorem row_get (l : List (Nd × Value)) (i : Nat) (hi : i < l.length) (j : Nat) (hj : j < 5) : (l.flatMap cellsN)[i * 5 + j]? = (cellsN (l[i]'hi))[j]? := by
  induction l generalizing i with
  | nil => simp at hi
  | cons a l ih =>
    rw [List.flatMap_cons]
    have ha : (cellsN a).length = 5 := rfl
    cases i with
    | zero =>
      rw [List.getElem?_append_left (by omega)]
      simp
    | succ i =>
      rw [List.getElem?_append_right (by omega), ha, show (i + 1) * 5 + j - 5 = i * 5 + j from by omega, ih i (by simpa using hi)]
      rfl
theorem add_pl (g i : Nat) : (⟨g, 0, none⟩ : Addr).add i = ⟨g, i, none⟩ := by
  unfold Addr.add
  by_cases h : i = 0
  · rw [if_pos h, h]
  · rw [if_neg h]; simp
/-- A row of one's own is a list of trees. -/
theorem row_ls {w : World} {base : Nat} {v : Value} {ks : List (Nd × Value)} {S : Nat → Prop} (h : w.ownsRow base 24 5 v ks.length (ks.flatMap cellsN)) (hok : ∀ p ∈ ks, p.1.ok) (hs : ∀ p ∈ ks, LsS w S p.2 p.1.kids) (hg : ∀ g, v.ownBlock = some g → S g) :
    LsS w S v (ks.map (·.1)) := by
  rcases h.2 with ⟨rfl, h0⟩ | ⟨g, cap, cur, rfl, hb, hw, hc1, hc2, hc3, hc4⟩
  · have : ks = [] := List.length_eq_zero_iff.1 h0
    subst this
    exact .nil none 0
  · have hcell : ∀ j u, (ks.flatMap cellsN)[j]? = some u → w.cell? ⟨g, j, none⟩ = some u := by
      intro j u hj
      rw [← hc4, List.getElem?_take] at hj
      split at hj
      · show World.cell? _ _ = _
        simp [World.cell?, hw]
        simpa using hj
      · exact absurd hj (by simp)
    have e : ∀ i (hi : i < ks.length), (ks.map (·.1)).getD i Nd0 = (ks[i]'hi).1 := by
      intro i hi
      simp [List.getD_eq_getElem?_getD, List.getElem?_eq_getElem hi]
    have hl : ks.length = (ks.map (·.1)).length := by simp
    rw [hl]
    refine LsS.row g 0 cap _ (fun i => (ks.getD i (Nd0, .nilFunc)).2) (hg g rfl) (by simpa using hc1) ?_ ?_
    · intro i hi
      have hi' : i < ks.length := by simpa using hi
      have e2 : ks.getD i (Nd0, .nilFunc) = ks[i]'hi' := by simp [List.getD_eq_getElem?_getD, List.getElem?_eq_getElem hi']
      rw [e i hi', e2]
      have h0 := hcell (i * 5 + 0) _ (row_get ks i hi' 0 (by omega))
      have h1 := hcell (i * 5 + 1) _ (row_get ks i hi' 1 (by omega))
      have h2 := hcell (i * 5 + 2) _ (row_get ks i hi' 2 (by omega))
      have h3 := hcell (i * 5 + 3) _ (row_get ks i hi' 3 (by omega))
      have h4 := hcell (i * 5 + 4) _ (row_get ks i hi' 4 (by omega))
      rw [Nat.zero_add]
      exact ⟨h0, h1, h2, h3, h4, hok _ (List.getElem_mem hi'), by simp [World.frozen?, hw]⟩
    · intro i hi
      have hi' : i < ks.length := by simpa using hi
      have e2 : ks.getD i (Nd0, .nilFunc) = ks[i]'hi' := by simp [List.getD_eq_getElem?_getD, List.getElem?_eq_getElem hi']
      rw [e i hi', e2]
      exact hs _ (List.getElem_mem hi')

set_option maxHeartbeats 1000000 in
theorem named_any (b o : Nat) (k : Int) (w : World) (h : w.cell? ⟨b, o, none⟩ = some (.int .i64 k)) :
    Calls Tryz.prog 26 #[.pointer (some ⟨b, o, none⟩)] w fun e w' => e = .returned (.bool (k == 30 || k == 19)) ∧ w' = w := by
  go_enter Tryz.func26, Tryz.ntmps26
  by_cases h1 : k = 30
  · have e1 : (k == 30) = true := by simp [h1]
    clear h1
    go_wp2
    go_ret
    exact ⟨by rw [e1]; rfl, rfl⟩
  · have e1 : (k == 30) = false := by simp [h1]
    clear h1
    by_cases h2 : k = 19
    · have e2 : (k == 19) = true := by simp [h2]
      clear h2
      go_wp2
      go_ret
      exact ⟨by rw [e1, e2]; rfl, rfl⟩
    · have e2 : (k == 19) = false := by simp [h2]
      clear h2
      go_wp2
      go_ret
      exact ⟨by rw [e1, e2]; rfl, rfl⟩
end Go.Proofs.YthcoigdmammamaaGreatDoor
