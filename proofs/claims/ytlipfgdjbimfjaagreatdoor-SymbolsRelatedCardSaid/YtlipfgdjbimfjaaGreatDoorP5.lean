/- The tables that Check lays; nesting, listsExist, isOwner, ownsLists, has, hasOthers. -/
import Derived.Test.YtlipfgdjbimfjaaGreatDoorP4
import Derived.Deep.QuietTactic
import Derived.BigQuiet
import Derived.Lib.QuietBelow
import Derived.Deep.Cut
import Derived.Deep.CutRange
namespace Go.Proofs.YtlipfgdjbimfjaaGreatDoor
open Go.RowKit Go.Shelf Go.Sort
set_option maxRecDepth 100000

abbrev nilS : Value := .slice none 0 0
/-- Tables with classes alone. -/
structure TT (w : World) (tb cb n mb : Nat) : Prop where
  c0 : w.cell? ⟨tb, 0, none⟩ = some (.slice (some ⟨cb, 0, none⟩) n n)
  c1 : w.cell? ⟨tb, 1, none⟩ = some nilS
  c2 : w.cell? ⟨tb, 2, none⟩ = some nilS
  c3 : w.cell? ⟨tb, 3, none⟩ = some nilS
  c4 : w.cell? ⟨tb, 4, none⟩ = some nilS
  c5 : w.cell? ⟨tb, 5, none⟩ = some (.int .i64 (-1))
  c6 : w.cell? ⟨tb, 6, none⟩ = some (.map (some mb))
theorem TT.bel {w w' : World} {B tb cb n mb : Nat} (h : TT w tb cb n mb) (hb : Below B w w') (ht : tb < B) : TT w' tb cb n mb := by
  obtain ⟨c0, c1, c2, c3, c4, c5, c6⟩ := h
  exact ⟨(hb.cell (p := ⟨tb, _, none⟩) ht).trans c0, (hb.cell (p := ⟨tb, _, none⟩) ht).trans c1, (hb.cell (p := ⟨tb, _, none⟩) ht).trans c2, (hb.cell (p := ⟨tb, _, none⟩) ht).trans c3, (hb.cell (p := ⟨tb, _, none⟩) ht).trans c4, (hb.cell (p := ⟨tb, _, none⟩) ht).trans c5, (hb.cell (p := ⟨tb, _, none⟩) ht).trans c6⟩

theorem has0 (b : Int) (w : World) (hb : b = 2 ∨ b = 3 ∨ b = 32 ∨ b = 64) : Calls Tryz.prog 95 #[.int .i64 0, .int .i64 b] w fun e w' => e = .returned (.bool false) ∧ w = w' := by
  rcases hb with rfl | rfl | rfl | rfl
  all_goals
    go_enter Tryz.func95, Tryz.ntmps95
    go_wp2
    go_ret
    exact ⟨by kernel_rfl, rfl⟩
theorem hasOthers0 (b : Int) (w : World) (hb : b = 16495 ∨ b = 16397 ∨ b = 16426) : Calls Tryz.prog 122 #[.int .i64 0, .int .i64 b] w fun e w' => e = .returned (.bool false) ∧ w = w' := by
  rcases hb with rfl | rfl | rfl
  all_goals
    go_enter Tryz.func122, Tryz.ntmps122
    go_wp2
    go_ret
    exact ⟨by kernel_rfl, rfl⟩
set_option maxHeartbeats 1000000 in
theorem nesting_any (tb cb n mb c : Nat) (own : Nat → Int) (w : World) (hT : TT w tb cb n mb) (hc : c < n) (hn : n ≤ 100000) (hcb : cb < w.heap.size) (hO : Owns w cb 0 n own) (hno : (arF own n n c).contains (c : Int) = false) :
    Calls Tryz.prog 83 #[.pointer (some ⟨tb, 0, none⟩), .int .i64 c] w fun e w' => e = .returned (.int .i64 0) ∧ Below w.heap.size w w' := by
  have cI := inside_in cb 0 n n c c own nilS nilS nilS nilS (.int .i64 (-1)) w hc hn (Nat.le_refl _) hcb hO
  rw [hno] at cI
  obtain ⟨c0, c1, c2, c3, c4, c5, c6⟩ := hT
  clear hno hO
  go_enter Tryz.func83, Tryz.ntmps83
  go_wp2_with fail
  refine cI.mono ?_; rintro e w1 ⟨rfl, hb⟩
  have HB := Lib.hid hb
  clear cI hb c0 c1 c2 c3 c4 c5 c6
  go_wp2
  go_ret
  exact ⟨rfl, HB.out⟩
end Go.Proofs.YtlipfgdjbimfjaaGreatDoor
