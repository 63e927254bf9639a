/- The three nodes of the first example: their text, their number, their rules. -/
import Derived.Test.YthcoigdmammamaaGreatDoorS29
namespace Go.Proofs.YthcoigdmammamaaGreatDoor
open Go.RowKit Go.Shelf Go.Sort
set_option maxRecDepth 100000

section
variable {b o : Nat} {x : Nd} {v : Value} {w : World}
set_option maxHeartbeats 4000000 in
theorem wt35 (nc : NC w b o x v) (hk : x.kind = 35) (ht : x.text = bs [43]) : Calls Tryz.prog 45 #[.pointer (some ⟨b, o, none⟩)] w fun e w' => e = .returned (.int .i64 0) ∧ w' = w := by
  have k0 := nc.c0
  rw [hk] at k0
  have k1 := nc.c1
  rw [ht] at k1
  have c1 := isWord_any [43] w
  rw [show isWordM [43] = false from by kernel_rfl] at c1
  have c2 := isOperator_any [43] w
  rw [show isOperatorM [43] = true from by kernel_rfl] at c2
  have c3 := unless_any true 21 w
  clear nc hk ht
  go_enter Tryz.func45, Tryz.ntmps45
  go_wp2_with (first
    | (go_at_call 62; refine c1.mono ?_; clear c1; rintro e w' ⟨rfl, rfl⟩)
    | (go_at_call 63; refine c2.mono ?_; clear c2; rintro e w' ⟨rfl, rfl⟩)
    | (go_at_call 61; refine c3.mono ?_; clear c3; rintro e w' ⟨rfl, rfl⟩))
  go_ret
  exact ⟨rfl, rfl⟩
set_option maxHeartbeats 4000000 in
theorem wt30 (nc : NC w b o x v) (hk : x.kind = 30) (ht : x.text = bs [120]) : Calls Tryz.prog 45 #[.pointer (some ⟨b, o, none⟩)] w fun e w' => e = .returned (.int .i64 0) ∧ w' = w := by
  have k0 := nc.c0
  rw [hk] at k0
  have k1 := nc.c1
  rw [ht] at k1
  have c1 := isWord_any [120] w
  rw [show isWordM [120] = true from by kernel_rfl] at c1
  have c3 := unless_any true 21 w
  clear nc hk ht
  go_enter Tryz.func45, Tryz.ntmps45
  go_wp2_with (first
    | (go_at_call 62; refine c1.mono ?_; clear c1; rintro e w' ⟨rfl, rfl⟩)
    | (go_at_call 61; refine c3.mono ?_; clear c3; rintro e w' ⟨rfl, rfl⟩))
  go_ret
  exact ⟨rfl, rfl⟩
set_option maxHeartbeats 4000000 in
theorem wt38 (nc : NC w b o x v) (hk : x.kind = 38) (ht : x.text = bs []) : Calls Tryz.prog 45 #[.pointer (some ⟨b, o, none⟩)] w fun e w' => e = .returned (.int .i64 0) ∧ w' = w := by
  have k0 := nc.c0
  rw [hk] at k0
  have k1 := nc.c1
  rw [ht] at k1
  have c3 := unless_any true 15 w
  clear nc hk ht
  go_enter Tryz.func45, Tryz.ntmps45
  go_wp2_with (go_at_call 61; refine c3.mono ?_; clear c3; rintro e w' ⟨rfl, rfl⟩)
  go_ret
  exact ⟨rfl, rfl⟩
set_option maxHeartbeats 4000000 in
theorem wn35 (nc : NC w b o x v) (hk : x.kind = 35) (hn : x.num = 0) : Calls Tryz.prog 46 #[.pointer (some ⟨b, o, none⟩)] w fun e w' => e = .returned (.int .i64 0) ∧ w' = w := by
  have k0 := nc.c0
  rw [hk] at k0
  have k2 := nc.c2
  rw [hn] at k2
  have c3 := unless_any true 15 w
  clear nc hk hn
  go_enter Tryz.func46, Tryz.ntmps46
  go_wp2_with (go_at_call 61; refine c3.mono ?_; clear c3; rintro e w' ⟨rfl, rfl⟩)
  go_ret
  exact ⟨rfl, rfl⟩
set_option maxHeartbeats 4000000 in
theorem wn30 (nc : NC w b o x v) (hk : x.kind = 30) (hn : x.num = 0) : Calls Tryz.prog 46 #[.pointer (some ⟨b, o, none⟩)] w fun e w' => e = .returned (.int .i64 0) ∧ w' = w := by
  have k0 := nc.c0
  rw [hk] at k0
  have k2 := nc.c2
  rw [hn] at k2
  have c3 := unless_any true 15 w
  clear nc hk hn
  go_enter Tryz.func46, Tryz.ntmps46
  go_wp2_with (go_at_call 61; refine c3.mono ?_; clear c3; rintro e w' ⟨rfl, rfl⟩)
  go_ret
  exact ⟨rfl, rfl⟩
set_option maxHeartbeats 4000000 in
theorem wn38 (nc : NC w b o x v) (hk : x.kind = 38) (hn : x.num = 1) : Calls Tryz.prog 46 #[.pointer (some ⟨b, o, none⟩)] w fun e w' => e = .returned (.int .i64 0) ∧ w' = w := by
  have k0 := nc.c0
  rw [hk] at k0
  have k2 := nc.c2
  rw [hn] at k2
  have c3 := unless_any true 25 w
  clear nc hk hn
  go_enter Tryz.func46, Tryz.ntmps46
  go_wp2_with (go_at_call 61; refine c3.mono ?_; clear c3; rintro e w' ⟨rfl, rfl⟩)
  go_ret
  exact ⟨rfl, rfl⟩
set_option maxHeartbeats 4000000 in
theorem kr35 (nc : NC w b o x v) (hk : x.kind = 35) : Calls Tryz.prog 49 #[.pointer (some ⟨b, o, none⟩)] w fun e w' => e = .returned (.bool true) ∧ w' = w := by
  have k0 := nc.c0
  rw [hk] at k0
  clear nc hk
  go_enter Tryz.func49, Tryz.ntmps49
  go_wp2
  go_ret
  exact ⟨rfl, rfl⟩
set_option maxHeartbeats 4000000 in
theorem kr30 (nc : NC w b o x v) (hk : x.kind = 30) : Calls Tryz.prog 49 #[.pointer (some ⟨b, o, none⟩)] w fun e w' => e = .returned (.bool true) ∧ w' = w := by
  have k0 := nc.c0
  rw [hk] at k0
  clear nc hk
  go_enter Tryz.func49, Tryz.ntmps49
  go_wp2
  go_ret
  exact ⟨rfl, rfl⟩
set_option maxHeartbeats 4000000 in
theorem kr38 (nc : NC w b o x v) (hk : x.kind = 38) : Calls Tryz.prog 49 #[.pointer (some ⟨b, o, none⟩)] w fun e w' => e = .returned (.bool true) ∧ w' = w := by
  have k0 := nc.c0
  rw [hk] at k0
  clear nc hk
  go_enter Tryz.func49, Tryz.ntmps49
  go_wp2
  go_ret
  exact ⟨rfl, rfl⟩
end
/-- The tree of the first example. -/
def n38 : Nd := .mk 38 (bs []) 1 [] 0
def n30 : Nd := .mk 30 (bs [120]) 0 [] 0
def n35 : Nd := .mk 35 (bs [43]) 0 [n38, n30] 0
end Go.Proofs.YthcoigdmammamaaGreatDoor
