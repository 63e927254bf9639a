/- wrong, at a node that is right. -/
import Derived.Test.YthcoigdmammamaaGreatDoorS27
namespace Go.Proofs.YthcoigdmammamaaGreatDoor
open Go.RowKit Go.Shelf Go.Sort
set_option maxRecDepth 100000

theorem Glob.regrown {w : World} (h : Glob w) (d : Nat) (os : Array Obj) : Glob (grow (redrawn w d) os) := h.bel (below_regrown w d os)

set_option maxHeartbeats 4000000 in
theorem wrong_ok (x : Nd) (k b o B : Nat) (v : Value) (w : World) (hG : Glob w) (hk : x.kind = (k : Int)) (hk75 : k < 75) (nc : NC w b o x v) (hl : Ls w B v x.kids) (hB : B ≤ w.heap.size) (hb : b < w.heap.size) (hn : x.kids.length ≤ 20000)
    (cT : Calls Tryz.prog 45 #[.pointer (some ⟨b, o, none⟩)] w fun e w' => e = .returned (.int .i64 0) ∧ w' = w)
    (cN : Calls Tryz.prog 46 #[.pointer (some ⟨b, o, none⟩)] w fun e w' => e = .returned (.int .i64 0) ∧ w' = w)
    (hf : (kforms.getD k []).length ≤ 1000) (ha : ∀ c ∈ kforms.getD k [], c.toNat < 128) (hne : ∀ x ∈ Lib.fields (kforms.getD k []), x ≠ [] ∧ x.length ≤ 1000) (hw : (Lib.fields (kforms.getD k [])).length ≤ 1000)
    (hfit : formM (x.kids.map Nd.kind) (kforms.getD k []) = true)
    (cK : ∀ w', Below w.heap.size w w' → Calls Tryz.prog 49 #[.pointer (some ⟨b, o, none⟩)] w' fun e w'' => e = .returned (.bool true) ∧ w'' = w') :
    Calls Tryz.prog 31 #[.pointer (some ⟨b, o, none⟩)] w fun e w' => e = .returned (.int .i64 0) ∧ Below w.heap.size w w' := by
  obtain ⟨va, vc, rfl⟩ := hl.slice
  have k0 := nc.c0
  rw [hk] at k0
  have k3 := nc.c3
  have d1 : decide ((k : Int) < 0) = false := by simp
  have d2 : decide ((75 : Int) ≤ (k : Int)) = false := by simp; omega
  have cF : ∀ d os, Calls Tryz.prog 48 #[.int .i64 k] (grow (redrawn w d) os) _ := fun d os => Calls.regrown_of (kindForm_any k hk75 (grow (redrawn w d) os))
  have cS : ∀ d os, Calls Tryz.prog 47 #[.slice va x.kids.length vc, .string (bs (kforms.getD k []))] (grow (redrawn w d) os) _ := fun d os => Calls.regrown_of (by
    have h := fits_any x.kids (.slice va x.kids.length vc) B (kforms.getD k []) (grow (redrawn w d) os) (hG.regrown d os) (hl.bel ((below_regrown w d os).mono hB)) (Nat.le_trans hB (below_regrown w d os).size) hn hf ha hne hw
    rw [hfit] at h
    exact h)
  have cK2 : ∀ d os, Calls Tryz.prog 49 #[.pointer (some ⟨b, o, none⟩)] (grow (redrawn w d) os) _ := fun d os => Calls.regrown_of ((cK (grow (redrawn w d) os) (below_regrown w d os)).mono fun e w' ⟨he, hw⟩ => ⟨he, by rw [hw]; exact Below.refl _ _⟩)
  have q0 := cell_regrown k0
  have q3 := cell_regrown k3
  clear cK hfit hw hne ha hf hl hG hk nc hn
  generalize bs (kforms.getD k []) = fs at *
  go_enter Tryz.func31, Tryz.ntmps31
  go_wp2_with (first
    | (go_at_call 45; refine cT.mono ?_; clear cT; rintro e w' ⟨rfl, rfl⟩)
    | (go_at_call 46; refine cN.mono ?_; clear cN; rintro e w' ⟨rfl, rfl⟩))
  refine wp_region_quiet_below (by kernel_rfl) (by kernel_rfl) ?_
  repeat (go_big_quiet_step (first | exact cF _ _ | exact cS _ _ | exact cK2 _ _))
  refine wpQuiet_nil ?_
  intro _ hw'
  obtain ⟨⟨dq, osq⟩, hw''⟩ := hw'
  subst hw''
  go_wp2
  go_ret
  exact ⟨rfl, below_regrown _ _ _⟩
end Go.Proofs.YthcoigdmammamaaGreatDoor
