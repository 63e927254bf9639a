/- inClass. -/
import Derived.Test.YthcoigdmammamaaGreatDoorS20
namespace Go.Proofs.YthcoigdmammamaaGreatDoor
open Go.RowKit Go.Shelf Go.Sort
set_option maxRecDepth 100000

/-- Whether a kind is one of definitions, expressions, patterns, types. -/
def classD (k : Int) : Bool := decide (2 ≤ k) && decide (k ≤ 9)
def classE (k : Int) : Bool := Lib.hasPrefix (nameM k) [88] && !(k == 33)
def classP (k : Int) : Bool := Lib.hasPrefix (nameM k) [80]
def classT (k : Int) : Bool := Lib.hasPrefix (nameM k) [84] && !(k == 29)
/-- Whether a kind belongs to a class. -/
def classM (k : Int) (l : List UInt8) : Bool :=
  if l = [68] then classD k else if l = [69] then classE k else if l = [80] then classP k else if l = [83] then classD k || classE k else if l = [84] then classT k else nameM k == l

set_option maxHeartbeats 1000000 in
theorem inClass_d (k : Int) (w : World) : Calls Tryz.prog 107 #[.int .i64 k, .string (bs [68])] w fun e w' => e = .returned (.bool (classD k)) ∧ w' = w := by
  obtain ⟨b, hb⟩ : ∃ b, b = classD k := ⟨_, rfl⟩
  rw [← hb]
  by_cases h1 : 2 ≤ k
  · have e1 : decide (2 ≤ k) = true := by simpa using h1
    have e2 : b = decide (k ≤ 9) := by rw [hb, classD, e1, Bool.true_and]
    clear hb h1
    subst e2
    go_enter Tryz.func107, Tryz.ntmps107
    go_wp2
    go_ret
    exact ⟨rfl, rfl⟩
  · have e1 : decide (2 ≤ k) = false := by simpa using h1
    have e2 : b = false := by rw [hb, classD, e1, Bool.false_and]
    clear hb h1
    subst e2
    go_enter Tryz.func107, Tryz.ntmps107
    go_wp2
    go_ret
    exact ⟨rfl, rfl⟩
set_option maxHeartbeats 1000000 in
theorem inClass_e (k : Int) (w : World) (hG : Glob w) : Calls Tryz.prog 107 #[.int .i64 k, .string (bs [69])] w fun e w' => e = .returned (.bool (classE k)) ∧ w' = w := by
  obtain ⟨b, hb⟩ : ∃ b, b = classE k := ⟨_, rfl⟩
  rw [← hb]
  have cN := name_any k w hG
  have cP := Tryz.strings_HasPrefix (bs (nameM k)) (bs [88]) w
  obtain ⟨p, hp⟩ : ∃ p, p = Lib.hasPrefix (nameM k) [88] := ⟨_, rfl⟩
  change Calls Tryz.prog 82 _ w (fun e w' => e = .returned (.bool (Lib.hasPrefix (nameM k) [88])) ∧ w' = w) at cP
  rw [← hp] at cP
  have HG := Lib.hid hG
  generalize bs (nameM k) = nm at *
  cases p with
  | false =>
    have e2 : b = false := by rw [hb, classE, ← hp, Bool.false_and]
    clear hb hp hG
    subst e2
    go_enter Tryz.func107, Tryz.ntmps107
    go_wp2_with (first
      | (go_at_call 33; refine cN.mono ?_; clear cN; rintro e w' ⟨rfl, rfl⟩)
      | (go_at_call 82; refine cP.mono ?_; clear cP; rintro e w' ⟨rfl, rfl⟩))
    go_ret
    exact ⟨rfl, rfl⟩
  | true =>
    by_cases h3 : k = 33
    · subst h3
      have e2 : b = false := by rw [hb, classE, ← hp]; rfl
      clear hb hp hG
      subst e2
      go_enter Tryz.func107, Tryz.ntmps107
      go_wp2_with (first
        | (go_at_call 33; refine cN.mono ?_; clear cN; rintro e w' ⟨rfl, rfl⟩)
        | (go_at_call 82; refine cP.mono ?_; clear cP; rintro e w' ⟨rfl, rfl⟩))
      go_ret
      exact ⟨rfl, rfl⟩
    · have e3 : (k == 33) = false := by simpa using h3
      have e4 : (k != 33) = true := by simpa using h3
      have e2 : b = true := by rw [hb, classE, ← hp, e3]; rfl
      clear hb hp hG h3
      subst e2
      go_enter Tryz.func107, Tryz.ntmps107
      go_wp2_with (first
        | (go_at_call 33; refine cN.mono ?_; clear cN; rintro e w' ⟨rfl, rfl⟩)
        | (go_at_call 82; refine cP.mono ?_; clear cP; rintro e w' ⟨rfl, rfl⟩))
      go_ret
      exact ⟨rfl, rfl⟩
set_option maxHeartbeats 1000000 in
theorem inClass_t (k : Int) (w : World) (hG : Glob w) : Calls Tryz.prog 107 #[.int .i64 k, .string (bs [84])] w fun e w' => e = .returned (.bool (classT k)) ∧ w' = w := by
  obtain ⟨b, hb⟩ : ∃ b, b = classT k := ⟨_, rfl⟩
  rw [← hb]
  have cN := name_any k w hG
  have cP := Tryz.strings_HasPrefix (bs (nameM k)) (bs [84]) w
  obtain ⟨p, hp⟩ : ∃ p, p = Lib.hasPrefix (nameM k) [84] := ⟨_, rfl⟩
  change Calls Tryz.prog 82 _ w (fun e w' => e = .returned (.bool (Lib.hasPrefix (nameM k) [84])) ∧ w' = w) at cP
  rw [← hp] at cP
  have HG := Lib.hid hG
  generalize bs (nameM k) = nm at *
  cases p with
  | false =>
    have e2 : b = false := by rw [hb, classT, ← hp, Bool.false_and]
    clear hb hp hG
    subst e2
    go_enter Tryz.func107, Tryz.ntmps107
    go_wp2_with (first
      | (go_at_call 33; refine cN.mono ?_; clear cN; rintro e w' ⟨rfl, rfl⟩)
      | (go_at_call 82; refine cP.mono ?_; clear cP; rintro e w' ⟨rfl, rfl⟩))
    go_ret
    exact ⟨rfl, rfl⟩
  | true =>
    by_cases h3 : k = 29
    · subst h3
      have e2 : b = false := by rw [hb, classT, ← hp]; rfl
      clear hb hp hG
      subst e2
      go_enter Tryz.func107, Tryz.ntmps107
      go_wp2_with (first
        | (go_at_call 33; refine cN.mono ?_; clear cN; rintro e w' ⟨rfl, rfl⟩)
        | (go_at_call 82; refine cP.mono ?_; clear cP; rintro e w' ⟨rfl, rfl⟩))
      go_ret
      exact ⟨rfl, rfl⟩
    · have e3 : (k == 29) = false := by simpa using h3
      have e4 : (k != 29) = true := by simpa using h3
      have e2 : b = true := by rw [hb, classT, ← hp, e3]; rfl
      clear hb hp hG h3
      subst e2
      go_enter Tryz.func107, Tryz.ntmps107
      go_wp2_with (first
        | (go_at_call 33; refine cN.mono ?_; clear cN; rintro e w' ⟨rfl, rfl⟩)
        | (go_at_call 82; refine cP.mono ?_; clear cP; rintro e w' ⟨rfl, rfl⟩))
      go_ret
      exact ⟨rfl, rfl⟩
set_option maxHeartbeats 1000000 in
theorem inClass_p (k : Int) (w : World) (hG : Glob w) : Calls Tryz.prog 107 #[.int .i64 k, .string (bs [80])] w fun e w' => e = .returned (.bool (classP k)) ∧ w' = w := by
  have cN := name_any k w hG
  have cP := Tryz.strings_HasPrefix (bs (nameM k)) (bs [80]) w
  change Calls Tryz.prog 82 _ w (fun e w' => e = .returned (.bool (classP k)) ∧ w' = w) at cP
  generalize classP k = b at *
  generalize bs (nameM k) = nm at *
  clear hG
  go_enter Tryz.func107, Tryz.ntmps107
  go_wp2_with (first
    | (go_at_call 33; refine cN.mono ?_; clear cN; rintro e w' ⟨rfl, rfl⟩)
    | (go_at_call 82; refine cP.mono ?_; clear cP; rintro e w' ⟨rfl, rfl⟩))
  go_ret
  exact ⟨rfl, rfl⟩
set_option maxHeartbeats 1000000 in
theorem inClass_s (k : Int) (w : World) (hG : Glob w) : Calls Tryz.prog 107 #[.int .i64 k, .string (bs [83])] w fun e w' => e = .returned (.bool (classD k || classE k)) ∧ w' = w := by
  have cD := inClass_d k w
  have cE := inClass_e k w hG
  generalize classD k = b at *
  generalize classE k = c at *
  clear hG
  cases b with
  | true =>
    clear cE
    go_enter Tryz.func107, Tryz.ntmps107
    go_wp2_with fail
    refine cD.mono ?_
    clear cD
    rintro e w' ⟨rfl, rfl⟩
    go_wp2
    go_ret
    exact ⟨rfl, rfl⟩
  | false =>
    go_enter Tryz.func107, Tryz.ntmps107
    go_wp2_with fail
    refine cD.mono ?_
    clear cD
    rintro e w' ⟨rfl, rfl⟩
    go_wp2_with fail
    refine cE.mono ?_
    clear cE
    rintro e w' ⟨rfl, rfl⟩
    go_wp2
    go_ret
    exact ⟨rfl, rfl⟩
set_option maxHeartbeats 1000000 in
theorem inClass_n (k : Int) (l : List UInt8) (w : World) (hG : Glob w) (h1 : (l == [68]) = false) (h2 : (l == [69]) = false) (h3 : (l == [80]) = false) (h4 : (l == [83]) = false) (h5 : (l == [84]) = false) :
    Calls Tryz.prog 107 #[.int .i64 k, .string (bs l)] w fun e w' => e = .returned (.bool (nameM k == l)) ∧ w' = w := by
  have cN := name_any k w hG
  generalize nameM k = nm at *
  clear hG
  go_enter Tryz.func107, Tryz.ntmps107
  go_wp2_with (go_at_call 33; refine cN.mono ?_; clear cN; rintro e w' ⟨rfl, rfl⟩)
  go_ret
  exact ⟨rfl, rfl⟩
theorem inClass_any (k : Int) (l : List UInt8) (w : World) (hG : Glob w) : Calls Tryz.prog 107 #[.int .i64 k, .string (bs l)] w fun e w' => e = .returned (.bool (classM k l)) ∧ w' = w := by
  unfold classM
  split
  · rename_i h; rw [h]; exact inClass_d k w
  · rename_i h1
    split
    · rename_i h; rw [h]; exact inClass_e k w hG
    · rename_i h2
      split
      · rename_i h; rw [h]; exact inClass_p k w hG
      · rename_i h3
        split
        · rename_i h; rw [h]; exact inClass_s k w hG
        · rename_i h4
          split
          · rename_i h; rw [h]; exact inClass_t k w hG
          · rename_i h5
            exact inClass_n k l w hG (by simpa using h1) (by simpa using h2) (by simpa using h3) (by simpa using h4) (by simpa using h5)
end Go.Proofs.YthcoigdmammamaaGreatDoor
