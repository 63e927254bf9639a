/- isWord, isOperator. -/
import Derived.Test.YthcoigdmammamaaGreatDoorS26
import Derived.Deep.LoopGhost
namespace Go.Proofs.YthcoigdmammamaaGreatDoor
open Go.RowKit Go.Shelf Go.Sort
set_option maxRecDepth 100000

/-- Whether a byte may stand at a place of a name of letters. -/
def wordAt (l : List UInt8) (i : Nat) : Bool := letB (l.getD i 0).toNat || ((l.getD i 0).toNat == 95) || (!(i == 0) && digB (l.getD i 0).toNat)
def isWordM (l : List UInt8) : Bool := !(l == []) && !(l == [95]) && decide (l.length ≤ 64) && (List.range l.length).all (wordAt l)
theorem bs_get (l : List UInt8) (i : Nat) (h : i < (bs l).size) : (bs l)[i] = l.getD i 0 := by
  have h' : i < l.length := by
    have : (bs l).size = l.length := by show l.toArray.size = _; simp
    omega
  show l.toArray[i]'_ = _
  simp [List.getD_eq_getElem?_getD, h']

set_option maxHeartbeats 4000000 in
theorem isWord_any (l : List UInt8) (w : World) : Calls Tryz.prog 62 #[.string (bs l)] w fun e w' => e = .returned (.bool (isWordM l)) ∧ w' = w := by
  obtain ⟨b, hb⟩ : ∃ b, b = isWordM l := ⟨_, rfl⟩
  rw [← hb]
  unfold isWordM at hb
  by_cases h0 : l = []
  · subst h0
    have hbf : b = false := by rw [hb]; rfl
    clear hb
    subst hbf
    go_enter Tryz.func62, Tryz.ntmps62
    go_wp2
    go_ret
    exact ⟨rfl, rfl⟩
  · have e0 : (l == []) = false := by simpa using h0
    by_cases h1 : l = [95]
    · subst h1
      have hbf : b = false := by rw [hb]; rfl
      clear hb
      subst hbf
      go_enter Tryz.func62, Tryz.ntmps62
      go_wp2
      go_ret
      exact ⟨rfl, rfl⟩
    · have e1 : (l == [95]) = false := by simpa using h1
      by_cases h2 : 64 < l.length
      · have d2 : decide ((64 : Int) < (l.length : Int)) = true := by simp; omega
        have hbf : b = false := by
          have : decide (l.length ≤ 64) = false := by simp; omega
          rw [hb, this]; simp
        clear hb h2
        subst hbf
        go_enter Tryz.func62, Tryz.ntmps62
        go_wp2
        go_ret
        exact ⟨rfl, rfl⟩
      · have d2 : decide ((64 : Int) < (l.length : Int)) = false := by simp; omega
        have hba : b = (List.range l.length).all (wordAt l) := by
          have : decide (l.length ≤ 64) = true := by simp; omega
          rw [hb, this, e0, e1]; simp
        have HB := Lib.hid hba
        have hlen : l.length ≤ 64 := by omega
        clear hb hba h0 h1 h2
        go_enter Tryz.func62, Tryz.ntmps62
        go_wp2
        go_loopg [3] (l.length + 1) (fun n y wr => ∃ i : Nat, i ≤ l.length ∧ l.length - i < n ∧ y = .int .i64 i ∧ Hid ((List.range i).all (wordAt l) = true) ∧ w = wr)
        case atStart => exact ⟨0, by omega, by omega, rfl, rfl, rfl⟩
        case round =>
          obtain ⟨i, hi, hgk, rfl, HT, rfl⟩ := hrel
          obtain ⟨n, rfl⟩ : ∃ n, gk = n + 1 := ⟨gk - 1, by omega⟩
          by_cases hlt : i < l.length
          · have hii : (i : Int) < (l.length : Int) := by omega
            have hi0 : (0 : Int) ≤ (i : Int) := by omega
            have hsz : i < (bs l).size := by show i < l.toArray.size; simpa using hlt
            have hg := bs_get l i hsz
            have cL := isLetter_any ((bs l)[i]'hsz).toNat w
            have cD := isDigit_any ((bs l)[i]'hsz).toNat w
            have hst : (List.range (i + 1)).all (wordAt l) = wordAt l i := by
              rw [all_range, HT.out, Bool.true_and]
            have hwa : wordAt l i = (letB ((bs l)[i]'hsz).toNat || (((bs l)[i]'hsz).toNat == 95) || (!(i == 0) && digB ((bs l)[i]'hsz).toNat)) := by
              rw [hg]; rfl
            obtain ⟨b1, hb1⟩ : ∃ b1, letB ((bs l)[i]'hsz).toNat = b1 := ⟨_, rfl⟩
            obtain ⟨b3, hb3⟩ : ∃ b3, digB ((bs l)[i]'hsz).toNat = b3 := ⟨_, rfl⟩
            rw [hb1] at cL hwa
            rw [hb3] at cD hwa
            have HST := Lib.hid hst
            have HWA := Lib.hid hwa
            clear hg hst hb1 hb3 hwa
            cases b1 with
            | true =>
              go_wp2_with (go_at_call 81; refine cL.mono ?_; clear cL; rintro e w' ⟨rfl, rfl⟩)
              go_roundg n
              case measure => omega
              case rel => exact ⟨i + 1, by omega, by omega, by go_num, (by show _ = _; rw [HST.out, HWA.out]; rfl), rfl⟩
            | false =>
              by_cases h9 : ((bs l)[i]'hsz).toNat = 95
              · have q1 : ((((bs l)[i]'hsz).toNat : Int) == 95) = true := by simpa using (by omega : (((bs l)[i]'hsz).toNat : Int) = 95)
                have q2 : ((((bs l)[i]'hsz).toNat : Int) != 95) = false := by simpa using (by omega : (((bs l)[i]'hsz).toNat : Int) = 95)
                have hw1 : Hid (wordAt l i = true) := by show _ = _; rw [HWA.out, h9]; rfl
                clear h9
                go_wp2_with (go_at_call 81; refine cL.mono ?_; clear cL; rintro e w' ⟨rfl, rfl⟩)
                go_roundg n
                case measure => omega
                case rel => exact ⟨i + 1, by omega, by omega, by go_num, (by show _ = _; rw [HST.out, hw1.out]), rfl⟩
              · have q1 : ((((bs l)[i]'hsz).toNat : Int) == 95) = false := by simpa using (by omega : (((bs l)[i]'hsz).toNat : Int) ≠ 95)
                have q2 : ((((bs l)[i]'hsz).toNat : Int) != 95) = true := by simpa using (by omega : (((bs l)[i]'hsz).toNat : Int) ≠ 95)
                have h95 : ((((bs l)[i]'hsz).toNat == 95)) = false := by simpa using h9
                by_cases hi00 : i = 0
                · subst hi00
                  have hbf : b = false := by
                    rw [HB.out, Bool.eq_false_iff]
                    intro h
                    rw [List.all_eq_true] at h
                    have h1 := h 0 (by rw [List.mem_range]; exact hlt)
                    rw [HWA.out, h95] at h1
                    simp at h1
                  clear h9 h95 HB
                  subst hbf
                  go_wp2_with (go_at_call 81; refine cL.mono ?_; clear cL; rintro e w' ⟨rfl, rfl⟩)
                  go_ret
                  exact ⟨rfl, rfl⟩
                · have q3 : ((i : Int) == 0) = false := by simpa using hi00
                  have hi3 : (i == 0) = false := by simpa using hi00
                  have hw1 : Hid (wordAt l i = b3) := by show _ = _; rw [HWA.out, h95, hi3]; simp
                  clear h9 h95 hi00 hi3
                  cases b3 with
                  | true =>
                    go_wp2_with (first
                      | (go_at_call 81; refine cL.mono ?_; clear cL; rintro e w' ⟨rfl, rfl⟩)
                      | (go_at_call 85; refine cD.mono ?_; clear cD; rintro e w' ⟨rfl, rfl⟩))
                    go_roundg n
                    case measure => omega
                    case rel => exact ⟨i + 1, by omega, by omega, by go_num, (by show _ = _; rw [HST.out, hw1.out]), rfl⟩
                  | false =>
                    have hbf : b = false := by
                      rw [HB.out, Bool.eq_false_iff]
                      intro h
                      rw [List.all_eq_true] at h
                      have h1 := h i (by rw [List.mem_range]; exact hlt)
                      rw [hw1.out] at h1
                      cases h1
                    clear HB
                    subst hbf
                    go_wp2_with (first
                      | (go_at_call 81; refine cL.mono ?_; clear cL; rintro e w' ⟨rfl, rfl⟩)
                      | (go_at_call 85; refine cD.mono ?_; clear cD; rintro e w' ⟨rfl, rfl⟩))
                    go_ret
                    exact ⟨rfl, rfl⟩
          · have he : i = l.length := by omega
            subst he
            have hbf : b = true := by rw [HB.out]; exact HT.out
            clear HB
            subst hbf
            go_wp2
            go_ret
            exact ⟨rfl, rfl⟩
/-- The bytes of operators. -/
def opBytes : List UInt8 := [43, 45, 42, 47, 37, 60, 62, 61, 33, 38, 124, 94, 126, 58, 63]
def opAt (l : List UInt8) (i : Nat) : Bool := decide (0 ≤ Lib.indexByte opBytes (l.getD i 0))
def isOperatorM (l : List UInt8) : Bool := !(l == []) && decide (l.length ≤ 64) && (List.range l.length).all (opAt l)

set_option maxHeartbeats 4000000 in
theorem isOperator_any (l : List UInt8) (w : World) : Calls Tryz.prog 63 #[.string (bs l)] w fun e w' => e = .returned (.bool (isOperatorM l)) ∧ w' = w := by
  obtain ⟨b, hb⟩ : ∃ b, b = isOperatorM l := ⟨_, rfl⟩
  rw [← hb]
  unfold isOperatorM at hb
  by_cases h0 : l = []
  · subst h0
    have hbf : b = false := by rw [hb]; rfl
    clear hb
    subst hbf
    go_enter Tryz.func63, Tryz.ntmps63
    go_wp2
    go_ret
    exact ⟨rfl, rfl⟩
  · have e0 : (l == []) = false := by simpa using h0
    by_cases h2 : 64 < l.length
    · have d2 : decide ((64 : Int) < (l.length : Int)) = true := by simp; omega
      have hbf : b = false := by
        have : decide (l.length ≤ 64) = false := by simp; omega
        rw [hb, this]; simp
      clear hb h2
      subst hbf
      go_enter Tryz.func63, Tryz.ntmps63
      go_wp2
      go_ret
      exact ⟨rfl, rfl⟩
    · have d2 : decide ((64 : Int) < (l.length : Int)) = false := by simp; omega
      have hba : b = (List.range l.length).all (opAt l) := by
        have : decide (l.length ≤ 64) = true := by simp; omega
        rw [hb, this, e0]; simp
      have HB := Lib.hid hba
      have hlen : l.length ≤ 64 := by omega
      clear hb hba h0 h2
      go_enter Tryz.func63, Tryz.ntmps63
      go_wp2
      go_loopg [3] (l.length + 1) (fun n y wr => ∃ i : Nat, i ≤ l.length ∧ l.length - i < n ∧ y = .int .i64 i ∧ Hid ((List.range i).all (opAt l) = true) ∧ w = wr)
      case atStart => exact ⟨0, by omega, by omega, rfl, rfl, rfl⟩
      case round =>
        obtain ⟨i, hi, hgk, rfl, HT, rfl⟩ := hrel
        obtain ⟨n, rfl⟩ : ∃ n, gk = n + 1 := ⟨gk - 1, by omega⟩
        by_cases hlt : i < l.length
        · have hii : (i : Int) < (l.length : Int) := by omega
          have hi0 : (0 : Int) ≤ (i : Int) := by omega
          have hsz : i < (bs l).size := by show i < l.toArray.size; simpa using hlt
          have hg := bs_get l i hsz
          have cI := Tryz.strings_IndexByte (bs opBytes) (((bs l)[i]'hsz).toNat : Int) w
          have hcc : ((((bs l)[i]'hsz).toNat : Int)).toNat.toUInt8 = l.getD i 0 := by
            rw [Int.toNat_natCast, hg]
            simp
          rw [hcc] at cI
          change Calls Tryz.prog 83 #[.string (bs opBytes), .int .u8 (((bs l)[i]'hsz).toNat : Int)] w (fun e w' => e = .returned (.int .i64 (Lib.indexByte opBytes (l.getD i 0))) ∧ w' = w) at cI
          unfold opBytes at cI
          have hst : (List.range (i + 1)).all (opAt l) = opAt l i := by
            rw [all_range, HT.out, Bool.true_and]
          have hwa : opAt l i = decide (0 ≤ Lib.indexByte [43, 45, 42, 47, 37, 60, 62, 61, 33, 38, 124, 94, 126, 58, 63] (l.getD i 0)) := rfl
          generalize Lib.indexByte [43, 45, 42, 47, 37, 60, 62, 61, 33, 38, 124, 94, 126, 58, 63] (l.getD i 0) = x at *
          have HST := Lib.hid hst
          have HWA := Lib.hid hwa
          clear hg hst hcc hwa
          by_cases hx : x < 0
          · have d1 : decide (x < 0) = true := by simpa using hx
            have hbf : b = false := by
              rw [HB.out, Bool.eq_false_iff]
              intro h
              rw [List.all_eq_true] at h
              have h1 := h i (by rw [List.mem_range]; exact hlt)
              rw [HWA.out] at h1
              simp at h1
              omega
            clear HB hx
            subst hbf
            go_wp2_with (go_at_call 83; refine cI.mono ?_; clear cI; rintro e w' ⟨rfl, rfl⟩)
            go_ret
            exact ⟨rfl, rfl⟩
          · have d1 : decide (x < 0) = false := by simpa using hx
            have hw1 : Hid (opAt l i = true) := by show _ = _; rw [HWA.out]; simp; omega
            clear hx
            go_wp2_with (go_at_call 83; refine cI.mono ?_; clear cI; rintro e w' ⟨rfl, rfl⟩)
            go_roundg n
            case measure => omega
            case rel => exact ⟨i + 1, by omega, by omega, by go_num, (by show _ = _; rw [HST.out, hw1.out]), rfl⟩
        · have he : i = l.length := by omega
          subst he
          have hbf : b = true := by rw [HB.out]; exact HT.out
          clear HB
          subst hbf
          go_wp2
          go_ret
          exact ⟨rfl, rfl⟩
end Go.Proofs.YthcoigdmammamaaGreatDoor
