/- IsName, consists, isIndex, has, hasOthers; the reference's IsName. -/
import Derived.Test.YtlipfgdjbimfjaaGreatDoorChecked
import Derived.Test.YtlipfgdjbimfjaaGreatDoorSh
import Derived.WalkKit
import Derived.WalkLawsBesides
import Derived.WalkSpells
import Derived.Lib.Hide
import Derived.Below
import Derived.BigQuiet
import Derived.Deep.QuietTactic
namespace Go.Proofs.YtlipfgdjbimfjaaGreatDoor
open Go.RowKit Go.Shelf
set_option maxRecDepth 100000

theorem ret_int {k : IntKind} {a b : Int} (h : a = b) : Ending.returned (.int k a) = .returned (.int k b) := by rw [h]
theorem ret_bool {a b : Bool} (h : a = b) : Ending.returned (.bool a) = .returned (.bool b) := by rw [h]

/-- Whether a byte stands in a list. -/
def inB (l : List UInt8) (c : UInt8) : Bool := !(decide (Lib.indexByte l c < 0))
def allB (l s : List UInt8) : Bool := s.all (inB l)
theorem allB_take (l s : List UInt8) (k : Nat) (h : k < s.length) : allB l (s.take (k + 1)) = (allB l (s.take k) && inB l s[k]) := by
  unfold allB
  rw [List.take_succ_eq_append_getElem h, List.all_append]
  simp
theorem allB_no (l s : List UInt8) (k : Nat) (h : k < s.length) (hb : inB l s[k] = false) : allB l s = false := by
  unfold allB
  rw [List.all_eq_false]
  exact ⟨s[k], List.getElem_mem h, by simp [hb]⟩

theorem isIndex_any (i n : Int) (w : World) :
    Calls Tryz.prog 38 #[.int .i64 i, .int .i64 n] w fun e w' => e = .returned (.bool (decide (0 ≤ i) && decide (i < n))) ∧ w = w' := by
  by_cases h : 0 ≤ i
  · have hd : (decide (0 ≤ i) && decide (i < n)) = decide (i < n) := by simp [h]
    have HD := Lib.hid hd
    clear hd
    go_enter Tryz.func38, Tryz.ntmps38
    go_wp2
    go_ret
    exact ⟨ret_bool HD.out.symm, rfl⟩
  · have hd : (decide (0 ≤ i) && decide (i < n)) = false := by simp [h]
    have HD := Lib.hid hd
    clear hd
    go_enter Tryz.func38, Tryz.ntmps38
    go_wp2
    go_ret
    exact ⟨ret_bool HD.out.symm, rfl⟩
theorem isIndex_in {i n : Int} (w : World) (h0 : 0 ≤ i) (h : i < n) :
    Calls Tryz.prog 38 #[.int .i64 i, .int .i64 n] w fun e w' => e = .returned (.bool true) ∧ w = w' := by
  have h1 := isIndex_any i n w
  rw [show (decide (0 ≤ i) && decide (i < n)) = true by simp [h0, h]] at h1
  exact h1
theorem isIndex_out {i n : Int} (w : World) (h : i < 0 ∨ n ≤ i) :
    Calls Tryz.prog 38 #[.int .i64 i, .int .i64 n] w fun e w' => e = .returned (.bool false) ∧ w = w' := by
  have h1 := isIndex_any i n w
  rw [show (decide (0 ≤ i) && decide (i < n)) = false by rcases h with h | h <;> simp <;> omega] at h1
  exact h1

theorem bytes_get (s : ByteArray) (k : Nat) (h : k < s.size) : k < s.data.toList.length ∧ ∀ h', s.data.toList[k]'h' = s[k] := by
  have hl : s.data.toList.length = s.size := by rw [Array.length_toList]; rfl
  exact ⟨by omega, fun h' => by rw [Array.getElem_toList]; rfl⟩
theorem allB_takeB (l : List UInt8) (s : ByteArray) (k : Nat) (h : k < s.size) : allB l (s.data.toList.take (k + 1)) = (allB l (s.data.toList.take k) && inB l s[k]) := by
  obtain ⟨h1, h2⟩ := bytes_get s k h
  rw [allB_take l _ k h1, h2]
theorem allB_noB (l : List UInt8) (s : ByteArray) (k : Nat) (h : k < s.size) (hb : inB l s[k] = false) : allB l s.data.toList = false := by
  obtain ⟨h1, h2⟩ := bytes_get s k h
  exact allB_no l _ k h1 (by rw [h2]; exact hb)

set_option maxHeartbeats 1000000 in
theorem consists_any (s b : ByteArray) (w : World) (hs : s.size ≤ 140737488351232) :
    Calls Tryz.prog 147 #[.string s, .string b] w fun e w' => e = .returned (.bool (allB b.data.toList s.data.toList)) ∧ w = w' := by
  have hl : s.data.toList.length = s.size := by rw [Array.length_toList]; rfl
  have HL := Lib.hid hl
  clear hl
  go_enter Tryz.func147, Tryz.ntmps147
  go_wp2
  go_loop [8] (fun i => ∃ k : Nat, k ≤ s.size ∧ i = .int .i64 k ∧ Hid (allB b.data.toList (s.data.toList.take k) = true)) (fun i => s.size - (intOf i).toNat)
  case atStart => exact ⟨0, Nat.zero_le _, rfl, Lib.hid rfl⟩
  case round =>
    obtain ⟨k, hk, rfl, HA⟩ := hrel
    by_cases hlt : k < s.size
    · have HT := Lib.hid (allB_takeB b.data.toList s k hlt)
      have HN := Lib.hid (allB_noB b.data.toList s k hlt)
      by_cases hb : Lib.indexByte b.data.toList s[k] < 0
      · have HB : Hid (inB b.data.toList s[k] = false) := Lib.hid (by simp [inB, hb])
        have hb' : (decide (Lib.indexByte b.data.toList s[k] < 0)) = true := by simp [hb]
        clear hb
        go_wp2_with (go_at_call 164; refine (Tryz.strings_IndexByte _ _ _).mono ?_; rintro e w' ⟨rfl, rfl⟩)
        go_ret
        exact ⟨ret_bool (HN.out HB.out).symm, rfl⟩
      · have HB : Hid (inB b.data.toList s[k] = true) := Lib.hid (by simp [inB, hb])
        have hb' : (decide (Lib.indexByte b.data.toList s[k] < 0)) = false := by simp [hb]
        clear hb
        go_wp2_with (go_at_call 164; refine (Tryz.strings_IndexByte _ _ _).mono ?_; rintro e w' ⟨rfl, rfl⟩)
        go_round
        case rel => exact ⟨k + 1, by omega, by go_num, Lib.hid (by rw [HT.out, HA.out, HB.out]; rfl)⟩
        case measure => simp [intOf]; omega
    · go_wp2
      go_ret
      exact ⟨ret_bool (by have h := HA.out; rw [List.take_of_length_le (by rw [HL.out]; omega)] at h; exact h.symm), rfl⟩
end Go.Proofs.YtlipfgdjbimfjaaGreatDoor
