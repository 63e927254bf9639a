/- The walk of badText. -/
import Derived.Test.YtkfkgdkfgpofnaaDoorE0
import Derived.Deep.LoopGhost
namespace Go.Proofs.YtkfkgdkfgpofnaaDoor
open Go.RowKit
set_option maxRecDepth 100000

/-- Is it a byte that no text has? -/
def badB (c : Nat) : Bool := (decide (c < 32) || decide (126 < c)) && (c != 9) && (c != 10)
def mbadF (s : ByteArray) : Nat → Nat → Int × Int
  | 0, _ => (0, 0)
  | n + 1, k => if k < s.size then if badB (bt s k) = true then (k, 27) else mbadF s n (k + 1) else (0, 0)
/-- The fault of a text. -/
def mbad (s : ByteArray) : Int × Int := mbadF s (s.size + 1) 0

set_option maxHeartbeats 2000000 in
theorem badText_any (s : ByteArray) (w : World) (hs : s.size ≤ 60000) :
    Calls Tryd.prog 10 #[.string s] w fun e w' => e = .returned (.agg #[.int .i64 (mbad s).1, .int .i64 (mbad s).2]) ∧ Below w.heap.size w w' := by
  go_enter Tryd.func10, Tryd.ntmps10
  go_wp2
  go_loopg [3] (s.size + 1) (fun n i wr => ∃ k : Nat, k ≤ s.size ∧ s.size - k < n ∧ i = .int .i64 k ∧ Hid (mbadF s n k = mbad s) ∧ Hid (wr = w.alloc (.cells #[.int .i64 0, .int .i64 0] 26)))
  case atStart => exact ⟨0, by omega, by omega, rfl, rfl, rfl⟩
  case round =>
    obtain ⟨k, hk, hn, rfl, HK, HW⟩ := hrel
    obtain rfl := HW.out
    clear HW
    obtain ⟨n, rfl⟩ : ∃ n, gk = n + 1 := ⟨gk - 1, by omega⟩
    by_cases hlt : k < s.size
    · have e := bt_eq s k hlt
      have hlti : (k : Int) < s.size := by omega
      by_cases hc : badB (bt s k) = true
      · have HR : Hid (mbad s = ((k : Int), 27)) := by have := HK.out; simp only [mbadF, hlt, hc, if_true] at this; exact this.symm
        have hx : ((bt s k : Int) < 32 ∨ ((¬ (bt s k : Int) < 32) ∧ (126 : Int) < (bt s k : Int))) ∧ ((bt s k : Int) != 9) = true ∧ ((bt s k : Int) != 10) = true := by
          unfold badB at hc
          simp only [Bool.and_eq_true, Bool.or_eq_true, decide_eq_true_eq, bne_iff_ne] at hc ⊢
          omega
        clear hc
        obtain ⟨h1 | ⟨h1, h2⟩, h3, h4⟩ := hx
        all_goals
          go_wp2
          refine bodyPost_ret (v := .agg #[.int .i64 k, .int .i64 27]) (by simp [results, Tryd.results10, go_sem]) rfl ⟨?_, (Below.refl _ _).alloc (Nat.le_refl _) _⟩
          rw [HR.out]
      · have HK' : Hid (mbadF s n (k + 1) = mbad s) := by have := HK.out; simp only [mbadF, hlt, hc, if_true, if_false] at this; exact this
        have hx : (((32 : Int) ≤ (bt s k : Int)) ∧ (bt s k : Int) ≤ 126) ∨ ((bt s k : Int) < 32 ∧ ((bt s k : Int) != 9) = false) ∨ ((bt s k : Int) < 32 ∧ ((bt s k : Int) != 9) = true ∧ ((bt s k : Int) != 10) = false) := by
          unfold badB at hc
          simp only [Bool.and_eq_true, Bool.or_eq_true, decide_eq_true_eq, bne_iff_ne, bne_eq_false_iff_eq] at hc ⊢
          omega
        clear hc
        rcases hx with ⟨h1, h2⟩ | ⟨h1, h2⟩ | ⟨h1, h2, h3⟩
        all_goals
          go_wp2
          go_roundg n
          case measure => omega
          case rel => exact ⟨k + 1, by omega, by omega, by go_num, HK', rfl⟩
    · have hge : decide ((k : Int) < s.size) = false := by simp; omega
      have HR : Hid (mbad s = (0, 0)) := by have := HK.out; simp only [mbadF, hlt, if_false] at this; exact this.symm
      go_wp2
      refine bodyPost_ret (v := .agg #[.int .i64 0, .int .i64 0]) (by simp [results, Tryd.results10, go_sem]) rfl ⟨?_, (Below.refl _ _).alloc (Nat.le_refl _) _⟩
      rw [HR.out]
end Go.Proofs.YtkfkgdkfgpofnaaDoor
