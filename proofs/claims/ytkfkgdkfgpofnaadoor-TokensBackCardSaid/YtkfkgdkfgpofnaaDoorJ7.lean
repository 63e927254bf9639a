/- The walk of awake. -/
import Derived.Test.YtkfkgdkfgpofnaaDoorJ6
import Derived.BigQuiet
import Derived.Deep.LoopGhost
namespace Go.Proofs.YtkfkgdkfgpofnaaDoor
open Go.RowKit
set_option maxRecDepth 100000

/-- The text that is scanned in order to see that the program is awake. -/
def aw : ByteArray := ⟨#[100, 101, 102, 32, 102, 32, 61, 10, 32, 32, 97, 10, 32, 32, 98, 10, 103]⟩
def kindsOf : Except Flt (List Tok) → List Int
  | .ok l => l.map Tok.kind
  | .error f => [f.1, f.2, 77]
def awK : List Int := [1, 0, 3, 12, 0, 11, 0, 13, 11, 0, 14]
theorem awScan : kindsOf (mscan aw) = awK := by kernel_rfl

set_option maxHeartbeats 4000000 in
theorem awake_any (w : World) (hT : Tab w) (h0 : 0 < w.heap.size) :
    Calls Tryd.prog 6 #[] w fun e w' => e = .returned (.bool true) ∧ Below w.heap.size w w' := by
  have hsz : aw.size ≤ 40000 := by decide
  obtain ⟨l, hl, hk⟩ : ∃ l, mscan aw = .ok l ∧ l.map Tok.kind = awK := by
    have h := awScan
    rcases hm : mscan aw with f | l
    · rw [hm] at h; exact absurd (congrArg List.length h) (by simp [kindsOf, awK])
    · rw [hm] at h; exact ⟨l, rfl, h⟩
  have hlen : l.length = 11 := by have := congrArg List.length hk; simpa [awK] using this
  have HL := Lib.hid (And.intro hl (And.intro hk hlen))
  have HT := Lib.hid hT
  clear hl hk hlen hT
  go_enter Tryd.func6, Tryd.ntmps6
  go_wp2_with fail
  refine (scan_any aw w HT.out h0 hsz).mono ?_
  intro e2 w2 h2
  rw [HL.out.1] at h2
  obtain ⟨v, rfl, hown, hb⟩ := h2
  obtain ⟨va, vc, rfl⟩ := own_slice hown
  obtain ⟨g, cap, he, hg0, hgl⟩ := hown.form (by rw [HL.out.2.2]; omega)
  injection he with he1 he2 he3
  subst he1 he3
  clear he2
  have HO := Lib.hid hown
  have HB := Lib.hid hb
  clear hown hb hsz
  rw [HL.out.2.2]
  go_wp2
  generalize hw3 : (w2.alloc (Obj.cells #[.int .i64 0, .int .i64 0] 26)).alloc (Obj.cells #[.int .i64 1, .int .i64 0, .int .i64 3, .int .i64 12, .int .i64 0, .int .i64 11, .int .i64 0, .int .i64 13, .int .i64 11, .int .i64 0, .int .i64 14] 3) = w3
  have HB3 : Hid (Below w.heap.size w w3) := by
    show Below _ _ _
    rw [← hw3]
    exact (HB.out.alloc HB.out.size _).alloc (by have := HB.out.size; simp; omega) _
  have hbk : w3.heap[w2.heap.size + 1]? = some (Obj.cells #[.int .i64 1, .int .i64 0, .int .i64 3, .int .i64 12, .int .i64 0, .int .i64 11, .int .i64 0, .int .i64 13, .int .i64 11, .int .i64 0, .int .i64 14] 3 (0, 0)) := by
    rw [← hw3, show w2.heap.size + 1 = (w2.alloc (Obj.cells #[.int .i64 0, .int .i64 0] 26)).heap.size from by simp]
    exact heap_alloc_new _ _
  have F1 : Hid (∀ i, i < 11 → w3.cell? ⟨w2.heap.size + 1, i, none⟩ = some (.int .i64 (awK.getD i 0))) := by
    intro i hi
    rw [blk_cell hbk i]
    have : i = 0 ∨ i = 1 ∨ i = 2 ∨ i = 3 ∨ i = 4 ∨ i = 5 ∨ i = 6 ∨ i = 7 ∨ i = 8 ∨ i = 9 ∨ i = 10 := by omega
    rcases this with rfl | rfl | rfl | rfl | rfl | rfl | rfl | rfl | rfl | rfl | rfl <;> rfl
  have F2 : Hid (∀ i, i < 11 → w3.cell? ⟨g, i * 5, none⟩ = some (.int .i64 (awK.getD i 0))) := by
    intro i hi
    obtain ⟨t0, _⟩ := tc_of_row HO.out i (by rw [HL.out.2.2]; exact hi)
    have hb : Below w2.heap.size w2 w3 := by rw [← hw3]; exact ((Below.refl _ _).alloc (Nat.le_refl _) _).alloc (by simp) _
    have hlen : i < l.length := by rw [HL.out.2.2]; exact hi
    have hkk : (l.map Tok.kind).getD i 0 = (l[i]'hlen).kind := by
      rw [List.getD_eq_getElem?_getD, List.getElem?_map, List.getElem?_eq_getElem hlen]; rfl
    rw [HL.out.2.1] at hkk
    rw [hb.cell (by exact hgl), t0, hkk]
  clear hbk hw3
  generalize w2.heap.size + 1 = q at *
  go_loopg [23] 12 (fun n x wr => ∃ i : Nat, i ≤ 11 ∧ 11 - i < n ∧ x = .int .i64 i ∧ w3 = wr)
  case atStart => exact ⟨0, by omega, by omega, rfl, rfl⟩
  case round =>
    obtain ⟨i, hi, hgk, rfl, rfl⟩ := hrel
    obtain ⟨n, rfl⟩ : ∃ n, gk = n + 1 := ⟨gk - 1, by omega⟩
    by_cases hlt : i < 11
    · have f1 := F1.out i hlt
      have f2 := F2.out i hlt
      have hii : (i : Int) < 11 := by omega
      have hi0 : (0 : Int) ≤ (i : Int) := by omega
      generalize awK.getD i 0 = kk at *
      go_wp2
      go_roundg n
      case measure => omega
      case rel => exact ⟨i + 1, by omega, by omega, by go_num, rfl⟩
    · have hii : decide ((i : Int) < 11) = false := by simp; omega
      go_wp2
      go_ret
      exact ⟨rfl, HB3.out⟩
end Go.Proofs.YtkfkgdkfgpofnaaDoor
