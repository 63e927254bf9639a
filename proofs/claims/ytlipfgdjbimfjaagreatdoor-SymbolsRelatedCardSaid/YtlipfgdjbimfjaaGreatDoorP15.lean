/- ancestry; the main method; a class without a name. -/
import Derived.Test.YtlipfgdjbimfjaaGreatDoorP14
import Derived.Test.YtlipfgdjbimfjaaGreatDoorP8
namespace Go.Proofs.YtlipfgdjbimfjaaGreatDoor
open Go.RowKit Go.Shelf Go.Sort
set_option maxRecDepth 100000

theorem isCase_no (tb cb n mb i bx : Nat) (w : World) (hT : TT w tb cb n mb) (hi : i < n) (c2 : w.cell? ⟨cb, i * 13 + 2, none⟩ = some (.int .i64 0)) (hb : w.cell? ⟨bx, 0, none⟩ = some (.pointer (some ⟨tb, 0, none⟩))) :
    Calls Tryz.prog 128 #[.int .i64 i, .pointer (some ⟨bx, 0, none⟩)] w fun e w' => e = .returned (.bool false) ∧ w = w' := by
  obtain ⟨a0, a1, a2, a3, a4, a5, a6⟩ := hT
  go_enter Tryz.func128, Tryz.ntmps128
  go_wp2_with fail
  refine (has0 _ _ (by omega)).mono ?_; rintro e w' ⟨rfl, rfl⟩
  go_wp2
  go_ret
  exact ⟨rfl, rfl⟩

set_option maxHeartbeats 1000000 in
theorem ancestry_ok (tb cb n mb i : Nat) (pl : Nat → List (Int × Int)) (w : World) (hT : TT w tb cb n mb) (hi : i < n) (hn : n ≤ 100000) (hcb : cb < w.heap.size) (hP : Pars w w.heap.size cb 0 n pl)
    (c2 : w.cell? ⟨cb, i * 13 + 2, none⟩ = some (.int .i64 0)) (hno : (srt (ints (ancL n pl i))).contains (i : Int) = false) :
    Calls Tryz.prog 85 #[.pointer (some ⟨tb, 0, none⟩), .int .i64 i] w fun e w' => e = .returned (.int .i64 0) ∧ Below w.heap.size w w' := by
  obtain ⟨W, hW⟩ : ∃ W, w.alloc (.cells #[.pointer (some ⟨tb, 0, none⟩)] 119) = W := ⟨_, rfl⟩
  have hb0 : Below w.heap.size w W := by rw [← hW]; exact (Below.refl _ w).alloc (Nat.le_refl _) _
  have htb : tb < w.heap.size := block_lt_of_cell hT.c0
  have hbx : W.cell? ⟨w.heap.size, 0, none⟩ = some (.pointer (some ⟨tb, 0, none⟩)) := by rw [← hW]; simp
  have hWz : w.heap.size < W.heap.size := by rw [← hW]; simp
  have hPW : Pars W W.heap.size cb 0 n pl := fun k hk => by
    obtain ⟨v, h1, a, c, h2, h3, h4⟩ := (hP.bel hb0 (Nat.le_refl _) hcb) k hk
    exact ⟨v, h1, a, c, h2, h3, fun hl => by obtain ⟨b, off, h5, h6, h7⟩ := h4 hl; exact ⟨b, off, h5, by omega, h7⟩⟩
  have cA := ancestors_in cb 0 n n i pl nilS nilS nilS nilS (.int .i64 (-1)) W hi hn (by omega) hPW
  have hlen : (srt (ints (ancL n pl i))).length ≤ 1000000 := by
    have := (ancL_fnd n pl i).len
    rw [srt_len]; simp; omega
  generalize srt (ints (ancL n pl i)) = L at *
  have HNO := Lib.hid hno
  have HLEN := Lib.hid hlen
  have hTW := hT.bel hb0 htb
  have HT := Lib.hid hTW
  obtain ⟨a0, a1, a2, a3, a4, a5, a6⟩ := hTW
  have c2W := (hb0.cell (p := ⟨cb, _, none⟩) hcb).trans c2
  have HC2 := Lib.hid c2W
  have HB0 := Lib.hid hb0
  have HBX := Lib.hid hbx
  have HW := Lib.hid hW
  have HWZ := Lib.hid hWz
  have HTB := Lib.hid htb
  have HCB := Lib.hid hcb
  clear hno hlen hT hP hPW hb0 htb hcb c2 c2W hW hWz
  go_enter Tryz.func85, Tryz.ntmps85
  go_upto_region 1 with fail
  rw [HW.out]
  go_wp2_with fail
  refine cA.mono ?_
  rintro e w1 ⟨v, rfl, ho, hb1⟩
  have HO := Lib.hid ho
  have HB1 := Lib.hid hb1
  have hcont := contains_own (i : Int) ho HLEN.out
  rw [HNO.out] at hcont
  clear cA ho hb1 a0 a1 a2 a3 a4 a5 a6 hbx
  go_wp2_with fail
  refine hcont.mono ?_
  rintro e w' ⟨rfl, hq⟩
  obtain rfl := hq.symm
  clear hcont
  go_wp2_with fail
  refine (isCase_no tb cb n mb i w.heap.size _ (HT.out.bel HB1.out (by have := HTB.out; have := HWZ.out; omega)) hi ((HB1.out.cell (p := ⟨cb, _, none⟩) (by have := HCB.out; have := HWZ.out; show cb < _; omega)).trans HC2.out) ((HB1.out.cell (p := ⟨w.heap.size, _, none⟩) HWZ.out).trans HBX.out)).mono ?_
  rintro e w' ⟨rfl, rfl⟩
  go_wp2
  go_ret
  exact ⟨rfl, HB0.out.trans (HB1.out.mono (Nat.le_of_lt HWZ.out))⟩

theorem main_none (tb cb n mb : Nat) (w : World) (hT : TT w tb cb n mb) :
    Calls Tryz.prog 60 #[.pointer (some ⟨tb, 0, none⟩)] w fun e w' => e = .returned (.int .i64 0) ∧ w = w' := by
  obtain ⟨a0, a1, a2, a3, a4, a5, a6⟩ := hT
  go_enter Tryz.func60, Tryz.ntmps60
  go_wp2
  go_ret
  exact ⟨rfl, rfl⟩

theorem class_bad (tb cb n mb i : Nat) (w : World) (hT : TT w tb cb n mb) (hi : i < n) (c0 : w.cell? ⟨cb, i * 13, none⟩ = some (.string (bs []))) :
    Calls Tryz.prog 82 #[.pointer (some ⟨tb, 0, none⟩), .int .i64 i] w fun e w' => e = .returned (.int .i64 21) ∧ w = w' := by
  obtain ⟨a0, a1, a2, a3, a4, a5, a6⟩ := hT
  go_enter Tryz.func82, Tryz.ntmps82
  go_wp2_with fail
  refine (isName_any [] _ (by simp)).mono ?_; rintro e w' ⟨rfl, rfl⟩
  rw [show nameM [] = false from rfl]
  go_wp2
  go_ret
  exact ⟨rfl, rfl⟩
end Go.Proofs.YtlipfgdjbimfjaaGreatDoor
