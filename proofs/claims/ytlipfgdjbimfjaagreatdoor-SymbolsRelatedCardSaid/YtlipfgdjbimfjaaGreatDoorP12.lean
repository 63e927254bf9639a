/- The closure that adds a class's parents. -/
import Derived.Test.YtlipfgdjbimfjaaGreatDoorP11
namespace Go.Proofs.YtlipfgdjbimfjaaGreatDoor
open Go.RowKit Go.Shelf Go.Sort
set_option maxRecDepth 100000

theorem stepP_kind {n : Nat} {l : List Nat} {t : Int × Int} (h : t.1 ≠ 10) : stepP n l t = l := by unfold stepP; rw [if_neg (fun x => h x.1)]
theorem stepP_out {n : Nat} {l : List Nat} {t : Int × Int} (h : t.2 < 0 ∨ (n : Int) ≤ t.2) : stepP n l t = l := by unfold stepP; rw [if_neg (by omega)]
theorem stepP_old {n : Nat} {l : List Nat} {t : Int × Int} (h : t.2.toNat ∈ l) : stepP n l t = l := by unfold stepP; rw [if_neg (fun x => x.2.2.2 h)]
theorem stepP_new {n : Nat} {l : List Nat} {t : Int × Int} (h : t.1 = 10) (h0 : 0 ≤ t.2) (h1 : t.2 < n) (h2 : t.2.toNat ∉ l) : stepP n l t = l ++ [t.2.toNat] := by unfold stepP; rw [if_pos ⟨h, h0, h1, h2⟩]

set_option maxHeartbeats 4000000 in
theorem adds_any (w0 : World) (cb co n cap c : Nat) (pl : Nat → List (Int × Int)) (v1 v2 v3 v4 v5 : Value) (l : List Nat) (w : World) (hc : c < n) (hn : n ≤ 100000) (hcb : cb < w0.heap.size) (hP : Pars w0 w0.heap.size cb co n pl) (hl : Fnd n l)
    (hA : AI w0 w0.heap.size n #[.slice (some ⟨cb, co, none⟩) n cap, v1, v2, v3, v4, v5] l w) :
    Calls Tryz.prog 44 #[.int .i64 c, .pointer (some ⟨w0.heap.size, 0, none⟩), .pointer (some ⟨w0.heap.size + 3, 0, none⟩), .pointer (some ⟨w0.heap.size + 1, 0, none⟩)] w fun e w' => e = .returned (.tuple #[]) ∧ AI w0 w0.heap.size n #[.slice (some ⟨cb, co, none⟩) n cap, v1, v2, v3, v4, v5] (addP n l (pl c)) w' := by
  obtain ⟨i0, hi, iz0, iz1, iz2⟩ := info_parts info3
  obtain ⟨tv, ht, ta, tc, rfl, htl, hrow⟩ := hP c hc
  have HT := Lib.hid ht
  have HROW := Lib.hid hrow
  have HA := Lib.hid hA
  have HCB := Lib.hid hcb
  have HL := Lib.hid hl
  have q0 := (hA.bel.cell (p := ⟨cb, _, none⟩) hcb).trans ht
  have p0 := blk_cell hA.kp 0
  generalize w0.heap.size = B at *
  clear hP hA hrow ht hcb hl
  go_enter Tryz.func44, Tryz.ntmps44
  go_wp2
  clear q0 p0
  go_loopg [14] ((pl c).length + 1) (fun g y wr => ∃ k : Nat, k ≤ (pl c).length ∧ (pl c).length - k < g ∧ y = .int .i64 k ∧ Hid (AI w0 B n #[.slice (some ⟨cb, co, none⟩) n cap, v1, v2, v3, v4, v5] (addP n l ((pl c).take k)) wr))
  case atStart => exact ⟨0, by omega, by omega, rfl, HA⟩
  case round =>
    obtain ⟨k, hk, hgk, rfl, HI⟩ := hrel
    obtain ⟨m, rfl⟩ : ∃ m, gk = m + 1 := ⟨gk - 1, by omega⟩
    by_cases hlt : k < (pl c).length
    · obtain ⟨b, off, rfl, hb, hx⟩ := HROW.out (by intro e; rw [e] at hlt; simp at hlt)
      obtain ⟨x2, x3, a4, n4, c4, e0, e1, e2, e3, e4⟩ := hx k hlt
      obtain ⟨t, hT⟩ : ∃ t, t = (pl c).getD k (0, 0) := ⟨_, rfl⟩
      rw [← hT] at e0 e1
      obtain ⟨L, hL⟩ : ∃ L, L = addP n l ((pl c).take k) := ⟨_, rfl⟩
      have HS : Hid (addP n l ((pl c).take (k + 1)) = stepP n L t) := Lib.hid (by rw [addP_take n l _ k hlt, ← hT, ← hL])
      have HF : Hid (Fnd n L) := Lib.hid (by rw [hL]; exact HL.out.add _)
      rw [← hL] at HI
      clear hT hL hx
      have hbl := HI.out.bel
      replace e0 := (hbl.cell (p := ⟨b, _, none⟩) hb).trans e0
      replace e1 := (hbl.cell (p := ⟨b, _, none⟩) hb).trans e1
      replace e2 := (hbl.cell (p := ⟨b, _, none⟩) hb).trans e2
      replace e3 := (hbl.cell (p := ⟨b, _, none⟩) hb).trans e3
      replace e4 := (hbl.cell (p := ⟨b, _, none⟩) hb).trans e4
      clear hbl
      obtain ⟨kd, sy⟩ := t
      simp only at e0 e1
      obtain ⟨W, hW⟩ : ∃ W, wr.alloc (.cells #[.int .i64 kd, .int .i64 sy, .string x2, .int .i64 x3, .slice a4 n4 c4] 58) = W := ⟨_, rfl⟩
      have hI2 : AI w0 B n #[.slice (some ⟨cb, co, none⟩) n cap, v1, v2, v3, v4, v5] L W := by rw [← hW]; exact HI.out.alloc _
      have t0 : W.cell? ⟨wr.heap.size, 0, none⟩ = some (.int .i64 kd) := by rw [← hW]; simp
      have t1 : W.cell? ⟨wr.heap.size, 1, none⟩ = some (.int .i64 sy) := by rw [← hW]; simp
      have hbS := HI.out.sz
      have HW := Lib.hid hW
      clear hW
      by_cases h10 : kd = 10
      · subst h10
        have k0 := blk_cell hI2.kp 0
        have k3 := blk_cell hI2.ks 0
        by_cases hin : 0 ≤ sy ∧ sy < n
        · obtain ⟨h0, h1⟩ := hin
          obtain ⟨s, rfl⟩ : ∃ s : Nat, sy = s := ⟨sy.toNat, by omega⟩
          have hsn : s < n := by omega
          have k2 : W.cell? ⟨B + 2, s, none⟩ = some (.bool (decide (s ∈ L))) := (blk_cell hI2.km s).trans (marks_get L hsn)
          have f2 := blk_free hI2.km s
          by_cases hm : s ∈ L
          · have HE : Hid (stepP n L (10, (s : Int)) = L) := Lib.hid (stepP_old (by simpa using hm))
            rw [decide_eq_true hm] at k2
            have HI2 := Lib.hid hI2
            clear hm hI2
            go_upto_region 3 with fail
            rw [HW.out]
            go_wp2_with (go_at_call 38; refine (isIndex_in _ h0 h1).mono ?_; rintro e w' ⟨rfl, rfl⟩)
            go_roundg m
            case measure => omega
            case rel => exact ⟨k + 1, by omega, by omega, by go_num, Lib.hid (by rw [HS.out, HE.out]; exact HI2.out)⟩
          · have HE : Hid (stepP n L (10, (s : Int)) = L ++ [s]) := Lib.hid (stepP_new rfl h0 h1 (by simpa using hm))
            have hll := HF.out.len
            rw [decide_eq_false hm] at k2
            obtain ⟨v, hv, ho⟩ := hI2.kf
            have HI2 := Lib.hid hI2
            have hv1 : (W.setCell ⟨B + 2, s, none⟩ (.bool true)).cell? ⟨B + 1, 0, none⟩ = some v := by
              rw [World.cell?_of_block (w := W) (a := ⟨B + 1, 0, none⟩) (Below.heap_setCell _ _ _ _ (by show B + 1 ≠ B + 2; omega))]
              exact blk_cell hv 0
            have hf1 := blk_free hv 0
            have ho2 : OwnN (W.setCell ⟨B + 2, s, none⟩ (.bool true)) (B + 4) v L := ownsRow_setCell_other ho (by intro e; have := (ho.lt _ e).1; simp at this) _
            have HO := Lib.hid ho
            have HO2 := Lib.hid ho2
            have HV := Lib.hid hv
            obtain ⟨va, vc, rfl⟩ := own_shape ho
            have hW2 : B + 4 ≤ (W.setCell ⟨B + 2, s, none⟩ (.bool true)).heap.size := by simp; exact HI2.out.sz
            have HW2 := Lib.hid hW2
            clear hm hI2 hv ho ho2 hW2
            go_upto_region 3 with fail
            rw [HW.out]
            go_upto_region 5 with (go_at_call 38; refine (isIndex_in _ h0 h1).mono ?_; rintro e w' ⟨rfl, rfl⟩)
            obtain ⟨U, hU⟩ : ∃ U, W.setCell ⟨B + 2, s, none⟩ (.bool true) = U := ⟨_, rfl⟩
            have t2 : U.cell? ⟨wr.heap.size, 1, none⟩ = some (.int .i64 s) := by
              rw [← hU, World.cell?_of_block (w := W) (a := ⟨wr.heap.size, 1, none⟩) (Below.heap_setCell _ _ _ _ (by show wr.heap.size ≠ B + 2; omega))]
              exact t1
            have hfU : U.frozen? ⟨B + 1, 0, none⟩ = false := by
              rw [← hU, World.frozen?_of_block (w := W) (a := ⟨B + 1, 0, none⟩) (Below.heap_setCell _ _ _ _ (by show B + 1 ≠ B + 2; omega))]
              exact hf1
            rw [hU] at hv1 HO2 HW2 ⊢
            have HU := Lib.hid hU
            have hltU : B + 1 < U.heap.size := by have := HW2.out; omega
            clear hU t0 t1 k0 k3 k2 f2 hf1 e0 e1 e2 e3 e4
            go_wp2_with (at_builtin; refine wpList_append_lies _ rfl _ _ 32 rfl (B + 4) 3 i0 (.int .i64 0) 1 8 Tryz.underlying32 hi iz0 iz1 iz2 rfl (by decide) _ L.length (L.map fun (k : Nat) => Value.int .i64 (k : Int)) rfl (HO2.out.alloc _) ⟨U.heap.size, 0, none⟩ 1 1 [.int .i64 s] rfl rfl (cell_one_new _ _ _) (by intro u hu; simp at hu; subst hu; rfl) (by decide) (by unfold maxLen; omega) (by omega) (by have := HW2.out; simp; omega) (U.heap.size + 1) (by simp) ?_; intro gg cap' w3 hown' hgrow hat hltg; have HG := Lib.hid (And.intro hown' hgrow); have hbx := box_kept HI2.out.sz HV.out HO.out (by rw [HU.out]; exact hgrow); have c45 := blk_cell hbx 0; have f45 := blk_free hbx 0; clear hbx hown' hgrow hat hltg)
            go_roundg m
            case measure => omega
            case rel => exact ⟨k + 1, by omega, by omega, by go_num, Lib.hid (by rw [HS.out, HE.out]; exact HI2.out.mark HV.out HO.out HG.out.1 (by rw [HU.out]; exact HG.out.2))⟩
        · have HE : Hid (stepP n L (10, sy) = L) := Lib.hid (stepP_out (by show sy < 0 ∨ (n : Int) ≤ sy; omega))
          have hout : sy < 0 ∨ (n : Int) ≤ sy := by omega
          have HOUT := Lib.hid hout
          have HI2 := Lib.hid hI2
          clear hin hout hI2
          go_upto_region 3 with fail
          rw [HW.out]
          go_wp2_with (go_at_call 38; refine (isIndex_out _ HOUT.out).mono ?_; rintro e w' ⟨rfl, rfl⟩)
          go_roundg m
          case measure => omega
          case rel => exact ⟨k + 1, by omega, by omega, by go_num, Lib.hid (by rw [HS.out, HE.out]; exact HI2.out)⟩
      · have HE : Hid (stepP n L (kd, sy) = L) := Lib.hid (stepP_kind h10)
        have hq : (kd == 10) = false := by simpa using h10
        have HI2 := Lib.hid hI2
        clear h10 hI2
        go_upto_region 3 with fail
        rw [HW.out]
        go_wp2
        go_roundg m
        case measure => omega
        case rel => exact ⟨k + 1, by omega, by omega, by go_num, Lib.hid (by rw [HS.out, HE.out]; exact HI2.out)⟩
    · have he : (pl c).take k = pl c := List.take_of_length_le (by omega)
      rw [he] at HI
      go_wp2
      go_end0
      exact ⟨rfl, HI.out⟩
end Go.Proofs.YtlipfgdjbimfjaaGreatDoor
