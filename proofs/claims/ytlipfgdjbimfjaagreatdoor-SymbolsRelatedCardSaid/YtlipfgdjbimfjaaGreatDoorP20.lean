/- Check at the first example's program. -/
import Derived.Test.YtlipfgdjbimfjaaGreatDoorP19
import Derived.Laws.EntriesVeiled
namespace Go.Proofs.YtlipfgdjbimfjaaGreatDoor
open Go.RowKit Go.Shelf Go.Sort
set_option maxRecDepth 100000

/-- The entries that are laid when a rule begins. -/
def cnt (k : Nat) : Nat := if k ≤ 8 then 0 else 3
theorem max6 (b : Nat) (w : World) (h : w.heap[b]? = some (.cells #[.int .i64 0, .int .i64 3, .int .i64 0, .int .i64 0, .int .i64 0, .int .i64 0] 109 (0, 0))) :
    Calls Tryz.prog 58 #[.slice (some ⟨b, 0, none⟩) 6 6] w fun e w' => e = .returned (.int .i64 3) ∧ w' = w := by
  refine (Tryz.slices_Max_int b 0 6 6 [0, 3, 0, 0, 0, 0] w (by decide) (by decide) (by decide) (fun j hj => ?_)).mono fun e w' ⟨h1, h2⟩ => ⟨h1.trans (by rfl), h2⟩
  match j, hj with
  | 0, _ => exact blk_cell h 0
  | 1, _ => exact blk_cell h 1
  | 2, _ => exact blk_cell h 2
  | 3, _ => exact blk_cell h 3
  | 4, _ => exact blk_cell h 4
  | 5, _ => exact blk_cell h 5

theorem alloc6 (w : World) (o0 o1 o2 o3 o4 o5 : Obj) : Below w.heap.size w ((((((w.alloc o0).alloc o1).alloc o2).alloc o3).alloc o4).alloc o5) ∧ ((((((w.alloc o0).alloc o1).alloc o2).alloc o3).alloc o4).alloc o5).heap[w.heap.size + 1]? = some o1 ∧
    ((((((w.alloc o0).alloc o1).alloc o2).alloc o3).alloc o4).alloc o5).heap[w.heap.size + 2]? = some o2 ∧ ((((((w.alloc o0).alloc o1).alloc o2).alloc o3).alloc o4).alloc o5).heap[w.heap.size + 3]? = some o3 ∧
    ((((((w.alloc o0).alloc o1).alloc o2).alloc o3).alloc o4).alloc o5).heap[w.heap.size + 4]? = some o4 ∧ ((((((w.alloc o0).alloc o1).alloc o2).alloc o3).alloc o4).alloc o5).heap[w.heap.size + 5]? = some o5 := by
  refine ⟨(((((((Below.refl _ w).alloc (Nat.le_refl _) _).alloc (by simp) _).alloc (by simp <;> omega) _).alloc (by simp <;> omega) _).alloc (by simp <;> omega) _).alloc (by simp <;> omega) _), ?_, ?_, ?_, ?_, ?_⟩
  all_goals (show (Array.push (Array.push (Array.push (Array.push (Array.push (Array.push w.heap o0) o1) o2) o3) o4) o5)[_]? = _; simp [Array.getElem_push] <;> omega)

set_option maxHeartbeats 8000000 in
theorem check_ok (cb pa pb pc : Nat) (w : World) (hP : P3 w w.heap.size cb pa pb pc [65]) (hG : Gl w) :
    Calls Tryz.prog 27 #[PV cb 0 3 3 nilS nilS nilS nilS (.int .i64 (-1))] w fun e w' => e = .returned (.agg #[.int .i64 0, .int .i64 0, .int .i64 0]) ∧ Below w.heap.size w w' := by
  have hmm := @run_makeMap Tryz.prog
  have HP := Lib.hid hP
  have HG := Lib.hid hG
  obtain ⟨W1, hW1⟩ : ∃ W1, ((w.alloc (.cells #[.slice (some ⟨cb, 0, none⟩) 3 3, nilS, nilS, nilS, nilS, .int .i64 (-1)] 28)).alloc (.cells #[.int .i64 0, .int .i64 0, .int .i64 0] 54)).alloc (.cells #[.int .i64 0, .int .i64 3, .int .i64 0, .int .i64 0, .int .i64 0, .int .i64 0] 109) = W1 := ⟨_, rfl⟩
  have cM := max6 (w.heap.size + 1 + 1) W1 (by rw [← hW1]; have h := alloc_blk ((w.alloc (.cells #[.slice (some ⟨cb, 0, none⟩) 3 3, nilS, nilS, nilS, nilS, .int .i64 (-1)] 28)).alloc (.cells #[.int .i64 0, .int .i64 0, .int .i64 0] 54)) (.cells #[.int .i64 0, .int .i64 3, .int .i64 0, .int .i64 0, .int .i64 0, .int .i64 0] 109); rw [World.size_alloc, World.size_alloc] at h; exact h)
  rw [← hW1] at cM
  have HW1 := Lib.hid hW1
  clear hP hG hW1
  go_enter Tryz.func27, Tryz.ntmps27
  go_wp2_with fail
  refine cM.mono ?_
  rintro e w' ⟨rfl, hq⟩
  obtain rfl := hq.symm
  clear cM
  go_wp2_with fail
  refine (rules_any _).mono ?_
  rintro e w6 ⟨rfl, hq⟩
  have hC0 : CI w w.heap.size cb 0 w6 := by
    obtain ⟨h0, h1, h2, h3, h4, h5⟩ := alloc6 w (.cells #[.slice (some ⟨cb, 0, none⟩) 3 3, nilS, nilS, nilS, nilS, .int .i64 (-1)] 28) (.cells #[.int .i64 0, .int .i64 0, .int .i64 0] 54) (.cells #[.int .i64 0, .int .i64 3, .int .i64 0, .int .i64 0, .int .i64 0, .int .i64 0] 109) (.map #[] 0)
      (.cells #[.slice (some ⟨cb, 0, none⟩) 3 3, nilS, nilS, nilS, nilS, .int .i64 (-1), .map (some (w.heap.size + 3))] 113) (.cells RC 118)
    rw [hq]
    exact ⟨h0, h1, h2, h3, h4, h5⟩
  have HC0 := Lib.hid hC0
  have hz0 : (w.heap.size + 5 : Nat) = w.heap.size + 1 + 1 + 1 + 1 + 1 := rfl
  clear hC0 hq hmm HW1
  generalize hB : w.heap.size = B at *
  go_wp2
  simp only [Nat.add_assoc, Nat.reduceAdd]
  go_loopg [35] 14 (fun g y wr => ∃ k : Nat, k ≤ 13 ∧ 13 - k < g ∧ y = .int .i64 k ∧ Hid (CI w B cb (cnt k) wr))
  case atStart => exact ⟨0, by omega, by omega, rfl, HC0⟩
  case round =>
    obtain ⟨k, hk, hgk, rfl, HI⟩ := hrel
    obtain ⟨m, rfl⟩ : ∃ m, gk = m + 1 := ⟨gk - 1, by omega⟩
    match k, hk with
    | 0, _ =>
      have k0 := blk_cell HI.out.rul 0
      have k1 := blk_cell HI.out.rul 1
      have hC2 := HI.out.of ((Below.refl _ _).alloc (Nat.le_refl _) (.cells #[.int .i64 1, .func (.func 82) #[] #[]] 118))
      have ks := blk_cell hC2.sizes 1
      obtain ⟨V, hV⟩ : ∃ V, wr.alloc (.cells #[.int .i64 1, .func (.func 82) #[] #[]] 118) = V := ⟨_, rfl⟩
      have hr : V.heap[wr.heap.size]? = some (.cells #[.int .i64 1, .func (.func 82) #[] #[]] 118 (0, 0)) := by rw [← hV]; exact alloc_blk _ _
      obtain ⟨R, hR⟩ : ∃ R, R = wr.heap.size := ⟨_, rfl⟩
      rw [← hR] at hr
      have hRB : B + 6 ≤ R := by rw [hR]; exact HI.out.sz
      rw [hV] at hC2 ks
      have HV := Lib.hid hV
      have HC2 := Lib.hid hC2
      have HR := Lib.hid hR
      have q0 := blk_cell hr 0
      have HRR := Lib.hid hr
      have hrf := blk_free hr 0
      clear hV hC2 hR hr
      simp only [RC] at k0 k1
      go_upto_region 8 with fail
      rw [HV.out, ← HR.out]
      clear k0 k1
      go_wp2
      clear ks q0
      go_loopg [43] 5 (fun g y wi => ∃ i : Nat, i ≤ 3 ∧ 3 - i < g ∧ y = .int .i64 i ∧ Hid (CI w B cb 0 wi) ∧ Hid (wi.heap[R]? = some (.cells #[.int .i64 1, .func (.func 82) #[] #[]] 118 (0, 0))))
      case atStart => exact ⟨0, by omega, by omega, rfl, HC2, HRR⟩
      case round =>
        obtain ⟨i, hi, hgi, rfl, HI2, HR2⟩ := hrel
        obtain ⟨mi, rfl⟩ : ∃ mi, gk = mi + 1 := ⟨gk - 1, by omega⟩
        have q0 := blk_cell HR2.out 0
        have q1 := blk_cell HR2.out 1
        by_cases hlt : i < 3
        · have hlti : (i : Int) < 3 := by omega
          have cR := r0 HI2.out HP.out HG.out i hlt
          go_wp2_with fail
          refine cR.mono ?_
          rintro e w7 ⟨rfl, h7, hg7⟩
          have H7 := Lib.hid h7
          have HRW : Hid (w7.heap[R]? = some (.cells #[.int .i64 1, .func (.func 82) #[] #[]] 118 (0, 0))) := Lib.hid ((hg7.block R (Array.getElem?_eq_some_iff.1 HR2.out).1 (by simp; omega)).trans HR2.out)
          clear h7 hg7 cR q0 q1
          go_wp2
          go_roundg mi
          case measure => omega
          case rel => exact ⟨i + 1, by omega, by omega, by go_num, H7, HRW⟩
        · obtain rfl : i = 3 := by omega
          go_wp2
          go_roundg m
          case measure => omega
          case rel => exact ⟨1, by omega, by omega, by go_num, HI2⟩
    | 1, _ =>
      have k0 := blk_cell HI.out.rul 2
      have k1 := blk_cell HI.out.rul 3
      have hC2 := HI.out.of ((Below.refl _ _).alloc (Nat.le_refl _) (.cells #[.int .i64 1, .func (.func 83) #[] #[]] 118))
      have ks := blk_cell hC2.sizes 1
      obtain ⟨V, hV⟩ : ∃ V, wr.alloc (.cells #[.int .i64 1, .func (.func 83) #[] #[]] 118) = V := ⟨_, rfl⟩
      have hr : V.heap[wr.heap.size]? = some (.cells #[.int .i64 1, .func (.func 83) #[] #[]] 118 (0, 0)) := by rw [← hV]; exact alloc_blk _ _
      obtain ⟨R, hR⟩ : ∃ R, R = wr.heap.size := ⟨_, rfl⟩
      rw [← hR] at hr
      have hRB : B + 6 ≤ R := by rw [hR]; exact HI.out.sz
      rw [hV] at hC2 ks
      have HV := Lib.hid hV
      have HC2 := Lib.hid hC2
      have HR := Lib.hid hR
      have q0 := blk_cell hr 0
      have HRR := Lib.hid hr
      have hrf := blk_free hr 0
      clear hV hC2 hR hr
      simp only [RC] at k0 k1
      go_upto_region 8 with fail
      rw [HV.out, ← HR.out]
      clear k0 k1
      go_wp2
      clear ks q0
      go_loopg [43] 5 (fun g y wi => ∃ i : Nat, i ≤ 3 ∧ 3 - i < g ∧ y = .int .i64 i ∧ Hid (CI w B cb 0 wi) ∧ Hid (wi.heap[R]? = some (.cells #[.int .i64 1, .func (.func 83) #[] #[]] 118 (0, 0))))
      case atStart => exact ⟨0, by omega, by omega, rfl, HC2, HRR⟩
      case round =>
        obtain ⟨i, hi, hgi, rfl, HI2, HR2⟩ := hrel
        obtain ⟨mi, rfl⟩ : ∃ mi, gk = mi + 1 := ⟨gk - 1, by omega⟩
        have q0 := blk_cell HR2.out 0
        have q1 := blk_cell HR2.out 1
        by_cases hlt : i < 3
        · have hlti : (i : Int) < 3 := by omega
          have cR := r1 HI2.out HP.out i hlt
          go_wp2_with fail
          refine cR.mono ?_
          rintro e w7 ⟨rfl, h7, hg7⟩
          have H7 := Lib.hid h7
          have HRW : Hid (w7.heap[R]? = some (.cells #[.int .i64 1, .func (.func 83) #[] #[]] 118 (0, 0))) := Lib.hid ((hg7.block R (Array.getElem?_eq_some_iff.1 HR2.out).1 (by simp; omega)).trans HR2.out)
          clear h7 hg7 cR q0 q1
          go_wp2
          go_roundg mi
          case measure => omega
          case rel => exact ⟨i + 1, by omega, by omega, by go_num, H7, HRW⟩
        · obtain rfl : i = 3 := by omega
          go_wp2
          go_roundg m
          case measure => omega
          case rel => exact ⟨2, by omega, by omega, by go_num, HI2⟩
    | 2, _ =>
      have k0 := blk_cell HI.out.rul 4
      have k1 := blk_cell HI.out.rul 5
      have hC2 := HI.out.of ((Below.refl _ _).alloc (Nat.le_refl _) (.cells #[.int .i64 1, .func (.func 84) #[] #[]] 118))
      have ks := blk_cell hC2.sizes 1
      obtain ⟨V, hV⟩ : ∃ V, wr.alloc (.cells #[.int .i64 1, .func (.func 84) #[] #[]] 118) = V := ⟨_, rfl⟩
      have hr : V.heap[wr.heap.size]? = some (.cells #[.int .i64 1, .func (.func 84) #[] #[]] 118 (0, 0)) := by rw [← hV]; exact alloc_blk _ _
      obtain ⟨R, hR⟩ : ∃ R, R = wr.heap.size := ⟨_, rfl⟩
      rw [← hR] at hr
      have hRB : B + 6 ≤ R := by rw [hR]; exact HI.out.sz
      rw [hV] at hC2 ks
      have HV := Lib.hid hV
      have HC2 := Lib.hid hC2
      have HR := Lib.hid hR
      have q0 := blk_cell hr 0
      have HRR := Lib.hid hr
      have hrf := blk_free hr 0
      clear hV hC2 hR hr
      simp only [RC] at k0 k1
      go_upto_region 8 with fail
      rw [HV.out, ← HR.out]
      clear k0 k1
      go_wp2
      clear ks q0
      go_loopg [43] 5 (fun g y wi => ∃ i : Nat, i ≤ 3 ∧ 3 - i < g ∧ y = .int .i64 i ∧ Hid (CI w B cb 0 wi) ∧ Hid (wi.heap[R]? = some (.cells #[.int .i64 1, .func (.func 84) #[] #[]] 118 (0, 0))))
      case atStart => exact ⟨0, by omega, by omega, rfl, HC2, HRR⟩
      case round =>
        obtain ⟨i, hi, hgi, rfl, HI2, HR2⟩ := hrel
        obtain ⟨mi, rfl⟩ : ∃ mi, gk = mi + 1 := ⟨gk - 1, by omega⟩
        have q0 := blk_cell HR2.out 0
        have q1 := blk_cell HR2.out 1
        by_cases hlt : i < 3
        · have hlti : (i : Int) < 3 := by omega
          have cR := r2 HI2.out HP.out i hlt
          go_wp2_with fail
          refine cR.mono ?_
          rintro e w7 ⟨rfl, h7, hg7⟩
          have H7 := Lib.hid h7
          have HRW : Hid (w7.heap[R]? = some (.cells #[.int .i64 1, .func (.func 84) #[] #[]] 118 (0, 0))) := Lib.hid ((hg7.block R (Array.getElem?_eq_some_iff.1 HR2.out).1 (by simp; omega)).trans HR2.out)
          clear h7 hg7 cR q0 q1
          go_wp2
          go_roundg mi
          case measure => omega
          case rel => exact ⟨i + 1, by omega, by omega, by go_num, H7, HRW⟩
        · obtain rfl : i = 3 := by omega
          go_wp2
          go_roundg m
          case measure => omega
          case rel => exact ⟨3, by omega, by omega, by go_num, HI2⟩
    | 3, _ =>
      have k0 := blk_cell HI.out.rul 6
      have k1 := blk_cell HI.out.rul 7
      have hC2 := HI.out.of ((Below.refl _ _).alloc (Nat.le_refl _) (.cells #[.int .i64 1, .func (.func 85) #[] #[]] 118))
      have ks := blk_cell hC2.sizes 1
      obtain ⟨V, hV⟩ : ∃ V, wr.alloc (.cells #[.int .i64 1, .func (.func 85) #[] #[]] 118) = V := ⟨_, rfl⟩
      have hr : V.heap[wr.heap.size]? = some (.cells #[.int .i64 1, .func (.func 85) #[] #[]] 118 (0, 0)) := by rw [← hV]; exact alloc_blk _ _
      obtain ⟨R, hR⟩ : ∃ R, R = wr.heap.size := ⟨_, rfl⟩
      rw [← hR] at hr
      have hRB : B + 6 ≤ R := by rw [hR]; exact HI.out.sz
      rw [hV] at hC2 ks
      have HV := Lib.hid hV
      have HC2 := Lib.hid hC2
      have HR := Lib.hid hR
      have q0 := blk_cell hr 0
      have HRR := Lib.hid hr
      have hrf := blk_free hr 0
      clear hV hC2 hR hr
      simp only [RC] at k0 k1
      go_upto_region 8 with fail
      rw [HV.out, ← HR.out]
      clear k0 k1
      go_wp2
      clear ks q0
      go_loopg [43] 5 (fun g y wi => ∃ i : Nat, i ≤ 3 ∧ 3 - i < g ∧ y = .int .i64 i ∧ Hid (CI w B cb 0 wi) ∧ Hid (wi.heap[R]? = some (.cells #[.int .i64 1, .func (.func 85) #[] #[]] 118 (0, 0))))
      case atStart => exact ⟨0, by omega, by omega, rfl, HC2, HRR⟩
      case round =>
        obtain ⟨i, hi, hgi, rfl, HI2, HR2⟩ := hrel
        obtain ⟨mi, rfl⟩ : ∃ mi, gk = mi + 1 := ⟨gk - 1, by omega⟩
        have q0 := blk_cell HR2.out 0
        have q1 := blk_cell HR2.out 1
        by_cases hlt : i < 3
        · have hlti : (i : Int) < 3 := by omega
          have cR := r3 HI2.out HP.out i hlt
          go_wp2_with fail
          refine cR.mono ?_
          rintro e w7 ⟨rfl, h7, hg7⟩
          have H7 := Lib.hid h7
          have HRW : Hid (w7.heap[R]? = some (.cells #[.int .i64 1, .func (.func 85) #[] #[]] 118 (0, 0))) := Lib.hid ((hg7.block R (Array.getElem?_eq_some_iff.1 HR2.out).1 (by simp; omega)).trans HR2.out)
          clear h7 hg7 cR q0 q1
          go_wp2
          go_roundg mi
          case measure => omega
          case rel => exact ⟨i + 1, by omega, by omega, by go_num, H7, HRW⟩
        · obtain rfl : i = 3 := by omega
          go_wp2
          go_roundg m
          case measure => omega
          case rel => exact ⟨4, by omega, by omega, by go_num, HI2⟩
    | 4, _ =>
      have k0 := blk_cell HI.out.rul 8
      have k1 := blk_cell HI.out.rul 9
      have hC2 := HI.out.of ((Below.refl _ _).alloc (Nat.le_refl _) (.cells #[.int .i64 2, .func (.func 86) #[] #[]] 118))
      have ks := blk_cell hC2.sizes 2
      obtain ⟨V, hV⟩ : ∃ V, wr.alloc (.cells #[.int .i64 2, .func (.func 86) #[] #[]] 118) = V := ⟨_, rfl⟩
      have hr : V.heap[wr.heap.size]? = some (.cells #[.int .i64 2, .func (.func 86) #[] #[]] 118 (0, 0)) := by rw [← hV]; exact alloc_blk _ _
      obtain ⟨R, hR⟩ : ∃ R, R = wr.heap.size := ⟨_, rfl⟩
      rw [← hR] at hr
      have hRB : B + 6 ≤ R := by rw [hR]; exact HI.out.sz
      rw [hV] at hC2 ks
      have HV := Lib.hid hV
      have HC2 := Lib.hid hC2
      have HR := Lib.hid hR
      have q0 := blk_cell hr 0
      have HRR := Lib.hid hr
      have hrf := blk_free hr 0
      clear hV hC2 hR hr
      simp only [RC] at k0 k1
      go_upto_region 8 with fail
      rw [HV.out, ← HR.out]
      go_wp2
      go_loop [43] (fun y => y = .int .i64 0) (fun _ => 0)
      case atStart => rfl
      case round =>
        obtain rfl := hrel
        go_wp2
        go_roundg m
        case measure => omega
        case rel => exact ⟨5, by omega, by omega, by go_num, HC2⟩
    | 5, _ =>
      have k0 := blk_cell HI.out.rul 10
      have k1 := blk_cell HI.out.rul 11
      have hC2 := HI.out.of ((Below.refl _ _).alloc (Nat.le_refl _) (.cells #[.int .i64 3, .func (.func 87) #[] #[]] 118))
      have ks := blk_cell hC2.sizes 3
      obtain ⟨V, hV⟩ : ∃ V, wr.alloc (.cells #[.int .i64 3, .func (.func 87) #[] #[]] 118) = V := ⟨_, rfl⟩
      have hr : V.heap[wr.heap.size]? = some (.cells #[.int .i64 3, .func (.func 87) #[] #[]] 118 (0, 0)) := by rw [← hV]; exact alloc_blk _ _
      obtain ⟨R, hR⟩ : ∃ R, R = wr.heap.size := ⟨_, rfl⟩
      rw [← hR] at hr
      have hRB : B + 6 ≤ R := by rw [hR]; exact HI.out.sz
      rw [hV] at hC2 ks
      have HV := Lib.hid hV
      have HC2 := Lib.hid hC2
      have HR := Lib.hid hR
      have q0 := blk_cell hr 0
      have HRR := Lib.hid hr
      have hrf := blk_free hr 0
      clear hV hC2 hR hr
      simp only [RC] at k0 k1
      go_upto_region 8 with fail
      rw [HV.out, ← HR.out]
      go_wp2
      go_loop [43] (fun y => y = .int .i64 0) (fun _ => 0)
      case atStart => rfl
      case round =>
        obtain rfl := hrel
        go_wp2
        go_roundg m
        case measure => omega
        case rel => exact ⟨6, by omega, by omega, by go_num, HC2⟩
    | 6, _ =>
      have k0 := blk_cell HI.out.rul 12
      have k1 := blk_cell HI.out.rul 13
      have hC2 := HI.out.of ((Below.refl _ _).alloc (Nat.le_refl _) (.cells #[.int .i64 4, .func (.func 88) #[] #[]] 118))
      have ks := blk_cell hC2.sizes 4
      obtain ⟨V, hV⟩ : ∃ V, wr.alloc (.cells #[.int .i64 4, .func (.func 88) #[] #[]] 118) = V := ⟨_, rfl⟩
      have hr : V.heap[wr.heap.size]? = some (.cells #[.int .i64 4, .func (.func 88) #[] #[]] 118 (0, 0)) := by rw [← hV]; exact alloc_blk _ _
      obtain ⟨R, hR⟩ : ∃ R, R = wr.heap.size := ⟨_, rfl⟩
      rw [← hR] at hr
      have hRB : B + 6 ≤ R := by rw [hR]; exact HI.out.sz
      rw [hV] at hC2 ks
      have HV := Lib.hid hV
      have HC2 := Lib.hid hC2
      have HR := Lib.hid hR
      have q0 := blk_cell hr 0
      have HRR := Lib.hid hr
      have hrf := blk_free hr 0
      clear hV hC2 hR hr
      simp only [RC] at k0 k1
      go_upto_region 8 with fail
      rw [HV.out, ← HR.out]
      go_wp2
      go_loop [43] (fun y => y = .int .i64 0) (fun _ => 0)
      case atStart => rfl
      case round =>
        obtain rfl := hrel
        go_wp2
        go_roundg m
        case measure => omega
        case rel => exact ⟨7, by omega, by omega, by go_num, HC2⟩
    | 7, _ =>
      have k0 := blk_cell HI.out.rul 14
      have k1 := blk_cell HI.out.rul 15
      have hC2 := HI.out.of ((Below.refl _ _).alloc (Nat.le_refl _) (.cells #[.int .i64 5, .func (.func 89) #[] #[]] 118))
      have ks := blk_cell hC2.sizes 5
      obtain ⟨V, hV⟩ : ∃ V, wr.alloc (.cells #[.int .i64 5, .func (.func 89) #[] #[]] 118) = V := ⟨_, rfl⟩
      have hr : V.heap[wr.heap.size]? = some (.cells #[.int .i64 5, .func (.func 89) #[] #[]] 118 (0, 0)) := by rw [← hV]; exact alloc_blk _ _
      obtain ⟨R, hR⟩ : ∃ R, R = wr.heap.size := ⟨_, rfl⟩
      rw [← hR] at hr
      have hRB : B + 6 ≤ R := by rw [hR]; exact HI.out.sz
      rw [hV] at hC2 ks
      have HV := Lib.hid hV
      have HC2 := Lib.hid hC2
      have HR := Lib.hid hR
      have q0 := blk_cell hr 0
      have HRR := Lib.hid hr
      have hrf := blk_free hr 0
      clear hV hC2 hR hr
      simp only [RC] at k0 k1
      go_upto_region 8 with fail
      rw [HV.out, ← HR.out]
      go_wp2
      go_loop [43] (fun y => y = .int .i64 0) (fun _ => 0)
      case atStart => rfl
      case round =>
        obtain rfl := hrel
        go_wp2
        go_roundg m
        case measure => omega
        case rel => exact ⟨8, by omega, by omega, by go_num, HC2⟩
    | 8, _ =>
      have k0 := blk_cell HI.out.rul 16
      have k1 := blk_cell HI.out.rul 17
      have hC2 := HI.out.of ((Below.refl _ _).alloc (Nat.le_refl _) (.cells #[.int .i64 1, .func (.func 90) #[] #[]] 118))
      have ks := blk_cell hC2.sizes 1
      obtain ⟨V, hV⟩ : ∃ V, wr.alloc (.cells #[.int .i64 1, .func (.func 90) #[] #[]] 118) = V := ⟨_, rfl⟩
      have hr : V.heap[wr.heap.size]? = some (.cells #[.int .i64 1, .func (.func 90) #[] #[]] 118 (0, 0)) := by rw [← hV]; exact alloc_blk _ _
      obtain ⟨R, hR⟩ : ∃ R, R = wr.heap.size := ⟨_, rfl⟩
      rw [← hR] at hr
      have hRB : B + 6 ≤ R := by rw [hR]; exact HI.out.sz
      rw [hV] at hC2 ks
      have HV := Lib.hid hV
      have HC2 := Lib.hid hC2
      have HR := Lib.hid hR
      have q0 := blk_cell hr 0
      have HRR := Lib.hid hr
      have hrf := blk_free hr 0
      clear hV hC2 hR hr
      simp only [RC] at k0 k1
      go_upto_region 8 with fail
      rw [HV.out, ← HR.out]
      clear k0 k1
      go_wp2
      clear ks q0
      go_loopg [43] 5 (fun g y wi => ∃ i : Nat, i ≤ 3 ∧ 3 - i < g ∧ y = .int .i64 i ∧ Hid (CI w B cb i wi) ∧ Hid (wi.heap[R]? = some (.cells #[.int .i64 1, .func (.func 90) #[] #[]] 118 (0, 0))))
      case atStart => exact ⟨0, by omega, by omega, rfl, HC2, HRR⟩
      case round =>
        obtain ⟨i, hi, hgi, rfl, HI2, HR2⟩ := hrel
        obtain ⟨mi, rfl⟩ : ∃ mi, gk = mi + 1 := ⟨gk - 1, by omega⟩
        have q0 := blk_cell HR2.out 0
        have q1 := blk_cell HR2.out 1
        by_cases hlt : i < 3
        · have hlti : (i : Int) < 3 := by omega
          have cR := r8 i HI2.out HP.out hlt
          go_wp2_with fail
          refine cR.mono ?_
          rintro e w7 ⟨rfl, h7, hg7⟩
          have H7 := Lib.hid h7
          have HRW : Hid (w7.heap[R]? = some (.cells #[.int .i64 1, .func (.func 90) #[] #[]] 118 (0, 0))) := Lib.hid ((hg7.block R (Array.getElem?_eq_some_iff.1 HR2.out).1 (by simp; omega)).trans HR2.out)
          clear h7 hg7 cR q0 q1
          go_wp2
          go_roundg mi
          case measure => omega
          case rel => exact ⟨i + 1, by omega, by omega, by go_num, H7, HRW⟩
        · obtain rfl : i = 3 := by omega
          go_wp2
          go_roundg m
          case measure => omega
          case rel => exact ⟨9, by omega, by omega, by go_num, HI2⟩
    | 9, _ =>
      have k0 := blk_cell HI.out.rul 18
      have k1 := blk_cell HI.out.rul 19
      have hC2 := HI.out.of ((Below.refl _ _).alloc (Nat.le_refl _) (.cells #[.int .i64 3, .func (.func 91) #[] #[]] 118))
      have ks := blk_cell hC2.sizes 3
      obtain ⟨V, hV⟩ : ∃ V, wr.alloc (.cells #[.int .i64 3, .func (.func 91) #[] #[]] 118) = V := ⟨_, rfl⟩
      have hr : V.heap[wr.heap.size]? = some (.cells #[.int .i64 3, .func (.func 91) #[] #[]] 118 (0, 0)) := by rw [← hV]; exact alloc_blk _ _
      obtain ⟨R, hR⟩ : ∃ R, R = wr.heap.size := ⟨_, rfl⟩
      rw [← hR] at hr
      have hRB : B + 6 ≤ R := by rw [hR]; exact HI.out.sz
      rw [hV] at hC2 ks
      have HV := Lib.hid hV
      have HC2 := Lib.hid hC2
      have HR := Lib.hid hR
      have q0 := blk_cell hr 0
      have HRR := Lib.hid hr
      have hrf := blk_free hr 0
      clear hV hC2 hR hr
      simp only [RC] at k0 k1
      go_upto_region 8 with fail
      rw [HV.out, ← HR.out]
      go_wp2
      go_loop [43] (fun y => y = .int .i64 0) (fun _ => 0)
      case atStart => rfl
      case round =>
        obtain rfl := hrel
        go_wp2
        go_roundg m
        case measure => omega
        case rel => exact ⟨10, by omega, by omega, by go_num, HC2⟩
    | 10, _ =>
      have k0 := blk_cell HI.out.rul 20
      have k1 := blk_cell HI.out.rul 21
      have hC2 := HI.out.of ((Below.refl _ _).alloc (Nat.le_refl _) (.cells #[.int .i64 2, .func (.func 92) #[] #[]] 118))
      have ks := blk_cell hC2.sizes 2
      obtain ⟨V, hV⟩ : ∃ V, wr.alloc (.cells #[.int .i64 2, .func (.func 92) #[] #[]] 118) = V := ⟨_, rfl⟩
      have hr : V.heap[wr.heap.size]? = some (.cells #[.int .i64 2, .func (.func 92) #[] #[]] 118 (0, 0)) := by rw [← hV]; exact alloc_blk _ _
      obtain ⟨R, hR⟩ : ∃ R, R = wr.heap.size := ⟨_, rfl⟩
      rw [← hR] at hr
      have hRB : B + 6 ≤ R := by rw [hR]; exact HI.out.sz
      rw [hV] at hC2 ks
      have HV := Lib.hid hV
      have HC2 := Lib.hid hC2
      have HR := Lib.hid hR
      have q0 := blk_cell hr 0
      have HRR := Lib.hid hr
      have hrf := blk_free hr 0
      clear hV hC2 hR hr
      simp only [RC] at k0 k1
      go_upto_region 8 with fail
      rw [HV.out, ← HR.out]
      go_wp2
      go_loop [43] (fun y => y = .int .i64 0) (fun _ => 0)
      case atStart => rfl
      case round =>
        obtain rfl := hrel
        go_wp2
        go_roundg m
        case measure => omega
        case rel => exact ⟨11, by omega, by omega, by go_num, HC2⟩
    | 11, _ =>
      have k0 := blk_cell HI.out.rul 22
      have k1 := blk_cell HI.out.rul 23
      have hC2 := HI.out.of ((Below.refl _ _).alloc (Nat.le_refl _) (.cells #[.int .i64 5, .func (.func 93) #[] #[]] 118))
      have ks := blk_cell hC2.sizes 5
      obtain ⟨V, hV⟩ : ∃ V, wr.alloc (.cells #[.int .i64 5, .func (.func 93) #[] #[]] 118) = V := ⟨_, rfl⟩
      have hr : V.heap[wr.heap.size]? = some (.cells #[.int .i64 5, .func (.func 93) #[] #[]] 118 (0, 0)) := by rw [← hV]; exact alloc_blk _ _
      obtain ⟨R, hR⟩ : ∃ R, R = wr.heap.size := ⟨_, rfl⟩
      rw [← hR] at hr
      have hRB : B + 6 ≤ R := by rw [hR]; exact HI.out.sz
      rw [hV] at hC2 ks
      have HV := Lib.hid hV
      have HC2 := Lib.hid hC2
      have HR := Lib.hid hR
      have q0 := blk_cell hr 0
      have HRR := Lib.hid hr
      have hrf := blk_free hr 0
      clear hV hC2 hR hr
      simp only [RC] at k0 k1
      go_upto_region 8 with fail
      rw [HV.out, ← HR.out]
      go_wp2
      go_loop [43] (fun y => y = .int .i64 0) (fun _ => 0)
      case atStart => rfl
      case round =>
        obtain rfl := hrel
        go_wp2
        go_roundg m
        case measure => omega
        case rel => exact ⟨12, by omega, by omega, by go_num, HC2⟩
    | 12, _ =>
      have k0 := blk_cell HI.out.rul 24
      have k1 := blk_cell HI.out.rul 25
      have hC2 := HI.out.of ((Below.refl _ _).alloc (Nat.le_refl _) (.cells #[.int .i64 4, .func (.func 94) #[] #[]] 118))
      have ks := blk_cell hC2.sizes 4
      obtain ⟨V, hV⟩ : ∃ V, wr.alloc (.cells #[.int .i64 4, .func (.func 94) #[] #[]] 118) = V := ⟨_, rfl⟩
      have hr : V.heap[wr.heap.size]? = some (.cells #[.int .i64 4, .func (.func 94) #[] #[]] 118 (0, 0)) := by rw [← hV]; exact alloc_blk _ _
      obtain ⟨R, hR⟩ : ∃ R, R = wr.heap.size := ⟨_, rfl⟩
      rw [← hR] at hr
      have hRB : B + 6 ≤ R := by rw [hR]; exact HI.out.sz
      rw [hV] at hC2 ks
      have HV := Lib.hid hV
      have HC2 := Lib.hid hC2
      have HR := Lib.hid hR
      have q0 := blk_cell hr 0
      have HRR := Lib.hid hr
      have hrf := blk_free hr 0
      clear hV hC2 hR hr
      simp only [RC] at k0 k1
      go_upto_region 8 with fail
      rw [HV.out, ← HR.out]
      go_wp2
      go_loop [43] (fun y => y = .int .i64 0) (fun _ => 0)
      case atStart => rfl
      case round =>
        obtain rfl := hrel
        go_wp2
        go_roundg m
        case measure => omega
        case rel => exact ⟨13, by omega, by omega, by go_num, HC2⟩
    | 13, _ =>
      have cMn := main_none (B + 4) cb 3 (B + 3) wr HI.out.tt
      have kr := HI.out.res
      have z0 : wr.cell? ⟨B + 1, 0, none⟩ = some (.int .i64 0) := blk_cell kr 0
      have z1 : wr.cell? ⟨B + 1, 1, none⟩ = some (.int .i64 0) := blk_cell kr 1
      have z2 : wr.cell? ⟨B + 1, 2, none⟩ = some (.int .i64 0) := blk_cell kr 2
      rw [show ((13 : Nat) : Int) = 13 from rfl]
      have y0 := blk_free kr 0
      have y1 := blk_free kr 1
      have y2 := blk_free kr 2
      clear kr
      go_wp2_with fail
      refine cMn.mono ?_
      rintro e w' ⟨rfl, rfl⟩
      clear cMn
      go_wp2
      refine bodyPost_ret (v := .agg #[.int .i64 0, .int .i64 0, .int .i64 0]) (by simp [results, Tryz.results27, go_sem, z0, z1, z2]) rfl ⟨rfl, ?_⟩
      rw [hB]
      exact ((HI.out.bel.setCell (p := ⟨B + 1, 0, none⟩) (by simp) _).setCell (p := ⟨B + 1, 1, none⟩) (by simp) _).setCell (p := ⟨B + 1, 2, none⟩) (by simp) _
end Go.Proofs.YtlipfgdjbimfjaaGreatDoor
