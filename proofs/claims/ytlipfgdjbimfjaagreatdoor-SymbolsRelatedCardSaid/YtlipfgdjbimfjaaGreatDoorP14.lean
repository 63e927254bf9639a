/- Ancestors. -/
import Derived.Test.YtlipfgdjbimfjaaGreatDoorP12
import Derived.Test.YtlipfgdjbimfjaaGreatDoorP13
namespace Go.Proofs.YtlipfgdjbimfjaaGreatDoor
open Go.RowKit Go.Shelf Go.Sort
set_option maxRecDepth 100000

theorem info4 : (Tryz.prog.info? 4).map (fun i => (i.zero, i.size, i.bytes)) = some (some (.bool false), 1, 1) := by kernel_rfl
/-- The ancestors of a class, as found. -/
def ancL (n : Nat) (pl : Nat → List (Int × Int)) (c : Nat) : List Nat := bfs n pl (n + 1) 0 (addP n [] (pl c))
theorem bfs_fnd (n : Nat) (pl : Nat → List (Int × Int)) : ∀ f i l, Fnd n l → Fnd n (bfs n pl f i l)
  | 0, _, _, h => h
  | f + 1, i, l, h => by
    unfold bfs
    split
    · exact bfs_fnd n pl f _ _ (h.add _)
    · exact h
theorem ancL_fnd (n : Nat) (pl : Nat → List (Int × Int)) (c : Nat) : Fnd n (ancL n pl c) := bfs_fnd n pl _ _ _ ((Fnd.nil n).add _)
theorem make66 (n : Nat) (hn : n ≤ 100000) (W : World) : (Instr.makeSlice 87 (.int .i64 (n : Int)) (.int .i64 (n : Int))).run Tryz.prog W = .ok (.slice (some ⟨W.heap.size, 0, none⟩) n n) (W.alloc (.cells (marks n []) 4)) := by
  obtain ⟨i0, hi, iz0, iz1, iz2⟩ := info_parts info4
  have h := run_makeSlice (P := Tryz.prog) (w := W) 87 4 i0 (.bool false) Tryz.underlying87 hi iz0 .i64 .i64 n n (by omega) (by omega) (by rw [iz1]; omega) (by rw [iz2]; omega) (by omega)
  rw [h, iz1]
  simp only [Int.toNat_natCast, Nat.mul_one]
  rw [← marks_made n]
  rfl

set_option maxHeartbeats 4000000 in
theorem ancestors_in (cb co n cap c : Nat) (pl : Nat → List (Int × Int)) (v1 v2 v3 v4 v5 : Value) (w : World) (hc : c < n) (hn : n ≤ 100000) (hcb : cb < w.heap.size) (hP : Pars w w.heap.size cb co n pl) :
    Calls Tryz.prog 19 #[PV cb co n cap v1 v2 v3 v4 v5, .int .i64 c] w (RetI w (srt (ints (ancL n pl c)))) := by
  obtain ⟨W0, hW0⟩ : ∃ W0, (((w.alloc (.cells #[.slice (some ⟨cb, co, none⟩) n cap, v1, v2, v3, v4, v5] 28)).alloc (.cells #[.slice none 0 0] 32)).alloc (.cells (marks n []) 4)).alloc (.cells #[.slice (some ⟨w.heap.size + 1 + 1, 0, none⟩) n n] 87) = W0 := ⟨_, rfl⟩
  have hAI : AI w w.heap.size n #[.slice (some ⟨cb, co, none⟩) n cap, v1, v2, v3, v4, v5] [] W0 := by
    rw [← hW0]
    refine ⟨(((((Below.refl _ w).alloc (Nat.le_refl _) _).alloc (by simp) _).alloc (by simp <;> omega) _).alloc (by simp <;> omega) _), ?_, ⟨.slice none 0 0, ?_, World.ownsRow_nil _ _ _ _⟩, ?_, ?_⟩
    · rw [Below.heap_alloc _ _ _ (by simp <;> omega), Below.heap_alloc _ _ _ (by simp <;> omega), Below.heap_alloc _ _ _ (by simp)]
      exact alloc_blk w _
    · rw [Below.heap_alloc _ _ _ (by simp <;> omega), Below.heap_alloc _ _ _ (by simp)]
      have h := alloc_blk (w.alloc (.cells #[.slice (some ⟨cb, co, none⟩) n cap, v1, v2, v3, v4, v5] 28)) (.cells #[.slice none 0 0] 32)
      rw [World.size_alloc] at h; exact h
    · rw [Below.heap_alloc _ _ _ (by simp)]
      have h := alloc_blk ((w.alloc (.cells #[.slice (some ⟨cb, co, none⟩) n cap, v1, v2, v3, v4, v5] 28)).alloc (.cells #[.slice none 0 0] 32)) (.cells (marks n []) 4)
      rw [World.size_alloc, World.size_alloc] at h; exact h
    · have h := alloc_blk (((w.alloc (.cells #[.slice (some ⟨cb, co, none⟩) n cap, v1, v2, v3, v4, v5] 28)).alloc (.cells #[.slice none 0 0] 32)).alloc (.cells (marks n []) 4)) (.cells #[.slice (some ⟨w.heap.size + 2, 0, none⟩) n n] 87)
      rw [World.size_alloc, World.size_alloc, World.size_alloc] at h; exact h
  have hmk := make66 n hn
  have cA := fun (l : List Nat) (hl : Fnd n l) (x : Nat) (hx : x < n) (W : World) (h : AI w w.heap.size n #[.slice (some ⟨cb, co, none⟩) n cap, v1, v2, v3, v4, v5] l W) => adds_any w cb co n cap x pl v1 v2 v3 v4 v5 l W hx hn hcb hP hl h
  have HAI := Lib.hid hAI
  have HW0 := Lib.hid hW0
  have HA := Lib.hid (ancL_fnd n pl c)
  obtain ⟨L, hL⟩ : ∃ L, L = ancL n pl c := ⟨_, rfl⟩
  rw [← hL] at HA ⊢
  have HL := Lib.hid hL
  clear hAI hW0 hcb hP hL
  go_enter Tryz.func19, Tryz.ntmps19
  go_upto_region 6 with (go_at_call 38; refine (isIndex_in _ (by omega) (by omega)).mono ?_; rintro e w' ⟨rfl, rfl⟩)
  rw [HW0.out]
  generalize hB : w.heap.size = B at *
  go_upto_region 7 with (go_at_call 44; refine (cA [] (Fnd.nil n) c hc W0 HAI.out).mono ?_; rintro e w1 ⟨rfl, h1⟩)
  have H1 := Lib.hid h1
  have HF1 := Lib.hid ((Fnd.nil n).add (pl c))
  clear h1
  go_wp2
  go_loopg [8] (n + 2) (fun g y wr => ∃ (i : Nat) (l : List Nat), i ≤ n ∧ n + 1 - i < g ∧ y = .int .i64 i ∧ Hid (L = bfs n pl (n + 1 - i) i l) ∧ Hid (Fnd n l) ∧ i ≤ l.length ∧ Hid (AI w B n #[.slice (some ⟨cb, co, none⟩) n cap, v1, v2, v3, v4, v5] l wr))
  case atStart => exact ⟨0, addP n [] (pl c), by omega, by omega, rfl, Lib.hid HL.out, HF1, by omega, H1⟩
  case round =>
    obtain ⟨i, l, hin, hgk, rfl, HLl, HF, hil, HI⟩ := hrel
    obtain ⟨m, rfl⟩ : ∃ m, gk = m + 1 := ⟨gk - 1, by omega⟩
    have hlen := HF.out.len
    obtain ⟨v, hv, ho⟩ := HI.out.kf
    have c5 := blk_cell hv 0
    by_cases hlt : i < l.length
    · rcases own_cells ho.ints with ⟨_, he⟩ | ⟨g, cap', rfl, hgB, hglt, hgcap, hcells⟩
      · exfalso
        have h : l = [] := by simpa using he
        rw [h] at hlt
        simp at hlt
      · obtain ⟨x, hx⟩ : ∃ x, x = l.getD i 0 := ⟨_, rfl⟩
        have hxn : x < n := by
          rw [hx, List.getD_eq_getElem?_getD, List.getElem?_eq_getElem hlt]
          exact HF.out.lt _ (List.getElem_mem _)
        have cg := hcells i (by simpa using hlt)
        have e1 : (ints l).getD i 0 = (x : Int) := by
          rw [hx, List.getD_eq_getElem?_getD, List.getD_eq_getElem?_getD, List.getElem?_map, List.getElem?_eq_getElem hlt]
          rfl
        rw [e1, Nat.zero_add] at cg
        have el : (ints l).length = l.length := by simp
        rw [el] at c5
        have HB2 : Hid (L = bfs n pl (n + 1 - (i + 1)) (i + 1) (addP n l (pl x))) := Lib.hid (by
          have h := HLl.out
          rw [show n + 1 - i = (n + 1 - (i + 1)) + 1 by omega, bfs, if_pos hlt, ← hx] at h
          exact h)
        have HF2 := Lib.hid (HF.out.add (pl x))
        have hpre := (addP_pre n l (pl x)).length_le
        have cX := cA l HF.out x hxn wr HI.out
        clear cA hx hcells e1 el hv ho hgcap hgB
        have hilt : (i : Int) < (l.length : Int) := by omega
        go_wp2_with fail
        refine cX.mono ?_
        rintro e w2 ⟨rfl, h2⟩
        have H2 := Lib.hid h2
        clear h2 cX c5 cg
        go_wp2
        go_roundg m
        case measure => omega
        case rel => exact ⟨i + 1, addP n l (pl x), by omega, by omega, by go_num, HB2, HF2, by omega, H2⟩
    · have hll : L = l := by
        have h := HLl.out
        rw [show n + 1 - i = (n - i) + 1 by omega, bfs, if_neg hlt] at h
        exact h
      have hil2 : ¬ (i : Int) < (l.length : Int) := by omega
      have cS := sort_own ho.ints (by simp; omega)
      have HV := Lib.hid hv
      have HO := Lib.hid ho
      have HLL := Lib.hid hll
      obtain ⟨va, vc, rfl⟩ := own_shape ho
      clear cA hlt hll hv ho HLl hmk
      go_wp2_with fail
      refine cS.mono ?_
      rintro e w2 ⟨rfl, h2, hg⟩
      have hbx : w2.heap[B + 1]? = some (.cells #[.slice va l.length vc] 32 (0, 0)) := by
        rw [hg.block (B + 1) (by have := HI.out.sz; omega) (fun e => by have := (HO.out.lt _ e.symm).1; omega)]
        exact HV.out
      have c35 := blk_cell hbx 0
      have HB2 : Hid (Below B w w2) := Lib.hid (HI.out.bel.grown hg (by have := HI.out.sz; omega) (fun k hk => by have := (HO.out.lt _ hk).1; omega))
      have H2 := Lib.hid h2
      clear hg h2 hbx c5 cS
      go_wp2
      go_ret
      rw [HLL.out]
      refine ⟨_, rfl, ?_, hB ▸ HB2.out⟩
      rw [hB]
      exact owns_mono H2.out (by omega)
end Go.Proofs.YtlipfgdjbimfjaaGreatDoor
