/- FullName of a class that is inside of no cycle. -/
import Derived.Test.YtlipfgdjbimfjaaGreatDoorP22
namespace Go.Proofs.YtlipfgdjbimfjaaGreatDoor
open Go.RowKit Go.Shelf Go.Sort
set_option maxRecDepth 100000

theorem info9 : (Tryz.prog.info? 9).map (fun i => (i.zero, i.size, i.bytes)) = some (some (.string ByteArray.empty), 1, 16) := by kernel_rfl
/-- The names and kinds of classes in memory. -/
abbrev Nms (w : World) (cb co n : Nat) (nm : Nat → List UInt8) (kd : Nat → Int) : Prop := ∀ i, i < n → w.cell? ⟨cb, co + i * 13, none⟩ = some (.string (bs (nm i))) ∧ w.cell? ⟨cb, co + i * 13 + 1, none⟩ = some (.int .i64 (kd i))
theorem Nms.bel {w w' : World} {B cb co n : Nat} {nm : Nat → List UInt8} {kd : Nat → Int} (h : Nms w cb co n nm kd) (hb : Below B w w') (hc : cb < B) : Nms w' cb co n nm kd := fun i hi =>
  ⟨(hb.cell (p := ⟨cb, _, none⟩) hc).trans (h i hi).1, (hb.cell (p := ⟨cb, _, none⟩) hc).trans (h i hi).2⟩
/-- The classes around a class from the outside on, and itself. -/
def idxM (own : Nat → Int) (n c : Nat) : List Nat := (arF own n n c).reverse.map Int.toNat ++ [c]
def partsM (own : Nat → Int) (nm : Nat → List UInt8) (kd : Nat → Int) (n c : Nat) : List (List UInt8) := (idxM own n c).map fun i => ownM (nm i) (kd i)
theorem arF_in (own : Nat → Int) (n : Nat) : ∀ f c, ∀ x ∈ arF own n f c, 0 ≤ x ∧ x < n
  | 0, _, x, h => by simp [arF] at h
  | f + 1, c, x, h => by
    unfold arF at h
    split at h
    · rename_i hc
      rcases List.mem_cons.1 h with rfl | h
      · exact hc
      · exact arF_in own n f _ x h
    · simp at h
theorem idxM_lt (own : Nat → Int) (n c : Nat) (hc : c < n) : ∀ i ∈ idxM own n c, i < n := by
  intro i hi
  unfold idxM at hi
  rcases List.mem_append.1 hi with h | h
  · obtain ⟨x, hx, rfl⟩ := List.mem_map.1 h
    have := arF_in own n n c x (List.mem_reverse.1 hx)
    omega
  · rw [List.mem_singleton.1 h]; exact hc
theorem idxM_len (own : Nat → Int) (n c : Nat) : (idxM own n c).length = (arF own n n c).length + 1 := by simp [idxM]
theorem idxM_ints (own : Nat → Int) (n c : Nat) : (arF own n n c).reverse ++ [(c : Int)] = ints (idxM own n c) := by
  show _ = ((arF own n n c).reverse.map Int.toNat ++ [c]).map Int.ofNat
  rw [List.map_append, List.map_map]
  have : (arF own n n c).reverse.map (Int.ofNat ∘ Int.toNat) = (arF own n n c).reverse := by
    apply List.ext_getElem (by simp)
    intro i h1 h2
    simp only [List.getElem_map, Function.comp]
    have := arF_in own n n c _ (List.mem_reverse.1 (List.getElem_mem h2))
    exact Int.toNat_of_nonneg this.1
  rw [this]
  rfl
theorem tail_len (sep : List UInt8) (hs : sep.length = 1) : ∀ l : List (List UInt8), (∀ x ∈ l, x.length ≤ 1001) → (Lib.joinTail sep l).length ≤ l.length * 1002
  | [], _ => by simp [Lib.joinTail]
  | x :: r, h => by
    have h1 := tail_len sep hs r (fun y hy => h y (List.mem_cons_of_mem _ hy))
    have h2 := h x List.mem_cons_self
    have e : Lib.joinTail sep (x :: r) = (sep ++ x) ++ Lib.joinTail sep r := by simp [Lib.joinTail]
    rw [e, List.length_append, List.length_append, hs, List.length_cons]
    omega
theorem join_len (sep : List UInt8) (hs : sep.length = 1) : ∀ l : List (List UInt8), (∀ x ∈ l, x.length ≤ 1001) → (Lib.join l sep).length ≤ l.length * 1002
  | [], _ => by simp [Lib.join_nil]
  | x :: r, h => by
    have h1 := tail_len sep hs r (fun y hy => h y (List.mem_cons_of_mem _ hy))
    have h2 := h x List.mem_cons_self
    rw [Lib.join_cons, List.length_append, List.length_cons]
    omega
theorem own_str {w : World} {B : Nat} {v : Value} {k : Nat} {xs : List ByteArray} (h : w.ownsRow B 9 1 v k (xs.map Value.string)) (hk : 0 < k) : ∃ g cap, v = .slice (some ⟨g, 0, none⟩) k cap ∧ g < w.heap.size ∧ k ≤ cap ∧ ∀ (j : Nat) x, xs[j]? = some x → w.cell? ⟨g, 0 + j, none⟩ = some (.string x) := by
  have hl : xs.length = k := by have := h.1; simpa using this
  rcases h.2 with ⟨_, h2⟩ | ⟨g, cap, cur, h1, h2, h3, h4, h5, h6, h7⟩
  · omega
  · refine ⟨g, cap, h1, (Array.getElem?_eq_some_iff.1 h3).1, h4, fun j x hj => ?_⟩
    have hjl : j < xs.length := (List.getElem?_eq_some_iff.1 hj).1
    have h8 : (cur.toList.take (k * 1))[j]? = (xs.map Value.string)[j]? := by rw [h7]
    rw [List.getElem?_take, if_pos (by omega), List.getElem?_map, hj] at h8
    show w.cell? ⟨g, 0 + j, none⟩ = _
    rw [Nat.zero_add]
    simp only [World.cell?, h3]
    rw [← Array.getElem?_toList, h8]
    rfl

set_option maxHeartbeats 4000000 in
theorem fullName_in (cb co n cap c : Nat) (own : Nat → Int) (nm : Nat → List UInt8) (kd : Nat → Int) (v1 v2 v3 v4 v5 : Value) (w : World) (hc : c < n) (hn : n ≤ 100000) (hcap : n ≤ cap) (hcb : cb < w.heap.size) (hO : Owns w cb co n own) (hN : Nms w cb co n nm kd)
    (hnl : ∀ i, i < n → (nm i).length ≤ 1000) (hlen : (arF own n n c).length < n) :
    Calls Tryz.prog 23 #[PV cb co n cap v1 v2 v3 v4 v5, .int .i64 c] w fun e w' => e = .returned (.tuple #[.string (bs (Lib.join (partsM own nm kd n c) [46])), .int .i64 0]) ∧ Below w.heap.size w w' := by
  obtain ⟨W, hW⟩ : ∃ W, w.alloc (.cells #[.slice (some ⟨cb, co, none⟩) n cap, v1, v2, v3, v4, v5] 28) = W := ⟨_, rfl⟩
  have hb0 : Below w.heap.size w W := by rw [← hW]; exact (Below.refl _ w).alloc (Nat.le_refl _) _
  have hWz : W.heap.size = w.heap.size + 1 := by rw [← hW]; simp
  have hpx : W.heap[w.heap.size]? = some (.cells #[.slice (some ⟨cb, co, none⟩) n cap, v1, v2, v3, v4, v5] 28 (0, 0)) := by rw [← hW]; exact alloc_blk w _
  have cA := around_any cb co n cap c own v1 v2 v3 v4 v5 W hc hn hcap (by omega) (hO.bel hb0 hcb)
  obtain ⟨i0, hi, iz0, iz1, iz2⟩ := info_parts info3
  obtain ⟨j0, hj, jz0, jz1, jz2⟩ := info_parts info9
  have p0 := blk_cell hpx 0
  have p1 := blk_cell hpx 1
  have p2 := blk_cell hpx 2
  have p3 := blk_cell hpx 3
  have p4 := blk_cell hpx 4
  have p5 := blk_cell hpx 5
  have HW := Lib.hid hW
  have HB0 := Lib.hid hb0
  have HWZ := Lib.hid hWz
  have HPX := Lib.hid hpx
  have HN := Lib.hid hN
  have HCB := Lib.hid hcb
  have HNL := Lib.hid hnl
  have HLEN := Lib.hid hlen
  clear hW hb0 hWz hpx hN hcb hnl hlen hO
  go_enter Tryz.func23, Tryz.ntmps23
  go_upto_region 1 with fail
  rw [HW.out]
  go_wp2_with fail
  refine (isIndex_in _ (by omega) (by omega)).mono ?_; rintro e w' ⟨rfl, rfl⟩
  go_wp2_with fail
  refine cA.mono ?_
  rintro e w1 ⟨v, rfl, ho, hb1⟩
  clear cA p0 p1 p2 p3 p4 p5
  obtain ⟨L, hL⟩ : ∃ L, L = arF own n n c := ⟨_, rfl⟩
  have hll : L.length < n := by rw [hL]; exact HLEN.out
  rw [← hL] at ho
  have HL := Lib.hid hL
  have hpx1 := (hb1.block w.heap.size (by have := HWZ.out; omega)).trans HPX.out
  have q0 := blk_cell hpx1 0
  have cR := reverse_own ho (by omega)
  have HO := Lib.hid ho
  have HB1 := Lib.hid hb1
  have HPX1 := Lib.hid hpx1
  obtain ⟨va, vc, rfl⟩ := own_shape ho
  have hne : ((L.length : Int) == (n : Int)) = false := by rw [beq_eq_false_iff_ne]; omega
  clear ho hb1 hpx1 hL
  go_wp2_with fail
  refine cR.mono ?_
  rintro e w2 ⟨rfl, ho2, hg2⟩
  have hB2 : Below W.heap.size W w2 := HB1.out.grown hg2 HB1.out.size (fun k hk => (HO.out.lt _ hk).1)
  have ho3 : w2.ownsRow W.heap.size 3 1 (.slice va L.length vc) L.length (L.reverse.map (Value.int .i64)) := by
    have h : w2.ownsRow W.heap.size 3 1 (.slice va L.length vc) L.reverse.length (L.reverse.map (Value.int .i64)) := ho2
    rw [List.length_reverse] at h
    exact h
  have HO3 := Lib.hid ho3
  have HB2 := Lib.hid hB2
  have hq := blk_cell ((hB2.block w.heap.size (by have := HWZ.out; omega)).trans HPX.out) 0
  have hz2 : W.heap.size ≤ w2.heap.size := hB2.size
  clear ho2 hg2 hB2 ho3 cR q0
  go_wp2_with (at_builtin; refine wpList_append_lies _ rfl _ _ 32 rfl W.heap.size 3 i0 (.int .i64 0) 1 8 Tryz.underlying32 hi iz0 iz1 iz2 rfl (by decide) _ L.length (L.reverse.map (Value.int .i64)) rfl (HO3.out.alloc _) ⟨w2.heap.size, 0, none⟩ 1 1 [.int .i64 c] rfl rfl (cell_one_new _ _ _) (by intro u hu; simp at hu; subst hu; rfl) (by decide) (by unfold maxLen; omega) (by omega) (by simp; omega) (w2.heap.size + 1) (by simp) ?_; intro gg cap' w3 hown' hgrow hat hltg; have HG := Lib.hid (And.intro hown' hgrow); clear hown' hgrow hat hltg)
  have hB3 : Below W.heap.size W w3 := (HB2.out.alloc hz2 _).grown HG.out.2 (by simp; omega) (fun k hk => ((HO3.out.alloc (.cells #[.int .i64 (c : Int)] 3)).lt k hk).1)
  obtain ⟨I, hI⟩ : ∃ I, I = idxM own n c := ⟨_, rfl⟩
  have hIlen : I.length = L.length + 1 := by rw [hI, idxM_len, HL.out]
  have hOI : OwnI w3 W.heap.size (.slice (some ⟨gg, 0, none⟩) (ints I).length cap') (ints I) := by
    have h := HG.out.1
    have e1 : ints I = L.reverse ++ [(c : Int)] := by rw [hI, ← idxM_ints, HL.out]
    show World.ownsRow _ _ _ _ _ _ _
    rw [e1, List.length_append, List.length_reverse, List.length_singleton, List.map_append]
    exact h
  have hcells : gg < w3.heap.size ∧ ∀ j, j < I.length → w3.cell? ⟨gg, j, none⟩ = some (.int .i64 ((I.getD j 0 : Nat) : Int)) := by
    rcases own_cells hOI with ⟨h, _⟩ | ⟨g2, cap2, h, _, hlt, _, hcc⟩
    · exact absurd h (by simp)
    · obtain ⟨rfl, _, rfl⟩ : gg = g2 ∧ True ∧ cap' = cap2 := by simpa using h
      refine ⟨hlt, fun j hj => ?_⟩
      have h2 := hcc j (by simpa using hj)
      rw [Nat.zero_add] at h2
      rw [h2, List.getD_eq_getElem?_getD, List.getD_eq_getElem?_getD, List.getElem?_map, List.getElem?_eq_getElem hj]
      rfl
  have HI := Lib.hid hI
  have HILEN := Lib.hid hIlen
  have HCE := Lib.hid hcells
  have HB3 := Lib.hid hB3
  have hIn : I.length ≤ 100001 := by omega
  clear hOI hcells hI hIlen hB3 hq hz2 HO HB1 HPX1 HO3 HB2
  go_wp2
  obtain ⟨F, hF⟩ : ∃ F : Nat → List UInt8, F = fun k => ownM (nm (I.getD k 0)) (kd (I.getD k 0)) := ⟨_, rfl⟩
  have hFl : ∀ k, k < I.length → (F k).length ≤ 1001 := fun k hk => by
    rw [hF]
    have h := HNL.out (I.getD k 0) (by
      rw [List.getD_eq_getElem?_getD, List.getElem?_eq_getElem hk]
      exact idxM_lt own n c hc _ (by rw [← HI.out]; exact List.getElem_mem hk))
    show (ownM _ _).length ≤ 1001
    unfold ownM
    split
    · rw [List.length_append, List.length_singleton]; omega
    · omega
  have HFL := Lib.hid hFl
  have HFE := Lib.hid hF
  clear hFl hF
  go_loopg [7, 32] (I.length + 1) (fun g v y wr => ∃ k : Nat, k ≤ I.length ∧ I.length - k < g ∧ y = .int .i64 k ∧ Hid (wr.ownsRow w3.heap.size 9 1 v k ((List.range k).map fun j => Value.string (bs (F j)))) ∧ Hid (Below w3.heap.size w3 wr))
  case atStart => exact ⟨0, by omega, by omega, rfl, Lib.hid (World.ownsRow_nil _ _ _ _), Lib.hid (Below.refl _ _)⟩
  case round =>
    obtain ⟨k, hk, hgk, rfl, HR, HBr⟩ := hrel
    obtain ⟨m, rfl⟩ : ∃ m, gk = m + 1 := ⟨gk - 1, by omega⟩
    have hIL := HILEN.out
    by_cases hlt : k < I.length
    · obtain ⟨x, hx⟩ : ∃ x, x = I.getD k 0 := ⟨_, rfl⟩
      have hxn : x < n := by
        rw [hx, List.getD_eq_getElem?_getD, List.getElem?_eq_getElem hlt]
        exact idxM_lt own n c hc _ (by rw [← HI.out]; exact List.getElem_mem hlt)
      have cg := (HBr.out.cell (p := ⟨gg, k, none⟩) HCE.out.1).trans (HCE.out.2 k hlt)
      rw [← hx] at cg
      have hbw : Below w.heap.size w wr := HB0.out.trans ((HB3.out.trans (HBr.out.mono HB3.out.size)).mono (by have := HWZ.out; omega))
      have hbx := (((HB3.out.trans (HBr.out.mono HB3.out.size)).block w.heap.size (by have := HWZ.out; omega)).trans HPX.out)
      have p0 := blk_cell hbx 0
      obtain ⟨n0, n1⟩ := HN.out.bel hbw HCB.out x hxn
      have cN := ownName_any cb (co + x * 13) (nm x) (kd x) wr n0 n1 (by have := HNL.out x hxn; omega)
      have hFk : bs (ownM (nm x) (kd x)) = bs (F k) := by rw [HFE.out, hx]
      rw [hFk] at cN
      have hsz : w3.heap.size ≤ wr.heap.size := HBr.out.size
      have hki : (k : Int) < (L.length : Int) + 1 := by omega
      have hk1 : k < L.length + 1 := by omega
      have HIL := Lib.hid hIL
      clear hx n0 n1 hbx hbw hFk hIL
      go_wp2_with fail
      refine cN.mono ?_
      rintro e w' ⟨rfl, rfl⟩
      clear cN cg p0
      go_wp2_with (at_builtin; refine wpList_append_lies _ rfl _ _ 90 rfl w3.heap.size 9 j0 (.string ByteArray.empty) 1 16 Tryz.underlying90 hj jz0 jz1 jz2 rfl (by decide) _ k ((List.range k).map fun j => Value.string (bs (F j))) rfl (HR.out.alloc _) ⟨wr.heap.size, 0, none⟩ 1 1 [.string (bs (F k))] rfl rfl (cell_one_new _ _ _) (by intro u hu; simp at hu; subst hu; rfl) (by decide) (by unfold maxLen; omega) (by omega) (by simp; omega) (wr.heap.size + 1) (by simp) ?_; intro g2 cap2 w5 hown' hgrow hat hltg; have HG5 := Lib.hid (And.intro hown' hgrow); clear hown' hgrow hat hltg)
      go_roundg m
      case measure => omega
      case rel =>
        refine ⟨k + 1, by omega, by omega, by go_num, ?_, Lib.hid ((HBr.out.alloc HBr.out.size _).grown HG5.out.2 (by simp; omega) (fun j hj => ((HR.out.alloc (.cells #[.string (bs (F k))] 9)).lt j hj).1))⟩
        refine Lib.hid ?_
        rw [List.range_succ, List.map_append]
        exact HG5.out.1
    · obtain rfl : k = I.length := by omega
      have hpl : partsM own nm kd n c = (List.range I.length).map F := by
        unfold partsM
        rw [← HI.out, HFE.out]
        apply List.ext_getElem (by simp)
        intro i h1 h2
        simp only [List.getElem_map, List.getElem_range]
        rw [List.getD_eq_getElem?_getD, List.getElem?_eq_getElem (by simpa using h1)]
        rfl
      have hjl : (Lib.join ((List.range I.length).map F) [46]).length ≤ I.length * 1002 := by
        have h := join_len [46] rfl ((List.range I.length).map F) (fun x hx => by
          obtain ⟨j, hj, rfl⟩ := List.mem_map.1 hx
          exact HFL.out j (List.mem_range.1 hj))
        simpa using h
      have hR2 := HR.out
      rw [show (List.range I.length).map (fun j => Value.string (bs (F j))) = ((List.range I.length).map fun j => bs (F j)).map Value.string by rw [List.map_map]; rfl] at hR2
      obtain ⟨g2, cap2, rfl, hg2, hcap2, hcc⟩ := own_str hR2 (by omega)
      have cJ := Tryz.strings_Join g2 0 cap2 ((List.range I.length).map fun j => bs (F j)) (bs [46]) wr hcc hg2 (by simp; omega) (by simpa using hcap2) (by rw [List.map_map]; have e : (List.range I.length).map ((fun x : ByteArray => x.data.toList) ∘ fun j => bs (F j)) = (List.range I.length).map F := rfl; rw [e]; show (Lib.join _ [46]).length ≤ _; omega)
      have e1 : (((List.range I.length).map fun j => bs (F j)).map (·.data.toList)) = (List.range I.length).map F := by rw [List.map_map]; rfl
      have e2 : ((List.range I.length).map fun j => bs (F j)).length = I.length := by simp
      rw [e1, e2] at cJ
      have HPL := Lib.hid hpl
      have HBr2 := Lib.hid HBr.out
      have hki : ¬ (I.length : Int) < (L.length : Int) + 1 := by omega
      clear hpl hjl hR2 hcc e1 e2 hIL
      go_wp2_with fail
      refine cJ.mono ?_
      rintro e w9 ⟨rfl, hb9⟩
      have HB9 := Lib.hid hb9
      clear cJ hb9
      go_wp2
      go_ret2
      rw [HPL.out]
      refine ⟨rfl, ?_⟩
      have h3 := HB3.out.trans ((HBr.out.trans (HB9.out.mono HBr.out.size)).mono HB3.out.size)
      exact HB0.out.trans (h3.mono (by have := HWZ.out; omega))
end Go.Proofs.YtlipfgdjbimfjaaGreatDoor
