/- The law SyntaxUndone: its walk. -/
import Derived.Test.YthcoigdmammamaaGreatDoorS36
import Derived.Test.YthcoigdmammamaaGreatDoorS12
import Derived.Test.YthcoigdmammamaaGreatDoorS14
import Derived.Test.YthcoigdmammamaaGreatDoorS19
import Derived.Deep.LoopGhost
import Derived.Deep.Cut
import Derived.Deep.CutRange
import Derived.Deep.RegionHeld3
namespace Go.Proofs.YthcoigdmammamaaGreatDoor
open Go.RowKit Go.Shelf Go.Sort
set_option maxRecDepth 100000

/-- The cells of a box that holds a node. -/
def Bx5 (b : Nat) (x : Nd) (v : Value) (W : World) : Prop :=
  W.cell? ⟨b, 0, none⟩ = some (.int .i64 x.kind) ∧ W.cell? ⟨b, 1, none⟩ = some (.string x.text) ∧ W.cell? ⟨b, 2, none⟩ = some (.int .i64 x.num) ∧ W.cell? ⟨b, 3, none⟩ = some v ∧ W.cell? ⟨b, 4, none⟩ = some (.int .i64 x.at_)
theorem bx5 {W : World} {b : Nat} {x : Nd} {v : Value} (h : W.heap[b]? = some (NB x v)) : Bx5 b x v W := ⟨blk_cell h 0, blk_cell h 1, blk_cell h 2, blk_cell h 3, blk_cell h 4⟩

set_option maxHeartbeats 8000000 in
theorem undone_any (x : Nd) (v : Value) (B : Nat) (f t : ByteArray) (w : World) (hG : Glob w) (hl : Ls w B v x.kids) (hB : B ≤ w.heap.size) (hok : x.ok) :
    Calls Tryz.prog 4 #[nv x v, .string f, .string t] w fun e w' => e = .returned (.bool true) ∧ Below w.heap.size w w' := by
  obtain ⟨va, vc, rfl⟩ := hl.slice
  obtain ⟨w1, hw1⟩ : ∃ w1, w.alloc (NB x (.slice va x.kids.length vc)) = w1 := ⟨_, rfl⟩
  have hz1 : w1.heap.size = w.heap.size + 1 := by rw [← hw1]; simp
  have hb1 : Below w.heap.size w w1 := by rw [← hw1]; exact (Below.refl _ w).alloc (Nat.le_refl _) _
  have hP : w1.heap[w.heap.size]? = some (NB x (.slice va x.kids.length vc)) := by rw [← hw1]; exact alloc_blk w _
  have cF := few_any x (.slice va x.kids.length vc) B w1 (hl.bel (hb1.mono hB)) (by omega) hok.sz
  rw [← hw1] at cF
  have HL := Lib.hid hl
  have HB1 := Lib.hid hb1
  have HP := Lib.hid hP
  have HZ1 := Lib.hid hz1
  have HG := Lib.hid hG
  have HOK := Lib.hid hok
  have HW1 := Lib.hid hw1
  clear hl hb1 hP hz1 hw1 hG hok
  go_enter Tryz.func4, Tryz.ntmps4
  go_wp2_with fail
  refine cF.mono ?_
  clear cF
  rintro e w2 ⟨hb2, r, rfl, hr⟩
  rw [HW1.out] at hb2
  have HB2 : Hid (Below w.heap.size w w2) := HB1.out.trans (hb2.mono (by have := HZ1.out; omega))
  have HQ : Hid (w2.heap[w.heap.size]? = some (NB x (.slice va x.kids.length vc))) := (hb2.block _ (by have := HZ1.out; omega)).trans HP.out
  have cA := awake_any w2 (HG.out.bel HB2.out)
  clear hb2 HP HB1 HW1
  cases r with
  | false =>
    clear hr
    go_wp2_with fail
    refine cA.mono ?_
    clear cA
    rintro e w3 ⟨rfl, hb3⟩
    have HB3 : Hid (Below w.heap.size w w3) := HB2.out.trans (hb3.mono HB2.out.size)
    clear hb3
    go_wp2
    go_ret
    exact ⟨rfl, HB3.out⟩
  | true =>
    obtain ⟨hn, _⟩ := hr rfl
    have HN := Lib.hid hn
    clear hr hn
    by_cases hf : 100 < f.size
    · have e1 : decide ((100 : Int) < (f.size : Int)) = true := by simp; omega
      have e2 : decide (100 < f.size) = true := by simp; omega
      clear hf
      go_wp2_with fail
      refine cA.mono ?_
      clear cA
      rintro e w3 ⟨rfl, hb3⟩
      have HB3 : Hid (Below w.heap.size w w3) := HB2.out.trans (hb3.mono HB2.out.size)
      clear hb3
      go_wp2
      go_ret
      exact ⟨rfl, HB3.out⟩
    · by_cases ht : 100 < t.size
      · have e1 : decide ((100 : Int) < (f.size : Int)) = false := by simp; omega
        have e3 : decide ((100 : Int) < (t.size : Int)) = true := by simp; omega
        have hf' := Lib.hid hf
        clear hf ht
        go_wp2_with fail
        refine cA.mono ?_
        clear cA
        rintro e w3 ⟨rfl, hb3⟩
        have HB3 : Hid (Below w.heap.size w w3) := HB2.out.trans (hb3.mono HB2.out.size)
        clear hb3
        go_wp2
        go_ret
        exact ⟨rfl, HB3.out⟩
      · have e1 : decide ((100 : Int) < (f.size : Int)) = false := by simp; omega
        have e3 : decide ((100 : Int) < (t.size : Int)) = false := by simp; omega
        have HF : Hid (f.size ≤ 100) := by show _ ≤ _; omega
        have HT : Hid (t.size ≤ 100) := by show _ ≤ _; omega
        clear hf ht
        go_wp2_with fail
        refine cA.mono ?_
        clear cA
        rintro e w3 ⟨rfl, hb3⟩
        have HB3 : Hid (Below w.heap.size w w3) := HB2.out.trans (hb3.mono HB2.out.size)
        have HP3 : Hid (w3.heap[w.heap.size]? = some (NB x (.slice va x.kids.length vc))) := (hb3.block _ (by have := lt_of_block HQ.out; omega)).trans HQ.out
        clear hb3 HQ HB2
        have p3 := blk_cell HP3.out 3
        go_wp2
        clear p3 e1 e3
        go_loopg [7, 31] (x.kids.length + 1) (fun n y z wr => ∃ i : Nat, i ≤ x.kids.length ∧ x.kids.length - i < n ∧ z = .int .i64 i ∧ y = .int .i64 ((1 + nodesL (x.kids.take i) : Nat) : Int) ∧ Hid (Below w3.heap.size w3 wr))
        case atStart => exact ⟨0, by omega, by omega, rfl, rfl, Below.refl _ _⟩
        case round =>
          obtain ⟨i, hi1, hgk, rfl, rfl, HBr⟩ := hrel
          obtain ⟨n, rfl⟩ : ∃ n, gk = n + 1 := ⟨gk - 1, by omega⟩
          by_cases hlt : i < x.kids.length
          · obtain ⟨kb, koff, vs, rfl, hkb, hkc, hkn, hkl⟩ := HL.out.row_of (by omega)
            have hii : (i : Int) < (x.kids.length : Int) := by omega
            have hi0 : (0 : Int) ≤ (i : Int) := by omega
            have hB3r : Below w.heap.size w wr := HB3.out.trans (HBr.out.mono HB3.out.size)
            have hk := (hkn i hlt).of (hB3r.block kb (by omega))
            have hkk := (hkl i hlt).bel (hB3r.mono hB)
            have htk := nd_take hlt
            have hnk : nodesL (x.kids.take (i + 1)) ≤ nodesL x.kids := nodesL_take _ _
            rw [htk, nodesL_app] at hnk
            have hnn := HN.out
            have hxe := x.nodes_eq
            have hsz3 := hB3r.size
            have hi2 : i ≤ 1500 := by have := len_nodesL x.kids; omega
            clear hkn hkl
            generalize vs i = kv at *
            generalize x.kids.getD i Nd0 = k at *
            have hknz : nodesL (x.kids.take i) + k.nodes ≤ 1500 := by omega
            obtain ⟨ka, kc, rfl⟩ := hkk.slice
            obtain ⟨t0, t1, t2, t3, t4, t5, t6⟩ := hk
            have hcB : Below wr.heap.size wr (wr.alloc (NB k (.slice ka k.kids.length kc))) := (Below.refl _ wr).alloc (Nat.le_refl _) _
            have cS := size_any k (.slice ka k.kids.length kc) B (wr.alloc (NB k (.slice ka k.kids.length kc))) (hkk.bel (hcB.mono (by omega))) (by simp; omega) t5 (by omega)
            have HTK : Hid (nodesL (x.kids.take (i + 1)) = nodesL (x.kids.take i) + k.nodes) := by show _ = _; rw [htk, nodesL_app]
            have HCB := Lib.hid hcB
            have HBK := Lib.hid (alloc_blk wr (NB k (.slice ka k.kids.length kc)))
            have HKN := Lib.hid hknz
            clear hkk htk hnk hxe hsz3 hcB hB3r hknz hnn t5 t6
            obtain ⟨p, hp⟩ : ∃ p, p = 1 + nodesL (x.kids.take i) := ⟨_, rfl⟩
            rw [← hp]
            have HTP : Hid (1 + nodesL (x.kids.take (i + 1)) = p + k.nodes) := by show _ = _; rw [HTK.out, hp]; omega
            have a1 : IntKind.i64.wrap ((p : Int) + (k.nodes : Int)) = (p : Int) + (k.nodes : Int) := IntWalk.i64_in _ (by have h := HKN.out; omega)
            clear hp
            go_upto_region 7 with fail
            clear t0 t1 t2 t3 t4
            generalize wr.alloc (NB k (.slice ka k.kids.length kc)) = w4 at *
            have e0 := blk_cell HBK.out 0
            have e1 := blk_cell HBK.out 1
            have e2 := blk_cell HBK.out 2
            have e3 := blk_cell HBK.out 3
            have e4 := blk_cell HBK.out 4
            go_wp2_with fail
            refine cS.mono ?_
            clear cS e0 e1 e2 e3 e4
            rintro e w5 ⟨rfl, hb5⟩
            have HB5 : Hid (Below w3.heap.size w3 w5) := HBr.out.trans ((HCB.out.mono HBr.out.size).trans (hb5.mono (by have h1 := HCB.out.size; have h2 := HBr.out.size; omega)))
            clear hb5
            go_wp2
            go_roundg n
            case measure => omega
            case rel => exact ⟨i + 1, by omega, by omega, by go_num, (by rw [HTP.out]; push_cast; rfl), HB5⟩
          · have he : i = x.kids.length := by omega
            subst he
            have hsum : 1 + nodesL (x.kids.take x.kids.length) = x.nodes := by rw [List.take_length, x.nodes_eq]
            rw [hsum]
            have hBr := HB3.out.trans (HBr.out.mono HB3.out.size)
            have hPr : wr.heap[w.heap.size]? = some (NB x (.slice va x.kids.length vc)) := (HBr.out.block _ (lt_of_block HP3.out)).trans HP3.out
            have HBW := Lib.hid hBr
            have HPW := Lib.hid hPr
            clear hsum hBr hPr HBr HP3 HB3
            go_upto_region 9 with fail
            have cD := depth_any x (.slice va x.kids.length vc) B wr (HL.out.bel (HBW.out.mono hB)) (Nat.le_trans hB HBW.out.size) HOK.out (by have := HN.out; omega)
            go_cut [48] from 40 to 48 (fun y wx => y = .bool false ∧ Hid (Below w.heap.size w wx) ∧ Hid (wx.heap[w.heap.size]? = some (NB x (.slice va x.kids.length vc))))
            case first =>
              have p0 := blk_cell HPW.out 0
              have p1 := blk_cell HPW.out 1
              have p2 := blk_cell HPW.out 2
              have p3 := blk_cell HPW.out 3
              have p4 := blk_cell HPW.out 4
              go_wp2_with fail
              refine cD.mono ?_
              clear cD p0 p1 p2 p3 p4
              rintro e w4 ⟨⟨d, rfl, hd, hd2⟩, hb4⟩
              have HB4 : Hid (Below w.heap.size w w4) := HBW.out.trans (hb4.mono HBW.out.size)
              have hP4 : w4.heap[w.heap.size]? = some (NB x (.slice va x.kids.length vc)) := (hb4.block _ (lt_of_block HPW.out)).trans HPW.out
              have HP4 := Lib.hid hP4
              clear hb4 hP4 hd
              by_cases h64 : d ≤ 64
              · have d1 : decide ((d : Int) ≤ (64 : Int)) = true := by simp; omega
                have d2 : decide (d ≤ 64) = true := by simp; omega
                have cS := size_any x (.slice va x.kids.length vc) B w4 (HL.out.bel (HB4.out.mono hB)) (Nat.le_trans hB HB4.out.size) HOK.out (by have := HN.out; omega)
                have p0 := blk_cell HP4.out 0
                have p1 := blk_cell HP4.out 1
                have p2 := blk_cell HP4.out 2
                have p3 := blk_cell HP4.out 3
                have p4 := blk_cell HP4.out 4
                clear h64
                go_wp2_with fail
                refine cS.mono ?_
                clear cS p0 p1 p2 p3 p4
                rintro e w5 ⟨rfl, hb5⟩
                have HB5 : Hid (Below w.heap.size w w5) := HB4.out.trans (hb5.mono HB4.out.size)
                have HP5 : Hid (w5.heap[w.heap.size]? = some (NB x (.slice va x.kids.length vc))) := (hb5.block _ (lt_of_block HP4.out)).trans HP4.out
                clear hb5
                go_wp2
                go_meet
                exact ⟨by simp, HB5, HP5⟩
              · have d1 : decide ((d : Int) ≤ (64 : Int)) = false := by simp; omega
                have d2 : decide (d ≤ 64) = false := by simp; omega
                clear h64
                go_wp2
                go_meet
                exact ⟨rfl, HB4, HP4⟩
            obtain ⟨rfl, HBC, HPC⟩ := hcut
            clear HPW HBW cD
            go_upto_region 11 with fail
            by_cases hft : f.toList = t.toList
            · have e1 : (f.toList == t.toList) = true := by simpa using hft
              clear hft
              go_wp2
              go_ret
              exact ⟨rfl, HBC.out⟩
            · have e1 : (f.toList == t.toList) = false := by simpa using hft
              have HFT := Lib.hid hft
              have cN := names_any x (.slice va x.kids.length vc) B wc (HL.out.bel (HBC.out.mono hB)) (Nat.le_trans hB HBC.out.size) HOK.out (by have := HN.out; omega)
              have p0 := blk_cell HPC.out 0
              have p1 := blk_cell HPC.out 1
              have p2 := blk_cell HPC.out 2
              have p3 := blk_cell HPC.out 3
              have p4 := blk_cell HPC.out 4
              clear hft
              go_wp2_with fail
              refine cN.mono ?_
              clear cN p0 p1 p2 p3 p4
              rintro e w4 ⟨r, ss, rfl, hss, hsl, hrow, _, hb4⟩
              have HB4 : Hid (Below w.heap.size w w4) := HBC.out.trans (hb4.mono HBC.out.size)
              have HP4 : Hid (w4.heap[w.heap.size]? = some (NB x (.slice va x.kids.length vc))) := (hb4.block _ (lt_of_block HPC.out)).trans HPC.out
              have hml : (ss.mergeSort fun x y => decide (x ≤ y)).length = ss.length := List.length_mergeSort _
              have cC := contains_row w4 wc.heap.size r (ss.mergeSort fun x y => decide (x ≤ y)) t (by omega) (by rw [hml]; exact hrow)
              have hmem : t.data.toList ∈ (ss.mergeSort fun x y => decide (x ≤ y)) ↔ t.data.toList ∈ x.names := by rw [List.mem_mergeSort, hss]
              have HMEM := Lib.hid hmem
              clear hb4 hrow hml hss hsl hmem
              generalize ss.mergeSort (fun x y => decide (x ≤ y)) = sl at *
              go_wp2_with fail
              refine cC.mono ?_
              clear cC
              rintro e w5 ⟨rfl, hq⟩
              obtain rfl := hq.symm
              by_cases hin : t.data.toList ∈ sl
              · have d1 : decide (t.data.toList ∈ sl) = true := by simpa using hin
                rw [d1]
                clear hin d1
                go_wp2
                go_ret
                exact ⟨rfl, HB4.out⟩
              · have d1 : decide (t.data.toList ∈ sl) = false := by simpa using hin
                rw [d1]
                have HNI : Hid (t.toList ∉ x.names) := by
                  show _ ∉ _
                  rw [ByteArray.toList_eq, ← HMEM.out]
                  exact hin
                have cN := names_any x (.slice va x.kids.length vc) B w4 (HL.out.bel (HB4.out.mono hB)) (Nat.le_trans hB HB4.out.size) HOK.out (by have := HN.out; omega)
                have p0 := blk_cell HP4.out 0
                have p1 := blk_cell HP4.out 1
                have p2 := blk_cell HP4.out 2
                have p3 := blk_cell HP4.out 3
                have p4 := blk_cell HP4.out 4
                clear hin d1 HMEM HBC HPC
                go_wp2_with fail
                refine cN.mono ?_
                clear cN p0 p1 p2 p3 p4
                rintro e w5 ⟨r2, ss2, rfl, _, hsl2, hrow2, _, hb5⟩
                have HB5 : Hid (Below w.heap.size w w5) := HB4.out.trans (hb5.mono HB4.out.size)
                have HP5 : Hid (w5.heap[w.heap.size]? = some (NB x (.slice va x.kids.length vc))) := (hb5.block _ (lt_of_block HP4.out)).trans HP4.out
                obtain ⟨ra, rc, rfl⟩ := own_shape hrow2
                clear hb5 hrow2 HB4 HP4
                by_cases hz : ss2.length = 0
                · have z1 : ((ss2.length : Int) == 0) = true := by simpa using hz
                  clear hz
                  go_wp2
                  go_ret
                  exact ⟨rfl, HB5.out⟩
                · have z1 : ((ss2.length : Int) == 0) = false := by simpa using hz
                  clear hz
                  go_upto_region 13 with fail
                  have hBD : Below w.heap.size w w5.drew := HB5.out.drew
                  have hPD : w5.drew.heap[w.heap.size]? = some (NB x (.slice va x.kids.length vc)) := HP5.out
                  have p0 := blk_cell HP5.out 0
                  have p1 := blk_cell HP5.out 1
                  have p2 := blk_cell HP5.out 2
                  have p3 := blk_cell HP5.out 3
                  have p4 := blk_cell HP5.out 4
                  have cR := rename_any f t (by have := HT.out; omega) x (.slice va x.kids.length vc) B w5.drew (HL.out.bel (hBD.mono hB)) (Nat.le_trans hB hBD.size) HOK.out (by have := HN.out; omega)
                  have HSD : Hid (Bx5 w.heap.size x (.slice va x.kids.length vc) w5.drew) := bx5 hPD
                  have HBD := Lib.hid hBD
                  have HPD := Lib.hid hPD
                  clear hBD hPD HB5 HP5
                  go_region_held3 (fun w' => w'.cell? ⟨w.heap.size, 0, none⟩ = some (.int .i64 x.kind) ∧ w'.cell? ⟨w.heap.size, 1, none⟩ = some (.string x.text) ∧ w'.cell? ⟨w.heap.size, 2, none⟩ = some (.int .i64 x.num) ∧ w'.cell? ⟨w.heap.size, 3, none⟩ = some (.slice va x.kids.length vc) ∧ w'.cell? ⟨w.heap.size, 4, none⟩ = some (.int .i64 x.at_)) (first | exact HSD.out | exact HS6.out | exact HS7.out | exact HS8.out | go_keep)
                    (first
                      | (go_at_call 9; refine (Equal_any x v2 (.slice va x.kids.length vc) w.heap.size w7 (by have := HN.out; omega) HOK.out HB7.out.size HLA.out HLB.out).mono ?_; rintro e w8 ⟨rfl, hb8⟩; have HB8 : Hid (Below w.heap.size w w8) := HB7.out.trans (hb8.mono HB7.out.size); have HS8 : Hid (Bx5 w.heap.size x (.slice va x.kids.length vc) w8) := bx5 ((hb8.block _ (lt_of_block HP7.out)).trans HP7.out); clear hb8)
                      | (go_at_call 14; refine cR.mono ?_; clear cR; rintro e w6 ⟨v1, rfl, hls1, hb6⟩; have HB6 : Hid (Below w.heap.size w w6) := HBD.out.trans (hb6.mono HBD.out.size); have HP6 : Hid (w6.heap[w.heap.size]? = some (NB x (.slice va x.kids.length vc))) := (hb6.block _ (lt_of_block HPD.out)).trans HPD.out; have HS6 : Hid (Bx5 w.heap.size x (.slice va x.kids.length vc) w6) := bx5 HP6.out; have cR2 := rename_any t f (by have := HF.out; omega) (ren f t x) v1 w6.heap.size w6 (hls1.of (fun _ _ => rfl) (fun k hk => hk.2.1)) (Nat.le_refl _) (ren_ok (by have := HT.out; omega) HOK.out) (by rw [ren_nodes]; have := HN.out; omega); clear hls1 hb6)
                      | (go_at_call 14; refine cR2.mono ?_; clear cR2; rintro e w7 ⟨v2, he, hls2, hb7⟩; rw [ren_back f t HFT.out x HNI.out] at he hls2; subst he; have HB7 : Hid (Below w.heap.size w w7) := HB6.out.trans (hb7.mono HB6.out.size); have HP7 : Hid (w7.heap[w.heap.size]? = some (NB x (.slice va x.kids.length vc))) := (hb7.block _ (lt_of_block HP6.out)).trans HP6.out; have HS7 : Hid (Bx5 w.heap.size x (.slice va x.kids.length vc) w7) := bx5 HP7.out; have HLA : Hid (LsS w7 (fun j => Free w7 j ∧ w.heap.size ≤ j ∧ j < w7.heap.size) v2 x.kids) := hls2.of (fun _ _ => rfl) (fun k hk => ⟨hk.2.2, Nat.le_trans HB6.out.size hk.1, hk.2.1⟩); have HLB : Hid (Ls w7 w.heap.size (.slice va x.kids.length vc) x.kids) := (HL.out.bel (HB7.out.mono hB)).up hB; clear hls2 hb7))
                  go_wp2
                  go_ret
                  exact ⟨rfl, HB8.out⟩
end Go.Proofs.YthcoigdmammamaaGreatDoor
