/- below: its walk. -/
import Derived.Test.YthcoigdmammamaaGreatDoorS17
import Derived.Deep.LoopGhost
import Derived.Deep.QuietTactic
namespace Go.Proofs.YthcoigdmammamaaGreatDoor
open Go.RowKit Go.Shelf Go.Sort
set_option maxRecDepth 100000

theorem info22 : (Tryz.prog.info? 22).map (fun i => (i.zero, i.size, i.bytes)) = some (some (.slice none 0 0), 1, 24) := by kernel_rfl

theorem one_row (w : World) (v : Value) (t : TypeId) : ∀ j u, [v][j]? = some u → (w.alloc (.cells #[v] t)).cell? ((⟨w.heap.size, 0, none⟩ : Addr).add j) = some u := by
  intro j u hj
  match j, hj with
  | 0, hj => simp at hj; subst hj; simp [Addr.add]
def BInv.alloc {w : World} {B h : Nat} {W : World} {y : Value} {p : Nat} (i : BInv w B h W y p) (o : Obj) : BInv w B h (W.alloc o) y p :=
  ⟨i.outs, i.own.alloc o, i.all, i.cnt, i.sum, i.es, i.c, by rw [Below.heap_alloc _ _ _ (lt_of_block i.map)]; exact i.map, i.ents.of (fun k hk => Below.heap_alloc _ _ _ (Nat.lt_of_lt_of_le hk i.bel.size)), i.bel.alloc i.bel.size o⟩

set_option maxHeartbeats 8000000 in
theorem below_any (B h : Nat) (v : Value) (ls : List (List Nd)) (w : World) (hl : LL w B v ls) (hB : B ≤ w.heap.size) (hn : nodesLL ls ≤ 20000) (hlen : ls.length ≤ 20000) (hh : highLL ls ≤ h) :
    Calls Tryz.prog 23 #[v] w fun e w' => ∃ y, e = .returned y ∧ BI w B h w' y (nodesLL ls) := by
  obtain ⟨va, vc, rfl⟩ := hl.slice
  have hmm := @run_makeMap Tryz.prog
  obtain ⟨i0, hi, iz0, iz1, iz2⟩ := info_parts info22
  have HL := Lib.hid hl
  have hm0 : (w.alloc (.map #[] 0)).heap[w.heap.size]? = some (.map #[] 0) := alloc_blk w _
  have hb0 : Below w.heap.size w (w.alloc (.map #[] 0)) := (Below.refl _ w).alloc (Nat.le_refl _) _
  have HI : Hid (BI w B h (w.alloc (.map #[] 0)) (.slice none 0 0) 0) := ⟨⟨[], ⟨rfl, .inl ⟨rfl, rfl⟩⟩, (by intro o ho; cases ho), Nat.le_refl _, Nat.le_refl _, #[], 0, hm0, (by intro e he; cases he), hb0⟩⟩
  clear hl hm0 hb0
  go_enter Tryz.func23, Tryz.ntmps23
  go_wp2
  go_loopg [3, 12] (ls.length + 1) (fun n y z wr => ∃ i : Nat, i ≤ ls.length ∧ ls.length - i < n ∧ z = .int .i64 i ∧ Hid (BI w B h wr y (nodesLL (ls.take i))))
  case atStart => exact ⟨0, by omega, by omega, rfl, HI⟩
  case round =>
    obtain ⟨i, hi1, hgk, rfl, HI1⟩ := hrel
    obtain ⟨n, rfl⟩ : ∃ n, gk = n + 1 := ⟨gk - 1, by omega⟩
    by_cases hlt : i < ls.length
    · have hii : (i : Int) < (ls.length : Int) := by omega
      have hi0 : (0 : Int) ≤ (i : Int) := by omega
      obtain ⟨b, off, vs, rfl, hbw, hcell, hli⟩ : ∃ (b off : Nat) (vs : Nat → Value), va = some ⟨b, off, none⟩ ∧ b < w.heap.size ∧ w.cell? ⟨b, off + i, none⟩ = some (vs i) ∧ Ls w B (vs i) (ls.getD i []) := by
        rcases HL.out with ⟨_, h2⟩ | ⟨b, off, cap, vs, h1, h2, h3, h4⟩
        · rw [h2] at hlt; exact absurd hlt (by simp)
        · injection h1 with e1 e2 e3
          exact ⟨b, off, vs, e1, h2, (h4 i hlt).1, (h4 i hlt).2⟩
      have hbel : Below w.heap.size w wr := by obtain ⟨x⟩ := HI1.out; exact x.bel
      have htk := ll_take hlt
      have hhi := highLL_mem ls i hlt
      have htl := nodesLL_take ls (i + 1)
      rw [htk, nodesLL_app] at htl
      generalize vs i = lv at *
      generalize ls.getD i [] = li at *
      obtain ⟨la, lc, rfl⟩ := hli.slice
      have hcw := (hbel.cell (p := ⟨b, off + i, none⟩) hbw).trans hcell
      have HLI := Lib.hid hli
      have HTK := Lib.hid htk
      have hlin : li.length ≤ 20000 := by have := len_nodesL li; omega
      clear hcell hli htk hbel
      go_wp2
      clear hcw
      obtain ⟨wo, rfl⟩ : ∃ wo : World, wo = wr := ⟨_, rfl⟩
      go_loopg [3, 18] (li.length + 1) (fun m y z wr => ∃ j : Nat, j ≤ li.length ∧ li.length - j < m ∧ z = .int .i64 j ∧ Hid (BI w B h wr y (nodesLL (ls.take i) + nodesL (li.take j))))
      case atStart => exact ⟨0, by omega, by omega, rfl, HI1⟩
      case round =>
        obtain ⟨j, hj1, hgj, rfl, HI2⟩ := hrel
        obtain ⟨m, rfl⟩ : ∃ m, gk = m + 1 := ⟨gk - 1, by omega⟩
        by_cases hjl : j < li.length
        · obtain ⟨lb, loff, vs2, rfl, hlb, hlc, hnc, hls⟩ := HLI.out.row_of (by omega)
          have hjj : (j : Int) < (li.length : Int) := by omega
          have hj0 : (0 : Int) ≤ (j : Int) := by omega
          have hbel : Below w.heap.size w wr := by obtain ⟨x⟩ := HI2.out; exact x.bel
          have hzr := hbel.size
          have hk := (hnc j hjl).of (hbel.block _ (by omega))
          have hkk := hls j hjl
          have htk2 := nd_take hjl
          have hhk := highL_mem li j hjl
          have hnk : nodesL (li.take (j + 1)) ≤ nodesL li := nodesL_take _ _
          rw [htk2, nodesL_app] at hnk
          clear hnc hls
          generalize vs2 j = kv at *
          generalize li.getD j Nd0 = k at *
          obtain ⟨ka, kc, rfl⟩ := hkk.slice
          have hkn := k.nodes_eq
          have hkh := k.high_eq
          have HKK := Lib.hid hkk
          have HTK2 := Lib.hid htk2
          have HNK := Lib.hid hnk
          have HHK : Hid (k.high ≤ h) := by show _ ≤ _; omega
          have HKN := Lib.hid hkn
          have HKH := Lib.hid hkh
          have HB2 := Lib.hid hbel
          obtain ⟨t0, t1, t2, t3, t4, t5, t6⟩ := hk
          have hbk := alloc_blk wr (NB k (.slice ka k.kids.length kc))
          have HI3 : Hid (BI w B h (wr.alloc (NB k (.slice ka k.kids.length kc))) u3 (nodesLL (ls.take i) + nodesL (li.take j))) := HI2.out.bel ((Below.refl _ wr).alloc (Nat.le_refl _) _)
          have hz1 : (wr.alloc (NB k (.slice ka k.kids.length kc))).heap.size = wr.heap.size + 1 := by simp
          have HZ1 := Lib.hid hz1
          have HBK := Lib.hid hbk
          have HB3 : Hid (Below w.heap.size w (wr.alloc (NB k (.slice ka k.kids.length kc)))) := hbel.alloc hzr _
          clear hkk htk2 hhk hnk hkn hkh hbel hbk hz1
          go_upto_region 9 with fail
          clear t0 t1 t2 t3 t4
          generalize wr.alloc (NB k (.slice ka k.kids.length kc)) = w1 at *
          have e3 := blk_cell HBK.out 3
          by_cases hz : k.kids.length = 0
          · have z0 : ((k.kids.length : Int) == 0) = true := by simpa using hz
            clear hz
            go_wp2
            clear e3 z0
            go_roundg m
            case measure => omega
            case rel =>
              refine ⟨j + 1, by omega, by omega, by go_num, ?_⟩
              refine BI.more HI3.out ?_
              rw [HTK2.out, nodesL_app]
              omega
          · have z0 : ((k.kids.length : Int) == 0) = false := by simpa using hz
            have hpos : 0 < k.kids.length := by omega
            clear hz
            obtain ⟨rb, roff, vs3, rfl, hrb, hrc, hrn, hrl⟩ := HKK.out.row_of hpos
            have hgd0 : Gd w ⟨rb, roff, none⟩ := by
              have h0 := hrn 0 hpos
              obtain ⟨xs, t, fr, h1, _⟩ := blk_of_cell h0.c0
              have h2 := h0.fz
              rw [Nat.zero_mul, Nat.add_zero] at h2
              exact ⟨⟨xs, t, fr, h1⟩, h2⟩
            have HGD := Lib.hid hgd0
            clear hrn hrl hgd0
            go_wp2_with fail
            refine (placeOf_any rb roff k.kids.length kc w1 hpos).mono ?_
            rintro e w2 ⟨rfl, hb2⟩
            have hz1 := HZ1.out
            have hI4 := HI3.out.bel hb2
            have hB4 : Below w.heap.size w w2 := HB3.out.trans (hb2.mono (by omega))
            obtain ⟨bb, w3, hlk, hI5, hb3⟩ := hI4.look (HGD.out.of (hB4.block rb (by omega))) k.kids.length
            have hz2 := hb2.size
            have hz3 := hb3.size
            have hB5 : Below w.heap.size w w3 := hB4.trans (hb3.mono (by omega))
            have hk3 : w3.heap[wr.heap.size]? = some (NB k (.slice (some ⟨rb, roff, none⟩) k.kids.length kc)) := (hb3.block _ (by omega)).trans ((hb2.block _ (by omega)).trans HBK.out)
            have HI5 := Lib.hid hI5
            have HB5 := Lib.hid hB5
            have HK3 := Lib.hid hk3
            have hz3' : wr.heap.size < w3.heap.size := by omega
            have HZ3 := Lib.hid hz3'
            clear hb2 hI4 hB4 hI5 hb3 hz2 hz3 hz3' hB5 hk3 e3 hz1
            rcases bb with _ | _
            · have e3 := blk_cell HK3.out 3
              go_wp2_with fail
              clear hlk e3
              refine (placeOf_any rb roff k.kids.length kc w3 hpos).mono ?_
              rintro e w4 ⟨rfl, hb4⟩
              have hz3 := HZ3.out
              have hz4 := hb4.size
              have hI6 := HI5.out.bel hb4
              have hB6 : Below w.heap.size w w4 := HB5.out.trans (hb4.mono (by omega))
              obtain ⟨w5, hup, hI7, hg5⟩ := hI6.upd (HGD.out.of (hB6.block rb (by omega))) (by show rb < _; omega) k.kids.length
              have hz5 := hg5.size
              have hk5 : w5.heap[wr.heap.size]? = some (NB k (.slice (some ⟨rb, roff, none⟩) k.kids.length kc)) := by
                rw [hg5.block _ (by omega) (fun e => by have : wr.heap.size = w.heap.size := by injection e
                                                        obtain ⟨x⟩ := HI2.out
                                                        have := lt_of_block x.map
                                                        omega), hb4.block _ (by omega)]
                exact HK3.out
              have HK5 := Lib.hid hk5
              have HI7 := Lib.hid hI7
              have hz5' : wr.heap.size < w5.heap.size := by omega
              have HZ5 := Lib.hid hz5'
              have e3 := blk_cell HK5.out 3
              clear hb4 hI6 hB6 hI7 hg5 hk5 hz3 hz4 hz5 hz5'
              go_upto_region 11 with fail
              obtain ⟨x⟩ := HI7.out
              have hx1 := x.cnt
              have hx2 := x.bel.size
              have HX : Hid (∀ (y' : Value) (W' : World), W'.ownsRow (w.heap.size + 1) 22 1 y' (x.outs.length + 1) (x.outs.map (·.1) ++ [.slice (some ⟨rb, roff, none⟩) k.kids.length kc]) → (w5.alloc (.cells #[.slice (some ⟨rb, roff, none⟩) k.kids.length kc] 22)).grownBy W' u3.ownBlock → BI w B h W' y' (nodesLL (ls.take i) + nodesL (li.take (j + 1)))) := fun y' W' h1 h2 => by
                refine (x.alloc (.cells #[.slice (some ⟨rb, roff, none⟩) k.kids.length kc] 22)).push h1 h2 HKK.out hpos ?_ _ ?_
                · have := HKH.out
                  have := HHK.out
                  omega
                · have := HKN.out
                  rw [HTK2.out, nodesL_app]
                  omega
              have hxo := x.own
              have hxn : nodesL (li.take j) ≤ nodesL li := nodesL_take _ _
              go_wp2_with (at_builtin; refine wpList_append_own _ rfl _ _ 61 rfl (w.heap.size + 1) 22 i0 (.slice none 0 0) 1 24 Tryz.underlying61 hi iz0 iz1 iz2 rfl (by decide) _ _ _ rfl (hxo.alloc _) ⟨w5.heap.size, 0, none⟩ 1 1 [.slice (some ⟨rb, roff, none⟩) k.kids.length kc] rfl rfl (one_row _ _ _) (by simp [Value.oneCell']) (by unfold maxLen; omega) (by omega) (by simp; omega) ?_; intro y' w7 hown' hgrow _; have HN := Lib.hid (HX.out y' w7 hown' hgrow); clear hown' hgrow hxo HX)
              go_roundg m
              case measure => omega
              case rel => exact ⟨j + 1, by omega, by omega, by go_num, HN⟩
            · go_wp2
              clear hlk
              go_roundg m
              case measure => omega
              case rel =>
                refine ⟨j + 1, by omega, by omega, by go_num, ?_⟩
                refine BI.more HI5.out ?_
                rw [HTK2.out, nodesL_app]
                omega
        · have he : j = li.length := by omega
          subst he
          go_wp2
          go_roundg n
          case measure => omega
          case rel =>
            refine ⟨i + 1, by omega, by omega, by go_num, ?_⟩
            have h1 := HI2.out
            rw [List.take_length] at h1
            rw [HTK.out, nodesLL_app]
            exact h1
    · have he : i = ls.length := by omega
      subst he
      go_wp2
      go_ret
      have h1 := HI1.out
      rw [List.take_length] at h1
      exact ⟨_, rfl, h1⟩
end Go.Proofs.YthcoigdmammamaaGreatDoor
