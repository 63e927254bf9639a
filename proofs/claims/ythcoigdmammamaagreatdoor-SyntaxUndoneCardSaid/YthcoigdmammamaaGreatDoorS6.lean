/- renamed: its walk. -/
import Derived.Test.YthcoigdmammamaaGreatDoorS5
import Derived.Deep.LoopGhost
import Derived.RegionTactic
import Derived.Deep.Cut
import Derived.Deep.CutRange
import Derived.Deep.RegionLaw
namespace Go.Proofs.YthcoigdmammamaaGreatDoor
open Go.RowKit Go.Shelf
set_option maxRecDepth 100000

/-- A block that lies free: no byte of it is shared with a string. -/
def Free (w : World) (k : Nat) : Prop := ∃ xs t, w.heap[k]? = some (.cells xs t (0, 0))
theorem Free.of {w w' : World} {k : Nat} (h : Free w k) (hb : w'.heap[k]? = w.heap[k]?) : Free w' k := by
  obtain ⟨xs, t, h⟩ := h
  exact ⟨xs, t, hb.trans h⟩
/-- What renamed comes to. -/
def RenP (f t : ByteArray) (x : Nd) (w : World) (e : Ending) (w' : World) : Prop :=
  ∃ v', e = .returned (nv (ren f t x) v') ∧ LsS w' (fun k => w.heap.size ≤ k ∧ k < w'.heap.size ∧ Free w' k) v' (ren f t x).kids ∧ Below w.heap.size w w'
/-- A node of zeros. -/
abbrev NZ : Obj := .cells #[.int .i64 0, .string ⟨#[]⟩, .int .i64 0, .slice none 0 0, .int .i64 0] 24
theorem info24 : (Tryz.prog.info? 24).map (fun i => (i.zero, i.size, i.bytes)) = some (some (.agg #[.int .i64 0, .string ByteArray.empty, .int .i64 0, .slice none 0 0, .int .i64 0]), 5, 64) := by kernel_rfl

theorem ren_ok {f t : ByteArray} {x : Nd} (ht : t.size ≤ 140737488355328) (h : x.ok) : (ren f t x).ok := by
  obtain ⟨h1, h2, h3, h4, h5, h6, h7⟩ := h
  rw [ren_eq]
  refine ⟨?_, h2, h3, h4, h5, h6, h7⟩
  show (if _ then t else x.text).size ≤ _
  split
  · exact ht
  · exact h1
theorem LsS.slice {w : World} {S : Nat → Prop} {v : Value} {l : List Nd} (h : LsS w S v l) : ∃ a c, v = .slice a l.length c := by
  cases h with
  | nil a c => exact ⟨_, _, rfl⟩
  | row b off cap l vs => exact ⟨_, _, rfl⟩
theorem own_bel {w w' : World} {base e size : Nat} {v : Value} {n : Nat} {xs : List Value} (h : w.ownsRow base e size v n xs) (hb : Below w.heap.size w w') : w'.ownsRow base e size v n xs := by
  refine ⟨h.1, ?_⟩
  rcases h.2 with hn | ⟨g, cap, cur, hv, hb1, hg, rest⟩
  · exact .inl hn
  · exact .inr ⟨g, cap, cur, hv, hb1, (hb.block g (lt_of_block hg)).trans hg, rest⟩
theorem own_free {w : World} {base e sz : Nat} {v : Value} {n : Nat} {xs : List Value} (h : w.ownsRow base e sz v n xs) {g : Nat} (hg : v.ownBlock = some g) : Free w g := by
  rcases h.2 with ⟨h, h0⟩ | ⟨g', cap, cur, h, _, hw, _⟩
  · rw [h] at hg; cases hg
  · rw [h] at hg
    injection hg with e1
    have e2 : g' = g := e1
    subst e2
    exact ⟨_, _, hw⟩
theorem own_sl {w : World} {base e sz : Nat} {v : Value} {n : Nat} {xs : List Value} (h : w.ownsRow base e sz v n xs) : ∃ a c, v = .slice a n c := by
  rcases h.2 with ⟨h, h0⟩ | ⟨g, cap, cur, h, _⟩
  · exact ⟨none, 0, by rw [h, h0]⟩
  · exact ⟨_, _, h⟩
theorem nd_one (x : Nd) (a : Option Addr) (n c : Nat) : ∀ u ∈ cellsN (x, .slice a n c), u.oneCell' = true := by
  intro u hu
  simp [cellsN] at hu
  rcases hu with rfl | rfl | rfl | rfl | rfl <;> rfl
theorem nd_row (w : World) (x : Nd) (v : Value) : ∀ j u, (cellsN (x, v))[j]? = some u → (w.alloc (NB x v)).cell? ((⟨w.heap.size, 0, none⟩ : Addr).add j) = some u := by
  intro j u hj
  match j, hj with
  | 0, hj => simp [cellsN] at hj; subst hj; simp [Addr.add]
  | 1, hj => simp [cellsN] at hj; subst hj; simp [Addr.add]
  | 2, hj => simp [cellsN] at hj; subst hj; simp [Addr.add]
  | 3, hj => simp [cellsN] at hj; subst hj; simp [Addr.add]
  | 4, hj => simp [cellsN] at hj; subst hj; simp [Addr.add]

theorem results30_run (tmps : Array Value) (W : World) (F : Nat) (c0 c1 c2 c3 c4 : Value) (h6 : tmps[6]?.getD undef = .pointer (some ⟨F, 0, none⟩)) (hF : W.heap[F]? = some (.cells #[c0, c1, c2, c3, c4] 24 (0, 0))) :
    (results Tryz.f30 tmps).run Tryz.prog W = .ok (.agg #[c0, c1, c2, c3, c4]) W := by
  have r0 : W.cell? ⟨F, 0, none⟩ = some c0 := blk_cell hF 0
  have r1 : W.cell? ⟨F, 1, none⟩ = some c1 := blk_cell hF 1
  have r2 : W.cell? ⟨F, 2, none⟩ = some c2 := blk_cell hF 2
  have r3 : W.cell? ⟨F, 3, none⟩ = some c3 := blk_cell hF 3
  have r4 : W.cell? ⟨F, 4, none⟩ = some c4 := blk_cell hF 4
  simp [results, Tryz.results30, go_sem, h6, r0, r1, r2, r3, r4]

set_option maxHeartbeats 8000000 in
theorem renamed_any (f t : ByteArray) (ht : t.size ≤ 140737488355328) (N : Nat) : ∀ (x : Nd) (v : Value) (B : Nat) (w : World), SizeOf.sizeOf x ≤ N → Ls w B v x.kids → B ≤ w.heap.size → x.ok → x.nodes ≤ 20000 →
    Calls Tryz.prog 30 #[nv x v, .string f, .string t] w (RenP f t x w) := by
  induction N with
  | zero => intro x v B w hN; cases x; simp at hN
  | succ N ih =>
    intro x v B w hN hl hB hok hn
    obtain ⟨va, vc, rfl⟩ := hl.slice
    have HL := Lib.hid hl
    have HN := Lib.hid hN
    have HOK := Lib.hid hok
    obtain ⟨i0, hi, iz0, iz1, iz2⟩ := info_parts info24
    obtain ⟨c, hc⟩ : ∃ c, c = (nam x && x.text.toList == f.toList) := ⟨_, rfl⟩
    have HC := Lib.hid hc
    obtain ⟨w1, hw1⟩ : ∃ w1, (w.alloc (NB x (.slice va x.kids.length vc))).alloc NZ = w1 := ⟨_, rfl⟩
    have hb0 : Below w.heap.size w w1 := by rw [← hw1]; exact ((Below.refl _ w).alloc (Nat.le_refl _) _).alloc (by simp) _
    have hP : w1.heap[w.heap.size]? = some (NB x (.slice va x.kids.length vc)) := by
      rw [← hw1, Below.heap_alloc _ _ _ (by simp)]; exact alloc_blk w _
    have hQ : w1.heap[w.heap.size + 1]? = some NZ := by
      rw [← hw1]
      have h := alloc_blk (w.alloc (NB x (.slice va x.kids.length vc))) NZ
      rw [World.size_alloc] at h; exact h
    have hz1 : w1.heap.size = w.heap.size + 2 := by rw [← hw1]; simp
    have HB0 := Lib.hid hb0
    have HP := Lib.hid hP
    have HQ := Lib.hid hQ
    have HZ1 := Lib.hid hz1
    have HW1 := Lib.hid hw1
    clear hl hN hc hb0 hP hQ hz1 hw1
    go_enter Tryz.func30, Tryz.ntmps30
    go_upto_region 1 with fail
    rw [HW1.out]
    clear hok
    have HLT : Hid (w.heap.size < w1.heap.size) := by show _ < _; have := HZ1.out; omega
    go_cut [16] from 10 to 17 (fun y wx => y = .bool c ∧ wx = w1)
    case first =>
      have p0 := blk_cell HP.out 0
      have p1 := blk_cell HP.out 1
      have cN := named_any w.heap.size 0 x.kind w1 p0
      by_cases h1 : nam x = true
      · have h1' : (x.kind == 30 || x.kind == 19) = true := h1
        by_cases h2 : x.text.toList = f.toList
        · have e2 : (x.text.toList == f.toList) = true := by simpa using h2
          have hcc : c = true := by rw [HC.out, h1, e2]; rfl
          clear h2
          subst hcc
          go_wp2_with (go_at_call 26; refine cN.mono ?_; clear cN; rintro e w' ⟨rfl, rfl⟩)
          go_meet
          exact ⟨rfl, rfl⟩
        · have e2 : (x.text.toList == f.toList) = false := by simpa using h2
          have hcc : c = false := by rw [HC.out, h1, e2]; rfl
          clear h2
          subst hcc
          go_wp2_with (go_at_call 26; refine cN.mono ?_; clear cN; rintro e w' ⟨rfl, rfl⟩)
          go_meet
          exact ⟨rfl, rfl⟩
      · have h1' : (x.kind == 30 || x.kind == 19) = false := by simpa [nam] using h1
        have hcc : c = false := by rw [HC.out]; show ((x.kind == 30 || x.kind == 19) && _) = false; rw [h1']; rfl
        clear h1
        subst hcc
        go_wp2_with (go_at_call 26; refine cN.mono ?_; clear cN; rintro e w' ⟨rfl, rfl⟩)
        go_meet
        exact ⟨rfl, rfl⟩
    obtain ⟨rfl, rfl⟩ := hcut
    go_upto_if 16 with fail
    obtain ⟨tx, htx⟩ : ∃ tx, tx = if c then t else x.text := ⟨_, rfl⟩
    have HTX := Lib.hid htx
    clear htx
    go_cut [] from 17 to 19 (fun wx => Hid (wx.heap[w.heap.size]? = some (NB (.mk x.kind tx x.num x.kids x.at_) (.slice va x.kids.length vc))) ∧ Hid (wx.heap[w.heap.size + 1]? = some NZ) ∧ Hid (Below w.heap.size w wx) ∧ wx.heap.size = w.heap.size + 2)
    case first =>
      rcases c with _ | _
      · have htx : tx = x.text := HTX.out
        subst htx
        go_wp2
        go_meet
        exact ⟨HP, HQ, HB0, HZ1.out⟩
      · have htx : tx = t := HTX.out
        subst htx
        have p1 := blk_cell HP.out 1
        have p2 := blk_free HP.out 1
        go_wp2
        go_meet
        refine ⟨blk_set HP.out 1 _, ?_, HB0.out.setCell (by exact Nat.le_refl _) _, by rw [← HZ1.out]; simp [World.setCell]⟩
        show _ = _
        rw [Below.heap_setCell _ _ _ _ (by show w.heap.size + 1 ≠ w.heap.size; omega)]
        exact HQ.out
    obtain ⟨HP2, HQ2, HB2, hz2w⟩ := hcut
    have HZ2 := Lib.hid hz2w
    have e3 := blk_cell HP2.out 3
    have hlen : x.kids.length ≤ 20000 := by have := len_nodesL x.kids; have := x.nodes_eq; omega
    have hlk : nodesL x.kids ≤ 20000 := by have := x.nodes_eq; omega
    clear hz2w
    go_wp2
    clear e3
    go_loopg [7, 22] (x.kids.length + 1) (fun n y z wr => ∃ (i : Nat) (ks : List (Nd × Value)), i ≤ x.kids.length ∧ x.kids.length - i < n ∧ z = .int .i64 i ∧ Hid (ks.length = i) ∧ Hid (ks.map (·.1) = renL f t (x.kids.take i)) ∧ Hid (∀ p ∈ ks, p.1.ok) ∧ Hid (wr.ownsRow (w.heap.size + 2) 24 5 y i (ks.flatMap cellsN)) ∧ Hid (∀ p ∈ ks, LsS wr (fun k => w.heap.size + 2 ≤ k ∧ k < wr.heap.size ∧ y.ownBlock ≠ some k ∧ Free wr k) p.2 p.1.kids) ∧ Hid (Below (w.heap.size + 2) wc wr))
    case atStart => exact ⟨0, [], by omega, by omega, rfl, rfl, rfl, (by intro p hp; cases hp), ⟨rfl, Or.inl ⟨rfl, rfl⟩⟩, (by intro p hp; cases hp), Below.refl _ _⟩
    case round =>
      obtain ⟨i, ks, hi1, hgk, rfl, HKL, HKM, HKO, HOW, HKS, HW⟩ := hrel
      obtain ⟨n, rfl⟩ : ∃ n, gk = n + 1 := ⟨gk - 1, by omega⟩
      have hbd := HW.out.size
      have hz2 := HZ2.out
      have HOB : Hid (∀ g, u7.ownBlock = some g → w.heap.size + 2 ≤ g ∧ g < wr.heap.size) := HOW.out.lt
      by_cases hlt : i < x.kids.length
      · obtain ⟨b, off, vs, rfl, hb, hcap, hnc, hls⟩ := HL.out.row_of (by omega)
        have hii : (i : Int) < (x.kids.length : Int) := by omega
        have hi0 : (0 : Int) ≤ (i : Int) := by omega
        have HBW : Hid (Below w.heap.size w wr) := HB2.out.trans (HW.out.mono (by omega))
        have hk := (hnc i hlt).of (HBW.out.block _ (by omega))
        have hks := (hls i hlt).bel (HBW.out.mono hB)
        have hsk := Nd.size_kid hlt
        have htk := nd_take hlt
        have hnk : nodesL (x.kids.take (i + 1)) ≤ nodesL x.kids := nodesL_take _ _
        rw [htk, nodesL_app] at hnk
        clear hnc hls
        generalize vs i = kv at *
        generalize x.kids.getD i Nd0 = k at *
        obtain ⟨ka, kc, rfl⟩ := hks.slice
        obtain ⟨t0, t1, t2, t3, t4, t5⟩ := hk
        have HKS1 := Lib.hid hks
        have HTK := Lib.hid htk
        have HT5 := Lib.hid t5
        have hbk := alloc_blk wr (NB k (.slice ka k.kids.length kc))
        obtain ⟨w3, hw3⟩ : ∃ w3, wr.alloc (NB k (.slice ka k.kids.length kc)) = w3 := ⟨_, rfl⟩
        have hz3 : w3.heap.size = wr.heap.size + 1 := by rw [← hw3]; simp
        have HB3 : Hid (Below wr.heap.size wr w3) := by rw [← hw3]; exact (Below.refl _ _).alloc (Nat.le_refl _) _
        rw [hw3] at hbk
        have HBK := Lib.hid hbk
        have HW3 := Lib.hid hw3
        have HZ3 := Lib.hid hz3
        have hsn : SizeOf.sizeOf k ≤ N := by have := HN.out; omega
        have cK := ih k _ B w3 hsn (HKS1.out.bel (HB3.out.mono (by omega))) (by omega) t5 (by omega)
        clear hks htk hbk hw3 hz3 t5
        go_upto_region 7 with fail
        rw [HW3.out]
        clear t0 t1 t2 t3 t4
        have e0 := blk_cell HBK.out 0
        have e1 := blk_cell HBK.out 1
        have e2 := blk_cell HBK.out 2
        have e3 := blk_cell HBK.out 3
        have e4 := blk_cell HBK.out 4
        obtain ⟨rk, hrk⟩ : ∃ rk, rk = ren f t k := ⟨_, rfl⟩
        replace cK : Calls Tryz.prog 30 #[nv k (.slice ka k.kids.length kc), .string f, .string t] w3 (fun e w' => ∃ v', e = .returned (nv rk v') ∧ LsS w' (fun j => w3.heap.size ≤ j ∧ j < w'.heap.size ∧ Free w' j) v' rk.kids ∧ Below w3.heap.size w3 w') := by rw [hrk]; exact cK
        have HRK := Lib.hid hrk
        clear hrk
        go_wp2_with fail
        refine cK.mono ?_
        clear cK
        rintro e w4 ⟨v4, rfl, hl4, hb4⟩
        obtain ⟨a4, c4, rfl⟩ := LsS.slice hl4
        have HL4 := Lib.hid hl4
        have HB4 := Lib.hid hb4
        have HO4 : Hid (w4.ownsRow (w.heap.size + 2) 24 5 u7 i (ks.flatMap cellsN)) := own_bel HOW.out (HB3.out.trans (hb4.mono (by have := HZ3.out; omega)))
        have hz4 : wr.heap.size + 1 ≤ w4.heap.size := by (have := HB4.out.size; have := HZ3.out; omega)
        clear hl4 hb4 e0 e1 e2 e3 e4
        go_wp2_with (at_builtin; refine wpList_append_lies _ rfl _ _ 22 rfl (w.heap.size + 2) 24 i0 (.agg #[.int .i64 0, .string ByteArray.empty, .int .i64 0, .slice none 0 0, .int .i64 0]) 5 64 Tryz.underlying22 hi iz0 iz1 iz2 rfl (by decide) u7 i (ks.flatMap cellsN) rfl (by exact HO4.out.alloc _) ⟨w4.heap.size, 0, none⟩ 1 1 (cellsN (rk, .slice a4 rk.kids.length c4)) rfl rfl (nd_row w4 rk _) (nd_one _ _ _ _) (by decide) (by unfold maxLen; omega) (by omega) (by simp; omega) (w4.heap.size + 1) (by simp) ?_; intro gg cap w5 hown' hgrow hat hltg; have HG := Lib.hid (And.intro hown' (And.intro hgrow (And.intro hat hltg))); clear hown' hgrow hat hltg)
        have HOG : Hid (∀ g, u7.ownBlock = some g → g ≠ gg → g < wr.heap.size) := fun g hg _ => (HOB.out g hg).2
        have HBA : Hid (Below (w.heap.size + 2) wc w5) := by
          have h1 : Below (w.heap.size + 2) wc w4 := HW.out.trans ((HB3.out.mono (by omega)).trans (HB4.out.mono (by have := HZ3.out; omega)))
          have h2 := h1.alloc (by omega) (NB rk (.slice a4 rk.kids.length c4))
          exact h2.grown HG.out.2.1 (by simp; omega) (fun g hg => (HOB.out g hg).1)
        go_roundg n
        case measure => omega
        case rel =>
          refine ⟨i + 1, ks ++ [(rk, .slice a4 rk.kids.length c4)], by omega, by omega, by go_num, ?_, ?_, ?_, ?_, ?_, HBA⟩
          · show _ = _
            rw [List.length_append, HKL.out]; rfl
          · show _ = _
            rw [List.map_append, HKM.out, HTK.out, renL_eq, renL_eq, List.map_append, HRK.out]; rfl
          · intro p hp
            rcases List.mem_append.1 hp with h | h
            · exact HKO.out p h
            · rw [List.mem_singleton.1 h, HRK.out]
              exact ren_ok ht HT5.out
          · show World.ownsRow _ _ _ _ _ _ _
            have h := HG.out.1
            rw [List.flatMap_append]
            simpa using h
          · have hgr := HG.out.2.1
            have hat := HG.out.2.2.1
            have hz5 : w4.heap.size + 1 ≤ w5.heap.size := by have := hgr.size; rw [World.size_alloc] at this; exact this
            have hblk : ∀ j, j < w4.heap.size → u7.ownBlock ≠ some j → w5.heap[j]? = w4.heap[j]? := by
              intro j hj hne
              rw [hgr.block j (by rw [World.size_alloc]; omega) (fun e => hne e.symm), Below.heap_alloc _ _ _ hj]
            have hnew : ∀ j, j < w4.heap.size → u7.ownBlock ≠ some j → (Value.slice (some ⟨gg, 0, none⟩) (i + 1) cap).ownBlock ≠ some j := by
              intro j hj hne e
              have e1 : gg = j := by injection e
              rcases hat with h | h
              · exact hne (by rw [h, e1])
              · omega
            intro p hp
            rcases List.mem_append.1 hp with h | h
            · have hj' : ∀ j, j < wr.heap.size → u7.ownBlock ≠ some j → w5.heap[j]? = wr.heap[j]? := by
                intro j h2 h3
                rw [hblk j (by omega) h3, HB4.out.block j (by have := HZ3.out; omega), HB3.out.block j h2]
              refine LsS.of (HKS.out p h) ?_ ?_
              · rintro j ⟨h1, h2, h3, h4⟩
                exact hj' j h2 h3
              · rintro j ⟨h1, h2, h3, h4⟩
                exact ⟨h1, by omega, hnew j (by omega) h3, h4.of (hj' j h2 h3)⟩
            · rw [List.mem_singleton.1 h]
              have hj' : ∀ j, w3.heap.size ≤ j → j < w4.heap.size → w5.heap[j]? = w4.heap[j]? := fun j h1 h2 => hblk j h2 (fun e => by have := (HOB.out j e).2; have := HZ3.out; omega)
              refine LsS.of HL4.out ?_ ?_
              · rintro j ⟨h1, h2, h4⟩
                exact hj' j h1 h2
              · rintro j ⟨h1, h2, h4⟩
                exact ⟨by have := HZ3.out; omega, by omega, hnew j h2 (fun e => by have := (HOB.out j e).2; have := HZ3.out; omega), h4.of (hj' j h1 h2)⟩
      · have he : i = x.kids.length := by omega
        subst he
        obtain ⟨ya, yc, rfl⟩ := own_sl HOW.out
        have hP5 : wr.heap[w.heap.size]? = some (NB (.mk x.kind tx x.num x.kids x.at_) (.slice va x.kids.length vc)) := (HW.out.block _ (by omega)).trans HP2.out
        have hQ5 : wr.heap[w.heap.size + 1]? = some NZ := (HW.out.block _ (by omega)).trans HQ2.out
        have p0 := blk_cell hP5 0
        have p1 := blk_cell hP5 1
        have p2 := blk_cell hP5 2
        have p3 := blk_cell hP5 3
        have p4 := blk_cell hP5 4
        have pf := blk_free hP5 3
        have HP5 := Lib.hid hP5
        have HQ5 := Lib.hid hQ5
        have hP6 : (wr.setCell ⟨w.heap.size, 3, none⟩ (.slice ya x.kids.length yc)).heap[w.heap.size]? = some (NB (.mk x.kind tx x.num x.kids x.at_) (.slice ya x.kids.length yc)) := blk_set hP5 3 _
        have hQ6 : (wr.setCell ⟨w.heap.size, 3, none⟩ (.slice ya x.kids.length yc)).heap[w.heap.size + 1]? = some NZ := by rw [Below.heap_setCell _ _ _ _ (by show w.heap.size + 1 ≠ w.heap.size; omega)]; exact hQ5
        have hblk : ∀ j, w.heap.size + 2 ≤ j → (wr.setCell ⟨w.heap.size, 3, none⟩ (.slice ya x.kids.length yc)).heap[j]? = wr.heap[j]? := fun j hj => by rw [Below.heap_setCell _ _ _ _ (by show j ≠ w.heap.size; omega)]
        have hbw : Below w.heap.size w (wr.setCell ⟨w.heap.size, 3, none⟩ (.slice ya x.kids.length yc)) := (HB2.out.trans (HW.out.mono (by omega))).setCell (by exact Nat.le_refl _) _
        have hsw : (wr.setCell ⟨w.heap.size, 3, none⟩ (.slice ya x.kids.length yc)).heap.size = wr.heap.size := by simp [World.setCell]
        have HBLK := Lib.hid hblk
        have HBW := Lib.hid hbw
        have HSW := Lib.hid hsw
        have HP6 := Lib.hid hP6
        have HQ6 := Lib.hid hQ6
        clear hP5 hQ5 hblk hbw hsw hP6 hQ6
        go_upto_region 10 with fail
        clear p0 p1 p2 p3 p4 pf
        generalize wr.setCell ⟨w.heap.size, 3, none⟩ (.slice ya x.kids.length yc) = W6 at *
        have p0 := blk_cell HP6.out 0
        have p1 := blk_cell HP6.out 1
        have p2 := blk_cell HP6.out 2
        have p3 := blk_cell HP6.out 3
        have p4 := blk_cell HP6.out 4
        have q0 := blk_cell HQ6.out 0
        have q1 := blk_cell HQ6.out 1
        have q2 := blk_cell HQ6.out 2
        have q3 := blk_cell HQ6.out 3
        have q4 := blk_cell HQ6.out 4
        have g0 := blk_free HQ6.out 0
        have g1 := blk_free HQ6.out 1
        have g2 := blk_free HQ6.out 2
        have g3 := blk_free HQ6.out 3
        have g4 := blk_free HQ6.out 4
        go_wp2
        have hF : (((((W6.setCell ⟨w.heap.size + 1, 0, none⟩ (.int .i64 x.kind)).setCell ⟨w.heap.size + 1, 1, none⟩ (.string tx)).setCell ⟨w.heap.size + 1, 2, none⟩ (.int .i64 x.num)).setCell ⟨w.heap.size + 1, 3, none⟩ (.slice ya x.kids.length yc)).setCell ⟨w.heap.size + 1, 4, none⟩ (.int .i64 x.at_)).heap[w.heap.size + 1]? =
            some (.cells #[.int .i64 x.kind, .string tx, .int .i64 x.num, .slice ya x.kids.length yc, .int .i64 x.at_] 24 (0, 0)) :=
          blk_set (blk_set (blk_set (blk_set (blk_set HQ6.out 0 (.int .i64 x.kind)) 1 (.string tx)) 2 (.int .i64 x.num)) 3 (.slice ya x.kids.length yc)) 4 (.int .i64 x.at_)
        have e : ren f t x = .mk x.kind tx x.num (renL f t x.kids) x.at_ := by rw [ren_eq, HTX.out, HC.out]
        refine bodyPost_ret (v := .agg #[.int .i64 x.kind, .string tx, .int .i64 x.num, .slice ya x.kids.length yc, .int .i64 x.at_]) (results30_run _ _ (w.heap.size + 1) _ _ _ _ _ rfl hF) rfl ⟨.slice ya x.kids.length yc, by rw [e]; rfl, ?_, ?_⟩
        · have h1 : LsS wr (fun k => w.heap.size + 2 ≤ k ∧ k < wr.heap.size ∧ Free wr k) (.slice ya x.kids.length yc) (ks.map (·.1)) := by
            refine row_ls (base := w.heap.size + 2) (by rw [HKL.out]; exact HOW.out) HKO.out (fun p hp => LsS.of (HKS.out p hp) (fun _ _ => rfl) (fun k hk => ⟨hk.1, hk.2.1, hk.2.2.2⟩)) (fun g hg => ⟨(HOB.out g hg).1, (HOB.out g hg).2, own_free HOW.out hg⟩)
          rw [HKM.out, List.take_length] at h1
          rw [e]
          refine LsS.of h1 ?_ ?_
          · rintro j ⟨hj1, hj2, hj3⟩
            rw [Below.heap_setCell _ _ _ _ (by show j ≠ w.heap.size + 1; omega), Below.heap_setCell _ _ _ _ (by show j ≠ w.heap.size + 1; omega), Below.heap_setCell _ _ _ _ (by show j ≠ w.heap.size + 1; omega), Below.heap_setCell _ _ _ _ (by show j ≠ w.heap.size + 1; omega), Below.heap_setCell _ _ _ _ (by show j ≠ w.heap.size + 1; omega)]
            exact HBLK.out j hj1
          · rintro j ⟨hj1, hj2, hj3⟩
            refine ⟨by omega, ?_, hj3.of ?_⟩
            · have := HSW.out
              simp [World.setCell]
              omega
            · rw [Below.heap_setCell _ _ _ _ (by show j ≠ w.heap.size + 1; omega), Below.heap_setCell _ _ _ _ (by show j ≠ w.heap.size + 1; omega), Below.heap_setCell _ _ _ _ (by show j ≠ w.heap.size + 1; omega), Below.heap_setCell _ _ _ _ (by show j ≠ w.heap.size + 1; omega), Below.heap_setCell _ _ _ _ (by show j ≠ w.heap.size + 1; omega)]
              exact HBLK.out j hj1
        · have h0 : w.heap.size ≤ w.heap.size + 1 := Nat.le_succ _
          exact ((((HBW.out.setCell (by exact h0) _).setCell (by exact h0) _).setCell (by exact h0) _).setCell (by exact h0) _).setCell (by exact h0) _
end Go.Proofs.YthcoigdmammamaaGreatDoor
