/- Types and its closure: they end, count down, and leave the rest as it was. -/
import Derived.Test.YtlipfgdjbimfjaaGreatDoorF1
namespace Go.Proofs.YtlipfgdjbimfjaaGreatDoor
open Go.RowKit Go.Shelf Go.Sort
set_option maxRecDepth 100000

variable {H : Type} {enc : TypeId × Value → H}
theorem blk_cell {w : World} {b : Nat} {xs : Array Value} {t : TypeId} (h : w.heap[b]? = some (.cells xs t (0, 0))) (i : Nat) : w.cell? ⟨b, i, none⟩ = xs[i]? := by simp [World.cell?, h]
theorem blk_free {w : World} {b : Nat} {xs : Array Value} {t : TypeId} (h : w.heap[b]? = some (.cells xs t (0, 0))) (i : Nat) : w.frozen? ⟨b, i, none⟩ = false := by simp [World.frozen?, h]
theorem blk_set {w : World} {b : Nat} {xs : Array Value} {t : TypeId} (h : w.heap[b]? = some (.cells xs t (0, 0))) (i : Nat) (v : Value) : (w.setCell ⟨b, i, none⟩ v).heap[b]? = some (.cells (xs.setIfInBounds i v) t (0, 0)) := by
  have hlt := (Array.getElem?_eq_some_iff.1 h).1
  have h' : w.heap[b] = .cells xs t (0, 0) := by simpa [Array.getElem?_eq_getElem hlt] using h
  show (w.heap.modify b _)[b]? = _
  rw [Array.getElem?_eq_getElem (by simpa using hlt), Array.getElem_modify_self, h']
  rfl
theorem grown_set {w : World} {pl : Nat} (u : Value) : w.grownBy (w.setCell ⟨pl, 0, none⟩ u) (some pl) :=
  ⟨rfl, rfl, rfl, by simp, fun k _ hne => Below.heap_setCell _ _ _ _ (fun e => hne (by rw [e]))⟩

set_option maxHeartbeats 4000000 in
theorem tclo (W0 w : World) (pl bl bd : Nat) (x deep : Int) (kd sy : Int) (nm : ByteArray) (nu : Int) (v : Value) (ht : Ty5 enc W0 [.int .i64 kd, .int .i64 sy, .string nm, .int .i64 nu, v] kd sy nm nu v)
    (hb : Below W0.heap.size W0 w) (hp : W0.heap.size ≤ pl) (hx : Lf w pl x) (h0 : 0 ≤ x) (h1 : x ≤ 3000) (hbl : w.heap[bl]? = some (.cells #[.pointer (some ⟨pl, 0, none⟩)] 66 (0, 0))) (hbd : w.heap[bd]? = some (.cells #[.int .i64 deep] 3 (0, 0))) (hne : bl ≠ pl) (hne2 : bd ≠ pl) (hd : deep ≤ 71) (hd0 : 0 ≤ deep)
    (IH : ∀ (v : Value) (x : Int) (w : World), LV enc W0 w pl v → Below W0.heap.size W0 w → Lf w pl x → 0 ≤ x → x ≤ 3000 → Calls Tryz.prog 30 #[v, .int .i64 (deep + 1), .pointer (some ⟨pl, 0, none⟩)] w (TP true pl x w)) :
    Calls Tryz.prog 62 #[.agg #[.int .i64 kd, .int .i64 sy, .string nm, .int .i64 nu, v], .pointer (some ⟨bl, 0, none⟩), .pointer (some ⟨bd, 0, none⟩)] w (TP false pl x w) := by
  have HT := Lib.hid ht
  obtain ⟨va, vn, vc, hv, -⟩ := ht.args.slice Tryz.underlying33 cells58 (by decide)
  injection hv with hv _
  subst hv
  obtain ⟨W1, hW1⟩ : ∃ W1, w.alloc (.cells #[.int .i64 kd, .int .i64 sy, .string nm, .int .i64 nu, .slice va vn vc] 58) = W1 := ⟨_, rfl⟩
  have hg1 : w.grownBy W1 (some pl) := by rw [← hW1]; exact grown_alloc _
  have hplt : pl < w.heap.size := (Array.getElem?_eq_some_iff.1 hx).1
  have hx1 : Lf W1 pl x := by rw [← hW1]; show (w.alloc _).heap[pl]? = _; rw [Below.heap_alloc _ _ _ hplt]; exact hx
  have hbl1 : W1.heap[bl]? = some (.cells #[.pointer (some ⟨pl, 0, none⟩)] 66 (0, 0)) := (hg1.block bl (Array.getElem?_eq_some_iff.1 hbl).1 (fun e => hne (by injection e))).trans hbl
  have hbx1 : W1.heap[w.heap.size]? = some (.cells #[.int .i64 kd, .int .i64 sy, .string nm, .int .i64 nu, .slice va vn vc] 58 (0, 0)) := by rw [← hW1]; exact heap_alloc_new w _
  have c1 := blk_cell hbl1 0
  have x1 := blk_cell hx1 0
  have y1 := blk_free hx1 0
  have hxm : IntKind.i64.wrap (x - 1) = x - 1 := IntWalk.i64_in _ (by omega)
  obtain ⟨W2, hW2⟩ : ∃ W2, W1.setCell ⟨pl, 0, none⟩ (.int .i64 (x - 1)) = W2 := ⟨_, rfl⟩
  have hg2 : w.grownBy W2 (some pl) := hg1.trans (by rw [← hW2]; exact grown_set _)
  have hx2 : Lf W2 pl (x - 1) := by rw [← hW2]; exact blk_set hx1 0 _
  have hbl2 := (hg2.block bl (Array.getElem?_eq_some_iff.1 hbl).1 (fun e => hne (by injection e))).trans hbl
  have hbd2 := (hg2.block bd (Array.getElem?_eq_some_iff.1 hbd).1 (fun e => hne2 (by injection e))).trans hbd
  have hbx2 : W2.heap[w.heap.size]? = some (.cells #[.int .i64 kd, .int .i64 sy, .string nm, .int .i64 nu, .slice va vn vc] 58 (0, 0)) := by
    rw [← hW2, Below.heap_setCell _ _ _ _ (by intro e; have e2 : w.heap.size = pl := e; omega)]; exact hbx1
  have c2 := blk_cell hbl2 0
  have x2 := blk_cell hx2 0
  have d2 := blk_cell hbd2 0
  have t2 := blk_cell hbx2 2
  have t4 := blk_cell hbx2 4
  have hlv : LV enc W0 W2 pl (.slice va vn vc) := lv_old HT.out.args (hb.grown hg2 (by omega) (fun k hk => by injection hk; omega)) hp
  have cI := fun (hx0 : 0 ≤ x - 1) => IH _ (x - 1) W2 hlv (hb.grown hg2 (by omega) (fun k hk => by injection hk; omega)) hx2 hx0 (by omega)
  have hz := HT.out.sz
  have HW1 := Lib.hid hW1
  have HW2 := Lib.hid hW2
  have HG2 := Lib.hid hg2
  have HX2 := Lib.hid hx2
  have hd1 : IntKind.i64.wrap (deep + 1) = deep + 1 := IntWalk.i64_in _ (by omega)
  clear hW1 hg1 hx1 hbl1 hbx1 hW2 hg2 hx2 hbl2 hbd2 hbx2 hlv IH hbl hbd hx hb hne hne2
  go_enter Tryz.func62, Tryz.ntmps62
  go_upto_region 1 with fail
  rw [HW1.out]
  go_upto_region 2 with fail
  rw [HW2.out]
  clear c1 x1 y1 hxm
  by_cases hneg : x - 1 < 0
  · have hd2 : decide (x - 1 < 0) = true := by simpa using hneg
    clear cI
    go_wp2
    go_ret
    exact ⟨true, x - 1, rfl, HX2.out, by omega, by omega, (fun h => by cases h), HG2.out⟩
  · have hd2 : decide (x - 1 < 0) = false := by simpa using hneg
    have cI2 := cI (by omega)
    clear cI
    by_cases hnl : 100 < (nm.size : Int)
    · have hd3 : decide (100 < (nm.size : Int)) = true := by simpa using hnl
      clear cI2
      go_wp2
      go_ret
      exact ⟨true, x - 1, rfl, HX2.out, by omega, by omega, (fun h => by cases h), HG2.out⟩
    · have hd3 : decide (100 < (nm.size : Int)) = false := by simpa using hnl
      go_wp2_with fail
      refine cI2.mono ?_
      rintro e w3 ⟨b, x', rfl, h3, h4, h5, h6, h7⟩
      have H3 := Lib.hid (And.intro h3 (And.intro h4 (And.intro h5 (And.intro h6 h7))))
      clear h3 h4 h5 h6 h7 cI2 c2 x2 d2 t2 t4
      cases b with
      | true =>
        go_wp2
        go_ret
        obtain ⟨h3, h4, h5, h6, h7⟩ := H3.out
        exact ⟨false, x', rfl, h3, h4, by omega, (fun _ => h6 (by trivial)), HG2.out.trans h7⟩
      | false =>
        go_wp2
        go_ret
        obtain ⟨h3, h4, h5, h6, h7⟩ := H3.out
        exact ⟨true, x', rfl, h3, h4, by omega, (fun h => by cases h), HG2.out.trans h7⟩

set_option maxHeartbeats 4000000 in
/-- IndexFunc over a list of types, by a closure that counts down. -/
theorem tindex (W0 : World) (pl bl bd : Nat) (x : Int) (v : Value) (w : World) (hv : LV enc W0 w pl v) (hb : Below W0.heap.size W0 w) (hp : W0.heap.size ≤ pl) (hx : Lf w pl x) (h0 : 0 ≤ x) (h1 : x ≤ 3000)
    (C : ∀ (W : World) (x : Int) (kd sy : Int) (nm : ByteArray) (nu : Int) (u : Value), Ty5 enc W0 [.int .i64 kd, .int .i64 sy, .string nm, .int .i64 nu, u] kd sy nm nu u → w.grownBy W (some pl) → Lf W pl x → 0 ≤ x → x ≤ 3000 →
      Calls Tryz.prog 62 #[.agg #[.int .i64 kd, .int .i64 sy, .string nm, .int .i64 nu, u], .pointer (some ⟨bl, 0, none⟩), .pointer (some ⟨bd, 0, none⟩)] W (TP false pl x W)) :
    Calls Tryz.prog 68 #[v, .func (.func 62) #[] #[.pointer (some ⟨bl, 0, none⟩), .pointer (some ⟨bd, 0, none⟩)]] w fun e w' => ∃ (r : Int) (x' : Int), e = .returned (.int .i64 r) ∧ -1 ≤ r ∧ Lf w' pl x' ∧ -1 ≤ x' ∧ x' ≤ x ∧ (r = -1 → 0 ≤ x') ∧ w.grownBy w' (some pl) := by
  have HV := Lib.hid hv
  have HX := Lib.hid hx
  have HC := Lib.hid C
  obtain ⟨va, vn, vc, rfl, hlen, -⟩ := hv
  clear hb hx C
  go_enter Tryz.func68, Tryz.ntmps68
  go_wp2
  go_loopg [8] (vn + 1) (fun g y wr => ∃ (k : Nat) (z : Int), k ≤ vn ∧ vn - k < g ∧ y = .int .i64 k ∧ 0 ≤ z ∧ z ≤ x ∧ Hid (Lf wr pl z) ∧ Hid (w.grownBy wr (some pl)))
  case atStart => exact ⟨0, x, by omega, by omega, rfl, h0, Int.le_refl _, HX, Lib.hid ⟨rfl, rfl, rfl, Nat.le_refl _, fun _ _ _ => rfl⟩⟩
  case round =>
    obtain ⟨k, z, hk, hgk, rfl, hz0, hz1, HL, HG⟩ := hrel
    obtain ⟨m, rfl⟩ : ∃ m, gk = m + 1 := ⟨gk - 1, by omega⟩
    by_cases hlt : k < vn
    · obtain ⟨a', len', cap', he, -, hr⟩ := HV.out.grown HG.out
      injection he with e1 e2 e3
      subst e1 e2 e3
      obtain ⟨b, off, rfl, hbp, hbs, hel⟩ := hr (by omega)
      obtain ⟨kd, sy, nm, nu, u, t, e0, e1, e2, e3, e4⟩ := hel k hlt
      obtain ⟨ua, un, uc, hu, -⟩ := t.args.slice Tryz.underlying33 cells58 (by decide)
      injection hu with hu _
      subst hu
      have cc := HC.out wr z kd sy nm nu _ t HG.out HL.out hz0 (by omega)
      clear t hr hel
      go_wp2_with fail
      refine cc.mono ?_
      rintro e w3 ⟨b', x', rfl, h3, h4, h5, h6, h7⟩
      have H3 := Lib.hid (And.intro h3 (And.intro h4 (And.intro h5 (And.intro h6 h7))))
      clear h3 h4 h5 h6 h7 cc e0 e1 e2 e3 e4
      cases b' with
      | true =>
        go_wp2
        go_ret
        obtain ⟨h3, h4, h5, h6, h7⟩ := H3.out
        exact ⟨(k : Int), x', rfl, by omega, h3, h4, by omega, (fun h => by omega), HG.out.trans h7⟩
      | false =>
        go_wp2
        go_roundg m
        case measure => omega
        case rel =>
          obtain ⟨h3, h4, h5, h6, h7⟩ := H3.out
          exact ⟨k + 1, x', by omega, by omega, by go_num, h6 (by trivial), by omega, Lib.hid h3, Lib.hid (HG.out.trans h7)⟩
    · go_wp2
      go_ret
      exact ⟨-1, z, rfl, by omega, HL.out, by omega, hz1, (fun _ => hz0), HG.out⟩

set_option maxHeartbeats 4000000 in
/-- Types of any list of types. -/
theorem types_any (W0 : World) (pl : Nat) (hp : W0.heap.size ≤ pl) : ∀ (D : Nat) (deep : Int), 1 ≤ deep → deep ≤ 71 → 71 - deep ≤ D → ∀ (v : Value) (x : Int) (w : World), LV enc W0 w pl v → Below W0.heap.size W0 w → Lf w pl x → 0 ≤ x → x ≤ 3000 →
    Calls Tryz.prog 30 #[v, .int .i64 deep, .pointer (some ⟨pl, 0, none⟩)] w (TP true pl x w) := by
  intro D
  induction D with
  | zero =>
    intro deep hd0 hd1 hD v x w hv hb hx h0 h1
    obtain ⟨W, hW⟩ : ∃ W, (w.alloc (.cells #[.int .i64 deep] 3)).alloc (.cells #[.pointer (some ⟨pl, 0, none⟩)] 66) = W := ⟨_, rfl⟩
    have hplt : pl < w.heap.size := (Array.getElem?_eq_some_iff.1 hx).1
    have hx2 : Lf W pl x := by rw [← hW]; show ((w.alloc _).alloc _).heap[pl]? = _; rw [Below.heap_alloc _ _ _ (by simp; omega), Below.heap_alloc _ _ _ hplt]; exact hx
    have hg2 : w.grownBy W (some pl) := by rw [← hW]; exact (grown_alloc _).trans (grown_alloc _)
    obtain rfl : deep = 71 := by omega
    obtain ⟨va, vn, vc, rfl, -⟩ := hv
    have HX := Lib.hid hx2
    have HG := Lib.hid hg2
    have HW := Lib.hid hW
    clear hx hx2 hg2 hW hb
    go_enter Tryz.func30, Tryz.ntmps30
    go_wp2
    go_ret
    rw [HW.out]
    exact ⟨false, x, rfl, HX.out, by omega, Int.le_refl _, (fun h => by cases h), HG.out⟩
  | succ D ih =>
    intro deep hd0 hd1 hD v x w hv hb hx h0 h1
    by_cases h71 : deep = 71
    · exact (ih deep hd0 hd1 (by omega) v x w hv hb hx h0 h1)
    · have hplt : pl < w.heap.size := (Array.getElem?_eq_some_iff.1 hx).1
      obtain ⟨W, hW⟩ : ∃ W, (w.alloc (.cells #[.int .i64 deep] 3)).alloc (.cells #[.pointer (some ⟨pl, 0, none⟩)] 66) = W := ⟨_, rfl⟩
      have hg2 : w.grownBy W (some pl) := by rw [← hW]; exact (grown_alloc _).trans (grown_alloc _)
      have hx2 : Lf W pl x := by rw [← hW]; show ((w.alloc _).alloc _).heap[pl]? = _; rw [Below.heap_alloc _ _ _ (by simp; omega), Below.heap_alloc _ _ _ hplt]; exact hx
      have hbd : W.heap[w.heap.size]? = some (.cells #[.int .i64 deep] 3 (0, 0)) := by rw [← hW, Below.heap_alloc _ _ _ (by simp)]; exact heap_alloc_new w _
      have hbl : W.heap[w.heap.size + 1]? = some (.cells #[.pointer (some ⟨pl, 0, none⟩)] 66 (0, 0)) := by
        rw [← hW]
        have h := heap_alloc_new (w.alloc (.cells #[.int .i64 deep] 3)) (.cells #[.pointer (some ⟨pl, 0, none⟩)] 66)
        rw [World.size_alloc] at h; exact h
      have hbW : Below W0.heap.size W0 W := hb.grown hg2 hb.size (fun k hk => by injection hk; omega)
      have cI := tindex W0 pl (w.heap.size + 1) w.heap.size x v W (hv.grown hg2) hbW hp hx2 h0 h1 (fun V z kd sy nm nu u t hg hz hz0 hz1 =>
        tclo W0 V pl (w.heap.size + 1) w.heap.size z deep kd sy nm nu u t (hbW.grown hg hbW.size (fun k hk => by injection hk; omega)) hp hz hz0 hz1
          ((hg.block _ (Array.getElem?_eq_some_iff.1 hbl).1 (fun e => by injection e; omega)).trans hbl) ((hg.block _ (Array.getElem?_eq_some_iff.1 hbd).1 (fun e => by injection e; omega)).trans hbd) (by omega) (by omega) (by omega) (by omega)
          (fun v' x' w' h1' h2' h3' h4' h5' => ih (deep + 1) (by omega) (by omega) (by omega) v' x' w' h1' h2' h3' h4' h5'))
      have c4 := blk_cell hbd 0
      have HG := Lib.hid hg2
      have HW := Lib.hid hW
      have hd70 : decide (deep ≤ 70) = true := by simp; omega
      have c41 : Calls Tryz.prog 41 #[v, .func (.func 62) #[] #[.pointer (some ⟨w.heap.size + 1, 0, none⟩), .pointer (some ⟨w.heap.size, 0, none⟩)]] W (TP false pl x W) := by
        clear c4 hd70
        obtain ⟨va, vn, vc, rfl, -⟩ := hv
        clear hg2 hW hx2 hbd hbl hbW hb hx ih
        go_enter Tryz.func41, Tryz.ntmps41
        go_wp2_with fail
        refine cI.mono ?_
        rintro e w3 ⟨r, x', rfl, hr, h3, h4, h5, h6, h7⟩
        have H3 := Lib.hid (And.intro h3 (And.intro h4 (And.intro h5 (And.intro h6 h7))))
        clear h3 h4 h5 h6 h7 cI
        by_cases hr0 : 0 ≤ r
        · have hd : decide (0 ≤ r) = true := by simpa using hr0
          go_wp2
          go_ret
          obtain ⟨h3, h4, h5, h6, h7⟩ := H3.out
          exact ⟨true, x', rfl, h3, h4, h5, (fun h => by cases h), h7⟩
        · have hd : decide (0 ≤ r) = false := by simpa using hr0
          go_wp2
          go_ret
          obtain ⟨h3, h4, h5, h6, h7⟩ := H3.out
          exact ⟨false, x', rfl, h3, h4, h5, (fun _ => h6 (by omega)), h7⟩
      obtain ⟨va, vn, vc, rfl, -⟩ := hv
      clear cI hg2 hW hx2 hbd hbl hbW hb hx ih h71
      go_enter Tryz.func30, Tryz.ntmps30
      go_upto_region 1 with fail
      rw [HW.out]
      go_wp2_with fail
      refine c41.mono ?_
      rintro e w3 ⟨b, x', rfl, h3, h4, h5, h6, h7⟩
      have H3 := Lib.hid (And.intro h3 (And.intro h4 (And.intro h5 (And.intro h6 h7))))
      clear h3 h4 h5 h6 h7 c41 c4
      cases b with
      | true =>
        go_wp2
        go_ret
        obtain ⟨h3, h4, h5, h6, h7⟩ := H3.out
        exact ⟨false, x', rfl, h3, h4, h5, (fun h => by cases h), HG.out.trans h7⟩
      | false =>
        go_wp2
        go_ret
        obtain ⟨h3, h4, h5, h6, h7⟩ := H3.out
        exact ⟨true, x', rfl, h3, h4, h5, (fun _ => h6 (by trivial)), HG.out.trans h7⟩
end Go.Proofs.YtlipfgdjbimfjaaGreatDoor
