/- Few's closure over type members: its answer and count hang on the data alone. -/
import Derived.Test.YtlipfgdjbimfjaaGreatDoorG9
namespace Go.Proofs.YtlipfgdjbimfjaaGreatDoor
open Go.RowKit Go.Shelf Go.Sort
set_option maxRecDepth 100000

variable {H : Type} {enc : TypeId × Value → H}
abbrev MeD.val (t : MeD) : Value := .agg #[.string t.nm, .int .i64 t.ow, .int .i64 t.ar, .int .i64 t.lo.kd, .int .i64 t.lo.sy, .string t.lo.nm, .int .i64 t.lo.nu, t.lo.u, .int .i64 t.hi.kd, .int .i64 t.hi.sy, .string t.hi.nm, .int .i64 t.hi.nu, t.hi.u]
set_option maxHeartbeats 4000000 in
/-- The walk of the closure. -/
theorem xmwalk (W0 : World) (pl : Nat) (hp : W0.heap.size ≤ pl) (x : Int) (nm : ByteArray) (ow ar ak ay : Int) (an : ByteArray) (au : Int) (aa : Option Addr) (an2 ac : Nat) (bk by_ : Int) (bn : ByteArray) (bu : Int) (ba : Option Addr) (bn2 bc : Nat)
    (b : Bool) (x' : Int) (b1 : Bool) (hcase : (100 < (nm.size : Int) ∧ b = true ∧ x' = x) ∨
      (¬ 100 < (nm.size : Int) ∧ b = !b1 ∧ ∀ (w : World) (v : Value), LD w pl v 2 (cons1 ⟨ak, ay, an, au, .slice aa an2 ac⟩ (fun _ => ⟨bk, by_, bn, bu, .slice ba bn2 bc⟩)) → Below W0.heap.size W0 w → Lf w pl x → Calls Tryz.prog 30 #[v, .int .i64 1, .pointer (some ⟨pl, 0, none⟩)] w (TX b1 x' pl w)))
    (w : World) (hb : Below W0.heap.size W0 w) (hx : Lf w pl x) :
    Calls Tryz.prog 34 #[.agg #[.string nm, .int .i64 ow, .int .i64 ar, .int .i64 ak, .int .i64 ay, .string an, .int .i64 au, .slice aa an2 ac, .int .i64 bk, .int .i64 by_, .string bn, .int .i64 bu, .slice ba bn2 bc], .pointer (some ⟨pl, 0, none⟩)] w (TX b x' pl w) := by
  obtain ⟨W1, hW1⟩ : ∃ W1, w.alloc (.cells #[.string nm, .int .i64 ow, .int .i64 ar, .int .i64 ak, .int .i64 ay, .string an, .int .i64 au, .slice aa an2 ac, .int .i64 bk, .int .i64 by_, .string bn, .int .i64 bu, .slice ba bn2 bc] 77) = W1 := ⟨_, rfl⟩
  have hg1 : w.grownBy W1 (some pl) := by rw [← hW1]; exact grown_alloc _
  have hplt : pl < w.heap.size := (Array.getElem?_eq_some_iff.1 hx).1
  have hx1 : Lf W1 pl x := by rw [← hW1]; show (w.alloc _).heap[pl]? = _; rw [Below.heap_alloc _ _ _ hplt]; exact hx
  have hbx1 : W1.heap[w.heap.size]? = some (.cells #[.string nm, .int .i64 ow, .int .i64 ar, .int .i64 ak, .int .i64 ay, .string an, .int .i64 au, .slice aa an2 ac, .int .i64 bk, .int .i64 by_, .string bn, .int .i64 bu, .slice ba bn2 bc] 77 (0, 0)) := by rw [← hW1]; exact heap_alloc_new w _
  have hb1 : Below W0.heap.size W0 W1 := hb.grown hg1 hb.size (fun k hk => by injection hk; omega)
  have s0 := blk_cell hbx1 0
  have s3 := blk_cell hbx1 3
  have s4 := blk_cell hbx1 4
  have s5 := blk_cell hbx1 5
  have s6 := blk_cell hbx1 6
  have s7 := blk_cell hbx1 7
  have s8 := blk_cell hbx1 8
  have s9 := blk_cell hbx1 9
  have s10 := blk_cell hbx1 10
  have s11 := blk_cell hbx1 11
  have s12 := blk_cell hbx1 12
  obtain ⟨WA, hWA⟩ : ∃ WA, (W1.alloc (.cells #[.int .i64 ak, .int .i64 ay, .string an, .int .i64 au, .slice aa an2 ac, .int .i64 bk, .int .i64 by_, .string bn, .int .i64 bu, .slice ba bn2 bc] 58)) = WA := ⟨_, rfl⟩
  have hgA : W1.grownBy WA (some pl) := by rw [← hWA]; exact grown_alloc _
  have hz1 := hg1.size
  have hldA : LD WA pl (.slice (some ⟨W1.heap.size, 0, none⟩) 2 2) 2 (cons1 ⟨ak, ay, an, au, .slice aa an2 ac⟩ (fun _ => ⟨bk, by_, bn, bu, .slice ba bn2 bc⟩)) := ld_two (t := ⟨ak, ay, an, au, .slice aa an2 ac⟩) (s := ⟨bk, by_, bn, bu, .slice ba bn2 bc⟩) (by rw [← hWA]; exact heap_alloc_new W1 _) (by omega)
  have hxA : Lf WA pl x := by rw [← hWA]; show (W1.alloc _).heap[pl]? = _; rw [Below.heap_alloc _ _ _ (by omega)]; exact hx1
  have hbA : Below W0.heap.size W0 WA := hb1.grown hgA hb1.size (fun k hk => by injection hk; omega)
  rw [← hWA] at hldA hxA hbA hgA
  have HLD := Lib.hid hldA
  have HXA := Lib.hid hxA
  have HBA := Lib.hid hbA
  have HG1 := Lib.hid hg1
  have HGA' := Lib.hid hgA
  have HX1 := Lib.hid hx1
  have HW1 := Lib.hid hW1
  have HCASE := Lib.hid hcase
  clear hWA hgA hldA hxA hbA hg1 hx1 hW1 hcase hbx1 hb hb1 hx hz1 hplt
  go_enter Tryz.func34, Tryz.ntmps34
  go_upto_region 1 with fail
  rw [HW1.out]
  rcases HCASE.out with ⟨hnl, rfl, rfl⟩ | ⟨hnl, rfl, cI⟩
  · have hd3 : decide (100 < (nm.size : Int)) = true := by simpa using hnl
    go_wp2
    go_ret
    exact ⟨rfl, HX1.out, HG1.out⟩
  · have hd3 : decide (100 < (nm.size : Int)) = false := by simpa using hnl
    have HCI := Lib.hid cI
    clear cI
    go_wp2_with fail
    refine (HCI.out _ _ HLD.out HBA.out HXA.out).mono ?_
    rintro e w4 ⟨rfl, h4, h7⟩
    have H4 := Lib.hid (And.intro h4 (HG1.out.trans (HGA'.out.trans h7)))
    clear h4 h7
    go_wp2
    go_ret
    exact ⟨rfl, H4.out.1, H4.out.2⟩
/-- The closure: its answer and count hang on the data alone. -/
theorem xmclo (W0 : World) (pl : Nat) (hp : W0.heap.size ≤ pl) (x : Int) (t : MeD) (ht : t.ok enc W0) (h0 : 0 ≤ x) (h1 : x ≤ 3000) :
    ∃ (b : Bool) (x' : Int), -1 ≤ x' ∧ x' ≤ x ∧ (b = false → 0 ≤ x') ∧ ∀ (w : World), Below W0.heap.size W0 w → Lf w pl x →
      Calls Tryz.prog 34 #[t.val, .pointer (some ⟨pl, 0, none⟩)] w (TX b x' pl w) := by
  obtain ⟨nm, ow, ar, ⟨ak, ay, an, au, av⟩, ⟨bk, by_, bn, bu, bv⟩⟩ := t
  obtain ⟨hsz, hlo, hhi⟩ := ht
  obtain ⟨aa, an2, ac, ha, -⟩ := hlo.args.slice Tryz.underlying33 cells58 (by decide)
  obtain ⟨ba, bn2, bc, hb, -⟩ := hhi.args.slice Tryz.underlying33 cells58 (by decide)
  injection ha with ha _
  injection hb with hb _
  simp only at ha hb
  subst ha hb
  by_cases hnl : 100 < (nm.size : Int)
  · exact ⟨true, x, by omega, Int.le_refl _, (fun h => by cases h), fun w => xmwalk W0 pl hp x nm ow ar ak ay an au aa an2 ac bk by_ bn bu ba bn2 bc true x true (.inl ⟨hnl, rfl, rfl⟩) w⟩
  · obtain ⟨b1, x1, e1, e2, e3, c1⟩ := xtypes (enc := enc) W0 pl hp 70 1 (by omega) (by omega) (by omega) 2 (cons1 ⟨ak, ay, an, au, .slice aa an2 ac⟩ (fun _ => ⟨bk, by_, bn, bu, .slice ba bn2 bc⟩)) x (by omega) (fun i _ => by
      cases i with
      | zero => exact hlo
      | succ i => exact hhi) h0 h1
    exact ⟨!b1, x1, e1, e2, (fun h => e3 (by cases b1; cases h; rfl)), fun w => xmwalk W0 pl hp x nm ow ar ak ay an au aa an2 ac bk by_ bn bu ba bn2 bc (!b1) x1 b1 (.inr ⟨hnl, rfl, c1⟩) w⟩

set_option maxHeartbeats 4000000 in
/-- IndexFunc over a list of type members. -/
theorem xmindex (W0 : World) (pl len : Nat) (x : Int) (d : Nat → MeD) (f : Nat → Int → Bool × Int) (v : Value) (w : World) (hlen : len ≤ 4000000000000) (hv : LM w pl v len d) (hx : Lf w pl x) (h0 : 0 ≤ x) (hok : ∀ i, i < len → (d i).ok enc W0)
    (C : ∀ (i : Nat) (y : Int) (W : World), i < len → 0 ≤ y → y ≤ x → w.grownBy W (some pl) → Lf W pl y → ((f i y).1 = false → 0 ≤ (f i y).2) ∧ (f i y).2 ≤ y ∧
      Calls Tryz.prog 34 #[(d i).val, .pointer (some ⟨pl, 0, none⟩)] W (TX (f i y).1 (f i y).2 pl W)) :
    Calls Tryz.prog 67 #[v, .func (.func 34) #[] #[.pointer (some ⟨pl, 0, none⟩)]] w fun e w' => ∃ r : Int, e = .returned (.int .i64 r) ∧ decide (0 ≤ r) = (scan f len 0 x).1 ∧ Lf w' pl (scan f len 0 x).2 ∧ w.grownBy w' (some pl) := by
  have HV := Lib.hid hv
  have HX := Lib.hid hx
  have HC := Lib.hid C
  have HOK := Lib.hid hok
  obtain ⟨va, vc, rfl, -⟩ := hv
  obtain ⟨S, hS⟩ : ∃ S, S = scan f len 0 x := ⟨_, rfl⟩
  rw [← hS]
  have HS := Lib.hid hS
  clear hx C hS hok
  go_enter Tryz.func67, Tryz.ntmps67
  go_wp2
  go_loopg [8] (len + 1) (fun g y wr => ∃ (k : Nat) (z : Int), k ≤ len ∧ len - k < g ∧ y = .int .i64 k ∧ 0 ≤ z ∧ z ≤ x ∧ Hid (S = scan f (len - k) k z) ∧ Hid (Lf wr pl z) ∧ Hid (w.grownBy wr (some pl)))
  case atStart => exact ⟨0, x, by omega, by omega, rfl, h0, Int.le_refl _, HS, HX, Lib.hid ⟨rfl, rfl, rfl, Nat.le_refl _, fun _ _ _ => rfl⟩⟩
  case round =>
    obtain ⟨k, z, hk, hgk, rfl, hz0, hz1, HSk, HL, HG⟩ := hrel
    obtain ⟨m, rfl⟩ : ∃ m, gk = m + 1 := ⟨gk - 1, by omega⟩
    by_cases hlt : k < len
    · have hsub : len - k = (len - (k + 1)) + 1 := by omega
      obtain ⟨a', cap', he, hr⟩ := HV.out.grown HG.out
      injection he with e1 e2 e3
      subst e1 e3
      obtain ⟨b, off, rfl, hbp, hbs, hel⟩ := hr (by omega)
      obtain ⟨ua, un, uc, hu, -⟩ := (HOK.out k hlt).lo.args.slice Tryz.underlying33 cells58 (by decide)
      injection hu with hu _
      obtain ⟨va2, vn2, vc2, hv2, -⟩ := (HOK.out k hlt).hi.args.slice Tryz.underlying33 cells58 (by decide)
      injection hv2 with hv2 _
      have q0 : wr.cell? ⟨b, off + k * 13, none⟩ = some (.string (d k).nm) := hel k hlt 0 (by decide)
      have q1 : wr.cell? ⟨b, off + k * 13 + 1, none⟩ = some (.int .i64 (d k).ow) := hel k hlt 1 (by decide)
      have q2 : wr.cell? ⟨b, off + k * 13 + 2, none⟩ = some (.int .i64 (d k).ar) := hel k hlt 2 (by decide)
      have q3 : wr.cell? ⟨b, off + k * 13 + 3, none⟩ = some (.int .i64 (d k).lo.kd) := hel k hlt 3 (by decide)
      have q4 : wr.cell? ⟨b, off + k * 13 + 4, none⟩ = some (.int .i64 (d k).lo.sy) := hel k hlt 4 (by decide)
      have q5 : wr.cell? ⟨b, off + k * 13 + 5, none⟩ = some (.string (d k).lo.nm) := hel k hlt 5 (by decide)
      have q6 : wr.cell? ⟨b, off + k * 13 + 6, none⟩ = some (.int .i64 (d k).lo.nu) := hel k hlt 6 (by decide)
      have q7 : wr.cell? ⟨b, off + k * 13 + 7, none⟩ = some (d k).lo.u := hel k hlt 7 (by decide)
      have q8 : wr.cell? ⟨b, off + k * 13 + 8, none⟩ = some (.int .i64 (d k).hi.kd) := hel k hlt 8 (by decide)
      have q9 : wr.cell? ⟨b, off + k * 13 + 9, none⟩ = some (.int .i64 (d k).hi.sy) := hel k hlt 9 (by decide)
      have q10 : wr.cell? ⟨b, off + k * 13 + 10, none⟩ = some (.string (d k).hi.nm) := hel k hlt 10 (by decide)
      have q11 : wr.cell? ⟨b, off + k * 13 + 11, none⟩ = some (.int .i64 (d k).hi.nu) := hel k hlt 11 (by decide)
      have q12 : wr.cell? ⟨b, off + k * 13 + 12, none⟩ = some (d k).hi.u := hel k hlt 12 (by decide)
      rw [hu] at q7
      rw [hv2] at q12
      obtain ⟨hc1, hc2, cc⟩ := HC.out k z wr hlt hz0 hz1 HG.out HL.out
      unfold MeD.val at cc
      rw [hu, hv2] at cc
      obtain ⟨fb, hfb⟩ : ∃ fb, fb = (f k z).1 := ⟨_, rfl⟩
      obtain ⟨fx, hfx⟩ : ∃ fx, fx = (f k z).2 := ⟨_, rfl⟩
      rw [← hfb, ← hfx] at cc
      rw [← hfb, ← hfx] at hc1
      rw [← hfx] at hc2
      have HST : Hid (S = if fb = true then (true, fx) else scan f (len - (k + 1)) (k + 1) fx) := Lib.hid (by
        rw [HSk.out, hsub, scan, ← hfb, ← hfx])
      clear hsub
      have HC1 := Lib.hid hc1
      clear hr hel hfb hfx hc1 hu hv2
      go_wp2_with fail
      refine cc.mono ?_
      rintro e w3 ⟨rfl, h3, h7⟩
      have H3 := Lib.hid (And.intro h3 h7)
      clear h3 h7 cc q0 q1 q2 q3 q4 q5 q6 q7 q8 q9 q10 q11 q12
      cases fb with
      | true =>
        go_wp2
        go_ret
        refine ⟨(k : Int), rfl, ?_, ?_, HG.out.trans H3.out.2⟩
        · rw [HST.out]; simp
        · rw [HST.out]; exact H3.out.1
      | false =>
        go_wp2
        go_roundg m
        case measure => omega
        case rel => exact ⟨k + 1, fx, by omega, by omega, by go_num, HC1.out (by trivial), by omega, Lib.hid (by rw [HST.out]; simp), Lib.hid H3.out.1, Lib.hid (HG.out.trans H3.out.2)⟩
    · have hke : len - k = 0 := by omega
      go_wp2
      go_ret
      have h := HSk.out
      rw [hke, scan] at h
      rw [h]
      exact ⟨-1, rfl, rfl, HL.out, HG.out⟩

end Go.Proofs.YtlipfgdjbimfjaaGreatDoor
