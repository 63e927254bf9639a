/- Locals: its answer and count hang on the data alone. -/
import Derived.Test.YtlipfgdjbimfjaaGreatDoorG6
namespace Go.Proofs.YtlipfgdjbimfjaaGreatDoor
open Go.RowKit Go.Shelf Go.Sort
set_option maxRecDepth 100000

variable {H : Type} {enc : TypeId × Value → H}
set_option maxHeartbeats 4000000 in
/-- The walk of Locals' closure. -/
theorem xlwalk (W0 : World) (pl : Nat) (hp : W0.heap.size ≤ pl) (x : Int) (nm : ByteArray) (fl ak ay : Int) (an : ByteArray) (au : Int) (aa : Option Addr) (an2 ac : Nat)
    (b : Bool) (x' : Int) (b1 : Bool) (hcase : (100 < (nm.size : Int) ∧ b = true ∧ x' = x) ∨
      (¬ 100 < (nm.size : Int) ∧ b = !b1 ∧ ∀ (w : World) (v : Value), LD w pl v 1 (fun _ => ⟨ak, ay, an, au, .slice aa an2 ac⟩) → Below W0.heap.size W0 w → Lf w pl x → Calls Tryz.prog 30 #[v, .int .i64 1, .pointer (some ⟨pl, 0, none⟩)] w (TX b1 x' pl w)))
    (w : World) (bl : Nat) (hb : Below W0.heap.size W0 w) (hx : Lf w pl x) (hbl : w.heap[bl]? = some (.cells #[.pointer (some ⟨pl, 0, none⟩)] 66 (0, 0))) (hne : bl ≠ pl) :
    Calls Tryz.prog 66 #[.agg #[.string nm, .int .i64 fl, .int .i64 ak, .int .i64 ay, .string an, .int .i64 au, .slice aa an2 ac], .pointer (some ⟨bl, 0, none⟩)] w (TX b x' pl w) := by
  obtain ⟨W1, hW1⟩ : ∃ W1, w.alloc (.cells #[.string nm, .int .i64 fl, .int .i64 ak, .int .i64 ay, .string an, .int .i64 au, .slice aa an2 ac] 126) = W1 := ⟨_, rfl⟩
  have hg1 : w.grownBy W1 (some pl) := by rw [← hW1]; exact grown_alloc _
  have hplt : pl < w.heap.size := (Array.getElem?_eq_some_iff.1 hx).1
  have hx1 : Lf W1 pl x := by rw [← hW1]; show (w.alloc _).heap[pl]? = _; rw [Below.heap_alloc _ _ _ hplt]; exact hx
  have hbl1 : W1.heap[bl]? = some (.cells #[.pointer (some ⟨pl, 0, none⟩)] 66 (0, 0)) := (hg1.block bl (Array.getElem?_eq_some_iff.1 hbl).1 (fun e => hne (by injection e))).trans hbl
  have hbx1 : W1.heap[w.heap.size]? = some (.cells #[.string nm, .int .i64 fl, .int .i64 ak, .int .i64 ay, .string an, .int .i64 au, .slice aa an2 ac] 126 (0, 0)) := by rw [← hW1]; exact heap_alloc_new w _
  have hb1 : Below W0.heap.size W0 W1 := hb.grown hg1 hb.size (fun k hk => by injection hk; omega)
  have s0 := blk_cell hbl1 0
  have s1 := blk_cell hbx1 0
  have s2 := blk_cell hbx1 2
  have s3 := blk_cell hbx1 3
  have s4 := blk_cell hbx1 4
  have s5 := blk_cell hbx1 5
  have s6 := blk_cell hbx1 6
  obtain ⟨WA, hWA⟩ : ∃ WA, (W1.alloc (.cells #[.int .i64 ak, .int .i64 ay, .string an, .int .i64 au, .slice aa an2 ac] 58)) = WA := ⟨_, rfl⟩
  have hgA : W1.grownBy WA (some pl) := by rw [← hWA]; exact grown_alloc _
  have hz1 := hg1.size
  have hldA : LD WA pl (.slice (some ⟨W1.heap.size, 0, none⟩) 1 1) 1 (fun _ => ⟨ak, ay, an, au, .slice aa an2 ac⟩) := ld_one (by rw [← hWA]; exact heap_alloc_new W1 _) (by omega)
  have hxA : Lf WA pl x := by rw [← hWA]; show (W1.alloc _).heap[pl]? = _; rw [Below.heap_alloc _ _ _ (by omega)]; exact hx1
  have hbA : Below W0.heap.size W0 WA := hb1.grown hgA hb1.size (fun k hk => by injection hk; omega)
  have hR : w.heap.size ≠ pl := by omega
  have hS1 : W1.cell? ⟨bl, 0, none⟩ = some (.pointer (some ⟨pl, 0, none⟩)) ∧ W1.cell? ⟨w.heap.size, 0, none⟩ = some (.string nm) ∧ W1.cell? ⟨w.heap.size, 2, none⟩ = some (.int .i64 ak) ∧ W1.cell? ⟨w.heap.size, 3, none⟩ = some (.int .i64 ay) ∧ W1.cell? ⟨w.heap.size, 4, none⟩ = some (.string an) ∧ W1.cell? ⟨w.heap.size, 5, none⟩ = some (.int .i64 au) ∧ W1.cell? ⟨w.heap.size, 6, none⟩ = some (.slice aa an2 ac) := ⟨s0, s1, s2, s3, s4, s5, s6⟩
  have keep : ∀ w2 : World, W1.grownBy w2 (some pl) → w2.cell? ⟨bl, 0, none⟩ = some (.pointer (some ⟨pl, 0, none⟩)) ∧ w2.cell? ⟨w.heap.size, 0, none⟩ = some (.string nm) ∧ w2.cell? ⟨w.heap.size, 2, none⟩ = some (.int .i64 ak) ∧ w2.cell? ⟨w.heap.size, 3, none⟩ = some (.int .i64 ay) ∧ w2.cell? ⟨w.heap.size, 4, none⟩ = some (.string an) ∧ w2.cell? ⟨w.heap.size, 5, none⟩ = some (.int .i64 au) ∧ w2.cell? ⟨w.heap.size, 6, none⟩ = some (.slice aa an2 ac) := fun w2 hg => by
    have kl : w2.heap[bl]? = W1.heap[bl]? := hg.block bl (Array.getElem?_eq_some_iff.1 hbl1).1 (fun e => hne (by injection e))
    have kr : w2.heap[w.heap.size]? = W1.heap[w.heap.size]? := hg.block _ (Array.getElem?_eq_some_iff.1 hbx1).1 (fun e => hR (by injection e))
    exact ⟨(World.cell?_of_block (a := ⟨bl, _, none⟩) kl).trans s0, (World.cell?_of_block (a := ⟨w.heap.size, _, none⟩) kr).trans s1, (World.cell?_of_block (a := ⟨w.heap.size, _, none⟩) kr).trans s2, (World.cell?_of_block (a := ⟨w.heap.size, _, none⟩) kr).trans s3, (World.cell?_of_block (a := ⟨w.heap.size, _, none⟩) kr).trans s4, (World.cell?_of_block (a := ⟨w.heap.size, _, none⟩) kr).trans s5, (World.cell?_of_block (a := ⟨w.heap.size, _, none⟩) kr).trans s6⟩
  have hSA := keep WA hgA
  have HGA := Lib.hid hgA
  rw [← hWA] at hldA hxA hbA hSA
  have hgA' := hgA
  rw [← hWA] at hgA'
  have HLD := Lib.hid hldA
  have HXA := Lib.hid hxA
  have HBA := Lib.hid hbA
  have HSA := Lib.hid hSA
  have HS1 := Lib.hid hS1
  have HG1 := Lib.hid hg1
  have HGA' := Lib.hid hgA'
  have HX1 := Lib.hid hx1
  have HW1 := Lib.hid hW1
  have HK := Lib.hid keep
  have HCASE := Lib.hid hcase
  clear hWA hgA hgA' hldA hxA hbA hSA hg1 hx1 hW1 keep hcase hbl hbl1 hbx1 hb hb1 hx hne hR hz1 hplt hS1 HGA
  go_enter Tryz.func66, Tryz.ntmps66
  go_upto_region 1 with fail
  rw [HW1.out]
  rcases HCASE.out with ⟨hnl, rfl, rfl⟩ | ⟨hnl, rfl, cI⟩
  · have hd3 : decide (100 < (nm.size : Int)) = true := by simpa using hnl
    go_wp2
    go_ret
    exact ⟨rfl, HX1.out, HG1.out⟩
  · have hd3 : decide (100 < (nm.size : Int)) = false := by simpa using hnl
    have HCI := Lib.hid cI
    have z0 := HSA.out.1
    clear cI
    go_wp2_with fail
    refine (HCI.out _ _ HLD.out HBA.out HXA.out).mono ?_
    rintro e w4 ⟨rfl, h4, h7⟩
    have H4 := Lib.hid (And.intro h4 (HG1.out.trans (HGA'.out.trans h7)))
    clear h4 h7
    go_wp2
    go_ret
    exact ⟨rfl, H4.out.1, H4.out.2⟩
/-- The closure of Locals: its answer and count hang on the data alone. -/
theorem xlclo (W0 : World) (pl : Nat) (hp : W0.heap.size ≤ pl) (x : Int) (t : LoD) (ht : t.ok enc W0) (h0 : 0 ≤ x) (h1 : x ≤ 3000) :
    ∃ (b : Bool) (x' : Int), -1 ≤ x' ∧ x' ≤ x ∧ (b = false → 0 ≤ x') ∧ ∀ (w : World) (bl : Nat), Below W0.heap.size W0 w → Lf w pl x → w.heap[bl]? = some (.cells #[.pointer (some ⟨pl, 0, none⟩)] 66 (0, 0)) → bl ≠ pl →
      Calls Tryz.prog 66 #[t.val, .pointer (some ⟨bl, 0, none⟩)] w (TX b x' pl w) := by
  obtain ⟨nm, fl, ⟨ak, ay, an, au, av⟩⟩ := t
  obtain ⟨hsz, hty⟩ := ht
  obtain ⟨aa, an2, ac, ha, -⟩ := hty.args.slice Tryz.underlying33 cells58 (by decide)
  injection ha with ha _
  simp only at ha
  subst ha
  by_cases hnl : 100 < (nm.size : Int)
  · exact ⟨true, x, by omega, Int.le_refl _, (fun h => by cases h), fun w bl => xlwalk W0 pl hp x nm fl ak ay an au aa an2 ac true x true (.inl ⟨hnl, rfl, rfl⟩) w bl⟩
  · obtain ⟨b1, x1, e1, e2, e3, c1⟩ := xtypes (enc := enc) W0 pl hp 70 1 (by omega) (by omega) (by omega) 1 (fun _ => ⟨ak, ay, an, au, .slice aa an2 ac⟩) x (by omega) (fun i _ => hty) h0 h1
    exact ⟨!b1, x1, e1, e2, (fun h => e3 (by cases b1; cases h; rfl)), fun w bl => xlwalk W0 pl hp x nm fl ak ay an au aa an2 ac (!b1) x1 b1 (.inr ⟨hnl, rfl, c1⟩) w bl⟩

set_option maxHeartbeats 4000000 in
/-- IndexFunc over a list of locals. -/
theorem xlindex (W0 : World) (pl bl len : Nat) (x : Int) (d : Nat → LoD) (f : Nat → Int → Bool × Int) (v : Value) (w : World) (hlen : len ≤ 4000000000000) (hv : LL w pl v len d) (hx : Lf w pl x) (h0 : 0 ≤ x) (hok : ∀ i, i < len → (d i).ok enc W0)
    (C : ∀ (i : Nat) (y : Int) (W : World), i < len → 0 ≤ y → y ≤ x → w.grownBy W (some pl) → Lf W pl y → ((f i y).1 = false → 0 ≤ (f i y).2) ∧ (f i y).2 ≤ y ∧
      Calls Tryz.prog 66 #[(d i).val, .pointer (some ⟨bl, 0, none⟩)] W (TX (f i y).1 (f i y).2 pl W)) :
    Calls Tryz.prog 97 #[v, .func (.func 66) #[] #[.pointer (some ⟨bl, 0, none⟩)]] w fun e w' => ∃ r : Int, e = .returned (.int .i64 r) ∧ decide (0 ≤ r) = (scan f len 0 x).1 ∧ Lf w' pl (scan f len 0 x).2 ∧ w.grownBy w' (some pl) := by
  have HV := Lib.hid hv
  have HX := Lib.hid hx
  have HC := Lib.hid C
  have HOK := Lib.hid hok
  obtain ⟨va, vc, rfl, -⟩ := hv
  obtain ⟨S, hS⟩ : ∃ S, S = scan f len 0 x := ⟨_, rfl⟩
  rw [← hS]
  have HS := Lib.hid hS
  clear hx C hS hok
  go_enter Tryz.func97, Tryz.ntmps97
  go_wp2
  go_loopg [8] (len + 1) (fun g y wr => ∃ (k : Nat) (z : Int), k ≤ len ∧ len - k < g ∧ y = .int .i64 k ∧ 0 ≤ z ∧ z ≤ x ∧ Hid (S = scan f (len - k) k z) ∧ Hid (Lf wr pl z) ∧ Hid (w.grownBy wr (some pl)))
  case atStart => exact ⟨0, x, by omega, by omega, rfl, h0, Int.le_refl _, HS, HX, Lib.hid ⟨rfl, rfl, rfl, Nat.le_refl _, fun _ _ _ => rfl⟩⟩
  case round =>
    obtain ⟨k, z, hk, hgk, rfl, hz0, hz1, HSk, HL, HG⟩ := hrel
    obtain ⟨m, rfl⟩ : ∃ m, gk = m + 1 := ⟨gk - 1, by omega⟩
    by_cases hlt : k < len
    · have hsub : len - k = (len - (k + 1)) + 1 := by omega
      obtain ⟨a', cap', he, hr⟩ := HV.out.grown HG.out
      injection he with e1 e2 e3
      subst e1 e3
      obtain ⟨b, off, rfl, hbp, hbs, hel⟩ := hr (by omega)
      obtain ⟨ua, un, uc, hu, -⟩ := (HOK.out k hlt).ty.args.slice Tryz.underlying33 cells58 (by decide)
      injection hu with hu _
      have e0 : wr.cell? ⟨b, off + k * 7, none⟩ = some (.string (d k).nm) := hel k hlt 0 (by decide)
      have e1 : wr.cell? ⟨b, off + k * 7 + 1, none⟩ = some (.int .i64 (d k).fl) := hel k hlt 1 (by decide)
      have e2' : wr.cell? ⟨b, off + k * 7 + 2, none⟩ = some (.int .i64 (d k).t.kd) := hel k hlt 2 (by decide)
      have e3 : wr.cell? ⟨b, off + k * 7 + 3, none⟩ = some (.int .i64 (d k).t.sy) := hel k hlt 3 (by decide)
      have e4 : wr.cell? ⟨b, off + k * 7 + 4, none⟩ = some (.string (d k).t.nm) := hel k hlt 4 (by decide)
      have e5 : wr.cell? ⟨b, off + k * 7 + 5, none⟩ = some (.int .i64 (d k).t.nu) := hel k hlt 5 (by decide)
      have e6 : wr.cell? ⟨b, off + k * 7 + 6, none⟩ = some (d k).t.u := hel k hlt 6 (by decide)
      rw [hu] at e6
      obtain ⟨hc1, hc2, cc⟩ := HC.out k z wr hlt hz0 hz1 HG.out HL.out
      unfold LoD.val at cc
      rw [hu] at cc
      obtain ⟨fb, hfb⟩ : ∃ fb, fb = (f k z).1 := ⟨_, rfl⟩
      obtain ⟨fx, hfx⟩ : ∃ fx, fx = (f k z).2 := ⟨_, rfl⟩
      rw [← hfb, ← hfx] at cc
      rw [← hfb, ← hfx] at hc1
      rw [← hfx] at hc2
      have HST : Hid (S = if fb = true then (true, fx) else scan f (len - (k + 1)) (k + 1) fx) := Lib.hid (by
        rw [HSk.out, hsub, scan, ← hfb, ← hfx])
      clear hsub
      have HC1 := Lib.hid hc1
      clear hr hel hfb hfx hc1 hu
      go_wp2_with fail
      refine cc.mono ?_
      rintro e w3 ⟨rfl, h3, h7⟩
      have H3 := Lib.hid (And.intro h3 h7)
      clear h3 h7 cc e0 e1 e2' e3 e4 e5 e6
      cases fb with
      | true =>
        go_wp2
        go_ret
        refine ⟨(k : Int), rfl, ?_, ?_, HG.out.trans H3.out.2⟩
        · rw [HST.out]; simp
        · rw [HST.out]; exact H3.out.1
      | false =>
        go_wp2
        go_roundg m
        case measure => omega
        case rel => exact ⟨k + 1, fx, by omega, by omega, by go_num, HC1.out (by trivial), by omega, Lib.hid (by rw [HST.out]; simp), Lib.hid H3.out.1, Lib.hid (HG.out.trans H3.out.2)⟩
    · have hke : len - k = 0 := by omega
      go_wp2
      go_ret
      have h := HSk.out
      rw [hke, scan] at h
      rw [h]
      exact ⟨-1, rfl, rfl, HL.out, HG.out⟩

end Go.Proofs.YtlipfgdjbimfjaaGreatDoor
