/- The law SymbolsFinds, walked. -/
import Derived.Test.YtlipfgdjbimfjaaGreatDoorI3
import Derived.Test.YtlipfgdjbimfjaaGreatDoorP26
namespace Go.Proofs.YtlipfgdjbimfjaaGreatDoor
open Go.RowKit Go.Shelf Go.Sort
set_option maxRecDepth 100000

variable {H : Type} {enc : TypeId × Value → H}
/-- What a law that holds leaves. -/
def LawR (w : World) (e : Ending) (w' : World) : Prop := e = .returned (.bool true) ∧ Below w.heap.size w w'
/-- A program's cells in a box. -/
abbrev PX (B : Nat) (ca : Option Addr) (cn cc : Nat) (ma : Option Addr) (mn mc : Nat) (fa : Option Addr) (fn fc : Nat) (ta : Option Addr) (tn tc : Nat) (ya : Option Addr) (yn yc : Nat) (mi : Int) (w : World) : Prop :=
  w.cell? ⟨B, 0, none⟩ = some (.slice ca cn cc) ∧ w.cell? ⟨B, 1, none⟩ = some (.slice ma mn mc) ∧ w.cell? ⟨B, 2, none⟩ = some (.slice fa fn fc) ∧ w.cell? ⟨B, 3, none⟩ = some (.slice ta tn tc) ∧ w.cell? ⟨B, 4, none⟩ = some (.slice ya yn yc) ∧ w.cell? ⟨B, 5, none⟩ = some (.int .i64 mi)
theorem px_of {B : Nat} {ca : Option Addr} {cn cc : Nat} {ma : Option Addr} {mn mc : Nat} {fa : Option Addr} {fn fc : Nat} {ta : Option Addr} {tn tc : Nat} {ya : Option Addr} {yn yc : Nat} {mi : Int} {w : World} (h : w.heap[B]? = some (.cells #[.slice ca cn cc, .slice ma mn mc, .slice fa fn fc, .slice ta tn tc, .slice ya yn yc, .int .i64 mi] 28 (0, 0))) :
    PX B ca cn cc ma mn mc fa fn fc ta tn tc ya yn yc mi w := ⟨blk_cell h 0, blk_cell h 1, blk_cell h 2, blk_cell h 3, blk_cell h 4, blk_cell h 5⟩
/-- Few, told weakly. -/
theorem few_weak (W0 : World) (cv mv fv tv yv : Value) (mi : Int) (hc : Rv enc Tryz.prog W0 22 [cv]) (hm : Rv enc Tryz.prog W0 23 [mv]) (hf : Rv enc Tryz.prog W0 24 [fv]) (ht : Rv enc Tryz.prog W0 25 [tv]) (hy : Rv enc Tryz.prog W0 26 [yv]) :
    ∀ w, Below W0.heap.size W0 w → Calls Tryz.prog 9 #[.agg #[cv, mv, fv, tv, yv, .int .i64 mi]] w fun e w' => ∃ b, e = .returned (.bool b) ∧ Below w.heap.size w w' := fun w hb => by
  obtain ⟨_, _, _, _, _, _, _, _, _, _, c⟩ := few_any W0 w cv mv fv tv yv mi hc hm hf ht hy hb
  exact c.mono fun e w' ⟨b, h1, h2, _⟩ => ⟨b, h1, h2⟩

set_option maxHeartbeats 4000000 in
theorem finds_any (W0 : World) (ca : Option Addr) (cn cc : Nat) (ma : Option Addr) (mn mc : Nat) (fa : Option Addr) (fn fc : Nat) (ta : Option Addr) (tn tc : Nat) (ya : Option Addr) (yn yc : Nat) (mi ow a0 a1 : Int)
    (hc : Rv enc Tryz.prog W0 22 [.slice ca cn cc]) (hm : Rv enc Tryz.prog W0 23 [.slice ma mn mc]) (hf : Rv enc Tryz.prog W0 24 [.slice fa fn fc]) (ht : Rv enc Tryz.prog W0 25 [.slice ta tn tc]) (hy : Rv enc Tryz.prog W0 26 [.slice ya yn yc])
    (hG : Gl W0) (h0 : 0 < W0.heap.size) :
    Calls Tryz.prog 3 #[.agg #[.slice ca cn cc, .slice ma mn mc, .slice fa fn fc, .slice ta tn tc, .slice ya yn yc, .int .i64 mi], .int .i64 ow, .agg #[.int .i64 a0, .int .i64 a1]] W0 (LawR W0) := by
  obtain ⟨n, d, hn, hdok, hC⟩ := cls_old hc
  obtain rfl : n = cn := by
    obtain ⟨a, cap, he, -⟩ := hC
    injection he with e1 e2 e3
    exact e2.symm
  have cF := few_weak W0 _ _ _ _ _ mi hc hm hf ht hy
  have cA : ∀ w, Below W0.heap.size W0 w → Calls Tryz.prog 10 #[] w fun e w' => e = .returned (.bool true) ∧ Below w.heap.size w w' := fun w hb => awake_any w (hG.bel hb h0) (by have := hb.size; omega)
  have cP := fun (nm : ByteArray) (ob : Bool) (w : World) (hb : Below W0.heap.size W0 w) => findclass W0 _ (.slice ma mn mc) (.slice fa fn fc) (.slice ta tn tc) (.slice ya yn yc) mi n d hn hC ow nm ob w hb
  have cR := fun (nm : ByteArray) (ob : Bool) (w : World) (hb : Below W0.heap.size W0 w) => refFind W0 _ (.slice ma mn mc) (.slice fa fn fc) (.slice ta tn tc) (.slice ya yn yc) mi n d hn hC ow nm ob w hb
  obtain ⟨w1, hw1⟩ : ∃ w1, W0.alloc (.cells #[.slice ca n cc, .slice ma mn mc, .slice fa fn fc, .slice ta tn tc, .slice ya yn yc, .int .i64 mi] 28) = w1 := ⟨_, rfl⟩
  have z1 : w1.heap.size = W0.heap.size + 1 := by rw [← hw1]; exact World.size_alloc _ _
  obtain ⟨w2, hw2⟩ : ∃ w2, w1.alloc (.cells #[.int .i64 a0, .int .i64 a1] 29) = w2 := ⟨_, rfl⟩
  have hb1 : Below W0.heap.size W0 w1 := by rw [← hw1]; exact (Below.refl _ _).alloc (Nat.le_refl _) _
  have hb2 : Below w1.heap.size w1 w2 := by rw [← hw2]; exact (Below.refl _ _).alloc (Nat.le_refl _) _
  have x1 : w1.heap[W0.heap.size]? = some (.cells #[.slice ca n cc, .slice ma mn mc, .slice fa fn fc, .slice ta tn tc, .slice ya yn yc, .int .i64 mi] 28 (0, 0)) := by rw [← hw1]; exact heap_alloc_new W0 _
  have x2 : w2.heap[W0.heap.size + 1]? = some (.cells #[.int .i64 a0, .int .i64 a1] 29 (0, 0)) := by rw [← hw2, ← z1]; exact heap_alloc_new w1 _
  have y1 := (hb2.block _ (by omega)).trans x1
  have hB2 : Below W0.heap.size W0 w2 := hb1.trans (hb2.mono (by omega))
  have HCF := Lib.hid cF
  have HCA := Lib.hid cA
  have HCP := Lib.hid cP
  have HCR := Lib.hid cR
  have HW1 := Lib.hid hw1
  have HW2 := Lib.hid hw2
  have HB2 := Lib.hid hB2
  have X1 := Lib.hid y1
  have X2 := Lib.hid x2
  have HC := Lib.hid hC
  have hob : ∃ ob, (a1.tmod 2 == 0) = ob := ⟨_, rfl⟩
  obtain ⟨ob, hob⟩ := hob
  clear cF cA cP cR hw1 hw2 hb1 hb2 x1 x2 y1 hB2 hdok hc hm hf ht hy hG hC
  have p1 := blk_cell X2.out 1
  go_enter Tryz.func3, Tryz.ntmps3
  go_upto_region 1 with fail
  rw [HW1.out, HW2.out]
  go_upto_region 2 with fail
  clear p1
  obtain ⟨s0, s1, s2, s3, s4, s5⟩ := px_of X1.out
  go_wp2_with fail
  refine (HCF.out _ HB2.out).mono ?_
  rintro e w3 ⟨b, rfl, hb3⟩
  have HB3 := Lib.hid (HB2.out.trans (hb3.mono HB2.out.size))
  have HP3 := Lib.hid ((hb3.block _ (Array.getElem?_eq_some_iff.1 X1.out).1).trans X1.out)
  have HQ3 := Lib.hid ((hb3.block _ (Array.getElem?_eq_some_iff.1 X2.out).1).trans X2.out)
  clear hb3 s0 s1 s2 s3 s4 s5
  cases b with
  | false =>
    go_wp2_with fail
    refine (HCA.out _ HB3.out).mono ?_
    rintro e w6 ⟨rfl, hb6⟩
    have HB6 := Lib.hid (HB3.out.trans (hb6.mono HB3.out.size))
    clear hb6
    go_wp2
    go_ret
    exact ⟨rfl, HB6.out⟩
  | true =>
  have s0 := blk_cell HP3.out 0
  have t0 := blk_cell HQ3.out 0
  by_cases hyes : 0 < n ∧ 0 ≤ a0
  · obtain ⟨hn0, ha0⟩ := hyes
    have d1 : decide (0 < (n : Int)) = true := by simp; omega
    have d1' : decide (0 < n) = true := by simp; omega
    have d2 : decide (0 ≤ a0) = true := by simpa using ha0
    obtain ⟨a', cap', he, hr⟩ := HC.out
    injection he with e1 e2 e3
    subst e1 e3
    obtain ⟨b, off, rfl, hbs, hel⟩ := hr hn0
    obtain ⟨k, hk⟩ : ∃ k : Nat, a0.tmod (n : Int) = (k : Int) := ⟨(a0.tmod n).toNat, by rw [Int.toNat_of_nonneg (Int.tmod_nonneg _ ha0)]⟩
    have hkn : k < n := by have := Int.tmod_lt_of_pos a0 (show (0 : Int) < n by omega); omega
    have q0 : w3.cell? ⟨b, off + k * 13, none⟩ = some (.string (d k).nm) := hel w3 HB3.out k hkn 0 (by decide)
    obtain ⟨nx, hnx⟩ : ∃ nx, (d k).nm = nx := ⟨_, rfl⟩
    rw [hnx] at q0
    have hm0 : a0 % (n : Int) = (k : Int) := by rw [← hk, Int.tmod_eq_emod_of_nonneg ha0]
    clear hnx hel hr d1'
    go_upto_region 7 with fail
    go_quiet (fail)
    generalize hWX : World.drewN w3 _ = wX
    have hbX : Below w3.heap.size w3 wX := by rw [← hWX]; exact below_drewN _ _
    have HBX := Lib.hid (HB3.out.trans (hbX.mono HB3.out.size))
    have HPX := Lib.hid ((hbX.block _ (Array.getElem?_eq_some_iff.1 HP3.out).1).trans HP3.out)
    clear hWX hbX s0 t0 q0 d1 d2 hm0 hk
    -- REGION 8 at the world wX, the name nx
    have hXD : Below W0.heap.size W0 wX.drew := HBX.out.trans ((below_drewN wX 1).mono HBX.out.size)
    have HSD : Hid (PX W0.heap.size (some ⟨b, off, none⟩) n cc ma mn mc fa fn fc ta tn tc ya yn yc mi wX.drew) := Lib.hid (px_of HPX.out)
    have HPD : Hid (wX.drew.heap[W0.heap.size]? = some (.cells #[.slice (some ⟨b, off, none⟩) n cc, .slice ma mn mc, .slice fa fn fc, .slice ta tn tc, .slice ya yn yc, .int .i64 mi] 28 (0, 0))) := HPX.out
    have HBD := Lib.hid hXD
    clear hXD HBX HPX
    go_upto_region 8 with fail
    go_region_held3 (fun w' => w'.cell? ⟨W0.heap.size, 0, none⟩ = some (.slice (some ⟨b, off, none⟩) n cc) ∧ w'.cell? ⟨W0.heap.size, 1, none⟩ = some (.slice ma mn mc) ∧ w'.cell? ⟨W0.heap.size, 2, none⟩ = some (.slice fa fn fc) ∧ w'.cell? ⟨W0.heap.size, 3, none⟩ = some (.slice ta tn tc) ∧ w'.cell? ⟨W0.heap.size, 4, none⟩ = some (.slice ya yn yc) ∧ w'.cell? ⟨W0.heap.size, 5, none⟩ = some (.int .i64 mi)) (first | exact HSD.out | exact HS6.out | exact HS7.out | exact HS8.out | go_keep)
      (first
        | (go_at_call 10; refine (HCA.out _ HBD.out).mono ?_; rintro e w6 ⟨rfl, hb6⟩; have HB6 : Hid (Below W0.heap.size W0 w6) := Lib.hid (HBD.out.trans (hb6.mono HBD.out.size)); have HP6 := Lib.hid ((hb6.block _ (Array.getElem?_eq_some_iff.1 HPD.out).1).trans HPD.out); have HS6 : Hid (PX W0.heap.size (some ⟨b, off, none⟩) n cc ma mn mc fa fn fc ta tn tc ya yn yc mi w6) := Lib.hid (px_of HP6.out); clear hb6)
        | (go_at_call 11; refine (HCP.out nx ob _ HB6.out).mono ?_; rintro e w7 ⟨rfl, hb7⟩; have HB7 : Hid (Below W0.heap.size W0 w7) := Lib.hid (HB6.out.trans (hb7.mono HB6.out.size)); have HP7 := Lib.hid ((hb7.block _ (Array.getElem?_eq_some_iff.1 HP6.out).1).trans HP6.out); have HS7 : Hid (PX W0.heap.size (some ⟨b, off, none⟩) n cc ma mn mc fa fn fc ta tn tc ya yn yc mi w7) := Lib.hid (px_of HP7.out); clear hb7)
        | (go_at_call 12; refine (HCR.out nx ob _ HB7.out).mono ?_; rintro e w8 ⟨rfl, hb8⟩; have HB8 : Hid (Below W0.heap.size W0 w8) := Lib.hid (HB7.out.trans (hb8.mono HB7.out.size)); have HP8 := Lib.hid ((hb8.block _ (Array.getElem?_eq_some_iff.1 HP7.out).1).trans HP7.out); have HS8 : Hid (PX W0.heap.size (some ⟨b, off, none⟩) n cc ma mn mc fa fn fc ta tn tc ya yn yc mi w8) := Lib.hid (px_of HP8.out); clear hb8))
    go_wp2
    go_ret
    exact ⟨ret_bool (by simp), HB8.out⟩
  · by_cases hn0 : 0 < n
    · have d1 : decide (0 < n) = true := by simpa using hn0
      have d2 : decide (0 ≤ a0) = false := by simp; omega
      have HBX := HB3
      have HPX := HP3
      clear hyes
      go_upto_region 8 with fail
      clear d1 d2 s0 t0
      -- REGION 8 at the world w3, the name ⟨#[65]⟩
      have hXD : Below W0.heap.size W0 w3.drew := HBX.out.trans ((below_drewN w3 1).mono HBX.out.size)
      have HSD : Hid (PX W0.heap.size ca n cc ma mn mc fa fn fc ta tn tc ya yn yc mi w3.drew) := Lib.hid (px_of HPX.out)
      have HPD : Hid (w3.drew.heap[W0.heap.size]? = some (.cells #[.slice ca n cc, .slice ma mn mc, .slice fa fn fc, .slice ta tn tc, .slice ya yn yc, .int .i64 mi] 28 (0, 0))) := HPX.out
      have HBD := Lib.hid hXD
      clear hXD HBX HPX
      go_region_held3 (fun w' => w'.cell? ⟨W0.heap.size, 0, none⟩ = some (.slice ca n cc) ∧ w'.cell? ⟨W0.heap.size, 1, none⟩ = some (.slice ma mn mc) ∧ w'.cell? ⟨W0.heap.size, 2, none⟩ = some (.slice fa fn fc) ∧ w'.cell? ⟨W0.heap.size, 3, none⟩ = some (.slice ta tn tc) ∧ w'.cell? ⟨W0.heap.size, 4, none⟩ = some (.slice ya yn yc) ∧ w'.cell? ⟨W0.heap.size, 5, none⟩ = some (.int .i64 mi)) (first | exact HSD.out | exact HS6.out | exact HS7.out | exact HS8.out | go_keep)
        (first
          | (go_at_call 10; refine (HCA.out _ HBD.out).mono ?_; rintro e w6 ⟨rfl, hb6⟩; have HB6 : Hid (Below W0.heap.size W0 w6) := Lib.hid (HBD.out.trans (hb6.mono HBD.out.size)); have HP6 := Lib.hid ((hb6.block _ (Array.getElem?_eq_some_iff.1 HPD.out).1).trans HPD.out); have HS6 : Hid (PX W0.heap.size ca n cc ma mn mc fa fn fc ta tn tc ya yn yc mi w6) := Lib.hid (px_of HP6.out); clear hb6)
          | (go_at_call 11; refine (HCP.out ⟨#[65]⟩ ob _ HB6.out).mono ?_; rintro e w7 ⟨rfl, hb7⟩; have HB7 : Hid (Below W0.heap.size W0 w7) := Lib.hid (HB6.out.trans (hb7.mono HB6.out.size)); have HP7 := Lib.hid ((hb7.block _ (Array.getElem?_eq_some_iff.1 HP6.out).1).trans HP6.out); have HS7 : Hid (PX W0.heap.size ca n cc ma mn mc fa fn fc ta tn tc ya yn yc mi w7) := Lib.hid (px_of HP7.out); clear hb7)
          | (go_at_call 12; refine (HCR.out ⟨#[65]⟩ ob _ HB7.out).mono ?_; rintro e w8 ⟨rfl, hb8⟩; have HB8 : Hid (Below W0.heap.size W0 w8) := Lib.hid (HB7.out.trans (hb8.mono HB7.out.size)); have HP8 := Lib.hid ((hb8.block _ (Array.getElem?_eq_some_iff.1 HP7.out).1).trans HP7.out); have HS8 : Hid (PX W0.heap.size ca n cc ma mn mc fa fn fc ta tn tc ya yn yc mi w8) := Lib.hid (px_of HP8.out); clear hb8))
      go_wp2
      go_ret
      exact ⟨ret_bool (by simp), HB8.out⟩
    · have d1 : decide (0 < n) = false := by simpa using hn0
      have HBX := HB3
      have HPX := HP3
      clear hyes
      go_upto_region 8 with fail
      clear d1 s0 t0
      -- REGION 8 at the world w3, the name ⟨#[65]⟩
      have hXD : Below W0.heap.size W0 w3.drew := HBX.out.trans ((below_drewN w3 1).mono HBX.out.size)
      have HSD : Hid (PX W0.heap.size ca n cc ma mn mc fa fn fc ta tn tc ya yn yc mi w3.drew) := Lib.hid (px_of HPX.out)
      have HPD : Hid (w3.drew.heap[W0.heap.size]? = some (.cells #[.slice ca n cc, .slice ma mn mc, .slice fa fn fc, .slice ta tn tc, .slice ya yn yc, .int .i64 mi] 28 (0, 0))) := HPX.out
      have HBD := Lib.hid hXD
      clear hXD HBX HPX
      go_region_held3 (fun w' => w'.cell? ⟨W0.heap.size, 0, none⟩ = some (.slice ca n cc) ∧ w'.cell? ⟨W0.heap.size, 1, none⟩ = some (.slice ma mn mc) ∧ w'.cell? ⟨W0.heap.size, 2, none⟩ = some (.slice fa fn fc) ∧ w'.cell? ⟨W0.heap.size, 3, none⟩ = some (.slice ta tn tc) ∧ w'.cell? ⟨W0.heap.size, 4, none⟩ = some (.slice ya yn yc) ∧ w'.cell? ⟨W0.heap.size, 5, none⟩ = some (.int .i64 mi)) (first | exact HSD.out | exact HS6.out | exact HS7.out | exact HS8.out | go_keep)
        (first
          | (go_at_call 10; refine (HCA.out _ HBD.out).mono ?_; rintro e w6 ⟨rfl, hb6⟩; have HB6 : Hid (Below W0.heap.size W0 w6) := Lib.hid (HBD.out.trans (hb6.mono HBD.out.size)); have HP6 := Lib.hid ((hb6.block _ (Array.getElem?_eq_some_iff.1 HPD.out).1).trans HPD.out); have HS6 : Hid (PX W0.heap.size ca n cc ma mn mc fa fn fc ta tn tc ya yn yc mi w6) := Lib.hid (px_of HP6.out); clear hb6)
          | (go_at_call 11; refine (HCP.out ⟨#[65]⟩ ob _ HB6.out).mono ?_; rintro e w7 ⟨rfl, hb7⟩; have HB7 : Hid (Below W0.heap.size W0 w7) := Lib.hid (HB6.out.trans (hb7.mono HB6.out.size)); have HP7 := Lib.hid ((hb7.block _ (Array.getElem?_eq_some_iff.1 HP6.out).1).trans HP6.out); have HS7 : Hid (PX W0.heap.size ca n cc ma mn mc fa fn fc ta tn tc ya yn yc mi w7) := Lib.hid (px_of HP7.out); clear hb7)
          | (go_at_call 12; refine (HCR.out ⟨#[65]⟩ ob _ HB7.out).mono ?_; rintro e w8 ⟨rfl, hb8⟩; have HB8 : Hid (Below W0.heap.size W0 w8) := Lib.hid (HB7.out.trans (hb8.mono HB7.out.size)); have HP8 := Lib.hid ((hb8.block _ (Array.getElem?_eq_some_iff.1 HP7.out).1).trans HP7.out); have HS8 : Hid (PX W0.heap.size ca n cc ma mn mc fa fn fc ta tn tc ya yn yc mi w8) := Lib.hid (px_of HP8.out); clear hb8))
      go_wp2
      go_ret
      exact ⟨ret_bool (by simp), HB8.out⟩
end Go.Proofs.YtlipfgdjbimfjaaGreatDoor
