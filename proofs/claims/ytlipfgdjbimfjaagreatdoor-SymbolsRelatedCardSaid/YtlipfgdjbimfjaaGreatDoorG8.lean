/- Locals: its answer and count hang on the data alone. -/
import Derived.Test.YtlipfgdjbimfjaaGreatDoorG7
namespace Go.Proofs.YtlipfgdjbimfjaaGreatDoor
open Go.RowKit Go.Shelf Go.Sort
set_option maxRecDepth 100000

variable {H : Type} {enc : TypeId × Value → H}
set_option maxHeartbeats 4000000 in
theorem xlocals (W0 : World) (pl : Nat) (hp : W0.heap.size ≤ pl) (len : Nat) (d : Nat → LoD) (x : Int) (hlen : len ≤ 4000000000000) (hok : ∀ i, i < len → (d i).ok enc W0) (h0 : 0 ≤ x) (h1 : x ≤ 3000) :
    ∃ (b : Bool) (x' : Int), -1 ≤ x' ∧ x' ≤ x ∧ (b = true → 0 ≤ x') ∧ ∀ (w : World) (v : Value), LL w pl v len d → Below W0.heap.size W0 w → Lf w pl x → Calls Tryz.prog 32 #[v, .pointer (some ⟨pl, 0, none⟩)] w (TX b x' pl w) := by
  by_cases h220 : (len : Int) ≤ 220
  · have each : ∀ p : Nat × Int, ∃ r : Bool × Int, p.1 < len → 0 ≤ p.2 → p.2 ≤ 3000 → -1 ≤ r.2 ∧ r.2 ≤ p.2 ∧ (r.1 = false → 0 ≤ r.2) ∧ ∀ (w : World) (bl : Nat), Below W0.heap.size W0 w → Lf w pl p.2 → w.heap[bl]? = some (.cells #[.pointer (some ⟨pl, 0, none⟩)] 66 (0, 0)) → bl ≠ pl →
          Calls Tryz.prog 66 #[(d p.1).val, .pointer (some ⟨bl, 0, none⟩)] w (TX r.1 r.2 pl w) := by
      intro p
      by_cases hp1 : p.1 < len ∧ 0 ≤ p.2 ∧ p.2 ≤ 3000
      · obtain ⟨b, x', e1, e2, e3, e4⟩ := xlclo W0 pl hp p.2 (d p.1) (hok p.1 hp1.1) hp1.2.1 hp1.2.2
        exact ⟨(b, x'), fun _ _ _ => ⟨e1, e2, e3, e4⟩⟩
      · exact ⟨(false, 0), fun h1 h2 h3 => absurd ⟨h1, h2, h3⟩ hp1⟩
    obtain ⟨f0, hf0⟩ := Classical.axiomOfChoice each
    obtain ⟨f, hf⟩ : ∃ f : Nat → Int → Bool × Int, f = fun i y => f0 (i, y) := ⟨_, rfl⟩
    have hff : ∀ i y, i < len → 0 ≤ y → y ≤ 3000 → -1 ≤ (f i y).2 ∧ (f i y).2 ≤ y ∧ ((f i y).1 = false → 0 ≤ (f i y).2) ∧ ∀ (w : World) (bl : Nat), Below W0.heap.size W0 w → Lf w pl y → w.heap[bl]? = some (.cells #[.pointer (some ⟨pl, 0, none⟩)] 66 (0, 0)) → bl ≠ pl →
        Calls Tryz.prog 66 #[(d i).val, .pointer (some ⟨bl, 0, none⟩)] w (TX (f i y).1 (f i y).2 pl w) := fun i y a b c => by rw [hf]; exact hf0 (i, y) a b c
    obtain ⟨s1, s2, s3⟩ := scan_bd f x len 0 x (fun i y _ hi hy hy2 => by obtain ⟨a, b, c, _⟩ := hff i y (by omega) hy (by omega); exact ⟨a, b, c⟩) h0 (Int.le_refl _)
    refine ⟨!(scan f len 0 x).1, (scan f len 0 x).2, s1, s2, (fun h => s3 (by simpa using h)), fun w v hv hb hx => ?_⟩
    clear each hf0 s1 s2 s3
    have hplt : pl < w.heap.size := (Array.getElem?_eq_some_iff.1 hx).1
    obtain ⟨W, hW⟩ : ∃ W, w.alloc (.cells #[.pointer (some ⟨pl, 0, none⟩)] 66) = W := ⟨_, rfl⟩
    have hg2 : w.grownBy W (some pl) := by rw [← hW]; exact grown_alloc _
    have hx2 : Lf W pl x := by rw [← hW]; show (w.alloc _).heap[pl]? = _; rw [Below.heap_alloc _ _ _ hplt]; exact hx
    have hbl : W.heap[w.heap.size]? = some (.cells #[.pointer (some ⟨pl, 0, none⟩)] 66 (0, 0)) := by rw [← hW]; exact heap_alloc_new w _
    have hbW : Below W0.heap.size W0 W := hb.grown hg2 hb.size (fun k hk => by injection hk; omega)
    have cI := xlindex W0 pl w.heap.size len x d f v W hlen (hv.grown hg2) hx2 h0 hok (fun i y V hi hy hy2 hg hz => by
      obtain ⟨a, b, c, e⟩ := hff i y hi hy (by omega)
      exact ⟨c, b, e V w.heap.size (hbW.grown hg hbW.size (fun k hk => by injection hk; omega)) hz
        ((hg.block _ (Array.getElem?_eq_some_iff.1 hbl).1 (fun e => by injection e; omega)).trans hbl) (by omega)⟩)
    obtain ⟨S, hS⟩ : ∃ S, S = scan f len 0 x := ⟨_, rfl⟩
    rw [← hS] at cI ⊢
    obtain ⟨Sb, Sx⟩ := S
    simp only at cI ⊢
    have HG := Lib.hid hg2
    have HW := Lib.hid hW
    have hd220 : decide ((len : Int) ≤ 220) = true := by simpa using h220
    clear hS hff hok
    have c65 : Calls Tryz.prog 65 #[v, .func (.func 66) #[] #[.pointer (some ⟨w.heap.size, 0, none⟩)]] W (TX Sb Sx pl W) := by
      clear hd220
      obtain ⟨va, vc, rfl, -⟩ := hv
      clear hg2 hW hx2 hbl hbW hb hx
      go_enter Tryz.func65, Tryz.ntmps65
      go_wp2_with fail
      refine cI.mono ?_
      rintro e w3 ⟨r, rfl, hr, h3, h7⟩
      have H3 := Lib.hid (And.intro h3 h7)
      clear h3 h7 cI
      cases Sb with
      | true =>
        go_wp2
        go_ret
        exact ⟨rfl, H3.out.1, H3.out.2⟩
      | false =>
        go_wp2
        go_ret
        exact ⟨rfl, H3.out.1, H3.out.2⟩
    obtain ⟨va, vc, rfl, -⟩ := hv
    clear cI hg2 hW hx2 hbl hbW hb hx h220
    go_enter Tryz.func32, Tryz.ntmps32
    go_upto_region 1 with fail
    rw [HW.out]
    go_wp2_with fail
    refine c65.mono ?_
    rintro e w3 ⟨rfl, h3, h7⟩
    have H3 := Lib.hid (And.intro h3 h7)
    clear h3 h7 c65
    cases Sb with
    | true =>
      go_wp2
      go_ret
      exact ⟨rfl, H3.out.1, HG.out.trans H3.out.2⟩
    | false =>
      go_wp2
      go_ret
      exact ⟨rfl, H3.out.1, HG.out.trans H3.out.2⟩
  · refine ⟨false, x, by omega, Int.le_refl _, (fun h => by cases h), fun w v hv hb hx => ?_⟩
    obtain ⟨W, hW⟩ : ∃ W, w.alloc (.cells #[.pointer (some ⟨pl, 0, none⟩)] 66) = W := ⟨_, rfl⟩
    have hplt : pl < w.heap.size := (Array.getElem?_eq_some_iff.1 hx).1
    have hg2 : w.grownBy W (some pl) := by rw [← hW]; exact grown_alloc _
    have hx2 : Lf W pl x := by rw [← hW]; show (w.alloc _).heap[pl]? = _; rw [Below.heap_alloc _ _ _ hplt]; exact hx
    have hd220 : decide ((len : Int) ≤ 220) = false := by simpa using h220
    have HX := Lib.hid hx2
    have HG := Lib.hid hg2
    have HW := Lib.hid hW
    obtain ⟨va, vc, rfl, -⟩ := hv
    clear hx hx2 hg2 hW hb hok h220
    go_enter Tryz.func32, Tryz.ntmps32
    go_upto_region 1 with fail
    rw [HW.out]
    go_wp2
    go_ret
    exact ⟨rfl, HX.out, HG.out⟩
end Go.Proofs.YtlipfgdjbimfjaaGreatDoor
