/- Few's search in the type members: its answer and count hang on the data alone. -/
import Derived.Test.YtlipfgdjbimfjaaGreatDoorG10
namespace Go.Proofs.YtlipfgdjbimfjaaGreatDoor
open Go.RowKit Go.Shelf Go.Sort
set_option maxRecDepth 100000

variable {H : Type} {enc : TypeId × Value → H}
set_option maxHeartbeats 4000000 in
theorem xmembers (W0 : World) (pl : Nat) (hp : W0.heap.size ≤ pl) (len : Nat) (d : Nat → MeD) (x : Int) (hlen : len ≤ 4000000000000) (hok : ∀ i, i < len → (d i).ok enc W0) (h0 : 0 ≤ x) (h1 : x ≤ 3000) :
    ∃ (b : Bool) (x' : Int), -1 ≤ x' ∧ x' ≤ x ∧ (b = false → 0 ≤ x') ∧ ∀ (w : World) (v : Value), LM w pl v len d → Below W0.heap.size W0 w → Lf w pl x → Calls Tryz.prog 33 #[v, .func (.func 34) #[] #[.pointer (some ⟨pl, 0, none⟩)]] w (TX b x' pl w) := by
  have each : ∀ p : Nat × Int, ∃ r : Bool × Int, p.1 < len → 0 ≤ p.2 → p.2 ≤ 3000 → -1 ≤ r.2 ∧ r.2 ≤ p.2 ∧ (r.1 = false → 0 ≤ r.2) ∧ ∀ (w : World), Below W0.heap.size W0 w → Lf w pl p.2 →
        Calls Tryz.prog 34 #[(d p.1).val, .pointer (some ⟨pl, 0, none⟩)] w (TX r.1 r.2 pl w) := by
    intro p
    by_cases hp1 : p.1 < len ∧ 0 ≤ p.2 ∧ p.2 ≤ 3000
    · obtain ⟨b, x', e1, e2, e3, e4⟩ := xmclo W0 pl hp p.2 (d p.1) (hok p.1 hp1.1) hp1.2.1 hp1.2.2
      exact ⟨(b, x'), fun _ _ _ => ⟨e1, e2, e3, e4⟩⟩
    · exact ⟨(false, 0), fun h1 h2 h3 => absurd ⟨h1, h2, h3⟩ hp1⟩
  obtain ⟨f0, hf0⟩ := Classical.axiomOfChoice each
  obtain ⟨f, hf⟩ : ∃ f : Nat → Int → Bool × Int, f = fun i y => f0 (i, y) := ⟨_, rfl⟩
  have hff : ∀ i y, i < len → 0 ≤ y → y ≤ 3000 → -1 ≤ (f i y).2 ∧ (f i y).2 ≤ y ∧ ((f i y).1 = false → 0 ≤ (f i y).2) ∧ ∀ (w : World), Below W0.heap.size W0 w → Lf w pl y →
      Calls Tryz.prog 34 #[(d i).val, .pointer (some ⟨pl, 0, none⟩)] w (TX (f i y).1 (f i y).2 pl w) := fun i y a b c => by rw [hf]; exact hf0 (i, y) a b c
  obtain ⟨s1, s2, s3⟩ := scan_bd f x len 0 x (fun i y _ hi hy hy2 => by obtain ⟨a, b, c, _⟩ := hff i y (by omega) hy (by omega); exact ⟨a, b, c⟩) h0 (Int.le_refl _)
  refine ⟨(scan f len 0 x).1, (scan f len 0 x).2, s1, s2, s3, fun w v hv hb hx => ?_⟩
  clear each hf0 s1 s2 s3
  have cI := xmindex W0 pl len x d f v w hlen hv hx h0 hok (fun i y V hi hy hy2 hg hz => by
    obtain ⟨a, b, c, e⟩ := hff i y hi hy (by omega)
    exact ⟨c, b, e V (hb.grown hg hb.size (fun k hk => by injection hk; omega)) hz⟩)
  obtain ⟨S, hS⟩ : ∃ S, S = scan f len 0 x := ⟨_, rfl⟩
  rw [← hS] at cI ⊢
  obtain ⟨Sb, Sx⟩ := S
  simp only at cI ⊢
  obtain ⟨va, vc, rfl, -⟩ := hv
  clear hS hff hok hb hx
  go_enter Tryz.func33, Tryz.ntmps33
  go_wp2_with fail
  refine cI.mono ?_
  rintro e w3 ⟨r, rfl, hr, h3, h7⟩
  have H3 := Lib.hid (And.intro h3 h7)
  clear h3 h7 cI
  cases Sb with
  | true =>
    go_wp2
    go_ret
    exact ⟨rfl, H3.out.1, H3.out.2⟩
  | false =>
    go_wp2
    go_ret
    exact ⟨rfl, H3.out.1, H3.out.2⟩
end Go.Proofs.YtlipfgdjbimfjaaGreatDoor
