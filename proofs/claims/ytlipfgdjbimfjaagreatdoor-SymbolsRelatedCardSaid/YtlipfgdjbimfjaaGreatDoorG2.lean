/- Types: its answer and count hang on the data alone. -/
import Derived.Test.YtlipfgdjbimfjaaGreatDoorG1
namespace Go.Proofs.YtlipfgdjbimfjaaGreatDoor
open Go.RowKit Go.Shelf Go.Sort
set_option maxRecDepth 100000

variable {H : Type} {enc : TypeId × Value → H}
/-- A search that counts down: found, and what is left. -/
def scan (f : Nat → Int → Bool × Int) : Nat → Nat → Int → Bool × Int
  | 0, _, z => (false, z)
  | n + 1, k, z => if (f k z).1 = true then (true, (f k z).2) else scan f n (k + 1) (f k z).2
theorem scan_bd (f : Nat → Int → Bool × Int) (x : Int) : ∀ n k z, (∀ i y, k ≤ i → i < k + n → 0 ≤ y → y ≤ x → -1 ≤ (f i y).2 ∧ (f i y).2 ≤ y ∧ ((f i y).1 = false → 0 ≤ (f i y).2)) → 0 ≤ z → z ≤ x → -1 ≤ (scan f n k z).2 ∧ (scan f n k z).2 ≤ z ∧ ((scan f n k z).1 = false → 0 ≤ (scan f n k z).2)
  | 0, k, z, _, h0, h1 => ⟨by simp [scan]; omega, by simp [scan], fun _ => by simpa [scan] using h0⟩
  | n + 1, k, z, hf, h0, h1 => by
    obtain ⟨a, b, c⟩ := hf k z (Nat.le_refl _) (by omega) h0 h1
    unfold scan
    by_cases hb : (f k z).1 = true
    · rw [if_pos hb]
      exact ⟨a, b, fun h => by cases h⟩
    · rw [if_neg hb]
      have hb' : (f k z).1 = false := by simpa using hb
      obtain ⟨p, q, r⟩ := scan_bd f x n (k + 1) (f k z).2 (fun i y h2 h3 => hf i y (by omega) (by omega)) (c hb') (by omega)
      exact ⟨p, by omega, r⟩

set_option maxHeartbeats 4000000 in
/-- IndexFunc over a list of types. -/
theorem xindex (W0 : World) (pl bl bd len : Nat) (x : Int) (d : Nat → TyT) (f : Nat → Int → Bool × Int) (v : Value) (w : World) (hlen : len ≤ 2199023255488 + 1) (hv : LD w pl v len d) (hx : Lf w pl x) (h0 : 0 ≤ x) (hok : ∀ i, i < len → (d i).ok enc W0)
    (C : ∀ (i : Nat) (y : Int) (W : World), i < len → 0 ≤ y → y ≤ x → w.grownBy W (some pl) → Lf W pl y → ((f i y).1 = false → 0 ≤ (f i y).2) ∧ (f i y).2 ≤ y ∧
      Calls Tryz.prog 62 #[(d i).val, .pointer (some ⟨bl, 0, none⟩), .pointer (some ⟨bd, 0, none⟩)] W (TX (f i y).1 (f i y).2 pl W)) :
    Calls Tryz.prog 68 #[v, .func (.func 62) #[] #[.pointer (some ⟨bl, 0, none⟩), .pointer (some ⟨bd, 0, none⟩)]] w fun e w' => ∃ r : Int, e = .returned (.int .i64 r) ∧ decide (0 ≤ r) = (scan f len 0 x).1 ∧ Lf w' pl (scan f len 0 x).2 ∧ w.grownBy w' (some pl) := by
  have HV := Lib.hid hv
  have HX := Lib.hid hx
  have HC := Lib.hid C
  have HOK := Lib.hid hok
  obtain ⟨va, vc, rfl, -⟩ := hv
  obtain ⟨S, hS⟩ : ∃ S, S = scan f len 0 x := ⟨_, rfl⟩
  rw [← hS]
  have HS := Lib.hid hS
  clear hx C hS hok
  go_enter Tryz.func68, Tryz.ntmps68
  go_wp2
  go_loopg [8] (len + 1) (fun g y wr => ∃ (k : Nat) (z : Int), k ≤ len ∧ len - k < g ∧ y = .int .i64 k ∧ 0 ≤ z ∧ z ≤ x ∧ Hid (S = scan f (len - k) k z) ∧ Hid (Lf wr pl z) ∧ Hid (w.grownBy wr (some pl)))
  case atStart => exact ⟨0, x, by omega, by omega, rfl, h0, Int.le_refl _, HS, HX, Lib.hid ⟨rfl, rfl, rfl, Nat.le_refl _, fun _ _ _ => rfl⟩⟩
  case round =>
    obtain ⟨k, z, hk, hgk, rfl, hz0, hz1, HSk, HL, HG⟩ := hrel
    obtain ⟨m, rfl⟩ : ∃ m, gk = m + 1 := ⟨gk - 1, by omega⟩
    by_cases hlt : k < len
    · have hsub : len - k = (len - (k + 1)) + 1 := by omega
      obtain ⟨a', cap', he, hr⟩ := HV.out.grown HG.out
      injection he with e1 e2 e3
      subst e1 e3
      obtain ⟨b, off, rfl, hbp, hbs, hel⟩ := hr (by omega)
      obtain ⟨e0, e1, e2, e3, e4⟩ := hel k hlt
      obtain ⟨ua, un, uc, hu, -⟩ := (HOK.out k hlt).args.slice Tryz.underlying33 cells58 (by decide)
      injection hu with hu _
      rw [hu] at e4
      obtain ⟨hc1, hc2, cc⟩ := HC.out k z wr hlt hz0 hz1 HG.out HL.out
      unfold TyT.val at cc
      rw [hu] at cc
      obtain ⟨fb, hfb⟩ : ∃ fb, fb = (f k z).1 := ⟨_, rfl⟩
      obtain ⟨fx, hfx⟩ : ∃ fx, fx = (f k z).2 := ⟨_, rfl⟩
      rw [← hfb, ← hfx] at cc
      rw [← hfb, ← hfx] at hc1
      rw [← hfx] at hc2
      have HST : Hid (S = if fb = true then (true, fx) else scan f (len - (k + 1)) (k + 1) fx) := Lib.hid (by
        rw [HSk.out, hsub, scan, ← hfb, ← hfx])
      clear hsub
      have HC1 := Lib.hid hc1
      clear hr hel hfb hfx hc1 hu
      go_wp2_with fail
      refine cc.mono ?_
      rintro e w3 ⟨rfl, h3, h7⟩
      have H3 := Lib.hid (And.intro h3 h7)
      clear h3 h7 cc e0 e1 e2 e3 e4
      cases fb with
      | true =>
        go_wp2
        go_ret
        refine ⟨(k : Int), rfl, ?_, ?_, HG.out.trans H3.out.2⟩
        · rw [HST.out]; simp
        · rw [HST.out]; exact H3.out.1
      | false =>
        go_wp2
        go_roundg m
        case measure => omega
        case rel => exact ⟨k + 1, fx, by omega, by omega, by go_num, HC1.out (by trivial), by omega, Lib.hid (by rw [HST.out]; simp), Lib.hid H3.out.1, Lib.hid (HG.out.trans H3.out.2)⟩
    · have hke : len - k = 0 := by omega
      go_wp2
      go_ret
      have h := HSk.out
      rw [hke, scan] at h
      rw [h]
      exact ⟨-1, rfl, rfl, HL.out, HG.out⟩

/-- What Types does with a list, told by its data. -/
def XT (enc : TypeId × Value → H) (W0 : World) (pl : Nat) (deep : Int) : Prop :=
  ∀ (len : Nat) (d : Nat → TyT) (x : Int), len ≤ 2199023255488 + 1 → (∀ i, i < len → (d i).ok enc W0) → 0 ≤ x → x ≤ 3000 → ∃ (b : Bool) (x' : Int), -1 ≤ x' ∧ x' ≤ x ∧ (b = true → 0 ≤ x') ∧ ∀ (w : World) (v : Value), LD w pl v len d → Below W0.heap.size W0 w → Lf w pl x → Calls Tryz.prog 30 #[v, .int .i64 deep, .pointer (some ⟨pl, 0, none⟩)] w (TX b x' pl w)
set_option maxHeartbeats 4000000 in
theorem xtypes (W0 : World) (pl : Nat) (hp : W0.heap.size ≤ pl) : ∀ (D : Nat) (deep : Int), 1 ≤ deep → deep ≤ 71 → 71 - deep ≤ D → XT enc W0 pl deep := by
  intro D
  induction D with
  | zero =>
    intro deep hd0 hd1 hD len d x hlen hok h0 h1
    refine ⟨false, x, by omega, Int.le_refl _, (fun h => by cases h), fun w v hv hb hx => ?_⟩
    obtain ⟨W, hW⟩ : ∃ W, (w.alloc (.cells #[.int .i64 deep] 3)).alloc (.cells #[.pointer (some ⟨pl, 0, none⟩)] 66) = W := ⟨_, rfl⟩
    have hplt : pl < w.heap.size := (Array.getElem?_eq_some_iff.1 hx).1
    have hx2 : Lf W pl x := by rw [← hW]; show ((w.alloc _).alloc _).heap[pl]? = _; rw [Below.heap_alloc _ _ _ (by simp; omega), Below.heap_alloc _ _ _ hplt]; exact hx
    have hg2 : w.grownBy W (some pl) := by rw [← hW]; exact (grown_alloc _).trans (grown_alloc _)
    obtain rfl : deep = 71 := by omega
    obtain ⟨va, vc, rfl, -⟩ := hv
    have HX := Lib.hid hx2
    have HG := Lib.hid hg2
    have HW := Lib.hid hW
    clear hx hx2 hg2 hW hb hok
    go_enter Tryz.func30, Tryz.ntmps30
    go_wp2
    go_ret
    rw [HW.out]
    exact ⟨rfl, HX.out, HG.out⟩
  | succ D ih =>
    intro deep hd0 hd1 hD
    by_cases h71 : deep = 71
    · exact ih deep hd0 hd1 (by omega)
    · intro len d x hlen hok h0 h1
      have hx2 := ih (deep + 1) (by omega) (by omega) (by omega)
      have each : ∀ p : Nat × Int, ∃ r : Bool × Int, p.1 < len → 0 ≤ p.2 → p.2 ≤ 3000 → -1 ≤ r.2 ∧ r.2 ≤ p.2 ∧ (r.1 = false → 0 ≤ r.2) ∧ ∀ (w : World) (bl bd : Nat), Below W0.heap.size W0 w → Lf w pl p.2 → w.heap[bl]? = some (.cells #[.pointer (some ⟨pl, 0, none⟩)] 66 (0, 0)) → w.heap[bd]? = some (.cells #[.int .i64 deep] 3 (0, 0)) → bl ≠ pl → bd ≠ pl →
          Calls Tryz.prog 62 #[(d p.1).val, .pointer (some ⟨bl, 0, none⟩), .pointer (some ⟨bd, 0, none⟩)] w (TX r.1 r.2 pl w) := by
        intro p
        by_cases hp1 : p.1 < len ∧ 0 ≤ p.2 ∧ p.2 ≤ 3000
        · obtain ⟨b, x', e1, e2, e3, e4⟩ := xclo W0 pl hp p.2 deep (d p.1) (hok p.1 hp1.1) hp1.2.1 hp1.2.2 hd1 (by omega) (fun len d x hl => hx2 len d x (by omega))
          exact ⟨(b, x'), fun _ _ _ => ⟨e1, e2, e3, e4⟩⟩
        · exact ⟨(false, 0), fun h1 h2 h3 => absurd ⟨h1, h2, h3⟩ hp1⟩
      obtain ⟨f0, hf0⟩ := Classical.axiomOfChoice each
      obtain ⟨f, hf⟩ : ∃ f : Nat → Int → Bool × Int, f = fun i y => f0 (i, y) := ⟨_, rfl⟩
      have hff : ∀ i y, i < len → 0 ≤ y → y ≤ 3000 → -1 ≤ (f i y).2 ∧ (f i y).2 ≤ y ∧ ((f i y).1 = false → 0 ≤ (f i y).2) ∧ ∀ (w : World) (bl bd : Nat), Below W0.heap.size W0 w → Lf w pl y → w.heap[bl]? = some (.cells #[.pointer (some ⟨pl, 0, none⟩)] 66 (0, 0)) → w.heap[bd]? = some (.cells #[.int .i64 deep] 3 (0, 0)) → bl ≠ pl → bd ≠ pl →
          Calls Tryz.prog 62 #[(d i).val, .pointer (some ⟨bl, 0, none⟩), .pointer (some ⟨bd, 0, none⟩)] w (TX (f i y).1 (f i y).2 pl w) := fun i y a b c => by rw [hf]; exact hf0 (i, y) a b c
      obtain ⟨s1, s2, s3⟩ := scan_bd f x len 0 x (fun i y _ hi hy hy2 => by obtain ⟨a, b, c, _⟩ := hff i y (by omega) hy (by omega); exact ⟨a, b, c⟩) h0 (Int.le_refl _)
      refine ⟨!(scan f len 0 x).1, (scan f len 0 x).2, s1, s2, (fun h => s3 (by simpa using h)), fun w v hv hb hx => ?_⟩
      clear each hf0 hx2 ih s1 s2 s3
      have hplt : pl < w.heap.size := (Array.getElem?_eq_some_iff.1 hx).1
      obtain ⟨W, hW⟩ : ∃ W, (w.alloc (.cells #[.int .i64 deep] 3)).alloc (.cells #[.pointer (some ⟨pl, 0, none⟩)] 66) = W := ⟨_, rfl⟩
      have hg2 : w.grownBy W (some pl) := by rw [← hW]; exact (grown_alloc _).trans (grown_alloc _)
      have hx2 : Lf W pl x := by rw [← hW]; show ((w.alloc _).alloc _).heap[pl]? = _; rw [Below.heap_alloc _ _ _ (by simp; omega), Below.heap_alloc _ _ _ hplt]; exact hx
      have hbd : W.heap[w.heap.size]? = some (.cells #[.int .i64 deep] 3 (0, 0)) := by rw [← hW, Below.heap_alloc _ _ _ (by simp)]; exact heap_alloc_new w _
      have hbl : W.heap[w.heap.size + 1]? = some (.cells #[.pointer (some ⟨pl, 0, none⟩)] 66 (0, 0)) := by
        rw [← hW]
        have h := heap_alloc_new (w.alloc (.cells #[.int .i64 deep] 3)) (.cells #[.pointer (some ⟨pl, 0, none⟩)] 66)
        rw [World.size_alloc] at h; exact h
      have hbW : Below W0.heap.size W0 W := hb.grown hg2 hb.size (fun k hk => by injection hk; omega)
      have cI := xindex W0 pl (w.heap.size + 1) w.heap.size len x d f v W hlen (hv.grown hg2) hx2 h0 hok (fun i y V hi hy hy2 hg hz => by
        obtain ⟨a, b, c, e⟩ := hff i y hi hy (by omega)
        exact ⟨c, b, e V (w.heap.size + 1) w.heap.size (hbW.grown hg hbW.size (fun k hk => by injection hk; omega)) hz
          ((hg.block _ (Array.getElem?_eq_some_iff.1 hbl).1 (fun e => by injection e; omega)).trans hbl) ((hg.block _ (Array.getElem?_eq_some_iff.1 hbd).1 (fun e => by injection e; omega)).trans hbd) (by omega) (by omega)⟩)
      obtain ⟨S, hS⟩ : ∃ S, S = scan f len 0 x := ⟨_, rfl⟩
      rw [← hS] at cI ⊢
      obtain ⟨Sb, Sx⟩ := S
      simp only at cI ⊢
      have c4 := blk_cell hbd 0
      have HG := Lib.hid hg2
      have HW := Lib.hid hW
      have hd70 : decide (deep ≤ 70) = true := by simp; omega
      clear hS hff hok
      have c41 : Calls Tryz.prog 41 #[v, .func (.func 62) #[] #[.pointer (some ⟨w.heap.size + 1, 0, none⟩), .pointer (some ⟨w.heap.size, 0, none⟩)]] W (TX Sb Sx pl W) := by
        clear c4 hd70
        obtain ⟨va, vc, rfl, -⟩ := hv
        clear hg2 hW hx2 hbd hbl hbW hb hx
        go_enter Tryz.func41, Tryz.ntmps41
        go_wp2_with fail
        refine cI.mono ?_
        rintro e w3 ⟨r, rfl, hr, h3, h7⟩
        have H3 := Lib.hid (And.intro h3 h7)
        clear h3 h7 cI
        cases Sb with
        | true =>
          go_wp2
          go_ret
          exact ⟨rfl, H3.out.1, H3.out.2⟩
        | false =>
          go_wp2
          go_ret
          exact ⟨rfl, H3.out.1, H3.out.2⟩
      obtain ⟨va, vc, rfl, -⟩ := hv
      clear cI hg2 hW hx2 hbd hbl hbW hb hx h71
      go_enter Tryz.func30, Tryz.ntmps30
      go_upto_region 1 with fail
      rw [HW.out]
      go_wp2_with fail
      refine c41.mono ?_
      rintro e w3 ⟨rfl, h3, h7⟩
      have H3 := Lib.hid (And.intro h3 h7)
      clear h3 h7 c41 c4
      cases Sb with
      | true =>
        go_wp2
        go_ret
        exact ⟨rfl, H3.out.1, HG.out.trans H3.out.2⟩
      | false =>
        go_wp2
        go_ret
        exact ⟨rfl, H3.out.1, HG.out.trans H3.out.2⟩
end Go.Proofs.YtlipfgdjbimfjaaGreatDoor
