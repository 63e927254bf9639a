/- Trees: its answer and count hang on the data alone. -/
import Derived.Test.YtlipfgdjbimfjaaGreatDoorG4
namespace Go.Proofs.YtlipfgdjbimfjaaGreatDoor
open Go.RowKit Go.Shelf Go.Sort
set_option maxRecDepth 100000

variable {H : Type} {enc : TypeId × Value → H}
/-- The closure of Trees: its answer and count hang on the tree and the count alone. -/
theorem xtclo (W0 : World) (pl : Nat) (hp : W0.heap.size ≤ pl) (x deep : Int) (t : TrD) (ht : Tr12 enc W0 t) (h0 : 0 ≤ x) (h1 : x ≤ 3000) (hd : deep ≤ 201) (hd0 : 0 ≤ deep)
    (IH : ∀ (len : Nat) (d : Nat → TrD) (x : Int), len ≤ 4000000000000 → (∀ i, i < len → Tr12 enc W0 (d i)) → 0 ≤ x → x ≤ 3000 → ∃ (b : Bool) (x' : Int), -1 ≤ x' ∧ x' ≤ x ∧ (b = true → 0 ≤ x') ∧ ∀ (w : World) (v : Value), LT w pl v len d → Below W0.heap.size W0 w → Lf w pl x → Calls Tryz.prog 31 #[v, .int .i64 (deep + 1), .pointer (some ⟨pl, 0, none⟩)] w (TX b x' pl w)) :
    ∃ (b : Bool) (x' : Int), -1 ≤ x' ∧ x' ≤ x ∧ (b = false → 0 ≤ x') ∧ ∀ (w : World) (bl bd : Nat), Below W0.heap.size W0 w → Lf w pl x → w.heap[bl]? = some (.cells #[.pointer (some ⟨pl, 0, none⟩)] 66 (0, 0)) → w.heap[bd]? = some (.cells #[.int .i64 deep] 3 (0, 0)) → bl ≠ pl → bd ≠ pl →
      Calls Tryz.prog 64 #[t.val, .pointer (some ⟨bl, 0, none⟩), .pointer (some ⟨bd, 0, none⟩)] w (TX b x' pl w) := by
  obtain ⟨kd, sy, nu, tx, ak, ay, an, au, av, tv, kv, at_⟩ := t
  obtain ⟨hsz, hty, htys, hkids⟩ := ht
  simp only at hsz hty htys hkids
  obtain ⟨n, d, hn, hdok, hld⟩ := ld_old htys
  obtain ⟨m, f, hm, hfok, hlt⟩ := lt_old hkids
  obtain ⟨aa, an2, ac, ha, -⟩ := hty.args.slice Tryz.underlying33 cells58 (by decide)
  obtain ⟨ta, tn, tc, hb, -⟩ := htys.slice Tryz.underlying33 cells58 (by decide)
  obtain ⟨ka, kn, kc, hc, -⟩ := hkids.slice Tryz.underlying34 cells70 (by decide)
  injection ha with ha _
  injection hb with hb _
  injection hc with hc _
  subst ha hb hc
  have walk := fun (b : Bool) (x' : Int) (b1 b2 : Bool) (x1 x2 : Int) => xtwalk (enc := enc) W0 pl hp x deep kd sy nu tx ak ay an au aa an2 ac ta tn tc ka kn kc at_ hty hsz h0 h1 hd hd0 n d hn hdok (fun w hw => hld w pl hw hp) m f (fun w hw => hlt w pl hw hp) b x' b1 b2 x1 x2
  by_cases hneg : x - 1 < 0
  · exact ⟨true, x - 1, by omega, by omega, (fun h => by cases h), fun w bl bd => walk true (x - 1) true true 0 0 (.inl ⟨hneg, rfl, rfl⟩) w bl bd⟩
  · by_cases hnl : 200 < (tx.size : Int)
    · exact ⟨true, x - 1, by omega, by omega, (fun h => by cases h), fun w bl bd => walk true (x - 1) true true 0 0 (.inr (.inl ⟨hneg, hnl, rfl, rfl⟩)) w bl bd⟩
    · obtain ⟨b1, x1, e1, e2, e3, c1⟩ := xtypes (enc := enc) W0 pl hp 70 1 (by omega) (by omega) (by omega) (1 + n) (cons1 ⟨ak, ay, an, au, .slice aa an2 ac⟩ d) (x - 1) (by omega) (fun i hi => by
        cases i with
        | zero => exact hty
        | succ i => exact hdok i (by omega)) (by omega) (by omega)
      have c1' : ∀ (w : World) (v : Value), LD w pl v (1 + n) (cons1 ⟨ak, ay, an, au, .slice aa an2 ac⟩ d) → Below W0.heap.size W0 w → Lf w pl (x - 1) → Calls Tryz.prog 30 #[v, .int .i64 1, .pointer (some ⟨pl, 0, none⟩)] w (TX b1 x1 pl w) := c1
      by_cases hb1 : b1 = true
      · obtain ⟨b2, x2, q1, q2, q3, c2⟩ := IH m f x1 hm hfok (e3 hb1) (by omega)
        exact ⟨!b2, x2, q1, by omega, (fun h => q3 (by cases b2; cases h; rfl)), fun w bl bd => walk (!b2) x2 b1 b2 x1 x2 (.inr (.inr ⟨hneg, hnl, c1', .inr ⟨hb1, rfl, rfl, c2⟩⟩)) w bl bd⟩
      · exact ⟨true, x1, e1, by omega, (fun h => by cases h), fun w bl bd => walk true x1 b1 true x1 0 (.inr (.inr ⟨hneg, hnl, c1', .inl ⟨by simpa using hb1, rfl, rfl⟩⟩)) w bl bd⟩

set_option maxHeartbeats 4000000 in
/-- IndexFunc over a list of trees. -/
theorem xtindex (W0 : World) (pl bl bd len : Nat) (x : Int) (d : Nat → TrD) (f : Nat → Int → Bool × Int) (v : Value) (w : World) (hlen : len ≤ 4000000000000) (hv : LT w pl v len d) (hx : Lf w pl x) (h0 : 0 ≤ x) (hok : ∀ i, i < len → Tr12 enc W0 (d i))
    (C : ∀ (i : Nat) (y : Int) (W : World), i < len → 0 ≤ y → y ≤ x → w.grownBy W (some pl) → Lf W pl y → ((f i y).1 = false → 0 ≤ (f i y).2) ∧ (f i y).2 ≤ y ∧
      Calls Tryz.prog 64 #[(d i).val, .pointer (some ⟨bl, 0, none⟩), .pointer (some ⟨bd, 0, none⟩)] W (TX (f i y).1 (f i y).2 pl W)) :
    Calls Tryz.prog 96 #[v, .func (.func 64) #[] #[.pointer (some ⟨bl, 0, none⟩), .pointer (some ⟨bd, 0, none⟩)]] w fun e w' => ∃ r : Int, e = .returned (.int .i64 r) ∧ decide (0 ≤ r) = (scan f len 0 x).1 ∧ Lf w' pl (scan f len 0 x).2 ∧ w.grownBy w' (some pl) := by
  have HV := Lib.hid hv
  have HX := Lib.hid hx
  have HC := Lib.hid C
  have HOK := Lib.hid hok
  obtain ⟨va, vc, rfl, -⟩ := hv
  obtain ⟨S, hS⟩ : ∃ S, S = scan f len 0 x := ⟨_, rfl⟩
  rw [← hS]
  have HS := Lib.hid hS
  clear hx C hS hok
  go_enter Tryz.func96, Tryz.ntmps96
  go_wp2
  go_loopg [8] (len + 1) (fun g y wr => ∃ (k : Nat) (z : Int), k ≤ len ∧ len - k < g ∧ y = .int .i64 k ∧ 0 ≤ z ∧ z ≤ x ∧ Hid (S = scan f (len - k) k z) ∧ Hid (Lf wr pl z) ∧ Hid (w.grownBy wr (some pl)))
  case atStart => exact ⟨0, x, by omega, by omega, rfl, h0, Int.le_refl _, HS, HX, Lib.hid ⟨rfl, rfl, rfl, Nat.le_refl _, fun _ _ _ => rfl⟩⟩
  case round =>
    obtain ⟨k, z, hk, hgk, rfl, hz0, hz1, HSk, HL, HG⟩ := hrel
    obtain ⟨m, rfl⟩ : ∃ m, gk = m + 1 := ⟨gk - 1, by omega⟩
    by_cases hlt : k < len
    · have hsub : len - k = (len - (k + 1)) + 1 := by omega
      obtain ⟨a', cap', he, hr⟩ := HV.out.grown HG.out
      injection he with e1 e2 e3
      subst e1 e3
      obtain ⟨b, off, rfl, hbp, hbs, hel⟩ := hr (by omega)
      obtain ⟨ua, un, uc, hu, -⟩ := (HOK.out k hlt).ty.args.slice Tryz.underlying33 cells58 (by decide)
      injection hu with hu _
      obtain ⟨va2, vn2, vc2, hv2, -⟩ := (HOK.out k hlt).tys.slice Tryz.underlying33 cells58 (by decide)
      injection hv2 with hv2 _
      obtain ⟨ka2, kn2, kc2, hk2, -⟩ := (HOK.out k hlt).kids.slice Tryz.underlying34 cells70 (by decide)
      injection hk2 with hk2 _
      have e0 : wr.cell? ⟨b, off + k * 12, none⟩ = some (.int .i64 (d k).kd) := hel k hlt 0 (by decide)
      have e1 : wr.cell? ⟨b, off + k * 12 + 1, none⟩ = some (.int .i64 (d k).sy) := hel k hlt 1 (by decide)
      have e2' : wr.cell? ⟨b, off + k * 12 + 2, none⟩ = some (.int .i64 (d k).nu) := hel k hlt 2 (by decide)
      have e3 : wr.cell? ⟨b, off + k * 12 + 3, none⟩ = some (.string (d k).tx) := hel k hlt 3 (by decide)
      have e4 : wr.cell? ⟨b, off + k * 12 + 4, none⟩ = some (.int .i64 (d k).ak) := hel k hlt 4 (by decide)
      have e5 : wr.cell? ⟨b, off + k * 12 + 5, none⟩ = some (.int .i64 (d k).ay) := hel k hlt 5 (by decide)
      have e6 : wr.cell? ⟨b, off + k * 12 + 6, none⟩ = some (.string (d k).an) := hel k hlt 6 (by decide)
      have e7 : wr.cell? ⟨b, off + k * 12 + 7, none⟩ = some (.int .i64 (d k).au) := hel k hlt 7 (by decide)
      have e8 : wr.cell? ⟨b, off + k * 12 + 8, none⟩ = some (d k).av := hel k hlt 8 (by decide)
      have e9 : wr.cell? ⟨b, off + k * 12 + 9, none⟩ = some (d k).tv := hel k hlt 9 (by decide)
      have e10 : wr.cell? ⟨b, off + k * 12 + 10, none⟩ = some (d k).kv := hel k hlt 10 (by decide)
      have e11 : wr.cell? ⟨b, off + k * 12 + 11, none⟩ = some (.int .i64 (d k).at_) := hel k hlt 11 (by decide)
      rw [hu] at e8
      rw [hv2] at e9
      rw [hk2] at e10
      obtain ⟨hc1, hc2, cc⟩ := HC.out k z wr hlt hz0 hz1 HG.out HL.out
      unfold TrD.val at cc
      rw [hu, hv2, hk2] at cc
      obtain ⟨fb, hfb⟩ : ∃ fb, fb = (f k z).1 := ⟨_, rfl⟩
      obtain ⟨fx, hfx⟩ : ∃ fx, fx = (f k z).2 := ⟨_, rfl⟩
      rw [← hfb, ← hfx] at cc
      rw [← hfb, ← hfx] at hc1
      rw [← hfx] at hc2
      have HST : Hid (S = if fb = true then (true, fx) else scan f (len - (k + 1)) (k + 1) fx) := Lib.hid (by
        rw [HSk.out, hsub, scan, ← hfb, ← hfx])
      clear hsub
      have HC1 := Lib.hid hc1
      clear hr hel hfb hfx hc1 hu hv2 hk2
      go_wp2_with fail
      refine cc.mono ?_
      rintro e w3 ⟨rfl, h3, h7⟩
      have H3 := Lib.hid (And.intro h3 h7)
      clear h3 h7 cc e0 e1 e2' e3 e4 e5 e6 e7 e8 e9 e10 e11
      cases fb with
      | true =>
        go_wp2
        go_ret
        refine ⟨(k : Int), rfl, ?_, ?_, HG.out.trans H3.out.2⟩
        · rw [HST.out]; simp
        · rw [HST.out]; exact H3.out.1
      | false =>
        go_wp2
        go_roundg m
        case measure => omega
        case rel => exact ⟨k + 1, fx, by omega, by omega, by go_num, HC1.out (by trivial), by omega, Lib.hid (by rw [HST.out]; simp), Lib.hid H3.out.1, Lib.hid (HG.out.trans H3.out.2)⟩
    · have hke : len - k = 0 := by omega
      go_wp2
      go_ret
      have h := HSk.out
      rw [hke, scan] at h
      rw [h]
      exact ⟨-1, rfl, rfl, HL.out, HG.out⟩

/-- What Trees does with a list, told by its data. -/
def XTT (enc : TypeId × Value → H) (W0 : World) (pl : Nat) (deep : Int) : Prop :=
  ∀ (len : Nat) (d : Nat → TrD) (x : Int), len ≤ 4000000000000 → (∀ i, i < len → Tr12 enc W0 (d i)) → 0 ≤ x → x ≤ 3000 → ∃ (b : Bool) (x' : Int), -1 ≤ x' ∧ x' ≤ x ∧ (b = true → 0 ≤ x') ∧ ∀ (w : World) (v : Value), LT w pl v len d → Below W0.heap.size W0 w → Lf w pl x → Calls Tryz.prog 31 #[v, .int .i64 deep, .pointer (some ⟨pl, 0, none⟩)] w (TX b x' pl w)
set_option maxHeartbeats 4000000 in
theorem xtrees (W0 : World) (pl : Nat) (hp : W0.heap.size ≤ pl) : ∀ (D : Nat) (deep : Int), 1 ≤ deep → deep ≤ 201 → 201 - deep ≤ D → XTT enc W0 pl deep := by
  intro D
  induction D with
  | zero =>
    intro deep hd0 hd1 hD len d x hlen hok h0 h1
    refine ⟨false, x, by omega, Int.le_refl _, (fun h => by cases h), fun w v hv hb hx => ?_⟩
    obtain ⟨W, hW⟩ : ∃ W, (w.alloc (.cells #[.int .i64 deep] 3)).alloc (.cells #[.pointer (some ⟨pl, 0, none⟩)] 66) = W := ⟨_, rfl⟩
    have hplt : pl < w.heap.size := (Array.getElem?_eq_some_iff.1 hx).1
    have hx2 : Lf W pl x := by rw [← hW]; show ((w.alloc _).alloc _).heap[pl]? = _; rw [Below.heap_alloc _ _ _ (by simp; omega), Below.heap_alloc _ _ _ hplt]; exact hx
    have hg2 : w.grownBy W (some pl) := by rw [← hW]; exact (grown_alloc _).trans (grown_alloc _)
    obtain rfl : deep = 201 := by omega
    obtain ⟨va, vc, rfl, -⟩ := hv
    have HX := Lib.hid hx2
    have HG := Lib.hid hg2
    have HW := Lib.hid hW
    clear hx hx2 hg2 hW hb hok
    go_enter Tryz.func31, Tryz.ntmps31
    go_wp2
    go_ret
    rw [HW.out]
    exact ⟨rfl, HX.out, HG.out⟩
  | succ D ih =>
    intro deep hd0 hd1 hD
    by_cases h71 : deep = 201
    · exact ih deep hd0 hd1 (by omega)
    · intro len d x hlen hok h0 h1
      have hx2 := ih (deep + 1) (by omega) (by omega) (by omega)
      have each : ∀ p : Nat × Int, ∃ r : Bool × Int, p.1 < len → 0 ≤ p.2 → p.2 ≤ 3000 → -1 ≤ r.2 ∧ r.2 ≤ p.2 ∧ (r.1 = false → 0 ≤ r.2) ∧ ∀ (w : World) (bl bd : Nat), Below W0.heap.size W0 w → Lf w pl p.2 → w.heap[bl]? = some (.cells #[.pointer (some ⟨pl, 0, none⟩)] 66 (0, 0)) → w.heap[bd]? = some (.cells #[.int .i64 deep] 3 (0, 0)) → bl ≠ pl → bd ≠ pl →
          Calls Tryz.prog 64 #[(d p.1).val, .pointer (some ⟨bl, 0, none⟩), .pointer (some ⟨bd, 0, none⟩)] w (TX r.1 r.2 pl w) := by
        intro p
        by_cases hp1 : p.1 < len ∧ 0 ≤ p.2 ∧ p.2 ≤ 3000
        · obtain ⟨b, x', e1, e2, e3, e4⟩ := xtclo W0 pl hp p.2 deep (d p.1) (hok p.1 hp1.1) hp1.2.1 hp1.2.2 hd1 (by omega) (fun len d x hl => hx2 len d x (by omega))
          exact ⟨(b, x'), fun _ _ _ => ⟨e1, e2, e3, e4⟩⟩
        · exact ⟨(false, 0), fun h1 h2 h3 => absurd ⟨h1, h2, h3⟩ hp1⟩
      obtain ⟨f0, hf0⟩ := Classical.axiomOfChoice each
      obtain ⟨f, hf⟩ : ∃ f : Nat → Int → Bool × Int, f = fun i y => f0 (i, y) := ⟨_, rfl⟩
      have hff : ∀ i y, i < len → 0 ≤ y → y ≤ 3000 → -1 ≤ (f i y).2 ∧ (f i y).2 ≤ y ∧ ((f i y).1 = false → 0 ≤ (f i y).2) ∧ ∀ (w : World) (bl bd : Nat), Below W0.heap.size W0 w → Lf w pl y → w.heap[bl]? = some (.cells #[.pointer (some ⟨pl, 0, none⟩)] 66 (0, 0)) → w.heap[bd]? = some (.cells #[.int .i64 deep] 3 (0, 0)) → bl ≠ pl → bd ≠ pl →
          Calls Tryz.prog 64 #[(d i).val, .pointer (some ⟨bl, 0, none⟩), .pointer (some ⟨bd, 0, none⟩)] w (TX (f i y).1 (f i y).2 pl w) := fun i y a b c => by rw [hf]; exact hf0 (i, y) a b c
      obtain ⟨s1, s2, s3⟩ := scan_bd f x len 0 x (fun i y _ hi hy hy2 => by obtain ⟨a, b, c, _⟩ := hff i y (by omega) hy (by omega); exact ⟨a, b, c⟩) h0 (Int.le_refl _)
      refine ⟨!(scan f len 0 x).1, (scan f len 0 x).2, s1, s2, (fun h => s3 (by simpa using h)), fun w v hv hb hx => ?_⟩
      clear each hf0 hx2 ih s1 s2 s3
      have hplt : pl < w.heap.size := (Array.getElem?_eq_some_iff.1 hx).1
      obtain ⟨W, hW⟩ : ∃ W, (w.alloc (.cells #[.int .i64 deep] 3)).alloc (.cells #[.pointer (some ⟨pl, 0, none⟩)] 66) = W := ⟨_, rfl⟩
      have hg2 : w.grownBy W (some pl) := by rw [← hW]; exact (grown_alloc _).trans (grown_alloc _)
      have hx2 : Lf W pl x := by rw [← hW]; show ((w.alloc _).alloc _).heap[pl]? = _; rw [Below.heap_alloc _ _ _ (by simp; omega), Below.heap_alloc _ _ _ hplt]; exact hx
      have hbd : W.heap[w.heap.size]? = some (.cells #[.int .i64 deep] 3 (0, 0)) := by rw [← hW, Below.heap_alloc _ _ _ (by simp)]; exact heap_alloc_new w _
      have hbl : W.heap[w.heap.size + 1]? = some (.cells #[.pointer (some ⟨pl, 0, none⟩)] 66 (0, 0)) := by
        rw [← hW]
        have h := heap_alloc_new (w.alloc (.cells #[.int .i64 deep] 3)) (.cells #[.pointer (some ⟨pl, 0, none⟩)] 66)
        rw [World.size_alloc] at h; exact h
      have hbW : Below W0.heap.size W0 W := hb.grown hg2 hb.size (fun k hk => by injection hk; omega)
      have cI := xtindex W0 pl (w.heap.size + 1) w.heap.size len x d f v W hlen (hv.grown hg2) hx2 h0 hok (fun i y V hi hy hy2 hg hz => by
        obtain ⟨a, b, c, e⟩ := hff i y hi hy (by omega)
        exact ⟨c, b, e V (w.heap.size + 1) w.heap.size (hbW.grown hg hbW.size (fun k hk => by injection hk; omega)) hz
          ((hg.block _ (Array.getElem?_eq_some_iff.1 hbl).1 (fun e => by injection e; omega)).trans hbl) ((hg.block _ (Array.getElem?_eq_some_iff.1 hbd).1 (fun e => by injection e; omega)).trans hbd) (by omega) (by omega)⟩)
      obtain ⟨S, hS⟩ : ∃ S, S = scan f len 0 x := ⟨_, rfl⟩
      rw [← hS] at cI ⊢
      obtain ⟨Sb, Sx⟩ := S
      simp only at cI ⊢
      have c4 := blk_cell hbd 0
      have HG := Lib.hid hg2
      have HW := Lib.hid hW
      have hd200 : decide (deep ≤ 200) = true := by simp; omega
      clear hS hff hok
      have c63 : Calls Tryz.prog 63 #[v, .func (.func 64) #[] #[.pointer (some ⟨w.heap.size + 1, 0, none⟩), .pointer (some ⟨w.heap.size, 0, none⟩)]] W (TX Sb Sx pl W) := by
        clear c4 hd200
        obtain ⟨va, vc, rfl, -⟩ := hv
        clear hg2 hW hx2 hbd hbl hbW hb hx
        go_enter Tryz.func63, Tryz.ntmps63
        go_wp2_with fail
        refine cI.mono ?_
        rintro e w3 ⟨r, rfl, hr, h3, h7⟩
        have H3 := Lib.hid (And.intro h3 h7)
        clear h3 h7 cI
        cases Sb with
        | true =>
          go_wp2
          go_ret
          exact ⟨rfl, H3.out.1, H3.out.2⟩
        | false =>
          go_wp2
          go_ret
          exact ⟨rfl, H3.out.1, H3.out.2⟩
      obtain ⟨va, vc, rfl, -⟩ := hv
      clear cI hg2 hW hx2 hbd hbl hbW hb hx h71
      go_enter Tryz.func31, Tryz.ntmps31
      go_upto_region 1 with fail
      rw [HW.out]
      go_wp2_with fail
      refine c63.mono ?_
      rintro e w3 ⟨rfl, h3, h7⟩
      have H3 := Lib.hid (And.intro h3 h7)
      clear h3 h7 c63 c4
      cases Sb with
      | true =>
        go_wp2
        go_ret
        exact ⟨rfl, H3.out.1, HG.out.trans H3.out.2⟩
      | false =>
        go_wp2
        go_ret
        exact ⟨rfl, H3.out.1, HG.out.trans H3.out.2⟩
end Go.Proofs.YtlipfgdjbimfjaaGreatDoor
