/- Lists of types with their data told: what Few's counting does hangs on the data alone. -/
import Derived.Test.YtlipfgdjbimfjaaGreatDoorF2
namespace Go.Proofs.YtlipfgdjbimfjaaGreatDoor
open Go.RowKit Go.Shelf Go.Sort
set_option maxRecDepth 100000

variable {H : Type} {enc : TypeId × Value → H}
/-- A type's cells as data. -/
structure TyT where
  kd : Int
  sy : Int
  nm : ByteArray
  nu : Int
  u : Value
abbrev TyT.ok (enc : TypeId × Value → H) (W0 : World) (t : TyT) : Prop := Ty5 enc W0 [.int .i64 t.kd, .int .i64 t.sy, .string t.nm, .int .i64 t.nu, t.u] t.kd t.sy t.nm t.nu t.u
abbrev TyT.val (t : TyT) : Value := .agg #[.int .i64 t.kd, .int .i64 t.sy, .string t.nm, .int .i64 t.nu, t.u]
def TyT.at (t : TyT) (w : World) (b o : Nat) : Prop := w.cell? ⟨b, o, none⟩ = some (.int .i64 t.kd) ∧ w.cell? ⟨b, o + 1, none⟩ = some (.int .i64 t.sy) ∧ w.cell? ⟨b, o + 2, none⟩ = some (.string t.nm) ∧ w.cell? ⟨b, o + 3, none⟩ = some (.int .i64 t.nu) ∧ w.cell? ⟨b, o + 4, none⟩ = some t.u
theorem TyT.at.of {t : TyT} {w w' : World} {b o : Nat} (h : t.at w b o) (hk : w'.heap[b]? = w.heap[b]?) : t.at w' b o := by
  obtain ⟨e0, e1, e2, e3, e4⟩ := h
  exact ⟨(World.cell?_of_block (a := ⟨b, _, none⟩) hk).trans e0, (World.cell?_of_block (a := ⟨b, _, none⟩) hk).trans e1, (World.cell?_of_block (a := ⟨b, _, none⟩) hk).trans e2, (World.cell?_of_block (a := ⟨b, _, none⟩) hk).trans e3, (World.cell?_of_block (a := ⟨b, _, none⟩) hk).trans e4⟩
/-- A list of types in memory, not in the box pl. -/
def LD (w : World) (pl : Nat) (v : Value) (len : Nat) (d : Nat → TyT) : Prop :=
  ∃ a cap, v = .slice a len cap ∧ (0 < len → ∃ b off, a = some ⟨b, off, none⟩ ∧ b ≠ pl ∧ b < w.heap.size ∧ ∀ i, i < len → (d i).at w b (off + i * 5))
theorem LD.grown {w w' : World} {pl len : Nat} {v : Value} {d : Nat → TyT} (h : LD w pl v len d) (hg : w.grownBy w' (some pl)) : LD w' pl v len d := by
  obtain ⟨a, cap, h1, h3⟩ := h
  refine ⟨a, cap, h1, fun hp => ?_⟩
  obtain ⟨b, off, h4, h5, h6, h7⟩ := h3 hp
  have hk : w'.heap[b]? = w.heap[b]? := hg.block b h6 (fun e => h5 (by injection e))
  exact ⟨b, off, h4, h5, Nat.lt_of_lt_of_le h6 hg.size, fun i hi => (h7 i hi).of hk⟩
/-- The data of an old list. -/
theorem ld_old {W0 : World} {v : Value} (h : Rv enc Tryz.prog W0 33 [v]) : ∃ (len : Nat) (d : Nat → TyT), len ≤ 2199023255488 ∧ (∀ i, i < len → (d i).ok enc W0) ∧ ∀ (w : World) (pl : Nat), Below W0.heap.size W0 w → W0.heap.size ≤ pl → LD w pl v len d := by
  obtain ⟨a, len, cap, he, _, hz, hr⟩ := h.slice Tryz.underlying33 cells58 (by decide)
  rw [bytes58] at hz
  injection he with he _
  by_cases h0 : 0 < len
  · obtain ⟨b, off, h1, h2, h3⟩ := hr h0
    have each : ∀ i : Nat, ∃ t : TyT, i < len → t.ok enc W0 ∧ t.at W0 b (off + i * 5) := by
      intro i
      by_cases hi : i < len
      · obtain ⟨cs, hl, hc, hrv⟩ := h3 i hi
        obtain ⟨kd, sy, nm, nu, u, t⟩ := rv_type hrv
        have e := t.eq
        subst e
        exact ⟨⟨kd, sy, nm, nu, u⟩, fun _ => ⟨t, hc 0 (by omega), hc 1 (by omega), hc 2 (by omega), hc 3 (by omega), hc 4 (by omega)⟩⟩
      · exact ⟨⟨0, 0, ByteArray.empty, 0, undef⟩, fun h => absurd h hi⟩
    obtain ⟨d, hd⟩ := Classical.axiomOfChoice each
    refine ⟨len, d, by unfold reachBytes at hz; omega, fun i hi => (hd i hi).1, fun w pl hb hp => ⟨a, cap, he, fun _ => ⟨b, off, h1, by omega, by have := hb.size; omega, fun i hi => (hd i hi).2.of (hb.block b h2)⟩⟩⟩
  · exact ⟨len, fun _ => ⟨0, 0, ByteArray.empty, 0, undef⟩, by omega, fun i hi => absurd hi (by omega), fun w pl _ _ => ⟨a, cap, he, fun h => absurd h h0⟩⟩
/-- What a call leaves whose answer and count are known. -/
def TX (b : Bool) (x' : Int) (pl : Nat) (w : World) (e : Ending) (w' : World) : Prop := e = .returned (.bool b) ∧ Lf w' pl x' ∧ w.grownBy w' (some pl)

set_option maxHeartbeats 4000000 in
/-- The closure of Types: its answer and count hang on the type and the count alone. -/
theorem xclo (W0 : World) (pl : Nat) (hp : W0.heap.size ≤ pl) (x deep : Int) (t : TyT) (ht : t.ok enc W0) (h0 : 0 ≤ x) (h1 : x ≤ 3000) (hd : deep ≤ 71) (hd0 : 0 ≤ deep)
    (IH : ∀ (len : Nat) (d : Nat → TyT) (x : Int), len ≤ 2199023255488 → (∀ i, i < len → (d i).ok enc W0) → 0 ≤ x → x ≤ 3000 → ∃ (b : Bool) (x' : Int), -1 ≤ x' ∧ x' ≤ x ∧ (b = true → 0 ≤ x') ∧ ∀ (w : World) (v : Value), LD w pl v len d → Below W0.heap.size W0 w → Lf w pl x → Calls Tryz.prog 30 #[v, .int .i64 (deep + 1), .pointer (some ⟨pl, 0, none⟩)] w (TX b x' pl w)) :
    ∃ (b : Bool) (x' : Int), -1 ≤ x' ∧ x' ≤ x ∧ (b = false → 0 ≤ x') ∧ ∀ (w : World) (bl bd : Nat), Below W0.heap.size W0 w → Lf w pl x → w.heap[bl]? = some (.cells #[.pointer (some ⟨pl, 0, none⟩)] 66 (0, 0)) → w.heap[bd]? = some (.cells #[.int .i64 deep] 3 (0, 0)) → bl ≠ pl → bd ≠ pl →
      Calls Tryz.prog 62 #[t.val, .pointer (some ⟨bl, 0, none⟩), .pointer (some ⟨bd, 0, none⟩)] w (TX b x' pl w) := by
  obtain ⟨kd, sy, nm, nu, u⟩ := t
  have HT := Lib.hid ht
  obtain ⟨len, d, hlen, hdok, hld⟩ := ld_old ht.args
  obtain ⟨va, vn, vc, hv, -⟩ := ht.args.slice Tryz.underlying33 cells58 (by decide)
  injection hv with hv _
  simp only at hv
  subst hv
  have key : ∀ (b : Bool) (x' : Int), ((x - 1 < 0 ∧ b = true ∧ x' = x - 1) ∨ (¬ x - 1 < 0 ∧ 100 < (nm.size : Int) ∧ b = true ∧ x' = x - 1) ∨ (¬ x - 1 < 0 ∧ ¬ 100 < (nm.size : Int) ∧ ∀ (w : World) (v : Value), LD w pl v len d → Below W0.heap.size W0 w → Lf w pl (x - 1) → Calls Tryz.prog 30 #[v, .int .i64 (deep + 1), .pointer (some ⟨pl, 0, none⟩)] w (TX (!b) x' pl w))) →
      ∀ (w : World) (bl bd : Nat), Below W0.heap.size W0 w → Lf w pl x → w.heap[bl]? = some (.cells #[.pointer (some ⟨pl, 0, none⟩)] 66 (0, 0)) → w.heap[bd]? = some (.cells #[.int .i64 deep] 3 (0, 0)) → bl ≠ pl → bd ≠ pl →
      Calls Tryz.prog 62 #[.agg #[.int .i64 kd, .int .i64 sy, .string nm, .int .i64 nu, .slice va vn vc], .pointer (some ⟨bl, 0, none⟩), .pointer (some ⟨bd, 0, none⟩)] w (TX b x' pl w) := by
    intro b x' hcase w bl bd hb hx hbl hbd hne hne2
    obtain ⟨W1, hW1⟩ : ∃ W1, w.alloc (.cells #[.int .i64 kd, .int .i64 sy, .string nm, .int .i64 nu, .slice va vn vc] 58) = W1 := ⟨_, rfl⟩
    have hg1 : w.grownBy W1 (some pl) := by rw [← hW1]; exact grown_alloc _
    have hplt : pl < w.heap.size := (Array.getElem?_eq_some_iff.1 hx).1
    have hx1 : Lf W1 pl x := by rw [← hW1]; show (w.alloc _).heap[pl]? = _; rw [Below.heap_alloc _ _ _ hplt]; exact hx
    have hbl1 : W1.heap[bl]? = some (.cells #[.pointer (some ⟨pl, 0, none⟩)] 66 (0, 0)) := (hg1.block bl (Array.getElem?_eq_some_iff.1 hbl).1 (fun e => hne (by injection e))).trans hbl
    have hbx1 : W1.heap[w.heap.size]? = some (.cells #[.int .i64 kd, .int .i64 sy, .string nm, .int .i64 nu, .slice va vn vc] 58 (0, 0)) := by rw [← hW1]; exact heap_alloc_new w _
    have c1 := blk_cell hbl1 0
    have x1 := blk_cell hx1 0
    have y1 := blk_free hx1 0
    have hxm : IntKind.i64.wrap (x - 1) = x - 1 := IntWalk.i64_in _ (by omega)
    obtain ⟨W2, hW2⟩ : ∃ W2, W1.setCell ⟨pl, 0, none⟩ (.int .i64 (x - 1)) = W2 := ⟨_, rfl⟩
    have hg2 : w.grownBy W2 (some pl) := hg1.trans (by rw [← hW2]; exact grown_set _)
    have hx2 : Lf W2 pl (x - 1) := by rw [← hW2]; exact blk_set hx1 0 _
    have hbl2 := (hg2.block bl (Array.getElem?_eq_some_iff.1 hbl).1 (fun e => hne (by injection e))).trans hbl
    have hbd2 := (hg2.block bd (Array.getElem?_eq_some_iff.1 hbd).1 (fun e => hne2 (by injection e))).trans hbd
    have hbx2 : W2.heap[w.heap.size]? = some (.cells #[.int .i64 kd, .int .i64 sy, .string nm, .int .i64 nu, .slice va vn vc] 58 (0, 0)) := by
      rw [← hW2, Below.heap_setCell _ _ _ _ (by intro e; have e2 : w.heap.size = pl := e; omega)]; exact hbx1
    have c2 := blk_cell hbl2 0
    have x2 := blk_cell hx2 0
    have d2 := blk_cell hbd2 0
    have t2 := blk_cell hbx2 2
    have t4 := blk_cell hbx2 4
    have hb2 : Below W0.heap.size W0 W2 := hb.grown hg2 hb.size (fun k hk => by injection hk; omega)
    have hlv := hld W2 pl hb2 hp
    have hz := HT.out.sz
    simp only at hz
    have HW1 := Lib.hid hW1
    have HW2 := Lib.hid hW2
    have HG2 := Lib.hid hg2
    have HX2 := Lib.hid hx2
    have HB2 := Lib.hid hb2
    have HLV := Lib.hid hlv
    have hd1 : IntKind.i64.wrap (deep + 1) = deep + 1 := IntWalk.i64_in _ (by omega)
    have HCASE := Lib.hid hcase
    clear hW1 hg1 hx1 hbl1 hbx1 hW2 hg2 hx2 hbl2 hbd2 hbx2 hlv hbl hbd hx hb hne hne2 hb2 hcase IH hld hdok ht
    go_enter Tryz.func62, Tryz.ntmps62
    go_upto_region 1 with fail
    rw [HW1.out]
    go_upto_region 2 with fail
    rw [HW2.out]
    clear c1 x1 y1 hxm
    rcases HCASE.out with ⟨hneg, rfl, rfl⟩ | ⟨hneg, hnl, rfl, rfl⟩ | ⟨hneg, hnl, cI⟩
    · have hd2 : decide (x - 1 < 0) = true := by simpa using hneg
      go_wp2
      go_ret
      exact ⟨rfl, HX2.out, HG2.out⟩
    · have hd2 : decide (x - 1 < 0) = false := by simpa using hneg
      have hd3 : decide (100 < (nm.size : Int)) = true := by simpa using hnl
      go_wp2
      go_ret
      exact ⟨rfl, HX2.out, HG2.out⟩
    · have hd2 : decide (x - 1 < 0) = false := by simpa using hneg
      have hd3 : decide (100 < (nm.size : Int)) = false := by simpa using hnl
      have cI2 := cI W2 _ HLV.out HB2.out HX2.out
      clear cI
      go_wp2_with fail
      refine cI2.mono ?_
      rintro e w3 ⟨rfl, h3, h7⟩
      have H3 := Lib.hid (And.intro h3 h7)
      clear h3 h7 cI2 c2 x2 d2 t2 t4
      cases b with
      | true =>
        go_wp2
        go_ret
        exact ⟨rfl, H3.out.1, HG2.out.trans H3.out.2⟩
      | false =>
        go_wp2
        go_ret
        exact ⟨rfl, H3.out.1, HG2.out.trans H3.out.2⟩
  by_cases hneg : x - 1 < 0
  · exact ⟨true, x - 1, by omega, by omega, (fun h => by cases h), key true (x - 1) (.inl ⟨hneg, rfl, rfl⟩)⟩
  · by_cases hnl : 100 < (nm.size : Int)
    · exact ⟨true, x - 1, by omega, by omega, (fun h => by cases h), key true (x - 1) (.inr (.inl ⟨hneg, hnl, rfl, rfl⟩))⟩
    · obtain ⟨b, x', e1, e2, e3, hcall⟩ := IH len d (x - 1) hlen hdok (by omega) (by omega)
      refine ⟨!b, x', e1, by omega, (fun h => e3 (by cases b; cases h; rfl)), key (!b) x' (.inr (.inr ⟨hneg, hnl, ?_⟩))⟩
      rw [Bool.not_not]
      exact hcall
end Go.Proofs.YtlipfgdjbimfjaaGreatDoor
