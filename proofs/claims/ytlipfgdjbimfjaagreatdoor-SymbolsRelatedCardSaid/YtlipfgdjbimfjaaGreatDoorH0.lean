/- Lists of structs of k cells with their cells told; the parts of a program as data. -/
import Derived.Test.YtlipfgdjbimfjaaGreatDoorG11
namespace Go.Proofs.YtlipfgdjbimfjaaGreatDoor
open Go.RowKit Go.Shelf Go.Sort
set_option maxRecDepth 100000

variable {H : Type} {enc : TypeId × Value → H}
/-- A list of structs of k cells in memory, not in the box pl. -/
def LS (k : Nat) (w : World) (pl : Nat) (v : Value) (len : Nat) (d : Nat → List Value) : Prop :=
  ∃ a cap, v = .slice a len cap ∧ (0 < len → ∃ b off, a = some ⟨b, off, none⟩ ∧ b ≠ pl ∧ b < w.heap.size ∧ ∀ i, i < len → ∀ j, j < k → w.cell? ⟨b, off + i * k + j, none⟩ = (d i)[j]?)
theorem LS.grown {k : Nat} {w w' : World} {pl len : Nat} {v : Value} {d : Nat → List Value} (h : LS k w pl v len d) (hg : w.grownBy w' (some pl)) : LS k w' pl v len d := by
  obtain ⟨a, cap, h1, h3⟩ := h
  refine ⟨a, cap, h1, fun hp => ?_⟩
  obtain ⟨b, off, h4, h5, h6, h7⟩ := h3 hp
  have hk : w'.heap[b]? = w.heap[b]? := hg.block b h6 (fun e => h5 (by injection e))
  exact ⟨b, off, h4, h5, Nat.lt_of_lt_of_le h6 hg.size, fun i hi j hj => (World.cell?_of_block (a := ⟨b, _, none⟩) hk).trans (h7 i hi j hj)⟩
/-- The data of an old list. -/
theorem ls_old {W0 : World} {t e : TypeId} {k : Nat} {v : Value} (ht : Tryz.prog.underlying t = some (.slice e)) (hk : Tryz.prog.cellsOf e = k) (hk0 : 0 < k) (hB : 8 ≤ Tryz.prog.bytesOf e) (h : Rv enc Tryz.prog W0 t [v]) :
    ∃ (len : Nat) (d : Nat → List Value), len ≤ 17592186044416 ∧ (∀ i, i < len → (d i).length = k ∧ Rv enc Tryz.prog W0 e (d i)) ∧ (∃ a cap, v = .slice a len cap) ∧ ∀ (w : World) (pl : Nat), Below W0.heap.size W0 w → W0.heap.size ≤ pl → LS k w pl v len d := by
  obtain ⟨a, len, cap, he, _, hz, hr⟩ := h.slice ht hk hk0
  have hz2 : len * 8 ≤ reachBytes := Nat.le_trans (Nat.mul_le_mul_left _ hB) hz
  injection he with he _
  by_cases h0 : 0 < len
  · obtain ⟨b, off, h1, h2, h3⟩ := hr h0
    have each : ∀ i : Nat, ∃ t : List Value, i < len → (t.length = k ∧ Rv enc Tryz.prog W0 e t) ∧ ∀ j, j < k → W0.cell? ⟨b, off + i * k + j, none⟩ = t[j]? := by
      intro i
      by_cases hi : i < len
      · obtain ⟨cs, hl, hc, hrv⟩ := h3 i hi
        exact ⟨cs, fun _ => ⟨⟨hl, hrv⟩, hc⟩⟩
      · exact ⟨[], fun h => absurd h hi⟩
    obtain ⟨d, hd⟩ := Classical.axiomOfChoice each
    refine ⟨len, d, by unfold reachBytes at hz2; omega, fun i hi => (hd i hi).1, ⟨a, cap, he⟩, fun w pl hb hp => ⟨a, cap, he, fun _ => ⟨b, off, h1, by omega, by have := hb.size; omega, fun i hi j hj => (hb.cell (p := ⟨b, off + i * k + j, none⟩) h2).trans ((hd i hi).2 j hj)⟩⟩⟩
  · exact ⟨len, fun _ => [], by omega, fun i hi => absurd hi (by omega), ⟨a, cap, he⟩, fun w pl _ _ => ⟨a, cap, he, fun h => absurd h h0⟩⟩
theorem cells36 : Tryz.prog.cellsOf 36 = 13 := by kernel_rfl
theorem cells63 : Tryz.prog.cellsOf 63 = 13 := by kernel_rfl
theorem cells72 : Tryz.prog.cellsOf 72 = 9 := by kernel_rfl
theorem cells74 : Tryz.prog.cellsOf 74 = 15 := by kernel_rfl
theorem cells32 : Tryz.prog.cellsOf 32 = 1 := by kernel_rfl
theorem cells60 : Tryz.prog.cellsOf 60 = 1 := by kernel_rfl
theorem cells61 : Tryz.prog.cellsOf 61 = 1 := by kernel_rfl
theorem bytes36 : 8 ≤ Tryz.prog.bytesOf 36 := by rw [show Tryz.prog.bytesOf 36 = 240 by kernel_rfl]; decide
theorem bytes63 : 8 ≤ Tryz.prog.bytesOf 63 := by rw [show Tryz.prog.bytesOf 63 = 168 by kernel_rfl]; decide
theorem bytes72 : 8 ≤ Tryz.prog.bytesOf 72 := by rw [show Tryz.prog.bytesOf 72 = 104 by kernel_rfl]; decide
theorem bytes74 : 8 ≤ Tryz.prog.bytesOf 74 := by rw [show Tryz.prog.bytesOf 74 = 176 by kernel_rfl]; decide
theorem bytes3 : Tryz.prog.bytesOf 3 = 8 := by kernel_rfl
/-- A slice of ints as a value. -/
theorem rv_ints {W0 : World} {v : Value} (h : Rv enc Tryz.prog W0 32 [v]) : ∃ a len cap, v = .slice a len cap ∧ len ≤ 17592186044416 := by
  obtain ⟨a, len, cap, he, _, hz, -⟩ := h.slice Tryz.underlying32 cells3 (by decide)
  rw [bytes3] at hz
  injection he with he _
  exact ⟨a, len, cap, he, by unfold reachBytes at hz; omega⟩
theorem nine {α : Type} {l : List α} (h : l.length = 9) : ∃ a b c d e f g i j, l = [a, b, c, d, e, f, g, i, j] := by
  match l, h with
  | [a, b, c, d, e, f, g, i, j], _ => exact ⟨a, b, c, d, e, f, g, i, j, rfl⟩
theorem fifteen {α : Type} {l : List α} (h : l.length = 15) : ∃ a b c d e f g i j k m n o p q, l = [a, b, c, d, e, f, g, i, j, k, m, n, o, p, q] := by
  match l, h with
  | [a, b, c, d, e, f, g, i, j, k, m, n, o, p, q], _ => exact ⟨a, b, c, d, e, f, g, i, j, k, m, n, o, p, q, rfl⟩
/-- A class's cells. -/
structure ClD where
  nm : ByteArray
  kd : Int
  fl : Int
  ow : Int
  ta : Option Addr
  tn : Nat
  tc : Nat
  pv : Value
  qa : Option Addr
  qn : Nat
  qc : Nat
  fa : Option Addr
  fn : Nat
  fc : Nat
  ma : Option Addr
  mn : Nat
  mc : Nat
  ya : Option Addr
  yn : Nat
  yc : Nat
  sv : Value
  iv : Value
  at_ : Int
abbrev ClD.cells (t : ClD) : List Value := [.string t.nm, .int .i64 t.kd, .int .i64 t.fl, .int .i64 t.ow, .slice t.ta t.tn t.tc, t.pv, .slice t.qa t.qn t.qc, .slice t.fa t.fn t.fc, .slice t.ma t.mn t.mc, .slice t.ya t.yn t.yc, t.sv, t.iv, .int .i64 t.at_]
structure ClD.ok (enc : TypeId × Value → H) (W0 : World) (t : ClD) : Prop where
  sz : t.nm.size ≤ 140737488351232
  tn : t.tn ≤ 17592186044416
  qn : t.qn ≤ 17592186044416
  fn : t.fn ≤ 17592186044416
  mn : t.mn ≤ 17592186044416
  yn : t.yn ≤ 17592186044416
  pv : Rv enc Tryz.prog W0 33 [t.pv]
  sv : Rv enc Tryz.prog W0 34 [t.sv]
  iv : Rv enc Tryz.prog W0 34 [t.iv]
theorem rv_class {W0 : World} {cs : List Value} (h : Rv enc Tryz.prog W0 36 cs) : ∃ t : ClD, cs = t.cells ∧ t.ok enc W0 := by
  obtain ⟨hl, hf⟩ := h.field Tryz.underlying36
  rw [cells36] at hl
  obtain ⟨c0, c1, c2, c3, c4, c5, c6, c7, c8, c9, c10, c11, c12, rfl⟩ := thirteen hl
  have f0 : Rv enc Tryz.prog W0 9 (([c0, c1, c2, c3, c4, c5, c6, c7, c8, c9, c10, c11, c12].drop 0).take (Tryz.prog.cellsOf 9)) := hf 0 _ rfl
  rw [cells9] at f0
  have f1 : Rv enc Tryz.prog W0 3 (([c0, c1, c2, c3, c4, c5, c6, c7, c8, c9, c10, c11, c12].drop 1).take (Tryz.prog.cellsOf 3)) := hf 1 _ rfl
  rw [cells3] at f1
  have f2 : Rv enc Tryz.prog W0 3 (([c0, c1, c2, c3, c4, c5, c6, c7, c8, c9, c10, c11, c12].drop 2).take (Tryz.prog.cellsOf 3)) := hf 2 _ rfl
  rw [cells3] at f2
  have f3 : Rv enc Tryz.prog W0 3 (([c0, c1, c2, c3, c4, c5, c6, c7, c8, c9, c10, c11, c12].drop 3).take (Tryz.prog.cellsOf 3)) := hf 3 _ rfl
  rw [cells3] at f3
  have f4 : Rv enc Tryz.prog W0 32 (([c0, c1, c2, c3, c4, c5, c6, c7, c8, c9, c10, c11, c12].drop 4).take (Tryz.prog.cellsOf 32)) := hf 4 _ rfl
  rw [cells32] at f4
  have f5 : Rv enc Tryz.prog W0 33 (([c0, c1, c2, c3, c4, c5, c6, c7, c8, c9, c10, c11, c12].drop 5).take (Tryz.prog.cellsOf 33)) := hf 5 _ rfl
  rw [cells33] at f5
  have f6 : Rv enc Tryz.prog W0 32 (([c0, c1, c2, c3, c4, c5, c6, c7, c8, c9, c10, c11, c12].drop 6).take (Tryz.prog.cellsOf 32)) := hf 6 _ rfl
  rw [cells32] at f6
  have f7 : Rv enc Tryz.prog W0 32 (([c0, c1, c2, c3, c4, c5, c6, c7, c8, c9, c10, c11, c12].drop 7).take (Tryz.prog.cellsOf 32)) := hf 7 _ rfl
  rw [cells32] at f7
  have f8 : Rv enc Tryz.prog W0 32 (([c0, c1, c2, c3, c4, c5, c6, c7, c8, c9, c10, c11, c12].drop 8).take (Tryz.prog.cellsOf 32)) := hf 8 _ rfl
  rw [cells32] at f8
  have f9 : Rv enc Tryz.prog W0 32 (([c0, c1, c2, c3, c4, c5, c6, c7, c8, c9, c10, c11, c12].drop 9).take (Tryz.prog.cellsOf 32)) := hf 9 _ rfl
  rw [cells32] at f9
  have f10 : Rv enc Tryz.prog W0 34 (([c0, c1, c2, c3, c4, c5, c6, c7, c8, c9, c10, c11, c12].drop 10).take (Tryz.prog.cellsOf 34)) := hf 10 _ rfl
  rw [cells34] at f10
  have f11 : Rv enc Tryz.prog W0 34 (([c0, c1, c2, c3, c4, c5, c6, c7, c8, c9, c10, c11, c12].drop 11).take (Tryz.prog.cellsOf 34)) := hf 11 _ rfl
  rw [cells34] at f11
  have f12 : Rv enc Tryz.prog W0 3 (([c0, c1, c2, c3, c4, c5, c6, c7, c8, c9, c10, c11, c12].drop 12).take (Tryz.prog.cellsOf 3)) := hf 12 _ rfl
  rw [cells3] at f12
  obtain ⟨nm, h0, hz⟩ := Rv.str Tryz.underlying9 f0
  obtain ⟨kd, h1, _⟩ := Rv.int Tryz.underlying3 f1
  obtain ⟨fl, h2, _⟩ := Rv.int Tryz.underlying3 f2
  obtain ⟨ow, h3, _⟩ := Rv.int Tryz.underlying3 f3
  have f4b : Rv enc Tryz.prog W0 32 [c4] := f4
  have f5b : Rv enc Tryz.prog W0 33 [c5] := f5
  have f6b : Rv enc Tryz.prog W0 32 [c6] := f6
  have f7b : Rv enc Tryz.prog W0 32 [c7] := f7
  have f8b : Rv enc Tryz.prog W0 32 [c8] := f8
  have f9b : Rv enc Tryz.prog W0 32 [c9] := f9
  have f10b : Rv enc Tryz.prog W0 34 [c10] := f10
  have f11b : Rv enc Tryz.prog W0 34 [c11] := f11
  obtain ⟨ta, tn, tc, h4, z4⟩ := rv_ints f4b
  obtain ⟨qa, qn, qc, h6, z6⟩ := rv_ints f6b
  obtain ⟨fa, fn, fc, h7, z7⟩ := rv_ints f7b
  obtain ⟨ma, mn, mc, h8, z8⟩ := rv_ints f8b
  obtain ⟨ya, yn, yc, h9, z9⟩ := rv_ints f9b
  obtain ⟨at_, h12, _⟩ := Rv.int Tryz.underlying3 f12
  simp at h0 h1 h2 h3 h12
  subst h0 h1 h2 h3 h4 h6 h7 h8 h9 h12
  exact ⟨⟨nm, kd, fl, ow, ta, tn, tc, c5, qa, qn, qc, fa, fn, fc, ma, mn, mc, ya, yn, yc, c10, c11, at_⟩, rfl, ⟨hz, z4, z6, z7, z8, z9, f5b, f10b, f11b⟩⟩
/-- A method's cells. -/
structure MtD where
  nm : ByteArray
  ow : Int
  fl : Int
  ta : Option Addr
  tn : Nat
  tc : Nat
  pn : Int
  lv : Value
  r : TyT
  bv : Value
  at_ : Int
abbrev MtD.cells (t : MtD) : List Value := [.string t.nm, .int .i64 t.ow, .int .i64 t.fl, .slice t.ta t.tn t.tc, .int .i64 t.pn, t.lv, .int .i64 t.r.kd, .int .i64 t.r.sy, .string t.r.nm, .int .i64 t.r.nu, t.r.u, t.bv, .int .i64 t.at_]
structure MtD.ok (enc : TypeId × Value → H) (W0 : World) (t : MtD) : Prop where
  sz : t.nm.size ≤ 140737488351232
  tn : t.tn ≤ 17592186044416
  lv : Rv enc Tryz.prog W0 60 [t.lv]
  r : t.r.ok enc W0
  bv : Rv enc Tryz.prog W0 61 [t.bv]
theorem rv_method {W0 : World} {cs : List Value} (h : Rv enc Tryz.prog W0 63 cs) : ∃ t : MtD, cs = t.cells ∧ t.ok enc W0 := by
  obtain ⟨hl, hf⟩ := h.field Tryz.underlying63
  rw [cells63] at hl
  obtain ⟨c0, c1, c2, c3, c4, c5, c6, c7, c8, c9, c10, c11, c12, rfl⟩ := thirteen hl
  have f0 : Rv enc Tryz.prog W0 9 (([c0, c1, c2, c3, c4, c5, c6, c7, c8, c9, c10, c11, c12].drop 0).take (Tryz.prog.cellsOf 9)) := hf 0 _ rfl
  rw [cells9] at f0
  have f1 : Rv enc Tryz.prog W0 3 (([c0, c1, c2, c3, c4, c5, c6, c7, c8, c9, c10, c11, c12].drop 1).take (Tryz.prog.cellsOf 3)) := hf 1 _ rfl
  rw [cells3] at f1
  have f2 : Rv enc Tryz.prog W0 3 (([c0, c1, c2, c3, c4, c5, c6, c7, c8, c9, c10, c11, c12].drop 2).take (Tryz.prog.cellsOf 3)) := hf 2 _ rfl
  rw [cells3] at f2
  have f3 : Rv enc Tryz.prog W0 32 (([c0, c1, c2, c3, c4, c5, c6, c7, c8, c9, c10, c11, c12].drop 3).take (Tryz.prog.cellsOf 32)) := hf 3 _ rfl
  rw [cells32] at f3
  have f4 : Rv enc Tryz.prog W0 3 (([c0, c1, c2, c3, c4, c5, c6, c7, c8, c9, c10, c11, c12].drop 4).take (Tryz.prog.cellsOf 3)) := hf 4 _ rfl
  rw [cells3] at f4
  have f5 : Rv enc Tryz.prog W0 60 (([c0, c1, c2, c3, c4, c5, c6, c7, c8, c9, c10, c11, c12].drop 5).take (Tryz.prog.cellsOf 60)) := hf 5 _ rfl
  rw [cells60] at f5
  have f6 : Rv enc Tryz.prog W0 58 (([c0, c1, c2, c3, c4, c5, c6, c7, c8, c9, c10, c11, c12].drop 6).take (Tryz.prog.cellsOf 58)) := hf 6 _ rfl
  rw [cells58] at f6
  have f7 : Rv enc Tryz.prog W0 61 (([c0, c1, c2, c3, c4, c5, c6, c7, c8, c9, c10, c11, c12].drop 11).take (Tryz.prog.cellsOf 61)) := hf 7 _ rfl
  rw [cells61] at f7
  have f8 : Rv enc Tryz.prog W0 3 (([c0, c1, c2, c3, c4, c5, c6, c7, c8, c9, c10, c11, c12].drop 12).take (Tryz.prog.cellsOf 3)) := hf 8 _ rfl
  rw [cells3] at f8
  obtain ⟨nm, h0, hz⟩ := Rv.str Tryz.underlying9 f0
  obtain ⟨ow, h1, _⟩ := Rv.int Tryz.underlying3 f1
  obtain ⟨fl, h2, _⟩ := Rv.int Tryz.underlying3 f2
  have f3b : Rv enc Tryz.prog W0 32 [c3] := f3
  obtain ⟨ta, tn, tc, h3, z3⟩ := rv_ints f3b
  obtain ⟨pn, h4, _⟩ := Rv.int Tryz.underlying3 f4
  have f5b : Rv enc Tryz.prog W0 60 [c5] := f5
  have f6b : Rv enc Tryz.prog W0 58 [c6, c7, c8, c9, c10] := f6
  have f7b : Rv enc Tryz.prog W0 61 [c11] := f7
  obtain ⟨ak, ay, an, au, av, t⟩ := rv_type f6b
  obtain ⟨at_, h8, _⟩ := Rv.int Tryz.underlying3 f8
  have e := t.eq
  simp at h0 h1 h2 h4 h8 e
  obtain ⟨e0, e1, e2, e3, e4⟩ := e
  subst h0 h1 h2 h3 h4 h8 e0 e1 e2 e3 e4
  exact ⟨⟨nm, ow, fl, ta, tn, tc, pn, c5, ⟨ak, ay, an, au, c10⟩, c11, at_⟩, rfl, ⟨hz, z3, f5b, t, f7b⟩⟩
/-- A field's cells. -/
structure FdD where
  nm : ByteArray
  ow : Int
  fl : Int
  t : TyT
  at_ : Int
abbrev FdD.cells (t : FdD) : List Value := [.string t.nm, .int .i64 t.ow, .int .i64 t.fl, .int .i64 t.t.kd, .int .i64 t.t.sy, .string t.t.nm, .int .i64 t.t.nu, t.t.u, .int .i64 t.at_]
structure FdD.ok (enc : TypeId × Value → H) (W0 : World) (t : FdD) : Prop where
  sz : t.nm.size ≤ 140737488351232
  t : t.t.ok enc W0
theorem rv_field {W0 : World} {cs : List Value} (h : Rv enc Tryz.prog W0 72 cs) : ∃ t : FdD, cs = t.cells ∧ t.ok enc W0 := by
  obtain ⟨hl, hf⟩ := h.field Tryz.underlying72
  rw [cells72] at hl
  obtain ⟨c0, c1, c2, c3, c4, c5, c6, c7, c8, rfl⟩ := nine hl
  have f0 : Rv enc Tryz.prog W0 9 (([c0, c1, c2, c3, c4, c5, c6, c7, c8].drop 0).take (Tryz.prog.cellsOf 9)) := hf 0 _ rfl
  rw [cells9] at f0
  have f1 : Rv enc Tryz.prog W0 3 (([c0, c1, c2, c3, c4, c5, c6, c7, c8].drop 1).take (Tryz.prog.cellsOf 3)) := hf 1 _ rfl
  rw [cells3] at f1
  have f2 : Rv enc Tryz.prog W0 3 (([c0, c1, c2, c3, c4, c5, c6, c7, c8].drop 2).take (Tryz.prog.cellsOf 3)) := hf 2 _ rfl
  rw [cells3] at f2
  have f3 : Rv enc Tryz.prog W0 58 (([c0, c1, c2, c3, c4, c5, c6, c7, c8].drop 3).take (Tryz.prog.cellsOf 58)) := hf 3 _ rfl
  rw [cells58] at f3
  have f4 : Rv enc Tryz.prog W0 3 (([c0, c1, c2, c3, c4, c5, c6, c7, c8].drop 8).take (Tryz.prog.cellsOf 3)) := hf 4 _ rfl
  rw [cells3] at f4
  obtain ⟨nm, h0, hz⟩ := Rv.str Tryz.underlying9 f0
  obtain ⟨ow, h1, _⟩ := Rv.int Tryz.underlying3 f1
  obtain ⟨fl, h2, _⟩ := Rv.int Tryz.underlying3 f2
  have f3b : Rv enc Tryz.prog W0 58 [c3, c4, c5, c6, c7] := f3
  obtain ⟨ak, ay, an, au, av, t⟩ := rv_type f3b
  obtain ⟨at_, h8, _⟩ := Rv.int Tryz.underlying3 f4
  have e := t.eq
  simp at h0 h1 h2 h8 e
  obtain ⟨e0, e1, e2, e3, e4⟩ := e
  subst h0 h1 h2 h8 e0 e1 e2 e3 e4
  exact ⟨⟨nm, ow, fl, ⟨ak, ay, an, au, c7⟩, at_⟩, rfl, ⟨hz, t⟩⟩
/-- A type parameter's cells. -/
structure TpD where
  nm : ByteArray
  cl : Int
  me : Int
  va : Int
  ar : Int
  lo : TyT
  hi : TyT
abbrev TpD.cells (t : TpD) : List Value := [.string t.nm, .int .i64 t.cl, .int .i64 t.me, .int .i64 t.va, .int .i64 t.ar, .int .i64 t.lo.kd, .int .i64 t.lo.sy, .string t.lo.nm, .int .i64 t.lo.nu, t.lo.u, .int .i64 t.hi.kd, .int .i64 t.hi.sy, .string t.hi.nm, .int .i64 t.hi.nu, t.hi.u]
structure TpD.ok (enc : TypeId × Value → H) (W0 : World) (t : TpD) : Prop where
  sz : t.nm.size ≤ 140737488351232
  lo : t.lo.ok enc W0
  hi : t.hi.ok enc W0
theorem rv_tparam {W0 : World} {cs : List Value} (h : Rv enc Tryz.prog W0 74 cs) : ∃ t : TpD, cs = t.cells ∧ t.ok enc W0 := by
  obtain ⟨hl, hf⟩ := h.field Tryz.underlying74
  rw [cells74] at hl
  obtain ⟨c0, c1, c2, c3, c4, c5, c6, c7, c8, c9, c10, c11, c12, c13, c14, rfl⟩ := fifteen hl
  have f0 : Rv enc Tryz.prog W0 9 (([c0, c1, c2, c3, c4, c5, c6, c7, c8, c9, c10, c11, c12, c13, c14].drop 0).take (Tryz.prog.cellsOf 9)) := hf 0 _ rfl
  rw [cells9] at f0
  have f1 : Rv enc Tryz.prog W0 3 (([c0, c1, c2, c3, c4, c5, c6, c7, c8, c9, c10, c11, c12, c13, c14].drop 1).take (Tryz.prog.cellsOf 3)) := hf 1 _ rfl
  rw [cells3] at f1
  have f2 : Rv enc Tryz.prog W0 3 (([c0, c1, c2, c3, c4, c5, c6, c7, c8, c9, c10, c11, c12, c13, c14].drop 2).take (Tryz.prog.cellsOf 3)) := hf 2 _ rfl
  rw [cells3] at f2
  have f3 : Rv enc Tryz.prog W0 3 (([c0, c1, c2, c3, c4, c5, c6, c7, c8, c9, c10, c11, c12, c13, c14].drop 3).take (Tryz.prog.cellsOf 3)) := hf 3 _ rfl
  rw [cells3] at f3
  have f4 : Rv enc Tryz.prog W0 3 (([c0, c1, c2, c3, c4, c5, c6, c7, c8, c9, c10, c11, c12, c13, c14].drop 4).take (Tryz.prog.cellsOf 3)) := hf 4 _ rfl
  rw [cells3] at f4
  have f5 : Rv enc Tryz.prog W0 58 (([c0, c1, c2, c3, c4, c5, c6, c7, c8, c9, c10, c11, c12, c13, c14].drop 5).take (Tryz.prog.cellsOf 58)) := hf 5 _ rfl
  rw [cells58] at f5
  have f6 : Rv enc Tryz.prog W0 58 (([c0, c1, c2, c3, c4, c5, c6, c7, c8, c9, c10, c11, c12, c13, c14].drop 10).take (Tryz.prog.cellsOf 58)) := hf 6 _ rfl
  rw [cells58] at f6
  obtain ⟨nm, h0, hz⟩ := Rv.str Tryz.underlying9 f0
  obtain ⟨cl, h1, _⟩ := Rv.int Tryz.underlying3 f1
  obtain ⟨me, h2, _⟩ := Rv.int Tryz.underlying3 f2
  obtain ⟨va, h3, _⟩ := Rv.int Tryz.underlying3 f3
  obtain ⟨ar, h4, _⟩ := Rv.int Tryz.underlying3 f4
  have f5b : Rv enc Tryz.prog W0 58 [c5, c6, c7, c8, c9] := f5
  have f6b : Rv enc Tryz.prog W0 58 [c10, c11, c12, c13, c14] := f6
  obtain ⟨ak, ay, an, au, av, t⟩ := rv_type f5b
  obtain ⟨bk, byy, bn, bu, bv, s⟩ := rv_type f6b
  have e := t.eq
  have g := s.eq
  simp at h0 h1 h2 h3 h4 e g
  obtain ⟨e0, e1, e2, e3, e4⟩ := e
  obtain ⟨g0, g1, g2, g3, g4⟩ := g
  subst h0 h1 h2 h3 h4 e0 e1 e2 e3 e4 g0 g1 g2 g3 g4
  exact ⟨⟨nm, cl, me, va, ar, ⟨ak, ay, an, au, c9⟩, ⟨bk, byy, bn, bu, c14⟩⟩, rfl, ⟨hz, t, s⟩⟩
end Go.Proofs.YtlipfgdjbimfjaaGreatDoor
