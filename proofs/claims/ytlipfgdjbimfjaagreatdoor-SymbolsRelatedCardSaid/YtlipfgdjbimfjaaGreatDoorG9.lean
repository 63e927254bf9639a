/- Type members: lists of them with their data told; a row of two types. -/
import Derived.Test.YtlipfgdjbimfjaaGreatDoorG8
namespace Go.Proofs.YtlipfgdjbimfjaaGreatDoor
open Go.RowKit Go.Shelf Go.Sort
set_option maxRecDepth 100000

variable {H : Type} {enc : TypeId × Value → H}
/-- A type member's cells as data. -/
structure MeD where
  nm : ByteArray
  ow : Int
  ar : Int
  lo : TyT
  hi : TyT
abbrev MeD.cells (t : MeD) : List Value := [.string t.nm, .int .i64 t.ow, .int .i64 t.ar, .int .i64 t.lo.kd, .int .i64 t.lo.sy, .string t.lo.nm, .int .i64 t.lo.nu, t.lo.u, .int .i64 t.hi.kd, .int .i64 t.hi.sy, .string t.hi.nm, .int .i64 t.hi.nu, t.hi.u]
structure MeD.ok (enc : TypeId × Value → H) (W0 : World) (t : MeD) : Prop where
  sz : t.nm.size ≤ 140737488351232
  lo : t.lo.ok enc W0
  hi : t.hi.ok enc W0
theorem cells77 : Tryz.prog.cellsOf 77 = 13 := by kernel_rfl
theorem bytes77 : Tryz.prog.bytesOf 77 = 160 := by kernel_rfl
theorem thirteen {α : Type} {l : List α} (h : l.length = 13) : ∃ a b c d e f g i j k m n o, l = [a, b, c, d, e, f, g, i, j, k, m, n, o] := by
  match l, h with
  | [a, b, c, d, e, f, g, i, j, k, m, n, o], _ => exact ⟨a, b, c, d, e, f, g, i, j, k, m, n, o, rfl⟩
theorem rv_member {W0 : World} {cs : List Value} (h : Rv enc Tryz.prog W0 77 cs) : ∃ t : MeD, cs = t.cells ∧ t.ok enc W0 := by
  obtain ⟨hl, hf⟩ := h.field Tryz.underlying77
  rw [cells77] at hl
  obtain ⟨c0, c1, c2, c3, c4, c5, c6, c7, c8, c9, c10, c11, c12, rfl⟩ := thirteen hl
  have f0 : Rv enc Tryz.prog W0 9 (([c0, c1, c2, c3, c4, c5, c6, c7, c8, c9, c10, c11, c12].drop 0).take (Tryz.prog.cellsOf 9)) := hf 0 _ rfl
  rw [cells9] at f0
  have f1 : Rv enc Tryz.prog W0 3 (([c0, c1, c2, c3, c4, c5, c6, c7, c8, c9, c10, c11, c12].drop 1).take (Tryz.prog.cellsOf 3)) := hf 1 _ rfl
  rw [cells3] at f1
  have f2 : Rv enc Tryz.prog W0 3 (([c0, c1, c2, c3, c4, c5, c6, c7, c8, c9, c10, c11, c12].drop 2).take (Tryz.prog.cellsOf 3)) := hf 2 _ rfl
  rw [cells3] at f2
  have f3 : Rv enc Tryz.prog W0 58 (([c0, c1, c2, c3, c4, c5, c6, c7, c8, c9, c10, c11, c12].drop 3).take (Tryz.prog.cellsOf 58)) := hf 3 _ rfl
  rw [cells58] at f3
  have f4 : Rv enc Tryz.prog W0 58 (([c0, c1, c2, c3, c4, c5, c6, c7, c8, c9, c10, c11, c12].drop 8).take (Tryz.prog.cellsOf 58)) := hf 4 _ rfl
  rw [cells58] at f4
  obtain ⟨nm, h0, hz⟩ := Rv.str Tryz.underlying9 f0
  obtain ⟨ow, h1, _⟩ := Rv.int Tryz.underlying3 f1
  obtain ⟨ar, h2, _⟩ := Rv.int Tryz.underlying3 f2
  have f3b : Rv enc Tryz.prog W0 58 [c3, c4, c5, c6, c7] := f3
  have f4b : Rv enc Tryz.prog W0 58 [c8, c9, c10, c11, c12] := f4
  obtain ⟨ak, ay, an, au, av, t⟩ := rv_type f3b
  obtain ⟨bk, byy, bn, bu, bv, s⟩ := rv_type f4b
  have e := t.eq
  have g := s.eq
  simp at h0 h1 h2 e g
  obtain ⟨e0, e1, e2, e3, e4⟩ := e
  obtain ⟨g0, g1, g2, g3, g4⟩ := g
  subst h0 h1 h2 e0 e1 e2 e3 e4 g0 g1 g2 g3 g4
  exact ⟨⟨nm, ow, ar, ⟨ak, ay, an, au, c7⟩, ⟨bk, byy, bn, bu, c12⟩⟩, rfl, ⟨hz, t, s⟩⟩
/-- A list of type members in memory, not in the box pl. -/
def LM (w : World) (pl : Nat) (v : Value) (len : Nat) (d : Nat → MeD) : Prop :=
  ∃ a cap, v = .slice a len cap ∧ (0 < len → ∃ b off, a = some ⟨b, off, none⟩ ∧ b ≠ pl ∧ b < w.heap.size ∧ ∀ i, i < len → ∀ j, j < 13 → w.cell? ⟨b, off + i * 13 + j, none⟩ = (d i).cells[j]?)
theorem LM.grown {w w' : World} {pl len : Nat} {v : Value} {d : Nat → MeD} (h : LM w pl v len d) (hg : w.grownBy w' (some pl)) : LM w' pl v len d := by
  obtain ⟨a, cap, h1, h3⟩ := h
  refine ⟨a, cap, h1, fun hp => ?_⟩
  obtain ⟨b, off, h4, h5, h6, h7⟩ := h3 hp
  have hk : w'.heap[b]? = w.heap[b]? := hg.block b h6 (fun e => h5 (by injection e))
  exact ⟨b, off, h4, h5, Nat.lt_of_lt_of_le h6 hg.size, fun i hi j hj => (World.cell?_of_block (a := ⟨b, _, none⟩) hk).trans (h7 i hi j hj)⟩
/-- The data of an old list. -/
theorem lm_old {W0 : World} {v : Value} (h : Rv enc Tryz.prog W0 26 [v]) : ∃ (len : Nat) (d : Nat → MeD), len ≤ 4000000000000 ∧ (∀ i, i < len → (d i).ok enc W0) ∧ ∀ (w : World) (pl : Nat), Below W0.heap.size W0 w → W0.heap.size ≤ pl → LM w pl v len d := by
  obtain ⟨a, len, cap, he, _, hz, hr⟩ := h.slice Tryz.underlying26 cells77 (by decide)
  rw [bytes77] at hz
  injection he with he _
  by_cases h0 : 0 < len
  · obtain ⟨b, off, h1, h2, h3⟩ := hr h0
    have each : ∀ i : Nat, ∃ t : MeD, i < len → t.ok enc W0 ∧ ∀ j, j < 13 → W0.cell? ⟨b, off + i * 13 + j, none⟩ = t.cells[j]? := by
      intro i
      by_cases hi : i < len
      · obtain ⟨cs, hl, hc, hrv⟩ := h3 i hi
        obtain ⟨t, rfl, ht⟩ := rv_member hrv
        exact ⟨t, fun _ => ⟨ht, hc⟩⟩
      · exact ⟨⟨ByteArray.empty, 0, 0, ⟨0, 0, ByteArray.empty, 0, undef⟩, ⟨0, 0, ByteArray.empty, 0, undef⟩⟩, fun h => absurd h hi⟩
    obtain ⟨d, hd⟩ := Classical.axiomOfChoice each
    refine ⟨len, d, by unfold reachBytes at hz; omega, fun i hi => (hd i hi).1, fun w pl hb hp => ⟨a, cap, he, fun _ => ⟨b, off, h1, by omega, by have := hb.size; omega, fun i hi j hj => (hb.cell (p := ⟨b, off + i * 13 + j, none⟩) h2).trans ((hd i hi).2 j hj)⟩⟩⟩
  · exact ⟨len, fun _ => ⟨ByteArray.empty, 0, 0, ⟨0, 0, ByteArray.empty, 0, undef⟩, ⟨0, 0, ByteArray.empty, 0, undef⟩⟩, by omega, fun i hi => absurd hi (by omega), fun w pl _ _ => ⟨a, cap, he, fun h => absurd h h0⟩⟩
/-- A row of two types. -/
theorem ld_two {w : World} {pl B : Nat} {t s : TyT} (h : w.heap[B]? = some (.cells #[.int .i64 t.kd, .int .i64 t.sy, .string t.nm, .int .i64 t.nu, t.u, .int .i64 s.kd, .int .i64 s.sy, .string s.nm, .int .i64 s.nu, s.u] 58 (0, 0))) (hB : B ≠ pl) : LD w pl (.slice (some ⟨B, 0, none⟩) 2 2) 2 (cons1 t (fun _ => s)) := by
  refine ⟨_, _, rfl, fun _ => ⟨B, 0, rfl, hB, (Array.getElem?_eq_some_iff.1 h).1, fun i hi => ?_⟩⟩
  match i, hi with
  | 0, _ => exact ⟨blk_cell h 0, blk_cell h 1, blk_cell h 2, blk_cell h 3, blk_cell h 4⟩
  | 1, _ => exact ⟨blk_cell h 5, blk_cell h 6, blk_cell h 7, blk_cell h 8, blk_cell h 9⟩
end Go.Proofs.YtlipfgdjbimfjaaGreatDoor
