/- Locals: lists of locals with their data told; the closure of Locals. -/
import Derived.Test.YtlipfgdjbimfjaaGreatDoorG5
namespace Go.Proofs.YtlipfgdjbimfjaaGreatDoor
open Go.RowKit Go.Shelf Go.Sort
set_option maxRecDepth 100000

variable {H : Type} {enc : TypeId × Value → H}
/-- A local's cells as data. -/
structure LoD where
  nm : ByteArray
  fl : Int
  t : TyT
abbrev LoD.cells (t : LoD) : List Value := [.string t.nm, .int .i64 t.fl, .int .i64 t.t.kd, .int .i64 t.t.sy, .string t.t.nm, .int .i64 t.t.nu, t.t.u]
abbrev LoD.val (t : LoD) : Value := .agg #[.string t.nm, .int .i64 t.fl, .int .i64 t.t.kd, .int .i64 t.t.sy, .string t.t.nm, .int .i64 t.t.nu, t.t.u]
structure LoD.ok (enc : TypeId × Value → H) (W0 : World) (t : LoD) : Prop where
  sz : t.nm.size ≤ 140737488351232
  ty : t.t.ok enc W0
theorem cells126 : Tryz.prog.cellsOf 126 = 7 := by kernel_rfl
theorem bytes126 : Tryz.prog.bytesOf 126 = 88 := by kernel_rfl
theorem seven {α : Type} {l : List α} (h : l.length = 7) : ∃ a b c d e f g, l = [a, b, c, d, e, f, g] := by
  match l, h with
  | [a, b, c, d, e, f, g], _ => exact ⟨a, b, c, d, e, f, g, rfl⟩
theorem rv_local {W0 : World} {cs : List Value} (h : Rv enc Tryz.prog W0 126 cs) : ∃ t : LoD, cs = t.cells ∧ t.ok enc W0 := by
  obtain ⟨hl, hf⟩ := h.field Tryz.underlying126
  rw [cells126] at hl
  obtain ⟨c0, c1, c2, c3, c4, c5, c6, rfl⟩ := seven hl
  have f0 : Rv enc Tryz.prog W0 9 (([c0, c1, c2, c3, c4, c5, c6].drop 0).take (Tryz.prog.cellsOf 9)) := hf 0 _ rfl
  rw [cells9] at f0
  have f1 : Rv enc Tryz.prog W0 3 (([c0, c1, c2, c3, c4, c5, c6].drop 1).take (Tryz.prog.cellsOf 3)) := hf 1 _ rfl
  rw [cells3] at f1
  have f2 : Rv enc Tryz.prog W0 58 (([c0, c1, c2, c3, c4, c5, c6].drop 2).take (Tryz.prog.cellsOf 58)) := hf 2 _ rfl
  rw [cells58] at f2
  obtain ⟨nm, h0, hz⟩ := Rv.str Tryz.underlying9 f0
  obtain ⟨fl, h1, _⟩ := Rv.int Tryz.underlying3 f1
  have f2b : Rv enc Tryz.prog W0 58 [c2, c3, c4, c5, c6] := f2
  obtain ⟨ak, ay, an, au, av, t⟩ := rv_type f2b
  have e := t.eq
  simp at h0 h1 e
  obtain ⟨e0, e1, e2, e3, e4⟩ := e
  subst h0 h1 e0 e1 e2 e3 e4
  exact ⟨⟨nm, fl, ⟨ak, ay, an, au, c6⟩⟩, rfl, ⟨hz, t⟩⟩
/-- A list of locals in memory, not in the box pl. -/
def LL (w : World) (pl : Nat) (v : Value) (len : Nat) (d : Nat → LoD) : Prop :=
  ∃ a cap, v = .slice a len cap ∧ (0 < len → ∃ b off, a = some ⟨b, off, none⟩ ∧ b ≠ pl ∧ b < w.heap.size ∧ ∀ i, i < len → ∀ j, j < 7 → w.cell? ⟨b, off + i * 7 + j, none⟩ = (d i).cells[j]?)
theorem LL.grown {w w' : World} {pl len : Nat} {v : Value} {d : Nat → LoD} (h : LL w pl v len d) (hg : w.grownBy w' (some pl)) : LL w' pl v len d := by
  obtain ⟨a, cap, h1, h3⟩ := h
  refine ⟨a, cap, h1, fun hp => ?_⟩
  obtain ⟨b, off, h4, h5, h6, h7⟩ := h3 hp
  have hk : w'.heap[b]? = w.heap[b]? := hg.block b h6 (fun e => h5 (by injection e))
  exact ⟨b, off, h4, h5, Nat.lt_of_lt_of_le h6 hg.size, fun i hi j hj => (World.cell?_of_block (a := ⟨b, _, none⟩) hk).trans (h7 i hi j hj)⟩
/-- The data of an old list. -/
theorem ll_old {W0 : World} {v : Value} (h : Rv enc Tryz.prog W0 60 [v]) : ∃ (len : Nat) (d : Nat → LoD), len ≤ 4000000000000 ∧ (∀ i, i < len → (d i).ok enc W0) ∧ ∀ (w : World) (pl : Nat), Below W0.heap.size W0 w → W0.heap.size ≤ pl → LL w pl v len d := by
  obtain ⟨a, len, cap, he, _, hz, hr⟩ := h.slice Tryz.underlying60 cells126 (by decide)
  rw [bytes126] at hz
  injection he with he _
  by_cases h0 : 0 < len
  · obtain ⟨b, off, h1, h2, h3⟩ := hr h0
    have each : ∀ i : Nat, ∃ t : LoD, i < len → t.ok enc W0 ∧ ∀ j, j < 7 → W0.cell? ⟨b, off + i * 7 + j, none⟩ = t.cells[j]? := by
      intro i
      by_cases hi : i < len
      · obtain ⟨cs, hl, hc, hrv⟩ := h3 i hi
        obtain ⟨t, rfl, ht⟩ := rv_local hrv
        exact ⟨t, fun _ => ⟨ht, hc⟩⟩
      · exact ⟨⟨ByteArray.empty, 0, ⟨0, 0, ByteArray.empty, 0, undef⟩⟩, fun h => absurd h hi⟩
    obtain ⟨d, hd⟩ := Classical.axiomOfChoice each
    refine ⟨len, d, by unfold reachBytes at hz; omega, fun i hi => (hd i hi).1, fun w pl hb hp => ⟨a, cap, he, fun _ => ⟨b, off, h1, by omega, by have := hb.size; omega, fun i hi j hj => (hb.cell (p := ⟨b, off + i * 7 + j, none⟩) h2).trans ((hd i hi).2 j hj)⟩⟩⟩
  · exact ⟨len, fun _ => ⟨ByteArray.empty, 0, ⟨0, 0, ByteArray.empty, 0, undef⟩⟩, by omega, fun i hi => absurd hi (by omega), fun w pl _ _ => ⟨a, cap, he, fun h => absurd h h0⟩⟩
/-- A row of one type. -/
theorem ld_one {w : World} {pl B : Nat} {t : TyT} (h : w.heap[B]? = some (.cells #[.int .i64 t.kd, .int .i64 t.sy, .string t.nm, .int .i64 t.nu, t.u] 58 (0, 0))) (hB : B ≠ pl) : LD w pl (.slice (some ⟨B, 0, none⟩) 1 1) 1 (fun _ => t) := by
  refine ⟨_, _, rfl, fun _ => ⟨B, 0, rfl, hB, (Array.getElem?_eq_some_iff.1 h).1, fun i hi => ?_⟩⟩
  obtain rfl : i = 0 := by omega
  exact ⟨blk_cell h 0, blk_cell h 1, blk_cell h 2, blk_cell h 3, blk_cell h 4⟩
end Go.Proofs.YtlipfgdjbimfjaaGreatDoor
