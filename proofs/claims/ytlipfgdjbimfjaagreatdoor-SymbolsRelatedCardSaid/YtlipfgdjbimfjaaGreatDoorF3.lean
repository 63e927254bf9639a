/- Lists of trees, as Few reads them. -/
import Derived.Test.YtlipfgdjbimfjaaGreatDoorF2
namespace Go.Proofs.YtlipfgdjbimfjaaGreatDoor
open Go.RowKit Go.Shelf Go.Sort
set_option maxRecDepth 100000

variable {H : Type} {enc : TypeId × Value → H}
/-- What a tree's cells are. -/
structure TrD where
  kd : Int
  sy : Int
  nu : Int
  tx : ByteArray
  ak : Int
  ay : Int
  an : ByteArray
  au : Int
  av : Value
  tv : Value
  kv : Value
  at_ : Int
abbrev TrD.cells (t : TrD) : List Value := [.int .i64 t.kd, .int .i64 t.sy, .int .i64 t.nu, .string t.tx, .int .i64 t.ak, .int .i64 t.ay, .string t.an, .int .i64 t.au, t.av, t.tv, t.kv, .int .i64 t.at_]
structure Tr12 (enc : TypeId × Value → H) (W0 : World) (t : TrD) : Prop where
  sz : t.tx.size ≤ 140737488351232
  ty : Ty5 enc W0 [.int .i64 t.ak, .int .i64 t.ay, .string t.an, .int .i64 t.au, t.av] t.ak t.ay t.an t.au t.av
  tys : Rv enc Tryz.prog W0 33 [t.tv]
  kids : Rv enc Tryz.prog W0 34 [t.kv]
theorem cells70 : Tryz.prog.cellsOf 70 = 12 := by kernel_rfl
theorem cells34 : Tryz.prog.cellsOf 34 = 1 := by kernel_rfl
theorem cells2 : Tryz.prog.cellsOf 2 = 1 := by kernel_rfl
theorem bytes70 : Tryz.prog.bytesOf 70 = 160 := by kernel_rfl
theorem twelve {α : Type} {l : List α} (h : l.length = 12) : ∃ a b c d e f g i j k m n, l = [a, b, c, d, e, f, g, i, j, k, m, n] := by
  match l, h with
  | [a, b, c, d, e, f, g, i, j, k, m, n], _ => exact ⟨a, b, c, d, e, f, g, i, j, k, m, n, rfl⟩
theorem rv_tree {W0 : World} {cs : List Value} (h : Rv enc Tryz.prog W0 70 cs) : ∃ t : TrD, cs = t.cells ∧ Tr12 enc W0 t := by
  obtain ⟨hl, hf⟩ := h.field Tryz.underlying70
  rw [cells70] at hl
  obtain ⟨c0, c1, c2, c3, c4, c5, c6, c7, c8, c9, c10, c11, rfl⟩ := twelve hl
  have f0 : Rv enc Tryz.prog W0 3 (([c0, c1, c2, c3, c4, c5, c6, c7, c8, c9, c10, c11].drop 0).take (Tryz.prog.cellsOf 3)) := hf 0 _ rfl
  rw [cells3] at f0
  have f1 : Rv enc Tryz.prog W0 3 (([c0, c1, c2, c3, c4, c5, c6, c7, c8, c9, c10, c11].drop 1).take (Tryz.prog.cellsOf 3)) := hf 1 _ rfl
  rw [cells3] at f1
  have f2 : Rv enc Tryz.prog W0 2 (([c0, c1, c2, c3, c4, c5, c6, c7, c8, c9, c10, c11].drop 2).take (Tryz.prog.cellsOf 2)) := hf 2 _ rfl
  rw [cells2] at f2
  have f3 : Rv enc Tryz.prog W0 9 (([c0, c1, c2, c3, c4, c5, c6, c7, c8, c9, c10, c11].drop 3).take (Tryz.prog.cellsOf 9)) := hf 3 _ rfl
  rw [cells9] at f3
  have f4 : Rv enc Tryz.prog W0 58 (([c0, c1, c2, c3, c4, c5, c6, c7, c8, c9, c10, c11].drop 4).take (Tryz.prog.cellsOf 58)) := hf 4 _ rfl
  rw [cells58] at f4
  have f5 : Rv enc Tryz.prog W0 33 (([c0, c1, c2, c3, c4, c5, c6, c7, c8, c9, c10, c11].drop 9).take (Tryz.prog.cellsOf 33)) := hf 5 _ rfl
  rw [cells33] at f5
  have f6 : Rv enc Tryz.prog W0 34 (([c0, c1, c2, c3, c4, c5, c6, c7, c8, c9, c10, c11].drop 10).take (Tryz.prog.cellsOf 34)) := hf 6 _ rfl
  rw [cells34] at f6
  have f7 : Rv enc Tryz.prog W0 3 (([c0, c1, c2, c3, c4, c5, c6, c7, c8, c9, c10, c11].drop 11).take (Tryz.prog.cellsOf 3)) := hf 7 _ rfl
  rw [cells3] at f7
  obtain ⟨kd, h0, _⟩ := Rv.int Tryz.underlying3 f0
  obtain ⟨sy, h1, _⟩ := Rv.int Tryz.underlying3 f1
  obtain ⟨nu, h2, _⟩ := Rv.int Tryz.underlying2 f2
  obtain ⟨tx, h3, hz⟩ := Rv.str Tryz.underlying9 f3
  have f4b : Rv enc Tryz.prog W0 58 [c4, c5, c6, c7, c8] := f4
  obtain ⟨ak, ay, an, au, av, t⟩ := rv_type f4b
  obtain ⟨at_, h7, _⟩ := Rv.int Tryz.underlying3 f7
  have e := t.eq
  have h5 : Rv enc Tryz.prog W0 33 [c9] := f5
  have h6 : Rv enc Tryz.prog W0 34 [c10] := f6
  simp at h0 h1 h2 h3 h7 e
  obtain ⟨e0, e1, e2, e3, e4⟩ := e
  subst h0 h1 h2 h3 h7 e0 e1 e2 e3 e4
  exact ⟨⟨kd, sy, nu, tx, ak, ay, an, au, c8, c9, c10, at_⟩, rfl, ⟨hz, t, h5, h6⟩⟩
/-- A list of trees that lies in old blocks or in new ones, not in a box. -/
def LVT (enc : TypeId × Value → H) (W0 w : World) (pl : Nat) (v : Value) : Prop :=
  ∃ a len cap, v = .slice a len cap ∧ len ≤ 4000000000000 ∧ (0 < len → ∃ b off, a = some ⟨b, off, none⟩ ∧ b ≠ pl ∧ b < w.heap.size ∧ ∀ i, i < len → ∃ t : TrD, Tr12 enc W0 t ∧ ∀ j, j < 12 → w.cell? ⟨b, off + i * 12 + j, none⟩ = t.cells[j]?)
theorem LVT.grown {W0 w w' : World} {pl : Nat} {v : Value} (h : LVT enc W0 w pl v) (hg : w.grownBy w' (some pl)) : LVT enc W0 w' pl v := by
  obtain ⟨a, len, cap, h1, h2, h3⟩ := h
  refine ⟨a, len, cap, h1, h2, fun hp => ?_⟩
  obtain ⟨b, off, h4, h5, h6, h7⟩ := h3 hp
  have hk : w'.heap[b]? = w.heap[b]? := hg.block b h6 (fun e => h5 (by injection e))
  refine ⟨b, off, h4, h5, Nat.lt_of_lt_of_le h6 hg.size, fun i hi => ?_⟩
  obtain ⟨t, ht, hc⟩ := h7 i hi
  exact ⟨t, ht, fun j hj => (World.cell?_of_block (a := ⟨b, _, none⟩) hk).trans (hc j hj)⟩
theorem lvt_old {W0 w : World} {pl : Nat} {v : Value} (h : Rv enc Tryz.prog W0 34 [v]) (hb : Below W0.heap.size W0 w) (hp : W0.heap.size ≤ pl) : LVT enc W0 w pl v := by
  obtain ⟨a, len, cap, he, _, hz, hr⟩ := h.slice Tryz.underlying34 cells70 (by decide)
  rw [bytes70] at hz
  injection he with he _
  refine ⟨a, len, cap, he, by unfold reachBytes at hz; omega, fun h0 => ?_⟩
  obtain ⟨b, off, h1, h2, h3⟩ := hr h0
  refine ⟨b, off, h1, by omega, by have := hb.size; omega, fun i hi => ?_⟩
  obtain ⟨cs, hl, hc, hrv⟩ := h3 i hi
  obtain ⟨t, rfl, ht⟩ := rv_tree hrv
  exact ⟨t, ht, fun j hj => (hb.cell (p := ⟨b, off + i * 12 + j, none⟩) h2).trans (hc j hj)⟩
end Go.Proofs.YtlipfgdjbimfjaaGreatDoor
