/- Lists of types, as Few reads them. -/
import Derived.Test.YtlipfgdjbimfjaaGreatDoorF0
namespace Go.Proofs.YtlipfgdjbimfjaaGreatDoor
open Go.RowKit Go.Shelf Go.Sort
set_option maxRecDepth 100000

variable {H : Type} {enc : TypeId × Value → H}
/-- A type's cells. -/
structure Ty5 (enc : TypeId × Value → H) (W0 : World) (cs : List Value) (kd sy : Int) (nm : ByteArray) (nu : Int) (v : Value) : Prop where
  eq : cs = [.int .i64 kd, .int .i64 sy, .string nm, .int .i64 nu, v]
  sz : nm.size ≤ 140737488351232
  args : Rv enc Tryz.prog W0 33 [v]
theorem five {α : Type} {l : List α} (h : l.length = 5) : ∃ a b c d e, l = [a, b, c, d, e] := by
  match l, h with
  | [a, b, c, d, e], _ => exact ⟨a, b, c, d, e, rfl⟩
theorem cells58 : Tryz.prog.cellsOf 58 = 5 := by kernel_rfl
theorem cells33 : Tryz.prog.cellsOf 33 = 1 := by kernel_rfl
theorem cells3 : Tryz.prog.cellsOf 3 = 1 := by kernel_rfl
theorem cells9 : Tryz.prog.cellsOf 9 = 1 := by kernel_rfl
theorem bytes58 : Tryz.prog.bytesOf 58 = 64 := by kernel_rfl
theorem rv_type {W0 : World} {cs : List Value} (h : Rv enc Tryz.prog W0 58 cs) : ∃ kd sy nm nu v, Ty5 enc W0 cs kd sy nm nu v := by
  obtain ⟨hl, hf⟩ := h.field Tryz.underlying58
  rw [cells58] at hl
  obtain ⟨c0, c1, c2, c3, c4, rfl⟩ := five hl
  have f0 : Rv enc Tryz.prog W0 3 (([c0, c1, c2, c3, c4].drop 0).take (Tryz.prog.cellsOf 3)) := hf 0 _ rfl
  rw [cells3] at f0
  have f1 : Rv enc Tryz.prog W0 3 (([c0, c1, c2, c3, c4].drop 1).take (Tryz.prog.cellsOf 3)) := hf 1 _ rfl
  rw [cells3] at f1
  have f2 : Rv enc Tryz.prog W0 9 (([c0, c1, c2, c3, c4].drop 2).take (Tryz.prog.cellsOf 9)) := hf 2 _ rfl
  rw [cells9] at f2
  have f3 : Rv enc Tryz.prog W0 3 (([c0, c1, c2, c3, c4].drop 3).take (Tryz.prog.cellsOf 3)) := hf 3 _ rfl
  rw [cells3] at f3
  have f4 : Rv enc Tryz.prog W0 33 (([c0, c1, c2, c3, c4].drop 4).take (Tryz.prog.cellsOf 33)) := hf 4 _ rfl
  rw [cells33] at f4
  obtain ⟨kd, h0, _⟩ := Rv.int Tryz.underlying3 f0
  obtain ⟨sy, h1, _⟩ := Rv.int Tryz.underlying3 f1
  obtain ⟨nm, h2, hz⟩ := Rv.str Tryz.underlying9 f2
  obtain ⟨nu, h3, _⟩ := Rv.int Tryz.underlying3 f3
  have h4 : Rv enc Tryz.prog W0 33 [c4] := f4
  simp at h0 h1 h2 h3
  exact ⟨kd, sy, nm, nu, c4, ⟨by rw [h0, h1, h2, h3], hz, h4⟩⟩
/-- A list of types that lies in old blocks or in new ones, not in a box. -/
def LV (enc : TypeId × Value → H) (W0 w : World) (pl : Nat) (v : Value) : Prop :=
  ∃ a len cap, v = .slice a len cap ∧ len ≤ 4000000000000 ∧ (0 < len → ∃ b off, a = some ⟨b, off, none⟩ ∧ b ≠ pl ∧ b < w.heap.size ∧ ∀ i, i < len → ∃ kd sy nm nu u, Ty5 enc W0 [.int .i64 kd, .int .i64 sy, .string nm, .int .i64 nu, u] kd sy nm nu u ∧
    w.cell? ⟨b, off + i * 5, none⟩ = some (.int .i64 kd) ∧ w.cell? ⟨b, off + i * 5 + 1, none⟩ = some (.int .i64 sy) ∧ w.cell? ⟨b, off + i * 5 + 2, none⟩ = some (.string nm) ∧ w.cell? ⟨b, off + i * 5 + 3, none⟩ = some (.int .i64 nu) ∧ w.cell? ⟨b, off + i * 5 + 4, none⟩ = some u)
theorem LV.grown {W0 w w' : World} {pl : Nat} {v : Value} (h : LV enc W0 w pl v) (hg : w.grownBy w' (some pl)) : LV enc W0 w' pl v := by
  obtain ⟨a, len, cap, h1, h2, h3⟩ := h
  refine ⟨a, len, cap, h1, h2, fun hp => ?_⟩
  obtain ⟨b, off, h4, h5, h6, h7⟩ := h3 hp
  have hk : w'.heap[b]? = w.heap[b]? := hg.block b h6 (fun e => h5 (by injection e))
  refine ⟨b, off, h4, h5, Nat.lt_of_lt_of_le h6 hg.size, fun i hi => ?_⟩
  obtain ⟨kd, sy, nm, nu, u, t, e0, e1, e2, e3, e4⟩ := h7 i hi
  exact ⟨kd, sy, nm, nu, u, t, (World.cell?_of_block (a := ⟨b, _, none⟩) hk).trans e0, (World.cell?_of_block (a := ⟨b, _, none⟩) hk).trans e1, (World.cell?_of_block (a := ⟨b, _, none⟩) hk).trans e2, (World.cell?_of_block (a := ⟨b, _, none⟩) hk).trans e3, (World.cell?_of_block (a := ⟨b, _, none⟩) hk).trans e4⟩
theorem lv_old {W0 w : World} {pl : Nat} {v : Value} (h : Rv enc Tryz.prog W0 33 [v]) (hb : Below W0.heap.size W0 w) (hp : W0.heap.size ≤ pl) : LV enc W0 w pl v := by
  obtain ⟨a, len, cap, he, _, hz, hr⟩ := h.slice Tryz.underlying33 cells58 (by decide)
  rw [bytes58] at hz
  injection he with he _
  refine ⟨a, len, cap, he, by unfold reachBytes at hz; omega, fun h0 => ?_⟩
  obtain ⟨b, off, h1, h2, h3⟩ := hr h0
  refine ⟨b, off, h1, by omega, by have := hb.size; omega, fun i hi => ?_⟩
  obtain ⟨cs, hl, hc, hrv⟩ := h3 i hi
  obtain ⟨kd, sy, nm, nu, u, t⟩ := rv_type hrv
  have e := t.eq
  subst e
  have hcell : ∀ j, j < 5 → w.cell? ⟨b, off + i * 5 + j, none⟩ = _ := fun j hj => (hb.cell (p := ⟨b, off + i * 5 + j, none⟩) h2).trans (hc j hj)
  exact ⟨kd, sy, nm, nu, u, t, hcell 0 (by omega), hcell 1 (by omega), hcell 2 (by omega), hcell 3 (by omega), hcell 4 (by omega)⟩
/-- The box of what is left. -/
abbrev Lf (w : World) (pl : Nat) (x : Int) : Prop := w.heap[pl]? = some (.cells #[.int .i64 x] 3 (0, 0))
/-- What a call leaves that counts down. g: its answer that lets the count go on. -/
def TP (g : Bool) (pl : Nat) (x : Int) (w : World) (e : Ending) (w' : World) : Prop := ∃ b x', e = .returned (.bool b) ∧ Lf w' pl x' ∧ -1 ≤ x' ∧ x' ≤ x ∧ (b = g → 0 ≤ x') ∧ w.grownBy w' (some pl)
theorem grown_alloc {w : World} {r : Option Nat} (o : Obj) : w.grownBy (w.alloc o) r := World.grownBy_alloc _ _ _
end Go.Proofs.YtlipfgdjbimfjaaGreatDoor
