/- What the cards of this seat share: arguments opened, the table, the worlds of the witnesses. -/
import Derived.Test.YtlipfgdjbimfjaaGreatDoorRows
import Derived.Test.YtlipfgdjbimfjaaGreatDoorH0
import Derived.Lib.LaidTab
import Derived.LaidMore
import Derived.MakeChecks
import Derived.Shelf.Vars
import Derived.OpenShut
import Derived.Carry
namespace Go.Proofs.YtlipfgdjbimfjaaGreatDoor
open Go.ChangeShapes Go.WideShapes Go.RowKit Go.ChangeMaps
set_option maxRecDepth 100000

theorem own : ownKnob Tryz.prog.godebug = none := by kernel_rfl
theorem laidOut : laidOutB Tryz.prog = true := by kernel_rfl
theorem gTab : Tryz.prog.globalNamed "newel/symbols.classFlags" = some 0 := by kernel_rfl
theorem gTabType : (Tryz.prog.globals[0]?).map (·.type) = some 159 := by kernel_rfl
theorem cells159 : Tryz.prog.cellsOf 159 = 3 := by kernel_rfl
theorem u159 : Tryz.prog.underlying 159 = some (.array 3 3) := by kernel_rfl
def tab : List Int := [16495, 16397, 16426]
variable {H : Type} {enc : TypeId × Value → H}
theorem rv_of_trod {W : World} {t : TypeId} {v : Value} {d : DataW H} {p : List MemPlace} (h : DataW.Trod enc Tryz.prog W 0 (fun _ => true) true t v d p) (hz : W.noneFrozen p) (hw : ∀ n ∈ d.weights Tryz.prog t, n ≤ reachBytes) : Rv enc Tryz.prog W t v.cells.toList := by
  obtain ⟨fuel, hr⟩ := h
  exact ⟨fuel, (d, p), hr, hz, hw⟩
theorem cells28 : Tryz.prog.cellsOf 28 = 6 := by kernel_rfl
theorem cells22 : Tryz.prog.cellsOf 22 = 1 := by kernel_rfl
theorem cells23 : Tryz.prog.cellsOf 23 = 1 := by kernel_rfl
theorem cells24 : Tryz.prog.cellsOf 24 = 1 := by kernel_rfl
theorem cells25 : Tryz.prog.cellsOf 25 = 1 := by kernel_rfl
theorem cells26 : Tryz.prog.cellsOf 26 = 1 := by kernel_rfl
theorem cells29 : Tryz.prog.cellsOf 29 = 2 := by kernel_rfl
theorem six {α : Type} {l : List α} (h : l.length = 6) : ∃ a b c d e f, l = [a, b, c, d, e, f] := by
  match l, h with
  | [a, b, c, d, e, f], _ => exact ⟨a, b, c, d, e, f, rfl⟩
/-- A program's cells. -/
theorem rv_program {W0 : World} {cs : List Value} (h : Rv enc Tryz.prog W0 28 cs) : ∃ (ca : Option Addr) (cn cc : Nat) (ma : Option Addr) (mn mc : Nat) (fa : Option Addr) (fn fc : Nat) (ta : Option Addr) (tn tc : Nat) (ya : Option Addr) (yn yc : Nat) (mi : Int),
    cs = [.slice ca cn cc, .slice ma mn mc, .slice fa fn fc, .slice ta tn tc, .slice ya yn yc, .int .i64 mi] ∧ Rv enc Tryz.prog W0 22 [.slice ca cn cc] ∧ Rv enc Tryz.prog W0 23 [.slice ma mn mc] ∧ Rv enc Tryz.prog W0 24 [.slice fa fn fc] ∧ Rv enc Tryz.prog W0 25 [.slice ta tn tc] ∧ Rv enc Tryz.prog W0 26 [.slice ya yn yc] := by
  obtain ⟨hl, hf⟩ := h.field Tryz.underlying28
  rw [cells28] at hl
  obtain ⟨c0, c1, c2, c3, c4, c5, rfl⟩ := six hl
  have f0 : Rv enc Tryz.prog W0 22 (([c0, c1, c2, c3, c4, c5].drop 0).take (Tryz.prog.cellsOf 22)) := hf 0 _ rfl
  rw [cells22] at f0
  have f1 : Rv enc Tryz.prog W0 23 (([c0, c1, c2, c3, c4, c5].drop 1).take (Tryz.prog.cellsOf 23)) := hf 1 _ rfl
  rw [cells23] at f1
  have f2 : Rv enc Tryz.prog W0 24 (([c0, c1, c2, c3, c4, c5].drop 2).take (Tryz.prog.cellsOf 24)) := hf 2 _ rfl
  rw [cells24] at f2
  have f3 : Rv enc Tryz.prog W0 25 (([c0, c1, c2, c3, c4, c5].drop 3).take (Tryz.prog.cellsOf 25)) := hf 3 _ rfl
  rw [cells25] at f3
  have f4 : Rv enc Tryz.prog W0 26 (([c0, c1, c2, c3, c4, c5].drop 4).take (Tryz.prog.cellsOf 26)) := hf 4 _ rfl
  rw [cells26] at f4
  have f5 : Rv enc Tryz.prog W0 3 (([c0, c1, c2, c3, c4, c5].drop 5).take (Tryz.prog.cellsOf 3)) := hf 5 _ rfl
  rw [cells3] at f5
  have g0 : Rv enc Tryz.prog W0 22 [c0] := f0
  have g1 : Rv enc Tryz.prog W0 23 [c1] := f1
  have g2 : Rv enc Tryz.prog W0 24 [c2] := f2
  have g3 : Rv enc Tryz.prog W0 25 [c3] := f3
  have g4 : Rv enc Tryz.prog W0 26 [c4] := f4
  have g5 : Rv enc Tryz.prog W0 3 [c5] := f5
  obtain ⟨ca, cn, cc, h0, -⟩ := g0.slice Tryz.underlying22 cells36 (by decide)
  obtain ⟨ma, mn, mc, h1, -⟩ := g1.slice Tryz.underlying23 cells63 (by decide)
  obtain ⟨fa, fn, fc, h2, -⟩ := g2.slice Tryz.underlying24 cells72 (by decide)
  obtain ⟨ta, tn, tc, h3, -⟩ := g3.slice Tryz.underlying25 cells74 (by decide)
  obtain ⟨ya, yn, yc, h4, -⟩ := g4.slice Tryz.underlying26 cells77 (by decide)
  obtain ⟨mi, h5, -⟩ := Rv.int Tryz.underlying3 g5
  injection h0 with h0 _
  injection h1 with h1 _
  injection h2 with h2 _
  injection h3 with h3 _
  injection h4 with h4 _
  injection h5 with h5 _
  subst h0 h1 h2 h3 h4 h5
  exact ⟨ca, cn, cc, ma, mn, mc, fa, fn, fc, ta, tn, tc, ya, yn, yc, mi, rfl, g0, g1, g2, g3, g4⟩
/-- A pair of ints. -/
theorem rv_pair {W0 : World} {cs : List Value} (h : Rv enc Tryz.prog W0 29 cs) : ∃ a b : Int, cs = [.int .i64 a, .int .i64 b] := by
  obtain ⟨fuel, x, hr, hz, hw⟩ := h
  obtain ⟨xs, m, rfl, rfl, hl, hxl, he⟩ := DataW.trod_array Tryz.underlying29 hr
  rw [cells29] at hl
  match cs, hl with
  | [c0, c1], _ =>
    have e0 := he 0 (by decide)
    have e1 := he 1 (by decide)
    rw [cells3] at e0 e1
    rw [List.getElem?_eq_getElem (by omega)] at e0 e1
    obtain ⟨a, h0, -⟩ := DataW.trod_int Tryz.underlying3 e0
    obtain ⟨b, h1, -⟩ := DataW.trod_int Tryz.underlying3 e1
    simp at h0 h1
    exact ⟨a, b, by rw [h0, h1]⟩
end Go.Proofs.YtlipfgdjbimfjaaGreatDoor
