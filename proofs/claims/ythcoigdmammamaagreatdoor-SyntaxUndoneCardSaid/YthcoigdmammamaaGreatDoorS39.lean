/- What the row's list and the world's shape give: the tables. -/
import Derived.Test.YthcoigdmammamaaGreatDoorRows
import Derived.Test.YthcoigdmammamaaGreatDoorS20
import Derived.Lib.LaidTab
import Derived.LaidMore
import Derived.MakeChecks
import Derived.Shelf.Vars
import Derived.ChangeArms
namespace Go.Proofs.YthcoigdmammamaaGreatDoor
open Go.RowKit
set_option maxRecDepth 100000

theorem gNam : Tryz.prog.globalNamed "newel/syntax.kindNames" = some 0 := by kernel_rfl
theorem gNamT : (Tryz.prog.globals[0]?).map (·.type) = some 92 := by kernel_rfl
theorem gSpcT : (Tryz.prog.globals[1]?).map (·.type) = some 137 := by kernel_rfl
theorem gPowT : (Tryz.prog.globals[2]?).map (·.type) = some 150 := by kernel_rfl
theorem u92 : Tryz.prog.underlying 92 = some (.array 75 9) := by kernel_rfl
theorem u137 : Tryz.prog.underlying 137 = some (.array 256 5) := by kernel_rfl
theorem u150 : Tryz.prog.underlying 150 = some (.array 20 113) := by kernel_rfl
theorem u5 : Tryz.prog.underlying 5 = some (.int .u8) := by kernel_rfl
theorem u113 : Tryz.prog.underlying 113 = some (.int .u64) := by kernel_rfl
theorem cells92 : Tryz.prog.cellsOf 92 = 75 := by kernel_rfl
theorem cells137 : Tryz.prog.cellsOf 137 = 256 := by kernel_rfl
theorem cells150 : Tryz.prog.cellsOf 150 = 20 := by kernel_rfl
theorem cells5 : Tryz.prog.cellsOf 5 = 1 := by kernel_rfl
theorem cells113 : Tryz.prog.cellsOf 113 = 1 := by kernel_rfl
theorem cellsOf9 : Tryz.prog.cellsOf 9 = 1 := by kernel_rfl

theorem laid_tail {P : Program} {x : String × DataW Unit} {r : List (String × DataW Unit)} {w : World} (h : laidMet P (x :: r) w) : laidMet P r w := by
  obtain ⟨ps, ⟨g, t, cs, fuel, p, q, _, _, _, _, hq, rfl⟩, hn, hf⟩ := h
  exact ⟨q, hq, (List.nodup_append.1 hn).2.1, fun b off hp => hf b off (List.mem_append_right _ hp)⟩
theorem e_spc : (Rows.laid_strings_asciiSpace : DataW Unit) = Lib.tabData .u8 Lib.asciiSpaceTab := by kernel_rfl
theorem e_pow : (Rows.laid_internal_strconv_uint64pow10 : DataW Unit) = Lib.tabData .u64 Lib.pow10Tab := by kernel_rfl
/-- A table of strings as a row lists it. -/
def strData (zs : List (List UInt8)) : DataW Unit := .agg (zs.map fun z => .lit (.string z))
theorem e_nam : (Rows.laid_newel_syntax_kindNames : DataW Unit) = strData knames := by kernel_rfl
theorem cells_of_strs {enc : TypeId × Value → Unit} {P : Program} {w : World} {base : Nat} {sp : Nat → Bool} {held : Bool} {fuel : Nat} {t e : TypeId} {n : Nat} {cs : List Value} {zs : List (List UInt8)} {p : List MemPlace}
    (ht : P.underlying t = some (.array n e)) (he : P.underlying e = some .string) (hce : P.cellsOf e = 1) (hct : P.cellsOf t = n)
    (h : DataW.trod enc P w base sp held fuel t cs = some (strData zs, p)) : ∀ i, i < zs.length → cs[i]? = some (.string (bs (zs.getD i []))) := by
  cases fuel with
  | zero => simp [DataW.trod] at h
  | succ fuel =>
    simp only [DataW.trod, ht, hce, hct, Nat.mul_one] at h
    split at h
    · rename_i hl
      obtain ⟨xs, hm, hx⟩ := Option.map_eq_some_iff.1 h
      have hxs : xs.map (·.1) = zs.map fun z => (DataW.lit (.string z) : DataW Unit) := by
        have := congrArg Prod.fst hx
        simpa [strData] using this
      have hxl : xs.length = n := by simpa using Lib.mapM_length hm
      have hzl : zs.length = n := by
        have := congrArg List.length hxs
        simp at this
        omega
      intro i hi
      have hin : i < n := by omega
      obtain ⟨b, hb, hf⟩ := Lib.mapM_at hm i i (by simp [hin])
      obtain ⟨s, hc, rfl, _⟩ := DataW.trod_string he hf
      have h1 : cs[i]? = some (.string s) := by
        have := congrArg (·[0]?) hc
        simpa [List.getElem?_take, List.getElem?_drop] using this
      have h2 : (xs.map (·.1))[i]? = some (DataW.lit (.string s.data.toList) : DataW Unit) := by simp [hb]
      rw [hxs] at h2
      simp only [List.getElem?_map, Option.map_eq_some_iff, DataW.lit.injEq, Lit.string.injEq] at h2
      obtain ⟨z', hz', hz2⟩ := h2
      rw [h1, List.getD_eq_getElem?_getD, hz']
      show some (Value.string s) = some (Value.string (bs z'))
      rw [hz2]
    · cases h

theorem laid_glob {W : World} (hL : laidMetH Tryz.prog Rows.syntaxUndoneRow.laid W) (hsh : W.ShapedOpen Tryz.prog) : Glob W := by
  rw [MakeChecks.laidMetH_plain _ _ _ (by kernel_rfl)] at hL
  have h1 := laid_tail (laid_tail hL)
  have h2 := laid_tail (laid_tail (laid_tail h1))
  have h3 := laid_tail h2
  rw [e_pow] at h1
  rw [e_spc] at h2
  rw [e_nam] at h3
  have tp := Lib.tabIs_of_head gPow gPowT u150 u113 cells113 cells150 h1
  have ts := Lib.tabIs_of_head gSpc gSpcT u137 u5 cells5 cells137 h2
  have hn : ∀ i, i < 75 → W.cell? ⟨0, i, none⟩ = some (.string (bs (knames.getD i []))) := by
    obtain ⟨ps, ⟨g', t', cs, fuel, p, q, hg', ht', hvar, hd, _, _⟩, _⟩ := h3
    obtain rfl := Option.some.inj (gNam.symm.trans hg')
    obtain rfl := Option.some.inj (gNamT.symm.trans ht')
    intro i hi
    have h := cells_of_strs u92 Tryz.underlying9 cellsOf9 cells92 hd i (by rw [knames_len]; exact hi)
    rw [World.var?_cell gNam hvar i]
    simpa using h
  obtain ⟨m, hm⟩ := cell_of_shapedOpen_int (P := Tryz.prog) (w := W) (g := 6) (t := 3) (zero := #[.int .i64 0]) (k := .i64) hsh (of_decide_eq_true (by kernel_rfl)) (by kernel_rfl) rfl (by kernel_rfl) (by kernel_rfl) Tryz.underlying3
  refine ⟨?_, hn, ts, tp, m, hm⟩
  obtain ⟨cs, hh, _⟩ := hsh.1 11 (((((begin Tryz.prog (fun _ _ => 0) default).world.heap[11]?).bind Obj.row?).getD (#[], 0)).1) (((((begin Tryz.prog (fun _ _ => 0) default).world.heap[11]?).bind Obj.row?).getD (#[], 0)).2) (of_decide_eq_true (by kernel_rfl)) (by kernel_rfl)
  exact (Array.getElem?_eq_some_iff.1 hh).1
end Go.Proofs.YthcoigdmammamaaGreatDoor
