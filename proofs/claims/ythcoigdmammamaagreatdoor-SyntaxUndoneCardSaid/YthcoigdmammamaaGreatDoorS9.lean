/- begun: places compared, a map that is empty. -/
import Derived.Test.YthcoigdmammamaaGreatDoorS8
import Derived.Laws.StructEq
namespace Go.Proofs.YthcoigdmammamaaGreatDoor
open Go.RowKit Go.Shelf
set_option maxRecDepth 100000

theorem under87 : Tryz.prog.underlying 87 = some (.struct (Tryz.prog.fieldsOf 87)) := by kernel_rfl
theorem held87 : Tryz.prog.stoodInHeld 87 = false := by kernel_rfl
theorem ptr_ne {w : World} {a b : Addr} (h : (sameAddr a b).run Tryz.prog w = .ok false w) : (Op.equalIn 9999 48 (.pointer (some a)) (.pointer (some b))).run Tryz.prog w = .ok false w := by
  obtain ⟨i0, hi, iz0, iz1, iz2⟩ := info_parts info24
  rw [show (9999 : Nat) = 9998 + 1 from rfl, Op.equalIn]
  simp [run_underlying Tryz.underlying48, sizeOf, typeInfo, hi, iz1, h]
theorem place_ne {w : World} {a b : Addr} (n m : Int) (h : (sameAddr a b).run Tryz.prog w = .ok false w) :
    (Op.equalIn 10000 87 (.agg #[.pointer (some a), .int .i64 n]) (.agg #[.pointer (some b), .int .i64 m])).run Tryz.prog w = .ok false w := by
  rw [show (10000 : Nat) = 9999 + 1 from rfl, run_equalIn_agg w 9999 87 _ _ under87 held87]
  have hp := ptr_ne h
  have a48 := Tryz.isAgg48
  have z48 := Tryz.sizeOf48
  simp only [Program.fieldsOf, Tryz.underlying87]
  go_simp
theorem check48 (w : World) (p : Option Addr) (em : Bool) : (Instr.checkKey em 9998 48 (.pointer p)).run Tryz.prog w = .ok () w := by
  rw [show (9998 : Nat) = 9997 + 1 from rfl, Instr.checkKey]
  simp [run_underlying Tryz.underlying48]
theorem check3 (w : World) (n : Int) (em : Bool) : (Instr.checkKey em 9998 3 (.int .i64 n)).run Tryz.prog w = .ok () w := by
  rw [show (9998 : Nat) = 9997 + 1 from rfl, Instr.checkKey]
  simp [run_underlying Tryz.underlying3]
theorem check87 (w : World) (p : Option Addr) (n : Int) (em : Bool) : (Instr.checkKey em 9999 87 (.agg #[.pointer p, .int .i64 n])).run Tryz.prog w = .ok () w := by
  have h1 := fun w => check48 w p em
  have h2 := fun w => check3 w n em
  have a48 := Tryz.isAgg48
  have z48 := Tryz.sizeOf48
  have a3 := Tryz.isAgg3
  have z3 := Tryz.sizeOf3
  rw [show (9999 : Nat) = 9998 + 1 from rfl, Instr.checkKey]
  simp only [Sem.run_bind, run_underlying Tryz.underlying87, Result.andThen_ok]
  rw [← Array.forIn_toList]
  simp only [List.forIn_cons, List.forIn_nil]
  go_simp
theorem check_empty (w : World) (p q : Option Addr) (n m : Int) (em : Bool) : (Instr.checkKey em 10000 100 (.agg #[.pointer p, .int .i64 n, .pointer q, .int .i64 m])).run Tryz.prog w = .ok () w := by
  have h1 := fun w => check87 w p n em
  have h2 := fun w => check87 w q m em
  rw [show (10000 : Nat) = 9998 + 1 + 1 from rfl, Instr.checkKey]
  simp only [Sem.run_bind, run_underlying Tryz.underlying100, Result.andThen_ok]
  simp only [Std.Legacy.Range.forIn_eq_forIn_range', Std.Legacy.Range.size, Nat.sub_zero, Nat.add_sub_cancel, Nat.div_one, List.range'_succ, List.range'_zero, List.forIn_cons, List.forIn_nil]
  go_simp
theorem zero4 (w : World) : (zeroValue 4).run Tryz.prog w = .ok (.bool false) w := by
  have := Tryz.zeroValue4
  simp [this]
/-- What is asked of a map that is empty. -/
theorem look_empty (w : World) (M c : Nat) (p q : Option Addr) (n m : Int) (h : w.heap[M]? = some (.map #[] c)) :
    (Instr.lookup 54 (.map (some M)) (.agg #[.pointer p, .int .i64 n, .pointer q, .int .i64 m]) false).run Tryz.prog w = .ok (.bool false) w := by
  have h1 := check_empty w p q n m true
  have h2 := zero4 w
  have hg : (getObj M).run Tryz.prog w = .ok (.map #[] c) w := by simp [getObj, Sem.run, h]
  unfold Instr.lookup
  simp [run_underlying Tryz.underlying54, hg, h1, Instr.findKey, run_underlying Tryz.underlying100, Instr.findNow, h2]
end Go.Proofs.YthcoigdmammamaaGreatDoor
