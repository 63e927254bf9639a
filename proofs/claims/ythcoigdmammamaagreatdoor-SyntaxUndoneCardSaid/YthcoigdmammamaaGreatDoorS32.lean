/- Check, at the first example. -/
import Derived.Test.YthcoigdmammamaaGreatDoorS31
namespace Go.Proofs.YthcoigdmammamaaGreatDoor
open Go.RowKit Go.Shelf Go.Sort
set_option maxRecDepth 100000

theorem pre35 (z : Nd) (h : z ∈ n35.pre) : z = n35 ∨ z = n38 ∨ z = n30 := by
  have e : n35.pre = [n35, n38, n30] := by simp [n35, n38, n30, Nd.pre, preL]
  rw [e] at h
  simpa using h
theorem ok35 : n35.ok := ⟨by decide, by decide, by decide, by decide, by decide, by decide, by decide⟩
theorem ok30 : n30.ok := ⟨by decide, by decide, by decide, by decide, by decide, by decide, by decide⟩
theorem ok38 : n38.ok := ⟨by decide, by decide, by decide, by decide, by decide, by decide, by decide⟩
theorem nodes35 : n35.nodes = 3 := by simp [n35, n38, n30, Nd.nodes, nodesL]
theorem high35 : n35.high = 2 := by simp [n35, n38, n30, Nd.high, highL]
theorem fm35 : formM (n35.kids.map Nd.kind) (kforms.getD 35 []) = true := by kernel_rfl
theorem fm38 : formM (n38.kids.map Nd.kind) (kforms.getD 38 []) = true := by kernel_rfl
theorem fm30 : formM (n30.kids.map Nd.kind) (kforms.getD 30 []) = true := by kernel_rfl
theorem ff35 : kforms.getD 35 [] = [69, 32, 69] := by kernel_rfl
theorem ff38 : kforms.getD 38 [] = [] := by kernel_rfl
theorem ff30 : kforms.getD 30 [] = [] := by kernel_rfl
theorem fs35 : Lib.fields [69, 32, 69] = [[69], [69]] := by kernel_rfl
theorem fs0 : Lib.fields [] = [] := by kernel_rfl

theorem wrong35 (b o B : Nat) (v : Value) (w : World) (hG : Glob w) (nc : NC w b o n35 v) (hl : Ls w B v n35.kids) (hB : B ≤ w.heap.size) (hb : b < w.heap.size) :
    Calls Tryz.prog 31 #[.pointer (some ⟨b, o, none⟩)] w fun e w' => e = .returned (.int .i64 0) ∧ Below w.heap.size w w' := by
  refine wrong_ok n35 35 b o B v w hG rfl (by decide) nc hl hB hb (by decide) (wt35 nc rfl rfl) (wn35 nc rfl rfl) (by rw [ff35]; decide) (by rw [ff35]; decide) (by rw [ff35, fs35]; decide) (by rw [ff35, fs35]; decide) fm35 ?_
  intro w' hb'
  exact kr35 (nc.of (hb'.block b hb)) rfl
theorem wrong38 (b o B : Nat) (v : Value) (w : World) (hG : Glob w) (nc : NC w b o n38 v) (hl : Ls w B v n38.kids) (hB : B ≤ w.heap.size) (hb : b < w.heap.size) :
    Calls Tryz.prog 31 #[.pointer (some ⟨b, o, none⟩)] w fun e w' => e = .returned (.int .i64 0) ∧ Below w.heap.size w w' := by
  refine wrong_ok n38 38 b o B v w hG rfl (by decide) nc hl hB hb (by decide) (wt38 nc rfl rfl) (wn38 nc rfl rfl) (by rw [ff38]; decide) (by rw [ff38]; decide) (by rw [ff38, fs0]; decide) (by rw [ff38, fs0]; decide) fm38 ?_
  intro w' hb'
  exact kr38 (nc.of (hb'.block b hb)) rfl
theorem wrong30 (b o B : Nat) (v : Value) (w : World) (hG : Glob w) (nc : NC w b o n30 v) (hl : Ls w B v n30.kids) (hB : B ≤ w.heap.size) (hb : b < w.heap.size) :
    Calls Tryz.prog 31 #[.pointer (some ⟨b, o, none⟩)] w fun e w' => e = .returned (.int .i64 0) ∧ Below w.heap.size w w' := by
  refine wrong_ok n30 30 b o B v w hG rfl (by decide) nc hl hB hb (by decide) (wt30 nc rfl rfl) (wn30 nc rfl rfl) (by rw [ff30]; decide) (by rw [ff30]; decide) (by rw [ff30, fs0]; decide) (by rw [ff30, fs0]; decide) fm30 ?_
  intro w' hb'
  exact kr30 (nc.of (hb'.block b hb)) rfl

theorem check35 (v : Value) (B : Nat) (w : World) (hG : Glob w) (hl : Ls w B v n35.kids) (hB : B ≤ w.heap.size) :
    Calls Tryz.prog 16 #[nv n35 v] w fun e w' => e = .returned (.agg #[.int .i64 0, .int .i64 0]) ∧ Below w.heap.size w w' := by
  refine check_ok n35 v B w hG hl hB ok35 (by rw [nodes35]; decide) (by rw [high35]; decide) ?_
  intro n0 W0 W y hy hn hb hGW
  have hbW : y.b < W.heap.size := Nat.lt_of_lt_of_le y.hb (Nat.le_trans hn hb.size)
  have nc := y.nc.of (hb.block y.b y.hb)
  have ls := y.ls.bel hb
  obtain ⟨b, o, x, vx, hyb, _, _⟩ := y
  rcases pre35 x hy with rfl | rfl | rfl
  · exact wrong35 b o n0 vx W hGW nc ls (Nat.le_trans hn hb.size) hbW
  · exact wrong38 b o n0 vx W hGW nc ls (Nat.le_trans hn hb.size) hbW
  · exact wrong30 b o n0 vx W hGW nc ls (Nat.le_trans hn hb.size) hbW
end Go.Proofs.YthcoigdmammamaaGreatDoor
