/- FindClass of the program and of the reference: the first class that fits, the same for both. -/
import Derived.Test.YtlipfgdjbimfjaaGreatDoorH1
namespace Go.Proofs.YtlipfgdjbimfjaaGreatDoor
open Go.RowKit Go.Shelf Go.Sort
set_option maxRecDepth 100000

variable {H : Type} {enc : TypeId × Value → H}
/-- What a law that holds leaves. -/
def LawR (w : World) (e : Ending) (w' : World) : Prop := e = .returned (.bool true) ∧ Below w.heap.size w w'
/-- A program's cells in a box. -/
abbrev PX (B : Nat) (ca : Option Addr) (cn cc : Nat) (ma : Option Addr) (mn mc : Nat) (fa : Option Addr) (fn fc : Nat) (ta : Option Addr) (tn tc : Nat) (ya : Option Addr) (yn yc : Nat) (mi : Int) (w : World) : Prop :=
  w.cell? ⟨B, 0, none⟩ = some (.slice ca cn cc) ∧ w.cell? ⟨B, 1, none⟩ = some (.slice ma mn mc) ∧ w.cell? ⟨B, 2, none⟩ = some (.slice fa fn fc) ∧ w.cell? ⟨B, 3, none⟩ = some (.slice ta tn tc) ∧ w.cell? ⟨B, 4, none⟩ = some (.slice ya yn yc) ∧ w.cell? ⟨B, 5, none⟩ = some (.int .i64 mi)
theorem px_of {B : Nat} {ca : Option Addr} {cn cc : Nat} {ma : Option Addr} {mn mc : Nat} {fa : Option Addr} {fn fc : Nat} {ta : Option Addr} {tn tc : Nat} {ya : Option Addr} {yn yc : Nat} {mi : Int} {w : World} (h : w.heap[B]? = some (.cells #[.slice ca cn cc, .slice ma mn mc, .slice fa fn fc, .slice ta tn tc, .slice ya yn yc, .int .i64 mi] 28 (0, 0))) :
    PX B ca cn cc ma mn mc fa fn fc ta tn tc ya yn yc mi w := ⟨blk_cell h 0, blk_cell h 1, blk_cell h 2, blk_cell h 3, blk_cell h 4, blk_cell h 5⟩
/-- The first index from k on, among n, at which a test holds; -1: none. -/
def fnd (p : Nat → Bool) : Nat → Nat → Int
  | 0, _ => -1
  | n + 1, k => if p k = true then (k : Int) else fnd p n (k + 1)
/-- A class with its lists as slices. -/
structure ClS where
  nm : ByteArray
  kd : Int
  fl : Int
  ow : Int
  ta : Option Addr
  tn : Nat
  tc : Nat
  pa : Option Addr
  pn : Nat
  pc : Nat
  qa : Option Addr
  qn : Nat
  qc : Nat
  fa : Option Addr
  fn : Nat
  fc : Nat
  ma : Option Addr
  mn : Nat
  mc : Nat
  ya : Option Addr
  yn : Nat
  yc : Nat
  sa : Option Addr
  sn : Nat
  sc : Nat
  ia : Option Addr
  inn : Nat
  ic : Nat
  at_ : Int
abbrev ClS.cells (t : ClS) : List Value := [.string t.nm, .int .i64 t.kd, .int .i64 t.fl, .int .i64 t.ow, .slice t.ta t.tn t.tc, .slice t.pa t.pn t.pc, .slice t.qa t.qn t.qc, .slice t.fa t.fn t.fc, .slice t.ma t.mn t.mc, .slice t.ya t.yn t.yc, .slice t.sa t.sn t.sc, .slice t.ia t.inn t.ic, .int .i64 t.at_]
abbrev ClS.val (t : ClS) : Value := .agg #[.string t.nm, .int .i64 t.kd, .int .i64 t.fl, .int .i64 t.ow, .slice t.ta t.tn t.tc, .slice t.pa t.pn t.pc, .slice t.qa t.qn t.qc, .slice t.fa t.fn t.fc, .slice t.ma t.mn t.mc, .slice t.ya t.yn t.yc, .slice t.sa t.sn t.sc, .slice t.ia t.inn t.ic, .int .i64 t.at_]
/-- Classes in memory, in every world above W0. -/
def CLS (W0 : World) (v : Value) (n : Nat) (d : Nat → ClS) : Prop :=
  ∃ a cap, v = .slice a n cap ∧ (0 < n → ∃ b off, a = some ⟨b, off, none⟩ ∧ b < W0.heap.size ∧ ∀ w, Below W0.heap.size W0 w → ∀ i, i < n → ∀ j, j < 13 → w.cell? ⟨b, off + i * 13 + j, none⟩ = (d i).cells[j]?)
structure ClS.ok (enc : TypeId × Value → H) (W0 : World) (t : ClS) : Prop where
  sz : t.nm.size ≤ 140737488351232
  ts : Rv enc Tryz.prog W0 32 [.slice t.ta t.tn t.tc]
  ps : Rv enc Tryz.prog W0 33 [.slice t.pa t.pn t.pc]
  fs : Rv enc Tryz.prog W0 32 [.slice t.fa t.fn t.fc]
  ms : Rv enc Tryz.prog W0 32 [.slice t.ma t.mn t.mc]
  ys : Rv enc Tryz.prog W0 32 [.slice t.ya t.yn t.yc]
  own : -9223372036854775808 ≤ t.ow ∧ t.ow ≤ 9223372036854775807
theorem rv_class2 {W0 : World} {cs : List Value} (h : Rv enc Tryz.prog W0 36 cs) : ∃ t : ClS, cs = t.cells ∧ t.ok enc W0 := by
  obtain ⟨t, hcs, hok⟩ := rv_class h
  obtain ⟨hl, hf⟩ := h.field Tryz.underlying36
  obtain ⟨nm, kd, fl, ow, ta, tn, tc, pv, qa, qn, qc, fa, fn, fc, ma, mn, mc, ya, yn, yc, sv, iv, at_⟩ := t
  obtain ⟨pa, pn, pc, hpv, -⟩ := hok.pv.slice Tryz.underlying33 cells58 (by decide)
  obtain ⟨sa, sn, sc, hsv, -⟩ := hok.sv.slice Tryz.underlying34 cells70 (by decide)
  obtain ⟨ia, inn, ic, hiv, -⟩ := hok.iv.slice Tryz.underlying34 cells70 (by decide)
  injection hpv with hpv _
  injection hsv with hsv _
  injection hiv with hiv _
  simp only at hpv hsv hiv
  subst hpv hsv hiv
  subst hcs
  have f3 : Rv enc Tryz.prog W0 3 [.int .i64 ow] := hf 3 _ rfl
  have f4 : Rv enc Tryz.prog W0 32 [.slice ta tn tc] := hf 4 _ rfl
  have f7 : Rv enc Tryz.prog W0 32 [.slice fa fn fc] := hf 7 _ rfl
  have f8 : Rv enc Tryz.prog W0 32 [.slice ma mn mc] := hf 8 _ rfl
  have f9 : Rv enc Tryz.prog W0 32 [.slice ya yn yc] := hf 9 _ rfl
  obtain ⟨ow', e, hr⟩ := Rv.int Tryz.underlying3 f3
  injection e with e _
  injection e with _ e
  subst e
  exact ⟨⟨nm, kd, fl, ow, ta, tn, tc, pa, pn, pc, qa, qn, qc, fa, fn, fc, ma, mn, mc, ya, yn, yc, sa, sn, sc, ia, inn, ic, at_⟩, rfl, ⟨hok.sz, f4, hok.pv, f7, f8, f9, hr⟩⟩
/-- The classes of a program's value. -/
theorem cls_old {W0 : World} {v : Value} (h : Rv enc Tryz.prog W0 22 [v]) : ∃ (n : Nat) (d : Nat → ClS), n ≤ 17592186044416 ∧ (∀ i, i < n → (d i).ok enc W0) ∧ CLS W0 v n d := by
  obtain ⟨a, len, cap, he, _, hz, hr⟩ := h.slice Tryz.underlying22 cells36 (by decide)
  have hz2 : len * 8 ≤ reachBytes := Nat.le_trans (Nat.mul_le_mul_left _ bytes36) hz
  injection he with he _
  have hlen : len ≤ 17592186044416 := by unfold reachBytes at hz2; omega
  by_cases h0 : 0 < len
  · obtain ⟨b, off, h1, h2, h3⟩ := hr h0
    have each : ∀ i : Nat, ∃ t : ClS, i < len → t.ok enc W0 ∧ ∀ j, j < 13 → W0.cell? ⟨b, off + i * 13 + j, none⟩ = t.cells[j]? := by
      intro i
      by_cases hi : i < len
      · obtain ⟨cs, hl, hc, hrv⟩ := h3 i hi
        obtain ⟨t, rfl, hok⟩ := rv_class2 hrv
        exact ⟨t, fun _ => ⟨hok, hc⟩⟩
      · exact ⟨⟨ByteArray.empty, 0, 0, 0, none, 0, 0, none, 0, 0, none, 0, 0, none, 0, 0, none, 0, 0, none, 0, 0, none, 0, 0, none, 0, 0, 0⟩, fun h => absurd h hi⟩
    obtain ⟨d, hd⟩ := Classical.axiomOfChoice each
    exact ⟨len, d, hlen, fun i hi => (hd i hi).1, a, cap, he, fun _ => ⟨b, off, h1, h2, fun w hb i hi j hj => (hb.cell (p := ⟨b, off + i * 13 + j, none⟩) h2).trans ((hd i hi).2 j hj)⟩⟩
  · exact ⟨len, fun _ => ⟨ByteArray.empty, 0, 0, 0, none, 0, 0, none, 0, 0, none, 0, 0, none, 0, 0, none, 0, 0, none, 0, 0, none, 0, 0, none, 0, 0, 0⟩, hlen, fun i hi => absurd hi (by omega), a, cap, he, fun h => absurd h h0⟩
/-- Does a class fit. -/
def fits (ow : Int) (nm : ByteArray) (ob : Bool) (t : ClS) : Bool := t.ow == ow && decide (t.nm.toList = nm.toList) && (t.kd == 2) == ob

set_option maxHeartbeats 1000000 in
theorem fclo (ow : Int) (nm : ByteArray) (ob : Bool) (t : ClS) (b1 b2 b3 : Nat) (w : World) (h1 : w.heap[b1]? = some (.cells #[.int .i64 ow] 3 (0, 0))) (h2 : w.heap[b2]? = some (.cells #[.string nm] 9 (0, 0))) (h3 : w.heap[b3]? = some (.cells #[.bool ob] 4 (0, 0))) :
    Calls Tryz.prog 37 #[t.val, .pointer (some ⟨b1, 0, none⟩), .pointer (some ⟨b2, 0, none⟩), .pointer (some ⟨b3, 0, none⟩)] w fun e w' => e = .returned (.bool (fits ow nm ob t)) ∧ Below w.heap.size w w' := by
  obtain ⟨tnm, kd, fl, tow, ta, tn, tc, pa, pn, pc, qa, qn, qc, fa, fn, fc, ma, mn, mc, ya, yn, yc, sa, sn, sc, ia, inn, ic, at_⟩ := t
  obtain ⟨W1, hW1⟩ : ∃ W1, w.alloc (.cells #[.string tnm, .int .i64 kd, .int .i64 fl, .int .i64 tow, .slice ta tn tc, .slice pa pn pc, .slice qa qn qc, .slice fa fn fc, .slice ma mn mc, .slice ya yn yc, .slice sa sn sc, .slice ia inn ic, .int .i64 at_] 36) = W1 := ⟨_, rfl⟩
  have hb : Below w.heap.size w W1 := by rw [← hW1]; exact (Below.refl _ _).alloc (Nat.le_refl _) _
  have hR : W1.heap[w.heap.size]? = some (.cells #[.string tnm, .int .i64 kd, .int .i64 fl, .int .i64 tow, .slice ta tn tc, .slice pa pn pc, .slice qa qn qc, .slice fa fn fc, .slice ma mn mc, .slice ya yn yc, .slice sa sn sc, .slice ia inn ic, .int .i64 at_] 36 (0, 0)) := by rw [← hW1]; exact heap_alloc_new w _
  have s0 := blk_cell hR 0
  have s1 := blk_cell hR 1
  have s3 := blk_cell hR 3
  have c1 := blk_cell ((hb.block b1 (Array.getElem?_eq_some_iff.1 h1).1).trans h1) 0
  have c2 := blk_cell ((hb.block b2 (Array.getElem?_eq_some_iff.1 h2).1).trans h2) 0
  have c3 := blk_cell ((hb.block b3 (Array.getElem?_eq_some_iff.1 h3).1).trans h3) 0
  have HB := Lib.hid hb
  have HW1 := Lib.hid hW1
  clear hb hW1 hR h1 h2 h3
  unfold fits
  simp only
  obtain ⟨y1, hy1⟩ : ∃ y, (tow == ow) = y := ⟨_, rfl⟩
  obtain ⟨y2, hy2⟩ : ∃ y, decide (tnm.toList = nm.toList) = y := ⟨_, rfl⟩
  obtain ⟨y3, hy3⟩ : ∃ y, ((kd == 2) == ob) = y := ⟨_, rfl⟩
  rw [hy1, hy2, hy3]
  go_enter Tryz.func37, Tryz.ntmps37
  go_upto_region 1 with fail
  rw [HW1.out]
  cases y1 with
  | false =>
    go_wp2
    go_ret
    exact ⟨rfl, HB.out⟩
  | true =>
  cases y2 with
  | true =>
    have hp2 : tnm.toList = nm.toList := by simpa using hy2
    clear hy2
    cases y3 with
    | false =>
      go_wp2
      go_ret
      exact ⟨rfl, HB.out⟩
    | true =>
      go_wp2
      go_ret
      exact ⟨rfl, HB.out⟩
  | false =>
    have hp2 : ¬ tnm.toList = nm.toList := by simpa using hy2
    clear hy2
    go_wp2
    go_ret
    exact ⟨rfl, HB.out⟩
end Go.Proofs.YtlipfgdjbimfjaaGreatDoor
