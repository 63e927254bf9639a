/- The rules at the first example's program; Check. -/
import Derived.Test.YtlipfgdjbimfjaaGreatDoorP18
namespace Go.Proofs.YtlipfgdjbimfjaaGreatDoor
open Go.RowKit Go.Shelf Go.Sort
set_option maxRecDepth 100000

section
variable {w0 w : World} {B cb pa pb pc m : Nat} {nm : List UInt8}
/-- What a rule's call leaves. -/
def RuleOk (w0 w : World) (B cb m : Nat) (e : Ending) (w' : World) : Prop := e = .returned (.int .i64 0) ∧ CI w0 B cb m w' ∧ w.grownBy w' (some (B + 3))
theorem grown_below {w w' : World} {r : Option Nat} (hb : Below w.heap.size w w') : w.grownBy w' r := ⟨hb.os, hb.tape, hb.output, hb.size, fun k hk _ => hb.block k hk⟩
theorem r0 (h : CI w0 B cb m w) (hP : P3 w0 B cb pa pb pc [65]) (hG : Gl w0) (i : Nat) (hi : i < 3) : Calls Tryz.prog 82 #[.pointer (some ⟨B + 4, 0, none⟩), .int .i64 i] w (RuleOk w0 w B cb m) := by
  have hP2 := hP.bel h.bel (Nat.le_refl _)
  have hG2 := hG.bel h.bel (by have := hP.cB; omega)
  match i, hi with
  | 0, hi => exact (class_ok (B + 4) cb 3 (B + 3) 0 [65] 1 (-1) _ w hG2 h.tt hi (by omega) hP2.a (by kernel_rfl) (by omega) (.inl rfl)).mono fun e w' ⟨he, hb⟩ => ⟨he, h.of hb, grown_below hb⟩
  | 1, hi => exact (class_ok (B + 4) cb 3 (B + 3) 1 [66] 2 (-1) _ w hG2 h.tt hi (by omega) hP2.b (by kernel_rfl) (by omega) (.inl rfl)).mono fun e w' ⟨he, hb⟩ => ⟨he, h.of hb, grown_below hb⟩
  | 2, hi => exact (class_ok (B + 4) cb 3 (B + 3) 2 [67] 0 1 _ w hG2 h.tt hi (by omega) hP2.c (by kernel_rfl) (by omega) (.inr (by omega))).mono fun e w' ⟨he, hb⟩ => ⟨he, h.of hb, grown_below hb⟩
theorem r1 (h : CI w0 B cb m w) (hP : P3 w0 B cb pa pb pc nm) (i : Nat) (hi : i < 3) : Calls Tryz.prog 83 #[.pointer (some ⟨B + 4, 0, none⟩), .int .i64 i] w (RuleOk w0 w B cb m) := by
  have hP2 := hP.bel h.bel (Nat.le_refl _)
  have hno : (arF own3 3 3 i).contains (i : Int) = false := by
    match i, hi with
    | 0, _ => decide
    | 1, _ => decide
    | 2, _ => decide
  exact (nesting_any (B + 4) cb 3 (B + 3) i own3 w h.tt hi (by omega) (by have := hP.cB; have := h.sz; omega) hP2.own hno).mono fun e w' ⟨he, hb⟩ => ⟨he, h.of hb, grown_below hb⟩
theorem r2 (h : CI w0 B cb m w) (hP : P3 w0 B cb pa pb pc nm) (i : Nat) (hi : i < 3) : Calls Tryz.prog 84 #[.pointer (some ⟨B + 4, 0, none⟩), .int .i64 i] w (RuleOk w0 w B cb m) := by
  have hP2 := hP.bel h.bel (Nat.le_refl _)
  match i, hi with
  | 0, hi => exact (parents_one (B + 4) cb 3 (B + 3) 0 pa nm 1 (-1) w h.tt hi hP2.a hP2.ta.c0).mono fun e w' ⟨he, hb⟩ => ⟨he, h.of hb, grown_below hb⟩
  | 1, hi => exact (parents_two (B + 4) cb 3 (B + 3) 1 0 pb [66] nm 2 (-1) (-1) _ w h.tt hi (by omega) hP2.b hP2.a hP2.tb.c0 hP2.tb2.c0 hP2.tb2.c1 hP2.tb2.c4).mono fun e w' ⟨he, hb⟩ => ⟨he, h.of hb, grown_below hb⟩
  | 2, hi => exact (parents_one (B + 4) cb 3 (B + 3) 2 pc [67] 0 1 w h.tt hi hP2.c hP2.tc.c0).mono fun e w' ⟨he, hb⟩ => ⟨he, h.of hb, grown_below hb⟩
theorem anc3 (i : Nat) (hi : i < 3) : ancL 3 pl3 i = if i = 1 then [0] else [] := by
  match i, hi with
  | 0, _ => decide
  | 1, _ => decide
  | 2, _ => decide
theorem r3 (h : CI w0 B cb m w) (hP : P3 w0 B cb pa pb pc nm) (i : Nat) (hi : i < 3) : Calls Tryz.prog 85 #[.pointer (some ⟨B + 4, 0, none⟩), .int .i64 i] w (RuleOk w0 w B cb m) := by
  have hP2 := hP.bel h.bel (Nat.le_refl _)
  have hno : (srt (ints (ancL 3 pl3 i))).contains (i : Int) = false := by
    rw [anc3 i hi]
    match i, hi with
    | 0, _ => simp [srt]
    | 1, _ => simp [srt]
    | 2, _ => simp [srt]
  have c2 : w.cell? ⟨cb, i * 13 + 2, none⟩ = some (.int .i64 0) := by
    match i, hi with
    | 0, _ => exact hP2.a.c2
    | 1, _ => exact hP2.b.c2
    | 2, _ => exact hP2.c.c2
  exact (ancestry_ok (B + 4) cb 3 (B + 3) i pl3 w h.tt hi (by omega) (by have := hP.cB; have := h.sz; omega) (hP2.par (by have := h.sz; omega)) c2 hno).mono fun e w' ⟨he, hb⟩ => ⟨he, h.of hb, grown_below hb⟩
theorem CI.grow {w' : World} (h : CI w0 B cb m w) (hm : w'.heap[B + 3]? = some (.map (ents (m + 1)) (m + 1))) (hg : w.grownBy w' (some (B + 3))) : CI w0 B cb (m + 1) w' := by
  have hz := h.sz
  have hk : ∀ k, k < B + 6 → k ≠ B + 3 → w'.heap[k]? = w.heap[k]? := fun k hk hne => hg.block k (by omega) (fun e => hne (by injection e))
  obtain ⟨h1, h2, h3, h4, h5, h6⟩ := h
  exact ⟨h1.grown hg (by omega) (fun k hk => by injection hk; omega), (hk _ (by omega) (by omega)).trans h2, (hk _ (by omega) (by omega)).trans h3, hm, (hk _ (by omega) (by omega)).trans h5, (hk _ (by omega) (by omega)).trans h6⟩
theorem r8 (i : Nat) (h : CI w0 B cb i w) (hP : P3 w0 B cb pa pb pc [65]) (hi : i < 3) : Calls Tryz.prog 90 #[.pointer (some ⟨B + 4, 0, none⟩), .int .i64 i] w (RuleOk w0 w B cb (i + 1)) := by
  have hP2 := hP.bel h.bel (Nat.le_refl _)
  obtain ⟨l, hl⟩ := key_lit i hi
  have he := ents_ok i (by omega)
  have hne := ents_new i hi
  have hpush := ents_push i
  match i, hi with
  | 0, hi =>
    refine (classOnce_ok (B + 4) cb 3 (B + 3) 0 0 [65] 1 (-1) false _ l _ w h.tt h.map hi hP2.a (by decide) hl he hne).mono fun e w' ⟨h1, h2, h3⟩ => ⟨h1, h.grow ?_ h3, h3⟩
    rw [h2]; exact congrArg (fun x => some (Obj.map x 1)) hpush
  | 1, hi =>
    refine (classOnce_ok (B + 4) cb 3 (B + 3) 1 1 [66] 2 (-1) true _ l _ w h.tt h.map hi hP2.b (by decide) hl he hne).mono fun e w' ⟨h1, h2, h3⟩ => ⟨h1, h.grow ?_ h3, h3⟩
    rw [h2]; exact congrArg (fun x => some (Obj.map x 2)) hpush
  | 2, hi =>
    refine (classOnce_ok (B + 4) cb 3 (B + 3) 2 2 [67] 0 1 false _ l _ w h.tt h.map hi hP2.c (by decide) hl he hne).mono fun e w' ⟨h1, h2, h3⟩ => ⟨h1, h.grow ?_ h3, h3⟩
    rw [h2]; exact congrArg (fun x => some (Obj.map x 3)) hpush
end
end Go.Proofs.YtlipfgdjbimfjaaGreatDoor
