/- The walks of the layouter's put and push. -/
import Derived.Test.YtkfkgdkfgpofnaaDoorH1
import Derived.Test.YtkfkgdkfgpofnaaDoorA2
namespace Go.Proofs.YtkfkgdkfgpofnaaDoor
open Go.RowKit
set_option maxRecDepth 100000
theorem info64 : (Tryd.prog.info? 64).map (fun i => (i.zero, i.size, i.bytes)) = some (some (.agg #[.int .u8 0, .int .i64 0, .int .i64 0]), 3, 24) := by kernel_rfl

/-- A token of layout in front of t. -/
def layTok (k : Int) (t : Tok) : Tok := ⟨k, ByteArray.empty, t.at_, t.line, t.col⟩

set_option maxHeartbeats 2000000 in
theorem yput_any (S : List (Nat × Obj)) (b : Nat) (w0 w : World) (inp : List Tok) (l : LS) (k : Int) (t : Tok) (h : Yd S b w0 w inp l) (ho : l.out.length ≤ 1000000) :
    Calls Tryd.prog 59 #[.pointer (some ⟨b, 0, none⟩), .int .i64 k, t.agg] w fun e w' => e = .returned (.tuple #[]) ∧ Yd S b w0 w' inp ⟨l.out ++ [layTok k t], l.regs, l.m⟩ := by
  obtain ⟨vi, vo, vr, h, hs⟩ := h
  obtain ⟨out, regs, m⟩ := l
  simp only at h ho
  obtain ⟨i0, hi, hz0, hz1, hz2⟩ := info_parts info32
  obtain ⟨lt, hlt⟩ : ∃ lt, lt = layTok k t := ⟨_, rfl⟩
  have HLT := Lib.hid hlt
  rw [← hlt]
  clear hlt
  have HB : Hid (Ly b w0 (w.alloc (.cells #[.int .i64 t.kind, .string t.text, .int .i64 t.at_, .int .i64 t.line, .int .i64 t.col] 32)) inp out regs m vi vo vr) := h.alloc _
  have HE : Hid (TC (w.alloc (.cells #[.int .i64 t.kind, .string t.text, .int .i64 t.at_, .int .i64 t.line, .int .i64 t.col] 32)) w.heap.size 0 t) := by
    have hbk := heap_alloc_new w (.cells #[.int .i64 t.kind, .string t.text, .int .i64 t.at_, .int .i64 t.line, .int .i64 t.col] 32)
    exact ⟨blk_cell hbk 0, blk_cell hbk 1, blk_cell hbk 2, blk_cell hbk 3, blk_cell hbk 4⟩
  have HS := Lib.hid (hs.alloc (.cells #[.int .i64 t.kind, .string t.text, .int .i64 t.at_, .int .i64 t.line, .int .i64 t.col] 32))
  clear h hs
  unfold Tok.agg
  go_enter Tryd.func59, Tryd.ntmps59
  go_wp2
  generalize w.alloc (.cells #[.int .i64 t.kind, .string t.text, .int .i64 t.at_, .int .i64 t.line, .int .i64 t.col] 32) = w2 at *
  generalize w.heap.size = B5 at *
  obtain ⟨e0, e1, e2, e3, e4⟩ := HE.out
  obtain ⟨c0, c1, c2, c3, f1, f2, f3⟩ := yc HB.out.blk
  have hblt := lt_of_block HB.out.blk
  clear HE
  go_region_law (first
    | (refine step_append_lies _ rfl _ _ 23 rfl (b + 1) 32 i0 (.agg #[.int .i64 0, .string ByteArray.empty, .int .i64 0, .int .i64 0, .int .i64 0]) 5 48 Tryd.underlying23 hi hz0 hz1 hz2 rfl (by decide) vo out.length (out.flatMap Tok.cells) rfl (by exact HB.out.own.alloc _) ⟨w2.heap.size, 0, none⟩ 1 1 lt.cells rfl rfl (by rw [HLT.out]; exact tok_row w2 (layTok k t) 32) (tok_one lt) (by decide) (by unfold maxLen; omega) (by omega) (by simp; omega) (w2.heap.size + 1) (by simp) ?_; intro gg cap w3 hown' hgrow hat hltg; have HG := Lib.hid (And.intro hown' (And.intro hgrow hat)); clear hown' hgrow hat; obtain ⟨c0', c1', c2', c3', f1', f2', f3'⟩ := yc (HB.out.blkO _ (by rfl) HG.out.2.1)))
  all_goals
    go_wp2
    go_end0
    exact ⟨rfl, _, _, _, HB.out.put (by rfl) (by rfl) (by rfl) (by rfl) HG.out.1 HG.out.2.1 HG.out.2.2, HS.out.put (by rfl) HG.out.2.1 HG.out.2.2⟩

/-- What push comes to. -/
def LS.push (l : LS) (i : Int) (r : Rg) : Except Flt LS := if 64 ≤ l.regs.length then .error (i, 8) else .ok ⟨l.out, l.regs ++ [r], l.m⟩
set_option maxHeartbeats 2000000 in
theorem ypush_any (S : List (Nat × Obj)) (b : Nat) (w0 w : World) (inp : List Tok) (l : LS) (i : Int) (r : Rg) (h : Yd S b w0 w inp l) (ho : l.regs.length ≤ 1000) :
    Calls Tryd.prog 60 #[.pointer (some ⟨b, 0, none⟩), .int .i64 i, r.agg] w (Yk S b w0 inp (l.push i r)) := by
  obtain ⟨vi, vo, vr, h, hs⟩ := h
  obtain ⟨out, regs, m⟩ := l
  simp only at h ho
  obtain ⟨va, vc, rfl⟩ := own_slice h.ownr
  obtain ⟨i0, hi, hz0, hz1, hz2⟩ := info_parts info64
  have HB : Hid (Ly b w0 (w.alloc (.cells #[.int .u8 r.closer, .int .i64 r.width, .int .i64 r.index] 64)) inp out regs m vi vo (.slice va regs.length vc)) := h.alloc _
  have HE : Hid (GC (w.alloc (.cells #[.int .u8 r.closer, .int .i64 r.width, .int .i64 r.index] 64)) w.heap.size 0 r) := by
    have hbk := heap_alloc_new w (.cells #[.int .u8 r.closer, .int .i64 r.width, .int .i64 r.index] 64)
    exact ⟨blk_cell hbk 0, blk_cell hbk 1, blk_cell hbk 2⟩
  have HS := Lib.hid (hs.alloc (.cells #[.int .u8 r.closer, .int .i64 r.width, .int .i64 r.index] 64))
  clear h hs
  unfold Rg.agg
  by_cases hx : 64 ≤ regs.length
  · have HX := Lib.hid hx
    obtain ⟨c0, c1, c2, c3, f1, f2, f3⟩ := yc HB.out.blk
    go_enter Tryd.func60, Tryd.ntmps60
    go_wp2_with (go_at_call 18; refine (fail_any _ _ _).mono ?_; rintro e w' ⟨rfl, rfl⟩)
    refine ⟨rfl, ?_⟩
    unfold LS.push
    rw [if_pos HX.out]
    exact ⟨rfl, HB.out.bel⟩
  · have HX := Lib.hid hx
    obtain ⟨c0, c1, c2, c3, f1, f2, f3⟩ := yc HB.out.blk
    go_enter Tryd.func60, Tryd.ntmps60
    go_wp2
    clear c0 c1 c2 c3 f1 f2 f3
    generalize w.alloc (.cells #[.int .u8 r.closer, .int .i64 r.width, .int .i64 r.index] 64) = w2 at *
    generalize w.heap.size = B5 at *
    obtain ⟨e0, e1, e2⟩ := HE.out
    obtain ⟨c0, c1, c2, c3, f1, f2, f3⟩ := yc HB.out.blk
    have hblt := lt_of_block HB.out.blk
    clear HE
    go_region_law (first
      | (refine step_append_lies _ rfl _ _ 55 rfl (b + 1) 64 i0 (.agg #[.int .u8 0, .int .i64 0, .int .i64 0]) 3 24 Tryd.underlying55 hi hz0 hz1 hz2 rfl (by decide) (.slice va regs.length vc) regs.length (regs.flatMap Rg.cells) rfl (by exact HB.out.ownr.alloc _) ⟨w2.heap.size, 0, none⟩ 1 1 r.cells rfl rfl (by exact rg_row w2 r 64) (rg_one r) (by decide) (by unfold maxLen; omega) (by omega) (by simp; omega) (w2.heap.size + 1) (by simp) ?_; intro gg cap w3 hown' hgrow hat hltg; have HG := Lib.hid (And.intro hown' (And.intro hgrow hat)); clear hown' hgrow hat; obtain ⟨c0', c1', c2', c3', f1', f2', f3'⟩ := yc (HB.out.blkR _ (by rfl) HG.out.2.1)))
    all_goals
      go_wp2
      go_end0
      unfold LS.push
      rw [if_neg HX.out]
      exact ⟨rfl, _, _, _, HB.out.push (by rfl) (by rfl) (by rfl) (by rfl) HG.out.1 HG.out.2.1 HG.out.2.2, HS.out.push (by rfl) HG.out.2.1 HG.out.2.2⟩
end Go.Proofs.YtkfkgdkfgpofnaaDoor
