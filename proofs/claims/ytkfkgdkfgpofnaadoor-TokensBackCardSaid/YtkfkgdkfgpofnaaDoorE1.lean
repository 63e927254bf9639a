/- The walk of openMark. -/
import Derived.Test.YtkfkgdkfgpofnaaDoorE0
import Derived.StillTailTactics
namespace Go.Proofs.YtkfkgdkfgpofnaaDoor
open Go.RowKit
set_option maxRecDepth 100000
theorem info50 : (Tryd.prog.info? 50).map (fun i => (i.zero, i.size, i.bytes)) = some (some (.agg #[.int .u8 0, .int .i64 0, .bool false]), 3, 24) := by kernel_rfl

set_option maxHeartbeats 2000000 in
theorem openMark_any (b : Nat) (s : ByteArray) (w0 : World) (t : St) (m : ByteArray) (inside : Bool) (w : World) (h : Sd b s w0 w t) (hk : t.Ok s) (hs : s.size < 100000) (hm : m.size ≤ 10) :
    Calls Tryd.prog 53 #[.pointer (some ⟨b, 0, none⟩), .string m, .bool inside] w (Tk b s w0 (t.openMark m inside)) := by
  obtain ⟨vo, vp, hr⟩ := h
  obtain ⟨p, l, g, out, op⟩ := t
  obtain ⟨k1, k2, k3, k4, k5⟩ := hk
  simp only at k1 k2 k3 k4 k5 hr
  obtain ⟨va, vc, rfl⟩ := own_slice hr.ownp
  obtain ⟨c0, c1, c2, c3, c4, c5, f1, f2, f3, f4, f5⟩ := rc hr.blk
  obtain ⟨i0, hi, hz0, hz1, hz2⟩ := info_parts info50
  have HR := Lib.hid hr
  have hlt := lt_of_block hr.blk
  clear hr
  by_cases ho : 64 ≤ op.length
  · have HX := Lib.hid ho
    go_enter Tryd.func53, Tryd.ntmps53
    go_wp2_with (go_at_call 18; refine (fail_any _ _ _).mono ?_; rintro e w' ⟨rfl, rfl⟩)
    refine ⟨rfl, ?_⟩
    unfold St.openMark
    rw [if_pos HX.out]
    exact ⟨rfl, HR.out.bel⟩
  · have HX := Lib.hid ho
    obtain ⟨br, hbr⟩ : ∃ br : Br, br = ⟨closerOf m.toList, p, inside⟩ := ⟨_, rfl⟩
    have HBR := Lib.hid hbr
    clear hbr
    go_enter Tryd.func53, Tryd.ntmps53
    go_wp2_with fail
    go_region_law (first
      | (refine step_append_lies _ rfl _ _ 39 rfl (b + 1) 50 i0 (.agg #[.int .u8 0, .int .i64 0, .bool false]) 3 24 Tryd.underlying39 hi hz0 hz1 hz2 rfl (by decide) (.slice va op.length vc) op.length (op.flatMap Br.cells) rfl (by exact HR.out.ownp.alloc _) ⟨w.heap.size, 0, none⟩ 1 1 br.cells rfl rfl (by rw [HBR.out]; exact br_row w ⟨closerOf m.toList, p, inside⟩ 50) (br_one br) (by decide) (by unfold maxLen; omega) (by omega) (by simp; omega) (w.heap.size + 1) (by simp) ?_; intro gg cap w3 hown' hgrow hat hltg; have HG := Lib.hid (And.intro hown' (And.intro hgrow hat)); clear hown' hgrow hat; obtain ⟨c0', c1', c2', c3', c4', c5', f1', f2', f3', f4', f5'⟩ := rc (HR.out.blk3' _ (by rfl) HG.out.2.1))
      | (go_simp; go_at_call 64; refine (closer_any _ _).mono ?_; rintro e w' ⟨rfl, rfl⟩))
    all_goals
      have R2 := HR.out.opens2 (by rfl) (by rfl) (by rfl) (by rfl) HG.out.1 HG.out.2.1 HG.out.2.2
      have R3 := Lib.hid R2
      clear HG R2
      go_wp2
      clear c0 c1 c2 c3 c4 c5 f1 f2 f3 f4 f5 c0' c1' c2' c3' c4' c5' f1' f2' f3' f4' f5'
      have R2 := R3.out
      clear R3
      generalize w3.setCell ⟨b, 5, none⟩ (.slice (some ⟨gg, 0, none⟩) (op.length + 1) cap) = w4 at *
      obtain ⟨c0, c1, c2, c3, c4, c5, f1, f2, f3, f4, f5⟩ := rc R2.blk
      have R2 := Lib.hid R2
      go_still_tail 13, (by kernel_rfl)
      change wpList _ _ _ _ _ (World.drew _)
      go_wp2_with fail
      rw [← Int.natCast_add]
      refine (put_st b s w0 ⟨p, l, g, out, op ++ [br]⟩ 3 m p (p + m.size) _ (by exact ⟨_, _, R2.out.drew⟩) (by simp only; omega) (by omega) (by omega) (by simp only; omega)).mono ?_
      rintro e1 w5 ⟨rfl, h5⟩
      have H5 := Lib.hid h5
      clear h5 R2
      go_wp2
      go_end0
      unfold St.openMark
      rw [if_neg HX.out]
      rw [show (St.mk p l g out op).opens m inside = ⟨p, l, g, out, op ++ [br]⟩ from by rw [HBR.out]; rfl]
      exact ⟨rfl, H5.out⟩
end Go.Proofs.YtkfkgdkfgpofnaaDoor
