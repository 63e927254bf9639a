/- The walk of closing. -/
import Derived.Test.YtkfkgdkfgpofnaaDoorE6
import Derived.WalkSmall
namespace Go.Proofs.YtkfkgdkfgpofnaaDoor
open Go.RowKit
set_option maxRecDepth 100000

theorem br_len (op : List Br) : (op.flatMap Br.cells).length = op.length * 3 := by
  induction op with
  | nil => rfl
  | cons a l ih => rw [List.flatMap_cons, List.length_append, ih]; simp [Br.cells]; omega
theorem br_last (op : List Br) (br : Br) (i : Nat) (h : i < 3) : ((op ++ [br]).flatMap Br.cells)[op.length * 3 + i]? = br.cells[i]? := by
  rw [List.flatMap_append, List.getElem?_append_right (by rw [br_len]; omega), br_len]
  rw [show op.length * 3 + i - op.length * 3 = i from by omega]
  simp
theorem add_plain (g j : Nat) : (⟨g, 0, none⟩ : Addr).add j = ⟨g, j, none⟩ := by unfold Addr.add; split <;> simp_all
theorem Rd.last {b : Nat} {s : ByteArray} {w0 w : World} {p l g : Nat} {out : List Tok} {op : List Br} {br : Br} {vo : Value} {gg vc : Nat} (h : Rd b s w0 w p l g out (op ++ [br]) vo (.slice (some ⟨gg, 0, none⟩) (op ++ [br]).length vc)) :
    w.cell? ⟨gg, op.length * 3, none⟩ = some (.int .u8 br.closer) ∧ w.cell? ⟨gg, op.length * 3 + 1, none⟩ = some (.int .i64 br.at_) ∧ w.cell? ⟨gg, op.length * 3 + 2, none⟩ = some (.bool br.inside) := by
  have hc := h.ownp.cells (g := gg) rfl
  refine ⟨?_, ?_, ?_⟩
  · have := hc (op.length * 3 + 0) _ (br_last op br 0 (by omega)); rw [add_plain] at this; exact this
  · have := hc (op.length * 3 + 1) _ (br_last op br 1 (by omega)); rw [add_plain] at this; exact this
  · have := hc (op.length * 3 + 2) _ (br_last op br 2 (by omega)); rw [add_plain] at this; exact this
theorem Rd.pop {b : Nat} {s : ByteArray} {w0 w : World} {p l g : Nat} {out : List Tok} {op : List Br} {br : Br} {vo : Value} {gg vc : Nat} (h : Rd b s w0 w p l g out (op ++ [br]) vo (.slice (some ⟨gg, 0, none⟩) (op ++ [br]).length vc)) :
    Rd b s w0 (w.setCell ⟨b, 5, none⟩ (.slice (some ⟨gg, 0, none⟩) op.length vc)) p l g out op vo (.slice (some ⟨gg, 0, none⟩) op.length vc) := by
  have nb : vo.ownBlock ≠ some b := fun e => by have := (h.own.lt b e).1; omega
  have h2 := h.ownp
  rw [List.length_append, List.flatMap_append] at h2
  have h3 : w.ownsRow (b + 1) 50 3 (.slice (some ⟨gg, 0, none⟩) op.length vc) op.length (op.flatMap Br.cells) := ownsRow_pop (br_len op) h2
  have hgb : gg ≠ b := by have := (h.ownp.lt gg rfl).1; omega
  refine ⟨rb_open h.blk _, ownsRow_setCell_other h.own (a := ⟨b, 5, none⟩) nb _, ownsRow_setCell_other h3 (a := ⟨b, 5, none⟩) (fun e => hgb (Option.some.inj e)) _, h.apart, Below.setCell h.bel (Nat.le_refl _) _⟩

theorem own_cap {w : World} {base e sz g n cap : Nat} {xs : List Value} (h : w.ownsRow base e sz (.slice (some ⟨g, 0, none⟩) n cap) n xs) : n ≤ cap := by
  rcases h.2 with ⟨h, _⟩ | ⟨g', cap', cur, h, _, _, h2, _⟩
  · cases h
  · cases h; exact h2

/-- A closing bracket. -/
def mclosing (s : ByteArray) (t : St) : Except Flt St :=
  match t.op.getLast? with
  | none => .error (t.p, 27)
  | some br =>
    if br.closer = bt s t.p then
      if br.inside = true then mparts s (msep s { t with op := t.op.dropLast }) else .ok (msep s { t with op := t.op.dropLast })
    else .error (t.p, 27)

set_option maxHeartbeats 1000000 in
theorem closing_none (b : Nat) (s : ByteArray) (w0 : World) (p l g : Nat) (out : List Tok) (w : World) (h : Sd b s w0 w ⟨p, l, g, out, []⟩) (hs : s.size < 100000) (hlt : p < s.size) :
    Calls Tryd.prog 33 #[.pointer (some ⟨b, 0, none⟩)] w (Tk b s w0 (.error (p, 27))) := by
  have HS := Lib.hid h
  obtain ⟨vo, vp, hr⟩ := h
  obtain ⟨va, vc, rfl⟩ := own_slice hr.ownp
  obtain ⟨c0, c1, c2, c3, c4, c5, f1, f2, f3, f4, f5⟩ := rc hr.blk
  simp only [List.length_nil] at c5
  clear hr
  go_enter Tryd.func33, Tryd.ntmps33
  go_wp2
  go_quiet (fail)
  go_wp2_with (go_at_call 18; refine (fail_any _ _ _).mono ?_; rintro e w' ⟨rfl, rfl⟩)
  exact ⟨rfl, rfl, (HS.out.drewN _).bel⟩

set_option maxHeartbeats 2000000 in
theorem closing_some (b : Nat) (s : ByteArray) (w0 : World) (p l g : Nat) (out : List Tok) (op : List Br) (br : Br) (w : World) (hT : Tab w0) (hb0 : 0 < b) (h : Sd b s w0 w ⟨p, l, g, out, op ++ [br]⟩) (hk : St.Good ⟨p, l, g, out, op ++ [br]⟩ s) (hs : s.size < 100000) (hlt : p < s.size) :
    Calls Tryd.prog 33 #[.pointer (some ⟨b, 0, none⟩)] w (Tk b s w0 (mclosing s ⟨p, l, g, out, op ++ [br]⟩)) := by
  have HS := Lib.hid h
  have HT0 := Lib.hid hT
  have HG := Lib.hid hk
  clear hT
  obtain ⟨vo, vp, hr⟩ := h
  obtain ⟨k1, k2, k3, k4, k5⟩ := hk
  simp only at k1 k2 k3 k4 k5 hr hlt
  obtain ⟨gg, vc, rfl, hgg, hgl⟩ := hr.ownp.form (by simp)
  obtain ⟨d0, d1, d2⟩ := hr.last
  have hcap := own_cap hr.ownp
  obtain ⟨c0, c1, c2, c3, c4, c5, f1, f2, f3, f4, f5⟩ := rc hr.blk
  have HR := Lib.hid hr
  have e := bt_eq s p hlt
  have hl : (op ++ [br]).length = op.length + 1 := by simp
  rw [hl] at c5 k5 hcap
  clear hr hl
  have t0 : ((op.length : Int) + 1 == 0) = false := by rw [beq_eq_false_iff_ne]; omega
  have t1 : IntKind.i64.wrap ((op.length : Int) + 1 - 1) = (op.length : Int) := by rw [IntWalk.i64_in _ (by omega)]; omega
  have t2 : (op.length : Int) < (op.length : Int) + 1 := by omega
  have t3 : (0 : Int) ≤ (op.length : Int) := by omega
  by_cases hx : br.closer = bt s p
  · have t4 : ((br.closer : Int) != (bt s p : Int)) = false := by rw [hx]; simp
    have HR1 : Hid (mclosing s ⟨p, l, g, out, op ++ [br]⟩ = if br.inside = true then mparts s (msep s ⟨p, l, g, out, op⟩) else .ok (msep s ⟨p, l, g, out, op⟩)) := by
      show mclosing _ _ = _
      unfold mclosing
      simp only [List.getLast?_append, List.getLast?_singleton, Option.or_some, Option.some_or, List.dropLast_concat]
      rw [if_pos hx]
    clear hx
    have HP := Lib.hid (HR.out.mv HR.out.blk (Fr.refl b w)).pop
    have HG2 : Hid (St.Good ⟨p, l, g, out, op⟩ s) := ⟨k1, k2, k3, k4, (by simp only; omega)⟩
    go_enter Tryd.func33, Tryd.ntmps33
    go_wp2
    go_quiet (fail)
    go_wp2_with fail
    refine (separator_any b s w0 ⟨p, l, g, out, op⟩ _ (by exact ⟨_, _, (HR.out.drewN _).pop⟩) (HG2.out.ok hs) hs (by simp only; omega)).mono ?_
    rintro e1 w1 ⟨rfl, h1⟩
    have H1 := Lib.hid h1
    have HG3 : Hid (St.Good (msep s ⟨p, l, g, out, op⟩) s) := HG2.out.putA _ _ _ _ (by simp only; omega) (by simp only; omega)
    clear h1
    rcases hi : br.inside with _ | _
    · have HI := Lib.hid hi
      clear hi
      go_wp2
      first | go_end0 | refine bodyPost_ret (results_none rfl _ _ _) rfl ?_
      rw [HR1.out, HI.out]
      exact ⟨rfl, H1.out⟩
    · have HI := Lib.hid hi
      clear hi
      go_wp2_with fail
      refine (parts_any b s w0 _ _ HT0.out hb0 H1.out HG3.out hs).mono ?_
      intro e3 w6 h3
      rcases hm : mparts s (msep s ⟨p, l, g, out, op⟩) with f | t3
      · rw [hm] at h3
        obtain ⟨rfl, hf3⟩ := h3
        refine ⟨rfl, ?_⟩
        rw [HR1.out, HI.out, if_pos rfl, hm]
        exact ⟨rfl, hf3⟩
      · rw [hm] at h3
        obtain ⟨rfl, hf3⟩ := h3
        have HF3 := Lib.hid hf3
        have HM3 := Lib.hid hm
        clear hf3 hm
        go_wp2
        first | go_end0 | refine bodyPost_ret (results_none rfl _ _ _) rfl ?_
        rw [HR1.out, HI.out, if_pos rfl, HM3.out]
        exact ⟨rfl, HF3.out⟩
  · have t4 : ((br.closer : Int) != (bt s p : Int)) = true := by rw [bne_iff_ne]; omega
    have HR1 : Hid (mclosing s ⟨p, l, g, out, op ++ [br]⟩ = .error (p, 27)) := by
      show mclosing _ _ = _
      unfold mclosing
      simp only [List.getLast?_append, List.getLast?_singleton, Option.or_some, Option.some_or]
      rw [if_neg hx]
    clear hx
    go_enter Tryd.func33, Tryd.ntmps33
    go_wp2
    go_quiet (fail)
    go_wp2_with (go_at_call 18; refine (fail_any _ _ _).mono ?_; rintro e w' ⟨rfl, rfl⟩)
    refine ⟨rfl, ?_⟩
    rw [HR1.out]
    exact ⟨rfl, (HS.out.drewN _).bel⟩

theorem closing_any (b : Nat) (s : ByteArray) (w0 : World) (t : St) (w : World) (hT : Tab w0) (hb0 : 0 < b) (h : Sd b s w0 w t) (hk : t.Good s) (hs : s.size < 100000) (hlt : t.p < s.size) :
    Calls Tryd.prog 33 #[.pointer (some ⟨b, 0, none⟩)] w (Tk b s w0 (mclosing s t)) := by
  obtain ⟨p, l, g, out, op⟩ := t
  rcases List.eq_nil_or_concat op with rfl | ⟨op', br, hop⟩
  · exact closing_none b s w0 p l g out w h hs hlt
  · rw [List.concat_eq_append] at hop
    subst hop
    exact closing_some b s w0 p l g out op' br w hT hb0 h hk hs hlt
end Go.Proofs.YtkfkgdkfgpofnaaDoor
