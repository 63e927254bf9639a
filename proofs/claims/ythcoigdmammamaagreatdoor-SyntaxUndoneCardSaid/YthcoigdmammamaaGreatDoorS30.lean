/- A walk over a tree whose rounds know of each node what all nodes of the tree have. -/
import Derived.Test.YthcoigdmammamaaGreatDoorS28
namespace Go.Proofs.YthcoigdmammamaaGreatDoor
open Go.RowKit Go.Shelf
attribute [local go_sem] Oper.semAt_some
set_option maxRecDepth 100000

/-- A node where it lies, of which something is known. -/
structure ItQ (W0 : World) (n0 : Nat) (Q : Nd → Prop) extends It W0 n0 where
  hq : Q x
abbrev ItQ.nd {W0 : World} {n0 : Nat} {Q : Nd → Prop} (y : ItQ W0 n0 Q) : Nd := y.x
abbrev ItQ.enc {W0 : World} {n0 : Nat} {Q : Nd → Prop} (y : ItQ W0 n0 Q) : Value := .pointer (some ⟨y.b, y.o, none⟩)
theorem kid_atq {W0 : World} {n0 : Nat} {Q : Nd → Prop} (hQ : ∀ x, Q x → ∀ i, i < x.kids.length → Q (x.kids.getD i Nd0)) {x0 : Nd} (hx0 : Q x0) {a : Option Addr} {n c : Nat} {l : List Nd} (h : Ls W0 n0 (.slice a n c) l) (hxl : x0.kids = l) (i : Nat) (hi : i < l.length) :
    ∃ y : ItQ W0 n0 Q, y.x = l.getD i Nd0 ∧ ∃ off, a = some ⟨y.b, off, none⟩ ∧ y.o = off + i * 5 ∧ l.length ≤ c := by
  obtain ⟨b, off, vs, rfl, hb, hc, hn, hl⟩ := h.row_of (by omega)
  subst hxl
  exact ⟨⟨⟨b, off + i * 5, x0.kids.getD i Nd0, vs i, hb, hn i hi, hl i hi⟩, hQ x0 hx0 i hi⟩, rfl, off, rfl, rfl, hc⟩

set_option maxHeartbeats 4000000 in
/-- A walk over a tree whose rounds keep what lies below n0. -/
theorem visit_inq {Q : Nd → Prop} (hQ : Hid (∀ x, Q x → ∀ i, i < x.kids.length → Q (x.kids.getD i Nd0))) (F : Fence) (hd : F.depth = none) (h40 : F.fn 40) (hro : F.round = none) (l n0 N : Nat) (W0 : World) (J Jx : List (ItQ W0 n0 Q) → World → Prop)
    (hY : ∀ m pre (y : ItQ W0 n0 Q) W, J pre W → pre.length < N → YieldAt F m Tryz.prog l #[y.enc] W fun e W' =>
      (e = .returned (.bool true) ∧ J (pre ++ [y]) W' ∧ Below n0 W W') ∨ (e = .returned (.bool false) ∧ Jx (pre ++ [y]) W')) (K : Nat) :
    ∀ (n : Nat) (y : ItQ W0 n0 Q) (pre : List (ItQ W0 n0 Q)) (W : World), SizeOf.sizeOf y.x ≤ K → Below n0 W0 W → J pre W → pre.length + y.x.nodes ≤ N → N ≤ 1000000 →
      CallsIn F n Tryz.prog 40 #[y.enc, .func (.yield l) #[] #[]] W fun e W' =>
        (e = .returned (.bool true) ∧ (∃ ys : List (ItQ W0 n0 Q), ys.map ItQ.nd = y.x.pre ∧ J (pre ++ ys) W') ∧ Below n0 W W') ∨
        (e = .returned (.bool false) ∧ ∃ ys : List (ItQ W0 n0 Q), ys.map ItQ.nd <+: y.x.pre ∧ Jx (pre ++ ys) W') := by
  induction K with
  | zero =>
    intro n y pre W hK
    exfalso
    have h : 0 < SizeOf.sizeOf y.x := by cases y.x; simp; omega
    omega
  | succ K ih =>
    intro n y pre W hK hW hJ hN hN1
    have hdd : ∀ k : Nat, (F.depth.isSome = true → 1 ≤ k) := fun k h => by rw [hd] at h; cases h
    obtain ⟨va, vc, hv⟩ := y.ls.slice
    have HL : Hid (Ls W0 n0 (.slice va y.x.kids.length vc) y.x.kids) := by have := y.ls; rw [hv] at this; exact this
    have c3 := y.nc.c3
    rw [hv] at c3
    have HC3 := Lib.hid c3
    have HK := Lib.hid hK
    have HW := Lib.hid hW
    clear c3 hK hW hv
    obtain ⟨fn, tmps, assign, body, hy, hR⟩ := hY (n - 1) pre y W hJ (by have := y.x.nodes_eq; omega)
    dsimp only [ItQ.enc] at hy
    refine callsIn_of_wp Tryz.func40 rfl h40 ?_ hro
    simp only [Tryz.ntmps40, List.size_toArray, List.length_cons, List.length_nil, Nat.reduceAdd, Nat.reduceSub, Array.replicate_succ, Array.replicate_zero, List.push_toArray, List.append_toArray, List.nil_append, List.cons_append]
    gi_wp2_with ((try refine ⟨hdd _, ?_⟩); refine hR.mono ?_; clear hR hy; rintro e W1 (⟨rfl, hJ1, hb1⟩ | ⟨rfl, hJx1⟩); have c3 := ((HW.out.trans hb1).cell (p := ⟨y.b, y.o + 3, none⟩) y.hb).trans HC3.out)
    · have HW1 := Lib.hid hb1
      clear hb1 c3
      gi_loopw [15] (fun v wr => ∃ (i : Nat) (ys : List (ItQ W0 n0 Q)), i ≤ y.x.kids.length ∧ v = .int .i64 i ∧ Hid (ys.map ItQ.nd = preL (y.x.kids.take i)) ∧ J (pre ++ [y] ++ ys) wr ∧ Hid (Below n0 W wr))
        (fun v _ => y.x.kids.length - (intOf v).toNat)
      case atStart => exact ⟨0, [], by omega, rfl, rfl, by simpa using hJ1, HW1⟩
      case round =>
        obtain ⟨i, ys, hi, rfl, HYS, hJi, HWr⟩ := hrel
        have c3 := ((HW.out.trans HWr.out).cell (p := ⟨y.b, y.o + 3, none⟩) y.hb).trans HC3.out
        by_cases hlt : i < y.x.kids.length
        · obtain ⟨z, hzx, off, rfl, hzo, hcap⟩ := kid_atq hQ.out y.hq HL.out rfl i hlt
          have hii : (i : Int) < (y.x.kids.length : Int) := by omega
          have hi0 : (0 : Int) ≤ (i : Int) := by omega
          have htk := nd_take hlt
          rw [← hzx] at htk
          have HTK := Lib.hid htk
          have hzk : SizeOf.sizeOf z.x ≤ K := by have := HK.out; have := Nd.size_kid hlt; rw [← hzx] at this; omega
          have hlen : (pre ++ [y] ++ ys).length + z.x.nodes ≤ N := by
            have h1 : ys.length = nodesL (y.x.kids.take i) := by have := congrArg List.length HYS.out; rw [List.length_map, preL_len] at this; exact this
            have h2 : nodesL (y.x.kids.take (i + 1)) ≤ nodesL y.x.kids := nodesL_take _ _
            have h3 := y.x.nodes_eq
            rw [HTK.out, nodesL_app] at h2
            rw [List.length_append, List.length_append, List.length_singleton]
            omega
          have hi1 : i ≤ 1000000 := by
            have := len_nodesL y.x.kids
            have := y.x.nodes_eq
            omega
          have ihz := ih (n - 1) z (pre ++ [y] ++ ys) wr hzk (HW.out.trans HWr.out) hJi hlen hN1
          dsimp only [ItQ.enc] at ihz
          rw [hzo] at ihz
          clear hzx hzo htk
          gi_wp2_with ((try refine ⟨hdd _, ?_⟩); gi_at_call 40; refine ihz.mono ?_; clear ihz; rintro e W2 (⟨rfl, ⟨zs, hz1, hz2⟩, hb2⟩ | ⟨rfl, zs, hz1, hz2⟩))
          · go_roundw
            case rel =>
              refine ⟨i + 1, ys ++ zs, by omega, by go_num, ?_, by simpa [List.append_assoc] using hz2, HWr.out.trans hb2⟩
              show _ = _
              rw [List.map_append, HYS.out, HTK.out, preL_app, hz1]
            case measure => simp [intOf]; omega
          · go_ret
            refine .inr ⟨rfl, y :: (ys ++ zs), ?_, by simpa [List.append_assoc] using hz2⟩
            rw [List.map_cons, List.map_append, HYS.out, y.x.pre_eq]
            refine List.cons_prefix_cons.2 ⟨rfl, ?_⟩
            have h1 : preL (y.x.kids.take i) ++ z.x.pre <+: preL y.x.kids := by
              rw [← preL_app, ← HTK.out]
              exact preL_take _ _
            exact (List.prefix_append_right_inj _ |>.2 hz1).trans h1
        · have he : i = y.x.kids.length := by omega
          subst he
          gi_wp2
          go_ret
          refine .inl ⟨rfl, ⟨y :: ys, ?_, by simpa [List.append_assoc] using hJi⟩, HWr.out⟩
          rw [List.map_cons, HYS.out, List.take_length, y.x.pre_eq]
    · go_ret
      refine .inr ⟨rfl, [y], ?_, hJx1⟩
      rw [y.x.pre_eq]
      exact List.cons_prefix_cons.2 ⟨rfl, List.nil_prefix⟩
set_option maxHeartbeats 1000000 in
theorem pre1_inq {Q : Nd → Prop} (hQ : Hid (∀ x, Q x → ∀ i, i < x.kids.length → Q (x.kids.getD i Nd0))) (F : Fence) (hd : F.depth = none) (n : Nat) (h39 : F.fn 39) (h40 : F.fn 40) (hro : F.round = none) (l Bt n0 : Nat) (W0 : World) (y : ItQ W0 n0 Q) (J Jx : List (ItQ W0 n0 Q) → World → Prop) (hN1 : y.x.nodes ≤ 1000000)
    (hY : ∀ pre (y' : ItQ W0 n0 Q) W, J pre W → pre.length < y.x.nodes → YieldAt F (n - 1) Tryz.prog l #[y'.enc] W fun e W' =>
      (e = .returned (.bool true) ∧ J (pre ++ [y']) W' ∧ Below n0 W W') ∨ (e = .returned (.bool false) ∧ Jx (pre ++ [y']) W'))
    (W : World) (hBt : W.cell? ⟨Bt, 0, none⟩ = some y.enc) (hW : Below n0 W0 W) (h0 : J [] W) :
    CallsIn F n Tryz.prog 39 #[.func (.yield l) #[] #[], .pointer (some ⟨Bt, 0, none⟩)] W fun e W' => (∃ v, e = .returned v) ∧
      ((∃ ys : List (ItQ W0 n0 Q), ys.map ItQ.nd = y.x.pre ∧ J ys W') ∨ (∃ pre : List (ItQ W0 n0 Q), pre.map ItQ.nd <+: y.x.pre ∧ Jx pre W')) := by
  have hdd : ∀ k : Nat, (F.depth.isSome = true → 1 ≤ k) := fun k h => by rw [hd] at h; cases h
  have hp := visit_inq hQ F hd h40 hro l n0 y.x.nodes W0 J Jx (fun m pre y' W hj hl => yield_any hd m (hY pre y' W hj hl)) (SizeOf.sizeOf y.x) (n - 1) y [] W (Nat.le_refl _) hW h0 (by simp) hN1
  refine callsIn_of_wp Tryz.func39 rfl h39 ?_ hro
  simp only [Tryz.ntmps39, List.size_toArray, List.length_cons, List.length_nil, Nat.reduceAdd, Nat.reduceSub, Array.replicate_succ, Array.replicate_zero, List.push_toArray, List.append_toArray, List.nil_append, List.cons_append]
  gi_wp2_with ((try refine ⟨hdd _, ?_⟩); gi_at_call 40; refine hp.mono ?_; clear hp; rintro e W1 (⟨rfl, ⟨ys, hy1, hy2⟩, _⟩ | ⟨rfl, ys, hy1, hy2⟩))
  · go_end0
    exact ⟨⟨_, rfl⟩, .inl ⟨ys, hy1, by simpa using hy2⟩⟩
  · go_end0
    exact ⟨⟨_, rfl⟩, .inr ⟨ys, hy1, by simpa using hy2⟩⟩

theorem pre_stopsq {Q : Nd → Prop} (hQ : Hid (∀ x, Q x → ∀ i, i < x.kids.length → Q (x.kids.getD i Nd0))) (F : Fence) (hd : F.depth = none) (n : Nat) (h39 : F.fn 39) (h40 : F.fn 40) (hro : F.round = none) (Bt n0 : Nat) (w : World) (y : ItQ w n0 Q) (hN1 : y.x.nodes ≤ 1000000) (hBt : Bt < w.heap.size) (hn0 : n0 ≤ w.heap.size)
    (hc : w.cell? ⟨Bt, 0, none⟩ = some y.enc) :
    SeqStopsK F n Tryz.prog 39 #[.pointer (some ⟨Bt, 0, none⟩)] (fun z : ItQ w n0 Q => #[z.enc]) (Below n0) (fun ys => ys.map ItQ.nd = y.x.pre) (fun ys => ys.map ItQ.nd <+: y.x.pre) y.x.nodes w := fun l J Jx W hW _ _ hY h0 =>
  pre1_inq hQ F hd n h39 h40 hro l Bt n0 w y J Jx hN1 hY W ((hW.cell (p := ⟨Bt, 0, none⟩) hBt).trans hc) (hW.mono hn0) h0

end Go.Proofs.YthcoigdmammamaaGreatDoor
