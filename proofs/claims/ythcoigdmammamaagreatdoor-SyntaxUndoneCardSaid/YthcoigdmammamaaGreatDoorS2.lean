/- visit: the walk over a tree, each node ahead of its kids. -/
import Derived.Test.YthcoigdmammamaaGreatDoorS1
import Derived.RangeFuncNested
import Derived.RangeFuncBound
import Derived.RangeFuncCalls
import Derived.RangeFuncLeaves
import Derived.Shelf.Abstract
import Derived.Shelf.RegionOpen
import Derived.WalkKit
import Derived.OwnWalkIn
import Derived.TacticsInMore
import Derived.LoopNIn
import Derived.LoopIn
namespace Go.Proofs.YthcoigdmammamaaGreatDoor
open Go.RowKit Go.Shelf
attribute [local go_sem] Oper.semAt_some
set_option maxRecDepth 100000

mutual
/-- The nodes, each ahead of its kids. -/
def Nd.pre : Nd → List Nd
  | .mk k t n l a => .mk k t n l a :: preL l
def preL : List Nd → List Nd
  | [] => []
  | x :: r => x.pre ++ preL r
end
theorem Nd.pre_eq (x : Nd) : x.pre = x :: preL x.kids := by cases x; rw [Nd.pre]; rfl
theorem preL_app (a : List Nd) (x : Nd) : preL (a ++ [x]) = preL a ++ x.pre := by
  induction a with
  | nil => show x.pre ++ [] = [] ++ x.pre; simp
  | cons y r ih => show y.pre ++ preL (r ++ [x]) = y.pre ++ preL r ++ x.pre; rw [ih, List.append_assoc]
mutual
theorem Nd.pre_len : ∀ x : Nd, x.pre.length = x.nodes
  | .mk k t n l a => by rw [Nd.pre, Nd.nodes, List.length_cons, preL_len l]; omega
theorem preL_len : ∀ l : List Nd, (preL l).length = nodesL l
  | [] => rfl
  | x :: r => by show (x.pre ++ preL r).length = x.nodes + nodesL r; rw [List.length_append, x.pre_len, preL_len r]
end
theorem nodesL_take : ∀ (l : List Nd) (i : Nat), nodesL (l.take i) ≤ nodesL l
  | [], i => by simp
  | x :: r, 0 => by show nodesL [] ≤ _; exact Nat.zero_le _
  | x :: r, i + 1 => by show x.nodes + nodesL (r.take i) ≤ x.nodes + nodesL r; have := nodesL_take r i; omega
theorem preL_take : ∀ (l : List Nd) (i : Nat), preL (l.take i) <+: preL l
  | [], i => by simp
  | x :: r, 0 => by show preL [] <+: _; exact List.nil_prefix
  | x :: r, i + 1 => by show x.pre ++ preL (r.take i) <+: x.pre ++ preL r; exact (List.prefix_append_right_inj _).2 (preL_take r i)
/-- A node where it lies. -/
structure It (W0 : World) (n0 : Nat) where
  b : Nat
  o : Nat
  x : Nd
  v : Value
  hb : b < n0
  nc : NC W0 b o x v
  ls : Ls W0 n0 v x.kids
abbrev It.enc {W0 : World} {n0 : Nat} (y : It W0 n0) : Value := .pointer (some ⟨y.b, y.o, none⟩)
theorem room_of_none {F : Fence} (hd : F.depth = none) (k : Nat) : F.room k := fun d h => by rw [hd] at h; cases h
/-- Where no depth is asked the figures are all one. -/
theorem round_any {F : Fence} (hd : F.depth = none) {m m' : Nat} {P : Program} {l : Nat} {f : FuncId} {tmps : Array Value} {assign body : Code} {w : World} {R : Ending → World → Prop}
    (h : RoundIn F m P l f tmps assign body w R) : RoundIn F m' P l f tmps assign body w R := ⟨h.1, fun c cs _ => h.2 c cs (room_of_none hd _)⟩
theorem yield_any {F : Fence} (hd : F.depth = none) {m : Nat} (m' : Nat) {P : Program} {l : Nat} {args : Array Value} {W : World} {R : Ending → World → Prop} (h : YieldAt F m P l args W R) : YieldAt F m' P l args W R := by
  obtain ⟨fn, tmps, assign, body, hy, hR⟩ := h
  exact ⟨fn, tmps, assign, body, hy, round_any hd hR⟩
theorem kid_at {W0 : World} {n0 : Nat} {a : Option Addr} {n c : Nat} {l : List Nd} (h : Ls W0 n0 (.slice a n c) l) (i : Nat) (hi : i < l.length) :
    ∃ y : It W0 n0, y.x = l.getD i Nd0 ∧ ∃ off, a = some ⟨y.b, off, none⟩ ∧ y.o = off + i * 5 ∧ l.length ≤ c := by
  obtain ⟨b, off, vs, rfl, hb, hc, hn, hl⟩ := h.row_of (by omega)
  exact ⟨⟨b, off + i * 5, l.getD i Nd0, vs i, hb, hn i hi, hl i hi⟩, rfl, off, rfl, rfl, hc⟩

set_option maxHeartbeats 4000000 in
/-- A walk over a tree whose rounds keep what lies below n0. -/
theorem visit_in (F : Fence) (hd : F.depth = none) (h40 : F.fn 40) (hro : F.round = none) (l n0 N : Nat) (W0 : World) (J Jx : List (It W0 n0) → World → Prop)
    (hY : ∀ m pre (y : It W0 n0) W, J pre W → pre.length < N → YieldAt F m Tryz.prog l #[y.enc] W fun e W' =>
      (e = .returned (.bool true) ∧ J (pre ++ [y]) W' ∧ Below n0 W W') ∨ (e = .returned (.bool false) ∧ Jx (pre ++ [y]) W')) (K : Nat) :
    ∀ (n : Nat) (y : It W0 n0) (pre : List (It W0 n0)) (W : World), SizeOf.sizeOf y.x ≤ K → Below n0 W0 W → J pre W → pre.length + y.x.nodes ≤ N → N ≤ 1000000 →
      CallsIn F n Tryz.prog 40 #[y.enc, .func (.yield l) #[] #[]] W fun e W' =>
        (e = .returned (.bool true) ∧ (∃ ys : List (It W0 n0), ys.map It.x = y.x.pre ∧ J (pre ++ ys) W') ∧ Below n0 W W') ∨
        (e = .returned (.bool false) ∧ ∃ ys : List (It W0 n0), ys.map It.x <+: y.x.pre ∧ Jx (pre ++ ys) W') := by
  induction K with
  | zero =>
    intro n y pre W hK
    exfalso
    have h : 0 < SizeOf.sizeOf y.x := by cases y.x; simp; omega
    omega
  | succ K ih =>
    intro n y pre W hK hW hJ hN hN1
    have hdd : ∀ k : Nat, (F.depth.isSome = true → 1 ≤ k) := fun k h => by rw [hd] at h; cases h
    obtain ⟨va, vc, hv⟩ := y.ls.slice
    have HL : Hid (Ls W0 n0 (.slice va y.x.kids.length vc) y.x.kids) := by have := y.ls; rw [hv] at this; exact this
    have c3 := y.nc.c3
    rw [hv] at c3
    have HC3 := Lib.hid c3
    have HK := Lib.hid hK
    have HW := Lib.hid hW
    clear c3 hK hW hv
    obtain ⟨fn, tmps, assign, body, hy, hR⟩ := hY (n - 1) pre y W hJ (by have := y.x.nodes_eq; omega)
    dsimp only [It.enc] at hy
    refine callsIn_of_wp Tryz.func40 rfl h40 ?_ hro
    simp only [Tryz.ntmps40, List.size_toArray, List.length_cons, List.length_nil, Nat.reduceAdd, Nat.reduceSub, Array.replicate_succ, Array.replicate_zero, List.push_toArray, List.append_toArray, List.nil_append, List.cons_append]
    gi_wp2_with ((try refine ⟨hdd _, ?_⟩); refine hR.mono ?_; clear hR hy; rintro e W1 (⟨rfl, hJ1, hb1⟩ | ⟨rfl, hJx1⟩); have c3 := ((HW.out.trans hb1).cell (p := ⟨y.b, y.o + 3, none⟩) y.hb).trans HC3.out)
    · have HW1 := Lib.hid hb1
      clear hb1 c3
      gi_loopw [15] (fun v wr => ∃ (i : Nat) (ys : List (It W0 n0)), i ≤ y.x.kids.length ∧ v = .int .i64 i ∧ Hid (ys.map It.x = preL (y.x.kids.take i)) ∧ J (pre ++ [y] ++ ys) wr ∧ Hid (Below n0 W wr))
        (fun v _ => y.x.kids.length - (intOf v).toNat)
      case atStart => exact ⟨0, [], by omega, rfl, rfl, by simpa using hJ1, HW1⟩
      case round =>
        obtain ⟨i, ys, hi, rfl, HYS, hJi, HWr⟩ := hrel
        have c3 := ((HW.out.trans HWr.out).cell (p := ⟨y.b, y.o + 3, none⟩) y.hb).trans HC3.out
        by_cases hlt : i < y.x.kids.length
        · obtain ⟨z, hzx, off, rfl, hzo, hcap⟩ := kid_at HL.out i hlt
          have hii : (i : Int) < (y.x.kids.length : Int) := by omega
          have hi0 : (0 : Int) ≤ (i : Int) := by omega
          have htk := nd_take hlt
          rw [← hzx] at htk
          have HTK := Lib.hid htk
          have hzk : SizeOf.sizeOf z.x ≤ K := by have := HK.out; have := Nd.size_kid hlt; rw [← hzx] at this; omega
          have hlen : (pre ++ [y] ++ ys).length + z.x.nodes ≤ N := by
            have h1 : ys.length = nodesL (y.x.kids.take i) := by have := congrArg List.length HYS.out; rw [List.length_map, preL_len] at this; exact this
            have h2 : nodesL (y.x.kids.take (i + 1)) ≤ nodesL y.x.kids := nodesL_take _ _
            have h3 := y.x.nodes_eq
            rw [HTK.out, nodesL_app] at h2
            rw [List.length_append, List.length_append, List.length_singleton]
            omega
          have hi1 : i ≤ 1000000 := by
            have := len_nodesL y.x.kids
            have := y.x.nodes_eq
            omega
          have ihz := ih (n - 1) z (pre ++ [y] ++ ys) wr hzk (HW.out.trans HWr.out) hJi hlen hN1
          dsimp only [It.enc] at ihz
          rw [hzo] at ihz
          clear hzx hzo htk
          gi_wp2_with ((try refine ⟨hdd _, ?_⟩); gi_at_call 40; refine ihz.mono ?_; clear ihz; rintro e W2 (⟨rfl, ⟨zs, hz1, hz2⟩, hb2⟩ | ⟨rfl, zs, hz1, hz2⟩))
          · go_roundw
            case rel =>
              refine ⟨i + 1, ys ++ zs, by omega, by go_num, ?_, by simpa [List.append_assoc] using hz2, HWr.out.trans hb2⟩
              show _ = _
              rw [List.map_append, HYS.out, HTK.out, preL_app, hz1]
            case measure => simp [intOf]; omega
          · go_ret
            refine .inr ⟨rfl, y :: (ys ++ zs), ?_, by simpa [List.append_assoc] using hz2⟩
            rw [List.map_cons, List.map_append, HYS.out, y.x.pre_eq]
            refine List.cons_prefix_cons.2 ⟨rfl, ?_⟩
            have h1 : preL (y.x.kids.take i) ++ z.x.pre <+: preL y.x.kids := by
              rw [← preL_app, ← HTK.out]
              exact preL_take _ _
            exact (List.prefix_append_right_inj _ |>.2 hz1).trans h1
        · have he : i = y.x.kids.length := by omega
          subst he
          gi_wp2
          go_ret
          refine .inl ⟨rfl, ⟨y :: ys, ?_, by simpa [List.append_assoc] using hJi⟩, HWr.out⟩
          rw [List.map_cons, HYS.out, List.take_length, y.x.pre_eq]
    · go_ret
      refine .inr ⟨rfl, [y], ?_, hJx1⟩
      rw [y.x.pre_eq]
      exact List.cons_prefix_cons.2 ⟨rfl, List.nil_prefix⟩
end Go.Proofs.YthcoigdmammamaaGreatDoor
