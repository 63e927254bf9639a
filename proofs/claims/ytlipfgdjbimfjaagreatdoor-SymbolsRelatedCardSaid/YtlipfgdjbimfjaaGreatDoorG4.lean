/- The closure of Trees: its answer and count hang on the data alone. -/
import Derived.Test.YtlipfgdjbimfjaaGreatDoorG3
import Derived.Deep.RegionHeld3
namespace Go.Proofs.YtlipfgdjbimfjaaGreatDoor
open Go.RowKit Go.Shelf Go.Sort
set_option maxRecDepth 100000

variable {H : Type} {enc : TypeId × Value → H}
/-- What the closure's loads find, in every world that it comes to. -/
def TS (pl bl bd R : Nat) (deep : Int) (tx : ByteArray) (ak ay : Int) (an : ByteArray) (au : Int) (av tv kv : Value) (w : World) : Prop :=
  w.cell? ⟨bl, 0, none⟩ = some (.pointer (some ⟨pl, 0, none⟩)) ∧ w.cell? ⟨bd, 0, none⟩ = some (.int .i64 deep) ∧ w.cell? ⟨R, 3, none⟩ = some (.string tx) ∧ w.cell? ⟨R, 4, none⟩ = some (.int .i64 ak) ∧ w.cell? ⟨R, 5, none⟩ = some (.int .i64 ay) ∧
    w.cell? ⟨R, 6, none⟩ = some (.string an) ∧ w.cell? ⟨R, 7, none⟩ = some (.int .i64 au) ∧ w.cell? ⟨R, 8, none⟩ = some av ∧ w.cell? ⟨R, 9, none⟩ = some tv ∧ w.cell? ⟨R, 10, none⟩ = some kv
theorem TS.grown {pl bl bd R : Nat} {r : Option Nat} {deep : Int} {tx : ByteArray} {ak ay : Int} {an : ByteArray} {au : Int} {av tv kv : Value} {w w' : World} (h : TS pl bl bd R deep tx ak ay an au av tv kv w) (hg : w.grownBy w' r) (h1 : r ≠ some bl) (h2 : r ≠ some bd) (h3 : r ≠ some R) : TS pl bl bd R deep tx ak ay an au av tv kv w' := by
  obtain ⟨a0, a1, a2, a3, a4, a5, a6, a7, a8, a9⟩ := h
  have kl : w'.heap[bl]? = w.heap[bl]? := hg.block bl (block_lt_of_cell a0) (fun e => h1 e.symm)
  have kd : w'.heap[bd]? = w.heap[bd]? := hg.block bd (block_lt_of_cell a1) (fun e => h2 e.symm)
  have kr : w'.heap[R]? = w.heap[R]? := hg.block R (block_lt_of_cell a2) (fun e => h3 e.symm)
  exact ⟨(World.cell?_of_block (a := ⟨bl, _, none⟩) kl).trans a0, (World.cell?_of_block (a := ⟨bd, _, none⟩) kd).trans a1, (World.cell?_of_block (a := ⟨R, _, none⟩) kr).trans a2, (World.cell?_of_block (a := ⟨R, _, none⟩) kr).trans a3, (World.cell?_of_block (a := ⟨R, _, none⟩) kr).trans a4,
    (World.cell?_of_block (a := ⟨R, _, none⟩) kr).trans a5, (World.cell?_of_block (a := ⟨R, _, none⟩) kr).trans a6, (World.cell?_of_block (a := ⟨R, _, none⟩) kr).trans a7, (World.cell?_of_block (a := ⟨R, _, none⟩) kr).trans a8, (World.cell?_of_block (a := ⟨R, _, none⟩) kr).trans a9⟩
abbrev TrD.val (t : TrD) : Value := .agg #[.int .i64 t.kd, .int .i64 t.sy, .int .i64 t.nu, .string t.tx, .int .i64 t.ak, .int .i64 t.ay, .string t.an, .int .i64 t.au, t.av, t.tv, t.kv, .int .i64 t.at_]

set_option linter.unusedSimpArgs false in
set_option maxHeartbeats 4000000 in
/-- The walk: what is decided ahead is told as a case. -/
theorem xtwalk (W0 : World) (pl : Nat) (hp : W0.heap.size ≤ pl) (x deep : Int) (kd sy nu : Int) (tx : ByteArray) (ak ay : Int) (an : ByteArray) (au : Int) (aa : Option Addr) (an2 ac : Nat) (ta : Option Addr) (tn tc : Nat) (ka : Option Addr) (kn kc : Nat) (at_ : Int)
    (ht : TyT.ok enc W0 ⟨ak, ay, an, au, .slice aa an2 ac⟩) (_htx : tx.size ≤ 140737488351232) (h0 : 0 ≤ x) (h1 : x ≤ 3000) (hd : deep ≤ 201) (hd0 : 0 ≤ deep)
    (n : Nat) (d : Nat → TyT) (hn : n ≤ 2199023255488) (hdok : ∀ i, i < n → (d i).ok enc W0) (hld : ∀ (w : World), Below W0.heap.size W0 w → LD w pl (.slice ta tn tc) n d)
    (m : Nat) (f : Nat → TrD) (hlt : ∀ (w : World), Below W0.heap.size W0 w → LT w pl (.slice ka kn kc) m f)
    (b : Bool) (x' : Int) (b1 b2 : Bool) (x1 x2 : Int)
    (hcase : (x - 1 < 0 ∧ b = true ∧ x' = x - 1) ∨ (¬ x - 1 < 0 ∧ 200 < (tx.size : Int) ∧ b = true ∧ x' = x - 1) ∨
      (¬ x - 1 < 0 ∧ ¬ 200 < (tx.size : Int) ∧ (∀ (w : World) (v : Value), LD w pl v (1 + n) (cons1 ⟨ak, ay, an, au, .slice aa an2 ac⟩ d) → Below W0.heap.size W0 w → Lf w pl (x - 1) → Calls Tryz.prog 30 #[v, .int .i64 1, .pointer (some ⟨pl, 0, none⟩)] w (TX b1 x1 pl w)) ∧
        ((b1 = false ∧ b = true ∧ x' = x1) ∨ (b1 = true ∧ b = !b2 ∧ x' = x2 ∧ ∀ (w : World) (v : Value), LT w pl v m f → Below W0.heap.size W0 w → Lf w pl x1 → Calls Tryz.prog 31 #[v, .int .i64 (deep + 1), .pointer (some ⟨pl, 0, none⟩)] w (TX b2 x2 pl w)))))
    (w : World) (bl bd : Nat) (hb : Below W0.heap.size W0 w) (hx : Lf w pl x) (hbl : w.heap[bl]? = some (.cells #[.pointer (some ⟨pl, 0, none⟩)] 66 (0, 0))) (hbd : w.heap[bd]? = some (.cells #[.int .i64 deep] 3 (0, 0))) (hne : bl ≠ pl) (hne2 : bd ≠ pl) :
    Calls Tryz.prog 64 #[.agg #[.int .i64 kd, .int .i64 sy, .int .i64 nu, .string tx, .int .i64 ak, .int .i64 ay, .string an, .int .i64 au, .slice aa an2 ac, .slice ta tn tc, .slice ka kn kc, .int .i64 at_], .pointer (some ⟨bl, 0, none⟩), .pointer (some ⟨bd, 0, none⟩)] w (TX b x' pl w) := by
  obtain ⟨W1, hW1⟩ : ∃ W1, w.alloc (.cells #[.int .i64 kd, .int .i64 sy, .int .i64 nu, .string tx, .int .i64 ak, .int .i64 ay, .string an, .int .i64 au, .slice aa an2 ac, .slice ta tn tc, .slice ka kn kc, .int .i64 at_] 70) = W1 := ⟨_, rfl⟩
  have hg1 : w.grownBy W1 (some pl) := by rw [← hW1]; exact grown_alloc _
  have hplt : pl < w.heap.size := (Array.getElem?_eq_some_iff.1 hx).1
  have hx1 : Lf W1 pl x := by rw [← hW1]; show (w.alloc _).heap[pl]? = _; rw [Below.heap_alloc _ _ _ hplt]; exact hx
  have hbl1 : W1.heap[bl]? = some (.cells #[.pointer (some ⟨pl, 0, none⟩)] 66 (0, 0)) := (hg1.block bl (Array.getElem?_eq_some_iff.1 hbl).1 (fun e => hne (by injection e))).trans hbl
  have hbx1 : W1.heap[w.heap.size]? = some (.cells #[.int .i64 kd, .int .i64 sy, .int .i64 nu, .string tx, .int .i64 ak, .int .i64 ay, .string an, .int .i64 au, .slice aa an2 ac, .slice ta tn tc, .slice ka kn kc, .int .i64 at_] 70 (0, 0)) := by rw [← hW1]; exact heap_alloc_new w _
  have c1 := blk_cell hbl1 0
  have x1' := blk_cell hx1 0
  have y1 := blk_free hx1 0
  have hxm : IntKind.i64.wrap (x - 1) = x - 1 := IntWalk.i64_in _ (by omega)
  obtain ⟨W2, hW2⟩ : ∃ W2, W1.setCell ⟨pl, 0, none⟩ (.int .i64 (x - 1)) = W2 := ⟨_, rfl⟩
  have hg2 : w.grownBy W2 (some pl) := hg1.trans (by rw [← hW2]; exact grown_set _)
  have hx2 : Lf W2 pl (x - 1) := by rw [← hW2]; exact blk_set hx1 0 _
  have hbl2 := (hg2.block bl (Array.getElem?_eq_some_iff.1 hbl).1 (fun e => hne (by injection e))).trans hbl
  have hbd2 := (hg2.block bd (Array.getElem?_eq_some_iff.1 hbd).1 (fun e => hne2 (by injection e))).trans hbd
  have hR : w.heap.size ≠ pl := by omega
  have hbx2 : W2.heap[w.heap.size]? = some (.cells #[.int .i64 kd, .int .i64 sy, .int .i64 nu, .string tx, .int .i64 ak, .int .i64 ay, .string an, .int .i64 au, .slice aa an2 ac, .slice ta tn tc, .slice ka kn kc, .int .i64 at_] 70 (0, 0)) := by
    rw [← hW2, Below.heap_setCell _ _ _ _ (by intro e; exact hR e)]; exact hbx1
  have hS2 : TS pl bl bd w.heap.size deep tx ak ay an au (.slice aa an2 ac) (.slice ta tn tc) (.slice ka kn kc) W2 := ⟨blk_cell hbl2 0, blk_cell hbd2 0, blk_cell hbx2 3, blk_cell hbx2 4, blk_cell hbx2 5, blk_cell hbx2 6, blk_cell hbx2 7, blk_cell hbx2 8, blk_cell hbx2 9, blk_cell hbx2 10⟩
  have hb2 : Below W0.heap.size W0 W2 := hb.grown hg2 hb.size (fun k hk => by injection hk; omega)
  have hpl2 : pl < W2.heap.size := (Array.getElem?_eq_some_iff.1 hx2).1
  have hd1 : IntKind.i64.wrap (deep + 1) = deep + 1 := IntWalk.i64_in _ (by omega)
  have HS2 := Lib.hid hS2
  have HW1 := Lib.hid hW1
  have HW2 := Lib.hid hW2
  have HG2 := Lib.hid hg2
  have HX2 := Lib.hid hx2
  have HB2 := Lib.hid hb2
  have HTY := Lib.hid ht
  have HPL := Lib.hid hpl2
  have HNE := Lib.hid (And.intro hne (And.intro hne2 hR))
  have HCASE := Lib.hid hcase
  have HLD := Lib.hid hld
  have HLT := Lib.hid hlt
  have HDOK := Lib.hid hdok
  clear hW1 hg1 hx1 hbl1 hbx1 hW2 hg2 hx2 hbl2 hbd2 hbx2 hbl hbd hx hb hne hne2 hS2 hb2 ht hplt hpl2 hcase hld hlt hdok hR
  go_enter Tryz.func64, Tryz.ntmps64
  go_upto_region 1 with fail
  rw [HW1.out]
  go_upto_region 2 with fail
  rw [HW2.out]
  clear c1 x1' y1 hxm
  rcases HCASE.out with ⟨hneg, rfl, rfl⟩ | ⟨hneg, hnl, rfl, rfl⟩ | ⟨hneg, hnl, cI, hrest⟩
  · have hd2 : decide (x - 1 < 0) = true := by simpa using hneg
    have x2' := blk_cell HX2.out 0
    obtain ⟨s0, s1, s2, s3, s4, s5, s6, s7, s8, s9⟩ := HS2.out
    go_quiet (fail)
    go_wp2
    go_ret
    exact ⟨rfl, HX2.out, HG2.out.trans ⟨rfl, rfl, rfl, Nat.le_refl _, fun _ _ _ => rfl⟩⟩
  · have hd2 : decide (x - 1 < 0) = false := by simpa using hneg
    have hd3 : decide (200 < (tx.size : Int)) = true := by simpa using hnl
    have x2' := blk_cell HX2.out 0
    obtain ⟨s0, s1, s2, s3, s4, s5, s6, s7, s8, s9⟩ := HS2.out
    go_quiet (fail)
    go_wp2
    go_ret
    exact ⟨rfl, HX2.out, HG2.out.trans ⟨rfl, rfl, rfl, Nat.le_refl _, fun _ _ _ => rfl⟩⟩
  · have hd2 : decide (x - 1 < 0) = false := by simpa using hneg
    have hd3 : decide (200 < (tx.size : Int)) = false := by simpa using hnl
    have x2' := blk_cell HX2.out 0
    obtain ⟨WA, hWA⟩ : ∃ WA, (W2.alloc (.cells #[.int .i64 ak, .int .i64 ay, .string an, .int .i64 au, .slice aa an2 ac] 58)).drew = WA := ⟨_, rfl⟩
    have hgA : W2.grownBy WA (some pl) := by rw [← hWA]; have h := grown_alloc (w := W2) (r := some pl) (.cells #[.int .i64 ak, .int .i64 ay, .string an, .int .i64 au, .slice aa an2 ac] 58); exact ⟨h.os, h.tape, h.output, h.size, h.block⟩
    have hzA : WA.heap.size = W2.heap.size + 1 := by rw [← hWA]; exact World.size_alloc _ _
    have hown : WA.ownsRow W2.heap.size 58 5 (.slice (some ⟨W2.heap.size, 0, none⟩) 1 1) 1 (TyT.cells ⟨ak, ay, an, au, .slice aa an2 ac⟩) := by
      rw [← hWA]
      exact ⟨rfl, .inr ⟨W2.heap.size, 1, _, rfl, Nat.le_refl _, heap_alloc_new W2 _, Nat.le_refl _, by decide, rfl, rfl⟩⟩
    have hSA := HS2.out.grown hgA (fun e => HNE.out.1 (by injection e with e; exact e.symm)) (fun e => HNE.out.2.1 (by injection e with e; exact e.symm)) (fun e => HNE.out.2.2 (by injection e with e; exact e.symm))
    have hxA : Lf WA pl (x - 1) := by rw [← hWA]; show (W2.alloc _).heap[pl]? = _; rw [Below.heap_alloc _ _ _ HPL.out]; exact HX2.out
    have hbA : Below W0.heap.size W0 WA := HB2.out.grown hgA HB2.out.size (fun k hk => by injection hk; omega)
    obtain rfl : n = tn := by
      obtain ⟨a, c, he, -⟩ := HLD.out W2 HB2.out
      injection he with e1 e2 e3
      exact e2.symm
    have hap : ∀ ty, ∃ g cap w', (Builtin.append_ #[33, 33] ty #[.slice (some ⟨W2.heap.size, 0, none⟩) 1 1, .slice ta n tc]).run Tryz.prog WA = .ok (.slice (some ⟨g, 0, none⟩) (1 + n) cap) w' ∧ TS pl bl bd w.heap.size deep tx ak ay an au (.slice aa an2 ac) (.slice ta n tc) (.slice ka kn kc) w' ∧
        LD w' pl (.slice (some ⟨g, 0, none⟩) (1 + n) cap) (1 + n) (cons1 ⟨ak, ay, an, au, .slice aa an2 ac⟩ d) ∧ Lf w' pl (x - 1) ∧ Below W0.heap.size W0 w' ∧ w.grownBy w' (some pl) := by
      intro ty
      obtain ⟨g, cap, w', r1, r2, r3⟩ := run_append_types (enc := enc) (w := WA) (pl := pl) (tv := .slice ta n tc) (d := d) ty (HLD.out WA hbA) HDOK.out hn hown HPL.out (by omega)
      have l1 : bl < W2.heap.size := block_lt_of_cell HS2.out.1
      have l2 : bd < W2.heap.size := block_lt_of_cell HS2.out.2.1
      have l3 : w.heap.size < W2.heap.size := block_lt_of_cell HS2.out.2.2.1
      have hpl := HPL.out
      have hsz := HG2.out.size
      have hgw : w.grownBy w' (some pl) := by
        have h := HG2.out.trans hgA
        refine ⟨r3.os.trans h.os, r3.tape.trans h.tape, r3.output.trans h.output, Nat.le_trans h.size r3.size, fun k hk hne => ?_⟩
        exact (r3.block k (by have := h.size; omega) (fun e => by injection e with e; omega)).trans (h.block k hk hne)
      refine ⟨g, cap, w', r1, hSA.grown r3 (fun e => by injection e with e; omega) (fun e => by injection e with e; omega) (fun e => by injection e with e; omega), r2, (r3.block pl (by omega) (fun e => by injection e with e; omega)).trans hxA, hbA.grown r3 hbA.size (fun k hk => by injection hk; have := HB2.out.size; omega), hgw⟩
    rw [← hWA] at hap
    have hSA' := hSA
    rw [← hWA] at hSA'
    have HSA := Lib.hid hSA'
    have HAP := Lib.hid hap
    have HCI := Lib.hid cI
    clear hWA hgA hzA hown hSA hSA' hxA hbA hap cI
    rcases hrest with ⟨rfl, rfl, rfl⟩ | ⟨rfl, rfl, rfl, cJ⟩
    · refine wp_region_held_drew (S := (fun w' => w'.cell? ⟨bl, 0, none⟩ = some (.pointer (some ⟨pl, 0, none⟩)) ∧ w'.cell? ⟨bd, 0, none⟩ = some (.int .i64 deep) ∧ w'.cell? ⟨w.heap.size, 3, none⟩ = some (.string tx) ∧ w'.cell? ⟨w.heap.size, 4, none⟩ = some (.int .i64 ak) ∧ w'.cell? ⟨w.heap.size, 5, none⟩ = some (.int .i64 ay) ∧ w'.cell? ⟨w.heap.size, 6, none⟩ = some (.string an) ∧ w'.cell? ⟨w.heap.size, 7, none⟩ = some (.int .i64 au) ∧ w'.cell? ⟨w.heap.size, 8, none⟩ = some (.slice aa an2 ac) ∧ w'.cell? ⟨w.heap.size, 9, none⟩ = some (.slice ta n tc) ∧ w'.cell? ⟨w.heap.size, 10, none⟩ = some (.slice ka kn kc))) (by kernel_rfl) (by exact HS2.out) (fun hHeld => ?_)
      refine wpAnyH_take (i := 0) (oi := { dst := some 10, op := _, type := _, pos := _, after := _, guard := _ }) (v := ?_) rfl (by kernel_rfl) (by kernel_rfl) (by kernel_rfl) (fun _ _ _ h => h) (Or.inl ⟨by rfl, ?_⟩) (by assumption) ?_
      rotate_left
      · intro w0 hSw
        (try dsimp only at hSw)
        go_simp
        all_goals (with_reducible rfl)
      try simp only [Act.put, List.setIfInBounds_toArray, List.set_cons_zero, List.set_cons_succ]
      refine wpAnyH_take (i := 1) (oi := { dst := some 11, op := _, type := _, pos := _, after := _, guard := _ }) (v := ?_) rfl (by kernel_rfl) (by kernel_rfl) (by kernel_rfl) (fun _ _ _ h => h) (Or.inl ⟨by rfl, ?_⟩) (by assumption) ?_
      rotate_left
      · intro w0 hSw
        (try dsimp only at hSw)
        go_simp
        all_goals (with_reducible rfl)
      try simp only [Act.put, List.setIfInBounds_toArray, List.set_cons_zero, List.set_cons_succ]
      refine wpAnyH_ready (rs := [2]) (by kernel_rfl) (by simp) ?_
      refine AllReadyH.cons (o := { dst := some 12, op := _, type := _, pos := _, after := _, guard := _ }) rfl (fun K hK => ?_) AllReadyH.nil
      go_simp
      refine hK.out _ _ ?_ (fun hHeld => ?_)
      · (first | exact HS2.out | exact HSA.out | exact HSB.out | exact HSC.out | exact HSD.out)
      clear hK K
      try simp only [Act.put, List.setIfInBounds_toArray, List.set_cons_zero, List.set_cons_succ]
      refine wpAnyH_take (i := 3) (oi := { dst := some 13, op := _, type := _, pos := _, after := _, guard := _ }) (v := ?_) rfl (by kernel_rfl) (by kernel_rfl) (by kernel_rfl) (fun _ _ _ h => h) (Or.inl ⟨by rfl, ?_⟩) (by assumption) ?_
      rotate_left
      · intro w0 hSw
        (try dsimp only at hSw)
        go_simp
        all_goals (with_reducible rfl)
      try simp only [Act.put, List.setIfInBounds_toArray, List.set_cons_zero, List.set_cons_succ]
      refine wpAnyH_take (i := 4) (oi := { dst := some 14, op := _, type := _, pos := _, after := _, guard := _ }) (v := ?_) rfl (by kernel_rfl) (by kernel_rfl) (by kernel_rfl) (fun _ _ _ h => h) (Or.inl ⟨by rfl, ?_⟩) (by assumption) ?_
      rotate_left
      · intro w0 hSw
        (try dsimp only at hSw)
        go_simp
        all_goals (with_reducible rfl)
      try simp only [Act.put, List.setIfInBounds_toArray, List.set_cons_zero, List.set_cons_succ]
      refine wpAnyH_take (i := 5) (oi := { dst := some 15, op := _, type := _, pos := _, after := _, guard := _ }) (v := ?_) rfl (by kernel_rfl) (by kernel_rfl) (by kernel_rfl) (fun _ _ _ h => h) (Or.inl ⟨by rfl, ?_⟩) (by assumption) ?_
      rotate_left
      · intro w0 hSw
        (try dsimp only at hSw)
        go_simp
        all_goals (with_reducible rfl)
      try simp only [Act.put, List.setIfInBounds_toArray, List.set_cons_zero, List.set_cons_succ]
      refine wpAnyH_take (i := 6) (oi := { dst := some 16, op := _, type := _, pos := _, after := _, guard := _ }) (v := ?_) rfl (by kernel_rfl) (by kernel_rfl) (by kernel_rfl) (fun _ _ _ h => h) (Or.inl ⟨by rfl, ?_⟩) (by assumption) ?_
      rotate_left
      · intro w0 hSw
        (try dsimp only at hSw)
        go_simp
        all_goals (with_reducible rfl)
      try simp only [Act.put, List.setIfInBounds_toArray, List.set_cons_zero, List.set_cons_succ]
      refine wpAnyH_take (i := 7) (oi := { dst := some 17, op := _, type := _, pos := _, after := _, guard := _ }) (v := ?_) rfl (by kernel_rfl) (by kernel_rfl) (by kernel_rfl) (fun _ _ _ h => h) (Or.inl ⟨by rfl, ?_⟩) (by assumption) ?_
      rotate_left
      · intro w0 hSw
        (try dsimp only at hSw)
        go_simp
        all_goals (with_reducible rfl)
      try simp only [Act.put, List.setIfInBounds_toArray, List.set_cons_zero, List.set_cons_succ]
      refine wpAnyH_take (i := 8) (oi := { dst := some 18, op := _, type := _, pos := _, after := _, guard := _ }) (v := ?_) rfl (by kernel_rfl) (by kernel_rfl) (by kernel_rfl) (fun _ _ _ h => h) (Or.inl ⟨by rfl, ?_⟩) (by assumption) ?_
      rotate_left
      · intro w0 hSw
        (try dsimp only at hSw)
        go_simp
        all_goals (with_reducible rfl)
      try simp only [Act.put, List.setIfInBounds_toArray, List.set_cons_zero, List.set_cons_succ]
      refine wpAnyH_take (i := 9) (oi := { dst := some 19, op := _, type := _, pos := _, after := _, guard := _ }) (v := ?_) rfl (by kernel_rfl) (by kernel_rfl) (by kernel_rfl) (fun _ _ _ h => h) (Or.inl ⟨by rfl, ?_⟩) (by assumption) ?_
      rotate_left
      · intro w0 hSw
        (try dsimp only at hSw)
        go_simp
        all_goals (with_reducible rfl)
      try simp only [Act.put, List.setIfInBounds_toArray, List.set_cons_zero, List.set_cons_succ]
      refine wpAnyH_take (i := 10) (oi := { dst := some 20, op := _, type := _, pos := _, after := _, guard := _ }) (v := ?_) rfl (by kernel_rfl) (by kernel_rfl) (by kernel_rfl) (fun _ _ _ h => h) (Or.inl ⟨by rfl, ?_⟩) (by assumption) ?_
      rotate_left
      · intro w0 hSw
        (try dsimp only at hSw)
        go_simp
        all_goals (with_reducible rfl)
      try simp only [Act.put, List.setIfInBounds_toArray, List.set_cons_zero, List.set_cons_succ]
      refine wpAnyH_take (i := 11) (oi := { dst := some 21, op := _, type := _, pos := _, after := _, guard := _ }) (v := ?_) rfl (by kernel_rfl) (by kernel_rfl) (by kernel_rfl) (fun _ _ _ h => h) (Or.inl ⟨by rfl, ?_⟩) (by assumption) ?_
      rotate_left
      · intro w0 hSw
        (try dsimp only at hSw)
        go_simp
        all_goals (with_reducible rfl)
      try simp only [Act.put, List.setIfInBounds_toArray, List.set_cons_zero, List.set_cons_succ]
      refine wpAnyH_take (i := 12) (oi := { dst := some 22, op := _, type := _, pos := _, after := _, guard := _ }) (v := ?_) rfl (by kernel_rfl) (by kernel_rfl) (by kernel_rfl) (fun _ _ _ h => h) (Or.inl ⟨by rfl, ?_⟩) (by assumption) ?_
      rotate_left
      · intro w0 hSw
        (try dsimp only at hSw)
        go_simp
        all_goals (with_reducible rfl)
      try simp only [Act.put, List.setIfInBounds_toArray, List.set_cons_zero, List.set_cons_succ]
      refine wpAnyH_take (i := 14) (oi := { dst := some 24, op := _, type := _, pos := _, after := _, guard := _ }) (v := ?_) rfl (by kernel_rfl) (by kernel_rfl) (by kernel_rfl) (fun _ _ _ h => h) (Or.inl ⟨by rfl, ?_⟩) (by assumption) ?_
      rotate_left
      · intro w0 hSw
        (try dsimp only at hSw)
        go_simp
        all_goals (with_reducible rfl)
      try simp only [Act.put, List.setIfInBounds_toArray, List.set_cons_zero, List.set_cons_succ]
      refine wpAnyH_take (i := 15) (oi := { dst := some 25, op := _, type := _, pos := _, after := _, guard := _ }) (v := ?_) rfl (by kernel_rfl) (by kernel_rfl) (by kernel_rfl) (fun _ _ _ h => h) (Or.inl ⟨by rfl, ?_⟩) (by assumption) ?_
      rotate_left
      · intro w0 hSw
        (try dsimp only at hSw)
        go_simp
        all_goals (with_reducible rfl)
      try simp only [Act.put, List.setIfInBounds_toArray, List.set_cons_zero, List.set_cons_succ]
      refine wpAnyH_take (i := 17) (oi := { dst := some 27, op := _, type := _, pos := _, after := _, guard := _ }) (v := ?_) rfl (by kernel_rfl) (by kernel_rfl) (by kernel_rfl) (fun _ _ _ h => h) (Or.inl ⟨by rfl, ?_⟩) (by assumption) ?_
      rotate_left
      · intro w0 hSw
        (try dsimp only at hSw)
        go_simp
        all_goals (with_reducible rfl)
      try simp only [Act.put, List.setIfInBounds_toArray, List.set_cons_zero, List.set_cons_succ]
      refine wpAnyH_ready (rs := [13]) (by kernel_rfl) (by simp) ?_
      refine AllReadyH.cons (o := { dst := some 23, op := _, type := _, pos := _, after := _, guard := _ }) rfl (fun K hK => ?_) AllReadyH.nil
      go_simp
      refine hK.out _ _ ?_ (fun hHeld => ?_)
      · (first | exact HS2.out | exact HSA.out | exact HSB.out | exact HSC.out | exact HSD.out)
      clear hK K
      try simp only [Act.put, List.setIfInBounds_toArray, List.set_cons_zero, List.set_cons_succ]
      refine wpAnyH_ready (rs := [16]) (by kernel_rfl) (by simp) ?_
      refine AllReadyH.cons (o := { dst := some 26, op := _, type := _, pos := _, after := _, guard := _ }) rfl (fun K hK => ?_) AllReadyH.nil
      (refine step_append_any _ _ 33 rfl (by first | rfl | simp [Region.wanted, yielded]) (.slice (some ⟨W2.heap.size, 0, none⟩) 1 1) (.slice ta n tc) rfl rfl (1 + n) (fun g cap w' => TS pl bl bd w.heap.size deep tx ak ay an au (.slice aa an2 ac) (.slice ta n tc) (.slice ka kn kc) w' ∧ LD w' pl (.slice (some ⟨g, 0, none⟩) (1 + n) cap) (1 + n) (cons1 ⟨ak, ay, an, au, .slice aa an2 ac⟩ d) ∧ Lf w' pl (x - 1) ∧ Below W0.heap.size W0 w' ∧ w.grownBy w' (some pl)) (by exact HAP.out _) ?_; intro gg cap w3 hF; have HF := Lib.hid hF; have HSB := Lib.hid hF.1; clear hF)
      refine hK.out _ _ ?_ (fun hHeld => ?_)
      · (first | exact HS2.out | exact HSA.out | exact HSB.out | exact HSC.out | exact HSD.out)
      clear hK K
      try simp only [Act.put, List.setIfInBounds_toArray, List.set_cons_zero, List.set_cons_succ]
      refine wpAnyH_ready (rs := [18]) (by kernel_rfl) (by simp) ?_
      refine AllReadyH.cons (o := { dst := some 28, op := _, type := _, pos := _, after := _, guard := _ }) rfl (fun K hK => ?_) AllReadyH.nil
      go_simp
      (go_at_call 30; refine (HCI.out w3 _ HF.out.2.1 HF.out.2.2.2.1 HF.out.2.2.1).mono ?_; rintro e w4 ⟨rfl, h4, h7⟩; have HSC := Lib.hid (HSB.out.grown h7 (fun e => HNE.out.1 (by injection e with e; exact e.symm)) (fun e => HNE.out.2.1 (by injection e with e; exact e.symm)) (fun e => HNE.out.2.2 (by injection e with e; exact e.symm))); have HB4 := Lib.hid (HF.out.2.2.2.1.grown h7 HF.out.2.2.2.1.size (fun k hk => by injection hk; omega)); have H4 := Lib.hid (And.intro h4 (HF.out.2.2.2.2.trans h7)); clear h4 h7)
      refine hK.out _ _ ?_ (fun hHeld => ?_)
      · (first | exact HS2.out | exact HSA.out | exact HSB.out | exact HSC.out | exact HSD.out)
      clear hK K
      try simp only [Act.put, List.setIfInBounds_toArray, List.set_cons_zero, List.set_cons_succ]
      refine wpAnyH_take (i := 19) (oi := { dst := some 29, op := _, type := _, pos := _, after := _, guard := _ }) (v := ?_) rfl (by kernel_rfl) (by kernel_rfl) (by kernel_rfl) (fun _ _ _ h => h) (Or.inl ⟨by rfl, ?_⟩) (by assumption) ?_
      rotate_left
      · intro w0 hSw
        (try dsimp only at hSw)
        go_simp
        all_goals (with_reducible rfl)
      try simp only [Act.put, List.setIfInBounds_toArray, List.set_cons_zero, List.set_cons_succ]
      refine wpAnyH_take (i := 20) (oi := { dst := some 30, op := _, type := _, pos := _, after := _, guard := _ }) (v := ?_) rfl (by kernel_rfl) (by kernel_rfl) (by kernel_rfl) (fun _ _ _ h => h) (Or.inl ⟨by rfl, ?_⟩) (by assumption) ?_
      rotate_left
      · intro w0 hSw
        (try dsimp only at hSw)
        go_simp
        all_goals (with_reducible rfl)
      try simp only [Act.put, List.setIfInBounds_toArray, List.set_cons_zero, List.set_cons_succ]
      refine wpAnyH_take (i := 21) (oi := { dst := some 31, op := _, type := _, pos := _, after := _, guard := _ }) (v := ?_) rfl (by kernel_rfl) (by kernel_rfl) (by kernel_rfl) (fun _ _ _ h => h) (Or.inl ⟨by rfl, ?_⟩) (by assumption) ?_
      rotate_left
      · intro w0 hSw
        (try dsimp only at hSw)
        go_simp
        all_goals (with_reducible rfl)
      try simp only [Act.put, List.setIfInBounds_toArray, List.set_cons_zero, List.set_cons_succ]
      refine wpAnyH_take (i := 22) (oi := { dst := some 32, op := _, type := _, pos := _, after := _, guard := _ }) (v := undef) rfl (by kernel_rfl) (by kernel_rfl) (by kernel_rfl) (fun _ _ _ h => h) (Or.inr ⟨by rfl, rfl⟩) (by assumption) ?_
      try simp only [Act.put, List.setIfInBounds_toArray, List.set_cons_zero, List.set_cons_succ]
      refine wpAnyH_take (i := 23) (oi := { dst := some 33, op := _, type := _, pos := _, after := _, guard := _ }) (v := undef) rfl (by kernel_rfl) (by kernel_rfl) (by kernel_rfl) (fun _ _ _ h => h) (Or.inr ⟨by rfl, rfl⟩) (by assumption) ?_
      try simp only [Act.put, List.setIfInBounds_toArray, List.set_cons_zero, List.set_cons_succ]
      refine wpAnyH_take (i := 24) (oi := { dst := some 34, op := _, type := _, pos := _, after := _, guard := _ }) (v := undef) rfl (by kernel_rfl) (by kernel_rfl) (by kernel_rfl) (fun _ _ _ h => h) (Or.inr ⟨by rfl, rfl⟩) (by assumption) ?_
      try simp only [Act.put, List.setIfInBounds_toArray, List.set_cons_zero, List.set_cons_succ]
      refine wpAnyH_take (i := 25) (oi := { dst := some 35, op := _, type := _, pos := _, after := _, guard := _ }) (v := undef) rfl (by kernel_rfl) (by kernel_rfl) (by kernel_rfl) (fun _ _ _ h => h) (Or.inr ⟨by rfl, rfl⟩) (by assumption) ?_
      try simp only [Act.put, List.setIfInBounds_toArray, List.set_cons_zero, List.set_cons_succ]
      refine wpAnyH_take (i := 26) (oi := { dst := some 36, op := _, type := _, pos := _, after := _, guard := _ }) (v := undef) rfl (by kernel_rfl) (by kernel_rfl) (by kernel_rfl) (fun _ _ _ h => h) (Or.inr ⟨by rfl, rfl⟩) (by assumption) ?_
      try simp only [Act.put, List.setIfInBounds_toArray, List.set_cons_zero, List.set_cons_succ]
      refine wpAnyH_take (i := 27) (oi := { dst := some 37, op := _, type := _, pos := _, after := _, guard := _ }) (v := undef) rfl (by kernel_rfl) (by kernel_rfl) (by kernel_rfl) (fun _ _ _ h => h) (Or.inr ⟨by rfl, rfl⟩) (by assumption) ?_
      try simp only [Act.put, List.setIfInBounds_toArray, List.set_cons_zero, List.set_cons_succ]
      refine wpAnyH_take (i := 28) (oi := { dst := some 38, op := _, type := _, pos := _, after := _, guard := _ }) (v := undef) rfl (by kernel_rfl) (by kernel_rfl) (by kernel_rfl) (fun _ _ _ h => h) (Or.inr ⟨by rfl, rfl⟩) (by assumption) ?_
      try simp only [Act.put, List.setIfInBounds_toArray, List.set_cons_zero, List.set_cons_succ]
      refine wpAnyH_take (i := 29) (oi := { dst := some 39, op := _, type := _, pos := _, after := _, guard := _ }) (v := ?_) rfl (by kernel_rfl) (by kernel_rfl) (by kernel_rfl) (fun _ _ _ h => h) (Or.inl ⟨by rfl, ?_⟩) (by assumption) ?_
      rotate_left
      · intro w0 hSw
        (try dsimp only at hSw)
        go_simp
        all_goals (with_reducible rfl)
      try simp only [Act.put, List.setIfInBounds_toArray, List.set_cons_zero, List.set_cons_succ]
      refine wpAnyH_take (i := 30) (oi := { dst := some 4, op := _, type := _, pos := _, after := _, guard := _ }) (v := ?_) rfl (by kernel_rfl) (by kernel_rfl) (by kernel_rfl) (fun _ _ _ h => h) (Or.inl ⟨by rfl, ?_⟩) (by assumption) ?_
      rotate_left
      · intro w0 hSw
        (try dsimp only at hSw)
        go_simp
        all_goals (with_reducible rfl)
      try simp only [Act.put, List.setIfInBounds_toArray, List.set_cons_zero, List.set_cons_succ]
      refine wpAnyH_done (by kernel_rfl) ?_ _
      go_wp2
      go_ret
      exact ⟨rfl, H4.out.1, H4.out.2⟩
    · have HCJ := Lib.hid cJ
      clear cJ
      refine wp_region_held_drew (S := (fun w' => w'.cell? ⟨bl, 0, none⟩ = some (.pointer (some ⟨pl, 0, none⟩)) ∧ w'.cell? ⟨bd, 0, none⟩ = some (.int .i64 deep) ∧ w'.cell? ⟨w.heap.size, 3, none⟩ = some (.string tx) ∧ w'.cell? ⟨w.heap.size, 4, none⟩ = some (.int .i64 ak) ∧ w'.cell? ⟨w.heap.size, 5, none⟩ = some (.int .i64 ay) ∧ w'.cell? ⟨w.heap.size, 6, none⟩ = some (.string an) ∧ w'.cell? ⟨w.heap.size, 7, none⟩ = some (.int .i64 au) ∧ w'.cell? ⟨w.heap.size, 8, none⟩ = some (.slice aa an2 ac) ∧ w'.cell? ⟨w.heap.size, 9, none⟩ = some (.slice ta n tc) ∧ w'.cell? ⟨w.heap.size, 10, none⟩ = some (.slice ka kn kc))) (by kernel_rfl) (by exact HS2.out) (fun hHeld => ?_)
      refine wpAnyH_take (i := 0) (oi := { dst := some 10, op := _, type := _, pos := _, after := _, guard := _ }) (v := ?_) rfl (by kernel_rfl) (by kernel_rfl) (by kernel_rfl) (fun _ _ _ h => h) (Or.inl ⟨by rfl, ?_⟩) (by assumption) ?_
      rotate_left
      · intro w0 hSw
        (try dsimp only at hSw)
        go_simp
        all_goals (with_reducible rfl)
      try simp only [Act.put, List.setIfInBounds_toArray, List.set_cons_zero, List.set_cons_succ]
      refine wpAnyH_take (i := 1) (oi := { dst := some 11, op := _, type := _, pos := _, after := _, guard := _ }) (v := ?_) rfl (by kernel_rfl) (by kernel_rfl) (by kernel_rfl) (fun _ _ _ h => h) (Or.inl ⟨by rfl, ?_⟩) (by assumption) ?_
      rotate_left
      · intro w0 hSw
        (try dsimp only at hSw)
        go_simp
        all_goals (with_reducible rfl)
      try simp only [Act.put, List.setIfInBounds_toArray, List.set_cons_zero, List.set_cons_succ]
      refine wpAnyH_ready (rs := [2]) (by kernel_rfl) (by simp) ?_
      refine AllReadyH.cons (o := { dst := some 12, op := _, type := _, pos := _, after := _, guard := _ }) rfl (fun K hK => ?_) AllReadyH.nil
      go_simp
      refine hK.out _ _ ?_ (fun hHeld => ?_)
      · (first | exact HS2.out | exact HSA.out | exact HSB.out | exact HSC.out | exact HSD.out)
      clear hK K
      try simp only [Act.put, List.setIfInBounds_toArray, List.set_cons_zero, List.set_cons_succ]
      refine wpAnyH_take (i := 3) (oi := { dst := some 13, op := _, type := _, pos := _, after := _, guard := _ }) (v := ?_) rfl (by kernel_rfl) (by kernel_rfl) (by kernel_rfl) (fun _ _ _ h => h) (Or.inl ⟨by rfl, ?_⟩) (by assumption) ?_
      rotate_left
      · intro w0 hSw
        (try dsimp only at hSw)
        go_simp
        all_goals (with_reducible rfl)
      try simp only [Act.put, List.setIfInBounds_toArray, List.set_cons_zero, List.set_cons_succ]
      refine wpAnyH_take (i := 4) (oi := { dst := some 14, op := _, type := _, pos := _, after := _, guard := _ }) (v := ?_) rfl (by kernel_rfl) (by kernel_rfl) (by kernel_rfl) (fun _ _ _ h => h) (Or.inl ⟨by rfl, ?_⟩) (by assumption) ?_
      rotate_left
      · intro w0 hSw
        (try dsimp only at hSw)
        go_simp
        all_goals (with_reducible rfl)
      try simp only [Act.put, List.setIfInBounds_toArray, List.set_cons_zero, List.set_cons_succ]
      refine wpAnyH_take (i := 5) (oi := { dst := some 15, op := _, type := _, pos := _, after := _, guard := _ }) (v := ?_) rfl (by kernel_rfl) (by kernel_rfl) (by kernel_rfl) (fun _ _ _ h => h) (Or.inl ⟨by rfl, ?_⟩) (by assumption) ?_
      rotate_left
      · intro w0 hSw
        (try dsimp only at hSw)
        go_simp
        all_goals (with_reducible rfl)
      try simp only [Act.put, List.setIfInBounds_toArray, List.set_cons_zero, List.set_cons_succ]
      refine wpAnyH_take (i := 6) (oi := { dst := some 16, op := _, type := _, pos := _, after := _, guard := _ }) (v := ?_) rfl (by kernel_rfl) (by kernel_rfl) (by kernel_rfl) (fun _ _ _ h => h) (Or.inl ⟨by rfl, ?_⟩) (by assumption) ?_
      rotate_left
      · intro w0 hSw
        (try dsimp only at hSw)
        go_simp
        all_goals (with_reducible rfl)
      try simp only [Act.put, List.setIfInBounds_toArray, List.set_cons_zero, List.set_cons_succ]
      refine wpAnyH_take (i := 7) (oi := { dst := some 17, op := _, type := _, pos := _, after := _, guard := _ }) (v := ?_) rfl (by kernel_rfl) (by kernel_rfl) (by kernel_rfl) (fun _ _ _ h => h) (Or.inl ⟨by rfl, ?_⟩) (by assumption) ?_
      rotate_left
      · intro w0 hSw
        (try dsimp only at hSw)
        go_simp
        all_goals (with_reducible rfl)
      try simp only [Act.put, List.setIfInBounds_toArray, List.set_cons_zero, List.set_cons_succ]
      refine wpAnyH_take (i := 8) (oi := { dst := some 18, op := _, type := _, pos := _, after := _, guard := _ }) (v := ?_) rfl (by kernel_rfl) (by kernel_rfl) (by kernel_rfl) (fun _ _ _ h => h) (Or.inl ⟨by rfl, ?_⟩) (by assumption) ?_
      rotate_left
      · intro w0 hSw
        (try dsimp only at hSw)
        go_simp
        all_goals (with_reducible rfl)
      try simp only [Act.put, List.setIfInBounds_toArray, List.set_cons_zero, List.set_cons_succ]
      refine wpAnyH_take (i := 9) (oi := { dst := some 19, op := _, type := _, pos := _, after := _, guard := _ }) (v := ?_) rfl (by kernel_rfl) (by kernel_rfl) (by kernel_rfl) (fun _ _ _ h => h) (Or.inl ⟨by rfl, ?_⟩) (by assumption) ?_
      rotate_left
      · intro w0 hSw
        (try dsimp only at hSw)
        go_simp
        all_goals (with_reducible rfl)
      try simp only [Act.put, List.setIfInBounds_toArray, List.set_cons_zero, List.set_cons_succ]
      refine wpAnyH_take (i := 10) (oi := { dst := some 20, op := _, type := _, pos := _, after := _, guard := _ }) (v := ?_) rfl (by kernel_rfl) (by kernel_rfl) (by kernel_rfl) (fun _ _ _ h => h) (Or.inl ⟨by rfl, ?_⟩) (by assumption) ?_
      rotate_left
      · intro w0 hSw
        (try dsimp only at hSw)
        go_simp
        all_goals (with_reducible rfl)
      try simp only [Act.put, List.setIfInBounds_toArray, List.set_cons_zero, List.set_cons_succ]
      refine wpAnyH_take (i := 11) (oi := { dst := some 21, op := _, type := _, pos := _, after := _, guard := _ }) (v := ?_) rfl (by kernel_rfl) (by kernel_rfl) (by kernel_rfl) (fun _ _ _ h => h) (Or.inl ⟨by rfl, ?_⟩) (by assumption) ?_
      rotate_left
      · intro w0 hSw
        (try dsimp only at hSw)
        go_simp
        all_goals (with_reducible rfl)
      try simp only [Act.put, List.setIfInBounds_toArray, List.set_cons_zero, List.set_cons_succ]
      refine wpAnyH_take (i := 12) (oi := { dst := some 22, op := _, type := _, pos := _, after := _, guard := _ }) (v := ?_) rfl (by kernel_rfl) (by kernel_rfl) (by kernel_rfl) (fun _ _ _ h => h) (Or.inl ⟨by rfl, ?_⟩) (by assumption) ?_
      rotate_left
      · intro w0 hSw
        (try dsimp only at hSw)
        go_simp
        all_goals (with_reducible rfl)
      try simp only [Act.put, List.setIfInBounds_toArray, List.set_cons_zero, List.set_cons_succ]
      refine wpAnyH_take (i := 14) (oi := { dst := some 24, op := _, type := _, pos := _, after := _, guard := _ }) (v := ?_) rfl (by kernel_rfl) (by kernel_rfl) (by kernel_rfl) (fun _ _ _ h => h) (Or.inl ⟨by rfl, ?_⟩) (by assumption) ?_
      rotate_left
      · intro w0 hSw
        (try dsimp only at hSw)
        go_simp
        all_goals (with_reducible rfl)
      try simp only [Act.put, List.setIfInBounds_toArray, List.set_cons_zero, List.set_cons_succ]
      refine wpAnyH_take (i := 15) (oi := { dst := some 25, op := _, type := _, pos := _, after := _, guard := _ }) (v := ?_) rfl (by kernel_rfl) (by kernel_rfl) (by kernel_rfl) (fun _ _ _ h => h) (Or.inl ⟨by rfl, ?_⟩) (by assumption) ?_
      rotate_left
      · intro w0 hSw
        (try dsimp only at hSw)
        go_simp
        all_goals (with_reducible rfl)
      try simp only [Act.put, List.setIfInBounds_toArray, List.set_cons_zero, List.set_cons_succ]
      refine wpAnyH_take (i := 17) (oi := { dst := some 27, op := _, type := _, pos := _, after := _, guard := _ }) (v := ?_) rfl (by kernel_rfl) (by kernel_rfl) (by kernel_rfl) (fun _ _ _ h => h) (Or.inl ⟨by rfl, ?_⟩) (by assumption) ?_
      rotate_left
      · intro w0 hSw
        (try dsimp only at hSw)
        go_simp
        all_goals (with_reducible rfl)
      try simp only [Act.put, List.setIfInBounds_toArray, List.set_cons_zero, List.set_cons_succ]
      refine wpAnyH_ready (rs := [13]) (by kernel_rfl) (by simp) ?_
      refine AllReadyH.cons (o := { dst := some 23, op := _, type := _, pos := _, after := _, guard := _ }) rfl (fun K hK => ?_) AllReadyH.nil
      go_simp
      refine hK.out _ _ ?_ (fun hHeld => ?_)
      · (first | exact HS2.out | exact HSA.out | exact HSB.out | exact HSC.out | exact HSD.out)
      clear hK K
      try simp only [Act.put, List.setIfInBounds_toArray, List.set_cons_zero, List.set_cons_succ]
      refine wpAnyH_ready (rs := [16]) (by kernel_rfl) (by simp) ?_
      refine AllReadyH.cons (o := { dst := some 26, op := _, type := _, pos := _, after := _, guard := _ }) rfl (fun K hK => ?_) AllReadyH.nil
      (refine step_append_any _ _ 33 rfl (by first | rfl | simp [Region.wanted, yielded]) (.slice (some ⟨W2.heap.size, 0, none⟩) 1 1) (.slice ta n tc) rfl rfl (1 + n) (fun g cap w' => TS pl bl bd w.heap.size deep tx ak ay an au (.slice aa an2 ac) (.slice ta n tc) (.slice ka kn kc) w' ∧ LD w' pl (.slice (some ⟨g, 0, none⟩) (1 + n) cap) (1 + n) (cons1 ⟨ak, ay, an, au, .slice aa an2 ac⟩ d) ∧ Lf w' pl (x - 1) ∧ Below W0.heap.size W0 w' ∧ w.grownBy w' (some pl)) (by exact HAP.out _) ?_; intro gg cap w3 hF; have HF := Lib.hid hF; have HSB := Lib.hid hF.1; clear hF)
      refine hK.out _ _ ?_ (fun hHeld => ?_)
      · (first | exact HS2.out | exact HSA.out | exact HSB.out | exact HSC.out | exact HSD.out)
      clear hK K
      try simp only [Act.put, List.setIfInBounds_toArray, List.set_cons_zero, List.set_cons_succ]
      refine wpAnyH_ready (rs := [18]) (by kernel_rfl) (by simp) ?_
      refine AllReadyH.cons (o := { dst := some 28, op := _, type := _, pos := _, after := _, guard := _ }) rfl (fun K hK => ?_) AllReadyH.nil
      go_simp
      (go_at_call 30; refine (HCI.out w3 _ HF.out.2.1 HF.out.2.2.2.1 HF.out.2.2.1).mono ?_; rintro e w4 ⟨rfl, h4, h7⟩; have HSC := Lib.hid (HSB.out.grown h7 (fun e => HNE.out.1 (by injection e with e; exact e.symm)) (fun e => HNE.out.2.1 (by injection e with e; exact e.symm)) (fun e => HNE.out.2.2 (by injection e with e; exact e.symm))); have HB4 := Lib.hid (HF.out.2.2.2.1.grown h7 HF.out.2.2.2.1.size (fun k hk => by injection hk; omega)); have H4 := Lib.hid (And.intro h4 (HF.out.2.2.2.2.trans h7)); clear h4 h7)
      refine hK.out _ _ ?_ (fun hHeld => ?_)
      · (first | exact HS2.out | exact HSA.out | exact HSB.out | exact HSC.out | exact HSD.out)
      clear hK K
      try simp only [Act.put, List.setIfInBounds_toArray, List.set_cons_zero, List.set_cons_succ]
      refine wpAnyH_take (i := 19) (oi := { dst := some 29, op := _, type := _, pos := _, after := _, guard := _ }) (v := ?_) rfl (by kernel_rfl) (by kernel_rfl) (by kernel_rfl) (fun _ _ _ h => h) (Or.inl ⟨by rfl, ?_⟩) (by assumption) ?_
      rotate_left
      · intro w0 hSw
        (try dsimp only at hSw)
        go_simp
        all_goals (with_reducible rfl)
      try simp only [Act.put, List.setIfInBounds_toArray, List.set_cons_zero, List.set_cons_succ]
      refine wpAnyH_take (i := 20) (oi := { dst := some 30, op := _, type := _, pos := _, after := _, guard := _ }) (v := ?_) rfl (by kernel_rfl) (by kernel_rfl) (by kernel_rfl) (fun _ _ _ h => h) (Or.inl ⟨by rfl, ?_⟩) (by assumption) ?_
      rotate_left
      · intro w0 hSw
        (try dsimp only at hSw)
        go_simp
        all_goals (with_reducible rfl)
      try simp only [Act.put, List.setIfInBounds_toArray, List.set_cons_zero, List.set_cons_succ]
      refine wpAnyH_take (i := 21) (oi := { dst := some 31, op := _, type := _, pos := _, after := _, guard := _ }) (v := ?_) rfl (by kernel_rfl) (by kernel_rfl) (by kernel_rfl) (fun _ _ _ h => h) (Or.inl ⟨by rfl, ?_⟩) (by assumption) ?_
      rotate_left
      · intro w0 hSw
        (try dsimp only at hSw)
        go_simp
        all_goals (with_reducible rfl)
      try simp only [Act.put, List.setIfInBounds_toArray, List.set_cons_zero, List.set_cons_succ]
      refine wpAnyH_take (i := 22) (oi := { dst := some 32, op := _, type := _, pos := _, after := _, guard := _ }) (v := ?_) rfl (by kernel_rfl) (by kernel_rfl) (by kernel_rfl) (fun _ _ _ h => h) (Or.inl ⟨by rfl, ?_⟩) (by assumption) ?_
      rotate_left
      · intro w0 hSw
        (try dsimp only at hSw)
        go_simp
        all_goals (with_reducible rfl)
      try simp only [Act.put, List.setIfInBounds_toArray, List.set_cons_zero, List.set_cons_succ]
      refine wpAnyH_take (i := 23) (oi := { dst := some 33, op := _, type := _, pos := _, after := _, guard := _ }) (v := ?_) rfl (by kernel_rfl) (by kernel_rfl) (by kernel_rfl) (fun _ _ _ h => h) (Or.inl ⟨by rfl, ?_⟩) (by assumption) ?_
      rotate_left
      · intro w0 hSw
        (try dsimp only at hSw)
        go_simp
        all_goals (with_reducible rfl)
      try simp only [Act.put, List.setIfInBounds_toArray, List.set_cons_zero, List.set_cons_succ]
      refine wpAnyH_take (i := 24) (oi := { dst := some 34, op := _, type := _, pos := _, after := _, guard := _ }) (v := ?_) rfl (by kernel_rfl) (by kernel_rfl) (by kernel_rfl) (fun _ _ _ h => h) (Or.inl ⟨by rfl, ?_⟩) (by assumption) ?_
      rotate_left
      · intro w0 hSw
        (try dsimp only at hSw)
        go_simp
        all_goals (with_reducible rfl)
      try simp only [Act.put, List.setIfInBounds_toArray, List.set_cons_zero, List.set_cons_succ]
      refine wpAnyH_take (i := 25) (oi := { dst := some 35, op := _, type := _, pos := _, after := _, guard := _ }) (v := ?_) rfl (by kernel_rfl) (by kernel_rfl) (by kernel_rfl) (fun _ _ _ h => h) (Or.inl ⟨by rfl, ?_⟩) (by assumption) ?_
      rotate_left
      · intro w0 hSw
        (try dsimp only at hSw)
        go_simp
        all_goals (with_reducible rfl)
      try simp only [Act.put, List.setIfInBounds_toArray, List.set_cons_zero, List.set_cons_succ]
      refine wpAnyH_take (i := 26) (oi := { dst := some 36, op := _, type := _, pos := _, after := _, guard := _ }) (v := ?_) rfl (by kernel_rfl) (by kernel_rfl) (by kernel_rfl) (fun _ _ _ h => h) (Or.inl ⟨by rfl, ?_⟩) (by assumption) ?_
      rotate_left
      · intro w0 hSw
        (try dsimp only at hSw)
        go_simp
        all_goals (with_reducible rfl)
      try simp only [Act.put, List.setIfInBounds_toArray, List.set_cons_zero, List.set_cons_succ]
      refine wpAnyH_ready (rs := [27]) (by kernel_rfl) (by simp) ?_
      refine AllReadyH.cons (o := { dst := some 37, op := _, type := _, pos := _, after := _, guard := _ }) rfl (fun K hK => ?_) AllReadyH.nil
      go_simp
      (go_at_call 31; refine (HCJ.out w4 _ (HLT.out w4 HB4.out) HB4.out H4.out.1).mono ?_; rintro e w5 ⟨rfl, h5, h8⟩; have HSD := Lib.hid (HSC.out.grown h8 (fun e => HNE.out.1 (by injection e with e; exact e.symm)) (fun e => HNE.out.2.1 (by injection e with e; exact e.symm)) (fun e => HNE.out.2.2 (by injection e with e; exact e.symm))); have H5 := Lib.hid (And.intro h5 (H4.out.2.trans h8)); clear h5 h8)
      refine hK.out _ _ ?_ (fun hHeld => ?_)
      · (first | exact HS2.out | exact HSA.out | exact HSB.out | exact HSC.out | exact HSD.out)
      clear hK K
      try simp only [Act.put, List.setIfInBounds_toArray, List.set_cons_zero, List.set_cons_succ]
      refine wpAnyH_take (i := 28) (oi := { dst := some 38, op := _, type := _, pos := _, after := _, guard := _ }) (v := ?_) rfl (by kernel_rfl) (by kernel_rfl) (by kernel_rfl) (fun _ _ _ h => h) (Or.inl ⟨by rfl, ?_⟩) (by assumption) ?_
      rotate_left
      · intro w0 hSw
        (try dsimp only at hSw)
        go_simp
        all_goals (with_reducible rfl)
      try simp only [Act.put, List.setIfInBounds_toArray, List.set_cons_zero, List.set_cons_succ]
      refine wpAnyH_take (i := 29) (oi := { dst := some 39, op := _, type := _, pos := _, after := _, guard := _ }) (v := ?_) rfl (by kernel_rfl) (by kernel_rfl) (by kernel_rfl) (fun _ _ _ h => h) (Or.inl ⟨by rfl, ?_⟩) (by assumption) ?_
      rotate_left
      · intro w0 hSw
        (try dsimp only at hSw)
        go_simp
        all_goals (with_reducible rfl)
      try simp only [Act.put, List.setIfInBounds_toArray, List.set_cons_zero, List.set_cons_succ]
      refine wpAnyH_take (i := 30) (oi := { dst := some 4, op := _, type := _, pos := _, after := _, guard := _ }) (v := ?_) rfl (by kernel_rfl) (by kernel_rfl) (by kernel_rfl) (fun _ _ _ h => h) (Or.inl ⟨by rfl, ?_⟩) (by assumption) ?_
      rotate_left
      · intro w0 hSw
        (try dsimp only at hSw)
        go_simp
        all_goals (with_reducible rfl)
      try simp only [Act.put, List.setIfInBounds_toArray, List.set_cons_zero, List.set_cons_succ]
      refine wpAnyH_done (by kernel_rfl) ?_ _
      go_wp2
      go_ret
      exact ⟨rfl, H5.out.1, H5.out.2⟩
end Go.Proofs.YtlipfgdjbimfjaaGreatDoor
