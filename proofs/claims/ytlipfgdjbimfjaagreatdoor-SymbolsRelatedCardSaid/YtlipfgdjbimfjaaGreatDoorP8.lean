/- class at a class without members: no fault. -/
import Derived.Test.YtlipfgdjbimfjaaGreatDoorP7
namespace Go.Proofs.YtlipfgdjbimfjaaGreatDoor
open Go.RowKit Go.Shelf Go.Sort
set_option maxRecDepth 100000

theorem quiet_left {P : Program} {f : FuncId} {args : Array Value} {w : World} {n : Nat} {v : Value}
    (h : Calls P f args (w.drewN n) fun e w' => e = .returned v ∧ w.drewN n = w') : Calls P f args (w.drewN n) fun e w'' => e = .returned v ∧ ∃ m, w'' = w.drewN m :=
  h.mono fun _ _ ⟨he, hm⟩ => ⟨he, n, hm.symm⟩
/-- What the program's table of flags holds. -/
structure Gl (w : World) : Prop where
  g0 : w.cell? ⟨0, 0, none⟩ = some (.int .i64 16495)
  g1 : w.cell? ⟨0, 1, none⟩ = some (.int .i64 16397)
  g2 : w.cell? ⟨0, 2, none⟩ = some (.int .i64 16426)
theorem Gl.bel {w w' : World} {B : Nat} (h : Gl w) (hb : Below B w w') (h0 : 0 < B) : Gl w' := by
  obtain ⟨g0, g1, g2⟩ := h
  exact ⟨(hb.cell (p := ⟨0, _, none⟩) h0).trans g0, (hb.cell (p := ⟨0, _, none⟩) h0).trans g1, (hb.cell (p := ⟨0, _, none⟩) h0).trans g2⟩

set_option maxHeartbeats 4000000 in
theorem class_ok (tb cb n mb i : Nat) (nm : List UInt8) (kind owner : Int) (pv : Value) (w : World) (hG : Gl w) (hT : TT w tb cb n mb) (hi : i < n) (hn : n ≤ 100000) (hB : BC w cb (i * 13) nm kind owner pv)
    (hnm : nameM nm = true) (hk : kind = 0 ∨ kind = 1 ∨ kind = 2) (ho : owner = -1 ∨ (0 ≤ owner ∧ owner < n ∧ owner ≠ i)) :
    Calls Tryz.prog 82 #[.pointer (some ⟨tb, 0, none⟩), .int .i64 i] w fun e w' => e = .returned (.int .i64 0) ∧ Below w.heap.size w w' := by
  have htb : tb < w.heap.size := block_lt_of_cell hT.c0
  have hcb : cb < w.heap.size := block_lt_of_cell hB.c0
  have hnl : nm.length ≤ 140737488351232 := by
    have h := hnm
    unfold nameM at h
    simp only [Bool.and_eq_true, decide_eq_true_eq] at h
    omega
  have cO : ∀ W, Below w.heap.size w W → Calls Tryz.prog 123 #[.pointer (some ⟨tb, 0, none⟩), .int .i64 owner] W fun e w' => e = .returned (.bool true) ∧ W = w' := by
    intro W hb
    rcases ho with rfl | ⟨h0, h1, _⟩
    · exact isOwner_none tb W
    · exact isOwner_in tb cb n mb owner W (hT.bel hb htb) h0 h1
  have hoi : (owner == (i : Int)) = false := by
    rw [beq_eq_false_iff_ne]
    rcases ho with rfl | ⟨_, _, h⟩
    · omega
    · exact h
  have HT := Lib.hid hT
  have HBC := Lib.hid hB
  obtain ⟨g0, g1, g2⟩ := hG
  obtain ⟨a0, a1, a2, a3, a4, a5, a6⟩ := hT
  obtain ⟨c0, c1, c2, c3, c4, c5, c6, c7, c8, c9⟩ := hB
  have HNM := Lib.hid hnm
  have HTB := Lib.hid htb
  have HCB := Lib.hid hcb
  clear hnm ho htb hcb a1 a2 a3 a4 a5 a6 c4 c5 c6 c7 c8 c9
  rcases hk with rfl | rfl | rfl
  · go_enter Tryz.func82, Tryz.ntmps82
    go_wp2_with fail
    refine (isName_any nm _ hnl).mono ?_; rintro e w' ⟨rfl, rfl⟩; rw [HNM.out]
    go_wp2_with fail
    refine (isIndex_in _ (by omega) (by omega)).mono ?_; rintro e w' ⟨rfl, rfl⟩
    go_wp2
    go_quiet ((first | (go_at_call 122; exact quiet_left (hasOthers0 _ _ (by omega))) | (go_at_call 95; exact quiet_left (has0 _ _ (by omega)))))
    go_wp2_with fail
    refine (cO _ (below_drewN _ _)).mono ?_
    rintro e w' ⟨rfl, hq⟩
    obtain rfl := hq.symm
    clear cO
    generalize hD : w.drewN _ = w0
    have HR0 : Hid (Below w.heap.size w w0) := Lib.hid (by rw [← hD]; exact below_drewN _ _)
    clear hD
    go_wp2_with fail
    refine (listsExist_nil tb cb n mb (i * 13) nm 0 owner pv _ (HT.out.bel HR0.out HTB.out) (HBC.out.bel HR0.out HCB.out)).mono ?_
    rintro e w1 ⟨rfl, hb⟩
    have hr := HR0.out.trans (hb.mono HR0.out.size)
    have HR1 := Lib.hid hr
    clear hb hr
    obtain ⟨z0, z1, z2, z3, z4, z5, z6, z7, z8, z9⟩ := HBC.out.bel HR1.out HCB.out
    clear z0 z1 z2 z3 z5 z6 z7 z8 z9
    go_wp2_with fail
    refine (twice_nil none 0 _).mono ?_
    rintro e w2 ⟨rfl, hb⟩
    have hr := HR1.out.trans (hb.mono HR1.out.size)
    have HR2 := Lib.hid hr
    clear hb hr z4
    obtain ⟨z0, z1, z2, z3, z4, z5, z6, z7, z8, z9⟩ := HBC.out.bel HR2.out HCB.out
    clear z0 z1 z2 z3 z4 z5 z7 z8 z9
    go_wp2_with fail
    refine (twice_nil none 0 _).mono ?_
    rintro e w3 ⟨rfl, hb⟩
    have hr := HR2.out.trans (hb.mono HR2.out.size)
    have HR3 := Lib.hid hr
    clear hb hr z6
    obtain ⟨z0, z1, z2, z3, z4, z5, z6, z7, z8, z9⟩ := HBC.out.bel HR3.out HCB.out
    clear z0 z1 z2 z3 z4 z5 z6 z8 z9
    go_wp2_with fail
    refine (twice_nil none 0 _).mono ?_
    rintro e w4 ⟨rfl, hb⟩
    have hr := HR3.out.trans (hb.mono HR3.out.size)
    have HR4 := Lib.hid hr
    clear hb hr z7
    obtain ⟨z0, z1, z2, z3, z4, z5, z6, z7, z8, z9⟩ := HBC.out.bel HR4.out HCB.out
    clear z0 z1 z2 z3 z4 z5 z6 z7 z9
    go_wp2_with fail
    refine (twice_nil none 0 _).mono ?_
    rintro e w5 ⟨rfl, hb⟩
    have hr := HR4.out.trans (hb.mono HR4.out.size)
    have HR5 := Lib.hid hr
    clear hb hr z8
    obtain ⟨z0, z1, z2, z3, z4, z5, z6, z7, z8, z9⟩ := HBC.out.bel HR5.out HCB.out
    clear z0 z1 z2 z3 z4 z5 z6 z7 z8
    go_wp2_with fail
    refine (twice_nil none 0 _).mono ?_
    rintro e w6 ⟨rfl, hb⟩
    have hr := HR5.out.trans (hb.mono HR5.out.size)
    have HR6 := Lib.hid hr
    clear hb hr z9
    obtain ⟨z0, z1, z2, z3, z4, z5, z6, z7, z8, z9⟩ := HBC.out.bel HR6.out HCB.out
    clear z0 z3 z5 z7 z8 z9
    go_wp2_with fail
    refine (ownsLists_nil tb cb n mb i nm 0 owner pv _ (HT.out.bel HR6.out HTB.out) hi hn (HBC.out.bel HR6.out HCB.out)).mono ?_
    rintro e w7 ⟨rfl, hb⟩
    have hr := HR6.out.trans (hb.mono HR6.out.size)
    have HR7 := Lib.hid hr
    clear hb hr z4 z6 z1 z2
    obtain ⟨z0, z1, z2, z3, z4, z5, z6, z7, z8, z9⟩ := HBC.out.bel HR7.out HCB.out
    clear z0 z1 z3 z4 z5 z6 z7 z8 z9
    go_wp2_with fail
    refine (has0 _ _ (by omega)).mono ?_; rintro e w' ⟨rfl, rfl⟩
    go_wp2
    go_ret
    exact ⟨rfl, HR7.out⟩
  · go_enter Tryz.func82, Tryz.ntmps82
    go_wp2_with fail
    refine (isName_any nm _ hnl).mono ?_; rintro e w' ⟨rfl, rfl⟩; rw [HNM.out]
    go_wp2_with fail
    refine (isIndex_in _ (by omega) (by omega)).mono ?_; rintro e w' ⟨rfl, rfl⟩
    go_wp2
    go_quiet ((first | (go_at_call 122; exact quiet_left (hasOthers0 _ _ (by omega))) | (go_at_call 95; exact quiet_left (has0 _ _ (by omega)))))
    go_wp2_with fail
    refine (cO _ (below_drewN _ _)).mono ?_
    rintro e w' ⟨rfl, hq⟩
    obtain rfl := hq.symm
    clear cO
    generalize hD : w.drewN _ = w0
    have HR0 : Hid (Below w.heap.size w w0) := Lib.hid (by rw [← hD]; exact below_drewN _ _)
    clear hD
    go_wp2_with fail
    refine (listsExist_nil tb cb n mb (i * 13) nm 1 owner pv _ (HT.out.bel HR0.out HTB.out) (HBC.out.bel HR0.out HCB.out)).mono ?_
    rintro e w1 ⟨rfl, hb⟩
    have hr := HR0.out.trans (hb.mono HR0.out.size)
    have HR1 := Lib.hid hr
    clear hb hr
    obtain ⟨z0, z1, z2, z3, z4, z5, z6, z7, z8, z9⟩ := HBC.out.bel HR1.out HCB.out
    clear z0 z1 z2 z3 z5 z6 z7 z8 z9
    go_wp2_with fail
    refine (twice_nil none 0 _).mono ?_
    rintro e w2 ⟨rfl, hb⟩
    have hr := HR1.out.trans (hb.mono HR1.out.size)
    have HR2 := Lib.hid hr
    clear hb hr z4
    obtain ⟨z0, z1, z2, z3, z4, z5, z6, z7, z8, z9⟩ := HBC.out.bel HR2.out HCB.out
    clear z0 z1 z2 z3 z4 z5 z7 z8 z9
    go_wp2_with fail
    refine (twice_nil none 0 _).mono ?_
    rintro e w3 ⟨rfl, hb⟩
    have hr := HR2.out.trans (hb.mono HR2.out.size)
    have HR3 := Lib.hid hr
    clear hb hr z6
    obtain ⟨z0, z1, z2, z3, z4, z5, z6, z7, z8, z9⟩ := HBC.out.bel HR3.out HCB.out
    clear z0 z1 z2 z3 z4 z5 z6 z8 z9
    go_wp2_with fail
    refine (twice_nil none 0 _).mono ?_
    rintro e w4 ⟨rfl, hb⟩
    have hr := HR3.out.trans (hb.mono HR3.out.size)
    have HR4 := Lib.hid hr
    clear hb hr z7
    obtain ⟨z0, z1, z2, z3, z4, z5, z6, z7, z8, z9⟩ := HBC.out.bel HR4.out HCB.out
    clear z0 z1 z2 z3 z4 z5 z6 z7 z9
    go_wp2_with fail
    refine (twice_nil none 0 _).mono ?_
    rintro e w5 ⟨rfl, hb⟩
    have hr := HR4.out.trans (hb.mono HR4.out.size)
    have HR5 := Lib.hid hr
    clear hb hr z8
    obtain ⟨z0, z1, z2, z3, z4, z5, z6, z7, z8, z9⟩ := HBC.out.bel HR5.out HCB.out
    clear z0 z1 z2 z3 z4 z5 z6 z7 z8
    go_wp2_with fail
    refine (twice_nil none 0 _).mono ?_
    rintro e w6 ⟨rfl, hb⟩
    have hr := HR5.out.trans (hb.mono HR5.out.size)
    have HR6 := Lib.hid hr
    clear hb hr z9
    obtain ⟨z0, z1, z2, z3, z4, z5, z6, z7, z8, z9⟩ := HBC.out.bel HR6.out HCB.out
    clear z0 z3 z5 z7 z8 z9
    go_wp2_with fail
    refine (ownsLists_nil tb cb n mb i nm 1 owner pv _ (HT.out.bel HR6.out HTB.out) hi hn (HBC.out.bel HR6.out HCB.out)).mono ?_
    rintro e w7 ⟨rfl, hb⟩
    have hr := HR6.out.trans (hb.mono HR6.out.size)
    have HR7 := Lib.hid hr
    clear hb hr z4 z6 z1 z2
    obtain ⟨z0, z1, z2, z3, z4, z5, z6, z7, z8, z9⟩ := HBC.out.bel HR7.out HCB.out
    clear z0 z1 z3 z4 z5 z6 z7 z8 z9
    go_wp2_with fail
    refine (has0 _ _ (by omega)).mono ?_; rintro e w' ⟨rfl, rfl⟩
    go_wp2
    go_ret
    exact ⟨rfl, HR7.out⟩
  · go_enter Tryz.func82, Tryz.ntmps82
    go_wp2_with fail
    refine (isName_any nm _ hnl).mono ?_; rintro e w' ⟨rfl, rfl⟩; rw [HNM.out]
    go_wp2_with fail
    refine (isIndex_in _ (by omega) (by omega)).mono ?_; rintro e w' ⟨rfl, rfl⟩
    go_wp2
    go_quiet ((first | (go_at_call 122; exact quiet_left (hasOthers0 _ _ (by omega))) | (go_at_call 95; exact quiet_left (has0 _ _ (by omega)))))
    go_wp2_with fail
    refine (cO _ (below_drewN _ _)).mono ?_
    rintro e w' ⟨rfl, hq⟩
    obtain rfl := hq.symm
    clear cO
    generalize hD : w.drewN _ = w0
    have HR0 : Hid (Below w.heap.size w w0) := Lib.hid (by rw [← hD]; exact below_drewN _ _)
    clear hD
    go_wp2_with fail
    refine (listsExist_nil tb cb n mb (i * 13) nm 2 owner pv _ (HT.out.bel HR0.out HTB.out) (HBC.out.bel HR0.out HCB.out)).mono ?_
    rintro e w1 ⟨rfl, hb⟩
    have hr := HR0.out.trans (hb.mono HR0.out.size)
    have HR1 := Lib.hid hr
    clear hb hr
    obtain ⟨z0, z1, z2, z3, z4, z5, z6, z7, z8, z9⟩ := HBC.out.bel HR1.out HCB.out
    clear z0 z1 z2 z3 z5 z6 z7 z8 z9
    go_wp2_with fail
    refine (twice_nil none 0 _).mono ?_
    rintro e w2 ⟨rfl, hb⟩
    have hr := HR1.out.trans (hb.mono HR1.out.size)
    have HR2 := Lib.hid hr
    clear hb hr z4
    obtain ⟨z0, z1, z2, z3, z4, z5, z6, z7, z8, z9⟩ := HBC.out.bel HR2.out HCB.out
    clear z0 z1 z2 z3 z4 z5 z7 z8 z9
    go_wp2_with fail
    refine (twice_nil none 0 _).mono ?_
    rintro e w3 ⟨rfl, hb⟩
    have hr := HR2.out.trans (hb.mono HR2.out.size)
    have HR3 := Lib.hid hr
    clear hb hr z6
    obtain ⟨z0, z1, z2, z3, z4, z5, z6, z7, z8, z9⟩ := HBC.out.bel HR3.out HCB.out
    clear z0 z1 z2 z3 z4 z5 z6 z8 z9
    go_wp2_with fail
    refine (twice_nil none 0 _).mono ?_
    rintro e w4 ⟨rfl, hb⟩
    have hr := HR3.out.trans (hb.mono HR3.out.size)
    have HR4 := Lib.hid hr
    clear hb hr z7
    obtain ⟨z0, z1, z2, z3, z4, z5, z6, z7, z8, z9⟩ := HBC.out.bel HR4.out HCB.out
    clear z0 z1 z2 z3 z4 z5 z6 z7 z9
    go_wp2_with fail
    refine (twice_nil none 0 _).mono ?_
    rintro e w5 ⟨rfl, hb⟩
    have hr := HR4.out.trans (hb.mono HR4.out.size)
    have HR5 := Lib.hid hr
    clear hb hr z8
    obtain ⟨z0, z1, z2, z3, z4, z5, z6, z7, z8, z9⟩ := HBC.out.bel HR5.out HCB.out
    clear z0 z1 z2 z3 z4 z5 z6 z7 z8
    go_wp2_with fail
    refine (twice_nil none 0 _).mono ?_
    rintro e w6 ⟨rfl, hb⟩
    have hr := HR5.out.trans (hb.mono HR5.out.size)
    have HR6 := Lib.hid hr
    clear hb hr z9
    obtain ⟨z0, z1, z2, z3, z4, z5, z6, z7, z8, z9⟩ := HBC.out.bel HR6.out HCB.out
    clear z0 z3 z5 z7 z8 z9
    go_wp2_with fail
    refine (ownsLists_nil tb cb n mb i nm 2 owner pv _ (HT.out.bel HR6.out HTB.out) hi hn (HBC.out.bel HR6.out HCB.out)).mono ?_
    rintro e w7 ⟨rfl, hb⟩
    have hr := HR6.out.trans (hb.mono HR6.out.size)
    have HR7 := Lib.hid hr
    clear hb hr z4 z6 z1 z2
    obtain ⟨z0, z1, z2, z3, z4, z5, z6, z7, z8, z9⟩ := HBC.out.bel HR7.out HCB.out
    clear z0 z1 z3 z4 z5 z6 z7 z8 z9
    go_wp2_with fail
    refine (has0 _ _ (by omega)).mono ?_; rintro e w' ⟨rfl, rfl⟩
    go_wp2
    go_ret
    exact ⟨rfl, HR7.out⟩
end Go.Proofs.YtlipfgdjbimfjaaGreatDoor
