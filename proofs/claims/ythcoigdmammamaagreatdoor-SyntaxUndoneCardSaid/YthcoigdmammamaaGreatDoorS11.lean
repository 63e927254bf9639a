/- equal: a new tree against the same tree elsewhere. -/
import Derived.Test.YthcoigdmammamaaGreatDoorS10
import Derived.Deep.LoopGhost
import Derived.Deep.QuietTactic
namespace Go.Proofs.YthcoigdmammamaaGreatDoor
open Go.RowKit Go.Shelf Go.Sort
set_option maxRecDepth 100000

/-- The cells of a comparison whose map is empty. -/
abbrev CB (s M : Nat) : Obj := .cells #[.int .i64 s, .map (some M)] 56 (0, 0)
/-- What equal comes to at equal trees. -/
def EqP (C M s : Nat) (x : Nd) (w : World) (e : Ending) (w' : World) : Prop :=
  e = .returned (.bool true) ∧ (∃ s' : Nat, s' ≤ s + x.nodes ∧ w'.heap[C]? = some (CB s' M)) ∧ Below C w w'
theorem LsS.row_of' {w : World} {S : Nat → Prop} {a : Option Addr} {n c : Nat} {l : List Nd} (h : LsS w S (.slice a n c) l) (hn : 0 < l.length) :
    ∃ (b off : Nat) (vs : Nat → Value), a = some ⟨b, off, none⟩ ∧ S b ∧ l.length ≤ c ∧ (∀ i, i < l.length → NC w b (off + i * 5) (l.getD i Nd0) (vs i)) ∧ (∀ i, i < l.length → LsS w S (vs i) (l.getD i Nd0).kids) := by
  cases h with
  | nil => exact absurd hn (by simp)
  | row b off cap l vs h1 h2 h3 h4 => exact ⟨b, off, vs, rfl, h1, h2, h3, h4⟩
theorem blk_of_cell {w : World} {b o : Nat} {v : Value} (h : w.cell? ⟨b, o, none⟩ = some v) : ∃ xs t fr, w.heap[b]? = some (.cells xs t fr) ∧ 0 < xs.size := by
  unfold World.cell? at h
  cases hb : w.heap[b]? with
  | none => simp [hb] at h
  | some o' =>
    cases o' with
    | cells cs t fr =>
      simp [hb] at h
      obtain ⟨h1, _⟩ := Array.getElem?_eq_some_iff.1 h
      exact ⟨cs, t, fr, rfl, by omega⟩
    | _ => simp [hb] at h
theorem bel_drawn (C : Nat) (w : World) (n : Nat) : Below C w (w.drewN n) := ⟨rfl, rfl, rfl, Nat.le_refl _, fun _ _ => rfl⟩

set_option maxHeartbeats 4000000 in
theorem equal_any (N : Nat) : ∀ (x : Nd) (va vb : Value) (ba oa bb ob C M k s B : Nat) (w : World), SizeOf.sizeOf x ≤ N → NC w ba oa x va → NC w bb ob x vb →
    LsS w (fun j => Free w j ∧ B ≤ j ∧ j < C) va x.kids → Ls w B vb x.kids → w.heap[C]? = some (CB s M) → w.heap[M]? = some (.map #[] k) → M < C → ba < C → bb < C → B ≤ C → s + x.nodes ≤ 20000 →
    Calls Tryz.prog 21 #[.pointer (some ⟨C, 0, none⟩), .pointer (some ⟨ba, oa, none⟩), .pointer (some ⟨bb, ob, none⟩)] w (EqP C M s x w) := by
  induction N with
  | zero => intro x va vb ba oa bb ob C M k s B w hN; cases x; simp at hN
  | succ N ih =>
    intro x va vb ba oa bb ob C M k s B w hN ha hb hla hlb hC hM hMC hba hbb hBC hs
    obtain ⟨aa, ca, rfl⟩ := LsS.slice hla
    obtain ⟨ab, cb, rfl⟩ := hlb.slice
    have HN := Lib.hid hN
    have HA := Lib.hid ha
    have HB := Lib.hid hb
    have HLA := Lib.hid hla
    have HLB := Lib.hid hlb
    have HC := Lib.hid hC
    have HM := Lib.hid hM
    obtain ⟨a0, a1, a2, a3, a4, _⟩ := ha
    obtain ⟨b0, b1, b2, b3, b4, _⟩ := hb
    have n0 : (x.kind != x.kind) = false := by simp
    have n1 : (x.text.toList != x.text.toList) = false := by simp
    have n2 : (x.num != x.num) = false := by simp
    have n3 : ((x.kids.length : Int) != (x.kids.length : Int)) = false := by simp
    clear hN hla hlb hC hM
    go_enter Tryz.func21, Tryz.ntmps21
    go_wp2
    go_quiet (fail)
    go_wp2
    have hh : (w.drewN nq).heap = w.heap := by simp
    have HA1 := Lib.hid (HA.out.of (w' := w.drewN nq) (by rw [hh]))
    have HB1 := Lib.hid (HB.out.of (w' := w.drewN nq) (by rw [hh]))
    have HLA1 : Hid (LsS (w.drewN nq) (fun j => Free (w.drewN nq) j ∧ B ≤ j ∧ j < C) (.slice aa x.kids.length ca) x.kids) := LsS.of HLA.out (fun j _ => by rw [hh]) (fun j hj => ⟨hj.1.of (by rw [hh]), hj.2⟩)
    have HLB1 : Hid (Ls (w.drewN nq) B (.slice ab x.kids.length cb) x.kids) := HLB.out.of (fun j _ => by rw [hh])
    have HC1 : Hid ((w.drewN nq).heap[C]? = some (CB s M)) := by show _ = _; rw [hh]; exact HC.out
    have HM1 : Hid ((w.drewN nq).heap[M]? = some (.map #[] k)) := by show _ = _; rw [hh]; exact HM.out
    have HBW := Lib.hid (bel_drawn C w nq)
    clear hh a0 a1 a2 a3 a4 b0 b1 b2 b3 b4 n0 n1 n2 n3 HA HB HLA HLB HC HM
    generalize w.drewN nq = w1 at *
    have a3 := HA1.out.c3
    have b3 := HB1.out.c3
    by_cases hz : x.kids.length = 0
    · have z0 : ((x.kids.length : Int) == 0) = true := by simpa using hz
      clear hz
      go_quiet (fail)
      go_wp2
      go_ret
      exact ⟨rfl, ⟨s, by omega, HC1.out⟩, HBW.out.trans (bel_drawn _ _ _)⟩
    · have z0 : ((x.kids.length : Int) == 0) = false := by simpa using hz
      have hpos : 0 < x.kids.length := by omega
      clear hz
      obtain ⟨ra, oa', vsa, rfl, ⟨hfa, hBa, hCa⟩, hca, hna, hka⟩ := LsS.row_of' HLA1.out hpos
      obtain ⟨rb, ob', vsb, rfl, hBb, hcb, hnb, hkb⟩ := Ls.row_of HLB1.out hpos
      obtain ⟨xa, ta, hfa⟩ := hfa
      obtain ⟨xb, tb, fr, hfb, hxb⟩ := blk_of_cell (hnb 0 hpos).c0
      have cB := begun_any C M s ra oa' ca rb ob' cb x.kids.length xa xb ta tb fr k w1.drew HC1.out HM1.out hMC (by omega) hfa hfb hxb hpos (by have := x.nodes_eq; omega)
      have HNA := Lib.hid hna
      have HNB := Lib.hid hnb
      have HKA := Lib.hid hka
      have HKB := Lib.hid hkb
      clear hna hnb hka hkb hfa hfb
      go_still_tail 16, (by kernel_rfl)
      change wpList _ _ _ _ _ (World.drew _)
      go_wp2_with fail
      refine cB.mono ?_
      clear cB
      rintro e w2 ⟨rfl, hC2, hb2⟩
      have hC2' : w2.heap[C]? = some (CB (s + 1) M) := by rw [hC2]; rfl
      have HC2 := Lib.hid hC2'
      have HB2 : Hid (Below C w1 w2) := (Below.refl C w1).drew.trans hb2
      clear hC2 hC2' hb2 a3 b3
      have a3 := (HB2.out.cell (p := ⟨ba, oa + 3, none⟩) hba).trans HA1.out.c3
      have b3 := (HB2.out.cell (p := ⟨bb, ob + 3, none⟩) hbb).trans HB1.out.c3
      go_wp2
      clear a3 b3
      go_loopg [75] (x.kids.length + 1) (fun n y wr => ∃ (i s1 : Nat), i ≤ x.kids.length ∧ x.kids.length - i < n ∧ y = .int .i64 i ∧ Hid (s1 ≤ s + 1 + nodesL (x.kids.take i)) ∧ Hid (wr.heap[C]? = some (CB s1 M)) ∧ Hid (Below C w1 wr))
      case atStart => exact ⟨0, s + 1, by omega, by omega, rfl, (by show _ ≤ _; simp [nodesL]), HC2, HB2⟩
      case round =>
        obtain ⟨i, s1, hi, hgk, rfl, HS1, HCr, HBr⟩ := hrel
        obtain ⟨n, rfl⟩ : ∃ n, gk = n + 1 := ⟨gk - 1, by omega⟩
        have a3 := (HBr.out.cell (p := ⟨ba, oa + 3, none⟩) hba).trans HA1.out.c3
        have b3 := (HBr.out.cell (p := ⟨bb, ob + 3, none⟩) hbb).trans HB1.out.c3
        have hi1 : i ≤ 20000 := by
          have := len_nodesL x.kids
          have := x.nodes_eq
          omega
        by_cases hlt : i < x.kids.length
        · have hii : (i : Int) < (x.kids.length : Int) := by omega
          have hi0 : (0 : Int) ≤ (i : Int) := by omega
          have hBd := HBr.out.drew
          have na := (HNA.out i hlt).of (hBd.block _ hCa)
          have nb := (HNB.out i hlt).of (hBd.block _ (by omega))
          have la : LsS wr.drew (fun j => Free wr.drew j ∧ B ≤ j ∧ j < C) (vsa i) (x.kids.getD i Nd0).kids := LsS.of (HKA.out i hlt) (fun j hj => hBd.block _ hj.2.2) (fun j hj => ⟨hj.1.of (hBd.block _ hj.2.2), hj.2⟩)
          have lb := (HKB.out i hlt).of (fun j hj => hBd.block _ (by omega))
          have hMr := (hBd.block M hMC).trans HM1.out
          clear hBd
          have hsk := Nd.size_kid hlt
          have htk := nd_take hlt
          have hnk : nodesL (x.kids.take (i + 1)) ≤ nodesL x.kids := nodesL_take _ _
          rw [htk, nodesL_app] at hnk
          have HS2 : Hid (s1 + (x.kids.getD i Nd0).nodes ≤ s + 1 + nodesL (x.kids.take (i + 1))) := by
            show _ ≤ _
            have := HS1.out
            rw [htk, nodesL_app]
            omega
          have hs2 : s1 + (x.kids.getD i Nd0).nodes ≤ 20000 := by
            have := HS1.out
            have := x.nodes_eq
            omega
          have cE := ih (x.kids.getD i Nd0) (vsa i) (vsb i) ra (oa' + i * 5) rb (ob' + i * 5) C M k s1 B wr.drew (by have := HN.out; omega) na nb la lb HCr.out hMr hMC hCa (by omega) hBC hs2
          clear hsk htk hnk hs2 na nb la lb hMr
          go_upto_region 8 with fail
          go_still_tail 13, (by kernel_rfl)
          change wpList _ _ _ _ _ (World.drew _)
          go_wp2_with (go_at_call 21; refine cE.mono ?_; clear cE; rintro e w3 ⟨rfl, ⟨s3, hs3, hC3⟩, hb3⟩; have HS3 := Lib.hid hs3; have HC3 := Lib.hid hC3; clear hs3 hC3)
          go_roundg n
          case measure => omega
          case rel => exact ⟨i + 1, s3, by omega, by omega, by go_num, Nat.le_trans HS3.out HS2.out, HC3, HBr.out.drew.trans hb3⟩
        · have he : i = x.kids.length := by omega
          subst he
          go_wp2
          go_ret
          refine ⟨rfl, ⟨s1, ?_, HCr.out⟩, HBW.out.trans HBr.out⟩
          have h1 := HS1.out
          rw [List.take_length] at h1
          have := x.nodes_eq
          omega
end Go.Proofs.YthcoigdmammamaaGreatDoor
