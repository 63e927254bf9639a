/- The writer's node. -/
import Derived.Test.YthcoigdmammamaaGreatDoorS34
import Derived.Deep.Cut
import Derived.Deep.CutRange
namespace Go.Proofs.YthcoigdmammamaaGreatDoor
open Go.RowKit Go.Shelf Go.Sort
set_option maxRecDepth 100000

/-- The table of the kinds' names. -/
def NamT (w : World) : Prop := ∀ i, i < 75 → w.cell? ⟨0, i, none⟩ = some (.string (bs (knames.getD i [])))
theorem NamT.bel {w w' : World} {B : Nat} (h : NamT w) (hB : 0 < B) (hb : Below B w w') : NamT w' := fun i hi => (hb.cell (p := ⟨0, i, none⟩) hB).trans (h i hi)
set_option maxHeartbeats 1000000 in
theorem name_nam (k : Int) (w : World) (hG : NamT w) : Calls Tryz.prog 33 #[.int .i64 k] w fun e w' => e = .returned (.string (bs (nameM k))) ∧ w' = w := by
  by_cases h0 : k < 0
  · have e0 : decide (k < 0) = true := by simpa using h0
    have hn : nameM k = [] := by unfold nameM; rw [if_neg (by omega)]
    rw [hn]
    clear hn h0 hG
    go_enter Tryz.func33, Tryz.ntmps33
    go_wp2
    go_ret
    exact ⟨rfl, rfl⟩
  · by_cases h1 : 75 ≤ k
    · have e0 : decide (k < 0) = false := by simpa using h0
      have e1 : decide (75 ≤ k) = true := by simpa using h1
      have hn : nameM k = [] := by unfold nameM; rw [if_neg (by omega)]
      rw [hn]
      clear hn h0 h1 hG
      go_enter Tryz.func33, Tryz.ntmps33
      go_wp2
      go_ret
      exact ⟨rfl, rfl⟩
    · have e0 : decide (k < 0) = false := by simpa using h0
      have e1 : decide (75 ≤ k) = false := by simpa using h1
      obtain ⟨n, rfl⟩ : ∃ n : Nat, k = (n : Int) := ⟨k.toNat, by omega⟩
      have hn : nameM (n : Int) = knames.getD n [] := by unfold nameM; rw [if_pos (by omega)]; simp
      have hc := hG n (by omega)
      have h2 : (n : Int) < 75 := by omega
      have h3 : (0 : Int) ≤ (n : Int) := by omega
      rw [hn]
      clear hn h0 h1 hG
      go_enter Tryz.func33, Tryz.ntmps33
      go_wp2
      go_ret
      exact ⟨rfl, rfl⟩

/-- The words of a text and of a number in a text form. -/
def wText (t : ByteArray) : List UInt8 := if t.data.toList = [] then [] else [[32, 34], t.data.toList, [34]].flatten
def wNum (n : Int) : List UInt8 := if n = 0 then [] else [[32], Lib.decDigits n.toNat].flatten
mutual
/-- A text form, of a tree whose texts are plain and whose numbers are small. -/
def Nd.tf : Nd → List UInt8
  | .mk k t n l _ => [[40], nameM k].flatten ++ wText t ++ wNum n ++ tfL l ++ [[41]].flatten
def tfL : List Nd → List UInt8
  | [] => []
  | x :: r => [[32]].flatten ++ x.tf ++ tfL r
end
theorem Nd.tf_eq (x : Nd) : x.tf = [[40], nameM x.kind].flatten ++ wText x.text ++ wNum x.num ++ tfL x.kids ++ [[41]].flatten := by cases x; rw [Nd.tf]; rfl
theorem tfL_app (l : List Nd) (x : Nd) : tfL (l ++ [x]) = tfL l ++ [[32]].flatten ++ x.tf := by
  induction l with
  | nil => show [[32]].flatten ++ x.tf ++ tfL [] = [] ++ [[32]].flatten ++ x.tf; rw [tfL]; simp
  | cons y r ih => show [[32]].flatten ++ y.tf ++ tfL (r ++ [x]) = [[32]].flatten ++ y.tf ++ tfL r ++ [[32]].flatten ++ x.tf; rw [ih]; simp [List.append_assoc]
theorem tfL_take (l : List Nd) (i : Nat) : (tfL (l.take i)).length ≤ (tfL l).length := by
  induction l generalizing i with
  | nil => simp
  | cons x r ih =>
    cases i with
    | zero => simp [tfL]
    | succ i => rw [List.take_succ_cons, tfL, tfL]; simp only [List.length_append]; have := ih i; omega
/-- A node with a plain text and a small number. -/
def okN (z : Nd) : Prop := (∀ c ∈ z.text.data.toList, plainB c) ∧ 0 ≤ z.num ∧ z.num < 100
theorem Wr.alloc {w : World} {Wb : Nat} {t : List UInt8} (h : Wr w Wb t) (o : Obj) : Wr (w.alloc o) Wb t := by
  obtain ⟨v, h1, h2⟩ := h
  exact ⟨v, (Below.heap_alloc _ _ _ (lt_of_block h1)).trans h1, h2.alloc o⟩
theorem Wr.le {w : World} {Wb : Nat} {t : List UInt8} (h : Wr w Wb t) : Wb ≤ w.heap.size := by
  obtain ⟨v, h1, _⟩ := h
  exact Nat.le_of_lt (lt_of_block h1)
theorem Wr.bel {w w' : World} {Wb : Nat} {t : List UInt8} (h : Wr w Wb t) (hb : Below w.heap.size w w') : Wr w' Wb t := by
  obtain ⟨v, h1, h2⟩ := h
  refine ⟨v, (hb.block _ (lt_of_block h1)).trans h1, h2.1, ?_⟩
  rcases h2.2 with h | ⟨g, cap, cur, e, h3, hg, h4⟩
  · exact .inl h
  · exact .inr ⟨g, cap, cur, e, h3, (hb.block _ (lt_of_block hg)).trans hg, h4⟩
theorem put_new (Wb n : Nat) (t : List UInt8) (ls : List (List UInt8)) (w : World) (hW : Wr w Wb t) (hlen : t.length + ls.flatten.length ≤ 262144) (hll : ls.length ≤ 1000) (hn : ls.length = n) :
    Calls Tryz.prog 32 #[.pointer (some ⟨Wb, 0, none⟩), .slice (some ⟨w.heap.size, 0, none⟩) n n] (w.alloc (SB ls)) fun e w' => e = .returned (.tuple #[]) ∧ Wr w' Wb (t ++ ls.flatten) ∧ Below Wb w w' := by
  subst hn
  refine (put_any Wb w.heap.size ls.length t ls _ (hW.alloc _) (alloc_blk w _) hlen hll).mono ?_
  rintro e w' ⟨he, h1, h2⟩
  obtain ⟨v, hb, _⟩ := hW
  exact ⟨he, h1, ((Below.refl Wb w).alloc (Nat.le_of_lt (lt_of_block hb)) _).trans h2⟩

set_option maxHeartbeats 8000000 in
theorem node_any (Wb B : Nat) (hB : B ≤ Wb) (hB0 : 0 < Wb) (N : Nat) : ∀ (x : Nd) (b o : Nat) (v : Value) (t : List UInt8) (w : World), SizeOf.sizeOf x ≤ N → (∀ z ∈ x.pre, okN z) → NC w b o x v → Ls w B v x.kids → b < Wb → NamT w → Wr w Wb t → t.length + x.tf.length ≤ 100000 →
    Calls Tryz.prog 17 #[.pointer (some ⟨Wb, 0, none⟩), .pointer (some ⟨b, o, none⟩)] w fun e w' => e = .returned (.tuple #[]) ∧ Wr w' Wb (t ++ x.tf) ∧ Below Wb w w' := by
  induction N with
  | zero =>
    intro x b o v t w hK
    exfalso
    have h : 0 < SizeOf.sizeOf x := by cases x; simp; omega
    omega
  | succ N ih =>
    intro x b o v t w hK hq nc hl hb hN hW hlen
    obtain ⟨va, vc, rfl⟩ := hl.slice
    obtain ⟨q1, q2, q3⟩ := hq x (by rw [Nd.pre_eq]; exact List.mem_cons_self)
    have htf := x.tf_eq
    have hlt := congrArg List.length htf
    simp only [List.length_append] at hlt
    obtain ⟨l, hxl⟩ : ∃ l, x.text.data.toList = l := ⟨_, rfl⟩
    have hxt : x.text = bs l := by rw [← hxl]
    obtain ⟨m, hm⟩ : ∃ m : Nat, x.num = (m : Int) := ⟨x.num.toNat, by omega⟩
    have HTF := Lib.hid htf
    have HK := Lib.hid hK
    have HQ := Lib.hid hq
    have HNC := Lib.hid nc
    have HL := Lib.hid hl
    have HNM := Lib.hid hN
    have HW := Lib.hid hW
    have HLEN := Lib.hid hlen
    have HLT := Lib.hid hlt
    have HXT := Lib.hid hxt
    have HM := Lib.hid hm
    have HP := Lib.hid q1
    have HXL := Lib.hid hxl
    have k0 := nc.c0
    have cN := name_nam x.kind w hN
    have c1 : Calls Tryz.prog 32 #[.pointer (some ⟨Wb, 0, none⟩), .slice (some ⟨w.heap.size, 0, none⟩) 2 2] (w.alloc (.cells #[.string ⟨#[40]⟩, .string (bs (nameM x.kind))] 9)) _ := put_new Wb 2 t [[40], nameM x.kind] w hW (by omega) (by simp) rfl
    clear htf hK hq nc hl hN hW hlen hlt hxt hm q1 q2 q3 hxl
    go_enter Tryz.func17, Tryz.ntmps17
    go_wp2_with fail
    refine cN.mono ?_
    clear cN
    rintro e w' ⟨rfl, hq⟩
    obtain rfl := hq.symm
    go_wp2_with fail
    refine c1.mono ?_
    clear c1
    rintro e w1 ⟨rfl, hW1, hB1⟩
    have k1 := (HNC.out.of (hB1.block b hb)).c1
    rw [HXT.out] at k1
    have HW1 := Lib.hid hW1
    have HB1 := Lib.hid hB1
    clear k0 hW1 hB1
    go_upto_if 17 with fail
    go_cut [] from 18 to 25 (fun wx => Hid (Wr wx Wb (t ++ [[40], nameM x.kind].flatten ++ wText x.text)) ∧ Hid (Below Wb w wx))
    case first =>
      by_cases h0 : l = []
      · have HWT : Hid (wText x.text = []) := by show _ = _; unfold wText; rw [HXL.out, if_pos h0]
        subst h0
        go_wp2
        go_meet
        refine ⟨?_, HB1⟩
        show Wr _ _ _
        rw [HWT.out, List.append_nil]
        exact HW1.out
      · obtain ⟨c0, r0, rfl⟩ : ∃ c0 r0, l = c0 :: r0 := by
          cases l with
          | nil => exact absurd rfl h0
          | cons c0 r0 => exact ⟨c0, r0, rfl⟩
        have hwt : wText x.text = [[32, 34], c0 :: r0, [34]].flatten := by unfold wText; rw [HXL.out, if_neg h0]
        have hl1 : (wText x.text).length = (c0 :: r0).length + 3 := by rw [hwt]; simp
        have hle := HLEN.out
        have hlt := HLT.out
        have HWT := Lib.hid hwt
        have cE := escaped_ok (c0 :: r0) (by have h := HP.out; rw [HXL.out] at h; exact h) (by omega) w1
        have HL2 : Hid (t.length + [[40], nameM x.kind].flatten.length + ((c0 :: r0).length + 3) ≤ 100000) := by show _ ≤ _; omega
        clear h0 hwt hl1 hle hlt
        go_wp2_with fail
        refine cE.mono ?_
        clear cE
        rintro e w2 ⟨rfl, hB2⟩
        have hW2 : Wr w2 Wb (t ++ [[40], nameM x.kind].flatten) := HW1.out.bel hB2
        have hBB2 : Below Wb w w2 := HB1.out.trans (hB2.mono HW1.out.le)
        have c2 : Calls Tryz.prog 32 #[.pointer (some ⟨Wb, 0, none⟩), .slice (some ⟨w2.heap.size, 0, none⟩) 3 3] (w2.alloc (.cells #[.string ⟨#[32, 34]⟩, .string (bs (c0 :: r0)), .string ⟨#[34]⟩] 9)) _ := put_new Wb 3 _ [[32, 34], c0 :: r0, [34]] w2 hW2 (by have h := HL2.out; simp at h ⊢; omega) (by simp) rfl
        have HBB2 := Lib.hid hBB2
        clear hB2 hW2 hBB2
        go_wp2_with fail
        refine c2.mono ?_
        clear c2
        rintro e w3 ⟨rfl, hW3, hB3⟩
        have HW3 := Lib.hid hW3
        have HB3 := Lib.hid hB3
        clear hW3 hB3
        go_wp2
        go_meet
        refine ⟨?_, HBB2.out.trans HB3.out⟩
        show Wr _ _ _
        rw [HWT.out]
        exact HW3.out
    obtain ⟨HW4, HB4⟩ := hcut
    clear HW1 HB1 k1
    have k2 := (HNC.out.of (HB4.out.block b hb)).c2
    rw [HM.out] at k2
    go_upto_if 30 with fail
    obtain ⟨cc, hcc⟩ : ∃ cc, ((m : Int) != 0) = cc := ⟨_, rfl⟩
    rw [hcc]
    go_cut [] from 31 to 38 (fun wx => Hid (Wr wx Wb (t ++ [[40], nameM x.kind].flatten ++ wText x.text ++ wNum x.num)) ∧ Hid (Below Wb w wx))
    case first =>
      cases cc with
      | false =>
        have h0 : m = 0 := by simpa using hcc
        clear hcc
        subst h0
        have HWN : Hid (wNum x.num = []) := by show _ = _; rw [HM.out]; rfl
        go_wp2
        go_meet
        refine ⟨?_, HB4⟩
        show Wr _ _ _
        rw [HWN.out, List.append_nil]
        exact HW4.out
      | true =>
        have h0 : m ≠ 0 := by simpa using hcc
        clear hcc
        have hwn : wNum x.num = [[32], Lib.decDigits m].flatten := by
          unfold wNum
          rw [HM.out, if_neg (by omega)]
          rfl
        have hl1 : (wNum x.num).length = (Lib.decDigits m).length + 1 := by rw [hwn]; simp
        have hle := HLEN.out
        have hlt := HLT.out
        have hm100 : m < 100 := by
          have h := (HQ.out x (by rw [Nd.pre_eq]; exact List.mem_cons_self)).2.2
          rw [HM.out] at h
          omega
        have HWN := Lib.hid hwn
        have cF := Tryz.strconv_FormatInt_10_small m hm100 wc
        have c2 : Calls Tryz.prog 32 #[.pointer (some ⟨Wb, 0, none⟩), .slice (some ⟨wc.heap.size, 0, none⟩) 2 2] (wc.alloc (.cells #[.string ⟨#[32]⟩, .string (bs (Lib.decDigits m))] 9)) _ := put_new Wb 2 _ [[32], Lib.decDigits m] wc HW4.out (by rw [← hwn]; simp only [List.length_append]; omega) (by simp) rfl
        clear hwn hl1 hle hlt h0 hm100
        go_wp2_with fail
        refine cF.mono ?_
        clear cF
        rintro e w2 ⟨rfl, hq⟩
        obtain rfl := hq.symm
        go_wp2_with fail
        refine c2.mono ?_
        clear c2
        rintro e w3 ⟨rfl, hW3, hB3⟩
        have HW3 := Lib.hid hW3
        have HB3 := Lib.hid hB3
        clear hW3 hB3
        go_wp2
        go_meet
        refine ⟨?_, HB4.out.trans HB3.out⟩
        show Wr _ _ _
        rw [HWN.out]
        exact HW3.out
    clear HW4 HB4 k2
    obtain ⟨HW5, HB5⟩ := hcut
    obtain ⟨hd, hhd⟩ : ∃ hd, hd = t ++ [[40], nameM x.kind].flatten ++ wText x.text ++ wNum x.num := ⟨_, rfl⟩
    have HHD : Hid (t ++ x.tf = hd ++ tfL x.kids ++ [[41]].flatten) := by
      show _ = _
      rw [HTF.out, hhd]
      simp only [List.append_assoc]
    have HBD : Hid (hd.length + (tfL x.kids).length + 1 ≤ 100000) := by
      show _ ≤ _
      have h1 := congrArg List.length HHD.out
      have h2 := HLEN.out
      simp only [List.length_append] at h1
      have h3 : ([[41]] : List (List UInt8)).flatten.length = 1 := rfl
      omega
    have HW6 : Hid (Wr wc Wb (hd ++ tfL (x.kids.take 0))) := by
      show Wr _ _ _
      rw [List.take_zero, tfL, List.append_nil, hhd]
      exact HW5.out
    clear HW5 hhd HTF HLEN HLT
    have k3 := (HNC.out.of (HB5.out.block b hb)).c3
    go_wp2
    clear k3
    go_loopg [44] (x.kids.length + 1) (fun n y wr => ∃ i : Nat, i ≤ x.kids.length ∧ x.kids.length - i < n ∧ y = .int .i64 i ∧ Hid (Wr wr Wb (hd ++ tfL (x.kids.take i))) ∧ Hid (Below Wb w wr))
    case atStart => exact ⟨0, by omega, by omega, rfl, HW6, HB5⟩
    case round =>
      obtain ⟨i, hi1, hgk, rfl, HWr, HBr⟩ := hrel
      obtain ⟨n, rfl⟩ : ∃ n, gk = n + 1 := ⟨gk - 1, by omega⟩
      by_cases hlt : i < x.kids.length
      · obtain ⟨kb, koff, vs, rfl, hkb, hkc, hkn, hkl⟩ := HL.out.row_of (by omega)
        have hii : (i : Int) < (x.kids.length : Int) := by omega
        have hi0 : (0 : Int) ≤ (i : Int) := by omega
        have hsz := Nd.size_kid hlt
        have hkq := pre_kid x x (by rw [Nd.pre_eq]; exact List.mem_cons_self) i hlt
        have hknc := hkn i hlt
        have hkls := hkl i hlt
        have htk := nd_take hlt
        have htl := tfL_take x.kids (i + 1)
        clear hkn hkl
        generalize vs i = kv at *
        generalize x.kids.getD i Nd0 = k at *
        have hta := tfL_app (x.kids.take i) k
        rw [← htk] at hta
        rw [hta] at htl
        simp only [List.length_append] at htl
        have h3 : ([[32]] : List (List UInt8)).flatten.length = 1 := rfl
        have hbd := HBD.out
        have hi2 : i ≤ 100000 := by
          have h1 : ∀ l : List Nd, l.length ≤ (tfL l).length := by
            intro l
            induction l with
            | nil => simp
            | cons y r ih => rw [tfL]; simp only [List.length_append, List.length_cons]; simp; omega
          have := h1 x.kids
          omega
        obtain ⟨v0, hbk, ho⟩ := HWr.out
        have p1 := blk_cell hbk 1
        have c1 : Calls Tryz.prog 32 #[.pointer (some ⟨Wb, 0, none⟩), .slice (some ⟨wr.heap.size, 0, none⟩) 1 1] (wr.alloc (.cells #[.string ⟨#[32]⟩] 9)) _ := put_new Wb 1 _ [[32]] wr HWr.out (by simp only [List.length_append]; omega) (by simp) rfl
        have HTA := Lib.hid hta
        have HKQ := Lib.hid hkq
        have HKNC := Lib.hid hknc
        have HKLS := Lib.hid hkls
        have HSZ : Hid (SizeOf.sizeOf k ≤ N) := by show _ ≤ _; have := HK.out; omega
        have HBK2 : Hid (hd.length + (tfL (x.kids.take i)).length + 1 + k.tf.length ≤ 100000) := by show _ ≤ _; omega
        clear hta hkq hknc hkls htk htl hbd h3 hsz hbk ho
        go_wp2_with fail
        refine c1.mono ?_
        clear c1 p1
        rintro e w2 ⟨rfl, hW2, hB2⟩
        have hB2' := HBr.out.trans hB2
        have k3 := (HNC.out.of (hB2'.block b hb)).c3
        have cR := ih k kb (koff + i * 5) kv _ w2 HSZ.out (fun z hz => HQ.out z (pre_sub k x HKQ.out z hz)) (HKNC.out.of (hB2'.block kb (by omega))) (HKLS.out.bel (hB2'.mono hB)) (by omega) (HNM.out.bel hB0 hB2') hW2 (by have h := HBK2.out; simp at h ⊢; omega)
        have HB2 := Lib.hid hB2'
        clear hW2 hB2 hB2'
        go_wp2_with fail
        refine cR.mono ?_
        clear cR
        rintro e w3 ⟨rfl, hW3, hB3⟩
        have HW3 : Hid (Wr w3 Wb (hd ++ tfL (x.kids.take (i + 1)))) := by
          show Wr _ _ _
          rw [HTA.out]
          simp only [List.append_assoc] at hW3 ⊢
          exact hW3
        have HB3 : Hid (Below Wb w w3) := HB2.out.trans hB3
        clear hW3 hB3 k3
        go_wp2
        go_roundg n
        case measure => omega
        case rel => exact ⟨i + 1, by omega, by omega, by go_num, HW3, HB3⟩
      · have he : i = x.kids.length := by omega
        subst he
        have hw := HWr.out
        rw [List.take_length] at hw
        have hbd := HBD.out
        have c1 : Calls Tryz.prog 32 #[.pointer (some ⟨Wb, 0, none⟩), .slice (some ⟨wr.heap.size, 0, none⟩) 1 1] (wr.alloc (.cells #[.string ⟨#[41]⟩] 9)) _ := put_new Wb 1 _ [[41]] wr hw (by simp only [List.length_append]; simp; omega) (by simp) rfl
        clear hw hbd
        go_wp2_with fail
        refine c1.mono ?_
        clear c1
        rintro e w3 ⟨rfl, hW3, hB3⟩
        have HW3 := Lib.hid hW3
        have HB3 := Lib.hid hB3
        clear hW3 hB3
        go_wp2
        go_end0
        refine ⟨rfl, ?_, HBr.out.trans HB3.out⟩
        rw [HHD.out]
        exact HW3.out
end Go.Proofs.YthcoigdmammamaaGreatDoor
