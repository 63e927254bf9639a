/- The walk of all, of badText. -/
import Derived.Test.YtkfkgdkfgpofnaaDoorG2
import Derived.StillTailTactics
namespace Go.Proofs.YtkfkgdkfgpofnaaDoor
open Go.RowKit
set_option maxRecDepth 100000

/-- The tokens from a place on at which a token begins, or the end. -/
def mallF (s : ByteArray) : Nat → St → Except Flt St
  | 0, _ => .error (0, 0)
  | n + 1, t =>
    if t.p < s.size then
      match mtok s t with
      | .error f => .error f
      | .ok t1 => match mskip s t1.p t1.l t1.g with
        | .error a => .error (a, 27)
        | .ok (p, l, g) => mallF s n { t1 with p := p, l := l, g := g }
    else match t.op.getLast? with
      | none => .ok t
      | some br => .error (br.at_, 27)
def mall (s : ByteArray) (t : St) : Except Flt St :=
  match mskip s t.p t.l t.g with
  | .error a => .error (a, 27)
  | .ok (p, l, g) => mallF s (s.size + 1) { t with p := p, l := l, g := g }

theorem skip_st (b : Nat) (s : ByteArray) (w0 : World) (t : St) (w : World) (hT : Tab w0) (hb0 : 0 < b) (h : Sd b s w0 w t) (hk : t.Good s) (hs : s.size < 100000) :
    Calls Tryd.prog 16 #[.pointer (some ⟨b, 0, none⟩)] w (Tk b s w0 (match mskip s t.p t.l t.g with
      | .error a => .error (a, 27)
      | .ok (p, l, g) => .ok { t with p := p, l := l, g := g })) := by
  obtain ⟨vo, vp, hr⟩ := h
  refine (skip_any b s t.p t.l t.g vo vp w (hr.tab hT hb0) hb0 hr.blk hk.p hk.l hk.g (by omega)).mono fun e w' hh => ?_
  unfold Mv at hh
  split at hh
  · rename_i p l g hm
    rw [hm]
    exact ⟨hh.1, vo, vp, hr.mv hh.2.1 hh.2.2⟩
  · rename_i a hm
    rw [hm]
    exact ⟨hh.1, hr.fr hh.2⟩

theorem enter_scan (c : Int) (v : Value) (w : World) : (callFunc (scanF c) #[v]).run Tryd.prog w = .ok (.enter (scanF c) #[v]) w := by
  unfold scanF
  split
  · kernel_rfl
  · split
    · kernel_rfl
    · split
      · kernel_rfl
      · split
        · kernel_rfl
        · split
          · kernel_rfl
          · split
            · kernel_rfl
            · split
              · kernel_rfl
              · split
                · kernel_rfl
                · split
                  · kernel_rfl
                  · kernel_rfl

set_option maxHeartbeats 2000000 in
theorem all_any (b : Nat) (s : ByteArray) (w0 : World) (t : St) (w : World) (hT : Tab w0) (hb0 : 0 < b) (h : Sd b s w0 w t) (hk : t.Good s) (hs : s.size < 100000) :
    Calls Tryd.prog 12 #[.pointer (some ⟨b, 0, none⟩)] w (Tk b s w0 (mall s t)) := by
  have HS := Lib.hid h
  have HT0 := Lib.hid hT
  have HG := Lib.hid hk
  clear hT h hk
  go_enter Tryd.func12, Tryd.ntmps12
  go_wp2_with fail
  refine (skip_st b s w0 t _ HT0.out hb0 HS.out HG.out hs).mono ?_
  intro e1 w1 h1
  rcases hm : mskip s t.p t.l t.g with a | ⟨p, l, g⟩
  · rw [hm] at h1
    obtain ⟨rfl, hf1⟩ := h1
    refine ⟨rfl, ?_⟩
    unfold mall
    rw [hm]
    exact ⟨rfl, hf1⟩
  · rw [hm] at h1
    obtain ⟨rfl, hf1⟩ := h1
    have HF := Lib.hid hf1
    have hbd := mskip_bd s t.p t.l t.g p l g hm HG.out.p HG.out.l HG.out.g
    have HG1 : Hid (St.Good { t with p := p, l := l, g := g } s) := ⟨hbd.2.1, hbd.2.2.1, hbd.2.2.2, by have := HG.out.out; show t.out.length ≤ 2 * p; omega, HG.out.op⟩
    have HR : Hid (mall s t = mallF s (s.size + 1) { t with p := p, l := l, g := g }) := by show mall s t = _; unfold mall; rw [hm]
    clear hf1 hm hbd
    go_wp2
    go_loopg [] (s.size + 1) (fun n wr => ∃ (u : St), Hid (s.size - u.p < n) ∧ Hid (u.Good s) ∧ Hid (mallF s n u = mall s t) ∧ Hid (Sd b s w0 wr u))
    case atStart => exact ⟨_, (by show s.size - p < s.size + 1; omega), HG1, HR.out.symm, HF⟩
    case round =>
      obtain ⟨u, HN, HGu, HK, HD⟩ := hrel
      obtain ⟨n, rfl⟩ : ∃ n, gk = n + 1 := ⟨gk - 1, by have := HN.out; omega⟩
      obtain ⟨vo, vp, hr⟩ := HD.out
      obtain ⟨va, vc, rfl⟩ := own_slice hr.ownp
      obtain ⟨c0, c1, c2, c3, c4, c5, f1, f2, f3, f4, f5⟩ := rc hr.blk
      have HB := Lib.hid hr.blk
      clear hr
      by_cases hlt : u.p < s.size
      · have hlti : (u.p : Int) < s.size := by omega
        have HK1 : Hid ((match mtok s u with
            | .error f => .error f
            | .ok t1 => match mskip s t1.p t1.l t1.g with
              | .error a => .error (a, 27)
              | .ok (p, l, g) => mallF s n { t1 with p := p, l := l, g := g }) = mall s t) := by
          have := HK.out; simp only [mallF, hlt, if_true] at this; exact this
        go_wp2
        go_quiet (fail)
        go_wp2_with fail
        refine (scanner_any b s u.p u.l u.g vo _ (wr.drewN nq) ((HD.out.drewN nq).tab HT0.out hb0) (by exact HB.out) hlt (by omega)).mono ?_
        rintro e2 w2 ⟨rfl, m, rfl⟩
        have hes := enter_scan (cls (bt s u.p)) (.pointer (some ⟨b, 0, none⟩))
        go_wp2_with fail
        refine (tok_any b s w0 u _ HT0.out hb0 (HD.out.drewN (nq + m)) HGu.out hs hlt).mono ?_
        intro e3 w3 h3
        clear hes
        rcases hm : mtok s u with f | t1
        · have HR1 : Hid (mall s t = .error f) := by have := HK1.out; rw [hm] at this; exact this.symm
          rw [hm] at h3
          obtain ⟨rfl, hf3⟩ := h3
          refine ⟨rfl, ?_⟩
          rw [HR1.out]
          exact ⟨rfl, hf3⟩
        · have HR1 : Hid ((match mskip s t1.p t1.l t1.g with
              | .error a => .error (a, 27)
              | .ok (p, l, g) => mallF s n { t1 with p := p, l := l, g := g }) = mall s t) := by have := HK1.out; rw [hm] at this; exact this
          have hgd := mtok_good s u t1 HGu.out hlt hm
          rw [hm] at h3
          obtain ⟨rfl, hf3⟩ := h3
          have HF3 := Lib.hid hf3
          have HG3 := Lib.hid hgd
          clear hf3 hm hgd c0 c1 c2 c3 c4 c5 f1 f2 f3 f4 f5
          go_wp2_with fail
          refine (skip_st b s w0 t1 _ HT0.out hb0 HF3.out HG3.out.1 hs).mono ?_
          intro e4 w4 h4
          rcases hm : mskip s t1.p t1.l t1.g with a | ⟨p, l, g⟩
          · rw [hm] at h4
            obtain ⟨rfl, hf4⟩ := h4
            refine ⟨rfl, ?_⟩
            rw [← HR1.out, hm]
            exact ⟨rfl, hf4⟩
          · have HR2 : Hid (mallF s n { t1 with p := p, l := l, g := g } = mall s t) := by have := HR1.out; rw [hm] at this; exact this
            rw [hm] at h4
            obtain ⟨rfl, hf4⟩ := h4
            have HF4 := Lib.hid hf4
            have hbd := mskip_bd s t1.p t1.l t1.g p l g hm HG3.out.1.p HG3.out.1.l HG3.out.1.g
            have HG4 : Hid (St.Good { t1 with p := p, l := l, g := g } s ∧ s.size - p < n) := by
              show _ ∧ _
              refine ⟨⟨hbd.2.1, hbd.2.2.1, hbd.2.2.2, by have := HG3.out.1.out; show t1.out.length ≤ 2 * p; omega, HG3.out.1.op⟩, ?_⟩
              have h1 := HN.out
              have h2 := HG3.out.2
              omega
            clear hf4 hm hbd
            go_wp2
            go_roundg n
            case measure => omega
            case rel => exact ⟨{ t1 with p := p, l := l, g := g }, Lib.hid HG4.out.2, HG4.out.1, HR2, HF4⟩
      · have hge : decide ((u.p : Int) < s.size) = false := by simp; omega
        have HK1 : Hid ((match u.op.getLast? with
            | none => .ok u
            | some br => .error (br.at_, 27)) = mall s t) := by
          have := HK.out; simp only [mallF, hlt, if_false] at this; exact this
        rcases List.eq_nil_or_concat u.op with hnil | ⟨op', br, hop⟩
        · have HR1 : Hid (mall s t = .ok u) := by have := HK1.out; rw [hnil] at this; exact this.symm
          rw [hnil, List.length_nil] at c5
          clear hnil
          go_wp2
          go_quiet (fail)
          go_wp2
          go_end0
          rw [HR1.out]
          exact ⟨rfl, HD.out.drewN _⟩
        · rw [List.concat_eq_append] at hop
          have HR1 : Hid (mall s t = .error (br.at_, 27)) := by
            have := HK1.out; rw [hop] at this
            simp only [List.getLast?_append, List.getLast?_singleton, Option.or_some, Option.some_or] at this
            exact this.symm
          have hl : (op' ++ [br]).length = op'.length + 1 := by simp
          have hlen : op'.length + 1 ≤ 64 := by have := HGu.out.op; rw [hop, hl] at this; exact this
          clear c0 c1 c2 c3 c4 c5 f1 f2 f3 f4 f5 HB
          obtain ⟨vo2, vp2, hr2⟩ := HD.out
          rw [hop] at hr2
          obtain ⟨gg, vc2, rfl, hgg, hgl⟩ := hr2.ownp.form (by simp)
          obtain ⟨d0, d1, d2⟩ := hr2.last
          obtain ⟨c0, c1, c2, c3, c4, c5, f1, f2, f3, f4, f5⟩ := rc hr2.blk
          rw [hl] at c5
          clear hop hl hr2
          have t1 : IntKind.i64.wrap ((op'.length : Int) + 1 - 1) = (op'.length : Int) := by rw [IntWalk.i64_in _ (by omega)]; omega
          go_wp2
          go_quiet (fail)
          go_wp2_with (go_at_call 18; refine (fail_any _ _ _).mono ?_; rintro e w' ⟨rfl, rfl⟩)
          refine ⟨rfl, ?_⟩
          rw [HR1.out]
          exact ⟨rfl, (HD.out.drewN _).bel⟩
end Go.Proofs.YtkfkgdkfgpofnaaDoor
