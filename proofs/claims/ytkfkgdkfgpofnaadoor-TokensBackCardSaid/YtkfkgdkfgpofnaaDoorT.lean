/- A blank put into a text: what the models of the scanners come to, in front of it and behind it. No program. -/
import Derived.Test.YtkfkgdkfgpofnaaDoorG3
import Derived.Test.YtkfkgdkfgpofnaaDoorG5
import Derived.Test.YtkfkgdkfgpofnaaDoorG6
import Derived.Test.YtkfkgdkfgpofnaaDoorH5
/- A text with a blank put in: what stands behind it is read as before, one place later. No program. -/
namespace Go.Proofs.YtkfkgdkfgpofnaaDoor
open Go.RowKit

/-- The second text is the first one with one byte more somewhere in front of a: from a on they are the same, one place later. -/
structure Sh (s u : ByteArray) (a : Nat) : Prop where
  size : u.size = s.size + 1
  suf : ∀ p, a ≤ p → u.data.toList.drop (p + 1) = s.data.toList.drop p
section
variable {s u : ByteArray} {a : Nat}
theorem bt_drop (s : ByteArray) (q : Nat) : bt s q = ((s.data.toList.drop q).getD 0 0).toNat := by
  unfold bt
  rw [List.getD_eq_getElem?_getD, List.getD_eq_getElem?_getD, List.getElem?_drop, Nat.add_zero]
theorem Sh.bt (h : Sh s u a) {p : Nat} (hp : a ≤ p) : bt u (p + 1) = bt s p := by rw [bt_drop, bt_drop, h.suf p hp]
theorem Sh.ah (h : Sh s u a) {p : Nat} (hp : a ≤ p) (m : ByteArray) : ah u (p + 1) m = ah s p m := by
  unfold Go.Proofs.YtkfkgdkfgpofnaaDoor.ah
  rw [h.suf p hp]
theorem Sh.sub (h : Sh s u a) {p q : Nat} (hp : a ≤ p) : u.extract (p + 1) (q + 1) = s.extract p q := by
  apply ByteArray.ext
  apply Array.toList_inj.mp
  rw [ByteArray.data_extract, ByteArray.data_extract, Array.toList_extract, Array.toList_extract, List.extract_eq_take_drop, List.extract_eq_take_drop, h.suf p hp]
  congr 1
  omega
theorem Sh.mono (h : Sh s u a) {b : Nat} (hb : a ≤ b) : Sh s u b := ⟨h.size, fun p hp => h.suf p (Nat.le_trans hb hp)⟩

theorem Sh.wEndF (h : Sh s u a) (n : Nat) : ∀ p, a ≤ p → wEndF u n (p + 1) = wEndF s n p + 1 := by
  induction n with
  | zero => intro p _; rfl
  | succ n ih =>
    intro p hp
    rw [Go.Proofs.YtkfkgdkfgpofnaaDoor.wEndF, Go.Proofs.YtkfkgdkfgpofnaaDoor.wEndF, h.size]
    simp only [Nat.add_lt_add_iff_right, h.bt hp]
    split
    · exact ih (p + 1) (by omega)
    · rfl
theorem Sh.wEnd (h : Sh s u a) {p : Nat} (hp : a ≤ p) : wEnd u (p + 1) = wEnd s p + 1 := by
  unfold Go.Proofs.YtkfkgdkfgpofnaaDoor.wEnd
  rw [h.wEndF _ p hp, h.size]
  rw [show s.size + 1 - (p + 1) + 1 = s.size - p + 1 from by omega]
theorem Sh.nEndF (h : Sh s u a) (n : Nat) : ∀ p, a ≤ p → nEndF u n (p + 1) = nEndF s n p + 1 := by
  induction n with
  | zero => intro p _; rfl
  | succ n ih =>
    intro p hp
    rw [Go.Proofs.YtkfkgdkfgpofnaaDoor.nEndF, Go.Proofs.YtkfkgdkfgpofnaaDoor.nEndF, h.size]
    simp only [Nat.add_lt_add_iff_right, h.bt hp]
    split
    · exact ih (p + 1) (by omega)
    · rfl
theorem Sh.nEnd (h : Sh s u a) {p : Nat} (hp : a ≤ p) : nEnd u (p + 1) = nEnd s p + 1 := by
  unfold Go.Proofs.YtkfkgdkfgpofnaaDoor.nEnd
  rw [h.nEndF _ p hp, h.size]
  rw [show s.size + 1 - (p + 1) + 1 = s.size - p + 1 from by omega]
theorem Sh.lcEndF (h : Sh s u a) (n : Nat) : ∀ p, a ≤ p → lcEndF u n (p + 1) = lcEndF s n p + 1 := by
  induction n with
  | zero => intro p _; rfl
  | succ n ih =>
    intro p hp
    rw [Go.Proofs.YtkfkgdkfgpofnaaDoor.lcEndF, Go.Proofs.YtkfkgdkfgpofnaaDoor.lcEndF, h.size]
    simp only [Nat.add_lt_add_iff_right, h.bt hp]
    split
    · exact ih (p + 1) (by omega)
    · rfl
theorem Sh.lcEnd (h : Sh s u a) {p : Nat} (hp : a ≤ p) : lcEnd u (p + 1) = lcEnd s p + 1 := by
  unfold Go.Proofs.YtkfkgdkfgpofnaaDoor.lcEnd
  rw [h.lcEndF _ p hp, h.size]
  rw [show s.size + 1 - (p + 1) + 1 = s.size - p + 1 from by omega]
theorem Sh.opB (h : Sh s u a) {p : Nat} (hp : a ≤ p) : opB u (p + 1) = opB s p := by
  unfold Go.Proofs.YtkfkgdkfgpofnaaDoor.opB
  rw [h.bt hp, h.ah hp, h.ah hp]
  congr 3
  simp [h.size]
theorem Sh.oEndF (h : Sh s u a) (n : Nat) : ∀ p, a ≤ p → oEndF u n (p + 1) = oEndF s n p + 1 := by
  induction n with
  | zero => intro p _; rfl
  | succ n ih =>
    intro p hp
    rw [Go.Proofs.YtkfkgdkfgpofnaaDoor.oEndF, Go.Proofs.YtkfkgdkfgpofnaaDoor.oEndF, h.opB hp]
    split
    · exact ih (p + 1) (by omega)
    · rfl
theorem Sh.oEnd (h : Sh s u a) {p : Nat} (hp : a ≤ p) : oEnd u (p + 1) = oEnd s p + 1 := by
  unfold Go.Proofs.YtkfkgdkfgpofnaaDoor.oEnd
  rw [h.oEndF _ p hp, h.size]
  rw [show s.size + 1 - (p + 1) + 1 = s.size - p + 1 from by omega]
theorem Sh.mhex (h : Sh s u a) {p : Nat} (hp : a ≤ p) : mhex u (p + 1) = mhex s p := by
  unfold Go.Proofs.YtkfkgdkfgpofnaaDoor.mhex
  rw [h.size]
  simp only [Nat.add_lt_add_iff_right, h.bt hp]
/-- A value and a place, one place later. -/
def later1 (r : Option (Int × Nat)) : Option (Int × Nat) := r.map fun x => (x.1, x.2 + 1)
theorem Sh.mescape (h : Sh s u a) {p : Nat} (hp : a ≤ p) : mescape u (p + 1) = later1 (mescape s p) := by
  unfold Go.Proofs.YtkfkgdkfgpofnaaDoor.mescape
  rw [h.size]
  simp only [Nat.add_lt_add_iff_right, h.bt hp, show p + 1 + 2 = (p + 2) + 1 from rfl, show p + 1 + 3 = (p + 3) + 1 from rfl, h.mhex (p := p + 1) (by omega), h.mhex (p := p + 2) (by omega)]
  split
  · split
    · rfl
    · split
      · rfl
      · split
        · rfl
        · split
          · rcases Go.Proofs.YtkfkgdkfgpofnaaDoor.mhex s (p + 1) with _ | x
            · rfl
            · simp only
              rcases Go.Proofs.YtkfkgdkfgpofnaaDoor.mhex s (p + 2) with _ | y
              · rfl
              · rfl
          · rfl
  · rfl
theorem Sh.mchar (h : Sh s u a) {p : Nat} (hp : a ≤ p) : mchar u (p + 1) = later1 (mchar s p) := by
  unfold Go.Proofs.YtkfkgdkfgpofnaaDoor.mchar
  rw [h.bt hp, h.mescape (p := p + 1) (by omega)]
  split
  · rfl
  · split <;> rfl
end
section
variable {s u : ByteArray} {a : Nat}
/-- Outcomes that differ in places alone. -/
def Com1 (r : Option (Nat × Nat × Nat)) (r' : Option (Nat × Nat × Nat)) : Prop :=
  match r with
  | none => r' = none
  | some x => ∃ g', r' = some (x.1 + 1, x.2.1, g')
theorem Sh.mcomF (h : Sh s u a) (n : Nat) : ∀ (p : Nat) (d : Int) (l g g' : Nat), a ≤ p → Com1 (mcomF s n p d l g) (mcomF u n (p + 1) d l g') := by
  induction n with
  | zero => intro p d l g g' _; rfl
  | succ n ih =>
    intro p d l g g' hp
    rw [Go.Proofs.YtkfkgdkfgpofnaaDoor.mcomF, Go.Proofs.YtkfkgdkfgpofnaaDoor.mcomF, h.size]
    simp only [Nat.add_lt_add_iff_right, h.bt hp, h.ah hp]
    split
    · split
      · exact ih (p + 2) (d + 1) l g g' (by omega)
      · split
        · split
          · exact ⟨g', rfl⟩
          · exact ih (p + 2) (d - 1) l g g' (by omega)
        · split
          · exact ih (p + 1) d (l + 1) (p + 1) (p + 1 + 1) (by omega)
          · exact ih (p + 1) d l g g' (by omega)
    · rfl
/-- .. with faults. -/
def Skip1 (r : Except Int (Nat × Nat × Nat)) (r' : Except Int (Nat × Nat × Nat)) : Prop :=
  match r with
  | .error _ => ∃ e', r' = .error e'
  | .ok x => ∃ g', r' = .ok (x.1 + 1, x.2.1, g')
theorem Sh.mcom (h : Sh s u a) {p l g g' : Nat} (hp : a ≤ p) : Skip1 (mcom s p l g) (mcom u (p + 1) l g') := by
  unfold Go.Proofs.YtkfkgdkfgpofnaaDoor.mcom
  have hh := h.mcomF (s.size - p + 1) p 0 l g g' hp
  rw [h.size, show s.size + 1 - (p + 1) + 1 = s.size - p + 1 from by omega]
  rcases hq : Go.Proofs.YtkfkgdkfgpofnaaDoor.mcomF s (s.size - p + 1) p 0 l g with _ | x
  · rw [hq] at hh
    rw [show Go.Proofs.YtkfkgdkfgpofnaaDoor.mcomF u (s.size - p + 1) (p + 1) 0 l g' = none from hh]
    exact ⟨_, rfl⟩
  · rw [hq] at hh
    obtain ⟨g2, hg⟩ := hh
    rw [hg]
    exact ⟨_, rfl⟩
theorem Sh.mskipF (h : Sh s u a) (n : Nat) : ∀ (p l g g' : Nat), a ≤ p → p ≤ s.size → l ≤ p → g ≤ p → Skip1 (mskipF s n p l g) (mskipF u n (p + 1) l g') := by
  induction n with
  | zero => intro p l g g' _ _ _ _; exact ⟨_, rfl⟩
  | succ n ih =>
    intro p l g g' hp hs hl hg
    rw [Go.Proofs.YtkfkgdkfgpofnaaDoor.mskipF, Go.Proofs.YtkfkgdkfgpofnaaDoor.mskipF, h.size]
    simp only [Nat.add_lt_add_iff_right, h.bt hp, h.ah hp]
    split
    · rename_i hlt
      split
      · exact ih (p + 1) (l + 1) (p + 1) (p + 1 + 1) (by omega) (by omega) (by omega) (by omega)
      · split
        · exact ih (p + 1) l g g' (by omega) (by omega) (by omega) (by omega)
        · split
          · rw [h.lcEnd hp]
            have hb := lcEnd_bd s p hs
            exact ih (Go.Proofs.YtkfkgdkfgpofnaaDoor.lcEnd s p) l g g' (by omega) hb.2 (by omega) (by omega)
          · split
            · have hh := h.mcom (p := p) (l := l) (g := g) (g' := g') hp
              rcases hm : Go.Proofs.YtkfkgdkfgpofnaaDoor.mcom s p l g with e | ⟨p2, l2, g2⟩
              · rw [hm] at hh
                obtain ⟨e', he⟩ := hh
                rw [he]
                exact ⟨_, rfl⟩
              · have hb := mcom_bd s _ _ _ _ _ _ hm hs hl hg
                rw [hm] at hh
                obtain ⟨g3, he⟩ := hh
                rw [he]
                exact ih p2 l2 g2 g3 (by omega) (by omega) (by omega) (by omega)
            · exact ⟨g', rfl⟩
    · exact ⟨g', rfl⟩
theorem Sh.mskip (h : Sh s u a) {p l g g' : Nat} (hp : a ≤ p) (hs : p ≤ s.size) (hl : l ≤ p) (hg : g ≤ p) : Skip1 (mskip s p l g) (mskip u (p + 1) l g') := by
  unfold Go.Proofs.YtkfkgdkfgpofnaaDoor.mskip
  rw [h.size, show s.size + 1 - (p + 1) + 1 = s.size - p + 1 from by omega]
  exact h.mskipF _ p l g g' hp hs hl hg
/-- The value of a literal and its end, one place later. -/
def laterQ (r : Option (List Int × Nat)) : Option (List Int × Nat) := r.map fun x => (x.1, x.2 + 1)
theorem Sh.mquotF (h : Sh s u a) (stops : ByteArray) (n : Nat) : ∀ (p : Nat) (acc : List Int), a ≤ p → mquotF u stops n (p + 1) acc = laterQ (mquotF s stops n p acc) := by
  induction n with
  | zero => intro p acc _; rfl
  | succ n ih =>
    intro p acc hp
    rw [Go.Proofs.YtkfkgdkfgpofnaaDoor.mquotF, Go.Proofs.YtkfkgdkfgpofnaaDoor.mquotF, h.size]
    simp only [Nat.add_lt_add_iff_right, h.bt hp, h.mchar hp]
    split
    · rename_i hlt
      split
      · rcases hm : Go.Proofs.YtkfkgdkfgpofnaaDoor.mchar s p with _ | ⟨v, q⟩
        · rfl
        · have hq := mchar_bd s p v q hlt hm
          exact ih q (acc ++ [v]) (by omega)
      · rfl
    · rfl
theorem Sh.mquoted (h : Sh s u a) {p : Nat} (hp : a ≤ p) (stops : ByteArray) : mquoted u (p + 1) stops = laterQ (mquoted s p stops) := by
  unfold Go.Proofs.YtkfkgdkfgpofnaaDoor.mquoted
  rw [h.size, show s.size + 1 - (p + 1) + 1 = s.size - p + 1 from by omega]
  exact h.mquotF stops _ p [] hp
end
section
variable {s u : ByteArray} {a k : Nat} {t t' t1 : St}
/-- What of a token does not change its place. -/
def pr0 (x : Tok) : Int × ByteArray × Int × Int := (x.kind, x.text, x.line, x.at_)
def pr1 (x : Tok) : Int × ByteArray × Int × Int := (x.kind, x.text, x.line, x.at_ + 1)
def prb (b : Br) : Nat × Bool := (b.closer, b.inside)
/-- The reader in the second text, one place later; the first k tokens are the same. -/
structure Rt (k : Nat) (t t' : St) : Prop where
  p : t'.p = t.p + 1
  l : t'.l = t.l
  out : ∃ A B B', t.out = A ++ B ∧ t'.out = A ++ B' ∧ B'.map pr0 = B.map pr1 ∧ A.length = k
  op : t'.op.map prb = t.op.map prb
theorem Rt.len (h : Rt k t t') : t'.op.length = t.op.length := by have := congrArg List.length h.op; simpa using this
theorem Rt.put (h : Rt k t t') (c : Int) (x : ByteArray) (st en : Nat) : Rt k (t.put c x st en) (t'.put c x (st + 1) (en + 1)) := by
  obtain ⟨h1, h2, ⟨A, B, B', h3, h4, h5, h6⟩, h7⟩ := h
  refine ⟨rfl, h2, ⟨A, B ++ [⟨c, x, st, t.l, (st : Int) - t.g⟩], B' ++ [⟨c, x, (st + 1 : Nat), t'.l, ((st + 1 : Nat) : Int) - t'.g⟩], ?_, ?_, ?_, h6⟩, h7⟩
  · show t.out ++ _ = _; rw [h3, List.append_assoc]
  · show t'.out ++ _ = _; rw [h4, List.append_assoc]
  · rw [List.map_append, List.map_append, h5]
    simp [pr0, pr1, h2]
theorem Rt.at (h : Rt k t t') (q : Nat) : Rt k { t with p := q } { t' with p := q + 1 } := ⟨rfl, h.l, h.out, h.op⟩
theorem Rt.putN (h : Rt k t t') {c : Int} {x : ByteArray} {st en : Nat} (e : t.putN c x st en = .ok t1) : ∃ t1', t'.putN c x (st + 1) (en + 1) = .ok t1' ∧ Rt k t1 t1' := by
  unfold St.putN at e ⊢
  split at e
  · cases e
  · rename_i hq
    injection e with e; subst e
    exact ⟨_, if_neg hq, h.put c x st en⟩
theorem Rt.openMark (h : Rt k t t') {m : ByteArray} {b : Bool} (e : t.openMark m b = .ok t1) : ∃ t1', t'.openMark m b = .ok t1' ∧ Rt k t1 t1' := by
  unfold St.openMark at e ⊢
  split at e
  · cases e
  · rename_i hq
    injection e with e; subst e
    have ho : Rt k (t.opens m b) (t'.opens m b) := ⟨h.p, h.l, h.out, by show (t'.op ++ [_]).map prb = (t.op ++ [_]).map prb; rw [List.map_append, List.map_append, h.op]; rfl⟩
    refine ⟨_, if_neg (by rw [h.len]; exact hq), ?_⟩
    have := ho.put 3 m t.p (t.p + m.size)
    rw [h.p, show t.p + 1 + m.size = t.p + m.size + 1 from by omega]
    exact this
theorem Sh.msep (hs : Sh s u a) (h : Rt k t t') (ha : a ≤ t.p) : Rt k (msep s t) (msep u t') := by
  unfold Go.Proofs.YtkfkgdkfgpofnaaDoor.msep
  rw [h.p, show Go.Proofs.YtkfkgdkfgpofnaaDoor.sub u (t.p + 1) (t.p + 1 + 1) = Go.Proofs.YtkfkgdkfgpofnaaDoor.sub s t.p (t.p + 1) from hs.sub ha]
  exact h.put 3 _ t.p (t.p + 1)
theorem Sh.mopening (hs : Sh s u a) (h : Rt k t t') (ha : a ≤ t.p) (e : mopening s t = .ok t1) : ∃ t1', mopening u t' = .ok t1' ∧ Rt k t1 t1' := by
  unfold Go.Proofs.YtkfkgdkfgpofnaaDoor.mopening at e ⊢
  rw [h.p, show Go.Proofs.YtkfkgdkfgpofnaaDoor.sub u (t.p + 1) (t.p + 1 + 1) = Go.Proofs.YtkfkgdkfgpofnaaDoor.sub s t.p (t.p + 1) from hs.sub ha]
  exact h.openMark e
theorem Sh.mdollar (hs : Sh s u a) (h : Rt k t t') (ha : a ≤ t.p) (e : mdollar s t = .ok t1) : ∃ t1', mdollar u t' = .ok t1' ∧ Rt k t1 t1' := by
  unfold Go.Proofs.YtkfkgdkfgpofnaaDoor.mdollar at e ⊢
  rw [h.p, hs.ah ha]
  split at e
  · rename_i hq
    obtain ⟨t1', h1, h2⟩ := h.openMark e
    exact ⟨t1', by rw [if_pos hq]; exact h1, h2⟩
  · cases e
theorem Sh.mdouble (hs : Sh s u a) (h : Rt k t t') (ha : a ≤ t.p) (e : mdouble s t = .ok t1) : ∃ t1', mdouble u t' = .ok t1' ∧ Rt k t1 t1' := by
  unfold Go.Proofs.YtkfkgdkfgpofnaaDoor.mdouble at e ⊢
  rw [h.p, hs.mquoted (p := t.p + 1) (by omega)]
  rcases hm : Go.Proofs.YtkfkgdkfgpofnaaDoor.mquoted s (t.p + 1) ⟨#[34]⟩ with _ | ⟨l, q⟩
  · rw [hm] at e; cases e
  · rw [hm] at e
    injection e with e; subst e
    exact ⟨_, rfl, (h.at q).put 7 _ t.p (q + 1)⟩
theorem Sh.msingle (hs : Sh s u a) (h : Rt k t t') (ha : a ≤ t.p) (e : msingle s t = .ok t1) : ∃ t1', msingle u t' = .ok t1' ∧ Rt k t1 t1' := by
  unfold Go.Proofs.YtkfkgdkfgpofnaaDoor.msingle at e ⊢
  rw [h.p, hs.ah ha, hs.mquoted (p := t.p + 1) (by omega)]
  split at e
  · rename_i hq
    obtain ⟨t1', h1, h2⟩ := h.openMark e
    exact ⟨t1', by rw [if_pos hq]; exact h1, h2⟩
  · rename_i hq
    rw [if_neg hq]
    rcases hm : Go.Proofs.YtkfkgdkfgpofnaaDoor.mquoted s (t.p + 1) ⟨#[39]⟩ with _ | ⟨l, q⟩
    · rw [hm] at e; cases e
    · rw [hm] at e
      simp only at e
      split at e
      · rename_i hz
        injection e with e; subst e
        exact ⟨_, if_pos hz, (h.at q).put 6 _ t.p (q + 1)⟩
      · cases e
theorem Sh.moperator (hs : Sh s u a) (h : Rt k t t') (ha : a ≤ t.p) (e : moperator s t = .ok t1) : ∃ t1', moperator u t' = .ok t1' ∧ Rt k t1 t1' := by
  unfold Go.Proofs.YtkfkgdkfgpofnaaDoor.moperator at e ⊢
  rw [h.p, hs.oEnd (p := t.p + 1) (by omega), show Go.Proofs.YtkfkgdkfgpofnaaDoor.sub u (t.p + 1) (Go.Proofs.YtkfkgdkfgpofnaaDoor.oEnd s (t.p + 1) + 1) = Go.Proofs.YtkfkgdkfgpofnaaDoor.sub s t.p (Go.Proofs.YtkfkgdkfgpofnaaDoor.oEnd s (t.p + 1)) from hs.sub ha]
  split at e
  · rename_i hq
    injection e with e; subst e
    exact ⟨_, if_pos hq, h.put 3 _ t.p _⟩
  · rename_i hq
    obtain ⟨t1', h1, h2⟩ := h.putN e
    exact ⟨t1', by rw [if_neg hq]; exact h1, h2⟩
theorem Sh.minserted (hs : Sh s u a) (h : Rt k t t') (ha : a ≤ t.p) (e : minserted s t = .ok t1) : ∃ t1', minserted u t' = .ok t1' ∧ Rt k t1 t1' := by
  unfold Go.Proofs.YtkfkgdkfgpofnaaDoor.minserted at e ⊢
  rw [h.p, hs.wEnd (p := t.p + 1) (by omega), hs.bt (p := t.p + 1) (by omega), show Go.Proofs.YtkfkgdkfgpofnaaDoor.sub u (t.p + 1 + 1) (Go.Proofs.YtkfkgdkfgpofnaaDoor.wEnd s (t.p + 1) + 1) = Go.Proofs.YtkfkgdkfgpofnaaDoor.sub s (t.p + 1) (Go.Proofs.YtkfkgdkfgpofnaaDoor.wEnd s (t.p + 1)) from hs.sub (by omega)]
  split at e
  · cases e
  · rename_i hq
    rw [if_neg (by simpa using hq)]
    split at e
    · rename_i hz
      injection e with e; subst e
      exact ⟨_, if_pos hz, h.put 1 _ (t.p + 1) _⟩
    · rename_i hz
      obtain ⟨t1', h1, h2⟩ := h.putN e
      exact ⟨t1', by rw [if_neg hz]; exact h1, h2⟩
end
section
variable {s u : ByteArray} {a k : Nat} {t t' t1 : St}
theorem Sh.mpartsF (hs : Sh s u a) (n : Nat) : ∀ (t t' t1 : St), Rt k t t' → a ≤ t.p → mpartsF s n t = .ok t1 → ∃ t1', mpartsF u n t' = .ok t1' ∧ Rt k t1 t1' := by
  induction n with
  | zero => intro t t' t1 _ _ e; simp [Go.Proofs.YtkfkgdkfgpofnaaDoor.mpartsF] at e
  | succ n ih =>
    intro t t' t1 h ha e
    rw [Go.Proofs.YtkfkgdkfgpofnaaDoor.mpartsF] at e ⊢
    rw [h.p, hs.mquoted (p := t.p) ha]
    rcases hm : Go.Proofs.YtkfkgdkfgpofnaaDoor.mquoted s t.p ⟨#[34, 36]⟩ with _ | ⟨l, q⟩
    · rw [hm] at e; cases e
    · rw [hm] at e
      have hq := mquoted_bd s _ _ _ _ hm
      have hp : Rt k (St.put { t with p := q } 9 (strOfNums l) t.p q) (St.put { t' with p := q + 1 } 9 (strOfNums l) (t.p + 1) (q + 1)) := (h.at q).put 9 _ t.p q
      show ∃ t1', (if Go.Proofs.YtkfkgdkfgpofnaaDoor.ah u (q + 1) ⟨#[34]⟩ = true then _ else if Go.Proofs.YtkfkgdkfgpofnaaDoor.ah u (q + 1) ⟨#[36, 123]⟩ = true then _ else _) = Except.ok t1' ∧ Rt k t1 t1'
      simp only at e
      rw [hs.ah (p := q) (by omega), hs.ah (p := q) (by omega)]
      split at e
      · rename_i h1
        injection e with e; subst e
        exact ⟨_, if_pos h1, hp.put 10 _ q (q + 1)⟩
      · rename_i h1
        rw [if_neg h1]
        split at e
        · rename_i h2
          rw [if_pos h2]
          exact hp.openMark e
        · rename_i h2
          rw [if_neg h2]
          rcases hi : Go.Proofs.YtkfkgdkfgpofnaaDoor.minserted s (St.put { t with p := q } 9 (strOfNums l) t.p q) with f | t2
          · rw [hi] at e; cases e
          · rw [hi] at e
            obtain ⟨t2', e2, r2⟩ := hs.minserted hp (by show a ≤ q; omega) hi
            have hb : a ≤ t2.p := by
              obtain ⟨c, x, rfl, hx, _⟩ := minserted_ok hi (by show q < s.size; omega)
              show a ≤ Go.Proofs.YtkfkgdkfgpofnaaDoor.wEnd s _
              have : q + 2 ≤ Go.Proofs.YtkfkgdkfgpofnaaDoor.wEnd s (q + 1) := hx
              exact Nat.le_trans (by omega) this
            obtain ⟨t3, e3, r3⟩ := ih t2 t2' t1 r2 hb e
            exact ⟨t3, by simp only [e2]; exact e3, r3⟩
theorem Sh.mparts (hs : Sh s u a) (h : Rt k t t') (ha : a ≤ t.p) (e : mparts s t = .ok t1) : ∃ t1', mparts u t' = .ok t1' ∧ Rt k t1 t1' := by
  unfold Go.Proofs.YtkfkgdkfgpofnaaDoor.mparts at e ⊢
  rw [hs.size, h.p, show s.size + 1 - (t.p + 1) + 1 = s.size - t.p + 1 from by omega]
  exact hs.mpartsF _ t t' t1 h ha e
theorem Sh.mword (hs : Sh s u a) (h : Rt k t t') (ha : a ≤ t.p) (hp : t.p ≤ s.size) (e : mword s t = .ok t1) : ∃ t1', mword u t' = .ok t1' ∧ Rt k t1 t1' := by
  unfold Go.Proofs.YtkfkgdkfgpofnaaDoor.mword at e ⊢
  have hw := wEnd_bd s t.p hp
  rw [h.p, hs.wEnd ha, hs.ah (p := Go.Proofs.YtkfkgdkfgpofnaaDoor.wEnd s t.p) (by omega), show Go.Proofs.YtkfkgdkfgpofnaaDoor.sub u (t.p + 1) (Go.Proofs.YtkfkgdkfgpofnaaDoor.wEnd s t.p + 1) = Go.Proofs.YtkfkgdkfgpofnaaDoor.sub s t.p (Go.Proofs.YtkfkgdkfgpofnaaDoor.wEnd s t.p) from hs.sub ha]
  split at e
  · rename_i h1
    injection e with e; subst e
    exact ⟨_, if_pos h1, h.put 3 _ t.p _⟩
  · rename_i h1
    rw [if_neg h1]
    split at e
    · rename_i h2
      injection e with e; subst e
      exact ⟨_, if_pos h2, h.put 1 _ t.p _⟩
    · rename_i h2
      rw [if_neg h2]
      split at e
      · rename_i h3
        rw [if_pos h3]
        rcases hi : t.putN 8 (Go.Proofs.YtkfkgdkfgpofnaaDoor.sub s t.p (Go.Proofs.YtkfkgdkfgpofnaaDoor.wEnd s t.p)) t.p (Go.Proofs.YtkfkgdkfgpofnaaDoor.wEnd s t.p + 1) with f | t2
        · rw [hi] at e; cases e
        · rw [hi] at e
          obtain ⟨t2', e2, r2⟩ := h.putN hi
          have hb : a ≤ t2.p := by
            unfold St.putN at hi
            split at hi
            · cases hi
            · injection hi with hi; subst hi
              show a ≤ Go.Proofs.YtkfkgdkfgpofnaaDoor.wEnd s t.p + 1
              omega
          obtain ⟨t3, e3, r3⟩ := hs.mparts r2 hb e
          exact ⟨t3, by simp only [e2]; exact e3, r3⟩
      · rename_i h3
        rw [if_neg h3]
        exact h.putN e
theorem Rt.drop (h : Rt k t t') : Rt k { t with op := t.op.dropLast } { t' with op := t'.op.dropLast } :=
  ⟨h.p, h.l, h.out, by show t'.op.dropLast.map prb = t.op.dropLast.map prb; rw [List.map_dropLast, List.map_dropLast, h.op]⟩
theorem Sh.mclosing (hs : Sh s u a) (h : Rt k t t') (ha : a ≤ t.p) (e : mclosing s t = .ok t1) : ∃ t1', mclosing u t' = .ok t1' ∧ Rt k t1 t1' := by
  unfold Go.Proofs.YtkfkgdkfgpofnaaDoor.mclosing at e ⊢
  have hl : t'.op.getLast?.map prb = t.op.getLast?.map prb := by rw [← List.getLast?_map, ← List.getLast?_map, h.op]
  rcases ho : t.op.getLast? with _ | br
  · rw [ho] at e; cases e
  · rw [ho] at e hl
    rcases ho' : t'.op.getLast? with _ | br'
    · rw [ho'] at hl; cases hl
    · rw [ho'] at hl
      have hl : prb br' = prb br := by simpa using hl
      have h1 : br'.closer = br.closer := congrArg Prod.fst hl
      have h2 : br'.inside = br.inside := congrArg Prod.snd hl
      simp only at e ⊢
      have hbt : Go.Proofs.YtkfkgdkfgpofnaaDoor.bt u t'.p = Go.Proofs.YtkfkgdkfgpofnaaDoor.bt s t.p := by rw [h.p, hs.bt ha]
      rw [h1, h2, hbt]
      have hm := hs.msep h.drop (show a ≤ t.p from ha)
      split at e
      · rename_i h3
        rw [if_pos h3]
        split at e
        · rename_i h4
          rw [if_pos h4]
          exact hs.mparts hm (by show a ≤ t.p + 1; omega) e
        · rename_i h4
          rw [if_neg h4]
          injection e with e; subst e
          exact ⟨_, rfl, hm⟩
      · cases e
theorem Sh.mnumber (hs : Sh s u a) (h : Rt k t t') (ha : a ≤ t.p) (hp : t.p ≤ s.size) (e : mnumber s t = .ok t1) : ∃ t1', mnumber u t' = .ok t1' ∧ Rt k t1 t1' := by
  unfold Go.Proofs.YtkfkgdkfgpofnaaDoor.mnumber at e ⊢
  have hn := nEnd_bd s t.p hp
  rw [h.p, hs.nEnd ha, hs.ah (p := Go.Proofs.YtkfkgdkfgpofnaaDoor.nEnd s t.p) (by omega), hs.bt ha, show Go.Proofs.YtkfkgdkfgpofnaaDoor.sub u (t.p + 1) (Go.Proofs.YtkfkgdkfgpofnaaDoor.nEnd s t.p + 1) = Go.Proofs.YtkfkgdkfgpofnaaDoor.sub s t.p (Go.Proofs.YtkfkgdkfgpofnaaDoor.nEnd s t.p) from hs.sub ha]
  rw [show Go.Proofs.YtkfkgdkfgpofnaaDoor.nEnd s t.p + 1 - (t.p + 1) = Go.Proofs.YtkfkgdkfgpofnaaDoor.nEnd s t.p - t.p from by omega]
  generalize Go.Proofs.YtkfkgdkfgpofnaaDoor.nEnd s t.p = N at *
  by_cases hL : Go.Proofs.YtkfkgdkfgpofnaaDoor.ah s N ⟨#[76]⟩ = true
  · simp only [hL, if_true] at e ⊢
    rw [hs.size, hs.bt (p := N + 1) (by omega)]
    simp only [Nat.add_lt_add_iff_right]
    split at e
    · cases e
    · rename_i h1
      rw [if_neg h1]
      split at e
      · cases e
      · rename_i h2
        rw [if_neg h2]
        injection e with e; subst e
        exact ⟨_, rfl, h.put 5 _ t.p (N + 1)⟩
  · simp only [hL, if_false, Bool.false_eq_true] at e ⊢
    rw [hs.size, hs.bt (p := N) (by omega)]
    simp only [Nat.add_lt_add_iff_right]
    split at e
    · cases e
    · rename_i h1
      rw [if_neg h1]
      split at e
      · cases e
      · rename_i h2
        rw [if_neg h2]
        injection e with e; subst e
        exact ⟨_, rfl, h.put 4 _ t.p N⟩
theorem Sh.mtok (hs : Sh s u a) (h : Rt k t t') (ha : a ≤ t.p) (hp : t.p ≤ s.size) (e : mtok s t = .ok t1) : ∃ t1', mtok u t' = .ok t1' ∧ Rt k t1 t1' := by
  unfold Go.Proofs.YtkfkgdkfgpofnaaDoor.mtok at e ⊢
  have hbt : Go.Proofs.YtkfkgdkfgpofnaaDoor.bt u t'.p = Go.Proofs.YtkfkgdkfgpofnaaDoor.bt s t.p := by rw [h.p, hs.bt ha]
  rw [hbt]
  split at e
  · rename_i q; rw [if_pos q]; exact hs.mword h ha hp e
  · rename_i q; rw [if_neg q]
    split at e
    · rename_i q; rw [if_pos q]; exact hs.mnumber h ha hp e
    · rename_i q; rw [if_neg q]
      split at e
      · rename_i q; rw [if_pos q]; exact hs.moperator h ha e
      · rename_i q; rw [if_neg q]
        split at e
        · rename_i q; rw [if_pos q]; exact hs.mopening h ha e
        · rename_i q; rw [if_neg q]
          split at e
          · rename_i q; rw [if_pos q]; exact hs.mclosing h ha e
          · rename_i q; rw [if_neg q]
            split at e
            · rename_i q; rw [if_pos q]; injection e with e; subst e; exact ⟨_, rfl, hs.msep h ha⟩
            · rename_i q; rw [if_neg q]
              split at e
              · rename_i q; rw [if_pos q]; exact hs.msingle h ha e
              · rename_i q; rw [if_neg q]
                split at e
                · rename_i q; rw [if_pos q]; exact hs.mdouble h ha e
                · rename_i q; rw [if_neg q]
                  split at e
                  · rename_i q; rw [if_pos q]; exact hs.mdollar h ha e
                  · cases e
/-- All tokens behind the place. -/
theorem Sh.mallF (hs : Sh s u a) (n : Nat) : ∀ (t t' t1 : St), Rt k t t' → t.Good s → a ≤ t.p → mallF s n t = .ok t1 → ∃ t1', mallF u n t' = .ok t1' ∧ Rt k t1 t1' := by
  induction n with
  | zero => intro t t' t1 _ _ _ e; simp [Go.Proofs.YtkfkgdkfgpofnaaDoor.mallF] at e
  | succ n ih =>
    intro t t' t1 h hg ha e
    rw [Go.Proofs.YtkfkgdkfgpofnaaDoor.mallF] at e ⊢
    rw [h.p, hs.size]
    simp only [Nat.add_lt_add_iff_right]
    split at e
    · rename_i hlt
      rw [if_pos hlt]
      rcases hm : Go.Proofs.YtkfkgdkfgpofnaaDoor.mtok s t with f | t2
      · rw [hm] at e; cases e
      · rw [hm] at e
        obtain ⟨g2, p2⟩ := mtok_good s t t2 hg hlt hm
        obtain ⟨t2', e2, r2⟩ := hs.mtok h ha (by omega) hm
        rw [e2]
        simp only at e ⊢
        have hk := hs.mskip (p := t2.p) (l := t2.l) (g := t2.g) (g' := t2'.g) (by omega) g2.p g2.l g2.g
        rw [r2.p, r2.l]
        rcases hq : Go.Proofs.YtkfkgdkfgpofnaaDoor.mskip s t2.p t2.l t2.g with x | ⟨p3, l3, g3⟩
        · rw [hq] at e; cases e
        · rw [hq] at e hk
          obtain ⟨g3', e3⟩ := hk
          have hb := mskip_bd s _ _ _ _ _ _ hq g2.p g2.l g2.g
          simp only at e
          rw [e3]
          exact ih { t2 with p := p3, l := l3, g := g3 } { t2' with p := p3 + 1, l := l3, g := g3' } t1 ⟨rfl, rfl, r2.out, r2.op⟩ ⟨hb.2.1, hb.2.2.1, hb.2.2.2, by have := g2.out; simp only; omega, g2.op⟩ (by show a ≤ p3; omega) e
    · rename_i hlt
      rw [if_neg hlt]
      have hl : t'.op.getLast?.map prb = t.op.getLast?.map prb := by rw [← List.getLast?_map, ← List.getLast?_map, h.op]
      rcases ho : t.op.getLast? with _ | br
      · rw [ho] at e hl
        injection e with e; subst e
        have ho' : t'.op.getLast? = none := by simpa using hl
        rw [ho']
        exact ⟨_, rfl, h⟩
      · rw [ho] at e; cases e
end
end Go.Proofs.YtkfkgdkfgpofnaaDoor
/- A text with a blank put in: what stands in front of it is read as before. No program. -/
namespace Go.Proofs.YtkfkgdkfgpofnaaDoor
open Go.RowKit

/-- The second text has a blank at a; the bytes in front of it are those of the first. -/
structure Pf (s u : ByteArray) (a : Nat) : Prop where
  size : u.size = s.size + 1
  le : a ≤ s.size
  pre : u.data.toList.take a = s.data.toList.take a
  mid : bt u a = 32
section
variable {s u : ByteArray} {a : Nat}
theorem bt_take (s : ByteArray) {a p : Nat} (hp : p < a) : bt s p = ((s.data.toList.take a).getD p 0).toNat := by
  unfold bt
  rw [List.getD_eq_getElem?_getD, List.getD_eq_getElem?_getD, List.getElem?_take, if_pos hp]
theorem Pf.bt (h : Pf s u a) {p : Nat} (hp : p < a) : bt u p = bt s p := by rw [bt_take u hp, bt_take s hp, h.pre]
theorem Pf.sub (h : Pf s u a) {p q : Nat} (hq : q ≤ a) : u.extract p q = s.extract p q := by
  apply ByteArray.ext
  apply Array.toList_inj.mp
  rw [ByteArray.data_extract, ByteArray.data_extract, Array.toList_extract, Array.toList_extract, List.extract_eq_take_drop, List.extract_eq_take_drop]
  rw [← List.drop_take, ← List.drop_take]
  have e : u.data.toList.take q = s.data.toList.take q := by
    have := congrArg (List.take q) h.pre
    rwa [List.take_take, List.take_take, Nat.min_eq_left hq] at this
  rw [e]
theorem ah_one (s : ByteArray) (q : Nat) (c : UInt8) : ah s q ⟨#[c]⟩ = decide (q < s.size ∧ bt s q = c.toNat) := by
  unfold ah Lib.hasPrefix
  have hsz : s.data.toList.length = s.size := Array.length_toList
  rcases Nat.lt_or_ge q s.size with hq | hq
  · have hd : s.data.toList.drop q = (s.data.toList[q]'(by omega)) :: s.data.toList.drop (q + 1) := List.drop_eq_getElem_cons (by omega)
    have hb : bt s q = (s.data.toList[q]'(by omega)).toNat := by unfold bt; rw [List.getD_eq_getElem?_getD, List.getElem?_eq_getElem (by omega)]; rfl
    rw [hd, hb]
    generalize (s.data.toList[q]'(by omega)) = x
    rw [show (ByteArray.mk #[c]).data.toList = [c] from rfl, List.isPrefixOf_cons_cons]
    by_cases hx : c = x
    · subst hx; simp [hq]
    · have : ¬ x.toNat = c.toNat := fun e => hx (UInt8.toNat_inj.mp e.symm)
      simp [hx, this]
  · rw [List.drop_eq_nil_of_le (by omega)]
    have : ¬ (q < s.size ∧ bt s q = c.toNat) := fun h => by omega
    simp [this]
theorem ah_two (s : ByteArray) (q : Nat) (c d : UInt8) : ah s q ⟨#[c, d]⟩ = (ah s q ⟨#[c]⟩ && ah s (q + 1) ⟨#[d]⟩) := by
  unfold ah Lib.hasPrefix
  have hsz : s.data.toList.length = s.size := Array.length_toList
  rcases Nat.lt_or_ge q s.size with hq | hq
  · have hd : s.data.toList.drop q = (s.data.toList[q]'(by omega)) :: s.data.toList.drop (q + 1) := List.drop_eq_getElem_cons (by omega)
    rw [hd]
    generalize (s.data.toList[q]'(by omega)) = x
    rw [show (ByteArray.mk #[c, d]).data.toList = [c, d] from rfl, show (ByteArray.mk #[c]).data.toList = [c] from rfl, show (ByteArray.mk #[d]).data.toList = [d] from rfl, List.isPrefixOf_cons_cons, List.isPrefixOf_cons_cons]
    simp
  · rw [List.drop_eq_nil_of_le (by omega)]
    rfl
theorem Pf.one (h : Pf s u a) {q : Nat} (hq : q < a) (c : UInt8) : ah u q ⟨#[c]⟩ = ah s q ⟨#[c]⟩ := by
  rw [ah_one, ah_one, h.bt hq, h.size]
  have := h.le
  congr 1
  simp only [eq_iff_iff]
  constructor
  · intro x; exact ⟨by omega, x.2⟩
  · intro x; exact ⟨by omega, x.2⟩
theorem Pf.oneAt (h : Pf s u a) (c : UInt8) (hc : c.toNat ≠ 32) : ah u a ⟨#[c]⟩ = false := by
  rw [ah_one, h.mid]
  simp
  intro _ e
  exact hc e.symm
theorem Pf.two (h : Pf s u a) {q : Nat} (hq : q + 1 < a) (c d : UInt8) : ah u q ⟨#[c, d]⟩ = ah s q ⟨#[c, d]⟩ := by
  rw [ah_two, ah_two, h.one (by omega), h.one hq]
theorem Pf.twoAt (h : Pf s u a) {q : Nat} (hq : q + 1 = a) (c d : UInt8) (hd : d.toNat ≠ 32) : ah u q ⟨#[c, d]⟩ = false := by
  rw [ah_two, hq, h.oneAt d hd, Bool.and_false]
theorem Pf.twoOn (h : Pf s u a) (c d : UInt8) (hc : c.toNat ≠ 32) : ah u a ⟨#[c, d]⟩ = false := by
  rw [ah_two, h.oneAt c hc, Bool.false_and]

theorem Pf.wEndF (h : Pf s u a) (n : Nat) : ∀ (m q : Nat), wEndF s n q ≤ a → q ≤ s.size → s.size - q < n → u.size - q < m → wEndF u m q = wEndF s n q := by
  induction n with
  | zero => intro m q _ _ hn _; omega
  | succ n ih =>
    intro m q hr hq hn hm
    obtain ⟨m, rfl⟩ : ∃ m', m = m' + 1 := ⟨m - 1, by omega⟩
    have hle := h.le
    have hsz := h.size
    rw [Go.Proofs.YtkfkgdkfgpofnaaDoor.wEndF] at hr ⊢
    rw [Go.Proofs.YtkfkgdkfgpofnaaDoor.wEndF]
    split at hr
    · rename_i hc
      rw [if_pos hc]
      have hb := (wEndF_bd s n (q + 1) (by omega)).1
      rw [if_pos ⟨by omega, by rw [h.bt (by omega)]; exact hc.2⟩]
      exact ih m (q + 1) hr (by omega) (by omega) (by omega)
    · rename_i hc
      rw [if_neg hc]
      rcases Nat.lt_or_ge q a with hqa | hqa
      · rw [if_neg (by rw [h.bt hqa]; intro x; exact hc ⟨by omega, x.2⟩)]
      · have : q = a := by omega
        subst this
        rw [if_neg (by rw [h.mid]; intro x; exact absurd x.2 (by decide))]
theorem Pf.wEnd (h : Pf s u a) {q : Nat} (hq : q ≤ s.size) (hr : wEnd s q ≤ a) : wEnd u q = wEnd s q := by
  have := h.size
  exact h.wEndF _ _ q hr hq (by omega) (by omega)
theorem Pf.nEndF (h : Pf s u a) (n : Nat) : ∀ (m q : Nat), nEndF s n q ≤ a → q ≤ s.size → s.size - q < n → u.size - q < m → nEndF u m q = nEndF s n q := by
  induction n with
  | zero => intro m q _ _ hn _; omega
  | succ n ih =>
    intro m q hr hq hn hm
    obtain ⟨m, rfl⟩ : ∃ m', m = m' + 1 := ⟨m - 1, by omega⟩
    have hle := h.le
    have hsz := h.size
    rw [Go.Proofs.YtkfkgdkfgpofnaaDoor.nEndF] at hr ⊢
    rw [Go.Proofs.YtkfkgdkfgpofnaaDoor.nEndF]
    split at hr
    · rename_i hc
      rw [if_pos hc]
      have hb := (nEndF_bd s n (q + 1) (by omega)).1
      rw [if_pos ⟨by omega, by rw [h.bt (by omega)]; exact hc.2⟩]
      exact ih m (q + 1) hr (by omega) (by omega) (by omega)
    · rename_i hc
      rw [if_neg hc]
      rcases Nat.lt_or_ge q a with hqa | hqa
      · rw [if_neg (by rw [h.bt hqa]; intro x; exact hc ⟨by omega, x.2⟩)]
      · have : q = a := by omega
        subst this
        rw [if_neg (by rw [h.mid]; intro x; exact absurd x.2 (by decide))]
theorem Pf.nEnd (h : Pf s u a) {q : Nat} (hq : q ≤ s.size) (hr : nEnd s q ≤ a) : nEnd u q = nEnd s q := by
  have := h.size
  exact h.nEndF _ _ q hr hq (by omega) (by omega)
theorem Pf.lcEndF (h : Pf s u a) (n : Nat) : ∀ (m q : Nat), lcEndF s n q < a → q ≤ s.size → s.size - q < n → u.size - q < m → lcEndF u m q = lcEndF s n q := by
  induction n with
  | zero => intro m q _ _ hn _; omega
  | succ n ih =>
    intro m q hr hq hn hm
    obtain ⟨m, rfl⟩ : ∃ m', m = m' + 1 := ⟨m - 1, by omega⟩
    have hle := h.le
    have hsz := h.size
    rw [Go.Proofs.YtkfkgdkfgpofnaaDoor.lcEndF] at hr ⊢
    rw [Go.Proofs.YtkfkgdkfgpofnaaDoor.lcEndF]
    split at hr
    · rename_i hc
      rw [if_pos hc]
      have hb := (lcEndF_bd s n (q + 1) (by omega)).1
      rw [if_pos ⟨by omega, by rw [h.bt (by omega)]; exact hc.2⟩]
      exact ih m (q + 1) hr (by omega) (by omega) (by omega)
    · rename_i hc
      rw [if_neg hc]
      rw [if_neg (by rw [h.bt hr]; intro x; exact hc ⟨by omega, x.2⟩)]
theorem Pf.lcEnd (h : Pf s u a) {q : Nat} (hq : q ≤ s.size) (hr : lcEnd s q < a) : lcEnd u q = lcEnd s q := by
  have := h.size
  exact h.lcEndF _ _ q hr hq (by omega) (by omega)
theorem Pf.mhex (h : Pf s u a) {p : Nat} (hp : p < a) : mhex u p = mhex s p := by
  unfold Go.Proofs.YtkfkgdkfgpofnaaDoor.mhex
  have := h.le
  have := h.size
  rw [h.bt hp]
  have e : (p < u.size ∧ 0 ≤ hexv (Go.Proofs.YtkfkgdkfgpofnaaDoor.bt s p)) ↔ (p < s.size ∧ 0 ≤ hexv (Go.Proofs.YtkfkgdkfgpofnaaDoor.bt s p)) := by
    constructor
    · intro x; exact ⟨by omega, x.2⟩
    · intro x; exact ⟨by omega, x.2⟩
  by_cases hc : p < s.size ∧ 0 ≤ hexv (Go.Proofs.YtkfkgdkfgpofnaaDoor.bt s p)
  · rw [if_pos hc, if_pos (e.mpr hc)]
  · rw [if_neg hc, if_neg (fun x => hc (e.mp x))]
theorem Pf.mescape (h : Pf s u a) {p : Nat} {v : Int} {q : Nat} (e : mescape s p = some (v, q)) (hq : q ≤ a) : mescape u p = some (v, q) := by
  have hb := mescape_bd s p v q e
  have hle := h.le
  have hsz := h.size
  unfold Go.Proofs.YtkfkgdkfgpofnaaDoor.mescape at e ⊢
  rw [h.bt (p := p) (by omega), if_pos (by omega : p < u.size)]
  rw [if_pos (by omega : p < s.size)] at e
  split at e
  · rename_i c; rw [if_pos c]; exact e
  · rename_i c; rw [if_neg c]
    split at e
    · rename_i c; rw [if_pos c]; exact e
    · rename_i c; rw [if_neg c]
      split at e
      · rename_i c; rw [if_pos c]; exact e
      · rename_i c; rw [if_neg c]
        split at e
        · rename_i c; rw [if_pos c]
          rcases h1 : Go.Proofs.YtkfkgdkfgpofnaaDoor.mhex s (p + 1) with _ | x
          · rw [h1] at e; cases e
          · rw [h1] at e
            simp only at e
            rcases h2 : Go.Proofs.YtkfkgdkfgpofnaaDoor.mhex s (p + 2) with _ | y
            · rw [h2] at e; cases e
            · rw [h2] at e
              have hq3 : p + 3 ≤ a := by simp at e; omega
              rw [h.mhex (by omega), h.mhex (by omega), h1, h2]
              exact e
        · cases e
theorem Pf.mchar (h : Pf s u a) {p : Nat} {v : Int} {q : Nat} (hp : p < s.size) (e : mchar s p = some (v, q)) (hq : q ≤ a) : mchar u p = some (v, q) := by
  have hb := mchar_bd s p v q hp e
  unfold Go.Proofs.YtkfkgdkfgpofnaaDoor.mchar at e ⊢
  rw [h.bt (p := p) (by omega)]
  split at e
  · cases e
  · rename_i c; rw [if_neg c]
    split at e
    · rename_i c; rw [if_pos c]; exact h.mescape e hq
    · rename_i c; rw [if_neg c]; exact e
theorem Pf.mquotF (h : Pf s u a) (stops : ByteArray) (n : Nat) : ∀ (m p : Nat) (acc l : List Int) (q : Nat), mquotF s stops n p acc = some (l, q) → q < a → u.size - p < m → mquotF u stops m p acc = some (l, q) := by
  induction n with
  | zero => intro m p acc l q e; simp [Go.Proofs.YtkfkgdkfgpofnaaDoor.mquotF] at e
  | succ n ih =>
    intro m p acc l q e hq hm
    obtain ⟨m, rfl⟩ : ∃ m', m = m' + 1 := ⟨m - 1, by omega⟩
    have hle := h.le
    have hsz := h.size
    have hb := mquotF_bd s stops (n + 1) p acc l q e
    rw [Go.Proofs.YtkfkgdkfgpofnaaDoor.mquotF] at e ⊢
    rw [h.bt (p := p) (by omega), if_pos (by omega : p < u.size)]
    rw [if_pos (by omega : p < s.size)] at e
    split at e
    · rename_i c; rw [if_pos c]
      rcases hc : Go.Proofs.YtkfkgdkfgpofnaaDoor.mchar s p with _ | ⟨v, r⟩
      · rw [hc] at e; cases e
      · rw [hc] at e
        simp only at e
        have hb2 := mquotF_bd s stops n r _ l q e
        have hb3 := mchar_bd s p v r (by omega) hc
        rw [h.mchar (by omega) hc (by omega)]
        exact ih m r _ l q e hq (by omega)
    · rename_i c; rw [if_neg c]; exact e
theorem Pf.mquoted (h : Pf s u a) {p : Nat} {stops : ByteArray} {l : List Int} {q : Nat} (e : mquoted s p stops = some (l, q)) (hq : q < a) : mquoted u p stops = some (l, q) := by
  unfold Go.Proofs.YtkfkgdkfgpofnaaDoor.mquoted at e ⊢
  exact h.mquotF stops _ _ p [] l q e hq (by omega)
end
end Go.Proofs.YtkfkgdkfgpofnaaDoor
/- A text with a blank put in: comments and the skip in front of it. No program. -/
namespace Go.Proofs.YtkfkgdkfgpofnaaDoor
open Go.RowKit
section
variable {s u : ByteArray} {a : Nat}
theorem mcomF_two (s : ByteArray) (n : Nat) : ∀ (p : Nat) (d : Int) (l g : Nat) (r : Nat × Nat × Nat), mcomF s n p d l g = some r → p + 2 ≤ r.1 := by
  induction n with
  | zero => intro p d l g r e; simp [mcomF] at e
  | succ n ih =>
    intro p d l g r e
    rw [mcomF] at e
    split at e
    · split at e
      · have := ih _ _ _ _ _ e; omega
      · split at e
        · split at e
          · injection e with e; subst e; exact Nat.le_refl _
          · have := ih _ _ _ _ _ e; omega
        · split at e
          · have := ih _ _ _ _ _ e; omega
          · have := ih _ _ _ _ _ e; omega
    · cases e
theorem Pf.mcomF (h : Pf s u a) (n : Nat) : ∀ (m p : Nat) (d : Int) (l g : Nat) (r : Nat × Nat × Nat), mcomF s n p d l g = some r → r.1 ≤ a → u.size - p < m → mcomF u m p d l g = some r := by
  induction n with
  | zero => intro m p d l g r e; simp [Go.Proofs.YtkfkgdkfgpofnaaDoor.mcomF] at e
  | succ n ih =>
    intro m p d l g r e hr hm
    obtain ⟨m, rfl⟩ : ∃ m', m = m' + 1 := ⟨m - 1, by omega⟩
    have hle := h.le
    have hsz := h.size
    have h2 := mcomF_two s (n + 1) p d l g r e
    rw [Go.Proofs.YtkfkgdkfgpofnaaDoor.mcomF] at e ⊢
    rw [h.two (q := p) (by omega), h.two (q := p) (by omega), h.bt (p := p) (by omega), if_pos (by omega : p < u.size)]
    rw [if_pos (by omega : p < s.size)] at e
    split at e
    · rename_i c; rw [if_pos c]; exact ih m _ _ _ _ r e hr (by omega)
    · rename_i c; rw [if_neg c]
      split at e
      · rename_i c; rw [if_pos c]
        split at e
        · rename_i c; rw [if_pos c]; exact e
        · rename_i c; rw [if_neg c]; exact ih m _ _ _ _ r e hr (by omega)
      · rename_i c; rw [if_neg c]
        split at e
        · rename_i c; rw [if_pos c]; exact ih m _ _ _ _ r e hr (by omega)
        · rename_i c; rw [if_neg c]; exact ih m _ _ _ _ r e hr (by omega)
theorem Pf.mcom (h : Pf s u a) {p l g : Nat} {r : Nat × Nat × Nat} (e : mcom s p l g = .ok r) (hr : r.1 ≤ a) : mcom u p l g = .ok r := by
  unfold Go.Proofs.YtkfkgdkfgpofnaaDoor.mcom at e ⊢
  rcases hm : Go.Proofs.YtkfkgdkfgpofnaaDoor.mcomF s (s.size - p + 1) p 0 l g with _ | r'
  · rw [hm] at e; cases e
  · rw [hm] at e
    injection e with e; subst e
    rw [h.mcomF _ _ p 0 l g r' hm hr (Nat.lt_succ_self _)]
theorem lcEndF_stop (s : ByteArray) (n : Nat) : ∀ q, s.size - q < n → lcEndF s n q < s.size → bt s (lcEndF s n q) = 10 := by
  induction n with
  | zero => intro q h; omega
  | succ n ih =>
    intro q h hl
    rw [lcEndF] at hl ⊢
    split at hl
    · rename_i c; rw [if_pos c]; exact ih (q + 1) (by omega) hl
    · rename_i c; rw [if_neg c]
      rcases Nat.decEq (bt s q) 10 with hx | hx
      · exact absurd ⟨hl, hx⟩ c
      · exact hx
theorem lcEnd_stop (s : ByteArray) {q : Nat} (h : lcEnd s q < s.size) : bt s (lcEnd s q) = 10 := lcEndF_stop s _ q (Nat.lt_succ_self _) h
theorem slash_ten {s : ByteArray} {p : Nat} {c : UInt8} (h : ah s p ⟨#[47, c]⟩ = true) : bt s p ≠ 10 := by
  rw [ah_two, ah_one, Bool.and_eq_true, decide_eq_true_eq] at h
  have := h.1.2
  intro e
  rw [e] at this
  exact absurd this (by decide)
theorem lcEnd_two {s : ByteArray} {p : Nat} (h : ah s p ⟨#[47, 47]⟩ = true) : p + 2 ≤ lcEnd s p := by
  have hp := slash_ten h
  rw [ah_two, ah_one, ah_one, Bool.and_eq_true, decide_eq_true_eq, decide_eq_true_eq] at h
  have h1 := lcEnd_gt s p h.1.1 hp
  rcases Nat.lt_or_ge (p + 1) (lcEnd s p) with h2 | h2
  · omega
  · exfalso
    have he : lcEnd s p = p + 1 := by omega
    have := lcEnd_stop s (q := p) (by omega)
    rw [he, h.2.2] at this
    exact absurd this (by decide)
/-- The skip in front of a token that begins at a, or in front of it. -/
theorem Pf.mskipF (h : Pf s u a) (hs : Sh s u a) (ha : a < s.size) (n : Nat) : ∀ (m p l g : Nat) (r : Nat × Nat × Nat), mskipF s n p l g = .ok r → r.1 ≤ a → l ≤ p → g ≤ p → u.size - p < m → mskipF u m p l g = .ok (if r.1 = a then a + 1 else r.1, r.2) := by
  induction n with
  | zero => intro m p l g r e; simp [Go.Proofs.YtkfkgdkfgpofnaaDoor.mskipF] at e
  | succ n ih =>
    intro m p l g r e hr hl hg hm
    obtain ⟨r1, r2, r3⟩ := r
    simp only at hr
    have hle := h.le
    have hsz := h.size
    rcases Nat.lt_or_ge s.size p with hps | hps
    · exfalso
      rw [Go.Proofs.YtkfkgdkfgpofnaaDoor.mskipF, if_neg (by omega)] at e
      injection e with e
      have : p = r1 := congrArg Prod.fst e
      omega
    have hbd := mskipF_bd s (n + 1) p l g r1 r2 r3 e hps hl hg
    obtain ⟨m, rfl⟩ : ∃ m', m = m' + 1 := ⟨m - 1, by omega⟩
    rw [Go.Proofs.YtkfkgdkfgpofnaaDoor.mskipF] at e ⊢
    rw [if_pos (by omega : p < s.size)] at e
    rw [if_pos (by omega : p < u.size)]
    rcases Nat.lt_or_ge p a with hpa | hpa
    · rw [h.bt hpa]
      have hcc : ∀ c : UInt8, c.toNat ≠ 32 → Go.Proofs.YtkfkgdkfgpofnaaDoor.ah s p ⟨#[47, c]⟩ = false → Go.Proofs.YtkfkgdkfgpofnaaDoor.ah u p ⟨#[47, c]⟩ = false := by
        intro c hc hf
        rcases Nat.lt_or_ge (p + 1) a with h1 | h1
        · rw [h.two h1]; exact hf
        · exact h.twoAt (by omega) 47 c hc
      split at e
      · rename_i c; rw [if_pos c]; exact ih m _ _ _ _ e hr (by omega) (by omega) (by omega)
      · rename_i c; rw [if_neg c]
        split at e
        · rename_i c; rw [if_pos c]; exact ih m _ _ _ _ e hr (by omega) (by omega) (by omega)
        · rename_i c; rw [if_neg c]
          split at e
          · rename_i c
            have h2 := lcEnd_two c
            have h3 := lcEnd_bd s p hps
            have h4 := mskipF_bd s n _ l g r1 r2 r3 e h3.2 (by omega) (by omega)
            have h5 : Go.Proofs.YtkfkgdkfgpofnaaDoor.lcEnd s p < a := by
              rcases Nat.lt_or_ge (Go.Proofs.YtkfkgdkfgpofnaaDoor.lcEnd s p) a with h5 | h5
              · exact h5
              · exfalso
                have h6 : Go.Proofs.YtkfkgdkfgpofnaaDoor.lcEnd s p = a := by omega
                have h7 := lcEnd_stop s (q := p) (by omega)
                rw [h6] at e h7
                rcases n with _ | n
                · simp [Go.Proofs.YtkfkgdkfgpofnaaDoor.mskipF] at e
                · rw [Go.Proofs.YtkfkgdkfgpofnaaDoor.mskipF, if_pos ha, if_pos h7] at e
                  have := mskipF_bd s n _ _ _ r1 r2 r3 e (by omega) (by omega) (by omega)
                  omega
            rw [h.two (q := p) (by omega), if_pos c, h.lcEnd hps h5]
            exact ih m _ _ _ _ e hr (by omega) (by omega) (by omega)
          · rename_i c
            rw [if_neg (by rw [hcc 47 (by decide) (by simpa using c)]; simp)]
            split at e
            · rename_i c2
              rcases hq : Go.Proofs.YtkfkgdkfgpofnaaDoor.mcom s p l g with f | ⟨p2, l2, g2⟩
              · rw [hq] at e; cases e
              · rw [hq] at e
                simp only at e
                have h1 := mcom_bd s _ _ _ _ _ _ hq hps hl hg
                have h4 := mskipF_bd s n _ _ _ r1 r2 r3 e h1.2.1 h1.2.2.1 h1.2.2.2
                have h2 : p + 2 ≤ p2 := by
                  unfold Go.Proofs.YtkfkgdkfgpofnaaDoor.mcom at hq
                  rcases hx : Go.Proofs.YtkfkgdkfgpofnaaDoor.mcomF s (s.size - p + 1) p 0 l g with _ | y
                  · rw [hx] at hq; cases hq
                  · rw [hx] at hq
                    injection hq with hq
                    have := mcomF_two s _ p 0 l g y hx
                    rw [hq] at this
                    exact this
                rw [h.two (q := p) (by omega), if_pos c2, h.mcom hq (by show p2 ≤ a; omega)]
                exact ih m _ _ _ _ e hr (by omega) (by omega) (by omega)
            · rename_i c2
              rw [if_neg (by rw [hcc 42 (by decide) (by simpa using c2)]; simp)]
              injection e with e
              have e1 : p = r1 := congrArg Prod.fst e
              have e2 : (l, g) = (r2, r3) := congrArg Prod.snd e
              rw [if_neg (show ¬ r1 = a by omega), ← e1, ← e2]
    · have hpe : p = a := by omega
      subst hpe
      rw [h.mid, if_neg (by decide), if_pos (by decide)]
      have hr1 : r1 = p := by omega
      subst hr1
      split at e
      · exfalso; have := mskipF_bd s n _ _ _ r1 r2 r3 e (by omega) (by omega) (by omega); omega
      · rename_i c1
        split at e
        · exfalso; have := mskipF_bd s n _ _ _ r1 r2 r3 e (by omega) (by omega) (by omega); omega
        · rename_i c2
          split at e
          · rename_i c
            exfalso
            have h2 := lcEnd_two c
            have h3 := lcEnd_bd s r1 hps
            have := mskipF_bd s n _ l g r1 r2 r3 e h3.2 (by omega) (by omega)
            omega
          · rename_i c3
            split at e
            · exfalso
              rcases hq : Go.Proofs.YtkfkgdkfgpofnaaDoor.mcom s r1 l g with f | ⟨p2, l2, g2⟩
              · rw [hq] at e; cases e
              · rw [hq] at e
                simp only at e
                have h1 := mcom_bd s _ _ _ _ _ _ hq hps hl hg
                have h4 := mskipF_bd s n _ _ _ r1 r2 r3 e h1.2.1 h1.2.2.1 h1.2.2.2
                omega
            · rename_i c4
              injection e with e
              have e2 : (l, g) = (r2, r3) := congrArg Prod.snd e
              obtain ⟨m, rfl⟩ : ∃ m', m = m' + 1 := ⟨m - 1, by omega⟩
              rw [Go.Proofs.YtkfkgdkfgpofnaaDoor.mskipF, if_pos (by omega : r1 + 1 < u.size), hs.bt (Nat.le_refl _), if_neg c1, if_neg c2, hs.ah (Nat.le_refl _), if_neg c3, hs.ah (Nat.le_refl _), if_neg c4, if_pos rfl, ← e2]
end
end Go.Proofs.YtkfkgdkfgpofnaaDoor
/- A text with a blank put in: the tokens in front of it. No program. -/
namespace Go.Proofs.YtkfkgdkfgpofnaaDoor
open Go.RowKit
section
variable {s u : ByteArray} {a : Nat} {t t1 : St}
theorem openMark_p {m : ByteArray} {b : Bool} (e : t.openMark m b = .ok t1) : t1.p = t.p + m.size := by
  unfold St.openMark at e
  split at e
  · cases e
  · injection e with e; subst e; rfl
theorem mpartsF_le (s : ByteArray) (n : Nat) : ∀ (t t1 : St), mpartsF s n t = .ok t1 → t.p + 1 ≤ t1.p := by
  induction n with
  | zero => intro t t1 e; simp [mpartsF] at e
  | succ n ih =>
    intro t t1 e
    rw [mpartsF] at e
    rcases hm : mquoted s t.p ⟨#[34, 36]⟩ with _ | ⟨l, q⟩
    · rw [hm] at e; cases e
    · rw [hm] at e
      have hq := mquoted_bd s _ _ _ _ hm
      simp only at e
      split at e
      · injection e with e; subst e
        show t.p + 1 ≤ q + 1
        omega
      · split at e
        · have := openMark_p e
          have h2 : (St.put { t with p := q } 9 (strOfNums l) t.p q).p = q := rfl
          rw [h2] at this
          have h3 : (ByteArray.mk #[36, 123]).size = 2 := rfl
          omega
        · rcases hi : minserted s (St.put { t with p := q } 9 (strOfNums l) t.p q) with f | t2
          · rw [hi] at e; cases e
          · rw [hi] at e
            obtain ⟨c, x, h1, h2, _⟩ := minserted_ok hi (by show q < s.size; omega)
            have h3 := ih t2 t1 e
            have h4 : t2.p = wEnd s (q + 1) := by rw [h1]; rfl
            have h5 : q + 2 ≤ wEnd s (q + 1) := h2
            omega
theorem Pf.minserted (h : Pf s u a) (e : minserted s t = .ok t1) (hp : t.p < s.size) (ht : t1.p ≤ a) : minserted u t = .ok t1 := by
  obtain ⟨c, x, h1, h2, h3⟩ := minserted_ok e hp
  have h4 : t1.p = Go.Proofs.YtkfkgdkfgpofnaaDoor.wEnd s (t.p + 1) := by rw [h1]; rfl
  unfold Go.Proofs.YtkfkgdkfgpofnaaDoor.minserted at e ⊢
  rw [h.wEnd (q := t.p + 1) (by omega) (by omega), h.bt (p := t.p + 1) (by omega), show Go.Proofs.YtkfkgdkfgpofnaaDoor.sub u (t.p + 1) (Go.Proofs.YtkfkgdkfgpofnaaDoor.wEnd s (t.p + 1)) = Go.Proofs.YtkfkgdkfgpofnaaDoor.sub s (t.p + 1) (Go.Proofs.YtkfkgdkfgpofnaaDoor.wEnd s (t.p + 1)) from h.sub (by omega)]
  exact e
theorem Pf.mpartsF (h : Pf s u a) (n : Nat) : ∀ (m : Nat) (t t1 : St), mpartsF s n t = .ok t1 → t1.p ≤ a → u.size - t.p < m → mpartsF u m t = .ok t1 := by
  induction n with
  | zero => intro m t t1 e; simp [Go.Proofs.YtkfkgdkfgpofnaaDoor.mpartsF] at e
  | succ n ih =>
    intro m t t1 e ht hm
    obtain ⟨m, rfl⟩ : ∃ m', m = m' + 1 := ⟨m - 1, by omega⟩
    have hle := h.le
    have hsz := h.size
    rw [Go.Proofs.YtkfkgdkfgpofnaaDoor.mpartsF] at e ⊢
    rcases hq : Go.Proofs.YtkfkgdkfgpofnaaDoor.mquoted s t.p ⟨#[34, 36]⟩ with _ | ⟨l, q⟩
    · rw [hq] at e; cases e
    · rw [hq] at e
      have hb := mquoted_bd s _ _ _ _ hq
      simp only at e
      split at e
      · rename_i c
        have he : t1.p = q + 1 := by injection e with e; rw [← e]; rfl
        rw [h.mquoted hq (by omega)]
        simp only
        rw [h.one (q := q) (by omega), if_pos c]
        exact e
      · rename_i c
        split at e
        · rename_i c2
          have := openMark_p e
          have h2 : (St.put { t with p := q } 9 (strOfNums l) t.p q).p = q := rfl
          rw [h2] at this
          have h3 : (ByteArray.mk #[36, 123]).size = 2 := rfl
          rw [h.mquoted hq (by omega)]
          simp only
          rw [h.one (q := q) (by omega), if_neg c, h.two (q := q) (by omega), if_pos c2]
          exact e
        · rename_i c2
          rcases hi : Go.Proofs.YtkfkgdkfgpofnaaDoor.minserted s (St.put { t with p := q } 9 (strOfNums l) t.p q) with f | t2
          · rw [hi] at e; cases e
          · rw [hi] at e
            simp only at e
            obtain ⟨c3, x, h1, h2, _⟩ := minserted_ok hi (by show q < s.size; omega)
            have h4 : t2.p = Go.Proofs.YtkfkgdkfgpofnaaDoor.wEnd s (q + 1) := by rw [h1]; rfl
            have h5 : q + 2 ≤ Go.Proofs.YtkfkgdkfgpofnaaDoor.wEnd s (q + 1) := h2
            have h6 := mpartsF_le s n t2 t1 e
            rw [h.mquoted hq (by omega)]
            simp only
            rw [h.one (q := q) (by omega), if_neg c, h.two (q := q) (by omega), if_neg c2, h.minserted hi (by show q < s.size; omega) (by omega)]
            exact ih m t2 t1 e ht (by omega)
theorem Pf.mparts (h : Pf s u a) (e : mparts s t = .ok t1) (ht : t1.p ≤ a) : mparts u t = .ok t1 := by
  unfold Go.Proofs.YtkfkgdkfgpofnaaDoor.mparts at e ⊢
  exact h.mpartsF _ _ t t1 e ht (Nat.lt_succ_self _)
theorem putN_p {c : Int} {x : ByteArray} {st en : Nat} (e : t.putN c x st en = .ok t1) : t1.p = en := by
  unfold St.putN at e
  split at e
  · cases e
  · injection e with e; subst e; rfl
theorem Pf.mword (h : Pf s u a) (e : mword s t = .ok t1) (hp : t.p ≤ s.size) (ht : t1.p ≤ a) : mword u t = .ok t1 := by
  unfold Go.Proofs.YtkfkgdkfgpofnaaDoor.mword at e ⊢
  have key : Go.Proofs.YtkfkgdkfgpofnaaDoor.wEnd s t.p ≤ a := by
    split at e
    · injection e with e; rw [← e] at ht; exact ht
    · split at e
      · injection e with e; rw [← e] at ht; exact ht
      · split at e
        · rcases hi : t.putN 8 (Go.Proofs.YtkfkgdkfgpofnaaDoor.sub s t.p (Go.Proofs.YtkfkgdkfgpofnaaDoor.wEnd s t.p)) t.p (Go.Proofs.YtkfkgdkfgpofnaaDoor.wEnd s t.p + 1) with f | t2
          · rw [hi] at e; cases e
          · rw [hi] at e
            have h1 := putN_p hi
            have h2 := mpartsF_le s _ t2 t1 e
            omega
        · have := putN_p e; omega
  rw [h.wEnd hp key, show Go.Proofs.YtkfkgdkfgpofnaaDoor.sub u t.p (Go.Proofs.YtkfkgdkfgpofnaaDoor.wEnd s t.p) = Go.Proofs.YtkfkgdkfgpofnaaDoor.sub s t.p (Go.Proofs.YtkfkgdkfgpofnaaDoor.wEnd s t.p) from h.sub key]
  split at e
  · rename_i c; rw [if_pos c]; exact e
  · rename_i c; rw [if_neg c]
    split at e
    · rename_i c; rw [if_pos c]; exact e
    · rename_i c; rw [if_neg c]
      split at e
      · rename_i c3
        rcases hi : t.putN 8 (Go.Proofs.YtkfkgdkfgpofnaaDoor.sub s t.p (Go.Proofs.YtkfkgdkfgpofnaaDoor.wEnd s t.p)) t.p (Go.Proofs.YtkfkgdkfgpofnaaDoor.wEnd s t.p + 1) with f | t2
        · rw [hi] at e; cases e
        · rw [hi] at e
          have h1 := putN_p hi
          have h2 := mpartsF_le s _ t2 t1 e
          rw [h.one (q := Go.Proofs.YtkfkgdkfgpofnaaDoor.wEnd s t.p) (by omega), if_pos c3]
          exact h.mparts e ht
      · rename_i c3
        rw [if_neg ?_]
        · exact e
        · rcases Nat.lt_or_ge (Go.Proofs.YtkfkgdkfgpofnaaDoor.wEnd s t.p) a with h1 | h1
          · rw [h.one h1]; exact c3
          · rw [show Go.Proofs.YtkfkgdkfgpofnaaDoor.wEnd s t.p = a from by omega, h.oneAt 34 (by decide)]; simp
theorem Pf.msep (h : Pf s u a) (ht : t.p + 1 ≤ a) : msep u t = msep s t := by
  unfold Go.Proofs.YtkfkgdkfgpofnaaDoor.msep
  rw [show Go.Proofs.YtkfkgdkfgpofnaaDoor.sub u t.p (t.p + 1) = Go.Proofs.YtkfkgdkfgpofnaaDoor.sub s t.p (t.p + 1) from h.sub ht]
theorem Pf.mclosing (h : Pf s u a) (e : mclosing s t = .ok t1) (ht : t1.p ≤ a) : mclosing u t = .ok t1 := by
  unfold Go.Proofs.YtkfkgdkfgpofnaaDoor.mclosing at e ⊢
  rcases ho : t.op.getLast? with _ | br
  · rw [ho] at e; cases e
  · rw [ho] at e
    simp only at e ⊢
    split at e
    · rename_i c
      have key : t.p + 1 ≤ a := by
        split at e
        · have := mpartsF_le s _ _ t1 e
          have h2 : (Go.Proofs.YtkfkgdkfgpofnaaDoor.msep s { t with op := t.op.dropLast }).p = t.p + 1 := rfl
          rw [h2] at this
          omega
        · injection e with e; rw [← e] at ht; exact ht
      rw [h.bt (p := t.p) (by omega), if_pos c, h.msep (t := { t with op := t.op.dropLast }) key]
      split at e
      · rename_i c2; rw [if_pos c2]; exact h.mparts e ht
      · rename_i c2; rw [if_neg c2]; exact e
    · cases e
theorem Pf.mopening (h : Pf s u a) (e : mopening s t = .ok t1) (hp : t.p < s.size) (ht : t1.p ≤ a) : mopening u t = .ok t1 := by
  unfold Go.Proofs.YtkfkgdkfgpofnaaDoor.mopening at e ⊢
  have h1 := openMark_p e
  rw [show (Go.Proofs.YtkfkgdkfgpofnaaDoor.sub s t.p (t.p + 1)).size = 1 from by rw [ByteArray.size_extract]; omega] at h1
  rw [show Go.Proofs.YtkfkgdkfgpofnaaDoor.sub u t.p (t.p + 1) = Go.Proofs.YtkfkgdkfgpofnaaDoor.sub s t.p (t.p + 1) from h.sub (by omega)]
  exact e
theorem Pf.mdollar (h : Pf s u a) (e : mdollar s t = .ok t1) (ht : t1.p ≤ a) : mdollar u t = .ok t1 := by
  unfold Go.Proofs.YtkfkgdkfgpofnaaDoor.mdollar at e ⊢
  split at e
  · rename_i c
    have h1 := openMark_p e
    have h3 : (ByteArray.mk #[36, 123]).size = 2 := rfl
    rw [h.two (q := t.p) (by omega), if_pos c]
    exact e
  · cases e
theorem Pf.mdouble (h : Pf s u a) (e : mdouble s t = .ok t1) (ht : t1.p ≤ a) : mdouble u t = .ok t1 := by
  unfold Go.Proofs.YtkfkgdkfgpofnaaDoor.mdouble at e ⊢
  rcases hm : Go.Proofs.YtkfkgdkfgpofnaaDoor.mquoted s (t.p + 1) ⟨#[34]⟩ with _ | ⟨l, q⟩
  · rw [hm] at e; cases e
  · rw [hm] at e
    have he : t1.p = q + 1 := by injection e with e; rw [← e]; rfl
    rw [h.mquoted hm (by omega)]
    exact e
theorem Pf.msingle (h : Pf s u a) (e : msingle s t = .ok t1) (ht : t1.p ≤ a) : msingle u t = .ok t1 := by
  unfold Go.Proofs.YtkfkgdkfgpofnaaDoor.msingle at e ⊢
  split at e
  · rename_i c
    have h1 := openMark_p e
    have h3 : (ByteArray.mk #[39, 123]).size = 2 := rfl
    rw [h.two (q := t.p) (by omega), if_pos c]
    exact e
  · rename_i c
    rcases hm : Go.Proofs.YtkfkgdkfgpofnaaDoor.mquoted s (t.p + 1) ⟨#[39]⟩ with _ | ⟨l, q⟩
    · rw [hm] at e; cases e
    · rw [hm] at e
      simp only at e
      split at e
      · rename_i c2
        have hb := mquoted_bd s _ _ _ _ hm
        have he : t1.p = q + 1 := by injection e with e; rw [← e]; rfl
        rw [h.two (q := t.p) (by omega), if_neg c, h.mquoted hm (by omega)]
        simp only
        rw [if_pos c2]
        exact e
      · cases e
end
end Go.Proofs.YtkfkgdkfgpofnaaDoor
/- A text with a blank put in: operators, numbers, one token in front of it. No program. -/
namespace Go.Proofs.YtkfkgdkfgpofnaaDoor
open Go.RowKit
section
variable {s u : ByteArray} {a : Nat} {t t1 : St}
/-- No comment begins at a place. -/
def NoCom (s : ByteArray) (q : Nat) : Prop := ah s q ⟨#[47, 47]⟩ = false ∧ ah s q ⟨#[47, 42]⟩ = false
theorem Pf.opB (h : Pf s u a) {q : Nat} (hq : q < a) (hn : q + 1 = a → NoCom s q) : opB u q = opB s q := by
  unfold Go.Proofs.YtkfkgdkfgpofnaaDoor.opB
  have hle := h.le
  have hsz := h.size
  rw [h.bt hq, decide_eq_true (show q < u.size by omega), decide_eq_true (show q < s.size by omega)]
  rcases Nat.lt_or_ge (q + 1) a with h1 | h1
  · rw [h.two h1, h.two h1]
  · have h2 : q + 1 = a := by omega
    rw [h.twoAt h2 47 47 (by decide), h.twoAt h2 47 42 (by decide), (hn h2).1, (hn h2).2]
theorem Pf.oEndF (h : Pf s u a) (n : Nat) : ∀ (m q : Nat), oEndF s n q ≤ a → (oEndF s n q + 1 = a → NoCom s (oEndF s n q)) → q ≤ s.size → s.size - q < n → u.size - q < m → oEndF u m q = oEndF s n q := by
  induction n with
  | zero => intro m q _ _ _ hn _; omega
  | succ n ih =>
    intro m q hr hc hq hn hm
    obtain ⟨m, rfl⟩ : ∃ m', m = m' + 1 := ⟨m - 1, by omega⟩
    have hle := h.le
    have hsz := h.size
    rw [Go.Proofs.YtkfkgdkfgpofnaaDoor.oEndF] at hr hc ⊢
    rw [Go.Proofs.YtkfkgdkfgpofnaaDoor.oEndF]
    by_cases ho : Go.Proofs.YtkfkgdkfgpofnaaDoor.opB s q = true
    · rw [if_pos ho] at hr hc ⊢
      have hlt := opB_lt ho
      have hb := (oEndF_bd s n (q + 1) (by omega)).1
      have hno : NoCom s q := by
        unfold Go.Proofs.YtkfkgdkfgpofnaaDoor.opB at ho
        simp only [Bool.and_eq_true, Bool.not_eq_true'] at ho
        exact ⟨ho.1.2, ho.2⟩
      rw [h.opB (by omega) (fun _ => hno), if_pos ho]
      exact ih m (q + 1) hr hc (by omega) (by omega) (by omega)
    · rw [if_neg ho] at hr hc ⊢
      rcases Nat.lt_or_ge q a with hqa | hqa
      · rw [h.opB hqa hc, if_neg ho]
      · have : q = a := by omega
        subst this
        rw [if_neg]
        unfold Go.Proofs.YtkfkgdkfgpofnaaDoor.opB
        rw [h.mid]
        simp [show (cls 32 == 4) = false from by decide]
theorem Pf.oEnd (h : Pf s u a) {q : Nat} (hq : q ≤ s.size) (hr : oEnd s q ≤ a) (hc : oEnd s q + 1 = a → NoCom s (oEnd s q)) : oEnd u q = oEnd s q :=
  h.oEndF _ _ q hr hc hq (Nat.lt_succ_self _) (Nat.lt_succ_self _)
theorem Pf.moperator (h : Pf s u a) (e : moperator s t = .ok t1) (hp : t.p < s.size) (ht : t1.p ≤ a) (hc : t1.p + 1 = a → NoCom s t1.p) : moperator u t = .ok t1 := by
  unfold Go.Proofs.YtkfkgdkfgpofnaaDoor.moperator at e ⊢
  have key : t1.p = Go.Proofs.YtkfkgdkfgpofnaaDoor.oEnd s (t.p + 1) := by
    split at e
    · injection e with e; rw [← e]; rfl
    · exact putN_p e
  rw [key] at ht hc
  rw [h.oEnd (q := t.p + 1) (by omega) ht hc, show Go.Proofs.YtkfkgdkfgpofnaaDoor.sub u t.p (Go.Proofs.YtkfkgdkfgpofnaaDoor.oEnd s (t.p + 1)) = Go.Proofs.YtkfkgdkfgpofnaaDoor.sub s t.p (Go.Proofs.YtkfkgdkfgpofnaaDoor.oEnd s (t.p + 1)) from h.sub ht]
  exact e
theorem Pf.mnumber (h : Pf s u a) (e : mnumber s t = .ok t1) (hp : t.p < s.size) (hpa : t.p < a) (ht : t1.p ≤ a) : mnumber u t = .ok t1 := by
  unfold Go.Proofs.YtkfkgdkfgpofnaaDoor.mnumber at e ⊢
  have hle := h.le
  have hsz := h.size
  have hn := nEnd_bd s t.p (by omega)
  have hw : ∀ q, q ≤ a → ¬ (q < s.size ∧ wordB (Go.Proofs.YtkfkgdkfgpofnaaDoor.bt s q) = true) → ¬ (q < u.size ∧ wordB (Go.Proofs.YtkfkgdkfgpofnaaDoor.bt u q) = true) := by
    intro q hq hx hy
    rcases Nat.lt_or_ge q a with h1 | h1
    · exact hx ⟨by omega, by rw [← h.bt h1]; exact hy.2⟩
    · have h2 : q = a := by omega
      rw [h2, h.mid] at hy
      exact absurd hy.2 (by decide)
  by_cases hL : Go.Proofs.YtkfkgdkfgpofnaaDoor.ah s (Go.Proofs.YtkfkgdkfgpofnaaDoor.nEnd s t.p) ⟨#[76]⟩ = true
  · simp only [hL, if_true] at e
    split at e
    · cases e
    · rename_i c1
      split at e
      · cases e
      · rename_i c2
        injection e with e
        have key : Go.Proofs.YtkfkgdkfgpofnaaDoor.nEnd s t.p + 1 ≤ a := by rw [← e] at ht; exact ht
        have hLu : Go.Proofs.YtkfkgdkfgpofnaaDoor.ah u (Go.Proofs.YtkfkgdkfgpofnaaDoor.nEnd s t.p) ⟨#[76]⟩ = Go.Proofs.YtkfkgdkfgpofnaaDoor.ah s (Go.Proofs.YtkfkgdkfgpofnaaDoor.nEnd s t.p) ⟨#[76]⟩ := by
          rcases Nat.lt_or_ge (Go.Proofs.YtkfkgdkfgpofnaaDoor.nEnd s t.p) a with h1 | h1
          · exact h.one h1 _
          · omega
        rw [h.nEnd (by omega) (by omega), hLu, h.bt hpa, show Go.Proofs.YtkfkgdkfgpofnaaDoor.sub u t.p (Go.Proofs.YtkfkgdkfgpofnaaDoor.nEnd s t.p) = Go.Proofs.YtkfkgdkfgpofnaaDoor.sub s t.p (Go.Proofs.YtkfkgdkfgpofnaaDoor.nEnd s t.p) from h.sub (by omega)]
        simp only [hL, if_true]
        rw [if_neg (fun x => x.elim (fun x => c1 (Or.inl x)) (fun x => hw _ key (fun y => c1 (Or.inr y)) x)), if_neg c2, e]
  · simp only [hL, if_false, Bool.false_eq_true] at e
    split at e
    · cases e
    · rename_i c1
      split at e
      · cases e
      · rename_i c2
        injection e with e
        have key : Go.Proofs.YtkfkgdkfgpofnaaDoor.nEnd s t.p ≤ a := by rw [← e] at ht; exact ht
        have hLu : Go.Proofs.YtkfkgdkfgpofnaaDoor.ah u (Go.Proofs.YtkfkgdkfgpofnaaDoor.nEnd s t.p) ⟨#[76]⟩ = Go.Proofs.YtkfkgdkfgpofnaaDoor.ah s (Go.Proofs.YtkfkgdkfgpofnaaDoor.nEnd s t.p) ⟨#[76]⟩ := by
          rcases Nat.lt_or_ge (Go.Proofs.YtkfkgdkfgpofnaaDoor.nEnd s t.p) a with h1 | h1
          · exact h.one h1 _
          · rw [show Go.Proofs.YtkfkgdkfgpofnaaDoor.ah s (Go.Proofs.YtkfkgdkfgpofnaaDoor.nEnd s t.p) ⟨#[76]⟩ = false from by simpa using hL, show Go.Proofs.YtkfkgdkfgpofnaaDoor.nEnd s t.p = a from by omega]; exact h.oneAt 76 (by decide)
        rw [h.nEnd (by omega) (by omega), hLu, h.bt hpa, show Go.Proofs.YtkfkgdkfgpofnaaDoor.sub u t.p (Go.Proofs.YtkfkgdkfgpofnaaDoor.nEnd s t.p) = Go.Proofs.YtkfkgdkfgpofnaaDoor.sub s t.p (Go.Proofs.YtkfkgdkfgpofnaaDoor.nEnd s t.p) from h.sub (by omega)]
        simp only [hL, if_false, Bool.false_eq_true]
        rw [if_neg (fun x => x.elim (fun x => c1 (Or.inl x)) (fun x => hw _ key (fun y => c1 (Or.inr y)) x)), if_neg c2, e]
theorem Pf.mtok (h : Pf s u a) (e : mtok s t = .ok t1) (hg : t.Good s) (hp : t.p < s.size) (ht : t1.p ≤ a) (hc : t1.p + 1 = a → NoCom s t1.p) : mtok u t = .ok t1 := by
  have hpa := (mtok_good s t t1 hg hp e).2
  unfold Go.Proofs.YtkfkgdkfgpofnaaDoor.mtok at e ⊢
  rw [h.bt (p := t.p) (by omega)]
  split at e
  · rename_i q; rw [if_pos q]; exact h.mword e (by omega) ht
  · rename_i q; rw [if_neg q]
    split at e
    · rename_i q; rw [if_pos q]; exact h.mnumber e hp (by omega) ht
    · rename_i q; rw [if_neg q]
      split at e
      · rename_i q; rw [if_pos q]; exact h.moperator e hp ht hc
      · rename_i q; rw [if_neg q]
        split at e
        · rename_i q; rw [if_pos q]; exact h.mopening e hp ht
        · rename_i q; rw [if_neg q]
          split at e
          · rename_i q; rw [if_pos q]; exact h.mclosing e ht
          · rename_i q; rw [if_neg q]
            split at e
            · rename_i q; rw [if_pos q, h.msep (by omega)]; exact e
            · rename_i q; rw [if_neg q]
              split at e
              · rename_i q; rw [if_pos q]; exact h.msingle e ht
              · rename_i q; rw [if_neg q]
                split at e
                · rename_i q; rw [if_pos q]; exact h.mdouble e ht
                · rename_i q; rw [if_neg q]
                  split at e
                  · rename_i q; rw [if_pos q]; exact h.mdollar e ht
                  · cases e
end
end Go.Proofs.YtkfkgdkfgpofnaaDoor
/- A text with a blank put in: the run up to the token that the blank stands in front of, and the run behind it. No program. -/
namespace Go.Proofs.YtkfkgdkfgpofnaaDoor
open Go.RowKit
section
variable {s u : ByteArray} {a : Nat}
/-- The states at which a token begins. -/
def Head (s : ByteArray) : Nat → St → St → Prop
  | 0, _, _ => False
  | n + 1, t, x => x = t ∨ (t.p < s.size ∧ ∃ t1 p l g, mtok s t = .ok t1 ∧ mskip s t1.p t1.l t1.g = .ok (p, l, g) ∧ Head s n { t1 with p := p, l := l, g := g } x)
theorem next_good {t t1 : St} {p l g : Nat} (hg : t.Good s) (hlt : t.p < s.size) (hm : mtok s t = .ok t1) (hk : mskip s t1.p t1.l t1.g = .ok (p, l, g)) : ({ t1 with p := p, l := l, g := g } : St).Good s ∧ t.p < p ∧ t1.p ≤ p ∧ t1.Good s := by
  obtain ⟨g1, p1⟩ := mtok_good s t t1 hg hlt hm
  have hb := mskip_bd s _ _ _ _ _ _ hk g1.p g1.l g1.g
  exact ⟨⟨hb.2.1, hb.2.2.1, hb.2.2.2, by have := g1.out; simp only; omega, g1.op⟩, by omega, hb.1, g1⟩
theorem Head.le (n : Nat) : ∀ (t x : St), t.Good s → Head s n t x → t.p ≤ x.p := by
  induction n with
  | zero => intro t x _ h; exact h.elim
  | succ n ih =>
    intro t x hg h
    rcases h with rfl | ⟨hlt, t1, p, l, g, hm, hk, h⟩
    · exact Nat.le_refl _
    · have hn := next_good hg hlt hm hk
      have := ih _ x hn.1 h
      have h2 : ({ t1 with p := p, l := l, g := g } : St).p = p := rfl
      omega
theorem noCom_skip {q l g : Nat} {r : Nat × Nat × Nat} (e : mskip s q l g = .ok r) (hq : q ≤ s.size) (hl : l ≤ q) (hg : g ≤ q) (hr : r.1 ≤ q + 1) : NoCom s q := by
  obtain ⟨r1, r2, r3⟩ := r
  unfold Go.Proofs.YtkfkgdkfgpofnaaDoor.mskip at e
  rw [mskipF] at e
  have hx : ∀ c : UInt8, ah s q ⟨#[47, c]⟩ = true → q < s.size ∧ bt s q = 47 := by
    intro c h
    rw [ah_two, ah_one, Bool.and_eq_true, decide_eq_true_eq] at h
    exact ⟨h.1.1, h.1.2⟩
  constructor
  · cases hc : ah s q ⟨#[47, 47]⟩ with
    | false => rfl
    | true =>
      exfalso
      obtain ⟨h1, h2⟩ := hx _ hc
      have h3 := lcEnd_two hc
      have h4 := lcEnd_bd s q hq
      rw [if_pos h1, if_neg (by omega), if_neg (by rw [h2]; decide), if_pos hc] at e
      have := mskipF_bd s _ _ _ _ r1 r2 r3 e h4.2 (by omega) (by omega)
      simp only at hr
      omega
  · cases hc : ah s q ⟨#[47, 42]⟩ with
    | false => rfl
    | true =>
      exfalso
      obtain ⟨h1, h2⟩ := hx _ hc
      have hn : ¬ ah s q ⟨#[47, 47]⟩ = true := by
        intro h
        rw [ah_two, Bool.and_eq_true, ah_one, ah_one, decide_eq_true_eq, decide_eq_true_eq] at h hc
        have h5 := h.2.2
        rw [hc.2.2] at h5
        exact absurd h5 (by decide)
      rw [if_pos h1, if_neg (by omega), if_neg (by rw [h2]; decide), if_neg hn, if_pos hc] at e
      rcases hm : mcom s q l g with f | ⟨p2, l2, g2⟩
      · rw [hm] at e; cases e
      · rw [hm] at e
        simp only at e
        have h3 := mcom_bd s _ _ _ _ _ _ hm hq hl hg
        have h4 := mskipF_bd s _ _ _ _ r1 r2 r3 e h3.2.1 h3.2.2.1 h3.2.2.2
        have h5 : q + 2 ≤ p2 := by
          unfold mcom at hm
          rcases hx2 : mcomF s (s.size - q + 1) q 0 l g with _ | y
          · rw [hx2] at hm; cases hm
          · rw [hx2] at hm
            injection hm with hm
            have := mcomF_two s _ q 0 l g y hx2
            rw [hm] at this
            exact this
        simp only at hr
        omega
/-- Up to the token that the blank stands in front of, the two runs are one; there they are one place apart. -/
theorem Pf.run (h : Pf s u a) (hs : Sh s u a) (ha : a < s.size) (n : Nat) : ∀ (m : Nat) (t x : St), t.Good s → t.p < a → Head s n t x → x.p = a → u.size - t.p < m → ∃ n' m', mallF s n t = mallF s n' x ∧ mallF u m t = mallF u m' { x with p := a + 1 } ∧ u.size - (a + 1) < m' ∧ x.Good s ∧ n' ≤ n ∧ n' + m = n + m' := by
  induction n with
  | zero => intro m t x _ _ hh; exact hh.elim
  | succ n ih =>
    intro m t x hg hp hh hx hm
    obtain ⟨m, rfl⟩ : ∃ m', m = m' + 1 := ⟨m - 1, by omega⟩
    have hsz := h.size
    rcases hh with rfl | ⟨hlt, t1, p, l, g, hk, hq, hh⟩
    · omega
    · obtain ⟨g1, p1, p2, g2⟩ := next_good hg hlt hk hq
      have hle := Head.le n _ x g1 hh
      have hle2 : p ≤ a := by have h2 : ({ t1 with p := p, l := l, g := g } : St).p = p := rfl; omega
      have hc : t1.p + 1 = a → NoCom s t1.p := fun e => noCom_skip hq g2.p g2.l g2.g (by show p ≤ t1.p + 1; omega)
      have e1 := h.mtok hk hg hlt (by omega) hc
      have e2 : mskip u t1.p t1.l t1.g = .ok (if p = a then a + 1 else p, l, g) := by
        unfold Go.Proofs.YtkfkgdkfgpofnaaDoor.mskip at hq ⊢
        exact h.mskipF hs ha _ _ t1.p t1.l t1.g (p, l, g) hq hle2 g2.l g2.g (Nat.lt_succ_self _)
      rw [mallF, mallF, if_pos hlt, if_pos (by omega : t.p < u.size), hk, e1]
      simp only [hq, e2]
      rcases Nat.lt_or_ge p a with hpa | hpa
      · rw [if_neg (by omega)]
        obtain ⟨n', m', r1, r2, r3, r4, r5, r6⟩ := ih m { t1 with p := p, l := l, g := g } x g1 hpa hh hx (by show u.size - p < m; omega)
        exact ⟨n', m', r1, r2, r3, r4, by omega, by omega⟩
      · have hpe : p = a := by omega
        subst hpe
        rw [if_pos rfl]
        rcases n with _ | n
        · exact hh.elim
        · rcases hh with rfl | ⟨hlt2, t2, p3, l3, g3, hk2, hq2, hh2⟩
          · exact ⟨n + 1, m, rfl, rfl, by omega, g1, by omega, by omega⟩
          · exfalso
            obtain ⟨g4, p4, p5, _⟩ := next_good g1 hlt2 hk2 hq2
            have h6 := Head.le n _ x g4 hh2
            have h2 : ({ t2 with p := p3, l := l3, g := g3 } : St).p = p3 := rfl
            have h3 : ({ t1 with p := p, l := l, g := g } : St).p = p := rfl
            omega
end
end Go.Proofs.YtkfkgdkfgpofnaaDoor
/- More fuel changes nothing: the tokens of a text. No program. -/
namespace Go.Proofs.YtkfkgdkfgpofnaaDoor
open Go.RowKit
theorem mallF_more (s : ByteArray) (n : Nat) : ∀ (m : Nat) (t T : St), n ≤ m → mallF s n t = .ok T → mallF s m t = .ok T := by
  induction n with
  | zero => intro m t T _ e; simp [mallF] at e
  | succ n ih =>
    intro m t T hm e
    obtain ⟨m, rfl⟩ : ∃ m', m = m' + 1 := ⟨m - 1, by omega⟩
    rw [mallF] at e ⊢
    split at e
    · rename_i c
      rw [if_pos c]
      rcases h1 : mtok s t with f | t1
      · rw [h1] at e; cases e
      · rw [h1] at e
        simp only at e ⊢
        rcases h2 : mskip s t1.p t1.l t1.g with f | ⟨p, l, g⟩
        · rw [h2] at e; cases e
        · rw [h2] at e
          exact ih m _ T (by omega) e
    · rename_i c
      rw [if_neg c]
      exact e
/-- The fault of a text with a blank put in. -/
theorem mbadF_ok (s : ByteArray) (n : Nat) : ∀ k, s.size - k < n → (mbadF s n k = (0, 0) ↔ ∀ q, k ≤ q → q < s.size → badB (bt s q) = false) := by
  induction n with
  | zero => intro k h; omega
  | succ n ih =>
    intro k h
    rw [mbadF]
    by_cases hk : k < s.size
    · rw [if_pos hk]
      by_cases hb : badB (bt s k) = true
      · rw [if_pos hb]
        constructor
        · intro e; cases e
        · intro hq
          have := hq k (Nat.le_refl _) hk
          rw [hb] at this; cases this
      · rw [if_neg hb, ih (k + 1) (by omega)]
        constructor
        · intro hq q h1 h2
          rcases Nat.eq_or_lt_of_le h1 with rfl | h3
          · simpa using hb
          · exact hq q h3 h2
        · intro hq q h1 h2; exact hq q (by omega) h2
    · rw [if_neg hk]
      exact ⟨fun _ q h1 h2 => by omega, fun _ => rfl⟩
theorem Pf.mbad {s u : ByteArray} {a : Nat} (h : Pf s u a) (hs : Sh s u a) (e : mbad s = (0, 0)) : mbad u = (0, 0) := by
  unfold Go.Proofs.YtkfkgdkfgpofnaaDoor.mbad at e ⊢
  rw [mbadF_ok _ _ _ (by omega)] at e ⊢
  intro q _ hq
  have hle := h.le
  have hsz := h.size
  rcases Nat.lt_or_ge q a with h1 | h1
  · rw [h.bt h1]; exact e q (Nat.zero_le _) (by omega)
  · rcases Nat.eq_or_lt_of_le h1 with h2 | h2
    · rw [← h2, h.mid]; decide
    · obtain ⟨r, rfl⟩ : ∃ r, q = r + 1 := ⟨q - 1, by omega⟩
      rw [hs.bt (by omega)]
      exact e r (Nat.zero_le _) (by omega)
end Go.Proofs.YtkfkgdkfgpofnaaDoor
/- What one call adds: its first token stands where it began; behind it, within the call, an interpolated string is open. No program. -/
namespace Go.Proofs.YtkfkgdkfgpofnaaDoor
open Go.RowKit
def insS (d : Int) (x : Tok) : Int := if x.kind = 8 then d + 1 else if x.kind = 10 then d - 1 else d
/-- How many interpolated strings are open behind a list. -/
def ins (l : List Tok) : Int := l.foldl insS 0
def opIns (op : List Br) : Int := ((op.filter (fun b => b.inside)).length : Int)
theorem ins_app (l : List Tok) (x : Tok) : ins (l ++ [x]) = insS (ins l) x := by unfold ins; rw [List.foldl_append]; rfl
theorem opIns_app (op : List Br) (b : Br) : opIns (op ++ [b]) = opIns op + if b.inside = true then 1 else 0 := by
  unfold opIns
  rw [List.filter_append, List.length_append]
  cases hb : b.inside <;> simp [hb]
theorem opIns_nn (op : List Br) : 0 ≤ opIns op := by unfold opIns; omega
theorem opIns_last {op : List Br} {b : Br} (h : op.getLast? = some b) : opIns op = opIns op.dropLast + if b.inside = true then 1 else 0 := by
  have hne : op ≠ [] := by intro e; rw [e] at h; cases h
  have e := List.dropLast_concat_getLast hne
  rw [List.getLast?_eq_some_getLast hne] at h
  injection h with h
  rw [h] at e
  rw [← opIns_app, e]
/-- What stands between two states. -/
def Mid (t t1 : St) : Prop := ∃ new, t1.out = t.out ++ new ∧ new ≠ [] ∧ ∀ j, 1 ≤ j → j < new.length → 1 ≤ ins (t.out ++ new.take j)
/-- What one call adds. -/
structure Grow (t t1 : St) : Prop where
  mid : ∃ x new, t1.out = t.out ++ x :: new ∧ x.at_ = (t.p : Int) ∧ ∀ j, j < new.length → 1 ≤ ins (t.out ++ x :: new.take j)
  ins : Go.Proofs.YtkfkgdkfgpofnaaDoor.ins t1.out = opIns t1.op
theorem Grow.one {t t1 : St} {x : Tok} (h : t1.out = t.out ++ [x]) (hx : x.at_ = (t.p : Int)) (hi : insS (Go.Proofs.YtkfkgdkfgpofnaaDoor.ins t.out) x = opIns t1.op) : Grow t t1 :=
  ⟨⟨x, [], h, hx, fun j hj => by simp at hj⟩, by rw [h, ins_app]; exact hi⟩
theorem putN_out {t t1 : St} {c : Int} {x : ByteArray} {st en : Nat} (e : t.putN c x st en = .ok t1) : t1 = t.put c x st en := by
  unfold St.putN at e
  split at e
  · cases e
  · injection e with e; exact e.symm
theorem openMark_out {t t1 : St} {m : ByteArray} {b : Bool} (e : t.openMark m b = .ok t1) : t1 = (t.opens m b).put 3 m t.p (t.p + m.size) := by
  unfold St.openMark at e
  split at e
  · cases e
  · injection e with e; exact e.symm
/-- The parts of a string that is open. -/
theorem mpartsF_mid (s : ByteArray) (n : Nat) : ∀ (t t1 : St), ins t.out = opIns t.op + 1 → mpartsF s n t = .ok t1 →
    (∃ new, t1.out = t.out ++ new ∧ ∀ j, j < new.length → 1 ≤ ins (t.out ++ new.take j)) ∧ ins t1.out = opIns t1.op := by
  induction n with
  | zero => intro t t1 _ e; simp [mpartsF] at e
  | succ n ih =>
    intro t t1 hi e
    have h0 := opIns_nn t.op
    rw [mpartsF] at e
    rcases hm : mquoted s t.p ⟨#[34, 36]⟩ with _ | ⟨l, q⟩
    · rw [hm] at e; cases e
    · rw [hm] at e
      simp only at e
      obtain ⟨pt, hpt⟩ : ∃ pt : Tok, pt = ⟨9, strOfNums l, t.p, t.l, (t.p : Int) - t.g⟩ := ⟨_, rfl⟩
      have ho : (St.put { t with p := q } 9 (strOfNums l) t.p q).out = t.out ++ [pt] := by rw [hpt]; rfl
      have hpk : pt.kind = 9 := by rw [hpt]
      have hip : ins (t.out ++ [pt]) = ins t.out := by rw [ins_app]; unfold insS; rw [if_neg (by omega), if_neg (by omega)]
      split at e
      · injection e with e
        refine ⟨⟨[pt, ⟨10, ⟨#[]⟩, q, t.l, (q : Int) - t.g⟩], ?_, ?_⟩, ?_⟩
        · rw [← e]; show (St.put { t with p := q } 9 (strOfNums l) t.p q).out ++ _ = _; rw [ho, List.append_assoc]; rfl
        · intro j hj
          have : j = 0 ∨ j = 1 := by simp at hj; omega
          rcases this with rfl | rfl
          · simp; omega
          · show 1 ≤ ins (t.out ++ [pt]); omega
        · rw [← e]
          show ins ((St.put { t with p := q } 9 (strOfNums l) t.p q).out ++ [⟨10, ⟨#[]⟩, q, t.l, (q : Int) - t.g⟩]) = opIns t.op
          rw [ins_app, ho, hip]
          simp [insS]; omega
      · split at e
        · have e1 := openMark_out e
          refine ⟨⟨[pt, ⟨3, ⟨#[36, 123]⟩, q, t.l, (q : Int) - t.g⟩], ?_, ?_⟩, ?_⟩
          · rw [e1]; show (St.put { t with p := q } 9 (strOfNums l) t.p q).out ++ _ = _; rw [ho, List.append_assoc]; rfl
          · intro j hj
            have : j = 0 ∨ j = 1 := by simp at hj; omega
            rcases this with rfl | rfl
            · simp; omega
            · show 1 ≤ ins (t.out ++ [pt]); omega
          · rw [e1]
            show ins ((St.put { t with p := q } 9 (strOfNums l) t.p q).out ++ [⟨3, ⟨#[36, 123]⟩, q, t.l, (q : Int) - t.g⟩]) = opIns (t.op ++ [_])
            rw [ins_app, ho, hip, opIns_app]
            simp [insS]; omega
        · rcases hq : minserted s (St.put { t with p := q } 9 (strOfNums l) t.p q) with f | t2
          · rw [hq] at e; cases e
          · rw [hq] at e
            simp only at e
            have hx : ∃ x : Tok, t2.out = t.out ++ [pt] ++ [x] ∧ (x.kind = 0 ∨ x.kind = 1) ∧ t2.op = t.op := by
              unfold minserted at hq
              split at hq
              · cases hq
              · split at hq
                · injection hq with hq
                  rw [← hq, ← ho]
                  exact ⟨_, rfl, Or.inr rfl, rfl⟩
                · have := putN_out hq
                  rw [this, ← ho]
                  exact ⟨_, rfl, Or.inl rfl, rfl⟩
            obtain ⟨x, hx1, hx2, hx3⟩ := hx
            have hix : ins (t.out ++ [pt] ++ [x]) = ins t.out := by rw [ins_app, hip]; unfold insS; rw [if_neg (by omega), if_neg (by omega)]
            obtain ⟨⟨new, hn1, hn2⟩, hn3⟩ := ih t2 t1 (by rw [hx1, hix, hx3]; exact hi) e
            refine ⟨⟨pt :: x :: new, by rw [hn1, hx1]; simp, ?_⟩, hn3⟩
            intro j hj
            rcases j with _ | j
            · simp; omega
            · rcases j with _ | j
              · show 1 ≤ ins (t.out ++ [pt]); omega
              · have := hn2 j (by simp at hj; omega)
                rw [hx1] at this
                simpa using this
end Go.Proofs.YtkfkgdkfgpofnaaDoor
/- What each call adds. No program. -/
namespace Go.Proofs.YtkfkgdkfgpofnaaDoor
open Go.RowKit
section
variable {s : ByteArray} {t t1 : St}
theorem grow_put {c : Int} {x : ByteArray} {en : Nat} (hi : ins t.out = opIns t.op) (h8 : c ≠ 8) (h10 : c ≠ 10) (e : t1 = t.put c x t.p en) : Grow t t1 := by
  subst e
  exact Grow.one rfl rfl (by show insS (ins t.out) ⟨c, x, t.p, t.l, (t.p : Int) - t.g⟩ = opIns t.op; unfold insS; rw [if_neg h8, if_neg h10]; exact hi)
theorem grow_putN {c : Int} {x : ByteArray} {en : Nat} (hi : ins t.out = opIns t.op) (h8 : c ≠ 8) (h10 : c ≠ 10) (e : t.putN c x t.p en = .ok t1) : Grow t t1 := grow_put hi h8 h10 (putN_out e)
theorem grow_open {m : ByteArray} (hi : ins t.out = opIns t.op) (e : t.openMark m false = .ok t1) : Grow t t1 := by
  have h := openMark_out e
  subst h
  exact Grow.one (x := ⟨3, m, t.p, t.l, (t.p : Int) - t.g⟩) rfl rfl (by show insS (ins t.out) ⟨3, m, t.p, t.l, (t.p : Int) - t.g⟩ = opIns (t.op ++ [_]); rw [opIns_app]; simp [insS]; exact hi)
theorem mword_grow (hi : ins t.out = opIns t.op) (e : mword s t = .ok t1) : Grow t t1 := by
  unfold mword at e
  split at e
  · injection e with e; exact grow_put hi (by decide) (by decide) e.symm
  · split at e
    · injection e with e; exact grow_put hi (by decide) (by decide) e.symm
    · split at e
      · rcases hq : t.putN 8 (sub s t.p (wEnd s t.p)) t.p (wEnd s t.p + 1) with f | t2
        · rw [hq] at e; cases e
        · rw [hq] at e
          have h2 := putN_out hq
          obtain ⟨x, hx⟩ : ∃ x : Tok, x = ⟨8, sub s t.p (wEnd s t.p), t.p, t.l, (t.p : Int) - t.g⟩ := ⟨_, rfl⟩
          have ho : t2.out = t.out ++ [x] := by rw [h2, hx]; rfl
          have hop : t2.op = t.op := by rw [h2]; rfl
          have hi2 : ins t2.out = opIns t2.op + 1 := by rw [ho, hop, ins_app, hx]; simp [insS]; exact hi
          obtain ⟨⟨new, h3, h4⟩, h5⟩ := mpartsF_mid s _ t2 t1 hi2 e
          refine ⟨⟨x, new, by rw [h3, ho]; simp, by rw [hx], fun j hj => ?_⟩, h5⟩
          have := h4 j hj
          rw [ho] at this
          simpa using this
      · exact grow_putN hi (by decide) (by decide) e
theorem mclosing_grow (hi : ins t.out = opIns t.op) (e : mclosing s t = .ok t1) : Grow t t1 := by
  unfold mclosing at e
  rcases ho : t.op.getLast? with _ | br
  · rw [ho] at e; cases e
  · rw [ho] at e
    have hl := opIns_last ho
    simp only at e
    split at e
    · obtain ⟨x, hx⟩ : ∃ x : Tok, x = ⟨3, sub s t.p (t.p + 1), t.p, t.l, (t.p : Int) - t.g⟩ := ⟨_, rfl⟩
      have h1 : (msep s { t with op := t.op.dropLast }).out = t.out ++ [x] := by rw [hx]; rfl
      have h2 : (msep s { t with op := t.op.dropLast }).op = t.op.dropLast := rfl
      have hix : ins (t.out ++ [x]) = ins t.out := by rw [ins_app, hx]; simp [insS]
      split at e
      · rename_i hb
        rw [if_pos hb] at hl
        obtain ⟨⟨new, h3, h4⟩, h5⟩ := mpartsF_mid s _ _ t1 (by rw [h1, h2, hix, hi, hl]) e
        refine ⟨⟨x, new, by rw [h3, h1]; simp, by rw [hx], fun j hj => ?_⟩, h5⟩
        have := h4 j hj
        rw [h1] at this
        simpa using this
      · rename_i hb
        rw [if_neg hb] at hl
        injection e with e
        subst e
        exact Grow.one h1 (by rw [hx]) (by rw [← ins_app, hix, h2]; omega)
    · cases e
theorem mtok_grow (hi : ins t.out = opIns t.op) (e : mtok s t = .ok t1) : Grow t t1 := by
  unfold mtok at e
  split at e
  · exact mword_grow hi e
  · split at e
    · unfold mnumber at e
      by_cases hL : ah s (nEnd s t.p) ⟨#[76]⟩ = true
      · simp only [hL, if_true] at e
        split at e
        · cases e
        · split at e
          · cases e
          · injection e with e; exact grow_put hi (by decide) (by decide) e.symm
      · simp only [hL, if_false, Bool.false_eq_true] at e
        split at e
        · cases e
        · split at e
          · cases e
          · injection e with e; exact grow_put hi (by decide) (by decide) e.symm
    · split at e
      · unfold moperator at e
        split at e
        · injection e with e; exact grow_put hi (by decide) (by decide) e.symm
        · exact grow_putN hi (by decide) (by decide) e
      · split at e
        · exact grow_open hi e
        · split at e
          · exact mclosing_grow hi e
          · split at e
            · injection e with e; exact grow_put hi (by decide) (by decide) e.symm
            · split at e
              · unfold msingle at e
                split at e
                · exact grow_open hi e
                · rcases hm : mquoted s (t.p + 1) ⟨#[39]⟩ with _ | ⟨l, q⟩
                  · rw [hm] at e; cases e
                  · rw [hm] at e
                    simp only at e
                    split at e
                    · injection e with e; subst e
                      exact Grow.one (x := ⟨6, strOfNums l, t.p, t.l, (t.p : Int) - t.g⟩) rfl rfl (by show insS (ins t.out) _ = opIns t.op; simp [insS]; exact hi)
                    · cases e
              · split at e
                · unfold mdouble at e
                  rcases hm : mquoted s (t.p + 1) ⟨#[34]⟩ with _ | ⟨l, q⟩
                  · rw [hm] at e; cases e
                  · rw [hm] at e
                    injection e with e; subst e
                    exact Grow.one (x := ⟨7, strOfNums l, t.p, t.l, (t.p : Int) - t.g⟩) rfl rfl (by show insS (ins t.out) _ = opIns t.op; simp [insS]; exact hi)
                · split at e
                  · unfold mdollar at e
                    split at e
                    · exact grow_open hi e
                    · cases e
                  · cases e
end
end Go.Proofs.YtkfkgdkfgpofnaaDoor
/- Each token begins at a head, or inside of an interpolated string. No program. -/
namespace Go.Proofs.YtkfkgdkfgpofnaaDoor
open Go.RowKit
def Tz2 : Tok := ⟨0, .empty, 0, 0, 0⟩
theorem mallF_ext (s : ByteArray) (n : Nat) : ∀ (t T : St), ins t.out = opIns t.op → mallF s n t = .ok T → ∃ r, T.out = t.out ++ r := by
  induction n with
  | zero => intro t T _ e; simp [mallF] at e
  | succ n ih =>
    intro t T hi e
    rw [mallF] at e
    split at e
    · rcases h1 : mtok s t with f | t1
      · rw [h1] at e; cases e
      · rw [h1] at e
        simp only at e
        rcases h2 : mskip s t1.p t1.l t1.g with f | ⟨p, l, g⟩
        · rw [h2] at e; cases e
        · rw [h2] at e
          have hg := mtok_grow hi h1
          obtain ⟨x, new, h3, _, _⟩ := hg.mid
          obtain ⟨r, hr⟩ := ih { t1 with p := p, l := l, g := g } T hg.ins e
          exact ⟨x :: new ++ r, by rw [hr]; show t1.out ++ r = _; rw [h3]; simp⟩
    · rcases ho : t.op.getLast? with _ | br
      · rw [ho] at e; injection e with e; subst e; exact ⟨[], by simp⟩
      · rw [ho] at e; cases e
theorem mallF_heads (s : ByteArray) (n : Nat) : ∀ (t T : St), ins t.out = opIns t.op → mallF s n t = .ok T → ∀ k, t.out.length ≤ k → k < T.out.length →
    (∃ x, Head s n t x ∧ x.out = T.out.take k ∧ (T.out.getD k Tz2).at_ = (x.p : Int) ∧ x.p < s.size) ∨ 1 ≤ ins (T.out.take k) := by
  induction n with
  | zero => intro t T _ e; simp [mallF] at e
  | succ n ih =>
    intro t T hi e k hk hkT
    have hext := mallF_ext s (n + 1) t T hi e
    rw [mallF] at e
    split at e
    · rename_i hlt
      rcases h1 : mtok s t with f | t1
      · rw [h1] at e; cases e
      · rw [h1] at e
        simp only at e
        rcases h2 : mskip s t1.p t1.l t1.g with f | ⟨p, l, g⟩
        · rw [h2] at e; cases e
        · rw [h2] at e
          have hg := mtok_grow hi h1
          obtain ⟨x, new, h3, h4, h5⟩ := hg.mid
          obtain ⟨r, hr⟩ := mallF_ext s n { t1 with p := p, l := l, g := g } T hg.ins e
          have hr2 : T.out = t.out ++ x :: (new ++ r) := by rw [hr]; show t1.out ++ r = _; rw [h3]; simp
          rcases Nat.lt_or_ge k t1.out.length with hk1 | hk1
          · rcases Nat.eq_or_lt_of_le hk with hk0 | hk0
            · left
              refine ⟨t, Or.inl rfl, ?_, ?_, hlt⟩
              · rw [hr2, ← hk0, List.take_left']
                rfl
              · rw [hr2, ← hk0, List.getD_eq_getElem?_getD, List.getElem?_append_right (Nat.le_refl _), Nat.sub_self]
                exact h4
            · right
              have hj : k - t.out.length - 1 < new.length := by rw [h3] at hk1; simp at hk1; omega
              have := h5 (k - t.out.length - 1) hj
              have e2 : T.out.take k = t.out ++ x :: new.take (k - t.out.length - 1) := by
                rw [hr2, List.take_append, List.take_of_length_le (by omega)]
                congr 1
                rw [show k - t.out.length = (k - t.out.length - 1) + 1 from by omega, List.take_succ_cons, List.take_append_of_le_length (by omega)]
                rfl
              rw [e2]; exact this
          · rcases ih { t1 with p := p, l := l, g := g } T hg.ins e k hk1 hkT with ⟨y, h6, h7, h8, h9⟩ | h6
            · exact Or.inl ⟨y, Or.inr ⟨hlt, t1, p, l, g, h1, h2, h6⟩, h7, h8, h9⟩
            · exact Or.inr h6
    · rcases ho : t.op.getLast? with _ | br
      · rw [ho] at e; injection e with e; subst e; omega
      · rw [ho] at e; cases e
end Go.Proofs.YtkfkgdkfgpofnaaDoor
/- A blank in front of a token that is not inside of an interpolated string changes only places: of the model of Raw. No program. -/
namespace Go.Proofs.YtkfkgdkfgpofnaaDoor
open Go.RowKit
theorem mbadF_zero (s : ByteArray) (n : Nat) : ∀ k, (mbadF s n k).2 = 0 → mbadF s n k = (0, 0) := by
  induction n with
  | zero => intro k _; rfl
  | succ n ih =>
    intro k h
    rw [mbadF] at h ⊢
    split at h
    · rename_i c
      rw [if_pos c]
      split at h
      · cases h
      · rename_i c2; rw [if_neg c2]; exact ih _ h
    · rename_i c; rw [if_neg c]
theorem raw_blank {s u : ByteArray} {a k : Nat} {L : List Tok} (hL : mraw s = .ok L) (hk : k < L.length) (hi : ins (L.take k) ≤ 0) (h : Pf s u a) (hs : Sh s u a) (ha : (L.getD k Tz2).at_ = (a : Int)) (ha2 : a < s.size) :
    ∃ L' B', mraw u = .ok L' ∧ L' = L.take k ++ B' ∧ B'.map pr0 = (L.drop k).map pr1 := by
  unfold mraw at hL
  split at hL
  · cases hL
  · rename_i hb
    have hb1 : (mbad s).2 = 0 := by simpa using hb
    have hb2 : mbad s = (0, 0) := mbadF_zero s _ 0 hb1
    rcases hT : mall s st0 with f | T
    · rw [hT] at hL; cases hL
    · rw [hT] at hL
      injection hL with hL
      subst hL
      have hbu := h.mbad hs hb2
      have hsz := h.size
      unfold mall at hT
      rcases hq : mskip s st0.p st0.l st0.g with f | ⟨p, l, g⟩
      · rw [hq] at hT; cases hT
      · rw [hq] at hT
        simp only at hT
        have hbd := mskip_bd s _ _ _ _ _ _ hq (Nat.zero_le _) (Nat.le_refl _) (Nat.le_refl _)
        have hg0 : ({ st0 with p := p, l := l, g := g } : St).Good s := ⟨hbd.2.1, hbd.2.2.1, hbd.2.2.2, Nat.zero_le _, Nat.zero_le _⟩
        have hh := mallF_heads s _ _ T (show ins [] = opIns [] from rfl) hT k (Nat.zero_le _) hk
        rcases hh with ⟨x, h1, h2, h3, _⟩ | h1
        · have hxa : x.p = a := by rw [ha] at h3; omega
          have hle := Head.le _ _ x hg0 h1
          have hpa : p ≤ a := by have e : ({ st0 with p := p, l := l, g := g } : St).p = p := rfl; omega
          have e2 : mskip u st0.p st0.l st0.g = .ok (if p = a then a + 1 else p, l, g) := by
            unfold mskip at hq ⊢
            exact h.mskipF hs ha2 _ _ _ _ _ (p, l, g) hq hpa (Nat.le_refl _) (Nat.le_refl _) (Nat.lt_succ_self _)
          have hrt : Rt k x { x with p := a + 1 } := ⟨by rw [hxa], rfl, ⟨x.out, [], [], by simp, by simp, rfl, by rw [h2]; simp; omega⟩, rfl⟩
          have key : ∃ T', mallF u (u.size + 1) { st0 with p := if p = a then a + 1 else p, l := l, g := g } = .ok T' ∧ Rt k T T' := by
            rcases Nat.lt_or_ge p a with hlt | hge
            · rw [if_neg (by omega)]
              obtain ⟨n', m', r1, r2, r3, r4, r5, r6⟩ := h.run hs ha2 _ (u.size + 1) _ x hg0 hlt h1 hxa (by show u.size - p < _; omega)
              rw [r1] at hT
              obtain ⟨T', e3, r7⟩ := hs.mallF n' x { x with p := a + 1 } T hrt r4 (by omega) hT
              refine ⟨T', ?_, r7⟩
              rw [r2]
              exact mallF_more u n' m' _ T' (by omega) e3
            · have hpe : p = a := by omega
              subst hpe
              rw [if_pos rfl]
              have hx : x = { st0 with p := p, l := l, g := g } := by
                rcases h1 with h1 | ⟨hlt, t1, p2, l2, g2, hm, hk2, hh2⟩
                · exact h1
                · exfalso
                  obtain ⟨g3, p3, _, _⟩ := next_good hg0 hlt hm hk2
                  have := Head.le _ _ x g3 hh2
                  have e3 : ({ t1 with p := p2, l := l2, g := g2 } : St).p = p2 := rfl
                  have e4 : ({ st0 with p := p, l := l, g := g } : St).p = p := rfl
                  omega
              subst hx
              obtain ⟨T', e3, r7⟩ := hs.mallF _ _ _ T hrt hg0 (Nat.le_refl _) hT
              exact ⟨T', mallF_more u _ (u.size + 1) _ T' (by omega) e3, r7⟩
          obtain ⟨T', e3, r7⟩ := key
          obtain ⟨A, B, B', o1, o2, o3, o4⟩ := r7.out
          refine ⟨T'.out, B', ?_, ?_, ?_⟩
          · unfold mraw
            rw [hbu]
            have : mall u st0 = .ok T' := by
              unfold mall
              rw [e2]
              exact e3
            rw [this]
            rfl
          · rw [o2, o1, List.take_left' o4]
          · rw [o3, o1, List.drop_left' o4]
        · omega
/-- The place of a token that is not inside of an interpolated string. -/
theorem raw_place {s : ByteArray} {k : Nat} {L : List Tok} (hL : mraw s = .ok L) (hk : k < L.length) (hi : ins (L.take k) ≤ 0) : ∃ a : Nat, (L.getD k Tz2).at_ = (a : Int) ∧ a < s.size := by
  unfold mraw at hL
  split at hL
  · cases hL
  · rcases hT : mall s st0 with f | T
    · rw [hT] at hL; cases hL
    · rw [hT] at hL
      injection hL with hL
      subst hL
      unfold mall at hT
      rcases hq : mskip s st0.p st0.l st0.g with f | ⟨p, l, g⟩
      · rw [hq] at hT; cases hT
      · rw [hq] at hT
        simp only at hT
        rcases mallF_heads s _ _ T (show ins [] = opIns [] from rfl) hT k (Nat.zero_le _) hk with ⟨x, _, _, h3, h4⟩ | h1
        · exact ⟨x.p, h3, h4⟩
        · omega
end Go.Proofs.YtkfkgdkfgpofnaaDoor
/- The text with a blank put in. No program. -/
namespace Go.Proofs.YtkfkgdkfgpofnaaDoor
open Go.RowKit
/-- A text with a blank put in at a place. -/
def blanked (s : ByteArray) (a : Nat) : ByteArray := s.extract 0 a ++ ⟨#[32]⟩ ++ s.extract a s.size
theorem blanked_list (s : ByteArray) (a : Nat) : (blanked s a).data.toList = s.data.toList.take a ++ 32 :: s.data.toList.drop a := by
  unfold blanked
  have hsz : s.data.toList.length = s.size := Array.length_toList
  rw [ByteArray.data_append, ByteArray.data_append, Array.toList_append, Array.toList_append, ByteArray.data_extract, ByteArray.data_extract, Array.toList_extract, Array.toList_extract, List.extract_eq_take_drop, List.extract_eq_take_drop]
  rw [List.drop_zero, Nat.sub_zero, List.take_of_length_le (l := s.data.toList.drop a) (by rw [List.length_drop, hsz]; omega), List.append_assoc]
  rfl
theorem blanked_size {s : ByteArray} {a : Nat} (ha : a ≤ s.size) : (blanked s a).size = s.size + 1 := by
  have hsz : s.data.toList.length = s.size := Array.length_toList
  have h : (blanked s a).data.toList.length = (blanked s a).size := Array.length_toList
  rw [blanked_list] at h
  simp only [List.length_append, List.length_take, List.length_cons, List.length_drop, hsz] at h
  omega
theorem blanked_sh {s : ByteArray} {a : Nat} (ha : a ≤ s.size) : Sh s (blanked s a) a := by
  refine ⟨blanked_size ha, fun p hp => ?_⟩
  have hsz : s.data.toList.length = s.size := Array.length_toList
  rw [blanked_list, List.drop_append, List.drop_of_length_le (by rw [List.length_take]; omega), List.nil_append, List.length_take, Nat.min_eq_left (by omega)]
  rw [show p + 1 - a = (p - a) + 1 from by omega, List.drop_succ_cons, List.drop_drop]
  congr 1
  omega
theorem blanked_pf {s : ByteArray} {a : Nat} (ha : a ≤ s.size) : Pf s (blanked s a) a := by
  have hsz : s.data.toList.length = s.size := Array.length_toList
  refine ⟨blanked_size ha, ha, ?_, ?_⟩
  · rw [blanked_list, List.take_append_of_le_length (by rw [List.length_take]; omega), List.take_take, Nat.min_self]
  · unfold bt
    rw [blanked_list, List.getD_eq_getElem?_getD, List.getElem?_append_right (by rw [List.length_take]; omega), List.length_take, Nat.min_eq_left (by omega), Nat.sub_self]
    rfl
end Go.Proofs.YtkfkgdkfgpofnaaDoor
/- The tokens of a text with a blank put in, one by one; where tokens stand. No program. -/
namespace Go.Proofs.YtkfkgdkfgpofnaaDoor
open Go.RowKit
theorem blank_facts {L L' B' : List Tok} {k : Nat} (hk : k < L.length) (h1 : L' = L.take k ++ B') (h2 : B'.map pr0 = (L.drop k).map pr1) :
    L'.length = L.length ∧ ∀ i, i < L.length → (L.getD i Tz).kind = (L'.getD i Tz).kind ∧ (L.getD i Tz).text = (L'.getD i Tz).text ∧ (L.getD i Tz).line = (L'.getD i Tz).line ∧ (L.getD i Tz).at_ + (if k ≤ i then 1 else 0) = (L'.getD i Tz).at_ := by
  have hl : B'.length = L.length - k := by have := congrArg List.length h2; simpa using this
  have hL : L'.length = L.length := by rw [h1]; simp; omega
  refine ⟨hL, fun i hi => ?_⟩
  rcases Nat.lt_or_ge i k with hlt | hge
  · have e : L'.getD i Tz = L.getD i Tz := by
      rw [h1, List.getD_eq_getElem?_getD, List.getElem?_append_left (by simp; omega), List.getElem?_take_of_lt hlt, ← List.getD_eq_getElem?_getD]
    rw [e, if_neg (by omega)]
    exact ⟨rfl, rfl, rfl, by omega⟩
  · have e : L'.getD i Tz = B'[i - k]'(by omega) := by
      subst h1
      rw [List.getD_eq_getElem?_getD, List.getElem?_append_right (by simp; omega), List.length_take, Nat.min_eq_left (by omega), List.getElem?_eq_getElem (by omega)]
      rfl
    have e2 : (B'.map pr0)[i - k]? = ((L.drop k).map pr1)[i - k]? := by rw [h2]
    rw [List.getElem?_map, List.getElem?_map, List.getElem?_drop, List.getElem?_eq_getElem (by omega), show k + (i - k) = i from by omega, List.getElem?_eq_getElem hi] at e2
    simp only [Option.map_some, Option.some.injEq, pr0, pr1, Prod.mk.injEq] at e2
    rw [e, tz_eq hi, if_pos hge]
    obtain ⟨a, b, c, d⟩ := e2
    exact ⟨a.symm, b.symm, c.symm, d.symm⟩

theorem ins_take (l : List Tok) (i : Nat) (hi : i < l.length) : ins (l.take (i + 1)) = insS (ins (l.take i)) (l.getD i Tz) := by
  rw [List.take_succ_eq_append_getElem hi, tz_eq hi, ins_app]
theorem ins_bd (l : List Tok) (i : Nat) (hi : i ≤ l.length) : -(i : Int) ≤ ins (l.take i) ∧ ins (l.take i) ≤ i := by
  induction i with
  | zero => simp [ins]
  | succ i ih =>
    rw [ins_take l i (by omega)]
    have := ih (by omega)
    unfold insS
    split
    · omega
    · split <;> omega


/-- All tokens stand within the text. -/
def InB (s : ByteArray) (l : List Tok) : Prop := ∀ x ∈ l, 0 ≤ x.at_ ∧ x.at_ ≤ (s.size : Int)
theorem InB.put {s : ByteArray} {t : St} {k : Int} {x : ByteArray} {st en : Nat} (h : InB s t.out) (hst : st ≤ s.size) : InB s (t.put k x st en).out := by
  intro y hy
  unfold St.put at hy
  simp only [List.mem_append, List.mem_singleton] at hy
  rcases hy with hy | rfl
  · exact h y hy
  · simp only; omega
theorem InB.putN {s : ByteArray} {t t1 : St} {k : Int} {x : ByteArray} {st en : Nat} (h : InB s t.out) (hst : st ≤ s.size) (e : t.putN k x st en = .ok t1) : InB s t1.out := by
  rw [putN_out e]; exact h.put hst
theorem InB.mark {s : ByteArray} {t t1 : St} {m : ByteArray} {b : Bool} (h : InB s t.out) (hst : t.p ≤ s.size) (e : t.openMark m b = .ok t1) : InB s t1.out := by
  rw [openMark_out e]; exact InB.put (t := t.opens m b) h hst
theorem mpartsF_at (s : ByteArray) (n : Nat) : ∀ (t t1 : St), InB s t.out → t.p ≤ s.size → mpartsF s n t = .ok t1 → InB s t1.out := by
  induction n with
  | zero => intro t t1 _ _ e; simp [mpartsF] at e
  | succ n ih =>
    intro t t1 h hp e
    rw [mpartsF] at e
    rcases hm : mquoted s t.p ⟨#[34, 36]⟩ with _ | ⟨l, q⟩
    · rw [hm] at e; cases e
    · rw [hm] at e
      simp only at e
      have hb := mquoted_bd s _ _ _ _ hm
      have h1 : InB s (St.put { t with p := q } 9 (strOfNums l) t.p q).out := InB.put (t := { t with p := q }) h hp
      split at e
      · injection e with e
        rw [← e]; exact h1.put (by omega)
      · split at e
        · exact h1.mark (by show q ≤ _; omega) e
        · rcases hq : minserted s (St.put { t with p := q } 9 (strOfNums l) t.p q) with f | t2
          · rw [hq] at e; cases e
          · rw [hq] at e
            simp only at e
            obtain ⟨k, x, e2, e3, e4⟩ := minserted_ok hq (by show q < _; omega)
            refine ih t2 t1 ?_ ?_ e
            · rw [e2]; exact h1.put (by show q + 1 ≤ _; omega)
            · rw [e2]; exact e4
theorem mtok_at {s : ByteArray} {t t1 : St} (h : InB s t.out) (hp : t.p < s.size) (e : mtok s t = .ok t1) : InB s t1.out := by
  have hw := wEnd_bd s t.p (by omega)
  unfold mtok at e
  split at e
  · unfold mword at e
    split at e
    · injection e with e; rw [← e]; exact h.put (by omega)
    · split at e
      · injection e with e; rw [← e]; exact h.put (by omega)
      · split at e
        · rename_i ha
          rcases hq : t.putN 8 (sub s t.p (wEnd s t.p)) t.p (wEnd s t.p + 1) with f | t2
          · rw [hq] at e; cases e
          · rw [hq] at e
            refine mpartsF_at s _ t2 t1 (h.putN (by omega) hq) ?_ e
            rw [putN_out hq]
            show wEnd s t.p + 1 ≤ s.size
            rcases Nat.lt_or_ge (wEnd s t.p) s.size with h | h
            · exact h
            · unfold ah at ha
              rw [List.drop_of_length_le (by rw [Array.length_toList]; exact h)] at ha
              cases ha
        · exact h.putN (by omega) e
  · split at e
    · unfold mnumber at e
      by_cases hL : ah s (nEnd s t.p) ⟨#[76]⟩ = true
      · simp only [hL, if_true] at e
        split at e
        · cases e
        · split at e
          · cases e
          · injection e with e; rw [← e]; exact h.put (by omega)
      · simp only [hL, if_false, Bool.false_eq_true] at e
        split at e
        · cases e
        · split at e
          · cases e
          · injection e with e; rw [← e]; exact h.put (by omega)
    · split at e
      · unfold moperator at e
        split at e
        · injection e with e; rw [← e]; exact h.put (by omega)
        · exact h.putN (by omega) e
      · split at e
        · exact h.mark (by omega) e
        · split at e
          · unfold mclosing at e
            rcases ho : t.op.getLast? with _ | br
            · rw [ho] at e; cases e
            · rw [ho] at e
              simp only at e
              split at e
              · have h1 : InB s (msep s { t with op := t.op.dropLast }).out := InB.put (t := { t with op := t.op.dropLast }) h (by show t.p ≤ _; omega)
                split at e
                · exact mpartsF_at s _ _ t1 h1 (by show t.p + 1 ≤ s.size; omega) e
                · injection e with e; rw [← e]; exact h1
              · cases e
          · split at e
            · injection e with e; rw [← e]; exact h.put (by omega)
            · split at e
              · unfold msingle at e
                split at e
                · exact h.mark (by omega) e
                · rcases hm : mquoted s (t.p + 1) ⟨#[39]⟩ with _ | ⟨l, q⟩
                  · rw [hm] at e; cases e
                  · rw [hm] at e
                    simp only at e
                    split at e
                    · injection e with e; rw [← e]; exact InB.put (t := { t with p := q }) h (by omega)
                    · cases e
              · split at e
                · unfold mdouble at e
                  rcases hm : mquoted s (t.p + 1) ⟨#[34]⟩ with _ | ⟨l, q⟩
                  · rw [hm] at e; cases e
                  · rw [hm] at e
                    injection e with e; rw [← e]; exact InB.put (t := { t with p := q }) h (by omega)
                · split at e
                  · unfold mdollar at e
                    split at e
                    · exact h.mark (by omega) e
                    · cases e
                  · cases e
theorem mallF_at (s : ByteArray) (n : Nat) : ∀ (t T : St), InB s t.out → mallF s n t = .ok T → InB s T.out := by
  induction n with
  | zero => intro t T _ e; simp [mallF] at e
  | succ n ih =>
    intro t T h e
    rw [mallF] at e
    split at e
    · rename_i hlt
      rcases h1 : mtok s t with f | t1
      · rw [h1] at e; cases e
      · rw [h1] at e
        simp only at e
        rcases h2 : mskip s t1.p t1.l t1.g with f | ⟨p, l, g⟩
        · rw [h2] at e; cases e
        · rw [h2] at e
          have h3 : InB s t1.out := mtok_at h hlt h1
          exact ih { t1 with p := p, l := l, g := g } T h3 e
    · rcases ho : t.op.getLast? with _ | br
      · rw [ho] at e; injection e with e; subst e; exact h
      · rw [ho] at e; cases e
theorem mraw_at {s : ByteArray} {L : List Tok} (hL : mraw s = .ok L) : InB s L := by
  unfold mraw at hL
  split at hL
  · cases hL
  · rcases hT : mall s st0 with f | T
    · rw [hT] at hL; cases hL
    · rw [hT] at hL
      injection hL with hL
      subst hL
      unfold mall at hT
      rcases hq : mskip s st0.p st0.l st0.g with f | ⟨p, l, g⟩
      · rw [hq] at hT; cases hT
      · rw [hq] at hT
        exact mallF_at s _ _ T (by intro x hx; cases hx) hT
end Go.Proofs.YtkfkgdkfgpofnaaDoor
