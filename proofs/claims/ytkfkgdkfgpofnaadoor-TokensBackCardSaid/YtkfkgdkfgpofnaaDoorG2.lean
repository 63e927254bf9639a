/- The model of the whole reader, and that each token takes it forward. -/
import Derived.Test.YtkfkgdkfgpofnaaDoorE7
import Derived.Test.YtkfkgdkfgpofnaaDoorE8
import Derived.Test.YtkfkgdkfgpofnaaDoorE9
import Derived.Test.YtkfkgdkfgpofnaaDoorB3
import Derived.Test.YtkfkgdkfgpofnaaDoorG1
namespace Go.Proofs.YtkfkgdkfgpofnaaDoor
open Go.RowKit

/-- One token. -/
def mtok (s : ByteArray) (t : St) : Except Flt St :=
  if (cls (bt s t.p) == 2) = true then mword s t else if (cls (bt s t.p) == 3) = true then mnumber s t else if (cls (bt s t.p) == 4) = true then moperator s t
  else if (cls (bt s t.p) == 5) = true then mopening s t else if (cls (bt s t.p) == 6) = true then mclosing s t else if (cls (bt s t.p) == 7) = true then .ok (msep s t)
  else if (cls (bt s t.p) == 8) = true then msingle s t else if (cls (bt s t.p) == 9) = true then mdouble s t else if (cls (bt s t.p) == 10) = true then mdollar s t else mnothing t

theorem tok_any (b : Nat) (s : ByteArray) (w0 : World) (t : St) (w : World) (hT : Tab w0) (hb0 : 0 < b) (h : Sd b s w0 w t) (hk : t.Good s) (hs : s.size < 100000) (hlt : t.p < s.size) :
    Calls Tryd.prog (scanF (cls (bt s t.p))) #[.pointer (some ⟨b, 0, none⟩)] w (Tk b s w0 (mtok s t)) := by
  unfold scanF mtok
  have ho := hk.ok hs
  split
  · exact word_any b s w0 t w hT hb0 h hk hs hlt
  · split
    · exact number_any b s w0 t w hT hb0 h hk hs hlt
    · split
      · exact operator_any b s w0 t w hT hb0 h hk hs hlt
      · split
        · exact opening_any b s w0 t w h ho hs hlt
        · split
          · exact closing_any b s w0 t w hT hb0 h hk hs hlt
          · split
            · exact separator_any b s w0 t w h ho hs hlt
            · split
              · exact single_any b s w0 t w h ho hs hlt
              · split
                · exact double_any b s w0 t w h ho hs hlt
                · split
                  · exact dollar_any b s w0 t w h ho hs hlt
                  · exact nothing_any b s w0 t w h

theorem openMark_ok {t t' : St} {m : ByteArray} {i : Bool} (h : t.openMark m i = .ok t') : t' = (t.opens m i).put 3 m t.p (t.p + m.size) ∧ t.op.length < 64 := by
  unfold St.openMark at h
  split at h
  · cases h
  · rename_i hc; injection h with h; exact ⟨h.symm, by omega⟩
theorem put_good {t : St} {s : ByteArray} {k : Int} {x : ByteArray} {st en : Nat} (h2 : en ≤ s.size) (hl : t.l ≤ en) (hg : t.g ≤ en) (ho : t.out.length + 1 ≤ 2 * en) (hop : t.op.length ≤ 64) : (t.put k x st en).Good s := by
  refine ⟨h2, hl, hg, ?_, hop⟩
  show (t.out ++ [_]).length ≤ 2 * en
  simp; omega
theorem mparts_good (s : ByteArray) (n : Nat) : ∀ (t t' : St), t.Good s → mpartsF s n t = .ok t' → t'.Good s ∧ t.p < t'.p := by
  induction n with
  | zero => intro t t' _ h; simp [mpartsF] at h
  | succ n ih =>
    intro t t' hg h
    obtain ⟨k1, k2, k3, k4, k5⟩ := hg
    simp only [mpartsF] at h
    split at h
    · cases h
    · rename_i l q hm
      obtain ⟨q1, q2, _⟩ := mquoted_bd _ _ _ _ _ hm
      split at h
      · injection h with h
        subst h
        refine ⟨put_good (by omega) ?_ ?_ ?_ k5, ?_⟩
        · show t.l ≤ q + 1; omega
        · show t.g ≤ q + 1; omega
        · show (t.out ++ [_]).length + 1 ≤ 2 * (q + 1); simp; omega
        · show t.p < q + 1; omega
      · split at h
        · rename_i ha
          have ha2 : 2 ≤ s.size - q := ah_le s q _ ha
          obtain ⟨rfl, ho⟩ := openMark_ok h
          refine ⟨put_good ?_ ?_ ?_ ?_ ?_, ?_⟩
          · show q + 2 ≤ s.size; omega
          · show t.l ≤ q + 2; omega
          · show t.g ≤ q + 2; omega
          · show (t.out ++ [_]).length + 1 ≤ 2 * (q + 2); simp; omega
          · show (t.op ++ [_]).length ≤ 64
            have : t.op.length < 64 := ho
            simp; omega
          · show t.p < q + 2; omega
        · split at h
          · cases h
          · rename_i t2 hi
            obtain ⟨kx, x, rfl, h1, h2⟩ := minserted_ok hi q2
            have h1 : q + 2 ≤ wEnd s (q + 1) := h1
            have h2 : wEnd s (q + 1) ≤ s.size := h2
            have hg2 : (St.put (St.put { t with p := q } 9 (strOfNums l) t.p q) kx x (q + 1) (wEnd s (q + 1))).Good s := by
              refine put_good h2 ?_ ?_ ?_ k5
              · show t.l ≤ _; omega
              · show t.g ≤ _; omega
              · show (t.out ++ [_]).length + 1 ≤ _; simp; omega
            have := ih _ _ hg2 h
            refine ⟨this.1, ?_⟩
            have h3 := this.2
            have h3 : wEnd s (q + 1) < t'.p := h3
            omega
theorem wEnd_gt (s : ByteArray) (q : Nat) (h : q < s.size) (hc : wordB (bt s q) = true) : q < wEnd s q := by
  unfold wEnd
  simp only [wEndF, h, hc, and_self, if_true]
  have := wEndF_bd s (s.size - q) (q + 1) (by omega)
  omega
theorem nEnd_gt (s : ByteArray) (q : Nat) (h : q < s.size) (hc : cls (bt s q) = 3) : q < nEnd s q := by
  unfold nEnd
  simp only [nEndF, h, hc, and_self, if_true]
  have := nEndF_bd s (s.size - q) (q + 1) (by omega)
  omega

theorem mtok_good (s : ByteArray) (t t' : St) (hg : t.Good s) (hlt : t.p < s.size) (h : mtok s t = .ok t') : t'.Good s ∧ t.p < t'.p := by
  have HG := hg
  obtain ⟨k1, k2, k3, k4, k5⟩ := hg
  unfold mtok at h
  split at h
  · rename_i hc
    have hw : wordB (bt s t.p) = true := by unfold wordB; rw [hc]; rfl
    have h1 := wEnd_gt s t.p hlt hw
    have h2 := (wEnd_bd s t.p (by omega)).2
    unfold mword at h
    split at h
    · injection h with h; subst h; exact ⟨HG.putA _ _ _ _ h1 h2, h1⟩
    · split at h
      · injection h with h; subst h; exact ⟨HG.putA _ _ _ _ h1 h2, h1⟩
      · split at h
        · rename_i ha
          have ha1 : 1 ≤ s.size - wEnd s t.p := ah_le s _ _ ha
          split at h
          · cases h
          · rename_i t1 hm
            have := putN_ok hm
            subst this
            have hg1 : (t.put 8 (sub s t.p (wEnd s t.p)) t.p (wEnd s t.p + 1)).Good s := HG.putA _ _ _ _ (by omega) (by omega)
            have := mparts_good s _ _ _ hg1 h
            refine ⟨this.1, ?_⟩
            have h3 : wEnd s t.p + 1 < t'.p := this.2
            omega
        · have := putN_ok h
          subst this
          exact ⟨HG.putA _ _ _ _ h1 h2, h1⟩
  · split at h
    · rename_i hc
      have hc : cls (bt s t.p) = 3 := by simpa using hc
      have h1 := nEnd_gt s t.p hlt hc
      have h2 := (nEnd_bd s t.p (by omega)).2
      unfold mnumber at h
      by_cases hL : ah s (nEnd s t.p) ⟨#[76]⟩ = true
      · simp only [hL, if_true] at h
        have ha1 : 1 ≤ s.size - nEnd s t.p := ah_le s _ _ hL
        split at h
        · cases h
        · split at h
          · cases h
          · injection h with h
            subst h
            refine ⟨HG.putA _ _ _ _ (by omega) (by omega), ?_⟩
            show t.p < nEnd s t.p + 1
            omega
      · have hL' : ah s (nEnd s t.p) ⟨#[76]⟩ = false := by simpa using hL
        simp only [hL', Bool.false_eq_true, if_false] at h
        split at h
        · cases h
        · split at h
          · cases h
          · injection h with h
            subst h
            exact ⟨HG.putA _ _ _ _ h1 h2, h1⟩
    · split at h
      · have h1 := oEnd_bd s (t.p + 1) (by omega)
        unfold moperator at h
        split at h
        · injection h with h; subst h
          refine ⟨HG.putA _ _ _ _ (by omega) (by omega), ?_⟩
          show t.p < oEnd s (t.p + 1); omega
        · have := putN_ok h
          subst this
          refine ⟨HG.putA _ _ _ _ (by omega) (by omega), ?_⟩
          show t.p < oEnd s (t.p + 1); omega
      · split at h
        · obtain ⟨rfl, ho⟩ := openMark_ok h
          have hz : (sub s t.p (t.p + 1)).size = 1 := by rw [extract_size _ _ _ (by omega)]; omega
          refine ⟨put_good ?_ ?_ ?_ ?_ ?_, ?_⟩
          · show t.p + _ ≤ s.size; omega
          · show t.l ≤ t.p + _; omega
          · show t.g ≤ t.p + _; omega
          · show t.out.length + 1 ≤ 2 * (t.p + _); omega
          · show (t.op ++ [_]).length ≤ 64; simp; omega
          · show t.p < t.p + _; omega
        · split at h
          · unfold mclosing at h
            split at h
            · cases h
            · rename_i br hbr
              have hgs : (msep s { t with op := t.op.dropLast }).Good s := by
                refine put_good ?_ ?_ ?_ ?_ ?_
                · show t.p + 1 ≤ s.size; omega
                · show t.l ≤ t.p + 1; omega
                · show t.g ≤ t.p + 1; omega
                · show t.out.length + 1 ≤ 2 * (t.p + 1); omega
                · show t.op.dropLast.length ≤ 64; simp; omega
              split at h
              · split at h
                · have := mparts_good s _ _ _ hgs h
                  refine ⟨this.1, ?_⟩
                  have h3 : t.p + 1 < t'.p := this.2
                  omega
                · injection h with h; subst h
                  refine ⟨hgs, ?_⟩
                  show t.p < t.p + 1; omega
              · cases h
          · split at h
            · injection h with h; subst h
              refine ⟨HG.putA _ _ _ _ (by omega) (by omega), ?_⟩
              show t.p < t.p + 1; omega
            · split at h
              · unfold msingle at h
                split at h
                · rename_i ha
                  have ha2 : 2 ≤ s.size - t.p := ah_le s _ _ ha
                  obtain ⟨rfl, ho⟩ := openMark_ok h
                  refine ⟨put_good ?_ ?_ ?_ ?_ ?_, ?_⟩
                  · show t.p + 2 ≤ s.size; omega
                  · show t.l ≤ t.p + 2; omega
                  · show t.g ≤ t.p + 2; omega
                  · show t.out.length + 1 ≤ 2 * (t.p + 2); omega
                  · show (t.op ++ [_]).length ≤ 64; simp; omega
                  · show t.p < t.p + 2; omega
                · split at h
                  · cases h
                  · rename_i l q hm
                    obtain ⟨q1, q2, _⟩ := mquoted_bd _ _ _ _ _ hm
                    split at h
                    · injection h with h; subst h
                      refine ⟨put_good ?_ ?_ ?_ ?_ k5, ?_⟩
                      · omega
                      · show t.l ≤ q + 1; omega
                      · show t.g ≤ q + 1; omega
                      · show t.out.length + 1 ≤ 2 * (q + 1); omega
                      · show t.p < q + 1; omega
                    · cases h
              · split at h
                · unfold mdouble at h
                  split at h
                  · cases h
                  · rename_i l q hm
                    obtain ⟨q1, q2, _⟩ := mquoted_bd _ _ _ _ _ hm
                    injection h with h; subst h
                    refine ⟨put_good ?_ ?_ ?_ ?_ k5, ?_⟩
                    · omega
                    · show t.l ≤ q + 1; omega
                    · show t.g ≤ q + 1; omega
                    · show t.out.length + 1 ≤ 2 * (q + 1); omega
                    · show t.p < q + 1; omega
                · split at h
                  · unfold mdollar at h
                    split at h
                    · rename_i ha
                      have ha2 : 2 ≤ s.size - t.p := ah_le s _ _ ha
                      obtain ⟨rfl, ho⟩ := openMark_ok h
                      refine ⟨put_good ?_ ?_ ?_ ?_ ?_, ?_⟩
                      · show t.p + 2 ≤ s.size; omega
                      · show t.l ≤ t.p + 2; omega
                      · show t.g ≤ t.p + 2; omega
                      · show t.out.length + 1 ≤ 2 * (t.p + 2); omega
                      · show (t.op ++ [_]).length ≤ 64; simp; omega
                      · show t.p < t.p + 2; omega
                    · cases h
                  · cases h
end Go.Proofs.YtkfkgdkfgpofnaaDoor
