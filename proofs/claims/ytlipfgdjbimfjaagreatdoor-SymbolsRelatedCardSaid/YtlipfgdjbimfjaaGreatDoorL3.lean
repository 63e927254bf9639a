/- Inside of the reference; Children of the program and of the reference. -/
import Derived.Test.YtlipfgdjbimfjaaGreatDoorJ5
import Derived.Test.YtlipfgdjbimfjaaGreatDoorP14
namespace Go.Proofs.YtlipfgdjbimfjaaGreatDoor
open Go.RowKit Go.Shelf Go.Sort
set_option maxRecDepth 100000

theorem arF_mem (own : Nat → Int) (n : Nat) : ∀ f c x, x ∈ arF own n f c → 0 ≤ x ∧ x < n
  | 0, _, _, h => by simp [arF] at h
  | f + 1, c, x, h => by
    unfold arF at h
    split at h
    · rename_i hc
      rcases List.mem_cons.1 h with rfl | h
      · exact hc
      · exact arF_mem own n f _ x h
    · simp at h
theorem arF_out {own : Nat → Int} {n f c : Nat} {x : Int} (h : x < 0 ∨ (n : Int) ≤ x) : (arF own n f c).contains x = false := by
  rw [← Bool.not_eq_true, List.contains_iff_mem]
  intro hm
  have := arF_mem own n f c x hm
  omega

set_option maxHeartbeats 4000000 in
theorem refInside_in (cb co n cap c : Nat) (x : Int) (own : Nat → Int) (v1 v2 v3 v4 v5 : Value) (w : World) (hc : c < n) (hx0 : 0 ≤ x) (hx1 : x < n) (hn : n ≤ 100000) (hcb : cb < w.heap.size) (hO : Owns w cb co n own) :
    Calls Tryz.prog 22 #[PV cb co n cap v1 v2 v3 v4 v5, .int .i64 c, .int .i64 x] w fun e w' => e = .returned (.bool ((arF own n n c).contains x)) ∧ Below w.heap.size w w' := by
  obtain ⟨w1, hw1⟩ : ∃ w1, w.alloc (.cells #[.slice (some ⟨cb, co, none⟩) n cap, v1, v2, v3, v4, v5] 28) = w1 := ⟨_, rfl⟩
  have hb1 : Below w.heap.size w w1 := by rw [← hw1]; exact (Below.refl _ _).alloc (Nat.le_refl _) _
  have x1 : w1.heap[w.heap.size]? = some (.cells #[.slice (some ⟨cb, co, none⟩) n cap, v1, v2, v3, v4, v5] 28 (0, 0)) := by rw [← hw1]; exact heap_alloc_new w _
  have hO1 : Owns w1 cb co n own := hO.bel hb1 hcb
  have HO := Lib.hid hO1
  have HW1 := Lib.hid hw1
  have HB1 := Lib.hid hb1
  have p0 := blk_cell x1 0
  obtain ⟨R, hR⟩ : ∃ R, R = (arF own n n c).contains x := ⟨_, rfl⟩
  rw [← hR]
  have HR := Lib.hid hR
  have hc0 : (0 : Int) ≤ (c : Int) := by omega
  have hc1 : (c : Int) < (n : Int) := by omega
  clear hw1 hb1 x1 hO hO1 hR hcb
  go_enter Tryz.func22, Tryz.ntmps22
  go_upto_region 1 with fail
  rw [HW1.out]
  go_wp2_with fail
  refine (refIn_yes _ hc0 hc1).mono ?_; rintro e w' ⟨rfl, rfl⟩
  go_wp2_with fail
  refine (refIn_yes _ hx0 hx1).mono ?_; rintro e w' ⟨rfl, rfl⟩
  go_wp2
  go_loopg [1, 7] (n + 1) (fun g z y wr => ∃ k cur : Nat, k ≤ n ∧ n - k < g ∧ cur < n ∧ z = .int .i64 cur ∧ y = .int .i64 k ∧ Hid (R = (arF own n (n - k) cur).contains x) ∧ wr = w1)
  case atStart => exact ⟨0, c, by omega, by omega, hc, rfl, rfl, HR, rfl⟩
  case round =>
    obtain ⟨k, cur, hk, hgk, hcur, rfl, rfl, HS, rfl⟩ := hrel
    obtain ⟨m, rfl⟩ : ∃ m, gk = m + 1 := ⟨gk - 1, by omega⟩
    by_cases hlt : k < n
    · have hoc := HO.out cur hcur
      obtain ⟨o, ho⟩ : ∃ o, own cur = o := ⟨_, rfl⟩
      rw [ho] at hoc
      by_cases hin : 0 ≤ o ∧ o < n
      · obtain ⟨h0, h1⟩ := hin
        have HY : Hid (R = ((o == x) || (arF own n (n - (k + 1)) o.toNat).contains x)) := Lib.hid (by
          rw [HS.out, show n - k = (n - (k + 1)) + 1 by omega, arF_yes (by rw [ho]; exact h0) (by rw [ho]; exact h1), ho, List.contains_cons]
          congr 1
          rw [Bool.eq_iff_iff]; simp; exact eq_comm)
        obtain ⟨on, rfl⟩ : ∃ on : Nat, o = on := ⟨o.toNat, by omega⟩
        clear ho
        by_cases hox : (on : Int) = x
        · have HT : Hid (R = true) := Lib.hid (by rw [HY.out]; simp [hox])
          subst hox
          go_wp2_with fail
          refine (refIn_yes _ h0 h1).mono ?_; rintro e w' ⟨rfl, rfl⟩
          go_wp2
          go_ret
          exact ⟨by rw [HT.out]; rfl, HB1.out⟩
        · have hb : ((on : Int) == x) = false := by simpa using hox
          have HT : Hid (R = (arF own n (n - (k + 1)) on).contains x) := Lib.hid (by rw [HY.out, hb]; simp)
          go_wp2_with fail
          refine (refIn_yes _ h0 h1).mono ?_; rintro e w' ⟨rfl, rfl⟩
          go_wp2
          go_roundg m
          case measure => omega
          case rel => exact ⟨k + 1, on, by omega, by omega, by omega, rfl, by go_num, HT, rfl⟩
      · have hout : o < 0 ∨ (n : Int) ≤ o := by omega
        have HT : Hid (R = false) := Lib.hid (by rw [HS.out, show n - k = (n - (k + 1)) + 1 by omega, arF_no (by rw [ho]; exact hout)]; rfl)
        have HOUT := Lib.hid hout
        clear ho hin hout
        go_wp2_with fail
        refine (refIn_no _ HOUT.out).mono ?_; rintro e w' ⟨rfl, rfl⟩
        go_wp2
        go_ret
        exact ⟨by rw [HT.out]; rfl, HB1.out⟩
    · have HT : Hid (R = false) := Lib.hid (by rw [HS.out, show n - k = 0 by omega]; rfl)
      go_wp2
      go_ret
      exact ⟨by rw [HT.out]; rfl, HB1.out⟩
set_option maxHeartbeats 1000000 in
theorem refInside_out (ca : Option Addr) (n cap : Nat) (c x : Int) (v1 v2 v3 v4 v5 : Value) (w : World) (hc : c < 0 ∨ (n : Int) ≤ c ∨ x < 0 ∨ (n : Int) ≤ x) :
    Calls Tryz.prog 22 #[.agg #[.slice ca n cap, v1, v2, v3, v4, v5], .int .i64 c, .int .i64 x] w fun e w' => e = .returned (.bool false) ∧ Below w.heap.size w w' := by
  by_cases h : c < 0 ∨ (n : Int) ≤ c
  · have HC := Lib.hid h
    clear hc h
    go_enter Tryz.func22, Tryz.ntmps22
    go_wp2_with fail
    refine (refIn_no _ HC.out).mono ?_; rintro e w' ⟨rfl, rfl⟩
    go_wp2
    go_ret
    exact ⟨rfl, (Below.refl _ _).alloc (Nat.le_refl _) _⟩
  · have hX : x < 0 ∨ (n : Int) ≤ x := by omega
    have h0 : 0 ≤ c := by omega
    have h1 : c < (n : Int) := by omega
    have HX := Lib.hid hX
    clear hc h hX
    go_enter Tryz.func22, Tryz.ntmps22
    go_wp2_with fail
    refine (refIn_yes _ h0 h1).mono ?_; rintro e w' ⟨rfl, rfl⟩
    go_wp2_with fail
    refine (refIn_no _ HX.out).mono ?_; rintro e w' ⟨rfl, rfl⟩
    go_wp2
    go_ret
    exact ⟨rfl, (Below.refl _ _).alloc (Nat.le_refl _) _⟩
end Go.Proofs.YtlipfgdjbimfjaaGreatDoor
namespace Go.Proofs.YtlipfgdjbimfjaaGreatDoor
open Go.RowKit Go.Shelf Go.Sort
set_option maxRecDepth 100000

variable {H : Type} {enc : TypeId × Value → H}
theorem fnd_y {p : Nat → Bool} {n k : Nat} (h : p k = true) (hk : k < n) : fnd p (n - k) k = k := by
  rw [show n - k = (n - (k + 1)) + 1 by omega, fnd, if_pos h]
theorem fnd_n {p : Nat → Bool} {n k : Nat} (h : p k = false) (hk : k < n) : fnd p (n - k) k = fnd p (n - (k + 1)) (k + 1) := by
  rw [show n - k = (n - (k + 1)) + 1 by omega, fnd, if_neg (by rw [h]; decide)]
/-- What a search leaves. -/
def FnC (r : Int) (w : World) (e : Ending) (w' : World) : Prop := e = .returned (.int .i64 r) ∧ Below w.heap.size w w'
/-- Is a type of a list the class. -/
def isPar (c : Int) (t : Int × Int) : Bool := t.1 == 10 && t.2 == c
/-- The children of a class, among the first classes. -/
def chl (pl : Nat → List (Int × Int)) (c : Int) (k : Nat) : List Int := ints ((List.range k).filter fun i => (pl i).any (isPar c))
theorem chl_len (pl : Nat → List (Int × Int)) (c : Int) (k : Nat) : (chl pl c k).length ≤ k := by
  unfold chl
  rw [List.length_map]
  exact Nat.le_trans (List.length_filter_le _ _) (by simp)
theorem chl_yes {pl : Nat → List (Int × Int)} {c : Int} {k : Nat} (h : (pl k).any (isPar c) = true) : chl pl c (k + 1) = chl pl c k ++ [(k : Int)] := by
  unfold chl
  rw [List.range_succ, List.filter_append]
  simp [h, ints]
theorem chl_no {pl : Nat → List (Int × Int)} {c : Int} {k : Nat} (h : (pl k).any (isPar c) = false) : chl pl c (k + 1) = chl pl c k := by
  unfold chl
  rw [List.range_succ, List.filter_append]
  simp [h, ints]
theorem fnd_any (l : List (Int × Int)) (p : Int × Int → Bool) : ∀ m k, k + m = l.length → decide (0 ≤ fnd (fun i => p (l.getD i (0, 0))) m k) = (l.drop k).any p
  | 0, k, h => by
    rw [fnd, List.drop_eq_nil_of_le (by omega)]
    rfl
  | m + 1, k, h => by
    have hk : k < l.length := by omega
    rw [fnd, List.drop_eq_getElem_cons hk, List.any_cons]
    have e : l.getD k (0, 0) = l[k] := by rw [List.getD_eq_getElem?_getD, List.getElem?_eq_getElem hk]; rfl
    rw [e]
    by_cases hp : p l[k] = true
    · rw [if_pos hp, hp]; simp
    · rw [if_neg hp]
      have hp' : p l[k] = false := by simpa using hp
      rw [hp', Bool.false_or]
      exact fnd_any l p m (k + 1) (by omega)

set_option maxHeartbeats 1000000 in
theorem cclo (kd sy : Int) (x2 : ByteArray) (x3 : Int) (a4 : Option Addr) (n4 c4 : Nat) (b : Nat) (c : Int) (w : World) (hb : w.heap[b]? = some (.cells #[.int .i64 c] 3 (0, 0))) :
    Calls Tryz.prog 42 #[.agg #[.int .i64 kd, .int .i64 sy, .string x2, .int .i64 x3, .slice a4 n4 c4], .pointer (some ⟨b, 0, none⟩)] w fun e w' => e = .returned (.bool (isPar c (kd, sy))) ∧ Below w.heap.size w w' := by
  obtain ⟨W1, hW1⟩ : ∃ W1, w.alloc (.cells #[.int .i64 kd, .int .i64 sy, .string x2, .int .i64 x3, .slice a4 n4 c4] 58) = W1 := ⟨_, rfl⟩
  have hB : Below w.heap.size w W1 := by rw [← hW1]; exact (Below.refl _ _).alloc (Nat.le_refl _) _
  have hR : W1.heap[w.heap.size]? = some (.cells #[.int .i64 kd, .int .i64 sy, .string x2, .int .i64 x3, .slice a4 n4 c4] 58 (0, 0)) := by rw [← hW1]; exact heap_alloc_new w _
  have s0 := blk_cell hR 0
  have s1 := blk_cell hR 1
  have c1 := blk_cell ((hB.block b (Array.getElem?_eq_some_iff.1 hb).1).trans hb) 0
  have HB := Lib.hid hB
  have HW1 := Lib.hid hW1
  unfold isPar
  simp only
  obtain ⟨y1, hy1⟩ : ∃ y, (kd == 10) = y := ⟨_, rfl⟩
  obtain ⟨y2, hy2⟩ : ∃ y, (sy == c) = y := ⟨_, rfl⟩
  rw [hy1, hy2]
  clear hB hW1 hR hb
  go_enter Tryz.func42, Tryz.ntmps42
  go_upto_region 1 with fail
  rw [HW1.out]
  cases y1 with
  | false =>
    go_wp2
    go_ret
    exact ⟨rfl, HB.out⟩
  | true =>
    cases y2 with
    | false =>
      go_wp2
      go_ret
      exact ⟨rfl, HB.out⟩
    | true =>
      go_wp2
      go_ret
      exact ⟨rfl, HB.out⟩

set_option maxHeartbeats 4000000 in
theorem cindex (B : Nat) (v : Value) (l : List (Int × Int)) (b : Nat) (c : Int) (w : World) (hB : B ≤ w.heap.size) (hT : TyRow w B v l) (hb : w.heap[b]? = some (.cells #[.int .i64 c] 3 (0, 0))) :
    Calls Tryz.prog 68 #[v, .func (.func 42) #[] #[.pointer (some ⟨b, 0, none⟩)]] w (FnC (fnd (fun i => isPar c (l.getD i (0, 0))) l.length 0) w) := by
  obtain ⟨P, hP⟩ : ∃ P : Nat → Bool, P = fun i => isPar c (l.getD i (0, 0)) := ⟨_, rfl⟩
  rw [← hP]
  obtain ⟨R, hR⟩ : ∃ R, R = fnd P l.length 0 := ⟨_, rfl⟩
  rw [← hR]
  have HT := Lib.hid hT
  have HP := Lib.hid hP
  have HR := Lib.hid hR
  have HBB := Lib.hid hb
  have HBW := Lib.hid hB
  obtain ⟨va, vc, rfl, hlen, -⟩ := hT
  clear hP hR hb hB
  go_enter Tryz.func68, Tryz.ntmps68
  go_wp2
  go_loopg [8] (l.length + 1) (fun g y wr => ∃ k : Nat, k ≤ l.length ∧ l.length - k < g ∧ y = .int .i64 k ∧ Hid (R = fnd P (l.length - k) k) ∧ Hid (Below w.heap.size w wr))
  case atStart => exact ⟨0, by omega, by omega, rfl, HR, Lib.hid (Below.refl _ _)⟩
  case round =>
    obtain ⟨k, hk, hgk, rfl, HS, HW⟩ := hrel
    obtain ⟨m, rfl⟩ : ∃ m, gk = m + 1 := ⟨gk - 1, by omega⟩
    by_cases hlt : k < l.length
    · obtain ⟨a', c', he, -, hr⟩ := HT.out.bel HW.out HBW.out
      injection he with e1 e2 e3
      subst e1 e3
      obtain ⟨bt, ot, rfl, hbt, hel⟩ := hr (by intro h; rw [h] at hlt; simp at hlt)
      obtain ⟨x2, x3, a4, n4, c4, q0, q1, q2, q3, q4⟩ := hel k hlt
      obtain ⟨p, hp⟩ : ∃ p, l.getD k (0, 0) = p := ⟨_, rfl⟩
      rw [hp] at q0 q1
      obtain ⟨kd, sy⟩ := p
      simp only at q0 q1
      have cc := cclo kd sy x2 x3 a4 n4 c4 b c wr ((HW.out.block b (Array.getElem?_eq_some_iff.1 HBB.out).1).trans HBB.out)
      obtain ⟨fb, hfb⟩ : ∃ fb, isPar c (kd, sy) = fb := ⟨_, rfl⟩
      have HFB : Hid (P k = fb) := Lib.hid (by rw [HP.out]; simp only; rw [hp]; exact hfb)
      rw [hfb] at cc
      clear hel hr hp hfb hbt
      go_wp2_with fail
      refine cc.mono ?_
      rintro e w3 ⟨rfl, h3⟩
      have HW3 := Lib.hid (HW.out.trans (h3.mono HW.out.size))
      clear cc h3 q0 q1 q2 q3 q4
      cases fb with
      | true =>
        go_wp2
        go_ret
        exact ⟨by rw [HS.out, fnd_y HFB.out hlt]; rfl, HW3.out⟩
      | false =>
        go_wp2
        go_roundg m
        case measure => omega
        case rel => exact ⟨k + 1, by omega, by omega, by go_num, Lib.hid (by rw [HS.out, fnd_n HFB.out hlt]), HW3⟩
    · have hke : l.length - k = 0 := by omega
      have HE : Hid (R = -1) := Lib.hid (by rw [HS.out, hke, fnd])
      clear hke
      go_wp2
      go_ret
      exact ⟨by rw [HE.out]; rfl, HW.out⟩
theorem ccontains (B : Nat) (v : Value) (l : List (Int × Int)) (b : Nat) (c : Int) (w : World) (hB : B ≤ w.heap.size) (hT : TyRow w B v l) (hb : w.heap[b]? = some (.cells #[.int .i64 c] 3 (0, 0))) :
    Calls Tryz.prog 41 #[v, .func (.func 42) #[] #[.pointer (some ⟨b, 0, none⟩)]] w fun e w' => e = .returned (.bool (l.any (isPar c))) ∧ Below w.heap.size w w' := by
  have cI := cindex B v l b c w hB hT hb
  obtain ⟨r, hr⟩ : ∃ r, fnd (fun i => isPar c (l.getD i (0, 0))) l.length 0 = r := ⟨_, rfl⟩
  have hany := fnd_any l (isPar c) l.length 0 (by omega)
  rw [List.drop_zero, hr] at hany
  rw [hr] at cI
  rw [← hany]
  obtain ⟨va, vc, rfl, -⟩ := hT
  obtain ⟨y, hy⟩ : ∃ y, decide (0 ≤ r) = y := ⟨_, rfl⟩
  rw [hy]
  clear hb hr hany hB
  go_enter Tryz.func41, Tryz.ntmps41
  go_wp2_with fail
  refine cI.mono ?_
  rintro e w3 ⟨rfl, h3⟩
  have H3 := Lib.hid h3
  clear cI h3
  go_wp2
  go_ret
  exact ⟨rfl, H3.out⟩

set_option maxHeartbeats 4000000 in
theorem children_in (cb co n cap : Nat) (c : Int) (pl : Nat → List (Int × Int)) (v1 v2 v3 v4 v5 : Value) (w : World) (hc0 : 0 ≤ c) (hc1 : c < n) (hn : n ≤ 100000) (hcb : cb < w.heap.size) (hP : Pars w w.heap.size cb co n pl) :
    Calls Tryz.prog 17 #[PV cb co n cap v1 v2 v3 v4 v5, .int .i64 c] w (RetI w (chl pl c n)) := by
  obtain ⟨i0, hi, iz0, iz1, iz2⟩ := info_parts info3
  obtain ⟨w1, hw1⟩ : ∃ w1, w.alloc (.cells #[.slice (some ⟨cb, co, none⟩) n cap, v1, v2, v3, v4, v5] 28) = w1 := ⟨_, rfl⟩
  have z1 : w1.heap.size = w.heap.size + 1 := by rw [← hw1]; exact World.size_alloc _ _
  obtain ⟨w2, hw2⟩ : ∃ w2, w1.alloc (.cells #[.int .i64 c] 3) = w2 := ⟨_, rfl⟩
  have z2 : w2.heap.size = w.heap.size + 1 + 1 := by rw [← hw2]; have := World.size_alloc w1 (.cells #[.int .i64 c] 3); omega
  have hb1 : Below w.heap.size w w1 := by rw [← hw1]; exact (Below.refl _ _).alloc (Nat.le_refl _) _
  have hb12 : Below w1.heap.size w1 w2 := by rw [← hw2]; exact (Below.refl _ _).alloc (Nat.le_refl _) _
  have hb2 : Below w.heap.size w w2 := hb1.trans (hb12.mono (by omega))
  have x1 : w2.heap[w.heap.size]? = some (.cells #[.slice (some ⟨cb, co, none⟩) n cap, v1, v2, v3, v4, v5] 28 (0, 0)) := by
    refine (hb12.block _ (by omega)).trans ?_
    rw [← hw1]; exact heap_alloc_new w _
  have x2 : w2.heap[w.heap.size + 1]? = some (.cells #[.int .i64 c] 3 (0, 0)) := by rw [← hw2, ← z1]; exact heap_alloc_new w1 _
  obtain ⟨B, hB⟩ : ∃ B, B = w.heap.size := ⟨_, rfl⟩
  rw [← hB] at x1 x2 z1 z2
  have HP := Lib.hid hP
  have HW1 := Lib.hid hw1
  have HW2 := Lib.hid hw2
  have HB2 := Lib.hid hb2
  have HZ2 := Lib.hid z2
  have HBE := Lib.hid hB
  have X1 := Lib.hid x1
  have X2 := Lib.hid x2
  have HCB := Lib.hid hcb
  have p0 := blk_cell x1 0
  have p1 := blk_cell x2 0
  clear hw1 hw2 hb1 hb12 hb2 x1 x2 hP hcb z1 z2 hB
  go_enter Tryz.func17, Tryz.ntmps17
  go_upto_region 1 with fail
  rw [HW1.out, HW2.out, ← HBE.out]
  go_wp2_with fail
  refine (isIndex_in _ hc0 hc1).mono ?_; rintro e w' ⟨rfl, rfl⟩
  go_wp2
  clear p0 p1
  go_loopg [5, 16] (n + 1) (fun g v y wr => ∃ k : Nat, k ≤ n ∧ n - k < g ∧ y = .int .i64 k ∧ Hid (OwnI wr w2.heap.size v (chl pl c k)) ∧ Hid (Below w2.heap.size w2 wr))
  case atStart => exact ⟨0, by omega, by omega, rfl, Lib.hid (World.ownsRow_nil _ _ _ _), Lib.hid (Below.refl _ _)⟩
  case round =>
    obtain ⟨k, hk, hgk, rfl, HO, HB⟩ := hrel
    obtain ⟨m, rfl⟩ : ∃ m, gk = m + 1 := ⟨gk - 1, by omega⟩
    by_cases hlt : k < n
    · have hbw := HB2.out.trans (HB.out.mono HB2.out.size)
      obtain ⟨v, hv, hT⟩ := HP.out.bel hbw (Nat.le_refl _) HCB.out k hlt
      have p0 := blk_cell ((HB.out.block B (by have := HZ2.out; omega)).trans X1.out) 0
      have cC := ccontains w.heap.size v (pl k) (B + 1) c wr hbw.size hT ((HB.out.block (B + 1) (by have := HZ2.out; omega)).trans X2.out)
      have HCC := Lib.hid cC
      have HLN := Lib.hid (chl_len pl c k)
      obtain ⟨L, hL⟩ : ∃ L, chl pl c k = L := ⟨_, rfl⟩
      rw [hL] at HO HLN
      obtain ⟨fb, hfb⟩ : ∃ fb, (pl k).any (isPar c) = fb := ⟨_, rfl⟩
      rw [hfb] at HCC
      obtain ⟨ta, tc, rfl, -⟩ := hT
      clear cC hbw
      cases fb with
      | true =>
        have HY : Hid (chl pl c (k + 1) = L ++ [(k : Int)]) := Lib.hid (by rw [chl_yes hfb, hL])
        clear hL hfb
        go_wp2_with fail
        refine HCC.out.mono ?_
        rintro e w3 ⟨rfl, h3⟩
        have HB3 : Hid (Below w2.heap.size w2 w3) := Lib.hid (HB.out.trans (h3.mono HB.out.size))
        have HO3 := Lib.hid (own_bel HO.out h3)
        have hln := HLN.out
        clear h3 p0 hv HCC HO HB
        go_wp2_with (at_builtin; refine wpList_append_lies _ rfl _ _ 32 rfl w2.heap.size 3 i0 (.int .i64 0) 1 8 Tryz.underlying32 hi iz0 iz1 iz2 rfl (by decide) _ L.length (L.map (Value.int .i64)) rfl (HO3.out.alloc _) ⟨w3.heap.size, 0, none⟩ 1 1 [.int .i64 k] rfl rfl (cell_one_new _ _ _) (by intro u hu; simp at hu; subst hu; rfl) (by decide) (by unfold maxLen; omega) (by omega) (by have := HB3.out.size; simp; omega) (w3.heap.size + 1) (by simp) ?_; intro gg cap' w4 hown' hgrow hat hltg; have HG := Lib.hid (And.intro hown' hgrow); clear hown' hgrow hat hltg)
        go_roundg m
        case measure => omega
        case rel =>
          have hba : Below w2.heap.size w2 (w3.alloc (.cells #[.int .i64 k] 3)) := HB3.out.alloc HB3.out.size _
          have hlt2 := fun j hj => ((HO3.out.alloc (.cells #[.int .i64 k] 3)).lt j hj).1
          refine ⟨k + 1, by omega, by omega, by go_num, ?_, Lib.hid (hba.grown HG.out.2 (by have := HB3.out.size; simp; omega) (fun j hj => hlt2 j hj))⟩
          refine Lib.hid ?_
          show World.ownsRow _ _ _ _ _ _ _
          rw [HY.out, List.length_append, List.length_singleton, List.map_append]
          exact HG.out.1
      | false =>
        have HY : Hid (chl pl c (k + 1) = L) := Lib.hid (by rw [chl_no hfb, hL])
        clear hL hfb
        go_wp2_with fail
        refine HCC.out.mono ?_
        rintro e w3 ⟨rfl, h3⟩
        have HB3 : Hid (Below w2.heap.size w2 w3) := Lib.hid (HB.out.trans (h3.mono HB.out.size))
        have HO3 := Lib.hid (own_bel HO.out h3)
        clear h3 p0 hv HCC HO HB
        go_wp2
        go_roundg m
        case measure => omega
        case rel => exact ⟨k + 1, by omega, by omega, by go_num, Lib.hid (by rw [HY.out]; exact HO3.out), HB3⟩
    · have hke : k = n := by omega
      have HE : Hid (OwnI wr w2.heap.size u5 (chl pl c n)) := Lib.hid (by rw [← hke]; exact HO.out)
      clear hke HO
      go_wp2
      go_ret
      exact ⟨_, rfl, owns_mono HE.out HB2.out.size, HB2.out.trans (HB.out.mono HB2.out.size)⟩
set_option maxHeartbeats 1000000 in
theorem children_out (ca : Option Addr) (n cap : Nat) (c : Int) (v1 v2 v3 v4 v5 : Value) (w : World) (hc : c < 0 ∨ (n : Int) ≤ c) :
    Calls Tryz.prog 17 #[.agg #[.slice ca n cap, v1, v2, v3, v4, v5], .int .i64 c] w (RetI w []) := by
  have HC := Lib.hid hc
  clear hc
  go_enter Tryz.func17, Tryz.ntmps17
  go_wp2_with fail
  refine (isIndex_out _ HC.out).mono ?_; rintro e w' ⟨rfl, rfl⟩
  go_wp2
  go_ret
  exact ⟨_, rfl, World.ownsRow_nil _ _ _ _, ((Below.refl _ _).alloc (Nat.le_refl _) _).alloc (by simp) _⟩
end Go.Proofs.YtlipfgdjbimfjaaGreatDoor
namespace Go.Proofs.YtlipfgdjbimfjaaGreatDoor
open Go.RowKit Go.Shelf Go.Sort
set_option maxRecDepth 100000

set_option maxHeartbeats 2000000 in
/-- among over an own row. -/
theorem among_own {w : World} {B : Nat} {v : Value} {l : List Int} (x : Int) (h : OwnI w B v l) (hl : l.length ≤ 1000000) :
    Calls Tryz.prog 43 #[v, .int .i64 x] w fun e w' => e = .returned (.bool (l.contains x)) ∧ w = w' := by
  obtain ⟨a, c, rfl, hr⟩ := EC.of_own (r := .bool false) h (fun k hk => by cases hk)
  have HR := Lib.hid hr
  obtain ⟨R, hR⟩ : ∃ R, R = l.contains x := ⟨_, rfl⟩
  rw [← hR]
  have HRE : Hid (R = (l.drop 0).contains x) := Lib.hid (by rw [hR, List.drop_zero])
  clear hr h hR
  go_enter Tryz.func43, Tryz.ntmps43
  go_wp2
  go_loopg [5] (l.length + 1) (fun g y wr => ∃ k : Nat, k ≤ l.length ∧ l.length - k < g ∧ y = .int .i64 k ∧ Hid (R = (l.drop k).contains x) ∧ wr = w)
  case atStart => exact ⟨0, by omega, by omega, rfl, HRE, rfl⟩
  case round =>
    obtain ⟨k, hk, hgk, rfl, HS, rfl⟩ := hrel
    obtain ⟨m, rfl⟩ : ∃ m, gk = m + 1 := ⟨gk - 1, by omega⟩
    by_cases hlt : k < l.length
    · obtain ⟨b, rfl, hbb, -, hel⟩ := HR.out (by omega)
      have q0 := hel k hlt
      rw [Nat.zero_add] at q0
      obtain ⟨z, hz⟩ : ∃ z, l.getD k 0 = z := ⟨_, rfl⟩
      rw [hz] at q0
      have HY : Hid (R = ((z == x) || (l.drop (k + 1)).contains x)) := Lib.hid (by
        rw [HS.out, List.drop_eq_getElem_cons hlt, List.contains_cons]
        have e : l[k] = z := by rw [← hz, List.getD_eq_getElem?_getD, List.getElem?_eq_getElem hlt]; rfl
        rw [e]
        congr 1
        rw [Bool.eq_iff_iff]; simp; exact eq_comm)
      clear hel hz
      by_cases hox : z = x
      · have HT : Hid (R = true) := Lib.hid (by rw [HY.out]; simp [hox])
        subst hox
        go_wp2
        go_ret
        exact ⟨by rw [HT.out]; rfl, rfl⟩
      · have hb : (z == x) = false := by simpa using hox
        have HT : Hid (R = (l.drop (k + 1)).contains x) := Lib.hid (by rw [HY.out, hb]; simp)
        go_wp2
        go_roundg m
        case measure => omega
        case rel => exact ⟨k + 1, by omega, by omega, by go_num, HT, rfl⟩
    · have HT : Hid (R = false) := Lib.hid (by rw [HS.out, List.drop_eq_nil_of_le (by omega)]; rfl)
      go_wp2
      go_ret
      exact ⟨by rw [HT.out]; rfl, rfl⟩
theorem chl_not (pl : Nat → List (Int × Int)) (c : Int) (k : Nat) : (chl pl c k).contains (k : Int) = false := by
  rw [← Bool.not_eq_true, List.contains_iff_mem]
  intro h
  unfold chl at h
  obtain ⟨i, hi, e⟩ := List.mem_map.1 h
  have h2 := List.mem_range.1 (List.mem_filter.1 hi).1
  have e2 : (i : Int) = (k : Int) := e
  omega
/-- The list while a class's parents are looked at. -/
def mid (L : List Int) (i : Nat) (b : Bool) : List Int := if b then L ++ [(i : Int)] else L
theorem any_take_succ (l : List (Int × Int)) (p : Int × Int → Bool) (k : Nat) (h : k < l.length) : (l.take (k + 1)).any p = ((l.take k).any p || p (l.getD k (0, 0))) := by
  rw [List.take_succ_eq_append_getElem h, List.any_append, List.getD_eq_getElem?_getD, List.getElem?_eq_getElem h]
  simp

set_option maxHeartbeats 8000000 in
theorem refChildren_in (cb co n cap : Nat) (c : Int) (pl : Nat → List (Int × Int)) (v1 v2 v3 v4 v5 : Value) (w : World) (hc0 : 0 ≤ c) (hc1 : c < n) (hn : n ≤ 100000) (hcb : cb < w.heap.size) (hP : Pars w w.heap.size cb co n pl) :
    Calls Tryz.prog 18 #[PV cb co n cap v1 v2 v3 v4 v5, .int .i64 c] w (RetI w (chl pl c n)) := by
  obtain ⟨i0, hi, iz0, iz1, iz2⟩ := info_parts info3
  obtain ⟨w1, hw1⟩ : ∃ w1, w.alloc (.cells #[.slice (some ⟨cb, co, none⟩) n cap, v1, v2, v3, v4, v5] 28) = w1 := ⟨_, rfl⟩
  have z1 : w1.heap.size = w.heap.size + 1 := by rw [← hw1]; exact World.size_alloc _ _
  obtain ⟨w2, hw2⟩ : ∃ w2, w1.alloc (.cells #[] 3) = w2 := ⟨_, rfl⟩
  have hb1 : Below w.heap.size w w1 := by rw [← hw1]; exact (Below.refl _ _).alloc (Nat.le_refl _) _
  have hb12 : Below w1.heap.size w1 w2 := by rw [← hw2]; exact (Below.refl _ _).alloc (Nat.le_refl _) _
  have x1 : w1.heap[w.heap.size]? = some (.cells #[.slice (some ⟨cb, co, none⟩) n cap, v1, v2, v3, v4, v5] 28 (0, 0)) := by rw [← hw1]; exact heap_alloc_new w _
  have hO2 : OwnI w2 w1.heap.size (.slice (some ⟨w1.heap.size, 0, none⟩) 0 0) [] := by
    rw [← hw2]
    exact ⟨rfl, .inr ⟨w1.heap.size, 0, #[], rfl, Nat.le_refl _, heap_alloc_new w1 _, Nat.le_refl _, by decide, rfl, rfl⟩⟩
  obtain ⟨B, hB⟩ : ∃ B, B = w.heap.size := ⟨_, rfl⟩
  rw [← hB] at x1 z1
  have HP := Lib.hid hP
  have HW1 := Lib.hid hw1
  have HW2 := Lib.hid hw2
  have HB1 := Lib.hid hb1
  have HB12 := Lib.hid hb12
  have HZ1 := Lib.hid z1
  have HBE := Lib.hid hB
  have X1 := Lib.hid x1
  have HO2 := Lib.hid hO2
  have HCB := Lib.hid hcb
  clear hw1 hw2 hb1 hb12 x1 hP hcb z1 hB hO2
  go_enter Tryz.func18, Tryz.ntmps18
  go_upto_region 1 with fail
  rw [HW1.out, ← HBE.out]
  go_upto_region 2 with fail
  rw [HW2.out]
  go_wp2
  go_loopg [5, 6] (n + 1) (fun g v y wr => ∃ k : Nat, k ≤ n ∧ n - k < g ∧ y = .int .i64 k ∧ Hid (OwnI wr w1.heap.size v (chl pl c k)) ∧ Hid (Below w1.heap.size w1 wr))
  case atStart => exact ⟨0, by omega, by omega, rfl, HO2, HB12⟩
  case round =>
    obtain ⟨k, hk, hgk, rfl, HO, HB⟩ := hrel
    obtain ⟨m, rfl⟩ : ∃ m, gk = m + 1 := ⟨gk - 1, by omega⟩
    have p0 := blk_cell ((HB.out.block B (by have := HZ1.out; omega)).trans X1.out) 0
    by_cases hlt : k < n
    · have HLN := Lib.hid (chl_len pl c k)
      have HNC := Lib.hid (chl_not pl c k)
      obtain ⟨L, hL⟩ : ∃ L, chl pl c k = L := ⟨_, rfl⟩
      have HLE := Lib.hid hL
      rw [hL] at HO HLN HNC
      have hlk : (k : Int) < (n : Int) := by omega
      clear hL
      go_wp2_with fail
      refine (refIn_yes _ hc0 hc1).mono ?_; rintro e w' ⟨rfl, rfl⟩
      go_wp2
      clear p0
      go_loopg [5, 7] ((pl k).length + 1) (fun g v y wq => ∃ j : Nat, j ≤ (pl k).length ∧ (pl k).length - j < g ∧ y = .int .i64 j ∧ Hid (OwnI wq w1.heap.size v (mid L k (((pl k).take j).any (isPar c)))) ∧ Hid (Below w1.heap.size w1 wq))
      case atStart => exact ⟨0, by omega, by omega, rfl, Lib.hid (by simpa [mid] using HO.out), HB⟩
      case round =>
        clear HO HB
        obtain ⟨j, hj, hgj, rfl, HO, HB⟩ := hrel
        obtain ⟨m2, rfl⟩ : ∃ m2, gk = m2 + 1 := ⟨gk - 1, by omega⟩
        have p0 := blk_cell ((HB.out.block B (by have := HZ1.out; omega)).trans X1.out) 0
        have hbw := HB1.out.trans (HB.out.mono HB1.out.size)
        obtain ⟨v, hv, hT⟩ := HP.out.bel hbw (Nat.le_refl _) HCB.out k hlt
        obtain ⟨ta, tc, rfl, hlen, hr⟩ := hT
        clear hbw
        by_cases hjl : j < (pl k).length
        · obtain ⟨bt, ot, rfl, hbt, hel⟩ := hr (by intro h; rw [h] at hjl; simp at hjl)
          obtain ⟨x2, x3, a4, n4, c4, q0, q1, q2, q3, q4⟩ := hel j hjl
          obtain ⟨p, hp⟩ : ∃ p, (pl k).getD j (0, 0) = p := ⟨_, rfl⟩
          have HTK : Hid (((pl k).take (j + 1)).any (isPar c) = (((pl k).take j).any (isPar c) || isPar c p)) := Lib.hid (by rw [any_take_succ _ _ _ hjl, hp])
          rw [hp] at q0 q1
          obtain ⟨kd, sy⟩ := p
          simp only at q0 q1
          obtain ⟨bb, hbb⟩ : ∃ bb, ((pl k).take j).any (isPar c) = bb := ⟨_, rfl⟩
          rw [hbb] at HO HTK
          obtain ⟨W3, hW3⟩ : ∃ W3, wr.alloc (.cells #[.int .i64 kd, .int .i64 sy, .string x2, .int .i64 x3, .slice a4 n4 c4] 58) = W3 := ⟨_, rfl⟩
          have hR3 : W3.heap[wr.heap.size]? = some (.cells #[.int .i64 kd, .int .i64 sy, .string x2, .int .i64 x3, .slice a4 n4 c4] 58 (0, 0)) := by rw [← hW3]; exact heap_alloc_new wr _
          have HB3 : Hid (Below w1.heap.size w1 W3) := Lib.hid (by rw [← hW3]; exact HB.out.alloc HB.out.size _)
          have HO3 : Hid (OwnI W3 w1.heap.size u5 (mid L k bb)) := Lib.hid (by rw [← hW3]; exact HO.out.alloc _)
          have HW3 := Lib.hid hW3
          have HR3 := Lib.hid hR3
          have HLM : Hid ((mid L k bb).length ≤ 100001) := Lib.hid (by have := HLN.out; cases bb <;> simp [mid] <;> omega)
          have HCM : Hid ((mid L k bb).contains (k : Int) = bb) := Lib.hid (by have := HNC.out; cases bb <;> simp_all [mid])
          clear hW3 hR3 hel hr hp hbb HO HB hbt
          go_upto_region 9 with fail
          rw [HW3.out]
          clear q0 q1 q2 q3 q4 p0 hv
          have r0 := blk_cell HR3.out 0
          have r1 := blk_cell HR3.out 1
          obtain ⟨y1, hy1⟩ : ∃ y, (kd == 10) = y := ⟨_, rfl⟩
          obtain ⟨y2, hy2⟩ : ∃ y, (sy == c) = y := ⟨_, rfl⟩
          have HY : Hid (((pl k).take (j + 1)).any (isPar c) = (bb || (y1 && y2))) := Lib.hid (by rw [HTK.out]; unfold isPar; simp only; rw [hy1, hy2])
          cases y1 with
          | false =>
            go_wp2
            go_roundg m2
            case measure => omega
            case rel => exact ⟨j + 1, by omega, by omega, by go_num, Lib.hid (by rw [HY.out]; simpa using HO3.out), HB3⟩
          | true =>
          cases y2 with
          | false =>
            go_wp2
            go_roundg m2
            case measure => omega
            case rel => exact ⟨j + 1, by omega, by omega, by go_num, Lib.hid (by rw [HY.out]; simpa using HO3.out), HB3⟩
          | true =>
          have cM := among_own (k : Int) HO3.out (by have := HLM.out; omega)
          rw [HCM.out] at cM
          have HCA := Lib.hid cM
          clear cM
          go_wp2_with fail
          refine HCA.out.mono ?_; rintro e w' ⟨rfl, rfl⟩
          clear HCA r0 r1
          cases bb with
          | true =>
            go_wp2
            go_roundg m2
            case measure => omega
            case rel => exact ⟨j + 1, by omega, by omega, by go_num, Lib.hid (by rw [HY.out]; exact HO3.out), HB3⟩
          | false =>
            have hln := HLN.out
            have HO3' : Hid (OwnI W3 w1.heap.size u5 L) := HO3
            go_wp2_with (at_builtin; refine wpList_append_lies _ rfl _ _ 32 rfl w1.heap.size 3 i0 (.int .i64 0) 1 8 Tryz.underlying32 hi iz0 iz1 iz2 rfl (by decide) _ L.length (L.map (Value.int .i64)) rfl (HO3'.out.alloc _) ⟨W3.heap.size, 0, none⟩ 1 1 [.int .i64 k] rfl rfl (cell_one_new _ _ _) (by intro u hu; simp at hu; subst hu; rfl) (by decide) (by unfold maxLen; omega) (by omega) (by have := HB3.out.size; simp; omega) (W3.heap.size + 1) (by simp) ?_; intro gg cap' w4 hown' hgrow hat hltg; have HG := Lib.hid (And.intro hown' hgrow); clear hown' hgrow hat hltg)
            go_roundg m2
            case measure => omega
            case rel =>
              have hba : Below w1.heap.size w1 (W3.alloc (.cells #[.int .i64 k] 3)) := HB3.out.alloc HB3.out.size _
              have hlt2 := fun j hj => ((HO3'.out.alloc (.cells #[.int .i64 k] 3)).lt j hj).1
              refine ⟨j + 1, by omega, by omega, by go_num, ?_, Lib.hid (hba.grown HG.out.2 (by have := HB3.out.size; simp; omega) (fun j hj => hlt2 j hj))⟩
              refine Lib.hid ?_
              show World.ownsRow _ _ _ _ _ _ _
              rw [HY.out]
              show World.ownsRow _ _ _ _ _ (L ++ [(k : Int)]).length ((L ++ [(k : Int)]).map (Value.int .i64))
              rw [List.length_append, List.length_singleton, List.map_append]
              exact HG.out.1
        · have hje : j = (pl k).length := by omega
          have HN : Hid (OwnI wr w1.heap.size u5 (chl pl c (k + 1))) := Lib.hid (by
            have h := HO.out
            rw [hje, List.take_length] at h
            cases hany : (pl k).any (isPar c) with
            | true => rw [chl_yes hany, HLE.out]; rw [hany] at h; exact h
            | false => rw [chl_no hany, HLE.out]; rw [hany] at h; exact h)
          clear hje HO hr
          go_wp2
          go_roundg m
          case measure => omega
          case rel => exact ⟨k + 1, by omega, by omega, by go_num, HN, HB⟩
    · have hke : k = n := by omega
      have HE : Hid (OwnI wr w1.heap.size u5 (chl pl c n)) := Lib.hid (by rw [← hke]; exact HO.out)
      have hnl : ¬ (k : Int) < (n : Int) := by omega
      clear hke HO
      go_wp2
      go_ret
      exact ⟨_, rfl, owns_mono HE.out HB1.out.size, HB1.out.trans (HB.out.mono HB1.out.size)⟩
set_option maxHeartbeats 1000000 in
theorem refChildren_out (ca : Option Addr) (n cap : Nat) (c : Int) (v1 v2 v3 v4 v5 : Value) (w : World) (hc : c < 0 ∨ (n : Int) ≤ c) :
    Calls Tryz.prog 18 #[.agg #[.slice ca n cap, v1, v2, v3, v4, v5], .int .i64 c] w (RetI w []) := by
  obtain ⟨w1, hw1⟩ : ∃ w1, w.alloc (.cells #[.slice ca n cap, v1, v2, v3, v4, v5] 28) = w1 := ⟨_, rfl⟩
  have z1 : w1.heap.size = w.heap.size + 1 := by rw [← hw1]; exact World.size_alloc _ _
  obtain ⟨w2, hw2⟩ : ∃ w2, w1.alloc (.cells #[] 3) = w2 := ⟨_, rfl⟩
  have hb1 : Below w.heap.size w w1 := by rw [← hw1]; exact (Below.refl _ _).alloc (Nat.le_refl _) _
  have hb2 : Below w.heap.size w w2 := by rw [← hw2]; exact hb1.alloc (by omega) _
  have x1 : w2.heap[w.heap.size]? = some (.cells #[.slice ca n cap, v1, v2, v3, v4, v5] 28 (0, 0)) := by
    rw [← hw2, Below.heap_alloc _ _ _ (by omega), ← hw1]; exact heap_alloc_new w _
  have hO2 : OwnI w2 w.heap.size (.slice (some ⟨w1.heap.size, 0, none⟩) 0 0) [] := by
    rw [← hw2]
    exact ⟨rfl, .inr ⟨w1.heap.size, 0, #[], rfl, by omega, heap_alloc_new w1 _, Nat.le_refl _, by decide, rfl, rfl⟩⟩
  have HC := Lib.hid hc
  have HZ1 := Lib.hid z1
  have HW1 := Lib.hid hw1
  have HW2 := Lib.hid hw2
  have HB2 := Lib.hid hb2
  have HO2 := Lib.hid hO2
  have p0 := blk_cell x1 0
  clear hw1 hw2 hb1 hb2 x1 hO2 z1 hc
  go_enter Tryz.func18, Tryz.ntmps18
  go_upto_region 1 with fail
  rw [HW1.out]
  go_upto_region 2 with fail
  rw [HW2.out]
  by_cases h0 : 0 < n
  · have d0 : decide (0 < n) = true := by simpa using h0
    go_wp2
    go_loopg [5, 6] 1 (fun g v y wr => v = .slice (some ⟨w1.heap.size, 0, none⟩) 0 0 ∧ y = .int .i64 0 ∧ wr = w2 ∧ 0 < g)
    case atStart => exact ⟨rfl, rfl, rfl, by omega⟩
    case round =>
      obtain ⟨rfl, rfl, rfl, hg⟩ := hrel
      go_wp2_with fail
      refine (refIn_no _ HC.out).mono ?_; rintro e w' ⟨rfl, rfl⟩
      go_wp2
      go_ret
      exact ⟨_, rfl, HO2.out, HB2.out⟩
  · have d0 : decide (0 < n) = false := by simpa using h0
    go_wp2
    go_loopg [5, 6] 1 (fun g v y wr => v = .slice (some ⟨w1.heap.size, 0, none⟩) 0 0 ∧ y = .int .i64 0 ∧ wr = w2 ∧ 0 < g)
    case atStart => exact ⟨rfl, rfl, rfl, by omega⟩
    case round =>
      obtain ⟨rfl, rfl, rfl, hg⟩ := hrel
      go_wp2
      go_ret
      exact ⟨_, rfl, HO2.out, HB2.out⟩
end Go.Proofs.YtlipfgdjbimfjaaGreatDoor
