/- existing; rows of references; names of a table's entries; Declared of the program. -/
import Derived.Test.YtlipfgdjbimfjaaGreatDoorI0
import Derived.Deep.RegionHeld3
namespace Go.Proofs.YtlipfgdjbimfjaaGreatDoor
open Go.RowKit Go.Shelf Go.Sort
set_option maxRecDepth 100000

variable {H : Type} {enc : TypeId × Value → H}
/-- Is an index one of a table of a length. -/
def inT (m : Int) (i : Int) : Bool := decide (0 ≤ i) && decide (i < m)
/-- A list of ints in memory. -/
def ILs (w : World) (a : Option Addr) (l : List Int) : Prop := 0 < l.length → ∃ b off, a = some ⟨b, off, none⟩ ∧ b < w.heap.size ∧ ∀ j, j < l.length → w.cell? ⟨b, off + j, none⟩ = some (.int .i64 (l.getD j 0))
theorem ILs.bel {w w' : World} {a : Option Addr} {l : List Int} (h : ILs w a l) (hb : Below w.heap.size w w') : ILs w' a l := fun h0 => by
  obtain ⟨b, off, h1, h2, h3⟩ := h h0
  exact ⟨b, off, h1, Nat.lt_of_lt_of_le h2 hb.size, fun j hj => (hb.cell (p := ⟨b, off + j, none⟩) h2).trans (h3 j hj)⟩
/-- The data of an old list of ints. -/
theorem ints_old {W0 : World} {a : Option Addr} {n c : Nat} (h : Rv enc Tryz.prog W0 32 [.slice a n c]) : ∃ l : List Int, l.length = n ∧ ILs W0 a l := by
  obtain ⟨a', len, cap, he, _, hz, hr⟩ := h.slice Tryz.underlying32 cells3 (by decide)
  injection he with he _
  injection he with e1 e2 e3
  subst e1 e2 e3
  by_cases h0 : 0 < n
  · obtain ⟨b, off, h1, h2, h3⟩ := hr h0
    have each : ∀ i : Nat, ∃ x : Int, i < n → W0.cell? ⟨b, off + i, none⟩ = some (.int .i64 x) := by
      intro i
      by_cases hi : i < n
      · obtain ⟨cs, hl, hc, hrv⟩ := h3 i hi
        obtain ⟨x, rfl, _⟩ := Rv.int Tryz.underlying3 hrv
        have := hc 0 (by decide)
        rw [Nat.mul_one] at this
        exact ⟨x, fun _ => this⟩
      · exact ⟨0, fun h => absurd h hi⟩
    obtain ⟨f, hf⟩ := Classical.axiomOfChoice each
    refine ⟨(List.range n).map f, by simp, fun _ => ⟨b, off, h1, h2, fun j hj => ?_⟩⟩
    have hj' : j < n := by simpa using hj
    rw [hf j hj', List.getD_eq_getElem?_getD, List.getElem?_map, List.getElem?_range hj']
    rfl
  · exact ⟨[], by simp; omega, fun h => absurd h (by simp)⟩
theorem take_snocI (l : List Int) (k : Nat) (h : k < l.length) : l.take (k + 1) = l.take k ++ [l.getD k 0] := by
  rw [List.take_succ_eq_append_getElem h, List.getD_eq_getElem?_getD, List.getElem?_eq_getElem h]; rfl

set_option maxHeartbeats 4000000 in
theorem existing_any (a : Option Addr) (c : Nat) (l : List Int) (m : Int) (w : World) (hn : l.length ≤ 100000) (hL : ILs w a l) :
    Calls Tryz.prog 39 #[.slice a l.length c, .int .i64 m] w (RetI w (l.filter (inT m))) := by
  obtain ⟨i0, hi, iz0, iz1, iz2⟩ := info_parts info3
  have HL := Lib.hid hL
  clear hL
  go_enter Tryz.func39, Tryz.ntmps39
  go_wp2
  go_loopg [5, 10] (l.length + 1) (fun g v y wr => ∃ k : Nat, k ≤ l.length ∧ l.length - k < g ∧ y = .int .i64 k ∧ Hid (OwnI wr w.heap.size v ((l.take k).filter (inT m))) ∧ Hid (Below w.heap.size w wr))
  case atStart => exact ⟨0, by omega, by omega, rfl, Lib.hid (World.ownsRow_nil _ _ _ _), Lib.hid (Below.refl _ _)⟩
  case round =>
    obtain ⟨k, hk, hgk, rfl, HO, HB⟩ := hrel
    obtain ⟨g', rfl⟩ : ∃ m, gk = m + 1 := ⟨gk - 1, by omega⟩
    by_cases hlt : k < l.length
    · obtain ⟨b, off, rfl, hbs, hel⟩ := HL.out (by omega)
      have q0 : wr.cell? ⟨b, off + k, none⟩ = some (.int .i64 (l.getD k 0)) := (HB.out.cell (p := ⟨b, off + k, none⟩) hbs).trans (hel k hlt)
      have HT := Lib.hid (take_snocI l k hlt)
      obtain ⟨x, hx⟩ : ∃ x, l.getD k 0 = x := ⟨_, rfl⟩
      have HTX : Hid (l.take (k + 1) = l.take k ++ [x]) := Lib.hid (by rw [HT.out, hx])
      rw [hx] at q0
      have HFL := Lib.hid (show ((l.take k).filter (inT m)).length ≤ 100000 by have h1 := List.length_filter_le (inT m) (l.take k); have h2 := List.length_take_le k l; omega)
      clear hx hel HT
      obtain ⟨L, hLL⟩ : ∃ L, (l.take k).filter (inT m) = L := ⟨_, rfl⟩
      rw [hLL] at HO HFL
      by_cases hin : 0 ≤ x ∧ x < m
      · obtain ⟨h0, h1⟩ := hin
        have HY : Hid ((l.take (k + 1)).filter (inT m) = L ++ [x]) := Lib.hid (by rw [HTX.out, List.filter_append, hLL]; simp [inT, h0, h1])
        have hfl := HFL.out
        clear hLL HTX
        go_wp2_with (first
          | (go_at_call 38; refine (isIndex_in _ h0 h1).mono ?_; rintro e w' ⟨rfl, rfl⟩)
          | (at_builtin; refine wpList_append_lies _ rfl _ _ 32 rfl w.heap.size 3 i0 (.int .i64 0) 1 8 Tryz.underlying32 hi iz0 iz1 iz2 rfl (by decide) _ L.length (L.map (Value.int .i64)) rfl (HO.out.alloc _) ⟨wr.heap.size, 0, none⟩ 1 1 [.int .i64 x] rfl rfl (cell_one_new _ _ _) (by intro u hu; simp at hu; subst hu; rfl) (by decide) (by unfold maxLen; omega) (by omega) (by have := HB.out.size; simp; omega) (wr.heap.size + 1) (by simp) ?_; intro gg cap' w3 hown' hgrow hat hltg; have HG := Lib.hid (And.intro hown' hgrow); clear hown' hgrow hat hltg))
        go_roundg g'
        case measure => omega
        case rel =>
          have hB1 : Below w.heap.size w (wr.alloc (.cells #[.int .i64 x] 3)) := HB.out.alloc HB.out.size _
          have hlt2 := fun k hk => ((HO.out.alloc (.cells #[.int .i64 x] 3)).lt k hk).1
          refine ⟨k + 1, by omega, by omega, by go_num, ?_, Lib.hid (hB1.grown HG.out.2 (by have := HB.out.size; simp; omega) (fun k hk => hlt2 k hk))⟩
          refine Lib.hid ?_
          show World.ownsRow _ _ _ _ _ _ _
          rw [HY.out, List.length_append, List.length_singleton, List.map_append]
          exact HG.out.1
      · have HY : Hid ((l.take (k + 1)).filter (inT m) = L) := Lib.hid (by
          rw [HTX.out, List.filter_append, hLL]
          have : inT m x = false := by unfold inT; simp; omega
          simp [this])
        have hout : x < 0 ∨ m ≤ x := by omega
        have HOUT := Lib.hid hout
        clear hin hout hLL HTX
        go_wp2_with (go_at_call 38; refine (isIndex_out _ HOUT.out).mono ?_; rintro e w' ⟨rfl, rfl⟩)
        go_roundg g'
        case measure => omega
        case rel => exact ⟨k + 1, by omega, by omega, by go_num, Lib.hid (by rw [HY.out]; exact HO.out), HB⟩
    · have hke : k = l.length := by omega
      have HE : Hid ((l.take k).filter (inT m) = l.filter (inT m)) := Lib.hid (by rw [hke, List.take_length])
      clear hke
      go_wp2
      go_ret
      exact ⟨_, rfl, by rw [HE.out] at HO; exact HO.out, HB.out⟩
end Go.Proofs.YtlipfgdjbimfjaaGreatDoor
namespace Go.Proofs.YtlipfgdjbimfjaaGreatDoor
open Go.RowKit Go.Shelf Go.Sort
set_option maxRecDepth 100000

variable {H : Type} {enc : TypeId × Value → H}
theorem info42 : (Tryz.prog.info? 42).map (fun i => (i.zero, i.size, i.bytes)) = some (some (.agg #[.int .i64 0, .int .i64 0]), 2, 16) := by kernel_rfl
/-- References as cells. -/
def flatR (l : List (Int × Int)) : List Value := l.flatMap fun p => [.int .i64 p.1, .int .i64 p.2]
theorem flatR_app (l : List (Int × Int)) (p : Int × Int) : flatR (l ++ [p]) = flatR l ++ [.int .i64 p.1, .int .i64 p.2] := by simp [flatR]
theorem flatR_get (l : List (Int × Int)) : ∀ i, i < l.length → (flatR l)[i * 2]? = some (.int .i64 (l.getD i (0, 0)).1) ∧ (flatR l)[i * 2 + 1]? = some (.int .i64 (l.getD i (0, 0)).2) := by
  induction l with
  | nil => intro i h; simp at h
  | cons p r ih =>
    intro i hi
    cases i with
    | zero => exact ⟨rfl, rfl⟩
    | succ i =>
      have h := ih i (by simpa using hi)
      have e : flatR (p :: r) = [.int .i64 p.1, .int .i64 p.2] ++ flatR r := rfl
      rw [e, List.getElem?_append_right (by simp; omega), List.getElem?_append_right (by simp; omega)]
      have e1 : (i + 1) * 2 - ([.int .i64 p.1, .int .i64 p.2] : List Value).length = i * 2 := by simp; omega
      have e2 : (i + 1) * 2 + 1 - ([.int .i64 p.1, .int .i64 p.2] : List Value).length = i * 2 + 1 := by simp; omega
      rw [e1, e2]
      exact h
/-- An own row of references. -/
abbrev OwnR (w : World) (B : Nat) (v : Value) (l : List (Int × Int)) : Prop := w.ownsRow B 42 2 v l.length (flatR l)
/-- What a call that makes a list of references leaves. -/
def RetR (w : World) (l : List (Int × Int)) (e : Ending) (w' : World) : Prop := ∃ v, e = .returned v ∧ OwnR w' w.heap.size v l ∧ Below w.heap.size w w'
/-- The cells of an own row of references. -/
theorem ownR_cells {w : World} {B : Nat} {v : Value} {l : List (Int × Int)} (h : OwnR w B v l) : ∃ a cap, v = .slice a l.length cap ∧ (0 < l.length → ∃ g, a = some ⟨g, 0, none⟩ ∧ B ≤ g ∧ g < w.heap.size ∧ ∀ i, i < l.length → w.cell? ⟨g, 0 + i * 2, none⟩ = some (.int .i64 (l.getD i (0, 0)).1) ∧ w.cell? ⟨g, 0 + i * 2 + 1, none⟩ = some (.int .i64 (l.getD i (0, 0)).2)) := by
  rcases h.2 with ⟨h1, h2⟩ | ⟨g, cap, cur, h1, h2, h3, h4, h5, h6, h7⟩
  · exact ⟨none, 0, by rw [h1, h2], fun h => by omega⟩
  · refine ⟨_, cap, h1, fun _ => ⟨g, rfl, h2, (Array.getElem?_eq_some_iff.1 h3).1, fun i hi => ?_⟩⟩
    have key : ∀ j, j < l.length * 2 → w.cell? ⟨g, 0 + j, none⟩ = (flatR l)[j]? := by
      intro j hj
      rw [← h7, List.getElem?_take, if_pos hj, Nat.zero_add]
      simp only [World.cell?, h3]
      rw [Array.getElem?_toList]
      rfl
    have hg := flatR_get l i hi
    have k1 := key (i * 2) (by omega)
    have k2 := key (i * 2 + 1) (by omega)
    rw [← Nat.add_assoc] at k2
    exact ⟨k1.trans hg.1, k2.trans hg.2⟩
/-- Names of the entries of a table, k cells each. -/
def NmT (k : Nat) (W0 : World) (v : Value) (n : Nat) (nm : Nat → ByteArray) : Prop := ∃ a cap, v = .slice a n cap ∧ (0 < n → ∃ b off, a = some ⟨b, off, none⟩ ∧ b < W0.heap.size ∧ ∀ i, i < n → W0.cell? ⟨b, off + i * k, none⟩ = some (.string (nm i)))
theorem names_of {W0 : World} {t e : TypeId} {k : Nat} {v : Value} (ht : Tryz.prog.underlying t = some (.slice e)) (hk : Tryz.prog.cellsOf e = k) (hk0 : 0 < k) (hB : 8 ≤ Tryz.prog.bytesOf e) (h : Rv enc Tryz.prog W0 t [v])
    (hs : ∀ cs, Rv enc Tryz.prog W0 e cs → ∃ s, cs[0]? = some (.string s)) : ∃ (n : Nat) (nm : Nat → ByteArray), n ≤ 17592186044416 ∧ NmT k W0 v n nm := by
  obtain ⟨a, len, cap, he, _, hz, hr⟩ := h.slice ht hk hk0
  have hz2 : len * 8 ≤ reachBytes := Nat.le_trans (Nat.mul_le_mul_left _ hB) hz
  injection he with he _
  have hlen : len ≤ 17592186044416 := by unfold reachBytes at hz2; omega
  by_cases h0 : 0 < len
  · obtain ⟨b, off, h1, h2, h3⟩ := hr h0
    have each : ∀ i : Nat, ∃ s : ByteArray, i < len → W0.cell? ⟨b, off + i * k, none⟩ = some (.string s) := by
      intro i
      by_cases hi : i < len
      · obtain ⟨cs, hl, hc, hrv⟩ := h3 i hi
        obtain ⟨s, hs⟩ := hs cs hrv
        exact ⟨s, fun _ => (hc 0 hk0).trans hs⟩
      · exact ⟨ByteArray.empty, fun h => absurd h hi⟩
    obtain ⟨f, hf⟩ := Classical.axiomOfChoice each
    exact ⟨len, f, hlen, a, cap, he, fun _ => ⟨b, off, h1, h2, fun i hi => hf i hi⟩⟩
  · exact ⟨len, fun _ => ByteArray.empty, hlen, a, cap, he, fun h => absurd h h0⟩
theorem names_fields {W0 : World} {v : Value} (h : Rv enc Tryz.prog W0 24 [v]) : ∃ (n : Nat) (nm : Nat → ByteArray), n ≤ 17592186044416 ∧ NmT 9 W0 v n nm :=
  names_of Tryz.underlying24 cells72 (by decide) bytes72 h (fun cs hc => by obtain ⟨t, rfl, _⟩ := rv_field hc; exact ⟨_, rfl⟩)
theorem names_methods {W0 : World} {v : Value} (h : Rv enc Tryz.prog W0 23 [v]) : ∃ (n : Nat) (nm : Nat → ByteArray), n ≤ 17592186044416 ∧ NmT 13 W0 v n nm :=
  names_of Tryz.underlying23 cells63 (by decide) bytes63 h (fun cs hc => by obtain ⟨t, rfl, _⟩ := rv_method hc; exact ⟨_, rfl⟩)
theorem names_types {W0 : World} {v : Value} (h : Rv enc Tryz.prog W0 26 [v]) : ∃ (n : Nat) (nm : Nat → ByteArray), n ≤ 17592186044416 ∧ NmT 13 W0 v n nm :=
  names_of Tryz.underlying26 cells77 (by decide) (by rw [bytes77]; decide) h (fun cs hc => by obtain ⟨t, rfl, _⟩ := rv_member hc; exact ⟨_, rfl⟩)
/-- Has an entry the name. -/
def hasN (nm : Nat → ByteArray) (name : ByteArray) (i : Int) : Bool := decide ((nm i.toNat).toList = name.toList)
/-- The references of a kind to the indices of a list that a table has, and that have the name. -/
def refsM (kd : Int) (m : Nat) (nm : Nat → ByteArray) (name : ByteArray) (l : List Int) : List (Int × Int) := ((l.filter (inT m)).filter (hasN nm name)).map fun i => (kd, i)
theorem refsM_len (kd : Int) (m : Nat) (nm : Nat → ByteArray) (name : ByteArray) (l : List Int) : (refsM kd m nm name l).length ≤ l.length := by
  unfold refsM
  rw [List.length_map]
  exact Nat.le_trans (List.length_filter_le _ _) (List.length_filter_le _ _)
/-- A list of ints beside an own row. -/
def EC (w : World) (v r : Value) (E : List Int) : Prop := ∃ a c, v = .slice a E.length c ∧ (0 < E.length → ∃ g, a = some ⟨g, 0, none⟩ ∧ g < w.heap.size ∧ r.ownBlock ≠ some g ∧ ∀ j, j < E.length → w.cell? ⟨g, 0 + j, none⟩ = some (.int .i64 (E.getD j 0)))
theorem EC.grown {w w1 w' : World} {v r r' : Value} {E : List Int} {g' : Nat} (h : EC w v r E) (hb : Below w.heap.size w w1) (hg : w1.grownBy w' r.ownBlock) (hr : r.ownBlock = some g' ∨ g' = w1.heap.size) (hr' : r'.ownBlock = some g') : EC w' v r' E := by
  obtain ⟨a, c, h1, h2⟩ := h
  refine ⟨a, c, h1, fun h0 => ?_⟩
  obtain ⟨g, e1, e2, e3, e4⟩ := h2 h0
  have h5 := hb.size
  refine ⟨g, e1, by have := hg.size; omega, ?_, fun j hj => ?_⟩
  · rw [hr']
    intro e
    injection e with e
    rcases hr with h | h
    · exact e3 (by rw [h, e])
    · omega
  · have hk : w'.heap[g]? = w1.heap[g]? := hg.block g (by omega) (fun e => e3 e.symm)
    exact (World.cell?_of_block (a := ⟨g, _, none⟩) hk).trans ((hb.cell (p := ⟨g, 0 + j, none⟩) e2).trans (e4 j hj))
theorem EC.of_own {w : World} {B : Nat} {v r : Value} {E : List Int} (h : OwnI w B v E) (hr : ∀ k, r.ownBlock = some k → k < B) : EC w v r E := by
  rcases own_cells h with ⟨h1, h2⟩ | ⟨g, cap, h1, h2, h3, h4, h5⟩
  · exact ⟨none, 0, by rw [h1, h2]; rfl, fun h => by rw [h2] at h; simp at h⟩
  · exact ⟨_, cap, h1, fun _ => ⟨g, rfl, h3, fun e => by have := hr g e; omega, h5⟩⟩
theorem cell_two_new (w : World) (t : TypeId) (a b : Value) : ∀ j u, ([a, b] : List Value)[j]? = some u → (w.alloc (.cells #[a, b] t)).cell? ((⟨w.heap.size, 0, none⟩ : Addr).add j) = some u := by
  intro j u hu
  rw [addr_add]
  have h := heap_alloc_new w (.cells #[a, b] t)
  have h2 := blk_cell h (0 + j)
  rw [h2, Nat.zero_add]
  simpa using hu
end Go.Proofs.YtlipfgdjbimfjaaGreatDoor
namespace Go.Proofs.YtlipfgdjbimfjaaGreatDoor
open Go.RowKit Go.Shelf Go.Sort
set_option maxRecDepth 100000

theorem own_bel {w w' : World} {B : Nat} {e : TypeId} {s : Nat} {v : Value} {n : Nat} {xs : List Value} (h : w.ownsRow B e s v n xs) (hb : Below w.heap.size w w') : w'.ownsRow B e s v n xs := by
  refine ⟨h.1, ?_⟩
  rcases h.2 with h | ⟨g, cap, cur, hv, hg, hh, rest⟩
  · exact .inl h
  · exact .inr ⟨g, cap, cur, hv, hg, (hb.block g (Array.getElem?_eq_some_iff.1 hh).1).trans hh, rest⟩
theorem below_drw (w : World) : Below w.heap.size w w.drew := ⟨rfl, rfl, rfl, Nat.le_refl _, fun _ _ => rfl⟩
theorem inT_nat {m : Nat} {x : Int} (h : inT m x = true) : ∃ k : Nat, x = k ∧ k < m := by
  unfold inT at h
  rw [Bool.and_eq_true, decide_eq_true_eq, decide_eq_true_eq] at h
  exact ⟨x.toNat, by omega, by omega⟩

set_option maxHeartbeats 8000000 in
theorem declared_in (W0 : World) (ca : Option Addr) (cn cc : Nat) (ma : Option Addr) (mn mc : Nat) (fa : Option Addr) (fn fc : Nat) (ta : Option Addr) (tn tc : Nat) (ya : Option Addr) (yn yc : Nat) (mi : Int) (d : Nat → ClS) (hn : cn ≤ 17592186044416) (hC : CLS W0 (.slice ca cn cc) cn d)
    (nmm nmf nmy : Nat → ByteArray) (hNm : NmT 13 W0 (.slice ma mn mc) mn nmm) (hNf : NmT 9 W0 (.slice fa fn fc) fn nmf) (hNy : NmT 13 W0 (.slice ya yn yc) yn nmy) (hmn : mn ≤ 17592186044416) (hfn : fn ≤ 17592186044416) (hyn : yn ≤ 17592186044416)
    (c : Nat) (hc : c < cn) (lf lm ly : List Int) (hlf : lf.length = (d c).fn) (hlm : lm.length = (d c).mn) (hly : ly.length = (d c).yn) (zf : lf.length ≤ 200) (zm : lm.length ≤ 200) (zy : ly.length ≤ 200) (hLf : ILs W0 (d c).fa lf) (hLm : ILs W0 (d c).ma lm) (hLy : ILs W0 (d c).ya ly)
    (name : ByteArray) (w : World) (hb : Below W0.heap.size W0 w) :
    Calls Tryz.prog 14 #[.agg #[.slice ca cn cc, .slice ma mn mc, .slice fa fn fc, .slice ta tn tc, .slice ya yn yc, .int .i64 mi], .int .i64 c, .string name] w (RetR w (refsM 1 fn nmf name lf ++ refsM 0 mn nmm name lm ++ refsM 2 yn nmy name ly)) := by
  obtain ⟨i0, hi, iz0, iz1, iz2⟩ := info_parts info42
  obtain ⟨w1, hw1⟩ : ∃ w1, w.alloc (.cells #[.slice ca cn cc, .slice ma mn mc, .slice fa fn fc, .slice ta tn tc, .slice ya yn yc, .int .i64 mi] 28) = w1 := ⟨_, rfl⟩
  have hb1 : Below w.heap.size w w1 := by rw [← hw1]; exact (Below.refl _ _).alloc (Nat.le_refl _) _
  have hz1 : w1.heap.size = w.heap.size + 1 := by rw [← hw1]; exact World.size_alloc _ _
  have x1 : w1.heap[w.heap.size]? = some (.cells #[.slice ca cn cc, .slice ma mn mc, .slice fa fn fc, .slice ta tn tc, .slice ya yn yc, .int .i64 mi] 28 (0, 0)) := by rw [← hw1]; exact heap_alloc_new w _
  obtain ⟨a', cap', he, hr⟩ := hC
  injection he with e1 e2 e3
  subst e1 e3
  obtain ⟨b, off, rfl, hbs, hel⟩ := hr (by omega)
  have hB1 : Below W0.heap.size W0 w1 := hb.trans (hb1.mono hb.size)
  have q : ∀ wr, Below W0.heap.size W0 wr → ∀ j, j < 13 → wr.cell? ⟨b, off + c * 13 + j, none⟩ = (d c).cells[j]? := fun wr hw j hj => hel wr hw c hc j hj
  obtain ⟨t, ht⟩ : ∃ t, d c = t := ⟨_, rfl⟩
  rw [ht] at q hlf hlm hly hLf hLm hLy
  obtain ⟨tnm, kd, fl, tow, xa1, xn1, xc1, xa2, xn2, xc2, xa3, xn3, xc3, qfa, qfn, qfc, qma, qmn, qmc, qya, qyn, qyc, xa4, xn4, xc4, xa5, xn5, xc5, at_⟩ := t
  simp only at hlf hlm hly hLf hLm hLy
  subst hlf hlm hly
  have cf : ∀ wr, Below W0.heap.size W0 wr → wr.cell? ⟨b, off + c * 13 + 7, none⟩ = some (.slice qfa lf.length qfc) := fun wr hw => q wr hw 7 (by decide)
  have cm : ∀ wr, Below W0.heap.size W0 wr → wr.cell? ⟨b, off + c * 13 + 8, none⟩ = some (.slice qma lm.length qmc) := fun wr hw => q wr hw 8 (by decide)
  have cy : ∀ wr, Below W0.heap.size W0 wr → wr.cell? ⟨b, off + c * 13 + 9, none⟩ = some (.slice qya ly.length qyc) := fun wr hw => q wr hw 9 (by decide)
  have ilf : ∀ wr, Below W0.heap.size W0 wr → ILs wr qfa lf := fun wr hw => hLf.bel hw
  have ilm : ∀ wr, Below W0.heap.size W0 wr → ILs wr qma lm := fun wr hw => hLm.bel hw
  have ily : ∀ wr, Below W0.heap.size W0 wr → ILs wr qya ly := fun wr hw => hLy.bel hw
  have HCF := Lib.hid cf
  have HCM := Lib.hid cm
  have HCY := Lib.hid cy
  have HIF := Lib.hid ilf
  have HIM := Lib.hid ilm
  have HIY := Lib.hid ily
  have HNM := Lib.hid hNm
  have HNF := Lib.hid hNf
  have HNY := Lib.hid hNy
  have HB0 := Lib.hid hb1
  have HBW := Lib.hid hB1
  have X1 := Lib.hid x1
  have HW1 := Lib.hid hw1
  have HZ1 := Lib.hid hz1
  have bf := Lib.hid (refsM_len 1 fn nmf name lf)
  have bm := Lib.hid (refsM_len 0 mn nmm name lm)
  have by_ := Lib.hid (refsM_len 2 yn nmy name ly)
  obtain ⟨W, hW⟩ : ∃ W, W = w.heap.size := ⟨_, rfl⟩
  have HWE := Lib.hid hW
  have X1 : Hid (w1.heap[W]? = some (.cells #[.slice (some ⟨b, off, none⟩) cn cc, .slice ma mn mc, .slice fa fn fc, .slice ta tn tc, .slice ya yn yc, .int .i64 mi] 28 (0, 0))) := Lib.hid (by rw [hW]; exact X1.out)
  have hci : (0 : Int) ≤ (c : Int) := by omega
  have hcn : (c : Int) < (cn : Int) := by omega
  have p0 := blk_cell x1 0
  -- the box in a later world
  have bx : ∀ wr, Below w1.heap.size w1 wr → wr.heap[W]? = some (.cells #[.slice (some ⟨b, off, none⟩) cn cc, .slice ma mn mc, .slice fa fn fc, .slice ta tn tc, .slice ya yn yc, .int .i64 mi] 28 (0, 0)) := fun wr hw => (hw.block W (by have := HZ1.out; omega)).trans X1.out
  have HBX := Lib.hid bx
  clear hw1 hb1 hz1 x1 hr hel q ht hB1 hLf hLm hLy cf cm cy ilf ilm ily hNm hNf hNy hW bx hb hbs
  go_enter Tryz.func14, Tryz.ntmps14
  go_upto_region 1 with fail
  rw [HW1.out, ← HWE.out]
  rw [← HWE.out] at p0
  go_wp2_with fail
  refine (isIndex_in _ hci hcn).mono ?_; rintro e w' ⟨rfl, rfl⟩
  go_upto_region 5 with fail
  clear p0
  have HO : Hid (OwnR w1 w1.heap.size (.slice none 0 0) []) := Lib.hid (World.ownsRow_nil _ _ _ _)
  have HB : Hid (Below w1.heap.size w1 w1) := Lib.hid (Below.refl _ _)
  have hbw : Below W0.heap.size W0 w1.drew := (HBW.out.trans (HB.out.mono HBW.out.size)).trans ((below_drw w1).mono (HBW.out.trans (HB.out.mono HBW.out.size)).size)
  have cE := existing_any qfa qfc lf fn w1.drew (by omega) (HIF.out _ hbw)
  have HS0 : Hid (w1.drew.cell? ⟨b, off + c * 13 + 7, none⟩ = some (.slice qfa lf.length qfc) ∧ w1.drew.cell? ⟨W, 2, none⟩ = some (.slice fa fn fc)) := Lib.hid ⟨HCF.out _ hbw, blk_cell (HBX.out w1.drew (HB.out.trans ((below_drw w1).mono HB.out.size))) 2⟩
  have HCE := Lib.hid cE
  have HBD : Hid (Below w1.heap.size w1 w1.drew) := Lib.hid (HB.out.trans ((below_drw w1).mono HB.out.size))
  have HOD : Hid (OwnR w1.drew w1.heap.size (.slice none 0 0) ([] : List (Int × Int))) := Lib.hid (own_bel HO.out (below_drw w1))
  clear hbw cE HO HB
  go_region_held3 (fun w' => w'.cell? ⟨b, off + c * 13 + 7, none⟩ = some (.slice qfa lf.length qfc) ∧ w'.cell? ⟨W, 2, none⟩ = some (.slice fa fn fc)) (first | exact HS0.out | exact HS1.out | go_keep)
    (first
      | (go_at_call 39; refine HCE.out.mono ?_; rintro e w5 ⟨v5, rfl, ho5, hb5⟩; have HB5 : Hid (Below w1.heap.size w1 w5) := Lib.hid (HBD.out.trans (hb5.mono HBD.out.size)); have HS1 : Hid (w5.cell? ⟨b, off + c * 13 + 7, none⟩ = some (.slice qfa lf.length qfc) ∧ w5.cell? ⟨W, 2, none⟩ = some (.slice fa fn fc)) := Lib.hid ⟨HCF.out _ (HBW.out.trans (HB5.out.mono HBW.out.size)), blk_cell (HBX.out w5 HB5.out) 2⟩; have HOD5 : Hid (OwnR w5 w1.heap.size (.slice none 0 0) ([] : List (Int × Int))) := Lib.hid (own_bel HOD.out hb5); have HEC : Hid (EC w5 v5 (.slice none 0 0) (lf.filter (inT fn))) := Lib.hid (EC.of_own ho5 (fun k hk => (HOD.out.lt k hk).2)); obtain ⟨ea, ec, rfl⟩ := own_shape ho5; clear hb5 ho5))
  clear HCE HS0 HS1 HOD HBD
  obtain ⟨E, hE⟩ : ∃ E, lf.filter (inT fn) = E := ⟨_, rfl⟩
  have HEL := Lib.hid (show E.length ≤ 200 by rw [← hE]; have := List.length_filter_le (inT fn) lf; omega)
  have HEM : Hid (∀ k, k < E.length → inT fn (E.getD k 0) = true) := Lib.hid (fun k hk => by
    have hm : E.getD k 0 ∈ lf.filter (inT fn) := by rw [hE, List.getD_eq_getElem?_getD, List.getElem?_eq_getElem hk]; exact List.getElem_mem hk
    exact (List.mem_filter.1 hm).2)
  have HRE : Hid (refsM 1 fn nmf name lf = (E.filter (hasN nmf name)).map fun i => (1, i)) := Lib.hid (by rw [← hE]; rfl)
  rw [hE] at HEC
  try rw [hE]
  clear hE
  go_wp2
  go_loopg [7, 34] (E.length + 1) (fun g v y wr => ∃ k : Nat, k ≤ E.length ∧ E.length - k < g ∧ y = .int .i64 k ∧ Hid (OwnR wr w1.heap.size v (([] : List (Int × Int)) ++ ((E.take k).filter (hasN nmf name)).map fun i => (1, i))) ∧ Hid (EC wr (.slice ea E.length ec) v E) ∧ Hid (Below w1.heap.size w1 wr))
  case atStart => exact ⟨0, by omega, by omega, rfl, Lib.hid (by simpa using HOD5.out), HEC, HB5⟩
  case round =>
    obtain ⟨k, hk, hgk, rfl, HO, HC, HB⟩ := hrel
    obtain ⟨g', rfl⟩ : ∃ m, gk = m + 1 := ⟨gk - 1, by omega⟩
    by_cases hlt : k < E.length
    · obtain ⟨a2, c2, he2, hr2⟩ := HC.out
      injection he2 with e1 e2 e3
      subst e1 e3
      obtain ⟨g5, rfl, hg5, hne5, hel5⟩ := hr2 (by omega)
      obtain ⟨xn, hxn, hxm⟩ := inT_nat (HEM.out k hlt)
      have q0 : wr.cell? ⟨g5, k, none⟩ = some (.int .i64 xn) := by have := hel5 k hlt; rw [hxn, Nat.zero_add] at this; exact this
      have HT : Hid (E.take (k + 1) = E.take k ++ [(xn : Int)]) := Lib.hid (by rw [take_snocI E k hlt, hxn])
      have hbw := HBW.out.trans (HB.out.mono HBW.out.size)
      obtain ⟨a3, c3, he3, hr3⟩ := HNF.out
      injection he3 with e1 e2 e3
      subst e1 e3
      obtain ⟨bt, ot, rfl, hbt, hnt⟩ := hr3 (by omega)
      have q1 : wr.cell? ⟨bt, ot + xn * 9, none⟩ = some (.string (nmf xn)) := (hbw.cell (p := ⟨bt, ot + xn * 9, none⟩) hbt).trans (hnt xn hxm)
      have pp := blk_cell (HBX.out wr HB.out) 2
      obtain ⟨L, hL⟩ : ∃ L, ([] : List (Int × Int)) ++ ((E.take k).filter (hasN nmf name)).map (fun i => (1, i)) = L := ⟨_, rfl⟩
      have HLZ : Hid (L.length ≤ 600) := Lib.hid (by
        rw [← hL]
        have h1 := List.length_filter_le (hasN nmf name) (E.take k)
        have h2 := List.length_take_le k E
        have h3 := HEL.out
        have h4 := bf.out
        have h5 := bm.out
        simp only [List.length_append, List.length_map, List.length_nil]
        omega)
      rw [hL] at HO
      have hlz := HLZ.out
      have hel := HEL.out
      obtain ⟨s, hs⟩ : ∃ s, nmf xn = s := ⟨_, rfl⟩
      have HSN := Lib.hid hs
      rw [hs] at q1
      clear hnt hr3 hel5 hr2 hbw hs
      by_cases hp2 : s.toList = name.toList
      · have HY : Hid (([] : List (Int × Int)) ++ ((E.take (k + 1)).filter (hasN nmf name)).map (fun i => (1, i)) = L ++ [(1, (xn : Int))]) := Lib.hid (by rw [HT.out, List.filter_append, List.map_append, ← List.append_assoc, hL]; simp [hasN, HSN.out, hp2])
        clear hL
        go_wp2_with (first
          | (at_builtin; refine wpList_append_lies _ rfl _ _ 40 rfl w1.heap.size 42 i0 (.agg #[.int .i64 0, .int .i64 0]) 2 16 Tryz.underlying40 hi iz0 iz1 iz2 rfl (by decide) _ L.length (flatR L) rfl (HO.out.alloc _) ⟨wr.heap.size, 0, none⟩ 1 1 [.int .i64 1, .int .i64 xn] rfl rfl (cell_two_new _ _ _ _) (by intro u hu; simp at hu; rcases hu with rfl | rfl <;> rfl) (by decide) (by unfold maxLen; omega) (by omega) (by have := HB.out.size; simp; omega) (wr.heap.size + 1) (by simp) ?_; intro gg cap' w3 hown' hgrow hat hltg; have HG := Lib.hid (And.intro hown' (And.intro hgrow hat)); clear hown' hgrow hat hltg))
        go_roundg g'
        case measure => omega
        case rel =>
          have hba : Below w1.heap.size w1 (wr.alloc (.cells #[.int .i64 1, .int .i64 xn] 42)) := HB.out.alloc HB.out.size _
          have hlt2 := fun k hk => ((HO.out.alloc (.cells #[.int .i64 1, .int .i64 xn] 42)).lt k hk).1
          refine ⟨k + 1, by omega, by omega, by go_num, ?_, Lib.hid (HC.out.grown ((Below.refl _ _).alloc (Nat.le_refl _) _) HG.out.2.1 (HG.out.2.2.imp id (fun h => h.trans (World.size_alloc _ _).symm)) rfl), Lib.hid (hba.grown HG.out.2.1 (by have := HB.out.size; simp; omega) (fun k hk => hlt2 k hk))⟩
          refine Lib.hid ?_
          show World.ownsRow _ _ _ _ _ _ _
          rw [HY.out, List.length_append, List.length_singleton, flatR_app]
          exact HG.out.1
      · have HY : Hid (([] : List (Int × Int)) ++ ((E.take (k + 1)).filter (hasN nmf name)).map (fun i => (1, i)) = L) := Lib.hid (by rw [HT.out, List.filter_append, List.map_append, ← List.append_assoc, hL]; simp [hasN, HSN.out, hp2])
        have hb2 : (s.toList == name.toList) = false := by simpa using hp2
        clear hL
        go_wp2
        go_roundg g'
        case measure => omega
        case rel => exact ⟨k + 1, by omega, by omega, by go_num, Lib.hid (by rw [HY.out]; exact HO.out), HC, HB⟩
    · have hke : k = E.length := by omega
      have HON : Hid (OwnR wr w1.heap.size u7 (refsM 1 fn nmf name lf)) := Lib.hid (by have h := HO.out; rw [hke, List.take_length, ← HRE.out] at h; rw [List.nil_append] at h; exact h)
      clear hke HC HO HEL HEM HRE HOD5 HB5
      have HO := HON
      clear HON
      go_upto_region 11 with fail
      have hbw : Below W0.heap.size W0 wr.drew := (HBW.out.trans (HB.out.mono HBW.out.size)).trans ((below_drw wr).mono (HBW.out.trans (HB.out.mono HBW.out.size)).size)
      have cE := existing_any qma qmc lm mn wr.drew (by omega) (HIM.out _ hbw)
      have HS0 : Hid (wr.drew.cell? ⟨b, off + c * 13 + 8, none⟩ = some (.slice qma lm.length qmc) ∧ wr.drew.cell? ⟨W, 1, none⟩ = some (.slice ma mn mc)) := Lib.hid ⟨HCM.out _ hbw, blk_cell (HBX.out wr.drew (HB.out.trans ((below_drw wr).mono HB.out.size))) 1⟩
      have HCE := Lib.hid cE
      have HBD : Hid (Below w1.heap.size w1 wr.drew) := Lib.hid (HB.out.trans ((below_drw wr).mono HB.out.size))
      have HOD : Hid (OwnR wr.drew w1.heap.size u7 (refsM 1 fn nmf name lf)) := Lib.hid (own_bel HO.out (below_drw wr))
      clear hbw cE HO HB
      go_region_held3 (fun w' => w'.cell? ⟨b, off + c * 13 + 8, none⟩ = some (.slice qma lm.length qmc) ∧ w'.cell? ⟨W, 1, none⟩ = some (.slice ma mn mc)) (first | exact HS0.out | exact HS1.out | go_keep)
        (first
          | (go_at_call 39; refine HCE.out.mono ?_; rintro e w5 ⟨v5, rfl, ho5, hb5⟩; have HB5 : Hid (Below w1.heap.size w1 w5) := Lib.hid (HBD.out.trans (hb5.mono HBD.out.size)); have HS1 : Hid (w5.cell? ⟨b, off + c * 13 + 8, none⟩ = some (.slice qma lm.length qmc) ∧ w5.cell? ⟨W, 1, none⟩ = some (.slice ma mn mc)) := Lib.hid ⟨HCM.out _ (HBW.out.trans (HB5.out.mono HBW.out.size)), blk_cell (HBX.out w5 HB5.out) 1⟩; have HOD5 : Hid (OwnR w5 w1.heap.size u7 (refsM 1 fn nmf name lf)) := Lib.hid (own_bel HOD.out hb5); have HEC : Hid (EC w5 v5 u7 (lm.filter (inT mn))) := Lib.hid (EC.of_own ho5 (fun k hk => (HOD.out.lt k hk).2)); obtain ⟨ea, ec, rfl⟩ := own_shape ho5; clear hb5 ho5))
      clear HCE HS0 HS1 HOD HBD
      obtain ⟨E, hE⟩ : ∃ E, lm.filter (inT mn) = E := ⟨_, rfl⟩
      have HEL := Lib.hid (show E.length ≤ 200 by rw [← hE]; have := List.length_filter_le (inT mn) lm; omega)
      have HEM : Hid (∀ k, k < E.length → inT mn (E.getD k 0) = true) := Lib.hid (fun k hk => by
        have hm : E.getD k 0 ∈ lm.filter (inT mn) := by rw [hE, List.getD_eq_getElem?_getD, List.getElem?_eq_getElem hk]; exact List.getElem_mem hk
        exact (List.mem_filter.1 hm).2)
      have HRE : Hid (refsM 0 mn nmm name lm = (E.filter (hasN nmm name)).map fun i => (0, i)) := Lib.hid (by rw [← hE]; rfl)
      rw [hE] at HEC
      try rw [hE]
      clear hE
      go_wp2
      go_loopg [7, 61] (E.length + 1) (fun g v y wr => ∃ k : Nat, k ≤ E.length ∧ E.length - k < g ∧ y = .int .i64 k ∧ Hid (OwnR wr w1.heap.size v ((refsM 1 fn nmf name lf) ++ ((E.take k).filter (hasN nmm name)).map fun i => (0, i))) ∧ Hid (EC wr (.slice ea E.length ec) v E) ∧ Hid (Below w1.heap.size w1 wr))
      case atStart => exact ⟨0, by omega, by omega, rfl, Lib.hid (by simpa using HOD5.out), HEC, HB5⟩
      case round =>
        obtain ⟨k, hk, hgk, rfl, HO, HC, HB⟩ := hrel
        obtain ⟨g', rfl⟩ : ∃ m, gk = m + 1 := ⟨gk - 1, by omega⟩
        by_cases hlt : k < E.length
        · obtain ⟨a2, c2, he2, hr2⟩ := HC.out
          injection he2 with e1 e2 e3
          subst e1 e3
          obtain ⟨g5, rfl, hg5, hne5, hel5⟩ := hr2 (by omega)
          obtain ⟨xn, hxn, hxm⟩ := inT_nat (HEM.out k hlt)
          have q0 : wr.cell? ⟨g5, k, none⟩ = some (.int .i64 xn) := by have := hel5 k hlt; rw [hxn, Nat.zero_add] at this; exact this
          have HT : Hid (E.take (k + 1) = E.take k ++ [(xn : Int)]) := Lib.hid (by rw [take_snocI E k hlt, hxn])
          have hbw := HBW.out.trans (HB.out.mono HBW.out.size)
          obtain ⟨a3, c3, he3, hr3⟩ := HNM.out
          injection he3 with e1 e2 e3
          subst e1 e3
          obtain ⟨bt, ot, rfl, hbt, hnt⟩ := hr3 (by omega)
          have q1 : wr.cell? ⟨bt, ot + xn * 13, none⟩ = some (.string (nmm xn)) := (hbw.cell (p := ⟨bt, ot + xn * 13, none⟩) hbt).trans (hnt xn hxm)
          have pp := blk_cell (HBX.out wr HB.out) 1
          obtain ⟨L, hL⟩ : ∃ L, (refsM 1 fn nmf name lf) ++ ((E.take k).filter (hasN nmm name)).map (fun i => (0, i)) = L := ⟨_, rfl⟩
          have HLZ : Hid (L.length ≤ 600) := Lib.hid (by
            rw [← hL]
            have h1 := List.length_filter_le (hasN nmm name) (E.take k)
            have h2 := List.length_take_le k E
            have h3 := HEL.out
            have h4 := bf.out
            have h5 := bm.out
            simp only [List.length_append, List.length_map, List.length_nil]
            omega)
          rw [hL] at HO
          have hlz := HLZ.out
          have hel := HEL.out
          obtain ⟨s, hs⟩ : ∃ s, nmm xn = s := ⟨_, rfl⟩
          have HSN := Lib.hid hs
          rw [hs] at q1
          clear hnt hr3 hel5 hr2 hbw hs
          by_cases hp2 : s.toList = name.toList
          · have HY : Hid ((refsM 1 fn nmf name lf) ++ ((E.take (k + 1)).filter (hasN nmm name)).map (fun i => (0, i)) = L ++ [(0, (xn : Int))]) := Lib.hid (by rw [HT.out, List.filter_append, List.map_append, ← List.append_assoc, hL]; simp [hasN, HSN.out, hp2])
            clear hL
            go_wp2_with (first
              | (at_builtin; refine wpList_append_lies _ rfl _ _ 40 rfl w1.heap.size 42 i0 (.agg #[.int .i64 0, .int .i64 0]) 2 16 Tryz.underlying40 hi iz0 iz1 iz2 rfl (by decide) _ L.length (flatR L) rfl (HO.out.alloc _) ⟨wr.heap.size, 0, none⟩ 1 1 [.int .i64 0, .int .i64 xn] rfl rfl (cell_two_new _ _ _ _) (by intro u hu; simp at hu; rcases hu with rfl | rfl <;> rfl) (by decide) (by unfold maxLen; omega) (by omega) (by have := HB.out.size; simp; omega) (wr.heap.size + 1) (by simp) ?_; intro gg cap' w3 hown' hgrow hat hltg; have HG := Lib.hid (And.intro hown' (And.intro hgrow hat)); clear hown' hgrow hat hltg))
            go_roundg g'
            case measure => omega
            case rel =>
              have hba : Below w1.heap.size w1 (wr.alloc (.cells #[.int .i64 0, .int .i64 xn] 42)) := HB.out.alloc HB.out.size _
              have hlt2 := fun k hk => ((HO.out.alloc (.cells #[.int .i64 0, .int .i64 xn] 42)).lt k hk).1
              refine ⟨k + 1, by omega, by omega, by go_num, ?_, Lib.hid (HC.out.grown ((Below.refl _ _).alloc (Nat.le_refl _) _) HG.out.2.1 (HG.out.2.2.imp id (fun h => h.trans (World.size_alloc _ _).symm)) rfl), Lib.hid (hba.grown HG.out.2.1 (by have := HB.out.size; simp; omega) (fun k hk => hlt2 k hk))⟩
              refine Lib.hid ?_
              show World.ownsRow _ _ _ _ _ _ _
              rw [HY.out, List.length_append, List.length_singleton, flatR_app]
              exact HG.out.1
          · have HY : Hid ((refsM 1 fn nmf name lf) ++ ((E.take (k + 1)).filter (hasN nmm name)).map (fun i => (0, i)) = L) := Lib.hid (by rw [HT.out, List.filter_append, List.map_append, ← List.append_assoc, hL]; simp [hasN, HSN.out, hp2])
            have hb2 : (s.toList == name.toList) = false := by simpa using hp2
            clear hL
            go_wp2
            go_roundg g'
            case measure => omega
            case rel => exact ⟨k + 1, by omega, by omega, by go_num, Lib.hid (by rw [HY.out]; exact HO.out), HC, HB⟩
        · have hke : k = E.length := by omega
          have HON : Hid (OwnR wr w1.heap.size u7 (refsM 1 fn nmf name lf ++ refsM 0 mn nmm name lm)) := Lib.hid (by have h := HO.out; rw [hke, List.take_length, ← HRE.out] at h;  exact h)
          clear hke HC HO HEL HEM HRE HOD5 HB5
          have HO := HON
          clear HON
          go_upto_region 17 with fail
          have hbw : Below W0.heap.size W0 wr.drew := (HBW.out.trans (HB.out.mono HBW.out.size)).trans ((below_drw wr).mono (HBW.out.trans (HB.out.mono HBW.out.size)).size)
          have cE := existing_any qya qyc ly yn wr.drew (by omega) (HIY.out _ hbw)
          have HS0 : Hid (wr.drew.cell? ⟨b, off + c * 13 + 9, none⟩ = some (.slice qya ly.length qyc) ∧ wr.drew.cell? ⟨W, 4, none⟩ = some (.slice ya yn yc)) := Lib.hid ⟨HCY.out _ hbw, blk_cell (HBX.out wr.drew (HB.out.trans ((below_drw wr).mono HB.out.size))) 4⟩
          have HCE := Lib.hid cE
          have HBD : Hid (Below w1.heap.size w1 wr.drew) := Lib.hid (HB.out.trans ((below_drw wr).mono HB.out.size))
          have HOD : Hid (OwnR wr.drew w1.heap.size u7 (refsM 1 fn nmf name lf ++ refsM 0 mn nmm name lm)) := Lib.hid (own_bel HO.out (below_drw wr))
          clear hbw cE HO HB
          go_region_held3 (fun w' => w'.cell? ⟨b, off + c * 13 + 9, none⟩ = some (.slice qya ly.length qyc) ∧ w'.cell? ⟨W, 4, none⟩ = some (.slice ya yn yc)) (first | exact HS0.out | exact HS1.out | go_keep)
            (first
              | (go_at_call 39; refine HCE.out.mono ?_; rintro e w5 ⟨v5, rfl, ho5, hb5⟩; have HB5 : Hid (Below w1.heap.size w1 w5) := Lib.hid (HBD.out.trans (hb5.mono HBD.out.size)); have HS1 : Hid (w5.cell? ⟨b, off + c * 13 + 9, none⟩ = some (.slice qya ly.length qyc) ∧ w5.cell? ⟨W, 4, none⟩ = some (.slice ya yn yc)) := Lib.hid ⟨HCY.out _ (HBW.out.trans (HB5.out.mono HBW.out.size)), blk_cell (HBX.out w5 HB5.out) 4⟩; have HOD5 : Hid (OwnR w5 w1.heap.size u7 (refsM 1 fn nmf name lf ++ refsM 0 mn nmm name lm)) := Lib.hid (own_bel HOD.out hb5); have HEC : Hid (EC w5 v5 u7 (ly.filter (inT yn))) := Lib.hid (EC.of_own ho5 (fun k hk => (HOD.out.lt k hk).2)); obtain ⟨ea, ec, rfl⟩ := own_shape ho5; clear hb5 ho5))
          clear HCE HS0 HS1 HOD HBD
          obtain ⟨E, hE⟩ : ∃ E, ly.filter (inT yn) = E := ⟨_, rfl⟩
          have HEL := Lib.hid (show E.length ≤ 200 by rw [← hE]; have := List.length_filter_le (inT yn) ly; omega)
          have HEM : Hid (∀ k, k < E.length → inT yn (E.getD k 0) = true) := Lib.hid (fun k hk => by
            have hm : E.getD k 0 ∈ ly.filter (inT yn) := by rw [hE, List.getD_eq_getElem?_getD, List.getElem?_eq_getElem hk]; exact List.getElem_mem hk
            exact (List.mem_filter.1 hm).2)
          have HRE : Hid (refsM 2 yn nmy name ly = (E.filter (hasN nmy name)).map fun i => (2, i)) := Lib.hid (by rw [← hE]; rfl)
          rw [hE] at HEC
          try rw [hE]
          clear hE
          go_wp2
          go_loopg [7, 88] (E.length + 1) (fun g v y wr => ∃ k : Nat, k ≤ E.length ∧ E.length - k < g ∧ y = .int .i64 k ∧ Hid (OwnR wr w1.heap.size v ((refsM 1 fn nmf name lf ++ refsM 0 mn nmm name lm) ++ ((E.take k).filter (hasN nmy name)).map fun i => (2, i))) ∧ Hid (EC wr (.slice ea E.length ec) v E) ∧ Hid (Below w1.heap.size w1 wr))
          case atStart => exact ⟨0, by omega, by omega, rfl, Lib.hid (by simpa using HOD5.out), HEC, HB5⟩
          case round =>
            obtain ⟨k, hk, hgk, rfl, HO, HC, HB⟩ := hrel
            obtain ⟨g', rfl⟩ : ∃ m, gk = m + 1 := ⟨gk - 1, by omega⟩
            by_cases hlt : k < E.length
            · obtain ⟨a2, c2, he2, hr2⟩ := HC.out
              injection he2 with e1 e2 e3
              subst e1 e3
              obtain ⟨g5, rfl, hg5, hne5, hel5⟩ := hr2 (by omega)
              obtain ⟨xn, hxn, hxm⟩ := inT_nat (HEM.out k hlt)
              have q0 : wr.cell? ⟨g5, k, none⟩ = some (.int .i64 xn) := by have := hel5 k hlt; rw [hxn, Nat.zero_add] at this; exact this
              have HT : Hid (E.take (k + 1) = E.take k ++ [(xn : Int)]) := Lib.hid (by rw [take_snocI E k hlt, hxn])
              have hbw := HBW.out.trans (HB.out.mono HBW.out.size)
              obtain ⟨a3, c3, he3, hr3⟩ := HNY.out
              injection he3 with e1 e2 e3
              subst e1 e3
              obtain ⟨bt, ot, rfl, hbt, hnt⟩ := hr3 (by omega)
              have q1 : wr.cell? ⟨bt, ot + xn * 13, none⟩ = some (.string (nmy xn)) := (hbw.cell (p := ⟨bt, ot + xn * 13, none⟩) hbt).trans (hnt xn hxm)
              have pp := blk_cell (HBX.out wr HB.out) 4
              obtain ⟨L, hL⟩ : ∃ L, (refsM 1 fn nmf name lf ++ refsM 0 mn nmm name lm) ++ ((E.take k).filter (hasN nmy name)).map (fun i => (2, i)) = L := ⟨_, rfl⟩
              have HLZ : Hid (L.length ≤ 600) := Lib.hid (by
                rw [← hL]
                have h1 := List.length_filter_le (hasN nmy name) (E.take k)
                have h2 := List.length_take_le k E
                have h3 := HEL.out
                have h4 := bf.out
                have h5 := bm.out
                simp only [List.length_append, List.length_map, List.length_nil]
                omega)
              rw [hL] at HO
              have hlz := HLZ.out
              have hel := HEL.out
              obtain ⟨s, hs⟩ : ∃ s, nmy xn = s := ⟨_, rfl⟩
              have HSN := Lib.hid hs
              rw [hs] at q1
              clear hnt hr3 hel5 hr2 hbw hs
              by_cases hp2 : s.toList = name.toList
              · have HY : Hid ((refsM 1 fn nmf name lf ++ refsM 0 mn nmm name lm) ++ ((E.take (k + 1)).filter (hasN nmy name)).map (fun i => (2, i)) = L ++ [(2, (xn : Int))]) := Lib.hid (by rw [HT.out, List.filter_append, List.map_append, ← List.append_assoc, hL]; simp [hasN, HSN.out, hp2])
                clear hL
                go_wp2_with (first
                  | (at_builtin; refine wpList_append_lies _ rfl _ _ 40 rfl w1.heap.size 42 i0 (.agg #[.int .i64 0, .int .i64 0]) 2 16 Tryz.underlying40 hi iz0 iz1 iz2 rfl (by decide) _ L.length (flatR L) rfl (HO.out.alloc _) ⟨wr.heap.size, 0, none⟩ 1 1 [.int .i64 2, .int .i64 xn] rfl rfl (cell_two_new _ _ _ _) (by intro u hu; simp at hu; rcases hu with rfl | rfl <;> rfl) (by decide) (by unfold maxLen; omega) (by omega) (by have := HB.out.size; simp; omega) (wr.heap.size + 1) (by simp) ?_; intro gg cap' w3 hown' hgrow hat hltg; have HG := Lib.hid (And.intro hown' (And.intro hgrow hat)); clear hown' hgrow hat hltg))
                go_roundg g'
                case measure => omega
                case rel =>
                  have hba : Below w1.heap.size w1 (wr.alloc (.cells #[.int .i64 2, .int .i64 xn] 42)) := HB.out.alloc HB.out.size _
                  have hlt2 := fun k hk => ((HO.out.alloc (.cells #[.int .i64 2, .int .i64 xn] 42)).lt k hk).1
                  refine ⟨k + 1, by omega, by omega, by go_num, ?_, Lib.hid (HC.out.grown ((Below.refl _ _).alloc (Nat.le_refl _) _) HG.out.2.1 (HG.out.2.2.imp id (fun h => h.trans (World.size_alloc _ _).symm)) rfl), Lib.hid (hba.grown HG.out.2.1 (by have := HB.out.size; simp; omega) (fun k hk => hlt2 k hk))⟩
                  refine Lib.hid ?_
                  show World.ownsRow _ _ _ _ _ _ _
                  rw [HY.out, List.length_append, List.length_singleton, flatR_app]
                  exact HG.out.1
              · have HY : Hid ((refsM 1 fn nmf name lf ++ refsM 0 mn nmm name lm) ++ ((E.take (k + 1)).filter (hasN nmy name)).map (fun i => (2, i)) = L) := Lib.hid (by rw [HT.out, List.filter_append, List.map_append, ← List.append_assoc, hL]; simp [hasN, HSN.out, hp2])
                have hb2 : (s.toList == name.toList) = false := by simpa using hp2
                clear hL
                go_wp2
                go_roundg g'
                case measure => omega
                case rel => exact ⟨k + 1, by omega, by omega, by go_num, Lib.hid (by rw [HY.out]; exact HO.out), HC, HB⟩
            · have hke : k = E.length := by omega
              have HON : Hid (OwnR wr w1.heap.size u7 (refsM 1 fn nmf name lf ++ refsM 0 mn nmm name lm ++ refsM 2 yn nmy name ly)) := Lib.hid (by have h := HO.out; rw [hke, List.take_length, ← HRE.out] at h;  exact h)
              clear hke HC HO HEL HEM HRE HOD5 HB5
              have HO := HON
              clear HON
              go_wp2
              go_ret
              exact ⟨_, rfl, owns_mono HO.out HB0.out.size, HB0.out.trans (HB.out.mono HB0.out.size)⟩

end Go.Proofs.YtlipfgdjbimfjaaGreatDoor
