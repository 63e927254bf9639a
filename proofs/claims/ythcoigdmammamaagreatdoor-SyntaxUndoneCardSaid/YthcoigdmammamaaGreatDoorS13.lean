/- Names: its walk. -/
import Derived.Test.YthcoigdmammamaaGreatDoorS8
import Derived.Test.YthcoigdmammamaaGreatDoorSh
import Derived.RangeFuncWrites
import Derived.Maps.OwnIn
import Derived.Maps.Views
import Derived.Sort.KeysCollected
namespace Go.Proofs.YthcoigdmammamaaGreatDoor
open Go.RowKit Go.Shelf Go.Maps Go.Sort
attribute [local go_sem] Oper.semAt_some
set_option maxRecDepth 100000

/-- One round of it. -/
def nameP (D : DataW Unit) (x : Nd) : DataW Unit := if nam x then D.put (.string x.text.data.toList) (.lit (.bool true)) else D
/-- The names as a map, as the rounds lay it. -/
def nameD (l : List Nd) : DataW Unit := l.foldl nameP (.map [])
theorem nameD_snoc (l : List Nd) (x : Nd) : nameD (l ++ [x]) = if nam x then (nameD l).put (.string x.text.data.toList) (.lit (.bool true)) else nameD l := by simp [nameD, nameP]
theorem nameP_map {D : DataW Unit} (h : IsMap D) (x : Nd) : IsMap (nameP D x) := by
  unfold nameP
  split
  · exact h.put _ _
  · exact h
theorem nameP_size {D : DataW Unit} (h : IsMap D) (x : Nd) : Maps.size (nameP D x) ≤ Maps.size D + 1 := by
  unfold nameP
  split
  · obtain ⟨es, rfl⟩ := h
    show (DataW.insert _ (es.filter _)).length ≤ es.length + 1
    have h2 := List.length_filter_le (fun p : Lit × DataW Unit => !p.1.sameKey (.string x.text.data.toList)) es
    rw [length_insert]
    omega
  · omega
theorem nameP_has {D : DataW Unit} (h : IsMap D) (x : Nd) (s : List UInt8) : has (nameP D x) (.string s) = true ↔ has D (.string s) = true ∨ (nam x = true ∧ x.text.data.toList = s) := by
  unfold nameP
  by_cases hn : nam x = true
  · rw [if_pos hn]
    by_cases he : x.text.data.toList = s
    · subst he
      rw [has_put_same h (by exact trivial)]
      simp [hn]
    · rw [has_put_other (by intro e; injection e with e1; exact he e1.symm)]
      simp [he]
  · rw [if_neg hn]
    simp [hn]
theorem nameF_size (l : List Nd) : ∀ D : DataW Unit, IsMap D → Maps.size (l.foldl nameP D) ≤ Maps.size D + l.length := by
  induction l with
  | nil => intro D _; exact Nat.le_refl _
  | cons x l ih =>
    intro D h
    have h1 := ih (nameP D x) (nameP_map h x)
    have h2 := nameP_size h x
    show Maps.size (l.foldl nameP (nameP D x)) ≤ _
    rw [List.length_cons]
    omega
theorem nameF_has (s : List UInt8) (l : List Nd) : ∀ D : DataW Unit, IsMap D → (has (l.foldl nameP D) (.string s) = true ↔ has D (.string s) = true ∨ ∃ x ∈ l, nam x = true ∧ x.text.data.toList = s) := by
  induction l with
  | nil => intro D _; simp
  | cons x l ih =>
    intro D h
    show has (l.foldl nameP (nameP D x)) _ = true ↔ _
    rw [ih _ (nameP_map h x), nameP_has h x]
    simp [or_assoc]
theorem nameD_size (l : List Nd) : Maps.size (nameD l) ≤ l.length := by
  have h := nameF_size l (.map []) isMap_empty
  have h0 : Maps.size (.map [] : DataW Unit) = 0 := rfl
  rw [h0, Nat.zero_add] at h
  exact h
theorem nameD_has (l : List Nd) (s : List UInt8) : has (nameD l) (.string s) = true ↔ ∃ x ∈ l, nam x = true ∧ x.text.data.toList = s := by
  have h := nameF_has s l (.map []) isMap_empty
  have h0 : has (.map [] : DataW Unit) (.string s) = false := rfl
  rw [h0] at h
  simpa [nameD] using h
mutual
theorem mem_names (s : List UInt8) : ∀ x : Nd, s ∈ x.names ↔ ∃ y ∈ x.pre, nam y = true ∧ y.text.data.toList = s
  | .mk k t n l a => by
    rw [Nd.names, List.mem_append, mem_namesL s l, Nd.pre]
    constructor
    · rintro (h | ⟨y, hy, h⟩)
      · by_cases hk : (k == 30 || k == 19) = true
        · rw [if_pos hk, List.mem_singleton, ByteArray.toList_eq] at h
          exact ⟨_, List.mem_cons_self, hk, h.symm⟩
        · rw [if_neg hk] at h; cases h
      · exact ⟨y, List.mem_cons_of_mem _ hy, h⟩
    · rintro ⟨y, hy, h1, h2⟩
      rcases List.mem_cons.1 hy with rfl | h
      · refine .inl ?_
        have hk : (k == 30 || k == 19) = true := h1
        rw [if_pos hk, List.mem_singleton, ByteArray.toList_eq]
        exact h2.symm
      · exact .inr ⟨y, h, h1, h2⟩
theorem mem_namesL (s : List UInt8) : ∀ l : List Nd, s ∈ namesL l ↔ ∃ y ∈ preL l, nam y = true ∧ y.text.data.toList = s
  | [] => by simp [namesL, preL]
  | x :: r => by
    rw [namesL, List.mem_append, mem_names s x, mem_namesL s r, preL]
    simp only [List.mem_append]
    constructor
    · rintro (⟨y, hy, h⟩ | ⟨y, hy, h⟩)
      · exact ⟨y, .inl hy, h⟩
      · exact ⟨y, .inr hy, h⟩
    · rintro ⟨y, hy | hy, h⟩
      · exact .inl ⟨y, hy, h⟩
      · exact .inr ⟨y, hy, h⟩
end
theorem mem_strKeys {W : World} {b n : Nat} {D : DataW Unit} (h : W.ownsMap Tryz.prog 9 (plainElem (H := Unit) Tryz.prog 4) b n D) (s : List UInt8) : s ∈ strKeys D ↔ has D (.string s) = true := by
  obtain ⟨es, rfl, hk⟩ := World.ownsMap.keysOf h
  have hk' : ∀ p ∈ es, ∃ x, p.1 = Lit.string x := by
    intro p hp
    obtain ⟨v, hv⟩ := hk p hp
    obtain ⟨x, _, hx, _⟩ := Maps.keyOf_str Tryz.underlying9 hv
    exact ⟨x, hx⟩
  rw [has_eq, List.any_eq_true]
  show s ∈ es.map (fun p => strOf p.1) ↔ _
  rw [List.mem_map]
  constructor
  · rintro ⟨p, hp, rfl⟩
    obtain ⟨a, ha⟩ := hk' p hp
    exact ⟨p, hp, by rw [ha]; simp [Lit.sameKey, strOf]⟩
  · rintro ⟨p, hp, hs⟩
    obtain ⟨a, ha⟩ := hk' p hp
    rw [ha] at hs
    exact ⟨p, hp, by rw [ha]; simpa [Lit.sameKey, strOf] using hs⟩

theorem keys_size {W : World} {b n : Nat} {D : DataW Unit} (h : W.ownsMap Tryz.prog 9 (plainElem (H := Unit) Tryz.prog 4) b n D) : (strKeys D).length = Maps.size D := by
  obtain ⟨es, rfl, hk⟩ := World.ownsMap.keysOf h
  show (es.map (fun p => strOf p.1)).length = es.length
  rw [List.length_map]
theorem row_base {w : World} {base base' e size : Nat} {v : Value} {n : Nat} {xs : List Value} (h : w.ownsRow base e size v n xs) (hb : base' ≤ base) : w.ownsRow base' e size v n xs := by
  refine ⟨h.1, ?_⟩
  rcases h.2 with hn | ⟨g, cap, cur, hv, hb1, rest⟩
  · exact .inl hn
  · exact .inr ⟨g, cap, cur, hv, Nat.le_trans hb hb1, rest⟩

set_option maxHeartbeats 4000000 in
theorem names_any (x : Nd) (v : Value) (B : Nat) (w : World) (hl : Ls w B v x.kids) (hB : B ≤ w.heap.size) (hok : x.ok) (hx : x.nodes ≤ 20000) :
    Calls Tryz.prog 13 #[nv x v] w fun e w' => ∃ (r : Value) (ss : List (List UInt8)), e = .returned r ∧ (∀ s, s ∈ ss ↔ s ∈ x.names) ∧ ss.length ≤ 20000 ∧ w'.ownsRow w.heap.size 9 1 r ss.length ((ss.mergeSort (fun x y => decide (x ≤ y))).map Go.Proofs.encStr) ∧ (r = .slice none 0 0 ↔ ss = []) ∧ Below w.heap.size w w' := by
  refine (callsIn_wide (n := 6)).1 ?_
  have hro : Fence.wide.round = none := rfl
  have h1 : 1 ≤ 6 := by omega
  have hmm := @run_makeMap Tryz.prog
  obtain ⟨va, vc, rfl⟩ := hl.slice
  have hb0 : Below w.heap.size w (w.alloc (NB x (.slice va x.kids.length vc))) := (Below.refl _ w).alloc (Nat.le_refl _) _
  have cS := small_any x _ B (w.alloc (NB x (.slice va x.kids.length vc))) (hl.bel (hb0.mono hB)) (by simp; omega) hok hx
  have HL := Lib.hid hl
  have HB0 := Lib.hid hb0
  clear hl hb0
  refine callsIn_of_wp_marks Tryz.func13 rfl trivial ?_ rfl
  simp only [Tryz.ntmps13, List.size_toArray, List.length_cons, List.length_nil, Nat.reduceAdd, Nat.reduceSub, Array.replicate_succ, Array.replicate_zero, List.push_toArray, List.append_toArray, List.nil_append, List.cons_append]
  gi_wp2_with (first
    | (refine ⟨trivial, ?_⟩; gi_at_call 25; refine (callsIn_wide.2 cS).mono ?_; clear cS; rintro e w1 ⟨rfl, hb1⟩)
    | (refine ⟨trivial, ?_⟩; gi_at_call 22; refine (preorder_in Fence.wide _ trivial rfl _ _).mono ?_; rintro e w2 ⟨rfl, rfl⟩))
  have hz0 : (w.alloc (NB x (.slice va x.kids.length vc))).heap.size = w.heap.size + 1 := by simp
  have hb1w : Below w.heap.size w w1 := HB0.out.trans (hb1.mono (by omega))
  have hz1 := hb1.size
  rw [hz0] at hz1
  obtain ⟨w3, hw3⟩ : ∃ w3, ((w1.alloc (.map #[] 0)).alloc (.cells #[.map (some w1.heap.size)] 64)).alloc (.cells #[.pointer (some ⟨w.heap.size, 0, none⟩)] 48) = w3 := ⟨_, rfl⟩
  have hz : w3.heap.size = w1.heap.size + 3 := by rw [← hw3]; simp
  have hB13 : Below w1.heap.size w1 w3 := by rw [← hw3]; exact (((Below.refl _ w1).alloc (Nat.le_refl _) _).alloc (by simp) _).alloc (by simp; omega) _
  have hB3 : Below w.heap.size w w3 := hb1w.trans (hB13.mono (by omega))
  have hbk : w3.heap[w.heap.size]? = some (NB x (.slice va x.kids.length vc)) := by
    rw [hB13.block _ (by omega), hb1.block _ (by omega)]
    exact alloc_blk w _
  have hs : w3.cell? ⟨w1.heap.size + 1, 0, none⟩ = some (.map (some w1.heap.size)) := by
    have h := cell_new (w1.alloc (.map #[] 0)) (.map (some w1.heap.size)) 64
    rw [World.size_alloc] at h
    rw [← hw3]
    exact cell_alloc' _ h.1
  have hb : w3.cell? ⟨w1.heap.size + 1 + 1, 0, none⟩ = some (.pointer (some ⟨w.heap.size, 0, none⟩)) := by
    have h := cell_new ((w1.alloc (.map #[] 0)).alloc (.cells #[.map (some w1.heap.size)] 64)) (.pointer (some ⟨w.heap.size, 0, none⟩)) 48
    rw [World.size_alloc, World.size_alloc] at h
    rw [← hw3]
    exact h.1
  have hm0 : w3.ownsMap Tryz.prog 9 (plainElem (H := Unit) Tryz.prog 4) w1.heap.size 0 (nameD []) := by
    rw [← hw3]
    exact ((World.ownsMap_made w1 Tryz.prog 9 (plainElem (H := Unit) Tryz.prog 4)).alloc _).alloc _
  have HY : ∃ y : It w3 w1.heap.size, y.x = x ∧ y.enc = .pointer (some ⟨w.heap.size, 0, none⟩) :=
    ⟨⟨w.heap.size, 0, x, .slice va x.kids.length vc, by omega, ⟨blk_cell hbk 0, blk_cell hbk 1, blk_cell hbk 2, blk_cell hbk 3, blk_cell hbk 4, hok, blk_free hbk 0⟩, (HL.out.up hB).bel hB3 |>.up (by omega)⟩, rfl, rfl⟩
  obtain ⟨y, hyx, hye⟩ := HY
  rw [← hye] at hb
  rw [hw3]
  clear hw3 hbk
  refine wpIn_rangeFunc_ownG hro h1 (gf := 39) (lb := #[.pointer (some ⟨w1.heap.size + 1 + 1, 0, none⟩)]) rfl trivial (enters_of Tryz.func39 (by kernel_rfl) rfl)
    (pre_stops Fence.wide rfl (6 - 1) trivial trivial hro (w1.heap.size + 1 + 1) w1.heap.size w3 y (by rw [hyx]; omega) (by omega) (by omega) hb) belowK_t (belowK_b (by omega)) (Below.refl _ _) (fun _ => rfl)
    (fun pre W => (W.cell? ⟨w1.heap.size + 1, 0, none⟩ = some (.map (some w1.heap.size)) ∧ ∃ n, n ≤ pre.length ∧ W.ownsMap Tryz.prog 9 (plainElem (H := Unit) Tryz.prog 4) w1.heap.size n (nameD (pre.map It.x))) ∧ Below w1.heap.size w3 W)
    (fun _ _ _ => False)
    (OwnFrom.and (fun s A B row hs hg hr => ⟨cell_kept hs.1 hg (fun r e => (hr r e).2), let ⟨n, hn, ho⟩ := hs.2; ⟨n, hn, ho.kept hg (fun e => by have := (hr _ e.symm).1; omega)⟩⟩) (ownFrom_below (by omega) (by omega)))
    (fun _ _ _ _ _ hs _ _ => hs)
    ⟨⟨hs, 0, Nat.le_refl _, hm0⟩, Below.refl _ _⟩
    (fun z => { tmps := #[nv x (.slice va x.kids.length vc), .pointer (some ⟨w.heap.size, 0, none⟩), .slice none 0 0, .pointer (some ⟨w1.heap.size + 1, 0, none⟩), z.enc, nv x (.slice va x.kids.length vc), .bool true, .bool false, .map (some w1.heap.size), .func (.func 39) #[] #[.pointer (some ⟨w1.heap.size + 1 + 1, 0, none⟩)], z.enc, undef, undef, undef, undef, undef, undef, undef, undef, undef, undef], defers := [] }) ?assign ?body ?done ?stop
  case assign =>
    intro l z W K hK
    gi_wp2
    simpa using hK
  case body =>
    rintro l pre z W ⟨⟨hc, n, hn, hown⟩, hBW⟩ hlt
    have hlen : pre.length < 20000 := by rw [hyx] at hlt; omega
    have k0 : W.cell? ⟨z.b, z.o, none⟩ = some (.int .i64 z.x.kind) := (hBW.cell (p := ⟨z.b, z.o, none⟩) z.hb).trans z.nc.c0
    have k1 : W.cell? ⟨z.b, z.o + 1, none⟩ = some (.string z.x.text) := (hBW.cell (p := ⟨z.b, z.o + 1, none⟩) z.hb).trans z.nc.c1
    have cN := named_any z.b z.o z.x.kind W k0
    have hkey : keyOf Tryz.prog 9 (.string z.x.text) = some (.string z.x.text.data.toList) := Go.WideMaps.keyOf_string_mk Tryz.underlying9 (by have := z.nc.ok.sz; unfold maxLen; omega)
    by_cases hnm : nam z.x = true
    · have e1 : (z.x.kind == 30 || z.x.kind == 19) = true := hnm
      rw [e1] at cN
      have HE : Hid (nameD ((pre ++ [z]).map It.x) = (nameD (pre.map It.x)).put (.string z.x.text.data.toList) (.lit (.bool true))) := by
        show _ = _
        rw [List.map_append, List.map_singleton, nameD_snoc, if_pos hnm]
      clear hnm e1
      gi_wp2_with (refine ⟨trivial, ?_⟩; gi_at_call 26; refine (CallsIn.inRound l (callsIn_wide.2 cN)).mono ?_; clear cN; rintro e W ⟨rfl, rfl⟩)
      obtain ⟨w4, hrun, hown1, hgrow1⟩ := hown.drew.update (Maps.string_keyed Tryz.underlying9) Tryz.underlying64 (by unfold maxLen; omega) hkey (plainElem_bool (H := Unit) Tryz.underlying4 true)
      have hg2 : W.grownBy w4 (some w1.heap.size) := ⟨hgrow1.1, hgrow1.2, hgrow1.3, hgrow1.4, hgrow1.5⟩
      have hfin : KeepsFrom w3.heap.size W w4 ∧ Below w1.heap.size W w4 ∧ (w4.cell? ⟨w1.heap.size + 1, 0, none⟩ = some (.map (some w1.heap.size)) ∧ ∃ n, n ≤ (pre ++ [z]).length ∧ w4.ownsMap Tryz.prog 9 (plainElem (H := Unit) Tryz.prog 4) w1.heap.size n (nameD ((pre ++ [z]).map It.x))) ∧ Below w1.heap.size w3 w4 := by
        have hlM := hown.lt
        obtain ⟨es, ck, hh, _⟩ := hown
        exact ⟨KeepsFrom.of_grownBy hg2 (fun j e => by cases e; omega), (Below.refl _ W).grown hg2 (Nat.le_of_lt hlM) (fun k e => by cases e; exact Nat.le_refl _),
          ⟨cell_kept hc hg2 (fun r e => by cases e; exact ⟨_, hh, rfl⟩), n + 1, by rw [List.length_append]; simp; omega, by rw [HE.out]; exact hown1⟩, hBW.grown hg2 (Nat.le_of_lt hlM) (fun k e => by cases e; exact Nat.le_refl _)⟩
      have HF := Lib.hid hfin
      clear hfin hg2 hown1 hgrow1 HE
      gi_region
      all_goals exact HF.out
    · have e1 : (z.x.kind == 30 || z.x.kind == 19) = false := by simpa [nam] using hnm
      rw [e1] at cN
      have HE : Hid (nameD ((pre ++ [z]).map It.x) = nameD (pre.map It.x)) := by
        show _ = _
        rw [List.map_append, List.map_singleton, nameD_snoc, if_neg hnm]
      clear hnm e1
      gi_wp2_with (refine ⟨trivial, ?_⟩; gi_at_call 26; refine (CallsIn.inRound l (callsIn_wide.2 cN)).mono ?_; clear cN; rintro e W ⟨rfl, rfl⟩)
      refine ⟨KeepsFrom.refl _ _, Below.refl _ _, ⟨hc, n, by rw [List.length_append]; omega, by rw [HE.out]; exact hown⟩, hBW⟩
  case done =>
    rintro D ys W hD hys ⟨⟨hc, n, hn, hown⟩, hBW⟩ hK
    rw [hyx] at hys
    rw [hys] at hown
    have hsz : Maps.size (nameD x.pre) ≤ 20000 := by
      have := nameD_size x.pre
      rw [x.pre_len] at this
      omega
    have HMS : Hid (∀ ss : List (List UInt8), ss.Perm (strKeys (nameD x.pre)) → ∀ s, s ∈ ss ↔ s ∈ x.names) := fun ss hp s => by
      rw [hp.mem_iff, mem_strKeys hown, nameD_has, mem_names]
    have HML : Hid (∀ ss : List (List UInt8), ss.Perm (strKeys (nameD x.pre)) → ss.length ≤ 20000) := fun ss hp => by
      rw [hp.length_eq, keys_size hown]; exact hsz
    have c27 := Tryz.slices_Sorted_keys_27_28 w1.heap.size n (nameD x.pre) _ W hown (by unfold maxLen; omega) (by omega)
    have HBW := Lib.hid hBW
    have HD := Lib.hid (lt_of_block hK)
    have HK := Lib.hid hK
    clear hys hn hBW hK
    gi_wp2_with (first
      | (refine ⟨trivial, ?_⟩; gi_at_call 28; refine (Tryz.maps_Keys_28 _ _).mono ?_; rintro e w' ⟨rfl, rfl⟩)
      | (refine ⟨trivial, ?_⟩; gi_at_call 27; refine c27.mono ?_; clear c27; rintro e w5 ⟨r, ss, rfl, hS, hrow, hnil, hb5⟩))
    have hWa : (W.alloc (.cells #[.map (some w1.heap.size)] 64)).heap.size = W.heap.size + 1 := by simp
    have hzW := HBW.out.size
    have hlD := HD.out
    have hK5 : w5.heap[D]? = some (.deferred (some [])) := by
      rw [hb5.block D (by omega), Below.heap_alloc _ _ _ hlD]
      exact HK.out
    have hB5 : Below w.heap.size w w5 := hB3.trans (((HBW.out.mono (by omega)).alloc (by omega) _).trans (hb5.mono (by omega)))
    refine ⟨by simp, .inl ⟨_, _, rfl, run_takeDeferred hK5, ?_⟩⟩
    refine ⟨_, results_tmp rfl _ _ _, r, ss, rfl, HMS.out ss hS, HML.out ss hS, ?_, hnil, ?_⟩
    · exact ownsRow_putObj (row_base hrow (by omega)) _ hK5 rfl
    · exact hB5.trans (belowK_b (w := w) (Nat.le_refl _) w5 D _ _ (by omega) hK5 rfl rfl)
  case stop =>
    rintro D c pre W _ _ h _
    exact h.elim
end Go.Proofs.YthcoigdmammamaaGreatDoor
