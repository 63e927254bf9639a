/- The walks of appendHex, appendByte, appendBytes, appendPart, spaced and appendToken. -/
import Derived.Test.YtkfkgdkfgpofnaaDoorV
import Derived.Test.YtkfkgdkfgpofnaaDoorF1
import Derived.Lib.AppendStr
import Derived.Deep.LoopGhost
import Derived.Test.YtkfkgdkfgpofnaaDoorH0
import Derived.Deep.Cut
import Derived.Deep.CutRange
/- The walks of appendHex, appendByte, appendBytes, appendPart. -/
namespace Go.Proofs.YtkfkgdkfgpofnaaDoor
open Go.RowKit
set_option maxRecDepth 100000

/-- Bytes as cells. -/
def vb (l : List UInt8) : List Value := l.map fun b => Value.int .u8 b.toNat
theorem vb_app (a b : List UInt8) : vb (a ++ b) = vb a ++ vb b := List.map_append
theorem vb_len (a : List UInt8) : (vb a).length = a.length := List.length_map _
theorem vb_one (a : List UInt8) : ∀ u ∈ vb a, u.oneCell' = true := by
  intro u hu
  obtain ⟨b, _, rfl⟩ := List.mem_map.mp hu
  rfl
/-- What an append may turn: the value's own row; new blocks. -/
structure Gw (w w' : World) (v v' : Value) : Prop where
  grown : w.grownBy w' v.ownBlock
  at_ : v'.ownBlock = v.ownBlock ∨ ∃ g, v'.ownBlock = some g ∧ w.heap.size ≤ g
theorem Gw.refl (w : World) (v : Value) : Gw w w v v := ⟨⟨rfl, rfl, rfl, Nat.le_refl _, fun _ _ _ => rfl⟩, Or.inl rfl⟩
theorem Gw.trans {w w1 w2 : World} {v v1 v2 : Value} (h : Gw w w1 v v1) (k : Gw w1 w2 v1 v2) : Gw w w2 v v2 := by
  have hs := h.grown.size
  have hne : ∀ j, j < w.heap.size → some j ≠ v.ownBlock → some j ≠ v1.ownBlock := by
    intro j hj hv e
    rcases h.at_ with h1 | ⟨g, h1, h2⟩
    · exact hv (e.trans h1)
    · rw [h1] at e; injection e with e; omega
  refine ⟨⟨k.grown.os.trans h.grown.os, k.grown.tape.trans h.grown.tape, k.grown.output.trans h.grown.output, Nat.le_trans hs k.grown.size, fun j hj hv => ?_⟩, ?_⟩
  · rw [k.grown.block j (by omega) (hne j hj hv)]; exact h.grown.block j hj hv
  · rcases k.at_ with h1 | ⟨g, h1, h2⟩
    · rcases h.at_ with h3 | ⟨g, h3, h4⟩
      · exact Or.inl (h1.trans h3)
      · exact Or.inr ⟨g, h1.trans h3, h4⟩
    · exact Or.inr ⟨g, h1, by omega⟩
theorem Gw.alloc {w w3 : World} {o : Obj} {v : Value} {g m cap : Nat} (hg : (w.alloc o).grownBy w3 v.ownBlock) (hat : v.ownBlock = some g ∨ g = w.heap.size + 1) : Gw w w3 v (.slice (some ⟨g, 0, none⟩) m cap) := by
  have hz : (w.alloc o).heap.size = w.heap.size + 1 := by simp
  refine ⟨⟨hg.os, hg.tape, hg.output, by have := hg.size; omega, fun j hj hv => ?_⟩, ?_⟩
  · rw [hg.block j (by omega) hv, Below.heap_alloc _ _ _ hj]
  · rcases hat with h | h
    · exact Or.inl h.symm
    · exact Or.inr ⟨g, rfl, by omega⟩
theorem Gw.allocD {w w3 : World} {o : Obj} {v : Value} {g m cap : Nat} (hg : (w.alloc o).drew.grownBy w3 v.ownBlock) (hat : v.ownBlock = some g ∨ g = w.heap.size + 1) : Gw w w3 v (.slice (some ⟨g, 0, none⟩) m cap) :=
  Gw.alloc (o := o) ⟨hg.os, hg.tape, hg.output, hg.size, hg.block⟩ hat
theorem Gw.below {B n : Nat} {xs : List Value} {w w' : World} {v v' : Value} (h : Gw w w' v v') (ho : w.ownsRow B 5 1 v n xs) (hB : B ≤ w.heap.size) : Below B w w' :=
  (Below.refl B w).grown h.grown hB (fun k hk => (ho.lt k hk).1)
/-- What a function comes to that appends bytes to a row of the caller's own. -/
def Ap (B : Nat) (w : World) (v : Value) (n : Nat) (xs : List Value) (ys : List UInt8) (e : Ending) (w' : World) : Prop :=
  ∃ v', e = .returned v' ∧ w'.ownsRow B 5 1 v' (n + ys.length) (xs ++ vb ys) ∧ Gw w w' v v'
/-- An append's world, below the base. -/
theorem app_below {B : Nat} {w0 w w' : World} {v : Value} {n : Nat} {xs : List Value} (h0 : Below B w0 w) (hB : B ≤ w.heap.size) (ho : w.ownsRow B 5 1 v n xs) (hg : w.grownBy w' v.ownBlock) : Below B w0 w' :=
  h0.grown hg hB (fun k hk => (ho.lt k hk).1)

theorem and_all : ∀ n : Fin 256, bits BinOp.and IntKind.u8 (n.val : Int) 15 = ((n.val % 16 : Nat) : Int) := by decide +kernel
theorem and_byte (b : UInt8) : bits BinOp.and IntKind.u8 (b.toNat : Int) 15 = ((b.toNat % 16 : Nat) : Int) := and_all ⟨b.toNat, b.toNat_lt⟩
theorem hexd_at (n : Nat) (h : n < (⟨#[48, 49, 50, 51, 52, 53, 54, 55, 56, 57, 97, 98, 99, 100, 101, 102]⟩ : ByteArray).size) : (⟨#[48, 49, 50, 51, 52, 53, 54, 55, 56, 57, 97, 98, 99, 100, 101, 102]⟩ : ByteArray)[n]'h = hexc n := by
  have h' : n < 16 := h
  have : ∀ m : Fin 16, (⟨#[48, 49, 50, 51, 52, 53, 54, 55, 56, 57, 97, 98, 99, 100, 101, 102]⟩ : ByteArray)[m.val]'m.isLt = hexc m.val := by decide
  exact this ⟨n, h'⟩
theorem row4 (w : World) (a b c d : Int) : ∀ j u, ([.int .u8 a, .int .u8 b, .int .u8 c, .int .u8 d] : List Value)[j]? = some u → (w.alloc (.cells #[.int .u8 a, .int .u8 b, .int .u8 c, .int .u8 d] 5)).cell? ((⟨w.heap.size, 0, none⟩ : Addr).add j) = some u := by
  intro j u h
  have hb := alloc_blk w (.cells #[.int .u8 a, .int .u8 b, .int .u8 c, .int .u8 d] 5)
  have e : (⟨w.heap.size, 0, none⟩ : Addr).add j = ⟨w.heap.size, j, none⟩ := by unfold Addr.add; split <;> simp_all
  rw [e, blk_cell hb j]
  simpa using h
theorem row2 (w : World) (a b : Int) : ∀ j u, ([.int .u8 a, .int .u8 b] : List Value)[j]? = some u → (w.alloc (.cells #[.int .u8 a, .int .u8 b] 5)).cell? ((⟨w.heap.size, 0, none⟩ : Addr).add j) = some u := by
  intro j u h
  have hb := alloc_blk w (.cells #[.int .u8 a, .int .u8 b] 5)
  have e : (⟨w.heap.size, 0, none⟩ : Addr).add j = ⟨w.heap.size, j, none⟩ := by unfold Addr.add; split <;> simp_all
  rw [e, blk_cell hb j]
  simpa using h
theorem row1 (w : World) (a : Int) : ∀ j u, ([.int .u8 a] : List Value)[j]? = some u → (w.alloc (.cells #[.int .u8 a] 5)).cell? ((⟨w.heap.size, 0, none⟩ : Addr).add j) = some u := by
  intro j u h
  have hb := alloc_blk w (.cells #[.int .u8 a] 5)
  have e : (⟨w.heap.size, 0, none⟩ : Addr).add j = ⟨w.heap.size, j, none⟩ := by unfold Addr.add; split <;> simp_all
  rw [e, blk_cell hb j]
  simpa using h
theorem ints_one (l : List Int) : ∀ u ∈ l.map (Value.int .u8), u.oneCell' = true := by
  intro u hu
  obtain ⟨b, _, rfl⟩ := List.mem_map.mp hu
  rfl
set_option maxHeartbeats 1000000 in
theorem hexA_any (B : Nat) (v : Value) (n : Nat) (xs : List Value) (b : UInt8) (w : World) (h : w.ownsRow B 5 1 v n xs) (hB : B ≤ w.heap.size) (hn : n ≤ 1000000) :
    Calls Tryd.prog 56 #[v, .int .u8 (b.toNat : Int)] w (Ap B w v n xs (eHex b)) := by
  obtain ⟨va, vc, rfl⟩ := own_slice h
  obtain ⟨i0, hi, hz0, hz1, hz2⟩ := info_parts info5
  have hb := b.toNat_lt
  have HO := Lib.hid h
  have d1 : 0 ≤ (b.toNat : Int) / 16 := by omega
  have d2 : (b.toNat : Int) / 16 < 16 := by omega
  have d3 : 0 ≤ (b.toNat : Int) % 16 := by omega
  have d4 : (b.toNat : Int) % 16 < 16 := by omega
  have d5 := and_byte b
  clear h
  go_enter Tryd.func56, Tryd.ntmps56
  go_wp2
  go_region_law (first | (refine step_append_lies _ rfl _ _ 51 rfl B 5 i0 (.int .u8 0) 1 1 Tryd.underlying51 hi hz0 hz1 hz2 rfl (by decide) (.slice va n vc) n xs rfl (by exact HO.out.alloc _) ⟨w.heap.size, 0, none⟩ 4 4 [.int .u8 92, .int .u8 120, .int .u8 _, .int .u8 _] rfl rfl (by exact row4 w _ _ _ _) (ints_one [92, 120, _, _]) (by decide) (by unfold maxLen; omega) (by omega) (by simp; omega) (w.heap.size + 1) (by simp) ?_; intro gg cap w3 hown' hgrow hat hltg; have HG := Lib.hid (And.intro hown' (And.intro hgrow hat)); clear hown' hgrow hat hltg))
  all_goals
    go_wp2
    go_ret
    have h1 := HG.out.1
    rw [hexd_at, hexd_at, show ((b.toNat : Int) / 16).toNat = b.toNat / 16 from by omega, show ((b.toNat : Int) % 16).toNat = b.toNat % 16 from by omega] at h1
    exact ⟨_, rfl, h1, Gw.allocD HG.out.2.1 HG.out.2.2⟩
end Go.Proofs.YtkfkgdkfgpofnaaDoor
/- The walk of appendByte. -/
namespace Go.Proofs.YtkfkgdkfgpofnaaDoor
open Go.RowKit
set_option maxRecDepth 100000

theorem two_below {B n : Nat} {xs : List Value} {w w3 : World} {v : Value} {o : Obj} (hB : B ≤ w.heap.size) (ho : w.ownsRow B 5 1 v n xs) (hg : (w.alloc o).grownBy w3 v.ownBlock) : Below B w w3 :=
  app_below (w := w.alloc o) ((Below.refl B w).alloc hB _) (by simp; omega) (ho.alloc _) hg

set_option maxHeartbeats 2000000 in
theorem byteA_any (B : Nat) (v : Value) (n : Nat) (xs : List Value) (b : UInt8) (sp : ByteArray) (w : World) (h : w.ownsRow B 5 1 v n xs) (hB : B ≤ w.heap.size) (hn : n ≤ 1000000) (hs : sp.size ≤ 1000) :
    Calls Tryd.prog 55 #[v, .int .u8 (b.toNat : Int), .string sp] w (Ap B w v n xs (eByte sp.data.toList b)) := by
  obtain ⟨va, vc, rfl⟩ := own_slice h
  obtain ⟨i0, hi, hz0, hz1, hz2⟩ := info_parts info5
  have hb := b.toNat_lt
  have HO := Lib.hid h
  clear h
  obtain ⟨x, hx⟩ : ∃ x, x = b.toNat := ⟨_, rfl⟩
  have HX := Lib.hid hx
  by_cases h10 : x = 10
  · have HR : Hid (eByte sp.data.toList b = [92, 110]) := by show eByte _ _ = _; unfold eByte; rw [← hx, if_pos h10]
    rw [← hx]
    have t0 : ((x : Int) == 10) = true := by simp [h10]
    clear hx h10 hb
    go_enter Tryd.func55, Tryd.ntmps55
    go_wp2_with (at_builtin; refine wpList_append_lies _ rfl _ _ 51 rfl B 5 i0 (.int .u8 0) 1 1 Tryd.underlying51 hi hz0 hz1 hz2 rfl (by decide) _ n xs rfl (HO.out.alloc _) ⟨w.heap.size, 0, none⟩ 2 2 [.int .u8 92, .int .u8 110] rfl rfl (row2 w 92 110) (ints_one [92, 110]) (by decide) (by unfold maxLen; omega) (by omega) (by simp; omega) (w.heap.size + 1) (by simp) ?_; intro gg cap w3 hown' hgrow hat hltg; have HG := Lib.hid (And.intro hown' (And.intro hgrow hat)); clear hown' hgrow hat hltg)
    go_ret
    rw [HR.out]
    exact ⟨_, rfl, HG.out.1, Gw.alloc HG.out.2.1 HG.out.2.2⟩
  · have t0 : ((x : Int) == 10) = false := by rw [beq_eq_false_iff_ne]; omega
    by_cases h9 : x = 9
    · have HR : Hid (eByte sp.data.toList b = [92, 116]) := by show eByte _ _ = _; unfold eByte; rw [← hx, if_neg h10, if_pos h9]
      rw [← hx]
      have t1 : ((x : Int) == 9) = true := by simp [h9]
      clear hx h10 h9 hb
      go_enter Tryd.func55, Tryd.ntmps55
      go_wp2_with (at_builtin; refine wpList_append_lies _ rfl _ _ 51 rfl B 5 i0 (.int .u8 0) 1 1 Tryd.underlying51 hi hz0 hz1 hz2 rfl (by decide) _ n xs rfl (HO.out.alloc _) ⟨w.heap.size, 0, none⟩ 2 2 [.int .u8 92, .int .u8 116] rfl rfl (row2 w 92 116) (ints_one [92, 116]) (by decide) (by unfold maxLen; omega) (by omega) (by simp; omega) (w.heap.size + 1) (by simp) ?_; intro gg cap w3 hown' hgrow hat hltg; have HG := Lib.hid (And.intro hown' (And.intro hgrow hat)); clear hown' hgrow hat hltg)
      go_ret
      rw [HR.out]
      exact ⟨_, rfl, HG.out.1, Gw.alloc HG.out.2.1 HG.out.2.2⟩
    · have t1 : ((x : Int) == 9) = false := by rw [beq_eq_false_iff_ne]; omega
      by_cases h92 : x = 92
      · have HR : Hid (eByte sp.data.toList b = [92, 92]) := by show eByte _ _ = _; unfold eByte; rw [← hx, if_neg h10, if_neg h9, if_pos h92]
        rw [← hx]
        have t2 : ((x : Int) == 92) = true := by simp [h92]
        clear hx h10 h9 h92 hb
        go_enter Tryd.func55, Tryd.ntmps55
        go_wp2_with (at_builtin; refine wpList_append_lies _ rfl _ _ 51 rfl B 5 i0 (.int .u8 0) 1 1 Tryd.underlying51 hi hz0 hz1 hz2 rfl (by decide) _ n xs rfl (HO.out.alloc _) ⟨w.heap.size, 0, none⟩ 2 2 [.int .u8 92, .int .u8 92] rfl rfl (row2 w 92 92) (ints_one [92, 92]) (by decide) (by unfold maxLen; omega) (by omega) (by simp; omega) (w.heap.size + 1) (by simp) ?_; intro gg cap w3 hown' hgrow hat hltg; have HG := Lib.hid (And.intro hown' (And.intro hgrow hat)); clear hown' hgrow hat hltg)
        go_ret
        rw [HR.out]
        exact ⟨_, rfl, HG.out.1, Gw.alloc HG.out.2.1 HG.out.2.2⟩
      · have t2 : ((x : Int) == 92) = false := by rw [beq_eq_false_iff_ne]; omega
        by_cases hlo : x < 32 ∨ 126 < x
        · have HR : Hid (eByte sp.data.toList b = eHex b) := by show eByte _ _ = _; unfold eByte; rw [← hx, if_neg h10, if_neg h9, if_neg h92, if_pos hlo]
          rw [← hx]
          by_cases h32 : x < 32
          · have t3 : (x : Int) < 32 := by omega
            clear hx h10 h9 h92 hb hlo h32
            go_enter Tryd.func55, Tryd.ntmps55
            go_wp2_with fail
            rw [HX.out]
            refine (hexA_any B _ n xs b w HO.out hB hn).mono ?_
            rintro e w3 ⟨v', rfl, h1, h2⟩
            have HG := Lib.hid (And.intro h1 h2)
            clear h1 h2
            go_wp2
            go_ret
            rw [HR.out]
            exact ⟨_, rfl, HG.out.1, HG.out.2⟩
          · have t3 : decide ((x : Int) < 32) = false := by simp; omega
            have t4 : (126 : Int) < (x : Int) := by omega
            clear hx h10 h9 h92 hb hlo h32
            go_enter Tryd.func55, Tryd.ntmps55
            go_wp2_with fail
            rw [HX.out]
            refine (hexA_any B _ n xs b w HO.out hB hn).mono ?_
            rintro e w3 ⟨v', rfl, h1, h2⟩
            have HG := Lib.hid (And.intro h1 h2)
            clear h1 h2
            go_wp2
            go_ret
            rw [HR.out]
            exact ⟨_, rfl, HG.out.1, HG.out.2⟩
        · have HR : Hid (eByte sp.data.toList b = if sp.data.toList.contains b = true then (if x = 123 then eHex b else [92, b]) else [b]) := by show eByte _ _ = _; unfold eByte; rw [← hx, if_neg h10, if_neg h9, if_neg h92, if_neg hlo]
          rw [← hx]
          have t3 : decide ((x : Int) < 32) = false := by simp; omega
          have t4 : decide ((126 : Int) < (x : Int)) = false := by simp; omega
          clear hx h10 h9 h92 hlo
          go_enter Tryd.func55, Tryd.ntmps55
          go_wp2
          have hw0 : Hid (w = w) := rfl
          go_loopg [7] (sp.size + 1) (fun m y wr => ∃ i : Nat, i ≤ sp.size ∧ sp.size - i < m ∧ y = .int .i64 i ∧ Hid (∀ j, j < i → bt sp j ≠ x) ∧ wr = w)
          case atStart => exact ⟨0, by omega, by omega, rfl, (fun j hj => absurd hj (Nat.not_lt_zero j) : ∀ j, j < 0 → bt sp j ≠ x), rfl⟩
          case round =>
            obtain ⟨i, hi', hgk, rfl, HN, rfl⟩ := hrel
            obtain ⟨m, rfl⟩ : ∃ m, gk = m + 1 := ⟨gk - 1, by omega⟩
            by_cases hlt : i < sp.size
            · have hii : (i : Int) < (sp.size : Int) := by omega
              have hi0 : (0 : Int) ≤ (i : Int) := by omega
              have e := bt_eq sp i hlt
              by_cases hm : bt sp i = x
              · have c1 : ((bt sp i : Int) == (x : Int)) = true := by rw [beq_iff_eq]; omega
                have c2 : ((bt sp i : Int) != (x : Int)) = false := by rw [bne_eq_false_iff_eq]; omega
                have c3 : (bt sp i != x) = false := by rw [bne_eq_false_iff_eq]; exact hm
                have c4 : (bt sp i == x) = true := by rw [beq_iff_eq]; exact hm
                have HC : Hid (sp.data.toList.contains b = true) := by
                  show _ = true
                  rw [List.contains_iff_mem]
                  have hl : i < sp.data.toList.length := by rw [Array.length_toList]; exact hlt
                  have : sp.data.toList[i] = b := by
                    apply UInt8.toNat_inj.mp
                    rw [← HX.out, ← hm]
                    unfold bt
                    rw [List.getD_eq_getElem?_getD, List.getElem?_eq_getElem hl]
                    rfl
                  rw [← this]; exact List.getElem_mem hl
                clear hm
                by_cases h123 : x = 123
                · have t5 : ((x : Int) == 123) = true := by simp [h123]
                  have HR2 : Hid (eByte sp.data.toList b = eHex b) := by show eByte _ _ = _; rw [HR.out, if_pos HC.out, if_pos h123]
                  clear h123
                  go_wp2_with fail
                  rw [HX.out]
                  refine (hexA_any B _ n xs b _ HO.out hB hn).mono ?_
                  rintro e1 w3 ⟨v', rfl, h1, h2⟩
                  have HG := Lib.hid (And.intro h1 h2)
                  clear h1 h2
                  go_wp2
                  go_ret
                  rw [HR2.out]
                  exact ⟨_, rfl, HG.out.1, HG.out.2⟩
                · have t5 : ((x : Int) == 123) = false := by rw [beq_eq_false_iff_ne]; omega
                  have HR2 : Hid (eByte sp.data.toList b = [92, b]) := by show eByte _ _ = _; rw [HR.out, if_pos HC.out, if_neg h123]
                  clear h123
                  go_wp2_with (at_builtin; refine wpList_append_lies _ rfl _ _ 51 rfl B 5 i0 (.int .u8 0) 1 1 Tryd.underlying51 hi hz0 hz1 hz2 rfl (by decide) _ n xs rfl (HO.out.alloc _) ⟨wr.heap.size, 0, none⟩ 2 2 [.int .u8 92, .int .u8 x] rfl rfl (row2 wr 92 x) (ints_one [92, (x : Int)]) (by decide) (by unfold maxLen; omega) (by omega) (by simp; omega) (wr.heap.size + 1) (by simp) ?_; intro gg cap w3 hown' hgrow hat hltg; have HG := Lib.hid (And.intro hown' (And.intro hgrow hat)); clear hown' hgrow hat hltg)
                  go_ret
                  rw [HR2.out]
                  have h1 := HG.out.1
                  rw [HX.out] at h1
                  exact ⟨_, rfl, h1, Gw.alloc HG.out.2.1 HG.out.2.2⟩
              · have c1 : ((bt sp i : Int) == (x : Int)) = false := by rw [beq_eq_false_iff_ne]; omega
                have c2 : ((bt sp i : Int) != (x : Int)) = true := by rw [bne_iff_ne]; omega
                have c3 : (bt sp i != x) = true := by rw [bne_iff_ne]; exact hm
                have c4 : (bt sp i == x) = false := by rw [beq_eq_false_iff_ne]; exact hm
                have HN2 : Hid (∀ j, j < i + 1 → bt sp j ≠ x) := by
                  intro j hj
                  rcases Nat.lt_or_ge j i with h | h
                  · exact HN.out j h
                  · have : j = i := by omega
                    subst this; exact hm
                clear hm
                go_wp2
                go_roundg m
                case measure => omega
                case rel => exact ⟨i + 1, by omega, by omega, by go_num, HN2, rfl⟩
            · have hii : decide ((i : Int) < (sp.size : Int)) = false := by simp; omega
              have HC : Hid (sp.data.toList.contains b = false) := by
                show _ = false
                rcases hq : sp.data.toList.contains b with _ | _
                · rfl
                · rw [List.contains_iff_mem] at hq
                  obtain ⟨j, hj, h2⟩ := List.mem_iff_getElem.mp hq
                  have hj2 : j < sp.size := by rw [Array.length_toList] at hj; exact hj
                  refine absurd ?_ (HN.out j (by omega))
                  unfold bt
                  rw [List.getD_eq_getElem?_getD, List.getElem?_eq_getElem hj]
                  show (sp.data.toList[j]).toNat = x
                  rw [h2, HX.out]
              have HR2 : Hid (eByte sp.data.toList b = [b]) := by show eByte _ _ = _; rw [HR.out, HC.out]; rfl
              go_wp2_with (at_builtin; refine wpList_append_lies _ rfl _ _ 51 rfl B 5 i0 (.int .u8 0) 1 1 Tryd.underlying51 hi hz0 hz1 hz2 rfl (by decide) _ n xs rfl (HO.out.alloc _) ⟨wr.heap.size, 0, none⟩ 1 1 [.int .u8 x] rfl rfl (row1 wr x) (ints_one [(x : Int)]) (by decide) (by unfold maxLen; omega) (by omega) (by simp; omega) (wr.heap.size + 1) (by simp) ?_; intro gg cap w3 hown' hgrow hat hltg; have HG := Lib.hid (And.intro hown' (And.intro hgrow hat)); clear hown' hgrow hat hltg)
              go_ret
              rw [HR2.out]
              have h1 := HG.out.1
              rw [HX.out] at h1
              exact ⟨_, rfl, h1, Gw.alloc HG.out.2.1 HG.out.2.2⟩
end Go.Proofs.YtkfkgdkfgpofnaaDoor
/- The walks of appendBytes and appendPart. -/
namespace Go.Proofs.YtkfkgdkfgpofnaaDoor
open Go.RowKit
set_option maxRecDepth 100000

theorem take_next (l : List UInt8) (i : Nat) (h : i < l.length) : l.take (i + 1) = l.take i ++ [l.getD i 0] := by
  rw [List.take_succ_eq_append_getElem h, List.getD_eq_getElem?_getD, List.getElem?_eq_getElem h]
  rfl
theorem own_app {B n : Nat} {xs : List Value} {ys zs : List UInt8} {v : Value} {w : World} (h : w.ownsRow B 5 1 v (n + ys.length + zs.length) (xs ++ vb ys ++ vb zs)) : w.ownsRow B 5 1 v (n + (ys ++ zs).length) (xs ++ vb (ys ++ zs)) := by
  rw [vb_app, List.length_append, ← Nat.add_assoc, ← List.append_assoc]; exact h

set_option maxHeartbeats 2000000 in
theorem bytesA_any (B : Nat) (v : Value) (n : Nat) (xs : List Value) (tx sp : ByteArray) (w : World) (h : w.ownsRow B 5 1 v n xs) (hB : B ≤ w.heap.size) (hn : n ≤ 400000) (ht : tx.size ≤ 100000) (hs : sp.size ≤ 1000) :
    Calls Tryd.prog 39 #[v, .string tx, .string sp] w (Ap B w v n xs (eBytes sp.data.toList tx.data.toList)) := by
  have HO : Hid (w.ownsRow B 5 1 v (n + ([] : List UInt8).length) (xs ++ vb [])) := by
    show w.ownsRow B 5 1 v (n + 0) (xs ++ [])
    rw [List.append_nil]; exact h
  have HB := Lib.hid hB
  have HB0 : Hid (Gw w w v v) := Gw.refl _ _
  have HY : Hid (([] : List UInt8) = eBytes sp.data.toList (tx.data.toList.take 0)) := rfl
  clear h
  go_enter Tryd.func39, Tryd.ntmps39
  go_wp2
  go_loopg [0, 7] (tx.size + 1) (fun m y z wr => ∃ (i : Nat) (ys : List UInt8), i ≤ tx.size ∧ tx.size - i < m ∧ z = .int .i64 i ∧ ys.length ≤ 4 * i ∧ Hid (ys = eBytes sp.data.toList (tx.data.toList.take i)) ∧ Hid (wr.ownsRow B 5 1 y (n + ys.length) (xs ++ vb ys)) ∧ Hid (Gw w wr v y) ∧ Hid (B ≤ wr.heap.size))
  case atStart => exact ⟨0, [], by omega, by omega, rfl, by simp, HY, HO, HB0, HB⟩
  case round =>
    obtain ⟨i, ys, hi, hgk, rfl, hyl, HY1, HO1, HB1, HS1⟩ := hrel
    obtain ⟨m, rfl⟩ : ∃ m, gk = m + 1 := ⟨gk - 1, by omega⟩
    by_cases hlt : i < tx.size
    · have hii : (i : Int) < (tx.size : Int) := by omega
      have hi0 : (0 : Int) ≤ (i : Int) := by omega
      have e := bt_eq tx i hlt
      go_wp2_with fail
      refine (byteA_any B _ (n + ys.length) (xs ++ vb ys) (tx.data.toList.getD i 0) sp _ HO1.out HS1.out (by omega) hs).mono ?_
      rintro e1 w3 ⟨v', rfl, h1, h2⟩
      have HO2 : Hid (w3.ownsRow B 5 1 v' (n + (ys ++ eByte sp.data.toList (tx.data.toList.getD i 0)).length) (xs ++ vb (ys ++ eByte sp.data.toList (tx.data.toList.getD i 0)))) := own_app h1
      have HB2 : Hid (Gw w w3 v v') := HB1.out.trans h2
      have HS2 : Hid (B ≤ w3.heap.size) := Nat.le_trans HS1.out h2.grown.size
      have hlen := eByte_len sp.data.toList (tx.data.toList.getD i 0)
      have HY2 : Hid (ys ++ eByte sp.data.toList (tx.data.toList.getD i 0) = eBytes sp.data.toList (tx.data.toList.take (i + 1))) := by
        show ys ++ _ = _
        rw [take_next _ i (by rw [Array.length_toList]; exact hlt), HY1.out]
        unfold eBytes
        rw [List.flatMap_append]
        simp
      clear h1 h2
      go_wp2
      go_roundg m
      case measure => omega
      case rel => exact ⟨i + 1, _, by omega, by omega, by go_num, by rw [List.length_append]; omega, HY2, HO2, HB2, HS2⟩
    · have hii : decide ((i : Int) < (tx.size : Int)) = false := by simp; omega
      have hie : i = tx.size := by omega
      subst hie
      have HY2 : Hid (ys = eBytes sp.data.toList tx.data.toList) := by
        show ys = _
        rw [HY1.out, List.take_of_length_le (by rw [Array.length_toList]; exact Nat.le_refl _)]
      go_wp2
      go_ret
      rw [← HY2.out]
      exact ⟨_, rfl, HO1.out, HB1.out⟩

theorem ePart_cons (af : Bool) (b : UInt8) (r : List UInt8) : ePart af (b :: r) = if (af && wordB b.toNat) = true then eHex b ++ eBytes [34, 36] r else eBytes [34, 36] (b :: r) := rfl
set_option maxHeartbeats 2000000 in
theorem partA_any (B : Nat) (v : Value) (n : Nat) (xs : List Value) (tx : ByteArray) (af : Bool) (w : World) (hT : Tab w) (h : w.ownsRow B 5 1 v n xs) (hB : B ≤ w.heap.size) (hn : n ≤ 300000) (ht : tx.size ≤ 100000) :
    Calls Tryd.prog 40 #[v, .string tx, .bool af] w (Ap B w v n xs (ePart af tx.data.toList)) := by
  have HO := Lib.hid h
  have HT := Lib.hid hT
  clear h hT
  have base : ∀ w' : World, w' = w → Calls Tryd.prog 39 #[v, .string tx, .string ⟨#[34, 36]⟩] w' (Ap B w v n xs (eBytes [34, 36] tx.data.toList)) := fun w' e => by
    subst e; exact bytesA_any B v n xs tx ⟨#[34, 36]⟩ w' HO.out hB (by omega) ht (by decide)
  by_cases haf : af = false
  · subst haf
    have HR : Hid (ePart false tx.data.toList = eBytes [34, 36] tx.data.toList) := by
      show _ = _
      rcases tx.data.toList with _ | ⟨b, r⟩
      · rfl
      · rw [ePart_cons]; rfl
    go_enter Tryd.func40, Tryd.ntmps40
    go_wp2_with fail
    refine (base _ rfl).mono ?_
    rintro e w3 ⟨v', rfl, h1, h2⟩
    have HG := Lib.hid (And.intro h1 h2)
    clear h1 h2
    go_wp2
    go_ret
    rw [HR.out]
    exact ⟨_, rfl, HG.out.1, HG.out.2⟩
  · have haf : af = true := by simpa using haf
    subst haf
    by_cases he : tx = ⟨#[]⟩
    · subst he
      have HR : Hid (ePart true (⟨#[]⟩ : ByteArray).data.toList = eBytes [34, 36] (⟨#[]⟩ : ByteArray).data.toList) := rfl
      go_enter Tryd.func40, Tryd.ntmps40
      go_wp2_with fail
      refine (base _ rfl).mono ?_
      rintro e w3 ⟨v', rfl, h1, h2⟩
      have HG := Lib.hid (And.intro h1 h2)
      clear h1 h2
      go_wp2
      go_ret
      rw [HR.out]
      exact ⟨_, rfl, HG.out.1, HG.out.2⟩
    · have hz : 0 < tx.size := by
        rcases Nat.eq_zero_or_pos tx.size with h | h
        · exfalso; apply he
          apply ByteArray.ext
          exact Array.eq_empty_of_size_eq_zero h
        · exact h
      have e := bt_eq tx 0 hz
      have f2 : tx.toList ≠ [] := by
        rw [ByteArray.toList_eq]
        intro h
        have : tx.data.toList.length = tx.size := Array.length_toList
        rw [h] at this; simp at this; omega
      have f1 : tx.toList.isEmpty = false := by simpa using f2
      have hz1 : (0 : Int) < (tx.size : Int) := by omega
      obtain ⟨b, r, hbr⟩ : ∃ b r, tx.data.toList = b :: r := by
        rcases hd : tx.data.toList with _ | ⟨b, r⟩
        · have : tx.data.toList.length = tx.size := Array.length_toList
          rw [hd] at this; simp at this; omega
        · exact ⟨b, r, rfl⟩
      have hb0 : bt tx 0 = b.toNat := by unfold bt; rw [hbr]; rfl
      by_cases hw : wordB (bt tx 0) = true
      · have HR : Hid (ePart true tx.data.toList = eHex b ++ eBytes [34, 36] r) := by
          show _ = _
          rw [hbr, ePart_cons, if_pos (by rw [← hb0, hw]; rfl)]
        have HT2 : Hid ((tx.extract 1 tx.size).data.toList = r) := by
          show _ = r
          rw [← ByteArray.toList_eq, extract_list, hbr]
          show List.take (tx.size - 1) r = r
          apply List.take_of_length_le
          have : tx.data.toList.length = tx.size := Array.length_toList
          rw [hbr] at this; simp at this; omega
        have HSZ : Hid ((tx.extract 1 tx.size).size ≤ 100000) := by
          show _ ≤ _
          rw [extract_size _ _ _ (Nat.le_refl _)]; omega
        have HB0 := Lib.hid hb0
        have s1 : (1 : Int) ≤ (tx.size : Int) := by omega
        clear hbr hb0 he
        go_enter Tryd.func40, Tryd.ntmps40
        go_wp2_with (go_at_call 52; refine (inWord_any _ _ HT.out).mono ?_; rintro e w' ⟨rfl, rfl⟩)
        rw [HB0.out]
        refine (hexA_any B v n xs b w HO.out hB (by omega)).mono ?_
        rintro e1 w3 ⟨v', rfl, h1, h2⟩
        have HG := Lib.hid (And.intro h1 h2)
        have hB3 : B ≤ w3.heap.size := Nat.le_trans hB h2.grown.size
        clear h1 h2
        go_wp2_with fail
        refine (bytesA_any B v' (n + (eHex b).length) (xs ++ vb (eHex b)) (tx.extract 1 tx.size) ⟨#[34, 36]⟩ w3 HG.out.1 hB3 (by show n + 4 ≤ _; omega) HSZ.out (by decide)).mono ?_
        rintro e2 w4 ⟨v2, rfl, h1, h2⟩
        have HG2 := Lib.hid (And.intro h1 h2)
        clear h1 h2
        go_wp2
        go_ret
        rw [HR.out]
        have h1 := HG2.out.1
        rw [HT2.out] at h1
        exact ⟨_, rfl, own_app h1, HG.out.2.trans HG2.out.2⟩
      · have hw : wordB (bt tx 0) = false := by simpa using hw
        have HR : Hid (ePart true tx.data.toList = eBytes [34, 36] tx.data.toList) := by
          show _ = _
          rw [hbr, ePart_cons, if_neg (by rw [← hb0, hw]; simp)]
        clear hbr hb0 he
        go_enter Tryd.func40, Tryd.ntmps40
        go_wp2_with (go_at_call 52; refine (inWord_any _ _ HT.out).mono ?_; rintro e w' ⟨rfl, rfl⟩)
        refine (base _ rfl).mono ?_
        rintro e w3 ⟨v', rfl, h1, h2⟩
        have HG := Lib.hid (And.intro h1 h2)
        clear h1 h2
        go_wp2
        go_ret
        rw [HR.out]
        exact ⟨_, rfl, HG.out.1, HG.out.2⟩
end Go.Proofs.YtkfkgdkfgpofnaaDoor
/- The walk of spaced. -/
namespace Go.Proofs.YtkfkgdkfgpofnaaDoor
open Go.RowKit
set_option maxRecDepth 100000

theorem spaced_any (x y : Tok) (w : World) :
    Calls Tryd.prog 19 #[.agg x.cells.toArray, .agg y.cells.toArray] w fun e w' => e = .returned (.bool (spc x.kind y.kind)) ∧ Below w.heap.size w w' := by
  obtain ⟨k, tx, a1, l1, c1⟩ := x
  obtain ⟨k2, ty, a2, l2, c2⟩ := y
  have HB : Hid (∀ o1 o2 : Obj, Below w.heap.size w ((w.alloc o1).alloc o2)) := fun o1 o2 => ((Below.refl _ _).alloc (Nat.le_refl _) _).alloc (by simp) _
  show Calls Tryd.prog 19 #[.agg #[.int .i64 k, .string tx, .int .i64 a1, .int .i64 l1, .int .i64 c1], .agg #[.int .i64 k2, .string ty, .int .i64 a2, .int .i64 l2, .int .i64 c2]] w _
  by_cases h8 : k = 8
  · subst h8
    have HR : Hid (spc 8 k2 = false) := rfl
    go_enter Tryd.func19, Tryd.ntmps19
    go_wp2
    go_ret
    exact ⟨ret_bool HR.out.symm, HB.out _ _⟩
  · have f1 : (k == 8) = false := by rw [beq_eq_false_iff_ne]; exact h8
    have f1' : (k != 8) = true := by rw [bne_iff_ne]; exact h8
    by_cases h9 : k = 9
    · subst h9
      have HR : Hid (spc 9 k2 = false) := rfl
      go_enter Tryd.func19, Tryd.ntmps19
      go_wp2
      go_ret
      exact ⟨ret_bool HR.out.symm, HB.out _ _⟩
    · have f2 : (k == 9) = false := by rw [beq_eq_false_iff_ne]; exact h9
      have f2' : (k != 9) = true := by rw [bne_iff_ne]; exact h9
      have HR : Hid (spc k k2 = (k2 != 9)) := by show _ = _; unfold spc; rw [f1', f2']; rfl
      clear h8 h9
      go_enter Tryd.func19, Tryd.ntmps19
      go_wp2
      go_ret
      exact ⟨ret_bool HR.out.symm, HB.out _ _⟩
end Go.Proofs.YtkfkgdkfgpofnaaDoor
/- The walk of appendToken, but for literals. -/
namespace Go.Proofs.YtkfkgdkfgpofnaaDoor
open Go.RowKit
set_option maxRecDepth 100000

/-- The tokens in front: how many, and the kind of the last one. -/
def Front (w : World) (va : Option Addr) (m : Nat) (last : Int) : Prop := m = 0 ∧ last = -1 ∨ 0 < m ∧ ∃ g, va = some ⟨g, 0, none⟩ ∧ w.cell? ⟨g, (m - 1) * 5, none⟩ = some (.int .i64 last)
/-- .. of which only the frame below the base is told. -/
def At (B : Nat) (w : World) (n : Nat) (xs : List Value) (ys : List UInt8) (e : Ending) (w' : World) : Prop :=
  ∃ v', e = .returned v' ∧ w'.ownsRow B 5 1 v' (n + ys.length) (xs ++ vb ys) ∧ Below B w w'
/-- A token as a block. -/
abbrev TB (x : Tok) : Obj := .cells #[.int .i64 x.kind, .string x.text, .int .i64 x.at_, .int .i64 x.line, .int .i64 x.col] 32
theorem box_kept {w w3 : World} {B n : Nat} {xs : List Value} {v : Value} {o : Obj} {x : Tok} (ho : w.ownsRow B 5 1 v n xs) (hg : ((w.alloc (TB x)).alloc o).grownBy w3 v.ownBlock) :
    w3.heap[w.heap.size]? = some (.cells #[.int .i64 x.kind, .string x.text, .int .i64 x.at_, .int .i64 x.line, .int .i64 x.col] 32 (0, 0)) := by
  have hne : some w.heap.size ≠ v.ownBlock := fun e => by have := (ho.lt _ e.symm).2; omega
  rw [hg.block w.heap.size (by simp; omega) hne, Below.heap_alloc _ _ _ (by simp), alloc_blk]
theorem vb_text (t : ByteArray) : Lib.strCells t = vb t.data.toList := rfl
theorem text_len (t : ByteArray) : t.size = t.data.toList.length := by rw [Array.length_toList]; rfl
theorem below_box {B : Nat} {w : World} (hB : B ≤ w.heap.size) (o : Obj) : Below B w (w.alloc o) := (Below.refl B w).alloc hB o

theorem cell_kept {W w3 : World} {v : Value} {o : Obj} {P j : Nat} (hg : (W.alloc o).grownBy w3 v.ownBlock) (hP : some P ≠ v.ownBlock) (hlt : P < W.heap.size) : w3.cell? ⟨P, j, none⟩ = W.cell? ⟨P, j, none⟩ :=
  World.cell?_of_block (by rw [hg.block P (by simp; omega) hP, Below.heap_alloc _ _ _ hlt])
theorem eTok_word {last k : Int} {tx : ByteArray} {a l c : Int} (h : k = 0 ∨ k = 1) : eTok last ⟨k, tx, a, l, c⟩ = (if last = 9 then [36] else []) ++ tx.data.toList := by unfold eTok; rw [if_pos h]
set_option maxHeartbeats 4000000 in
theorem tokA_plain (B : Nat) (v : Value) (n : Nat) (xs : List Value) (va : Option Addr) (m vc : Nat) (last : Int) (x : Tok) (w : World) (hT : Tab w) (h0 : 0 < w.heap.size) (h : w.ownsRow B 5 1 v n xs) (hB : B ≤ w.heap.size) (hn : n ≤ 200000) (ht : x.text.size ≤ 50000) (hf : Front w va m last) (hm : m ≤ 100000)
    (hk : x.kind ≠ 6 ∧ x.kind ≠ 7) :
    Calls Tryd.prog 20 #[v, .slice va m vc, .agg x.cells.toArray] w (At B w n xs (eTok last x)) := by
  obtain ⟨k, tx, a1, l1, c1⟩ := x
  simp only at ht hk
  obtain ⟨i0, hi, hz0, hz1, hz2⟩ := info_parts info5
  have HO := Lib.hid h
  have HT : Hid (Tab (w.alloc (TB ⟨k, tx, a1, l1, c1⟩))) := fun i hi => (World.cell?_of_block (Below.heap_alloc w _ _ h0)).trans (hT i hi)
  have HBX := Lib.hid (below_box hB (TB ⟨k, tx, a1, l1, c1⟩))
  have HZ : Hid (B ≤ (w.alloc (TB ⟨k, tx, a1, l1, c1⟩)).heap.size) := by show B ≤ _; simp; omega
  have HO1 : Hid ((w.alloc (TB ⟨k, tx, a1, l1, c1⟩)).ownsRow B 5 1 v n xs) := HO.out.alloc _
  have HF : Hid (m = 0 ∧ last = -1 ∨ 0 < m ∧ ∃ g, va = some ⟨g, 0, none⟩ ∧ (w.alloc (TB ⟨k, tx, a1, l1, c1⟩)).cell? ⟨g, (m - 1) * 5, none⟩ = some (.int .i64 last)) := by
    rcases hf with h | ⟨h1, g, h2, h3⟩
    · exact Or.inl h
    · exact Or.inr ⟨h1, g, h2, (World.cell?_of_block (Below.heap_alloc w _ _ (block_lt_of_cell h3))).trans h3⟩
  clear h hT hf
  show Calls Tryd.prog 20 #[v, .slice va m vc, .agg #[.int .i64 k, .string tx, .int .i64 a1, .int .i64 l1, .int .i64 c1]] w _
  go_enter Tryd.func20, Tryd.ntmps20
  go_upto_if 10 with fail
  go_cut [7] from 8 to 17 (fun y wx => y = .int .i64 last ∧ wx = w.alloc (TB ⟨k, tx, a1, l1, c1⟩))
  case first =>
    rcases HF.out with ⟨h1, h2⟩ | ⟨h1, g, h2, h3⟩
    · subst h1 h2
      go_wp2
      go_meet
      exact ⟨rfl, rfl⟩
    · obtain ⟨m', rfl⟩ : ∃ m', m = m' + 1 := ⟨m - 1, by omega⟩
      subst h2
      rw [Nat.add_sub_cancel] at h3
      have m1 : (0 : Int) < ((m' + 1 : Nat) : Int) := by omega
      have m2 : IntKind.i64.wrap (((m' + 1 : Nat) : Int) - 1) = (m' : Int) := by rw [show ((m' + 1 : Nat) : Int) - 1 = (m' : Int) from by omega]; exact IntWalk.i64_in _ (by omega)
      have m3 : (0 : Int) ≤ (m' : Int) := by omega
      have m4 : (m' : Int) < ((m' + 1 : Nat) : Int) := by omega
      clear h1
      go_wp2
      go_meet
      exact ⟨rfl, rfl⟩
  case rest =>
    obtain ⟨rfl, rfl⟩ := hcut
    have x0 : (w.alloc (TB ⟨k, tx, a1, l1, c1⟩)).cell? ⟨w.heap.size, 0, none⟩ = some (.int .i64 k) := blk_cell (alloc_blk w _) 0
    have x1 : (w.alloc (TB ⟨k, tx, a1, l1, c1⟩)).cell? ⟨w.heap.size, 1, none⟩ = some (.string tx) := blk_cell (alloc_blk w _) 1
    have hP : some w.heap.size ≠ v.ownBlock := fun e => by have := (HO.out.lt _ e.symm).2; omega
    have hPl : w.heap.size < (w.alloc (TB ⟨k, tx, a1, l1, c1⟩)).heap.size := by simp
    have hlen := text_len tx
    clear HF
    generalize w.alloc (TB ⟨k, tx, a1, l1, c1⟩) = W at *
    generalize w.heap.size = P at *
    by_cases h01 : k = 0 ∨ k = 1
    · have HR : Hid (eTok last ⟨k, tx, a1, l1, c1⟩ = (if last = 9 then [36] else []) ++ tx.data.toList) := eTok_word h01
      by_cases h9 : last = 9
      · have HR2 : Hid (eTok last ⟨k, tx, a1, l1, c1⟩ = [36] ++ tx.data.toList) := by show _ = _; rw [HR.out, if_pos h9]
        have g9 : (last == 9) = true := by rw [beq_iff_eq]; exact h9
        have fin : ∀ (w4 : World) (v2 : Value), w4.ownsRow B 5 1 v2 (n + 1 + tx.size) (xs ++ [.int .u8 36] ++ Lib.strCells tx) → w4.ownsRow B 5 1 v2 (n + ([36] ++ tx.data.toList).length) (xs ++ vb ([36] ++ tx.data.toList)) := by
          intro w4 v2 h
          rw [vb_app, List.length_append, ← Nat.add_assoc, ← List.append_assoc, ← hlen]
          exact h
        have FIN := Lib.hid fin
        clear hlen
        rcases h01 with rfl | rfl
        · clear h9 fin
          go_wp2_with (first
            | (at_builtin; refine wpList_append_lies _ rfl _ _ 51 rfl B 5 i0 (.int .u8 0) 1 1 Tryd.underlying51 hi hz0 hz1 hz2 rfl (by decide) v (n) (xs) rfl (HO1.out.alloc _) ⟨W.heap.size, 0, none⟩ 1 1 [.int .u8 36] rfl rfl (row1 W 36) (ints_one [36]) (by decide) (by unfold maxLen; omega) (by omega) (by have h8 := HZ.out; simp; omega) (W.heap.size + 1) (by simp) ?_; intro gg cap w3 hown' hgrow hat hltg; have y1 := (cell_kept (j := 1) hgrow hP hPl).trans x1; have HZ3 : Hid (B ≤ w3.heap.size) := (by show B ≤ _; have h7 := hgrow.size; have h8 := HZ.out; simp at h7; omega); have HG := Lib.hid (And.intro hown' hgrow); clear hown' hgrow hat hltg)
            | (at_builtin; refine Lib.wpList_append_own_string _ rfl _ _ 51 9 rfl B 5 i0 Tryd.underlying51 Tryd.underlying9 hi hz0 hz1 hz2 (.slice (some ⟨gg, 0, none⟩) (n + 1) cap) (n + 1) (xs ++ [Value.int .u8 36]) rfl HG.out.1 tx rfl (by unfold maxLen; omega) (by omega) HZ3.out ?_; intro v2 w4 hown2 hgrow2 hnil2; have HZ4 : Hid (B ≤ w4.heap.size) := (by show B ≤ _; have h7 := hgrow2.size; have h8 := HZ3.out; omega); have HS := Lib.hid (And.intro hown2 hgrow2); clear hown2 hgrow2 hnil2))
          go_ret
          rw [HR2.out]
          exact ⟨_, rfl, FIN.out _ _ HS.out.1, app_below (HBX.out.trans (two_below HZ.out HO1.out HG.out.2)) HZ3.out HG.out.1 HS.out.2⟩
        · clear h9 fin
          go_wp2_with (first
            | (at_builtin; refine wpList_append_lies _ rfl _ _ 51 rfl B 5 i0 (.int .u8 0) 1 1 Tryd.underlying51 hi hz0 hz1 hz2 rfl (by decide) v (n) (xs) rfl (HO1.out.alloc _) ⟨W.heap.size, 0, none⟩ 1 1 [.int .u8 36] rfl rfl (row1 W 36) (ints_one [36]) (by decide) (by unfold maxLen; omega) (by omega) (by have h8 := HZ.out; simp; omega) (W.heap.size + 1) (by simp) ?_; intro gg cap w3 hown' hgrow hat hltg; have y1 := (cell_kept (j := 1) hgrow hP hPl).trans x1; have HZ3 : Hid (B ≤ w3.heap.size) := (by show B ≤ _; have h7 := hgrow.size; have h8 := HZ.out; simp at h7; omega); have HG := Lib.hid (And.intro hown' hgrow); clear hown' hgrow hat hltg)
            | (at_builtin; refine Lib.wpList_append_own_string _ rfl _ _ 51 9 rfl B 5 i0 Tryd.underlying51 Tryd.underlying9 hi hz0 hz1 hz2 (.slice (some ⟨gg, 0, none⟩) (n + 1) cap) (n + 1) (xs ++ [Value.int .u8 36]) rfl HG.out.1 tx rfl (by unfold maxLen; omega) (by omega) HZ3.out ?_; intro v2 w4 hown2 hgrow2 hnil2; have HZ4 : Hid (B ≤ w4.heap.size) := (by show B ≤ _; have h7 := hgrow2.size; have h8 := HZ3.out; omega); have HS := Lib.hid (And.intro hown2 hgrow2); clear hown2 hgrow2 hnil2))
          go_ret
          rw [HR2.out]
          exact ⟨_, rfl, FIN.out _ _ HS.out.1, app_below (HBX.out.trans (two_below HZ.out HO1.out HG.out.2)) HZ3.out HG.out.1 HS.out.2⟩
      · have HR2 : Hid (eTok last ⟨k, tx, a1, l1, c1⟩ = tx.data.toList) := by show _ = _; rw [HR.out, if_neg h9]; rfl
        have g9 : (last == 9) = false := by rw [beq_eq_false_iff_ne]; exact h9
        have fin : ∀ (w4 : World) (v2 : Value), w4.ownsRow B 5 1 v2 (n + tx.size) (xs ++ Lib.strCells tx) → w4.ownsRow B 5 1 v2 (n + (tx.data.toList).length) (xs ++ vb (tx.data.toList)) := by
          intro w4 v2 h
          rw [← hlen]
          exact h
        have FIN := Lib.hid fin
        clear hlen
        rcases h01 with rfl | rfl
        · clear h9 fin
          go_wp2_with (at_builtin; refine Lib.wpList_append_own_string _ rfl _ _ 51 9 rfl B 5 i0 Tryd.underlying51 Tryd.underlying9 hi hz0 hz1 hz2 v (n) (xs) rfl HO1.out tx rfl (by unfold maxLen; omega) (by omega) HZ.out ?_; intro v2 w4 hown2 hgrow2 hnil2; have HZ4 : Hid (B ≤ w4.heap.size) := (by show B ≤ _; have h7 := hgrow2.size; have h8 := HZ.out; omega); have HS := Lib.hid (And.intro hown2 hgrow2); clear hown2 hgrow2 hnil2)
          go_ret
          rw [HR2.out]
          exact ⟨_, rfl, FIN.out _ _ HS.out.1, app_below HBX.out HZ.out HO1.out HS.out.2⟩
        · clear h9 fin
          go_wp2_with (at_builtin; refine Lib.wpList_append_own_string _ rfl _ _ 51 9 rfl B 5 i0 Tryd.underlying51 Tryd.underlying9 hi hz0 hz1 hz2 v (n) (xs) rfl HO1.out tx rfl (by unfold maxLen; omega) (by omega) HZ.out ?_; intro v2 w4 hown2 hgrow2 hnil2; have HZ4 : Hid (B ≤ w4.heap.size) := (by show B ≤ _; have h7 := hgrow2.size; have h8 := HZ.out; omega); have HS := Lib.hid (And.intro hown2 hgrow2); clear hown2 hgrow2 hnil2)
          go_ret
          rw [HR2.out]
          exact ⟨_, rfl, FIN.out _ _ HS.out.1, app_below HBX.out HZ.out HO1.out HS.out.2⟩
    · have fin2 : ∀ (c : UInt8) (w4 : World) (v2 : Value), w4.ownsRow B 5 1 v2 (n + tx.size + 1) (xs ++ Lib.strCells tx ++ [.int .u8 c.toNat]) → w4.ownsRow B 5 1 v2 (n + (tx.data.toList ++ [c]).length) (xs ++ vb (tx.data.toList ++ [c])) := by
        intro c w4 v2 h
        rw [vb_app, List.length_append, ← Nat.add_assoc, ← List.append_assoc, ← hlen]
        exact h
      have FIN2 := Lib.hid fin2
      have HLEN := Lib.hid hlen
      clear hlen
      by_cases h5 : k = 5
      · have HR2 : Hid (eTok last ⟨k, tx, a1, l1, c1⟩ = tx.data.toList ++ [76]) := by show _ = _; unfold eTok; rw [if_neg h01, if_pos h5]
        subst h5
        clear h01 fin2
        go_wp2_with (first
          | (at_builtin; refine wpList_append_lies _ rfl _ _ 51 rfl B 5 i0 (.int .u8 0) 1 1 Tryd.underlying51 hi hz0 hz1 hz2 rfl (by decide) v2 (n + tx.size) (xs ++ Lib.strCells tx) rfl (HS.out.1.alloc _) ⟨w4.heap.size, 0, none⟩ 1 1 [.int .u8 76] rfl rfl (row1 w4 76) (ints_one [76]) (by decide) (by unfold maxLen; omega) (by omega) (by have h8 := HZ4.out; simp; omega) (w4.heap.size + 1) (by simp) ?_; intro gg cap w3 hown' hgrow hat hltg; have HZ3 : Hid (B ≤ w3.heap.size) := (by show B ≤ _; have h7 := hgrow.size; have h8 := HZ4.out; simp at h7; omega); have HG := Lib.hid (And.intro hown' hgrow); clear hown' hgrow hat hltg)
          | (at_builtin; refine Lib.wpList_append_own_string _ rfl _ _ 51 9 rfl B 5 i0 Tryd.underlying51 Tryd.underlying9 hi hz0 hz1 hz2 v (n) (xs) rfl HO1.out tx rfl (by unfold maxLen; omega) (by omega) HZ.out ?_; intro v2 w4 hown2 hgrow2 hnil2; have HZ4 : Hid (B ≤ w4.heap.size) := (by show B ≤ _; have h7 := hgrow2.size; have h8 := HZ.out; omega); have HS := Lib.hid (And.intro hown2 hgrow2); clear hown2 hgrow2 hnil2))
        go_ret
        rw [HR2.out]
        exact ⟨_, rfl, FIN2.out 76 _ _ HG.out.1, (app_below HBX.out HZ.out HO1.out HS.out.2).trans (two_below HZ4.out HS.out.1 HG.out.2)⟩
      · by_cases h8 : k = 8
        · have HR2 : Hid (eTok last ⟨k, tx, a1, l1, c1⟩ = tx.data.toList ++ [34]) := by show _ = _; unfold eTok; rw [if_neg h01, if_neg h5, if_neg hk.1, if_neg hk.2, if_pos h8]
          subst h8
          clear h01 fin2
          go_wp2_with (first
            | (at_builtin; refine wpList_append_lies _ rfl _ _ 51 rfl B 5 i0 (.int .u8 0) 1 1 Tryd.underlying51 hi hz0 hz1 hz2 rfl (by decide) v2 (n + tx.size) (xs ++ Lib.strCells tx) rfl (HS.out.1.alloc _) ⟨w4.heap.size, 0, none⟩ 1 1 [.int .u8 34] rfl rfl (row1 w4 34) (ints_one [34]) (by decide) (by unfold maxLen; omega) (by omega) (by have h8 := HZ4.out; simp; omega) (w4.heap.size + 1) (by simp) ?_; intro gg cap w3 hown' hgrow hat hltg; have HZ3 : Hid (B ≤ w3.heap.size) := (by show B ≤ _; have h7 := hgrow.size; have h8 := HZ4.out; simp at h7; omega); have HG := Lib.hid (And.intro hown' hgrow); clear hown' hgrow hat hltg)
            | (at_builtin; refine Lib.wpList_append_own_string _ rfl _ _ 51 9 rfl B 5 i0 Tryd.underlying51 Tryd.underlying9 hi hz0 hz1 hz2 v (n) (xs) rfl HO1.out tx rfl (by unfold maxLen; omega) (by omega) HZ.out ?_; intro v2 w4 hown2 hgrow2 hnil2; have HZ4 : Hid (B ≤ w4.heap.size) := (by show B ≤ _; have h7 := hgrow2.size; have h8 := HZ.out; omega); have HS := Lib.hid (And.intro hown2 hgrow2); clear hown2 hgrow2 hnil2))
          go_ret
          rw [HR2.out]
          exact ⟨_, rfl, FIN2.out 34 _ _ HG.out.1, (app_below HBX.out HZ.out HO1.out HS.out.2).trans (two_below HZ4.out HS.out.1 HG.out.2)⟩
        · by_cases h9 : k = 9
          · have HR2 : Hid (eTok last ⟨k, tx, a1, l1, c1⟩ = ePart (last == 0 || last == 1) tx.data.toList) := by show _ = _; unfold eTok; rw [if_neg h01, if_neg h5, if_neg hk.1, if_neg hk.2, if_neg h8, if_pos h9]
            subst h9
            clear h01 fin2
            by_cases l0 : last = 0
            · have g0 : (last == 0) = true := by rw [beq_iff_eq]; exact l0
              have HL : Hid ((last == 0 || last == 1) = true) := by show _ = _; rw [g0]; rfl
              clear l0
              go_wp2_with fail
              refine (partA_any B v n xs tx true W HT.out HO1.out HZ.out (by omega) (by omega)).mono ?_
              rintro e w5 ⟨v', rfl, h1, h2⟩
              have HG := Lib.hid (And.intro h1 h2)
              clear h1 h2
              go_wp2
              go_ret
              rw [HR2.out, HL.out]
              exact ⟨_, rfl, HG.out.1, HBX.out.trans (HG.out.2.below HO1.out HZ.out)⟩
            · have g0 : (last == 0) = false := by rw [beq_eq_false_iff_ne]; exact l0
              by_cases l1' : last = 1
              · have g1 : (last == 1) = true := by rw [beq_iff_eq]; exact l1'
                have HL : Hid ((last == 0 || last == 1) = true) := by show _ = _; rw [g1]; simp
                clear l0 l1'
                go_wp2_with fail
                refine (partA_any B v n xs tx true W HT.out HO1.out HZ.out (by omega) (by omega)).mono ?_
                rintro e w5 ⟨v', rfl, h1, h2⟩
                have HG := Lib.hid (And.intro h1 h2)
                clear h1 h2
                go_wp2
                go_ret
                rw [HR2.out, HL.out]
                exact ⟨_, rfl, HG.out.1, HBX.out.trans (HG.out.2.below HO1.out HZ.out)⟩
              · have g1 : (last == 1) = false := by rw [beq_eq_false_iff_ne]; exact l1'
                have HL : Hid ((last == 0 || last == 1) = false) := by show _ = _; rw [g0, g1]; rfl
                clear l0 l1'
                go_wp2_with fail
                refine (partA_any B v n xs tx false W HT.out HO1.out HZ.out (by omega) (by omega)).mono ?_
                rintro e w5 ⟨v', rfl, h1, h2⟩
                have HG := Lib.hid (And.intro h1 h2)
                clear h1 h2
                go_wp2
                go_ret
                rw [HR2.out, HL.out]
                exact ⟨_, rfl, HG.out.1, HBX.out.trans (HG.out.2.below HO1.out HZ.out)⟩
          · by_cases h10 : k = 10
            · have HR2 : Hid (eTok last ⟨k, tx, a1, l1, c1⟩ = [34]) := by show _ = _; unfold eTok; rw [if_neg h01, if_neg h5, if_neg hk.1, if_neg hk.2, if_neg h8, if_neg h9, if_pos h10]
              subst h10
              clear h01 fin2
              go_wp2_with (at_builtin; refine wpList_append_lies _ rfl _ _ 51 rfl B 5 i0 (.int .u8 0) 1 1 Tryd.underlying51 hi hz0 hz1 hz2 rfl (by decide) v (n) (xs) rfl (HO1.out.alloc _) ⟨W.heap.size, 0, none⟩ 1 1 [.int .u8 34] rfl rfl (row1 W 34) (ints_one [34]) (by decide) (by unfold maxLen; omega) (by omega) (by have h8 := HZ.out; simp; omega) (W.heap.size + 1) (by simp) ?_; intro gg cap w3 hown' hgrow hat hltg; have HZ3 : Hid (B ≤ w3.heap.size) := (by show B ≤ _; have h7 := hgrow.size; have h8 := HZ.out; simp at h7; omega); have HG := Lib.hid (And.intro hown' hgrow); clear hown' hgrow hat hltg)
              go_ret
              rw [HR2.out]
              exact ⟨_, rfl, HG.out.1, HBX.out.trans (two_below HZ.out HO1.out HG.out.2)⟩
            · have HR2 : Hid (eTok last ⟨k, tx, a1, l1, c1⟩ = tx.data.toList) := by show _ = _; unfold eTok; rw [if_neg h01, if_neg h5, if_neg hk.1, if_neg hk.2, if_neg h8, if_neg h9, if_neg h10]
              have fin : ∀ (w4 : World) (v2 : Value), w4.ownsRow B 5 1 v2 (n + tx.size) (xs ++ Lib.strCells tx) → w4.ownsRow B 5 1 v2 (n + (tx.data.toList).length) (xs ++ vb (tx.data.toList)) := by
                intro w4 v2 h
                rw [← HLEN.out]
                exact h
              have FIN := Lib.hid fin
              have b0 : (k == 0) = false := by rw [beq_eq_false_iff_ne]; omega
              have b1 : (k == 1) = false := by rw [beq_eq_false_iff_ne]; omega
              have b5 : (k == 5) = false := by rw [beq_eq_false_iff_ne]; omega
              have b6 : (k == 6) = false := by rw [beq_eq_false_iff_ne]; omega
              have b7 : (k == 7) = false := by rw [beq_eq_false_iff_ne]; omega
              have b8 : (k == 8) = false := by rw [beq_eq_false_iff_ne]; omega
              have b9 : (k == 9) = false := by rw [beq_eq_false_iff_ne]; omega
              have b10 : (k == 10) = false := by rw [beq_eq_false_iff_ne]; omega
              clear h01 h5 h8 h9 h10 hk fin fin2
              go_wp2_with (at_builtin; refine Lib.wpList_append_own_string _ rfl _ _ 51 9 rfl B 5 i0 Tryd.underlying51 Tryd.underlying9 hi hz0 hz1 hz2 v (n) (xs) rfl HO1.out tx rfl (by unfold maxLen; omega) (by omega) HZ.out ?_; intro v2 w4 hown2 hgrow2 hnil2; have HZ4 : Hid (B ≤ w4.heap.size) := (by show B ≤ _; have h7 := hgrow2.size; have h8 := HZ.out; omega); have HS := Lib.hid (And.intro hown2 hgrow2); clear hown2 hgrow2 hnil2)
              go_ret
              rw [HR2.out]
              exact ⟨_, rfl, FIN.out _ _ HS.out.1, app_below HBX.out HZ.out HO1.out HS.out.2⟩
end Go.Proofs.YtkfkgdkfgpofnaaDoor
