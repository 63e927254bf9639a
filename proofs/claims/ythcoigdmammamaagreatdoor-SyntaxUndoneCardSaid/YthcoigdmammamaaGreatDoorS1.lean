/- The walks of count and Few. -/
import Derived.Test.YthcoigdmammamaaGreatDoorS0
import Derived.Deep.LoopGhost
import Derived.RegionTactic
import Derived.BigRegion
import Derived.StillTailTactics
import Derived.Deep.Cut
import Derived.Deep.CutRange
namespace Go.Proofs.YthcoigdmammamaaGreatDoor
open Go.RowKit
set_option maxRecDepth 100000

theorem Ls.row_of {w : World} {B : Nat} {a : Option Addr} {n c : Nat} {l : List Nd} (h : Ls w B (.slice a n c) l) (hn : 0 < l.length) :
    ∃ (b off : Nat) (vs : Nat → Value), a = some ⟨b, off, none⟩ ∧ b < B ∧ l.length ≤ c ∧ (∀ i, i < l.length → NC w b (off + i * 5) (l.getD i Nd0) (vs i)) ∧ (∀ i, i < l.length → Ls w B (vs i) (l.getD i Nd0).kids) := by
  cases h with
  | nil => exact absurd hn (by simp)
  | row b off cap l vs h1 h2 h3 h4 => exact ⟨b, off, vs, rfl, h1, h2, h3, h4⟩
/-- A variable of the kind int, as a block. -/
abbrev IB (p : Int) : Obj := .cells #[.int .i64 p] 3 (0, 0)
theorem len_nodesL (l : List Nd) : l.length ≤ nodesL l := by
  induction l with
  | nil => exact Nat.le_refl _
  | cons y r ih => show r.length + 1 ≤ y.nodes + nodesL r; rw [Nd.nodes_eq]; omega
/-- What count comes to. -/
def Cnt (B P Q : Nat) (x : Nd) (p q : Int) (w : World) (e : Ending) (w' : World) : Prop :=
  ∃ (r : Bool) (p' q' : Int), e = .returned (.bool r) ∧ w'.heap[P]? = some (IB p') ∧ w'.heap[Q]? = some (IB q') ∧ Below B w w' ∧ p' ≤ p ∧ q' ≤ q ∧
    (r = true → p' = p - x.nodes ∧ q' = q - x.bytes ∧ 0 ≤ p' ∧ 0 ≤ q')

set_option maxHeartbeats 4000000 in
theorem count_any (N : Nat) : ∀ (x : Nd) (v : Value) (B P Q : Nat) (p q : Int) (w : World), SizeOf.sizeOf x ≤ N → Ls w B v x.kids → x.text.size ≤ 140737488355328 → B ≤ P → B ≤ Q → P ≠ Q → w.heap[P]? = some (IB p) → w.heap[Q]? = some (IB q) → 0 ≤ p → p ≤ 10000 → 0 ≤ q → q ≤ 10000 →
    Calls Tryz.prog 15 #[nv x v, .pointer (some ⟨P, 0, none⟩), .pointer (some ⟨Q, 0, none⟩)] w (Cnt B P Q x p q w) := by
  induction N with
  | zero => intro x v B P Q p q w hN; cases x; simp at hN
  | succ N ih =>
    intro x v B P Q p q w hN hl hsz hBP hBQ hPQ hP hQ hp0 hp1 hq0 hq1
    obtain ⟨va, vc, rfl⟩ := hl.slice
    have HL := Lib.hid hl
    have HN := Lib.hid hN
    have hlP := lt_of_block hP
    have hlQ := lt_of_block hQ
    have hB : B ≤ w.heap.size := by omega
    have a1 : IntKind.i64.wrap (p - 1) = p - 1 := IntWalk.i64_in _ (by omega)
    have a2 : IntKind.i64.wrap (q - (x.text.size : Int)) = q - (x.text.size : Int) := IntWalk.i64_in _ (by omega)
    have hbP : (w.alloc (NB x (.slice va x.kids.length vc))).heap[P]? = some (IB p) := by rw [Below.heap_alloc _ _ _ hlP]; exact hP
    have hbQ : (w.alloc (NB x (.slice va x.kids.length vc))).heap[Q]? = some (IB q) := by rw [Below.heap_alloc _ _ _ hlQ]; exact hQ
    have p0 := blk_cell hbP 0
    have p1 := blk_free hbP 0
    have q0 := blk_cell hbQ 0
    have q1 := blk_free hbQ 0
    have hn := alloc_blk w (NB x (.slice va x.kids.length vc))
    have e0 := blk_cell hn 0
    have e1 := blk_cell hn 1
    have e2 := blk_cell hn 2
    have e3 := blk_cell hn 3
    have e4 := blk_cell hn 4
    have hsz1 : (w.setCell ⟨P, 0, none⟩ (.int .i64 (p - 1))).heap.size = w.heap.size := by simp [World.setCell]
    have h1P : ((w.setCell ⟨P, 0, none⟩ (.int .i64 (p - 1))).alloc (NB x (.slice va x.kids.length vc))).heap[P]? = some (IB (p - 1)) := by rw [Below.heap_alloc _ _ _ (by omega)]; exact blk_set hP 0 _
    have h1Q : ((w.setCell ⟨P, 0, none⟩ (.int .i64 (p - 1))).alloc (NB x (.slice va x.kids.length vc))).heap[Q]? = some (IB q) := by rw [Below.heap_alloc _ _ _ (by omega), Below.heap_setCell _ _ _ _ (fun e => hPQ e.symm)]; exact hQ
    have h1n : ((w.setCell ⟨P, 0, none⟩ (.int .i64 (p - 1))).alloc (NB x (.slice va x.kids.length vc))).heap[w.heap.size]? = some (NB x (.slice va x.kids.length vc)) := by
      have h := alloc_blk (w.setCell ⟨P, 0, none⟩ (.int .i64 (p - 1))) (NB x (.slice va x.kids.length vc))
      rw [hsz1] at h; exact h
    have HB1 : Hid (Below B w ((w.setCell ⟨P, 0, none⟩ (.int .i64 (p - 1))).alloc (NB x (.slice va x.kids.length vc)))) := (Below.setCell (Below.refl B w) hBP _).alloc (by omega) _
    clear hl hN hbP hbQ hn hP hQ
    go_enter Tryz.func15, Tryz.ntmps15
    go_wp2
    clear p0 p1 q0 q1 e0 e1 e2 e3 e4
    generalize (w.setCell ⟨P, 0, none⟩ (.int .i64 (p - 1))).alloc (NB x (.slice va x.kids.length vc)) = w1 at *
    have h2P : (w1.setCell ⟨Q, 0, none⟩ (.int .i64 (q - (x.text.size : Int)))).drew.heap[P]? = some (IB (p - 1)) := by show (w1.setCell _ _).heap[P]? = _; rw [Below.heap_setCell _ _ _ _ (by exact hPQ)]; exact h1P
    have h2Q : (w1.setCell ⟨Q, 0, none⟩ (.int .i64 (q - (x.text.size : Int)))).drew.heap[Q]? = some (IB (q - (x.text.size : Int))) := blk_set (w := w1) h1Q 0 _
    have h2n : (w1.setCell ⟨Q, 0, none⟩ (.int .i64 (q - (x.text.size : Int)))).drew.heap[w.heap.size]? = some (NB x (.slice va x.kids.length vc)) := by show (w1.setCell _ _).heap[w.heap.size]? = _; rw [Below.heap_setCell _ _ _ _ (by show w.heap.size ≠ Q; omega)]; exact h1n
    have HB2 : Hid (Below B w (w1.setCell ⟨Q, 0, none⟩ (.int .i64 (q - (x.text.size : Int)))).drew) := (Below.setCell HB1.out hBQ _).drew
    have q0 := blk_cell h1Q 0
    have q1 := blk_free h1Q 0
    have e0 := blk_cell h1n 0
    have e1 := blk_cell h1n 1
    have e2 := blk_cell h1n 2
    have e3 := blk_cell h1n 3
    have e4 := blk_cell h1n 4
    have HQ1 := Lib.hid h1Q
    clear h1P h1Q h1n
    go_still_tail 8, (by kernel_rfl)
    change wpList _ _ _ _ _ (World.drew _)
    go_upto_region 3 with fail
    clear q0 q1 e0 e1 e2 e3 e4
    generalize (w1.setCell ⟨Q, 0, none⟩ (.int .i64 (q - (x.text.size : Int)))).drew = w2 at *
    have p0 := blk_cell h2P 0
    have p1 := blk_free h2P 0
    have q0 := blk_cell h2Q 0
    have q1 := blk_free h2Q 0
    have e3 := blk_cell h2n 3
    have HP2 := Lib.hid h2P
    have HQ2 := Lib.hid h2Q
    clear h2P h2Q h2n HQ1
    by_cases hpn : p - 1 < 0
    · have d1 : decide (p - 1 < 0) = true := by simp; omega
      clear hpn
      go_wp2
      go_ret
      exact ⟨false, p - 1, q - x.text.size, rfl, HP2.out, HQ2.out, HB2.out, by omega, by omega, by simp⟩
    · have d1 : decide (p - 1 < 0) = false := by simp; omega
      by_cases hqn : q - (x.text.size : Int) < 0
      · have d2 : decide (q - (x.text.size : Int) < 0) = true := by simp; omega
        clear hpn hqn
        go_wp2
        go_ret
        exact ⟨false, p - 1, q - x.text.size, rfl, HP2.out, HQ2.out, HB2.out, by omega, by omega, by simp⟩
      · have d2 : decide (q - (x.text.size : Int) < 0) = false := by simp; omega
        have HPN : Hid (0 ≤ p - 1 ∧ 0 ≤ q - (x.text.size : Int)) := ⟨by omega, by omega⟩
        clear hpn hqn
        go_wp2
        clear p0 p1 q0 q1 e3 d1 d2
        go_loopg [35] (x.kids.length + 1) (fun n y wr => ∃ (i : Nat) (p1 q1 : Int), i ≤ x.kids.length ∧ x.kids.length - i < n ∧ y = .int .i64 i ∧ 0 ≤ p1 ∧ 0 ≤ q1 ∧ Hid (p1 = p - 1 - nodesL (x.kids.take i)) ∧ Hid (q1 = q - x.text.size - bytesL (x.kids.take i)) ∧ Hid (Below B w wr) ∧ Hid (wr.heap[P]? = some (IB p1)) ∧ Hid (wr.heap[Q]? = some (IB q1)))
        case atStart => exact ⟨0, p - 1, q - x.text.size, by omega, by omega, rfl, HPN.out.1, HPN.out.2, (by show _ = _; simp [nodesL]), (by show _ = _; simp [bytesL]), HB2, HP2, HQ2⟩
        case round =>
          obtain ⟨i, p1, q1, hi, hgk, rfl, hp1', hq1', HEP, HEQ, HW, HPr, HQr⟩ := hrel
          obtain ⟨n, rfl⟩ : ∃ n, gk = n + 1 := ⟨gk - 1, by omega⟩
          have hp2 : p1 ≤ 10000 := by have := HEP.out; omega
          have hq2 : q1 ≤ 10000 := by have := HEQ.out; omega
          have hi1 : i ≤ 10000 := by
            have h1 := HEP.out
            have h2 := len_nodesL (x.kids.take i)
            rw [List.length_take] at h2
            omega
          have hlt1 := HW.out.size
          by_cases hlt : i < x.kids.length
          · obtain ⟨b, off, vs, rfl, hb, hcap, hnc, hls⟩ := HL.out.row_of (by omega)
            have hii : (i : Int) < (x.kids.length : Int) := by omega
            have hi0 : (0 : Int) ≤ (i : Int) := by omega
            have hk := (hnc i hlt).of (HW.out.block _ hb)
            have hks := (hls i hlt).bel HW.out
            have hsk := Nd.size_kid hlt
            have htk := nd_take hlt
            clear hnc hls
            generalize vs i = kv at *
            generalize x.kids.getD i Nd0 = k at *
            obtain ⟨ka, kc, rfl⟩ := hks.slice
            obtain ⟨t0, t1, t2, t3, t4, t5⟩ := hk
            have HKS := Lib.hid hks
            have HTK := Lib.hid htk
            clear hks htk
            have hbk := alloc_blk wr (NB k (.slice ka k.kids.length kc))
            have HB3 : Hid (Below B w (wr.alloc (NB k (.slice ka k.kids.length kc)))) := HW.out.alloc (by omega) _
            have HP3 : Hid ((wr.alloc (NB k (.slice ka k.kids.length kc))).heap[P]? = some (IB p1)) := by show _ = _; rw [Below.heap_alloc _ _ _ (by omega)]; exact HPr.out
            have HQ3 : Hid ((wr.alloc (NB k (.slice ka k.kids.length kc))).heap[Q]? = some (IB q1)) := by show _ = _; rw [Below.heap_alloc _ _ _ (by omega)]; exact HQr.out
            have HKS3 : Hid (Ls (wr.alloc (NB k (.slice ka k.kids.length kc))) B (.slice ka k.kids.length kc) k.kids) := HKS.out.bel ((Below.refl B wr).alloc (by omega) _)
            have HBK := Lib.hid hbk
            clear hbk
            go_upto_region 8 with fail
            clear t0 t1 t2 t3 t4
            generalize wr.alloc (NB k (.slice ka k.kids.length kc)) = w3 at *
            have e0 := blk_cell HBK.out 0
            have e1 := blk_cell HBK.out 1
            have e2 := blk_cell HBK.out 2
            have e3 := blk_cell HBK.out 3
            have e4 := blk_cell HBK.out 4
            generalize wr.heap.size = g at *
            have hsn : SizeOf.sizeOf k ≤ N := by have := HN.out; omega
            go_wp2_with (go_at_call 15; refine (ih k _ B P Q p1 q1 w3 hsn HKS3.out t5.sz hBP hBQ hPQ HP3.out HQ3.out hp1' hp2 hq1' hq2).mono ?_; rintro e w4 ⟨r, p2, q2, rfl, hP4, hQ4, hB4, hp4, hq4, hr4⟩; have HP4 := Lib.hid hP4; have HQ4 := Lib.hid hQ4; have HR4 := Lib.hid hr4; clear hP4 hQ4 hr4; rcases r with _ | _)
            · go_ret
              refine ⟨false, p2, q2, rfl, HP4.out, HQ4.out, HB3.out.trans hB4, ?_, ?_, by simp⟩
              · have := HEP.out; omega
              · have := HEQ.out; omega
            · go_roundg n
              case measure => omega
              case rel =>
                obtain ⟨h1, h2, h3, h4⟩ := HR4.out trivial
                refine ⟨i + 1, p2, q2, by omega, by omega, by go_num, h3, h4, ?_, ?_, HB3.out.trans hB4, HP4, HQ4⟩
                · have h5 := HEP.out
                  show _ = _
                  rw [HTK.out, nodesL_app]
                  omega
                · have h5 := HEQ.out
                  show _ = _
                  rw [HTK.out, bytesL_app]
                  omega
          · have he : i = x.kids.length := by omega
            subst he
            go_wp2
            go_ret
            refine ⟨true, p1, q1, rfl, HPr.out, HQr.out, HW.out, ?_, ?_, ?_⟩
            · have := HEP.out; omega
            · have := HEQ.out; omega
            · intro _
              have h1 := HEP.out
              have h2 := HEQ.out
              rw [List.take_length] at h1 h2
              have h3 := x.nodes_eq
              have h4 := x.bytes_eq
              refine ⟨by omega, by omega, hp1', hq1'⟩
end Go.Proofs.YthcoigdmammamaaGreatDoor
