/- FindClass: the search of the program, and the loop of the reference. -/
import Derived.Test.YtlipfgdjbimfjaaGreatDoorI0
namespace Go.Proofs.YtlipfgdjbimfjaaGreatDoor
open Go.RowKit Go.Shelf Go.Sort
set_option maxRecDepth 100000

variable {H : Type} {enc : TypeId × Value → H}
theorem fnd_yes {p : Nat → Bool} {n k : Nat} (h : p k = true) (hk : k < n) : fnd p (n - k) k = k := by
  rw [show n - k = (n - (k + 1)) + 1 by omega, fnd, if_pos h]
theorem fnd_no {p : Nat → Bool} {n k : Nat} (h : p k = false) (hk : k < n) : fnd p (n - k) k = fnd p (n - (k + 1)) (k + 1) := by
  rw [show n - k = (n - (k + 1)) + 1 by omega, fnd, if_neg (by rw [h]; decide)]
/-- What a search leaves. -/
def FndR (r : Int) (w : World) (e : Ending) (w' : World) : Prop := e = .returned (.int .i64 r) ∧ Below w.heap.size w w'

set_option maxHeartbeats 4000000 in
theorem findex (W0 : World) (cv : Value) (n : Nat) (d : Nat → ClS) (hn : n ≤ 17592186044416) (hC : CLS W0 cv n d) (ow : Int) (nm : ByteArray) (ob : Bool) (b1 b2 b3 : Nat) (w : World) (hb : Below W0.heap.size W0 w)
    (h1 : w.heap[b1]? = some (.cells #[.int .i64 ow] 3 (0, 0))) (h2 : w.heap[b2]? = some (.cells #[.string nm] 9 (0, 0))) (h3 : w.heap[b3]? = some (.cells #[.bool ob] 4 (0, 0))) :
    Calls Tryz.prog 36 #[cv, .func (.func 37) #[] #[.pointer (some ⟨b1, 0, none⟩), .pointer (some ⟨b2, 0, none⟩), .pointer (some ⟨b3, 0, none⟩)]] w (FndR (fnd (fun i => fits ow nm ob (d i)) n 0) w) := by
  obtain ⟨P, hP⟩ : ∃ P : Nat → Bool, P = fun i => fits ow nm ob (d i) := ⟨_, rfl⟩
  rw [← hP]
  obtain ⟨R, hR⟩ : ∃ R, R = fnd P n 0 := ⟨_, rfl⟩
  rw [← hR]
  have HC := Lib.hid hC
  have HP := Lib.hid hP
  have HR := Lib.hid hR
  have HB := Lib.hid hb
  have H1 := Lib.hid h1
  have H2 := Lib.hid h2
  have H3 := Lib.hid h3
  obtain ⟨va, vc, rfl, -⟩ := hC
  clear hP hR hb h1 h2 h3
  go_enter Tryz.func36, Tryz.ntmps36
  go_wp2
  go_loopg [8] (n + 1) (fun g y wr => ∃ k : Nat, k ≤ n ∧ n - k < g ∧ y = .int .i64 k ∧ Hid (R = fnd P (n - k) k) ∧ Hid (Below w.heap.size w wr))
  case atStart => exact ⟨0, by omega, by omega, rfl, HR, Lib.hid (Below.refl _ _)⟩
  case round =>
    obtain ⟨k, hk, hgk, rfl, HS, HW⟩ := hrel
    obtain ⟨m, rfl⟩ : ∃ m, gk = m + 1 := ⟨gk - 1, by omega⟩
    by_cases hlt : k < n
    · obtain ⟨a', cap', he, hr⟩ := HC.out
      injection he with e1 e2 e3
      subst e1 e3
      obtain ⟨b, off, rfl, hbs, hel⟩ := hr (by omega)
      have hbw : Below W0.heap.size W0 wr := HB.out.trans (HW.out.mono HB.out.size)
      have q : ∀ j, j < 13 → wr.cell? ⟨b, off + k * 13 + j, none⟩ = (d k).cells[j]? := fun j hj => hel wr hbw k hlt j hj
      have cc := fclo ow nm ob (d k) b1 b2 b3 wr ((HW.out.block b1 (Array.getElem?_eq_some_iff.1 H1.out).1).trans H1.out) ((HW.out.block b2 (Array.getElem?_eq_some_iff.1 H2.out).1).trans H2.out) ((HW.out.block b3 (Array.getElem?_eq_some_iff.1 H3.out).1).trans H3.out)
      obtain ⟨fb, hfb⟩ : ∃ fb, fits ow nm ob (d k) = fb := ⟨_, rfl⟩
      have HFB : Hid (P k = fb) := Lib.hid (by rw [HP.out]; exact hfb)
      rw [hfb] at cc
      have q0 : wr.cell? ⟨b, off + k * 13, none⟩ = some (.string (d k).nm) := q 0 (by decide)
      have q1 : wr.cell? ⟨b, off + k * 13 + 1, none⟩ = some (.int .i64 (d k).kd) := q 1 (by decide)
      have q2 : wr.cell? ⟨b, off + k * 13 + 2, none⟩ = some (.int .i64 (d k).fl) := q 2 (by decide)
      have q3 : wr.cell? ⟨b, off + k * 13 + 3, none⟩ = some (.int .i64 (d k).ow) := q 3 (by decide)
      have q4 : wr.cell? ⟨b, off + k * 13 + 4, none⟩ = some (.slice (d k).ta (d k).tn (d k).tc) := q 4 (by decide)
      have q5 : wr.cell? ⟨b, off + k * 13 + 5, none⟩ = some (.slice (d k).pa (d k).pn (d k).pc) := q 5 (by decide)
      have q6 : wr.cell? ⟨b, off + k * 13 + 6, none⟩ = some (.slice (d k).qa (d k).qn (d k).qc) := q 6 (by decide)
      have q7 : wr.cell? ⟨b, off + k * 13 + 7, none⟩ = some (.slice (d k).fa (d k).fn (d k).fc) := q 7 (by decide)
      have q8 : wr.cell? ⟨b, off + k * 13 + 8, none⟩ = some (.slice (d k).ma (d k).mn (d k).mc) := q 8 (by decide)
      have q9 : wr.cell? ⟨b, off + k * 13 + 9, none⟩ = some (.slice (d k).ya (d k).yn (d k).yc) := q 9 (by decide)
      have q10 : wr.cell? ⟨b, off + k * 13 + 10, none⟩ = some (.slice (d k).sa (d k).sn (d k).sc) := q 10 (by decide)
      have q11 : wr.cell? ⟨b, off + k * 13 + 11, none⟩ = some (.slice (d k).ia (d k).inn (d k).ic) := q 11 (by decide)
      have q12 : wr.cell? ⟨b, off + k * 13 + 12, none⟩ = some (.int .i64 (d k).at_) := q 12 (by decide)
      clear q hel hr hfb hbw hbs
      go_wp2_with fail
      refine cc.mono ?_
      rintro e w3 ⟨rfl, h3⟩
      have HW3 := Lib.hid (HW.out.trans (h3.mono HW.out.size))
      clear cc h3 q0 q1 q2 q3 q4 q5 q6 q7 q8 q9 q10 q11 q12
      cases fb with
      | true =>
        go_wp2
        go_ret
        exact ⟨by rw [HS.out, fnd_yes HFB.out hlt]; rfl, HW3.out⟩
      | false =>
        go_wp2
        go_roundg m
        case measure => omega
        case rel => exact ⟨k + 1, by omega, by omega, by go_num, Lib.hid (by rw [HS.out, fnd_no HFB.out hlt]), HW3⟩
    · have hke : n - k = 0 := by omega
      have HE : Hid (R = -1) := Lib.hid (by rw [HS.out, hke, fnd])
      clear hke
      go_wp2
      go_ret
      exact ⟨by rw [HE.out]; rfl, HW.out⟩

end Go.Proofs.YtlipfgdjbimfjaaGreatDoor
