/- The walk of quoted. -/
import Derived.Test.YtkfkgdkfgpofnaaDoorA4
import Derived.Deep.LoopGhost
import Derived.Deep.AppendLies
import Derived.Laws.BytesArg
namespace Go.Proofs.YtkfkgdkfgpofnaaDoor
open Go.RowKit
set_option maxRecDepth 100000

/-- Does the byte end the literal? -/
def stopB (stops : ByteArray) (c : Nat) : Bool := decide (0 ≤ Lib.indexByte stops.data.toList c.toUInt8)
def sidx (stops : ByteArray) (c : Nat) : Int := Lib.indexByte stops.data.toList c.toUInt8
theorem sidx_any (stops : ByteArray) (c : Nat) (w : World) : Calls Tryd.prog 68 #[.string stops, .int .u8 c] w fun e w' => e = .returned (.int .i64 (sidx stops c)) ∧ w = w' :=
  (Tryd.strings_IndexByte _ _ _).mono fun _ _ ⟨h1, h2⟩ => ⟨h1, h2.symm⟩

/-- The bytes up to a stop, and its place. -/
def mquotF (s stops : ByteArray) : Nat → Nat → List Int → Option (List Int × Nat)
  | 0, _, _ => none
  | n + 1, p, acc =>
    if p < s.size then
      if sidx stops (bt s p) < 0 then
        match mchar s p with
        | none => none
        | some (v, q) => mquotF s stops n q (acc ++ [v])
      else some (acc, p)
    else none
def mquoted (s : ByteArray) (p : Nat) (stops : ByteArray) : Option (List Int × Nat) := mquotF s stops (s.size - p + 1) p []
theorem info5 : (Tryd.prog.info? 5).map (fun i => (i.zero, i.size, i.bytes)) = some (some (.int .u8 0), 1, 1) := by kernel_rfl
theorem mhex_bd (s : ByteArray) (p : Nat) (v : Int) (h : mhex s p = some v) : p < s.size := by
  unfold mhex at h; split at h
  · rename_i hc; exact hc.1
  · cases h
theorem mescape_bd (s : ByteArray) (p : Nat) (v : Int) (q : Nat) (h : mescape s p = some (v, q)) : p < q ∧ q ≤ s.size := by
  unfold mescape at h
  split at h
  · split at h
    · simp at h; omega
    · split at h
      · simp at h; omega
      · split at h
        · simp at h; omega
        · split at h
          · split at h
            · cases h
            · split at h
              · cases h
              · rename_i hl; have := mhex_bd _ _ _ hl; simp at h; omega
          · cases h
  · cases h
theorem mchar_bd (s : ByteArray) (p : Nat) (v : Int) (q : Nat) (hp : p < s.size) (h : mchar s p = some (v, q)) : p < q ∧ q ≤ s.size := by
  unfold mchar at h
  split at h
  · cases h
  · split at h
    · have := mescape_bd _ _ _ _ h; omega
    · simp at h; omega

/-- What quoted comes to. -/
def Qt (b : Nat) (s : ByteArray) (line beg : Nat) (vo vp : Value) (st : Int) (r : Option (List Int × Nat)) (w : World) (e : Ending) (w' : World) : Prop :=
  match r with
  | some (l, q) => e = .returned (.string (strOfNums l)) ∧ w'.heap[b]? = some (RB s q line beg vo vp) ∧ Fr b w w'
  | none => e = .panicked [{ v := .iface 26 (.agg #[.int .i64 st, .int .i64 27]), recovered := false }] ∧ Fr b w w'

theorem conv_own {w : World} {base : Nat} {v : Value} {xs : List Int} (h : w.ownsRow base 5 1 v xs.length (xs.map (Value.int .u8))) : (convert 51 9 v).run Tryd.prog w = .ok (.string (strOfNums xs)) w := by
  rcases h.2 with ⟨rfl, h0⟩ | ⟨g, cap, cur, rfl, hb, hg, h1, h2, h3, h4⟩
  · have : xs = [] := List.eq_nil_of_length_eq_zero h0
    subst this
    exact run_convert_bytes_nil w 51 5 Tryd.underlying51 Tryd.underlying5 0 0 9 Tryd.underlying9
  · refine run_convert_bytes_arg w 51 5 Tryd.underlying51 Tryd.underlying5 g 0 xs.length cap xs rfl ?_ 9 Tryd.underlying9
    intro i hi
    have hc : (xs.map (Value.int .u8))[i]? = some (.int .u8 (xs.getD i 0)) := by
      simp [List.getElem?_eq_getElem hi, List.getD]
    rw [← h4, List.getElem?_take] at hc
    rw [Nat.zero_add, cell_of_row w g i cur 5 (0, 0) hg]
    split at hc
    · simpa using hc
    · cases hc

theorem quot_step {b : Nat} {w w1 w3 : World} {o : Obj} {v : Value} {n : Nat} {xs : List Value} {l g : Nat} {s : ByteArray} {q : Nat} {vo vp : Value} (hbw : b < w.heap.size) (hf : Fr b w w1) (hb : w1.heap[b]? = some (RB s q l g vo vp)) (ho : w1.ownsRow w.heap.size 5 1 v n xs)
    (hg : (w1.alloc o).grownBy w3 v.ownBlock) : w3.heap[b]? = some (RB s q l g vo vp) ∧ Fr b w w3 := by
  have hsz := hf.size
  have hz : (w1.alloc o).heap.size = w1.heap.size + 1 := by simp
  have ne : ∀ k, k < w.heap.size → some k ≠ v.ownBlock := fun k hk e => by have := (ho.lt k e.symm).1; omega
  refine ⟨?_, hg.os.trans hf.os, hg.tape.trans hf.tape, hg.output.trans hf.output, by have := hg.size; omega, fun k hk hr => ?_⟩
  · rw [hg.block b (by omega) (ne b hbw), Below.heap_alloc _ _ _ (by omega)]; exact hb
  · rw [hg.block k (by omega) (ne k hk), Below.heap_alloc _ _ _ (by omega)]; exact hf.block k hk hr

set_option maxHeartbeats 2000000 in
theorem quoted_any (b : Nat) (s : ByteArray) (p line beg : Nat) (vo vp : Value) (st : Int) (q0 : Nat) (stops : ByteArray) (w : World) (hb : w.heap[b]? = some (RB s p line beg vo vp)) (hq : q0 ≤ s.size) (hs : s.size < 100000) :
    Calls Tryd.prog 54 #[.pointer (some ⟨b, 0, none⟩), .int .i64 st, .int .i64 q0, .string stops] w (Qt b s line beg vo vp st (mquoted s q0 stops) w) := by
  obtain ⟨c0, c1, c2, c3, c4, c5, f1, f2, f3, f4, f5⟩ := rc hb
  obtain ⟨i0, hi, hz0, hz1, hz2⟩ := info_parts info5
  have HB := Lib.hid hb
  have hbw := lt_of_block hb
  clear hb
  go_enter Tryd.func54, Tryd.ntmps54
  go_wp2
  clear c0 c1 c2 c3 c4 c5 f1 f2 f3 f4 f5
  go_loopg [9] (s.size - q0 + 1) (fun n v wr => ∃ (k : Nat) (acc : List Int), k ≤ s.size ∧ s.size - k < n ∧ acc.length ≤ k ∧ Hid (mquotF s stops n k acc = mquoted s q0 stops) ∧ Hid (wr.heap[b]? = some (RB s k line beg vo vp)) ∧ Hid (Fr b w wr) ∧ Hid (wr.ownsRow w.heap.size 5 1 v acc.length (acc.map (Value.int .u8))))
  case atStart => exact ⟨q0, [], hq, by omega, by simp, rfl, rb_at HB.out q0, (Fr.refl _ _).set _ _, World.ownsRow_nil _ _ _ _⟩
  case round =>
    obtain ⟨k, acc, hk, hn, hacc, HK, HB1, HF, HO⟩ := hrel
    obtain ⟨n, rfl⟩ : ∃ n, gk = n + 1 := ⟨gk - 1, by omega⟩
    obtain ⟨c0, c1, c2, c3, c4, c5, f1, f2, f3, f4, f5⟩ := rc HB1.out
    by_cases hlt : k < s.size
    · have e := bt_eq s k hlt
      by_cases hx : sidx stops (bt s k) < 0
      · go_wp2
        go_quiet ((go_at_call 68; exact quiet_left (sidx_any _ _ _)))
        go_wp2_with fail
        refine (character_any b s k line beg vo vp st _ (by exact HB1.out) hlt (by omega)).mono ?_
        intro e1 w1 h1
        rcases hm : mchar s k with _ | ⟨v, q⟩
        · have HK' : Hid (mquoted s q0 stops = none) := by
            have := HK.out; simp only [mquotF, hlt, hx, hm, if_true] at this; exact this.symm
          rw [hm] at h1
          obtain ⟨rfl, hf1⟩ := h1
          refine ⟨rfl, ?_⟩
          rw [HK'.out]
          exact ⟨rfl, (HF.out.drewN _).trans hf1⟩
        · have HK' : Hid (mquotF s stops n q (acc ++ [v]) = mquoted s q0 stops) := by
            have := HK.out; simp only [mquotF, hlt, hx, hm, if_true] at this; exact this
          rw [hm] at h1
          obtain ⟨rfl, hb1, hf1⟩ := h1
          have hqb := mchar_bd s k v q hlt hm
          have HB2 := Lib.hid hb1
          have HF2 := Lib.hid ((HF.out.drewN nq).trans hf1)
          have HO2 : Hid (w1.ownsRow w.heap.size 5 1 u9 acc.length (acc.map (Value.int .u8))) := (show (wr.drewN nq).ownsRow w.heap.size 5 1 u9 acc.length (acc.map (Value.int .u8)) from HO.out).kept hf1 (Or.inr (fun e => by have := (HO.out.lt b e).1; omega))
          have hsz : w.heap.size ≤ w1.heap.size := HF2.out.size
          clear hb1 hf1 hm c0 c1 c2 c3 c4 c5 f1 f2 f3 f4 f5
          go_wp2_with (at_builtin; refine wpList_append_lies _ rfl _ _ 51 rfl w.heap.size 5 i0 (.int .u8 0) 1 1 Tryd.underlying51 hi hz0 hz1 hz2 rfl (by decide) _ acc.length (acc.map (Value.int .u8)) rfl (HO2.out.alloc _) ⟨w1.heap.size, 0, none⟩ 1 1 [.int .u8 v] rfl rfl (cell_one_new _ _ _) (by intro u hu; simp at hu; subst hu; rfl) (by decide) (by unfold maxLen; omega) (by omega) (by simp; omega) (w1.heap.size + 1) (by simp) ?_; intro gg cap w3 hown' hgrow hat hltg)
          have hst := quot_step hbw HF2.out HB2.out HO2.out hgrow
          go_roundg n
          case measure => omega
          case rel => exact ⟨q, acc ++ [v], hqb.2, by omega, by simp; omega, HK', hst.1, hst.2, (by have h := hown'; rw [show acc.length + 1 = (acc ++ [v]).length from by simp, show acc.map (Value.int .u8) ++ [Value.int .u8 v] = (acc ++ [v]).map (Value.int .u8) from by simp] at h; simpa using h : World.ownsRow _ _ _ _ _ _ _)⟩
      · have HK' : Hid (mquoted s q0 stops = some (acc, k)) := by
          have := HK.out; simp only [mquotF, hlt, hx, if_true, if_false] at this; exact this.symm
        have t0 : ((k : Int) == s.size) = false := by rw [beq_eq_false_iff_ne]; omega
        have hconv : ∀ n, (convert 51 9 u9).run Tryd.prog (wr.drewN n) = .ok (.string (strOfNums acc)) (wr.drewN n) := fun n => conv_own (base := w.heap.size) (by exact HO.out)
        go_wp2
        go_quiet ((go_at_call 68; exact quiet_left (sidx_any _ _ _)))
        go_wp2
        go_quiet (fail)
        go_wp2
        go_ret
        rw [HK'.out]
        exact ⟨rfl, HB1.out, HF.out.drewN _⟩
    · have HK' : Hid (mquoted s q0 stops = none) := by
        have := HK.out; simp only [mquotF, hlt, if_false] at this; exact this.symm
      have t0 : ((k : Int) == s.size) = true := by rw [beq_iff_eq]; omega
      have t1 : decide ((k : Int) < s.size) = false := by simp; omega
      go_wp2
      go_quiet (fail)
      go_wp2
      go_quiet (fail)
      go_wp2_with (go_at_call 18; refine (fail_any _ _ _).mono ?_; rintro e w' ⟨rfl, rfl⟩)
      refine ⟨rfl, ?_⟩
      rw [HK'.out]
      exact ⟨rfl, HF.out.drewN _⟩
end Go.Proofs.YtkfkgdkfgpofnaaDoor
