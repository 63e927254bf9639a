/- What an argument reads as, kind by kind, over any program: a struct's fields, a slice's elements, a pointer's target. -/
import Derived.Test.YtlipfgdjbimfjaaGreatDoorP4
import Derived.ChangeArms
import Derived.DataReads
import GoSem.ClaimJoined
namespace Go.Proofs.YtlipfgdjbimfjaaGreatDoor
open Go.RowKit
set_option maxRecDepth 100000

variable {H : Type} {enc : TypeId × Value → H} {P : Program}
/-- Cells that read as a value of a type; unfrozen, of a size that fits. -/
def Rv (enc : TypeId × Value → H) (P : Program) (W : World) (t : TypeId) (cs : List Value) : Prop :=
  ∃ fuel x, DataW.trod enc P W 0 (fun _ => true) true fuel t cs = some x ∧ W.noneFrozen x.2 ∧ ∀ n ∈ x.1.weights P t, n ≤ reachBytes
theorem weightsAll_mem {e : TypeId} : ∀ {l : List (DataW H)} {d : DataW H}, d ∈ l → ∀ n ∈ d.weights P e, n ∈ DataW.weightsAll P e l
  | [], _, h, _, _ => by cases h
  | a :: r, d, h, n, hn => by
    rw [DataW.weightsAll, List.mem_append]
    rcases List.mem_cons.1 h with rfl | h
    · exact .inl hn
    · exact .inr (weightsAll_mem h n hn)
theorem weightsEach_mem : ∀ {ts : List TypeId} {l : List (DataW H)} {i : Nat} {t : TypeId} {d : DataW H}, ts[i]? = some t → l[i]? = some d → ∀ n ∈ d.weights P t, n ∈ DataW.weightsEach P ts l
  | [], _, i, _, _, h, _, _, _ => by simp at h
  | _ :: _, [], i, _, _, _, h, _, _ => by simp at h
  | a :: ts, x :: r, 0, t, d, h1, h2, n, hn => by
    simp at h1 h2; subst h1; subst h2
    rw [DataW.weightsEach, List.mem_append]; exact .inl hn
  | a :: ts, x :: r, i + 1, t, d, h1, h2, n, hn => by
    simp at h1 h2
    rw [DataW.weightsEach, List.mem_append]; exact .inr (weightsEach_mem h1 h2 n hn)
theorem Rv.field {W : World} {t : TypeId} {cs : List Value} {fs : Array Field} (ht : P.underlying t = some (.struct fs)) (h : Rv enc P W t cs) :
    cs.length = P.cellsOf t ∧ ∀ (i : Nat) (f : Field), fs[i]? = some f → Rv enc P W f.type ((cs.drop f.offset).take (P.cellsOf f.type)) := by
  obtain ⟨fuel, x, hr, hz, hw⟩ := h
  obtain ⟨xs, n, rfl, rfl, hl, hxl, hfs⟩ := DataW.trod_struct ht hr
  refine ⟨hl, fun i f hf => ?_⟩
  have hi : i < xs.length := by rw [hxl]; exact (Array.getElem?_eq_some_iff.1 hf).1
  have h1 := hfs i f hf
  rw [List.getElem?_eq_getElem hi] at h1
  refine ⟨n, xs[i], h1, fun b off hb => hz b off (List.mem_flatMap.2 ⟨_, List.getElem_mem hi, hb⟩), fun m hm => hw m ?_⟩
  simp only [DataW.weights, ht]
  exact weightsEach_mem (i := i) (by rw [List.getElem?_map, Array.getElem?_toList, hf]; rfl) (by rw [List.getElem?_map, List.getElem?_eq_getElem hi]; rfl) m hm
theorem Rv.int {W : World} {t : TypeId} {cs : List Value} (ht : P.underlying t = some (.int .i64)) (h : Rv enc P W t cs) : ∃ n : Int, cs = [.int .i64 n] ∧ -9223372036854775808 ≤ n ∧ n ≤ 9223372036854775807 := by
  obtain ⟨fuel, x, hr, hz, hw⟩ := h
  obtain ⟨k, hk, _, wk⟩ := DataW.trod_int ht hr
  have h2 : (decide (IntKind.i64.min ≤ k) && decide (k ≤ IntKind.i64.max)) = true := wk
  rw [Bool.and_eq_true, decide_eq_true_eq, decide_eq_true_eq] at h2
  have e1 : IntKind.i64.min = -9223372036854775808 := by decide
  have e2 : IntKind.i64.max = 9223372036854775807 := by decide
  rw [e1, e2] at h2
  exact ⟨k, hk, h2⟩
theorem Rv.str {W : World} {t : TypeId} {cs : List Value} (ht : P.underlying t = some .string) (h : Rv enc P W t cs) : ∃ s : ByteArray, cs = [.string s] ∧ s.size ≤ 140737488351232 := by
  obtain ⟨fuel, x, hr, hz, hw⟩ := h
  obtain ⟨s, hs, hx, _⟩ := DataW.trod_string ht hr
  refine ⟨s, hs, ?_⟩
  subst hx
  have h1 := hw s.data.toList.length (by simp [DataW.weights])
  have h2 : s.data.toList.length = s.size := by rw [Array.length_toList]; rfl
  rw [h2] at h1
  exact h1
theorem cell_spot {w : World} {p : Addr} {v : Value} (h : w.cell? p = some v) : p.spot = none := by
  unfold World.cell? at h
  split at h
  · split at h
    · cases h
    · cases hp : p.spot with
      | none => rfl
      | some q => rename_i hq; rw [hp] at hq; simp at hq
  · cases h
theorem addr_add (b off j : Nat) : (⟨b, off, none⟩ : Addr).add j = ⟨b, off + j, none⟩ := by
  unfold Addr.add
  split
  · rename_i hj; subst hj; rfl
  · rfl
/-- A slice's elements, k cells each. -/
theorem Rv.slice {W : World} {t e : TypeId} {k : Nat} {cs : List Value} (ht : P.underlying t = some (.slice e)) (hk : P.cellsOf e = k) (hk0 : 0 < k) (h : Rv enc P W t cs) :
    ∃ a len cap, cs = [.slice a len cap] ∧ len ≤ cap ∧ len * P.bytesOf e ≤ reachBytes ∧ (0 < len → ∃ b off, a = some ⟨b, off, none⟩ ∧ b < W.heap.size ∧ ∀ i, i < len → ∃ cs' : List Value, cs'.length = k ∧ (∀ j, j < k → W.cell? ⟨b, off + i * k + j, none⟩ = cs'[j]?) ∧ Rv enc P W e cs') := by
  obtain ⟨fuel, x, hr, hz, hw⟩ := h
  rcases DataW.trod_slice ht hr with ⟨hc, _⟩ | ⟨p, len, cap, elems, rest, n, rfl, hc, rfl, _, hlc, hcm, hel, hi, _, _⟩
  · exact ⟨none, 0, 0, hc, Nat.le_refl _, by simp [reachBytes], fun h => by omega⟩
  · refine ⟨some p, len, cap, hc, hlc, ?_, fun hpos => ?_⟩
    · have h1 := hw ((elems.length + rest.length) * P.bytesOf e) (by simp only [DataW.weights, ht, List.length_map]; exact List.mem_cons_self)
      refine Nat.le_trans (Nat.mul_le_mul_right _ ?_) h1
      omega
    · have key : ∀ i, i < len → ∃ cs', W.cells? 0 (p.add (i * k)) k = some cs' ∧ DataW.trod enc P W 0 (fun _ => true) true n e cs' = some (elems.getD i (.nil, [])) := by
        intro i hlt
        have h1 := hi i hlt
        rw [hk, List.getElem?_eq_getElem (by omega)] at h1
        obtain ⟨cs', h2, h3⟩ := Option.bind_eq_some_iff.1 h1
        exact ⟨cs', h2, by rw [h3, List.getD_eq_getElem?_getD, List.getElem?_eq_getElem (by omega)]; rfl⟩
      have hc0 : ∃ v, W.cell? p = some v := by
        obtain ⟨cs', h2, _⟩ := key 0 hpos
        obtain ⟨_, hl, h3⟩ := World.cells?_some h2
        have h4 := h3 0 hk0
        rw [Nat.zero_mul] at h4
        have e1 : (p.add 0).add 0 = p := by unfold Addr.add; simp
        rw [e1, List.getElem?_eq_getElem (by omega)] at h4
        exact ⟨_, h4⟩
      obtain ⟨v, hv⟩ := hc0
      have hsp := cell_spot hv
      have hlt : p.block < W.heap.size := block_lt_of_cell hv
      obtain ⟨b, off, sp⟩ := p
      have hsp' : sp = none := hsp
      subst hsp'
      refine ⟨b, off, rfl, hlt, fun i hi2 => ?_⟩
      obtain ⟨cs', h2, h3⟩ := key i hi2
      obtain ⟨_, hl, hcell⟩ := World.cells?_some h2
      refine ⟨cs', hl, fun j hj => ?_, n, _, h3, fun b' off' hb' => hz b' off' ?_, fun m hm => hw m ?_⟩
      · have := hcell j hj
        rw [addr_add, addr_add] at this
        exact this
      · have hmem : elems.getD i (.nil, []) ∈ elems := by
          rw [List.getD_eq_getElem?_getD, List.getElem?_eq_getElem (by omega)]
          exact List.getElem_mem _
        exact List.mem_append_right _ (List.mem_flatMap.2 ⟨_, List.mem_append_left _ hmem, hb'⟩)
      · have hmem : elems.getD i (.nil, []) ∈ elems := by
          rw [List.getD_eq_getElem?_getD, List.getElem?_eq_getElem (by omega)]
          exact List.getElem_mem _
        simp only [DataW.weights, ht]
        refine List.mem_cons_of_mem _ (List.mem_append_left _ ?_)
        exact weightsAll_mem (List.mem_map.2 ⟨_, hmem, rfl⟩) m hm
/-- A pointer: nil, or to k cells. -/
theorem Rv.ptr {W : World} {t e : TypeId} {k : Nat} {cs : List Value} (ht : P.underlying t = some (.pointer e)) (hk : P.cellsOf e = k) (hk0 : 0 < k) (h : Rv enc P W t cs) :
    cs = [.pointer none] ∨ ∃ b off, cs = [.pointer (some ⟨b, off, none⟩)] ∧ b < W.heap.size ∧ ∃ cs' : List Value, cs'.length = k ∧ (∀ j, j < k → W.cell? ⟨b, off + j, none⟩ = cs'[j]?) ∧ Rv enc P W e cs' := by
  obtain ⟨fuel, x, hr, hz, hw⟩ := h
  rcases DataW.trod_pointer ht hr with ⟨hc, _⟩ | ⟨p, cs', y, n, rfl, hc, rfl, h2, h3⟩
  · exact .inl hc
  · rw [hk] at h2
    obtain ⟨_, hl, hcell⟩ := World.cells?_some h2
    have h4 := hcell 0 hk0
    have e1 : p.add 0 = p := by unfold Addr.add; simp
    rw [e1, List.getElem?_eq_getElem (by omega)] at h4
    have hsp := cell_spot h4
    have hlt : p.block < W.heap.size := block_lt_of_cell h4
    obtain ⟨b, off, sp⟩ := p
    have hsp' : sp = none := hsp
    subst hsp'
    refine .inr ⟨b, off, hc, hlt, cs', hl, fun j hj => ?_, n, _, h3, fun b' off' hb' => hz b' off' (List.mem_append_right _ hb'), fun m hm => hw m ?_⟩
    · have := hcell j hj
      rw [addr_add] at this
      exact this
    · simp only [DataW.weights, ht]
      exact hm
end Go.Proofs.YtlipfgdjbimfjaaGreatDoor
