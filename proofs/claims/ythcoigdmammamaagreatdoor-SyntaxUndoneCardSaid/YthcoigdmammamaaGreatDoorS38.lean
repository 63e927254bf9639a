/- An argument that is a tree: what is read is a tree in memory. -/
import Derived.Test.YthcoigdmammamaaGreatDoorS0
import Derived.ChangeArms
import Derived.DataReads
import GoSem.ClaimJoined
namespace Go.Proofs.YthcoigdmammamaaGreatDoor
open Go.RowKit
set_option maxRecDepth 100000

theorem cells24 : Tryz.prog.cellsOf 24 = 5 := by kernel_rfl
theorem cells22 : Tryz.prog.cellsOf 22 = 1 := by kernel_rfl
theorem cells9 : Tryz.prog.cellsOf 9 = 1 := by kernel_rfl
theorem cells3 : Tryz.prog.cellsOf 3 = 1 := by kernel_rfl
theorem cells2 : Tryz.prog.cellsOf 2 = 1 := by kernel_rfl

theorem wf_i64 {n : Int} (h : (Lit.int .i64 n).wf = true) : -9223372036854775808 ≤ n ∧ n ≤ 9223372036854775807 := by
  have h2 : (decide (IntKind.i64.min ≤ n) && decide (n ≤ IntKind.i64.max)) = true := h
  rw [Bool.and_eq_true, decide_eq_true_eq, decide_eq_true_eq] at h2
  have e1 : IntKind.i64.min = -9223372036854775808 := by decide
  have e2 : IntKind.i64.max = 9223372036854775807 := by decide
  rw [e1, e2] at h2
  exact h2
theorem weightsAll_mem {H : Type} {P : Program} {e : TypeId} : ∀ {l : List (DataW H)} {d : DataW H}, d ∈ l → ∀ n ∈ d.weights P e, n ∈ DataW.weightsAll P e l
  | [], _, h, _, _ => by cases h
  | a :: r, d, h, n, hn => by
    rw [DataW.weightsAll, List.mem_append]
    rcases List.mem_cons.1 h with rfl | h
    · exact .inl hn
    · exact .inr (weightsAll_mem h n hn)
theorem five {α : Type} {l : List α} (h : l.length = 5) : ∃ a b c d e, l = [a, b, c, d, e] := by
  match l, h with
  | [a, b, c, d, e], _ => exact ⟨a, b, c, d, e, rfl⟩

variable {H : Type} {enc : TypeId × Value → H}
/-- What a reading gives. -/
theorem tree_of (W : World) (N : Nat) : ∀ (fuel : Nat), fuel ≤ N → ∀ (cs : List Value) (x : DataW H × List MemPlace), DataW.trod enc Tryz.prog W 0 (fun _ => true) true fuel 24 cs = some x → W.noneFrozen x.2 → (∀ n ∈ x.1.weights Tryz.prog 24, n ≤ reachBytes) →
    ∃ (k : Int) (s : ByteArray) (m : Int) (v : Value) (a : Int) (l : List Nd), cs = [.int .i64 k, .string s, .int .i64 m, v, .int .i64 a] ∧ (Nd.mk k s m l a).ok ∧ Ls W W.heap.size v l := by
  induction N with
  | zero =>
    intro fuel hf cs x h
    obtain rfl : fuel = 0 := by omega
    simp [DataW.trod] at h
  | succ N ih =>
    intro fuel hf cs x h hfz hw
    obtain ⟨xs, n, rfl, rfl, hl, hxl, hfs⟩ := DataW.trod_struct Tryz.underlying24 h
    rw [cells24] at hl
    obtain ⟨c0, c1, c2, c3, c4, rfl⟩ := five hl
    obtain ⟨y0, y1, y2, y3, y4, rfl⟩ := five hxl
    have f0 : DataW.trod enc Tryz.prog W 0 (fun _ => true) true n 3 (([c0, c1, c2, c3, c4].drop 0).take (Tryz.prog.cellsOf 3)) = some y0 := hfs 0 _ rfl
    have f1 : DataW.trod enc Tryz.prog W 0 (fun _ => true) true n 9 (([c0, c1, c2, c3, c4].drop 1).take (Tryz.prog.cellsOf 9)) = some y1 := hfs 1 _ rfl
    have f2 : DataW.trod enc Tryz.prog W 0 (fun _ => true) true n 2 (([c0, c1, c2, c3, c4].drop 2).take (Tryz.prog.cellsOf 2)) = some y2 := hfs 2 _ rfl
    have f3 : DataW.trod enc Tryz.prog W 0 (fun _ => true) true n 22 (([c0, c1, c2, c3, c4].drop 3).take (Tryz.prog.cellsOf 22)) = some y3 := hfs 3 _ rfl
    have f4 : DataW.trod enc Tryz.prog W 0 (fun _ => true) true n 3 (([c0, c1, c2, c3, c4].drop 4).take (Tryz.prog.cellsOf 3)) = some y4 := hfs 4 _ rfl
    rw [cells3] at f0 f4
    rw [cells9] at f1
    rw [cells2] at f2
    rw [cells22] at f3
    replace f0 : DataW.trod enc Tryz.prog W 0 (fun _ => true) true n 3 [c0] = some y0 := f0
    replace f1 : DataW.trod enc Tryz.prog W 0 (fun _ => true) true n 9 [c1] = some y1 := f1
    replace f2 : DataW.trod enc Tryz.prog W 0 (fun _ => true) true n 2 [c2] = some y2 := f2
    replace f3 : DataW.trod enc Tryz.prog W 0 (fun _ => true) true n 22 [c3] = some y3 := f3
    replace f4 : DataW.trod enc Tryz.prog W 0 (fun _ => true) true n 3 [c4] = some y4 := f4
    obtain ⟨k, hk, hy0, wk⟩ := DataW.trod_int Tryz.underlying3 f0
    obtain ⟨s, hs, hy1, ws⟩ := DataW.trod_string Tryz.underlying9 f1
    obtain ⟨m, hm, hy2, wm⟩ := DataW.trod_int Tryz.underlying2 f2
    obtain ⟨a, ha, hy4, wa⟩ := DataW.trod_int Tryz.underlying3 f4
    injection hk with hk _
    injection hs with hs _
    injection hm with hm _
    injection ha with ha _
    subst hk hs hm ha hy0 hy1 hy2 hy4
    have hwe : ∀ z ∈ DataW.weightsEach Tryz.prog [3, 9, 2, 22, 3] [DataW.lit (Lit.int .i64 k), DataW.lit (.string s.data.toList), DataW.lit (.int .i64 m), y3.1, DataW.lit (.int .i64 a)], z ≤ reachBytes := by
      intro z hz
      refine hw z ?_
      simp only [List.map_cons, List.map_nil, DataW.weights, Tryz.underlying24]
      exact hz
    have hsz : s.size ≤ 140737488351232 := by
      have h1 := hwe s.data.toList.length (by simp [DataW.weightsEach, DataW.weights])
      have h2 : s.data.toList.length = s.size := by rw [Array.length_toList]; rfl
      rw [h2] at h1
      exact h1
    have hw3 : ∀ z ∈ y3.1.weights Tryz.prog 22, z ≤ reachBytes := fun z hz => hwe z (by simp only [DataW.weightsEach, List.mem_append]; exact .inr (.inr (.inr (.inl hz))))
    have hz3 : W.noneFrozen y3.2 := fun b off hb => hfz b off (by simp only [List.flatMap_cons, List.mem_append]; exact .inr (.inr (.inr (.inl hb))))
    have hok : ∀ l, (Nd.mk k s m l a).ok := fun l => ⟨Nat.le_trans hsz (by decide), (wf_i64 wk).1, (wf_i64 wk).2, (wf_i64 wm).1, (wf_i64 wm).2, (wf_i64 wa).1, (wf_i64 wa).2⟩
    rcases DataW.trod_slice Tryz.underlying22 f3 with ⟨hc, _⟩ | ⟨p, len, cap, elems, rest, n', rfl, hc, rfl, _, hlc, hcm, hel, hi, _, _⟩
    · injection hc with hc _
      subst hc
      exact ⟨k, s, m, _, a, [], rfl, hok [], .nil _ _⟩
    · injection hc with hc _
      subst hc
      rw [cells24] at hi hz3
      by_cases h0 : len = 0
      · subst h0
        exact ⟨k, s, m, _, a, [], rfl, hok [], .nil _ _⟩
      · have key : ∀ i, i < len → ∃ cs', W.cells? 0 (p.add (i * 5)) 5 = some cs' ∧ DataW.trod enc Tryz.prog W 0 (fun _ => true) true n' 24 cs' = some (elems.getD i (.nil, [])) := by
          intro i hlt
          have h1 := hi i hlt
          rw [List.getElem?_eq_getElem (by omega)] at h1
          obtain ⟨cs', h2, h3⟩ := Option.bind_eq_some_iff.1 h1
          exact ⟨cs', h2, by rw [h3, List.getD_eq_getElem?_getD, List.getElem?_eq_getElem (by omega)]; rfl⟩
        have hsp : p.spot = none := by
          obtain ⟨cs', h2, _⟩ := key 0 (by omega)
          obtain ⟨_, hl5, h3⟩ := World.cells?_some h2
          have h4 := h3 0 (by omega)
          obtain ⟨u0, u1, u2, u3, u4, rfl⟩ := five hl5
          rw [Nat.zero_mul] at h4
          have e1 : (p.add 0).add 0 = p := by unfold Addr.add; simp
          rw [e1] at h4
          unfold World.cell? at h4
          split at h4
          · split at h4
            · cases h4
            · cases hp : p.spot with
              | none => rfl
              | some q => rename_i hq; rw [hp] at hq; simp at hq
          · cases h4
        obtain ⟨b, off, sp⟩ := p
        have hsp' : sp = none := hsp
        subst hsp'
        have hadd : ∀ j, (⟨b, off, none⟩ : Addr).add j = ⟨b, off + j, none⟩ := by
          intro j
          unfold Addr.add
          split
          · rename_i hj; subst hj; rfl
          · rfl
        have each : ∀ i : Nat, ∃ z : Nd × Value, i < len → NC W b (off + i * 5) z.1 z.2 ∧ Ls W W.heap.size z.2 z.1.kids ∧ b < W.heap.size := by
          intro i
          by_cases hlt : i < len
          · obtain ⟨cs', h2, h3⟩ := key i hlt
            have hmem : elems.getD i (.nil, []) ∈ elems := by
              rw [List.getD_eq_getElem?_getD, List.getElem?_eq_getElem (by omega)]
              exact List.getElem_mem _
            obtain ⟨k', s', m', v', a', l', rfl, ok', ls'⟩ := ih n' (by omega) cs' _ h3
              (fun b' off' hb => hz3 b' off' (by
                refine List.mem_append_right _ (List.mem_flatMap.2 ⟨_, List.mem_append_left _ hmem, hb⟩)))
              (fun z hz => hw3 z (by
                simp only [DataW.weights, Tryz.underlying22]
                refine List.mem_cons_of_mem _ (List.mem_append_left _ ?_)
                exact weightsAll_mem (List.mem_map.2 ⟨_, hmem, rfl⟩) z hz))
            obtain ⟨_, _, hcell⟩ := World.cells?_some h2
            have g := fun j (hj : j < 5) => hcell j hj
            simp only [hadd] at g
            have g0 := g 0 (by omega)
            have g1 := g 1 (by omega)
            have g2 := g 2 (by omega)
            have g3 := g 3 (by omega)
            have g4 := g 4 (by omega)
            refine ⟨(.mk k' s' m' l' a', v'), fun _ => ⟨⟨g0, g1, g2, g3, g4, ok', ?_⟩, ls', block_lt_of_cell g0⟩⟩
            refine hz3 b (off + i * 5) (List.mem_append_left _ ?_)
            unfold MemPlace.row
            exact List.mem_map.2 ⟨i * 5, List.mem_range.2 (by omega), rfl⟩
          · exact ⟨(Nd0, undef), fun h => absurd h hlt⟩
        obtain ⟨f, hf'⟩ := Classical.axiomOfChoice each
        have hlen : ((List.range len).map fun i => (f i).1).length = len := by simp
        have hget : ∀ i, i < len → ((List.range len).map fun i => (f i).1).getD i Nd0 = (f i).1 := by
          intro i hlt
          rw [List.getD_eq_getElem?_getD, List.getElem?_map, List.getElem?_range hlt]
          rfl
        refine ⟨k, s, m, _, a, (List.range len).map fun i => (f i).1, rfl, hok _, ?_⟩
        have row := LsS.row (w := W) (S := fun k => k < W.heap.size) b off cap ((List.range len).map fun i => (f i).1) (fun i => (f i).2) (hf' 0 (by omega)).2.2 (by rw [hlen]; exact hlc)
          (fun i hlt => by rw [hlen] at hlt; rw [hget i hlt]; exact (hf' i hlt).1) (fun i hlt => by rw [hlen] at hlt; rw [hget i hlt]; exact (hf' i hlt).2.1)
        rw [hlen] at row
        exact row
end Go.Proofs.YthcoigdmammamaaGreatDoor
