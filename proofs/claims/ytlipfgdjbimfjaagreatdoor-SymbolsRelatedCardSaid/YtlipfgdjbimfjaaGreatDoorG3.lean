/- Lists of trees with their data told; an append of a list of types to a row of one. -/
import Derived.Test.YtlipfgdjbimfjaaGreatDoorG2
import Derived.Test.YtlipfgdjbimfjaaGreatDoorF4
namespace Go.Proofs.YtlipfgdjbimfjaaGreatDoor
open Go.RowKit Go.Shelf Go.Sort
set_option maxRecDepth 100000

variable {H : Type} {enc : TypeId × Value → H}
/-- A list of trees in memory, not in the box pl. -/
def LT (w : World) (pl : Nat) (v : Value) (len : Nat) (d : Nat → TrD) : Prop :=
  ∃ a cap, v = .slice a len cap ∧ (0 < len → ∃ b off, a = some ⟨b, off, none⟩ ∧ b ≠ pl ∧ b < w.heap.size ∧ ∀ i, i < len → ∀ j, j < 12 → w.cell? ⟨b, off + i * 12 + j, none⟩ = (d i).cells[j]?)
theorem LT.grown {w w' : World} {pl len : Nat} {v : Value} {d : Nat → TrD} (h : LT w pl v len d) (hg : w.grownBy w' (some pl)) : LT w' pl v len d := by
  obtain ⟨a, cap, h1, h3⟩ := h
  refine ⟨a, cap, h1, fun hp => ?_⟩
  obtain ⟨b, off, h4, h5, h6, h7⟩ := h3 hp
  have hk : w'.heap[b]? = w.heap[b]? := hg.block b h6 (fun e => h5 (by injection e))
  exact ⟨b, off, h4, h5, Nat.lt_of_lt_of_le h6 hg.size, fun i hi j hj => (World.cell?_of_block (a := ⟨b, _, none⟩) hk).trans (h7 i hi j hj)⟩
/-- The data of an old list. -/
theorem lt_old {W0 : World} {v : Value} (h : Rv enc Tryz.prog W0 34 [v]) : ∃ (len : Nat) (d : Nat → TrD), len ≤ 4000000000000 ∧ (∀ i, i < len → Tr12 enc W0 (d i)) ∧ ∀ (w : World) (pl : Nat), Below W0.heap.size W0 w → W0.heap.size ≤ pl → LT w pl v len d := by
  obtain ⟨a, len, cap, he, _, hz, hr⟩ := h.slice Tryz.underlying34 cells70 (by decide)
  rw [bytes70] at hz
  injection he with he _
  by_cases h0 : 0 < len
  · obtain ⟨b, off, h1, h2, h3⟩ := hr h0
    have each : ∀ i : Nat, ∃ t : TrD, i < len → Tr12 enc W0 t ∧ ∀ j, j < 12 → W0.cell? ⟨b, off + i * 12 + j, none⟩ = t.cells[j]? := by
      intro i
      by_cases hi : i < len
      · obtain ⟨cs, hl, hc, hrv⟩ := h3 i hi
        obtain ⟨t, rfl, ht⟩ := rv_tree hrv
        exact ⟨t, fun _ => ⟨ht, hc⟩⟩
      · exact ⟨⟨0, 0, 0, ByteArray.empty, 0, 0, ByteArray.empty, 0, undef, undef, undef, 0⟩, fun h => absurd h hi⟩
    obtain ⟨d, hd⟩ := Classical.axiomOfChoice each
    refine ⟨len, d, by unfold reachBytes at hz; omega, fun i hi => (hd i hi).1, fun w pl hb hp => ⟨a, cap, he, fun _ => ⟨b, off, h1, by omega, by have := hb.size; omega, fun i hi j hj => (hb.cell (p := ⟨b, off + i * 12 + j, none⟩) h2).trans ((hd i hi).2 j hj)⟩⟩⟩
  · exact ⟨len, fun _ => ⟨0, 0, 0, ByteArray.empty, 0, 0, ByteArray.empty, 0, undef, undef, undef, 0⟩, by omega, fun i hi => absurd hi (by omega), fun w pl _ _ => ⟨a, cap, he, fun h => absurd h h0⟩⟩
abbrev TyT.cells (t : TyT) : List Value := [.int .i64 t.kd, .int .i64 t.sy, .string t.nm, .int .i64 t.nu, t.u]
/-- The cells of a list of types, one behind the other. -/
theorem ld_news {W0 w : World} {pl b off len cap : Nat} {d : Nat → TyT} (h : LD w pl (.slice (some ⟨b, off, none⟩) len cap) len d) (hok : ∀ i, i < len → (d i).ok enc W0) (hp : 0 < len) : ∃ news : List Value, news.length = len * 5 ∧ (∀ (j : Nat) u, news[j]? = some u → w.cell? ((⟨b, off, none⟩ : Addr).add j) = some u) ∧ (∀ u ∈ news, u.oneCell' = true) ∧
    ∀ i, i < len → ∀ j, j < 5 → news[i * 5 + j]? = (d i).cells[j]? := by
  obtain ⟨a', cap', he, hr⟩ := h
  injection he with e1 e2 e3
  subst e1 e3
  obtain ⟨b', off', e4, -, -, hel⟩ := hr hp
  injection e4 with e4
  injection e4 with e5 e6
  subst e5 e6
  have hone : ∀ i, i < len → ∀ j, j < 5 → w.cell? ⟨b, off + i * 5 + j, none⟩ = (d i).cells[j]? := by
    intro i hi j hj
    obtain ⟨c0, c1, c2, c3, c4⟩ := hel i hi
    match j, hj with
    | 0, _ => exact c0
    | 1, _ => exact c1
    | 2, _ => exact c2
    | 3, _ => exact c3
    | 4, _ => exact c4
  have hget : ∀ j, j < len * 5 → ∃ u, w.cell? ⟨b, off + j, none⟩ = some u ∧ u.oneCell' = true := by
    intro j hj
    obtain ⟨c0, c1, c2, c3, c4⟩ := hel (j / 5) (by omega)
    obtain ⟨ua, un, uc, hu, -⟩ := (hok (j / 5) (by omega)).args.slice Tryz.underlying33 cells58 (by decide)
    injection hu with hu _
    rw [hu] at c4
    have hm : j % 5 = 0 ∨ j % 5 = 1 ∨ j % 5 = 2 ∨ j % 5 = 3 ∨ j % 5 = 4 := by omega
    rcases hm with h | h | h | h | h
    · exact ⟨_, by rw [show off + j = off + j / 5 * 5 by omega]; exact c0, rfl⟩
    · exact ⟨_, by rw [show off + j = off + j / 5 * 5 + 1 by omega]; exact c1, rfl⟩
    · exact ⟨_, by rw [show off + j = off + j / 5 * 5 + 2 by omega]; exact c2, rfl⟩
    · exact ⟨_, by rw [show off + j = off + j / 5 * 5 + 3 by omega]; exact c3, rfl⟩
    · exact ⟨_, by rw [show off + j = off + j / 5 * 5 + 4 by omega]; exact c4, rfl⟩
  have hn : ∀ j, j < len * 5 → ((List.range (len * 5)).map fun j => (w.cell? ⟨b, off + j, none⟩).getD undef)[j]? = w.cell? ⟨b, off + j, none⟩ := by
    intro j hj
    obtain ⟨u, hu, _⟩ := hget j hj
    rw [List.getElem?_map, List.getElem?_range hj]
    simp [hu]
  refine ⟨(List.range (len * 5)).map fun j => (w.cell? ⟨b, off + j, none⟩).getD undef, by simp, fun j u hu => ?_, fun u hu => ?_, fun i hi j hj => ?_⟩
  · have hj : j < len * 5 := by
      have := (List.getElem?_eq_some_iff.1 hu).1
      simpa using this
    rw [addr_add, ← hn j hj]
    exact hu
  · obtain ⟨j, hj, rfl⟩ := List.mem_map.1 hu
    obtain ⟨u, h1, h2⟩ := hget j (List.mem_range.1 hj)
    simp [h1, h2]
  · rw [hn _ (by omega), ← Nat.add_assoc]
    exact hone i hi j hj
/-- A type in front of a list of types. -/
def cons1 (t : TyT) (d : Nat → TyT) : Nat → TyT
  | 0 => t
  | i + 1 => d i
/-- append of a list of types to a row of one type. -/
theorem run_append_types {W0 w : World} {pl B tn : Nat} {tv : Value} {t : TyT} {d : Nat → TyT} (ty : TypeId) (hld : LD w pl tv tn d) (hok : ∀ i, i < tn → (d i).ok enc W0) (htn : tn ≤ 2199023255488) (hown : w.ownsRow B 58 5 (.slice (some ⟨B, 0, none⟩) 1 1) 1 t.cells) (hB : pl < B) (hBl : B < w.heap.size) :
    ∃ g cap w', (Builtin.append_ #[33, 33] ty #[.slice (some ⟨B, 0, none⟩) 1 1, tv]).run Tryz.prog w = .ok (.slice (some ⟨g, 0, none⟩) (1 + tn) cap) w' ∧ LD w' pl (.slice (some ⟨g, 0, none⟩) (1 + tn) cap) (1 + tn) (cons1 t d) ∧ w.grownBy w' (some B) := by
  obtain ⟨i0, hi, iz0, iz1, iz2⟩ := info_parts info58
  have HLD := Lib.hid hld
  obtain ⟨a, tc, rfl, hr⟩ := hld
  have put : ∀ (g cap : Nat) (w' : World) (news : List Value), w'.ownsRow B 58 5 (.slice (some ⟨g, 0, none⟩) (1 + tn) cap) (1 + tn) (t.cells ++ news) → pl < g → (∀ i, i < tn → ∀ j, j < 5 → news[i * 5 + j]? = (d i).cells[j]?) → LD w' pl (.slice (some ⟨g, 0, none⟩) (1 + tn) cap) (1 + tn) (cons1 t d) := by
    intro g cap w' news ho hg hel
    have hlt := (ho.lt g rfl).2
    have hc := ho.cells (g := g) rfl
    have hcell : ∀ (j : Nat) u, (t.cells ++ news)[j]? = some u → w'.cell? ⟨g, 0 + j, none⟩ = some u := fun j u hu => by
      have := hc j u hu
      rw [addr_add] at this
      exact this
    refine ⟨_, _, rfl, fun _ => ⟨g, 0, rfl, by omega, hlt, fun i hi => ?_⟩⟩
    cases i with
    | zero => exact ⟨hcell 0 _ rfl, hcell 1 _ rfl, hcell 2 _ rfl, hcell 3 _ rfl, hcell 4 _ rfl⟩
    | succ i =>
      have hx : ∀ j, j < 5 → (t.cells ++ news)[(i + 1) * 5 + j]? = (d i).cells[j]? := fun j hj => by
        rw [List.getElem?_append_right (by simp; omega), ← hel i (by omega) j hj]
        congr 1
        simp
        omega
      exact ⟨hcell ((i + 1) * 5) _ (hx 0 (by omega)), hcell ((i + 1) * 5 + 1) _ (hx 1 (by omega)), hcell ((i + 1) * 5 + 2) _ (hx 2 (by omega)), hcell ((i + 1) * 5 + 3) _ (hx 3 (by omega)), hcell ((i + 1) * 5 + 4) _ (hx 4 (by omega))⟩
  by_cases hp : 0 < tn
  · obtain ⟨b, off, rfl, -, -, -⟩ := hr hp
    obtain ⟨news, h1, h2, h3, h4⟩ := ld_news HLD.out hok hp
    obtain ⟨g, cap, w', r1, r2, r3, r4, r5⟩ := run_append_lies w (P := Tryz.prog) 33 ty B 58 i0 (.agg #[.int .i64 0, .int .i64 0, .string ByteArray.empty, .int .i64 0, .slice none 0 0]) 5 64 Tryz.underlying33 hi iz0 iz1 iz2 rfl (by decide) (.slice (some ⟨B, 0, none⟩) 1 1) 1 t.cells hown ⟨b, off, none⟩ tn tc news h1 h2 h3 hp (by unfold maxLen; omega) (by omega) (Nat.le_of_lt hBl) _ rfl
    refine ⟨g, cap, w', r1, put g cap w' news r2 ?_ h4, r3⟩
    rcases r4 with e | e
    · have e2 : some B = some g := e
      injection e2 with e2; omega
    · omega
  · obtain rfl : tn = 0 := by omega
    refine ⟨B, 1, w, ?_, put B 1 w [] (by simpa using hown) hB (fun i hi => absurd hi (by omega)), ⟨rfl, rfl, rfl, Nat.le_refl _, fun _ _ _ => rfl⟩⟩
    cases a with
    | none => simp [Builtin.append_, run_underlying Tryz.underlying33, sizeOf, typeInfo, hi, Builtin.lenOf, Builtin.firstCells, loadCells, storeCells]
    | some a => simp [Builtin.append_, run_underlying Tryz.underlying33, sizeOf, typeInfo, hi, Builtin.lenOf, Builtin.firstCells, loadCells, loadCellsFrom, storeCells]
/-- An append in a guarded place of a region, whatever it does. -/
theorem step_append_any {P : Program} {w : World} {ops : Array Oper} {o : Oper} {a : Act} {K : Act → World → Prop} {Q : Exit → Act → World → Prop} {E : Prop} (s x : Operand) (t : TypeId)
    (ho : o.op = .call { callee := .builtin .append, args := #[s, x], argTypes := #[t, t] }) (hw : Region.wanted o (yielded ops a.tmps) = true)
    (v u : Value) (hs : a.eval s = v) (hx : a.eval x = u) (n : Nat) (F : Nat → Nat → World → Prop)
    (hr : ∃ g cap w', (Builtin.append_ #[t, t] o.type #[v, u]).run P w = .ok (.slice (some ⟨g, 0, none⟩) n cap) w' ∧ F g cap w')
    (h : ∀ g cap w', F g cap w' → K (a.put o.dst (.slice (some ⟨g, 0, none⟩) n cap)) w') :
    if Region.wanted o (yielded ops a.tmps) = true then Oper.wp P o a w K Q else E := by
  rw [if_pos hw]
  obtain ⟨g, cap, w', hr, hF⟩ := hr
  unfold Oper.wp execOp
  simp only [ho, resolve, invoke, builtin, Sem.run_bind, Sem.run_pure, Result.andThen_ok, List.map_toArray, List.map_cons, List.map_nil, hs, hx, hr]
  exact h g cap w' hF
end Go.Proofs.YtlipfgdjbimfjaaGreatDoor
