/- The closure of Trees. -/
import Derived.Test.YtlipfgdjbimfjaaGreatDoorF3
import Derived.Deep.RegionHeld3
import Derived.Deep.AppendLies
namespace Go.Proofs.YtlipfgdjbimfjaaGreatDoor
open Go.RowKit Go.Shelf Go.Sort
set_option maxRecDepth 100000

variable {H : Type} {enc : TypeId × Value → H}
theorem info58 : (Tryz.prog.info? 58).map (fun i => (i.zero, i.size, i.bytes)) = some (some (.agg #[.int .i64 0, .int .i64 0, .string ByteArray.empty, .int .i64 0, .slice none 0 0]), 5, 64) := by kernel_rfl
/-- The cells of a list of types, one behind the other. -/
theorem lv_news {W0 w : World} {pl b off len cap : Nat} (h : LV enc W0 w pl (.slice (some ⟨b, off, none⟩) len cap)) (hp : 0 < len) : ∃ news : List Value, news.length = len * 5 ∧ (∀ (j : Nat) u, news[j]? = some u → w.cell? ((⟨b, off, none⟩ : Addr).add j) = some u) ∧ (∀ u ∈ news, u.oneCell' = true) ∧
    ∀ i, i < len → ∃ kd sy nm nu u, Ty5 enc W0 [.int .i64 kd, .int .i64 sy, .string nm, .int .i64 nu, u] kd sy nm nu u ∧ news[i * 5]? = some (.int .i64 kd) ∧ news[i * 5 + 1]? = some (.int .i64 sy) ∧ news[i * 5 + 2]? = some (.string nm) ∧ news[i * 5 + 3]? = some (.int .i64 nu) ∧ news[i * 5 + 4]? = some u := by
  obtain ⟨a', len', cap', he, -, hr⟩ := h
  injection he with e1 e2 e3
  subst e1 e2 e3
  obtain ⟨b', off', e4, -, -, hel⟩ := hr hp
  injection e4 with e4
  injection e4 with e5 e6
  subst e5 e6
  have hget : ∀ j, j < len * 5 → ∃ u, w.cell? ⟨b, off + j, none⟩ = some u ∧ u.oneCell' = true := by
    intro j hj
    obtain ⟨kd, sy, nm, nu, u, t, c0, c1, c2, c3, c4⟩ := hel (j / 5) (by omega)
    obtain ⟨ua, un, uc, hu, -⟩ := t.args.slice Tryz.underlying33 cells58 (by decide)
    injection hu with hu _
    subst hu
    have hm : j % 5 = 0 ∨ j % 5 = 1 ∨ j % 5 = 2 ∨ j % 5 = 3 ∨ j % 5 = 4 := by omega
    rcases hm with h | h | h | h | h
    · exact ⟨_, by rw [show off + j = off + j / 5 * 5 by omega]; exact c0, rfl⟩
    · exact ⟨_, by rw [show off + j = off + j / 5 * 5 + 1 by omega]; exact c1, rfl⟩
    · exact ⟨_, by rw [show off + j = off + j / 5 * 5 + 2 by omega]; exact c2, rfl⟩
    · exact ⟨_, by rw [show off + j = off + j / 5 * 5 + 3 by omega]; exact c3, rfl⟩
    · exact ⟨_, by rw [show off + j = off + j / 5 * 5 + 4 by omega]; exact c4, rfl⟩
  have hn : ∀ j, j < len * 5 → ((List.range (len * 5)).map fun j => (w.cell? ⟨b, off + j, none⟩).getD undef)[j]? = w.cell? ⟨b, off + j, none⟩ := by
    intro j hj
    obtain ⟨u, hu, _⟩ := hget j hj
    rw [List.getElem?_map, List.getElem?_range hj]
    simp [hu]
  refine ⟨(List.range (len * 5)).map fun j => (w.cell? ⟨b, off + j, none⟩).getD undef, by simp, fun j u hu => ?_, fun u hu => ?_, fun i hi => ?_⟩
  · have hj : j < len * 5 := by
      have := (List.getElem?_eq_some_iff.1 hu).1
      simpa using this
    rw [addr_add, ← hn j hj]
    exact hu
  · obtain ⟨j, hj, rfl⟩ := List.mem_map.1 hu
    obtain ⟨u, h1, h2⟩ := hget j (List.mem_range.1 hj)
    simp [h1, h2]
  · obtain ⟨kd, sy, nm, nu, u, t, c0, c1, c2, c3, c4⟩ := hel i hi
    exact ⟨kd, sy, nm, nu, u, t, (hn _ (by omega)).trans c0, (hn _ (by omega)).trans c1, (hn _ (by omega)).trans c2, (hn _ (by omega)).trans c3, (hn _ (by omega)).trans c4⟩
/-- A row of types that the call made: the first one's cells and others behind it. -/
theorem lv_made {W0 w : World} {pl B g n cap : Nat} {ak ay : Int} {an : ByteArray} {au : Int} {av : Value} {news : List Value} (ht : Ty5 enc W0 [.int .i64 ak, .int .i64 ay, .string an, .int .i64 au, av] ak ay an au av)
    (ho : w.ownsRow B 58 5 (.slice (some ⟨g, 0, none⟩) (1 + n) cap) (1 + n) ([.int .i64 ak, .int .i64 ay, .string an, .int .i64 au, av] ++ news)) (hg : g ≠ pl) (hn : n ≤ 3900000000000)
    (hel : ∀ i, i < n → ∃ kd sy nm nu u, Ty5 enc W0 [.int .i64 kd, .int .i64 sy, .string nm, .int .i64 nu, u] kd sy nm nu u ∧ news[i * 5]? = some (.int .i64 kd) ∧ news[i * 5 + 1]? = some (.int .i64 sy) ∧ news[i * 5 + 2]? = some (.string nm) ∧ news[i * 5 + 3]? = some (.int .i64 nu) ∧ news[i * 5 + 4]? = some u) :
    LV enc W0 w pl (.slice (some ⟨g, 0, none⟩) (1 + n) cap) := by
  have hlt := (ho.lt g rfl).2
  have hc := ho.cells (g := g) rfl
  have hcell : ∀ (j : Nat) u, ([.int .i64 ak, .int .i64 ay, .string an, .int .i64 au, av] ++ news)[j]? = some u → w.cell? ⟨g, 0 + j, none⟩ = some u := fun j u hu => by
    have := hc j u hu
    rw [addr_add] at this
    exact this
  refine ⟨_, _, _, rfl, by omega, fun _ => ⟨g, 0, rfl, hg, hlt, fun i hi => ?_⟩⟩
  by_cases h0 : i = 0
  · subst h0
    exact ⟨ak, ay, an, au, av, ht, hcell 0 _ rfl, hcell 1 _ rfl, hcell 2 _ rfl, hcell 3 _ rfl, hcell 4 _ rfl⟩
  · obtain ⟨kd, sy, nm, nu, u, t, c0, c1, c2, c3, c4⟩ := hel (i - 1) (by omega)
    have hx : ∀ d, d < 5 → ([.int .i64 ak, .int .i64 ay, .string an, .int .i64 au, av] ++ news)[i * 5 + d]? = news[(i - 1) * 5 + d]? := fun d hd => by
      rw [List.getElem?_append_right (by simp; omega)]
      congr 1
      simp
      omega
    exact ⟨kd, sy, nm, nu, u, t, hcell (i * 5) _ ((hx 0 (by omega)).trans c0), hcell (i * 5 + 1) _ ((hx 1 (by omega)).trans c1), hcell (i * 5 + 2) _ ((hx 2 (by omega)).trans c2), hcell (i * 5 + 3) _ ((hx 3 (by omega)).trans c3), hcell (i * 5 + 4) _ ((hx 4 (by omega)).trans c4)⟩

/-- An append in a region that draws, behind a guard that lets it go. -/
theorem step_append_wanted {P : Program} {w : World} {ops : Array Oper} {o : Oper} {a : Act} {K : Act → World → Prop} {Q : Exit → Act → World → Prop} {E : Prop} (s x : Operand) (t : TypeId)
    (ho : o.op = .call { callee := .builtin .append, args := #[s, x], argTypes := #[t, t] })
    (base : Nat) (e : TypeId) (i : TypeInfo) (z : Value) (size bytes : Nat) (ht : P.underlying t = some (.slice e)) (hi : P.info? e = some i) (hz : i.zero = some z)
    (hsize : i.size = size) (hby : i.bytes = bytes) (hzs : z.cells.size = size) (hsz : 0 < size)
    (v : Value) (n : Nat) (xs : List Value) (hs : a.eval s = v) (hown : w.ownsRow base e size v n xs)
    (ad : Addr) (m c : Nat) (news : List Value) (hx : a.eval x = .slice (some ad) m c) (hl : news.length = m * size) (hnews : ∀ j u, news[j]? = some u → w.cell? (ad.add j) = some u) (h1 : ∀ u ∈ news, u.oneCell' = true)
    (hm : 0 < m) (h63 : n + m ≤ maxLen) (hbytes : (n + m) * bytes ≤ 140737488355328) (hbase : base ≤ w.heap.size) (H : Nat) (hH : w.heap.size = H)
    (hw : Region.wanted o (yielded ops a.tmps) = true)
    (h : ∀ g cap w', w'.ownsRow base e size (.slice (some ⟨g, 0, none⟩) (n + m) cap) (n + m) (xs ++ news) → w.grownBy w' v.ownBlock → (v.ownBlock = some g ∨ g = H) → g < w'.heap.size → K (a.put o.dst (.slice (some ⟨g, 0, none⟩) (n + m) cap)) w') :
    if Region.wanted o (yielded ops a.tmps) = true then Oper.wp P o a w K Q else E := by
  rw [if_pos hw]
  exact wp_append_lies w s x t ho base e i z size bytes ht hi hz hsize hby hzs hsz v n xs hs hown ad m c news hx hl hnews h1 hm h63 hbytes hbase H hH h
end Go.Proofs.YtlipfgdjbimfjaaGreatDoor
