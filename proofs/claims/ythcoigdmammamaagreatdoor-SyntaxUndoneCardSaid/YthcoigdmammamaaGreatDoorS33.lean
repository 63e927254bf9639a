/- The writer's put. -/
import Derived.Test.YthcoigdmammamaaGreatDoorS32
import Derived.Lib.AppendStr
import Derived.OneCell
import Derived.Deep.AppendLies
import Derived.Deep.LoopGhost
namespace Go.Proofs.YthcoigdmammamaaGreatDoor
open Go.RowKit Go.Shelf Go.Sort
set_option maxRecDepth 100000

theorem info5 : (Tryz.prog.info? 5).map (fun i => (i.zero, i.size, i.bytes)) = some (some (.int .u8 0), 1, 1) := by kernel_rfl
/-- A writer that is not full, and what it wrote; its bytes lie behind it. -/
def Wr (w : World) (Wb : Nat) (t : List UInt8) : Prop :=
  ∃ v, w.heap[Wb]? = some (.cells #[v, .bool false] 46 (0, 0)) ∧ w.ownsRow (Wb + 1) 5 1 v t.length (Lib.strCells (bs t))
theorem own_shape {w : World} {base : Nat} {e : TypeId} {size : Nat} {v : Value} {n : Nat} {xs : List Value} (h : w.ownsRow base e size v n xs) : ∃ a c, v = .slice a n c := by
  rcases h.2 with ⟨rfl, rfl⟩ | ⟨g, cap, cur, rfl, _⟩
  · exact ⟨_, _, rfl⟩
  · exact ⟨_, _, rfl⟩
theorem strCells_app (a b : List UInt8) : Lib.strCells (bs a) ++ Lib.strCells (bs b) = Lib.strCells (bs (a ++ b)) := by
  simp [Lib.strCells]
theorem bs_size (l : List UInt8) : (bs l).size = l.length := by show l.toArray.size = _; simp
theorem flat_take (ls : List (List UInt8)) (i : Nat) (h : i < ls.length) : (ls.take (i + 1)).flatten = (ls.take i).flatten ++ ls.getD i [] := by
  rw [List.take_succ_eq_append_getElem h, List.flatten_append, List.getD_eq_getElem?_getD, List.getElem?_eq_getElem h]
  simp
theorem flat_le (ls : List (List UInt8)) (i : Nat) : (ls.take i).flatten.length ≤ ls.flatten.length := by
  have h : ls.flatten = (ls.take i).flatten ++ (ls.drop i).flatten := by rw [← List.flatten_append, List.take_append_drop]
  rw [h, List.length_append]; omega

set_option maxHeartbeats 4000000 in
theorem put_any (Wb sb cap : Nat) (t : List UInt8) (ls : List (List UInt8)) (w : World) (hW : Wr w Wb t) (hs : w.heap[sb]? = some (SB ls)) (hlen : t.length + ls.flatten.length ≤ 262144) (hll : ls.length ≤ 1000) :
    Calls Tryz.prog 32 #[.pointer (some ⟨Wb, 0, none⟩), .slice (some ⟨sb, 0, none⟩) ls.length cap] w fun e w' => e = .returned (.tuple #[]) ∧ Wr w' Wb (t ++ ls.flatten) ∧ Below Wb w w' := by
  obtain ⟨i0, hi, iz0, iz1, iz2⟩ := info_parts info5
  have HI : Hid (Wr w Wb (t ++ (ls.take 0).flatten)) := by show Wr _ _ _; simpa using hW
  have HS := Lib.hid hs
  have HLEN := Lib.hid hlen
  clear hW hs hlen
  go_enter Tryz.func32, Tryz.ntmps32
  go_wp2
  go_loopg [8] (ls.length + 1) (fun n y wr => ∃ i : Nat, i ≤ ls.length ∧ ls.length - i < n ∧ y = .int .i64 i ∧ Hid (Wr wr Wb (t ++ (ls.take i).flatten)) ∧ Hid (wr.heap[sb]? = some (SB ls)) ∧ Hid (Below Wb w wr))
  case atStart => exact ⟨0, by omega, by omega, rfl, HI, HS, Below.refl _ _⟩
  case round =>
    obtain ⟨i, hi', hgk, rfl, HW, HSB, HB⟩ := hrel
    obtain ⟨n, rfl⟩ : ∃ n, gk = n + 1 := ⟨gk - 1, by omega⟩
    by_cases hlt : i < ls.length
    · have hii : (i : Int) < (ls.length : Int) := by omega
      have hi0 : (0 : Int) ≤ (i : Int) := by omega
      have x1 := sb_cell HSB.out i hlt
      obtain ⟨v, hb, ho⟩ := HW.out
      obtain ⟨s, hs⟩ : ∃ s, s = ls.getD i [] := ⟨_, rfl⟩
      obtain ⟨u, hu⟩ : ∃ u, u = t ++ (ls.take i).flatten := ⟨_, rfl⟩
      have hu2 : Hid (u ++ s = t ++ (ls.take (i + 1)).flatten) := by
        show _ = _
        rw [flat_take ls i hlt, hu, hs, List.append_assoc]
      have hle : u.length + s.length ≤ 262144 := by
        have h1 := congrArg List.length hu2.out
        rw [List.length_append, List.length_append] at h1
        have h2 := flat_le ls (i + 1)
        have h3 := HLEN.out
        omega
      rw [← hs] at x1
      rw [← hu] at ho
      clear hs hu HW
      obtain ⟨va, vc, rfl⟩ := own_shape ho
      have p0 := blk_cell hb 0
      have f0 := blk_free hb 0
      have hsz := bs_size s
      have hrt : Hid (wr.heap.size ≥ Wb + 1) := lt_of_block hb
      have a1 : IntKind.i64.wrap ((u.length : Int) + (s.length : Int)) = (u.length : Int) + (s.length : Int) := IntWalk.i64_in _ (by omega)
      have d1 : decide ((262144 : Int) < (u.length : Int) + (s.length : Int)) = false := by simp; omega
      have HO := Lib.hid ho
      have HBK := Lib.hid hb
      have HZ := Lib.hid hsz
      have HLE := Lib.hid hle
      clear ho hb hsz hle
      go_wp2_with (at_builtin; (refine Lib.wpList_append_own_string _ rfl _ _ 44 9 rfl (Wb + 1) 5 i0 Tryz.underlying44 Tryz.underlying9 hi iz0 iz1 iz2 (.slice va u.length vc) u.length (Lib.strCells (bs u)) rfl HO.out (bs s) rfl (by have h := HLE.out; have h2 := HZ.out; unfold maxLen; omega) (by have h := HLE.out; have h2 := HZ.out; omega) hrt.out ?_); (intro v2 w4 hown2 hgrow2 hnil2; obtain ⟨a2, c2, rfl⟩ := own_shape hown2; have hb4 := (hgrow2.block Wb hrt.out (fun e => by have h := (HO.out.lt _ e.symm).1; omega)).trans HBK.out; have p4 := blk_cell hb4 0; have f4 := blk_free hb4 0; have HB4 := Lib.hid hb4; have HG := Lib.hid (And.intro hown2 hgrow2); clear hown2 hgrow2 hnil2 hb4))
      have hzW := HG.out.2.size
      have hsW : sb < wr.heap.size := lt_of_block HSB.out
      have hne1 : sb ≠ Wb := by
        intro e
        have h1 := HSB.out
        rw [e, HBK.out] at h1
        injection h1 with h1
        injection h1 with h1 h2 h3
        exact absurd h2 (by decide)
      have hne2 : (Value.slice va u.length vc).ownBlock ≠ some sb := by
        intro e
        rcases HO.out.2 with ⟨h, _⟩ | ⟨g, cap, cur, h, _, hg, _⟩
        · rw [h] at e; cases e
        · rw [h] at e
          have e2 : g = sb := by injection e
          rw [e2, HSB.out] at hg
          injection hg with h1
          injection h1 with h1 h2 h3
          exact absurd h2 (by decide)
      have hsb5 : Hid ((w4.setCell ⟨Wb, 0, none⟩ (.slice a2 (u.length + (bs s).size) c2)).heap[sb]? = some (SB ls)) := by
        show _ = _
        rw [Below.heap_setCell _ _ _ _ hne1, HG.out.2.block sb hsW (fun e => hne2 e.symm)]
        exact HSB.out
      have hw5 : Hid (Wr (w4.setCell ⟨Wb, 0, none⟩ (.slice a2 (u.length + (bs s).size) c2)) Wb (t ++ (ls.take (i + 1)).flatten)) := by
        refine ⟨.slice a2 (u.length + (bs s).size) c2, blk_set HB4.out 0 _, ?_⟩
        rw [← hu2.out, List.length_append, ← strCells_app]
        have h := HG.out.1
        rw [HZ.out] at h ⊢
        exact ownsRow_setCell_other h (fun e => by have h2 := (h.lt _ e).1; exact absurd h2 (by simp)) _
      have hb5 : Hid (RowKit.Below Wb w (w4.setCell ⟨Wb, 0, none⟩ (.slice a2 (u.length + (bs s).size) c2))) := by
        show RowKit.Below Wb w _
        refine RowKit.Below.setCell (p := ⟨Wb, 0, none⟩) ?_ (Nat.le_refl Wb) _
        exact HB.out.grown HG.out.2 (Nat.le_of_succ_le hrt.out) (fun k hk => Nat.le_of_succ_le (HO.out.lt k hk).1)
      go_roundg n
      case measure => omega
      case rel => exact ⟨i + 1, by omega, by omega, by go_num, hw5, hsb5, hb5⟩
    · have he : i = ls.length := by omega
      subst he
      go_wp2
      go_end0
      refine ⟨rfl, ?_, HB.out⟩
      have h := HW.out
      rw [List.take_length] at h
      exact h
end Go.Proofs.YthcoigdmammamaaGreatDoor
