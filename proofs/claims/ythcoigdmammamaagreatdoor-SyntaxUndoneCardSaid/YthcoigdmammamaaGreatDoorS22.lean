/- strings.Split, strings.Fields, strings.TrimRight, strings.TrimSuffix over lists of bytes; belongs. -/
import Derived.Test.YthcoigdmammamaaGreatDoorS21
import Derived.Lib.SplitLaws
import Derived.Deep.LoopGhost
namespace Go.Proofs.YthcoigdmammamaaGreatDoor
open Go.RowKit Go.Shelf Go.Sort
set_option maxRecDepth 100000

/-- A row of strings in one new block. -/
abbrev SB (l : List (List UInt8)) : Obj := .cells (l.map fun x => Value.string (bs x)).toArray 9
theorem sb_cell {w : World} {b : Nat} {l : List (List UInt8)} (h : w.heap[b]? = some (SB l)) (i : Nat) (hi : i < l.length) : w.cell? ⟨b, i, none⟩ = some (.string (bs (l.getD i []))) := by
  rw [blk_cell h i]
  simp [List.getD_eq_getElem?_getD, List.getElem?_eq_getElem hi]
theorem split_len (l : List UInt8) (c : UInt8) : (Lib.split l [c]).length = Lib.countB (bs l) (bs [c]) + 1 ∧ (Lib.split l [c]).length ≤ l.length + 1 := by
  have h1 : 1 ≤ (bs [c]).size := Nat.le_refl _
  have hd : (Lib.splitB (bs [c]) 0 (Lib.countB (bs l) (bs [c])) (bs l)).map (·.data.toList) = Lib.split l [c] := by
    rw [Lib.splitB_data]; rfl
  have hlen : (Lib.split l [c]).length = Lib.countB (bs l) (bs [c]) + 1 := by
    rw [← hd, List.length_map]
    exact Lib.splitB_all (bs [c]) h1 0 _ (bs l) rfl
  have h2 := Lib.countB_le (bs [c]) h1 (bs l).size (bs l) (Nat.le_refl _)
  have h3 : (bs l).size = l.length := by show l.toArray.size = _; simp
  exact ⟨hlen, by omega⟩
theorem split_any (l : List UInt8) (c : UInt8) (w : World) (hG : Glob w) (hl : l.length < 4294967281) :
    Calls Tryz.prog 69 #[.string (bs l), .string (bs [c])] w fun e w' => e = .returned (.slice (some ⟨w.heap.size, 0, none⟩) (Lib.split l [c]).length (Lib.split l [c]).length) ∧ w' = w.alloc (SB (Lib.split l [c])) := by
  obtain ⟨m, hm⟩ := hG.mx
  have h1 : 1 ≤ (bs [c]).size := Nat.le_refl _
  have h := Tryz.strings_Split (bs l) (bs [c]) m w (by show l.toArray.size < _; simpa using hl) hm h1
  have hd : (Lib.splitB (bs [c]) 0 (Lib.countB (bs l) (bs [c])) (bs l)).map (·.data.toList) = Lib.split l [c] := by
    rw [Lib.splitB_data]; rfl
  have hlen : Lib.countB (bs l) (bs [c]) + 1 = (Lib.split l [c]).length := by
    rw [← hd, List.length_map]
    exact (Lib.splitB_all (bs [c]) h1 0 _ (bs l) rfl).symm
  rw [hlen] at h
  refine h.mono ?_
  rintro e w' ⟨rfl, rfl⟩
  refine ⟨rfl, ?_⟩
  rw [← hd]
  show _ = w.alloc (.cells (((Lib.splitB (bs [c]) 0 (Lib.countB (bs l) (bs [c])) (bs l)).map (·.data.toList)).map fun x => Value.string (bs x)).toArray 9)
  rw [List.map_map]
  congr 3
/-- Whether a kind belongs to one of the classes of a word. -/
def belongsM (k : Int) (l : List UInt8) : Bool := (!(Lib.trimSuffix l [63] == l) && k == 0) || (Lib.split (Lib.trimSuffix l [63]) [124]).any (classM k)
theorem trimSuffix_len (l p : List UInt8) : (Lib.trimSuffix l p).length ≤ l.length := by
  unfold Lib.trimSuffix
  split
  · exact List.length_take_le' _ _
  · exact Nat.le_refl _

set_option maxHeartbeats 2000000 in
theorem belongs_any (k : Int) (l : List UInt8) (w : World) (hG : Glob w) (hl : l.length < 4294967281) :
    Calls Tryz.prog 71 #[.int .i64 k, .string (bs l)] w fun e w' => e = .returned (.bool (belongsM k l)) ∧ Below w.heap.size w w' := by
  have cT := Tryz.strings_TrimSuffix (bs l) (bs [63]) w (by show l.toArray.size ≤ _; simp; omega)
  change Calls Tryz.prog 106 _ w (fun e w' => e = .returned (.string (bs (Lib.trimSuffix l [63]))) ∧ w' = w) at cT
  have hle := trimSuffix_len l [63]
  obtain ⟨b, hb⟩ : ∃ b, b = belongsM k l := ⟨_, rfl⟩
  rw [← hb]
  unfold belongsM at hb
  generalize Lib.trimSuffix l [63] = c at *
  have cS := split_any c 124 w hG (by omega)
  have hGa := hG.bel ((Below.refl _ w).alloc (Nat.le_refl _) (SB (Lib.split c [124])))
  have hbk := alloc_blk w (SB (Lib.split c [124]))
  have HBW : Hid (Below w.heap.size w (w.alloc (SB (Lib.split c [124])))) := (Below.refl _ w).alloc (Nat.le_refl _) _
  have hps := (split_len c 124).2
  generalize Lib.split c [124] = ps at *
  have HB := Lib.hid hb
  have HGA := Lib.hid hGa
  have HBK := Lib.hid hbk
  have hps2 : ps.length ≤ 9223372036854775807 := by omega
  clear hb hG hGa hbk hle hl hps
  by_cases hc : ((c == l) = false ∧ k = 0)
  · obtain ⟨e1, rfl⟩ := hc
    have e2 : (c != l) = true := by simpa using e1
    have hb := HB.out
    rw [e1] at hb
    have hb' : b = true := by rw [hb]; rfl
    clear hb
    subst hb'
    clear cS HBK HGA HBW
    go_enter Tryz.func71, Tryz.ntmps71
    go_wp2_with (go_at_call 106; refine cT.mono ?_; clear cT; rintro e w' ⟨rfl, rfl⟩)
    go_ret
    exact ⟨rfl, Below.refl _ _⟩
  · have HC : c = l ∨ (((c == l) = false ∧ (c != l) = true) ∧ (k == 0) = false) := by
      cases h1 : (c == l) with
      | true => exact .inl (by simpa using h1)
      | false => exact .inr ⟨⟨rfl, by simpa using h1⟩, by simpa using fun e => hc ⟨h1, e⟩⟩
    have HB2 : Hid (b = ps.any (classM k)) := by
      show _ = _
      have hb := HB.out
      rw [hb]
      rcases HC with h1 | ⟨⟨h0, h1⟩, h2⟩
      · have h3 : (c == l) = true := by simpa using h1
        rw [h3]; rfl
      · rw [h2, Bool.and_false, Bool.false_or]
    clear hc HB
    go_enter Tryz.func71, Tryz.ntmps71
    rcases HC with rfl | ⟨⟨e1, e2⟩, e3⟩
    all_goals
      go_wp2_with (first
        | (go_at_call 106; refine cT.mono ?_; clear cT; rintro e w' ⟨rfl, rfl⟩)
        | (go_at_call 69; refine cS.mono ?_; clear cS; rintro e w2 ⟨rfl, rfl⟩))
      go_loopg [20] (ps.length + 1) (fun n y wr => ∃ i : Nat, i ≤ ps.length ∧ ps.length - i < n ∧ y = .int .i64 i ∧ Hid ((ps.take i).any (classM k) = false) ∧ wr = w'.alloc (SB ps))
      case atStart => exact ⟨0, by omega, by omega, rfl, rfl, rfl⟩
      case round =>
        obtain ⟨i, hi, hgk, rfl, HT, rfl⟩ := hrel
        obtain ⟨n, rfl⟩ : ∃ n, gk = n + 1 := ⟨gk - 1, by omega⟩
        by_cases hlt : i < ps.length
        · have hii : (i : Int) < (ps.length : Int) := by omega
          have hi0 : (0 : Int) ≤ (i : Int) := by omega
          have hc := sb_cell HBK.out i hlt
          have cI := inClass_any k (ps.getD i []) _ HGA.out
          have htk : (ps.take (i + 1)).any (classM k) = (classM k (ps.getD i [])) := by
            rw [List.take_succ_eq_append_getElem hlt, List.any_append, HT.out, List.getD_eq_getElem?_getD, List.getElem?_eq_getElem hlt]
            simp
          have hmem : ps.getD i [] ∈ ps := by
            rw [List.getD_eq_getElem?_getD, List.getElem?_eq_getElem hlt]
            exact List.getElem_mem hlt
          generalize ps.getD i [] = pc at *
          obtain ⟨bb, hbb⟩ : ∃ bb, bb = classM k pc := ⟨_, rfl⟩
          rw [← hbb] at cI
          have HBB := Lib.hid hbb
          have HTK := Lib.hid htk
          have HM := Lib.hid hmem
          clear hbb htk hmem
          cases bb with
          | true =>
            go_wp2_with (go_at_call 107; refine cI.mono ?_; clear cI; rintro e w3 ⟨rfl, rfl⟩)
            go_ret
            have hbt : b = true := by rw [HB2.out, List.any_eq_true.2 ⟨pc, HM.out, HBB.out.symm⟩]
            rw [hbt]
            exact ⟨rfl, HBW.out⟩
          | false =>
            go_wp2_with (go_at_call 107; refine cI.mono ?_; clear cI; rintro e w3 ⟨rfl, rfl⟩)
            go_roundg n
            case measure => omega
            case rel => exact ⟨i + 1, by omega, by omega, by go_num, by show _ = _; rw [HTK.out]; exact HBB.out.symm, rfl⟩
        · have he : i = ps.length := by omega
          subst he
          go_wp2
          go_ret
          have h1 := HT.out
          rw [List.take_length] at h1
          rw [h1] at HB2
          rw [HB2.out]
          exact ⟨rfl, HBW.out⟩
end Go.Proofs.YthcoigdmammamaaGreatDoor
