/- Lists of ints that are empty; Contains over an own row; Inside, nesting. -/
import Derived.Test.YtlipfgdjbimfjaaGreatDoorP3
namespace Go.Proofs.YtlipfgdjbimfjaaGreatDoor
open Go.RowKit Go.Shelf Go.Sort
set_option maxRecDepth 100000

theorem alloc_blk (w : World) (o : Obj) : (w.alloc o).heap[w.heap.size]? = some o := heap_alloc_new w o
theorem own_cells {w : World} {B : Nat} {v : Value} {l : List Int} (h : OwnI w B v l) : (v = .slice none 0 0 ∧ l = []) ∨ ∃ g cap, v = .slice (some ⟨g, 0, none⟩) l.length cap ∧ B ≤ g ∧ g < w.heap.size ∧ l.length ≤ cap ∧ ∀ j, j < l.length → w.cell? ⟨g, 0 + j, none⟩ = some (.int .i64 (l.getD j 0)) := by
  rcases h.2 with ⟨h1, h2⟩ | ⟨g, cap, cur, h1, h2, h3, h4, h5, h6, h7⟩
  · exact .inl ⟨h1, List.eq_nil_of_length_eq_zero h2⟩
  · refine .inr ⟨g, cap, h1, h2, (Array.getElem?_eq_some_iff.1 h3).1, h4, fun j hj => ?_⟩
    have h8 : (cur.toList.take (l.length * 1))[j]? = (l.map (Value.int .i64))[j]? := by rw [h7]
    rw [List.getElem?_take, if_pos (by omega), List.getElem?_map] at h8
    show w.cell? ⟨g, 0 + j, none⟩ = _
    rw [Nat.zero_add]
    simp only [World.cell?, h3]
    rw [List.getD_eq_getElem?_getD]
    rw [← Array.getElem?_toList, h8, List.getElem?_eq_getElem hj]
    rfl
theorem contains_own {w : World} {B : Nat} {v : Value} {l : List Int} (x : Int) (h : OwnI w B v l) (hl : l.length ≤ 1000000) :
    Calls Tryz.prog 28 #[v, .int .i64 x] w fun e w' => e = .returned (.bool (l.contains x)) ∧ w' = w := by
  rcases own_cells h with ⟨rfl, rfl⟩ | ⟨g, cap, rfl, _, _, _, hc⟩
  · exact Tryz.slices_Contains_int_empty none 0 x w
  · have h1 := Tryz.slices_Contains_int g 0 l.length cap l x w (Nat.le_refl _) (by omega) hc
    rw [List.take_length] at h1
    exact h1

set_option maxHeartbeats 1000000 in
theorem inside_in (cb co n cap c : Nat) (x : Int) (own : Nat → Int) (v1 v2 v3 v4 v5 : Value) (w : World) (hc : c < n) (hn : n ≤ 100000) (hcap : n ≤ cap) (hcb : cb < w.heap.size) (hO : Owns w cb co n own) :
    Calls Tryz.prog 21 #[PV cb co n cap v1 v2 v3 v4 v5, .int .i64 c, .int .i64 x] w fun e w' => e = .returned (.bool ((arF own n n c).contains x)) ∧ Below w.heap.size w w' := by
  have hb1 : Below w.heap.size w (w.alloc (.cells #[.slice (some ⟨cb, co, none⟩) n cap, v1, v2, v3, v4, v5] 28)) := (Below.refl _ _).alloc (Nat.le_refl _) _
  have cA := around_any cb co n cap c own v1 v2 v3 v4 v5 (w.alloc (.cells #[.slice (some ⟨cb, co, none⟩) n cap, v1, v2, v3, v4, v5] 28)) hc hn hcap (by simp; omega) (hO.bel hb1 hcb)
  have HB1 := Lib.hid hb1
  have HL := Lib.hid (arF_len own n n c)
  obtain ⟨L, hL⟩ : ∃ L, L = arF own n n c := ⟨_, rfl⟩
  rw [← hL] at cA HL ⊢
  clear hL hb1 hO
  go_enter Tryz.func21, Tryz.ntmps21
  go_wp2_with fail
  refine (isIndex_in _ (by omega) (by omega)).mono ?_; rintro e w' ⟨rfl, rfl⟩
  go_wp2_with fail
  refine cA.mono ?_
  clear cA
  rintro e w1 ⟨v, rfl, ho, hb2⟩
  have HO := Lib.hid ho
  have HB2 := Lib.hid hb2
  clear ho hb2
  go_wp2_with fail
  refine (contains_own x HO.out (by have := HL.out; omega)).mono ?_; rintro e w' ⟨rfl, rfl⟩
  go_wp2
  go_ret
  exact ⟨ret_bool (by simp), HB1.out.trans (HB2.out.mono (by simp))⟩
set_option maxHeartbeats 1000000 in
theorem inside_out (cb co n cap : Nat) (c x : Int) (v1 v2 v3 v4 v5 : Value) (w : World) (hc : c < 0 ∨ (n : Int) ≤ c) :
    Calls Tryz.prog 21 #[PV cb co n cap v1 v2 v3 v4 v5, .int .i64 c, .int .i64 x] w fun e w' => e = .returned (.bool false) ∧ Below w.heap.size w w' := by
  have HC := Lib.hid hc
  clear hc
  go_enter Tryz.func21, Tryz.ntmps21
  go_wp2_with fail
  refine (isIndex_out _ HC.out).mono ?_; rintro e w' ⟨rfl, rfl⟩
  go_wp2
  go_ret
  exact ⟨rfl, (Below.refl _ _).alloc (Nat.le_refl _) _⟩

theorem containsFunc_nil (a : Option Addr) (c : Nat) (f : Value) (w : World) :
    Calls Tryz.prog 129 #[.slice a 0 c, f] w fun e w' => e = .returned (.bool false) ∧ w = w' := by
  have h84 : Calls Tryz.prog 154 #[.slice a 0 c, f] w fun e w' => e = .returned (.int .i64 (-1)) ∧ w = w' := by
    go_enter Tryz.func154, Tryz.ntmps154
    go_wp2
    go_loop [8] (fun i => i = .int .i64 0) (fun _ => 0)
    case atStart => exact rfl
    case round =>
      obtain rfl := hrel
      go_wp2
      go_ret
      exact ⟨rfl, rfl⟩
  go_enter Tryz.func129, Tryz.ntmps129
  go_wp2_with fail
  refine h84.mono ?_; rintro e w' ⟨rfl, rfl⟩
  clear h84
  go_wp2
  go_ret
  exact ⟨rfl, rfl⟩
theorem exist_nil (a : Option Addr) (c : Nat) (n : Int) (w : World) :
    Calls Tryz.prog 131 #[.slice a 0 c, .int .i64 n] w fun e w' => e = .returned (.bool true) ∧ Below w.heap.size w w' := by
  go_enter Tryz.func131, Tryz.ntmps131
  go_wp2_with fail
  refine (containsFunc_nil _ _ _ _).mono ?_; rintro e w' ⟨rfl, rfl⟩
  go_wp2
  go_ret
  exact ⟨rfl, (Below.refl _ _).alloc (Nat.le_refl _) _⟩
theorem set_nil (a : Option Addr) (c : Nat) (w : World) :
    Calls Tryz.prog 148 #[.slice a 0 c] w fun e w' => e = .returned (.map (some w.heap.size)) ∧ w' = w.alloc (.map #[] 0) := by
  have hmm := @run_makeMap Tryz.prog
  go_enter Tryz.func148, Tryz.ntmps148
  go_wp2
  go_loop [9] (fun i => i = .int .i64 0) (fun _ => 0)
  case atStart => exact rfl
  case round =>
    obtain rfl := hrel
    go_wp2
    go_ret
    exact ⟨rfl, rfl⟩
theorem map_len (w : World) (M c : Nat) (es : Array MapEntry) (ty : TypeId) (h : w.heap[M]? = some (.map es c)) : (Builtin.len_ #[162] ty #[.map (some M)]).run Tryz.prog w = .ok (.int .i64 es.size) w := by
  have hg : (getObj M).run Tryz.prog w = .ok (.map es c) w := by simp [getObj, Sem.run, h]
  unfold Builtin.len_
  simp [run_underlying Tryz.underlying162, hg, goInt]
theorem twice_nil (a : Option Addr) (c : Nat) (w : World) :
    Calls Tryz.prog 125 #[.slice a 0 c] w fun e w' => e = .returned (.bool false) ∧ Below w.heap.size w w' := by
  go_enter Tryz.func125, Tryz.ntmps125
  go_wp2_with fail
  refine (set_nil _ _ _).mono ?_; rintro e w1 ⟨rfl, rfl⟩
  have hl := fun ty => map_len (w.alloc (.map #[] 0)) w.heap.size 0 #[] ty (alloc_blk w _)
  go_wp2
  go_ret
  exact ⟨rfl, (Below.refl _ _).alloc (Nat.le_refl _) _⟩
end Go.Proofs.YtlipfgdjbimfjaaGreatDoor
