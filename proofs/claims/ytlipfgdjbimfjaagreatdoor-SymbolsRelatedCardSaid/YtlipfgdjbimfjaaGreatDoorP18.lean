/- The first example's program in memory; what lies there while Check goes; its rules at that program. -/
import Derived.Test.YtlipfgdjbimfjaaGreatDoorP17
namespace Go.Proofs.YtlipfgdjbimfjaaGreatDoor
open Go.RowKit Go.Shelf Go.Sort
set_option maxRecDepth 100000

def own3 : Nat → Int := fun i => if i = 2 then 1 else -1
def pl3 : Nat → List (Int × Int) := fun i => if i = 1 then [(1, 0), (10, 0)] else [(1, 0)]
/-- A type without a name and arguments in memory. -/
structure Ty0 (w : World) (b o : Nat) (k s : Int) : Prop where
  c0 : w.cell? ⟨b, o, none⟩ = some (.int .i64 k)
  c1 : w.cell? ⟨b, o + 1, none⟩ = some (.int .i64 s)
  c2 : w.cell? ⟨b, o + 2, none⟩ = some (.string ByteArray.empty)
  c3 : w.cell? ⟨b, o + 3, none⟩ = some (.int .i64 0)
  c4 : w.cell? ⟨b, o + 4, none⟩ = some nilS
theorem Ty0.bel {w w' : World} {B b o : Nat} {k s : Int} (h : Ty0 w b o k s) (hb : Below B w w') (ht : b < B) : Ty0 w' b o k s := by
  obtain ⟨c0, c1, c2, c3, c4⟩ := h
  exact ⟨(hb.cell (p := ⟨b, _, none⟩) ht).trans c0, (hb.cell (p := ⟨b, _, none⟩) ht).trans c1, (hb.cell (p := ⟨b, _, none⟩) ht).trans c2, (hb.cell (p := ⟨b, _, none⟩) ht).trans c3, (hb.cell (p := ⟨b, _, none⟩) ht).trans c4⟩
/-- The three classes. nm: the first one's name. -/
structure P3 (w : World) (B cb pa pb pc : Nat) (nm : List UInt8) : Prop where
  a : BC w cb (0 * 13) nm 1 (-1) (.slice (some ⟨pa, 0, none⟩) 1 1)
  b : BC w cb (1 * 13) [66] 2 (-1) (.slice (some ⟨pb, 0, none⟩) 2 2)
  c : BC w cb (2 * 13) [67] 0 1 (.slice (some ⟨pc, 0, none⟩) 1 1)
  ta : Ty0 w pa 0 1 0
  tb : Ty0 w pb 0 1 0
  tb2 : Ty0 w pb 5 10 0
  tc : Ty0 w pc 0 1 0
  cB : cb < B
  aB : pa < B
  bB : pb < B
  dB : pc < B
theorem P3.bel {w w' : World} {B B' cb pa pb pc : Nat} {nm : List UInt8} (h : P3 w B cb pa pb pc nm) (hb : Below B' w w') (hB : B ≤ B') : P3 w' B cb pa pb pc nm := by
  obtain ⟨a, b, c, ta, tb, tb2, tc, cB, aB, bB, dB⟩ := h
  exact ⟨a.bel hb (by omega), b.bel hb (by omega), c.bel hb (by omega), ta.bel hb (by omega), tb.bel hb (by omega), tb2.bel hb (by omega), tc.bel hb (by omega), cB, aB, bB, dB⟩
theorem P3.own {w : World} {B cb pa pb pc : Nat} {nm : List UInt8} (h : P3 w B cb pa pb pc nm) : Owns w cb 0 3 own3 := fun i hi => by
  rw [Nat.zero_add]
  match i, hi with
  | 0, _ => exact h.a.c3
  | 1, _ => exact h.b.c3
  | 2, _ => exact h.c.c3
theorem ty_one {w : World} {B b : Nat} {k s : Int} (h : Ty0 w b 0 k s) (hb : b < B) : TyRow w B (.slice (some ⟨b, 0, none⟩) 1 1) [(k, s)] :=
  ⟨_, _, rfl, by simp, fun _ => ⟨b, 0, rfl, hb, fun j hj => by
    match j, hj with
    | 0, _ => exact ⟨_, _, _, _, _, h.c0, h.c1, h.c2, h.c3, h.c4⟩⟩⟩
theorem P3.par {w : World} {B B' cb pa pb pc : Nat} {nm : List UInt8} (h : P3 w B cb pa pb pc nm) (hB : B ≤ B') : Pars w B' cb 0 3 pl3 := fun i hi => by
  have h1 := h.aB
  have h2 := h.bB
  have h3 := h.dB
  rw [Nat.zero_add]
  match i, hi with
  | 0, _ => exact ⟨_, h.a.c5, ty_one h.ta (by omega)⟩
  | 1, _ => exact ⟨_, h.b.c5, ⟨_, _, rfl, by decide, fun _ => ⟨pb, 0, rfl, by omega, fun j hj => by
      match j, hj with
      | 0, _ => exact ⟨_, _, _, _, _, h.tb.c0, h.tb.c1, h.tb.c2, h.tb.c3, h.tb.c4⟩
      | 1, _ => exact ⟨_, _, _, _, _, h.tb2.c0, h.tb2.c1, h.tb2.c2, h.tb2.c3, h.tb2.c4⟩⟩⟩⟩
  | 2, _ => exact ⟨_, h.c.c5, ty_one h.tc (by omega)⟩

/-- The keys that classOnce lays. -/
def key3 (i : Nat) : Value := if i = 0 then ckey (-1) [65] false else if i = 1 then ckey (-1) [66] true else ckey 1 [67] false
def ents (m : Nat) : Array MapEntry := ((List.range m).map fun j => { key := key3 j, val := .bool true, born := j }).toArray
theorem ents_push (m : Nat) : (ents m).push { key := key3 m, val := .bool true, born := m } = ents (m + 1) := by
  unfold ents
  rw [List.range_succ, List.map_append]
  simp
theorem key_lit (i : Nat) (h : i < 3) : ∃ l, keyOf Tryz.prog 172 (key3 i) = some l := by
  match i, h with
  | 0, _ => exact Option.isSome_iff_exists.1 (by kernel_rfl)
  | 1, _ => exact Option.isSome_iff_exists.1 (by kernel_rfl)
  | 2, _ => exact Option.isSome_iff_exists.1 (by kernel_rfl)
theorem ents_ok (m : Nat) (h : m ≤ 3) : KeysOk (ents m) := by
  intro e he
  simp only [ents, List.toList_toArray, List.mem_map, List.mem_range] at he
  obtain ⟨j, hj, rfl⟩ := he
  exact key_lit j (by omega)
theorem ckey_inj {a b : Int} {s t : List UInt8} {x y : Bool} (h : ckey a s x = ckey b t y) : s = t := by
  simp [ckey] at h
  exact h.2.1
theorem ents_new (m : Nat) (h : m < 3) : ∀ e ∈ (ents m).toList, e.key ≠ key3 m := by
  intro e he
  simp only [ents, List.toList_toArray, List.mem_map, List.mem_range] at he
  obtain ⟨j, hj, rfl⟩ := he
  match m, j, h, hj with
  | 1, 0, _, _ => intro h; exact absurd (ckey_inj h) (by decide)
  | 2, 0, _, _ => intro h; exact absurd (ckey_inj h) (by decide)
  | 2, 1, _, _ => intro h; exact absurd (ckey_inj h) (by decide)

/-- What lies in memory while Check goes. -/
def RC : Array Value := #[.int .i64 1, .func (.func 82) #[] #[], .int .i64 1, .func (.func 83) #[] #[], .int .i64 1, .func (.func 84) #[] #[], .int .i64 1, .func (.func 85) #[] #[], .int .i64 2, .func (.func 86) #[] #[], .int .i64 3, .func (.func 87) #[] #[], .int .i64 4, .func (.func 88) #[] #[], .int .i64 5, .func (.func 89) #[] #[], .int .i64 1, .func (.func 90) #[] #[], .int .i64 3, .func (.func 91) #[] #[], .int .i64 2, .func (.func 92) #[] #[], .int .i64 5, .func (.func 93) #[] #[], .int .i64 4, .func (.func 94) #[] #[]]
theorem rules_any (w : World) : Calls Tryz.prog 59 #[] w fun e w' => e = .returned (.slice (some ⟨w.heap.size, 0, none⟩) 13 13) ∧ w' = w.alloc (.cells RC 118) := by
  go_enter Tryz.func59, Tryz.ntmps59
  go_wp2
  go_ret
  exact ⟨rfl, rfl⟩
structure CI (w0 : World) (B cb m : Nat) (w : World) : Prop where
  bel : Below B w0 w
  res : w.heap[B + 1]? = some (.cells #[.int .i64 0, .int .i64 0, .int .i64 0] 54 (0, 0))
  sizes : w.heap[B + 2]? = some (.cells #[.int .i64 0, .int .i64 3, .int .i64 0, .int .i64 0, .int .i64 0, .int .i64 0] 109 (0, 0))
  map : w.heap[B + 3]? = some (.map (ents m) m)
  tab : w.heap[B + 4]? = some (.cells #[.slice (some ⟨cb, 0, none⟩) 3 3, nilS, nilS, nilS, nilS, .int .i64 (-1), .map (some (B + 3))] 113 (0, 0))
  rul : w.heap[B + 5]? = some (.cells RC 118 (0, 0))
theorem CI.sz {w0 w : World} {B cb m : Nat} (h : CI w0 B cb m w) : B + 6 ≤ w.heap.size := (Array.getElem?_eq_some_iff.1 h.rul).1
theorem CI.of {w0 w w' : World} {B cb m : Nat} (h : CI w0 B cb m w) (hb : Below w.heap.size w w') : CI w0 B cb m w' := by
  have hz := h.sz
  obtain ⟨h1, h2, h3, h4, h5, h6⟩ := h
  exact ⟨h1.trans (hb.mono (by omega)), (hb.block _ (by omega)).trans h2, (hb.block _ (by omega)).trans h3, (hb.block _ (by omega)).trans h4, (hb.block _ (by omega)).trans h5, (hb.block _ (by omega)).trans h6⟩
theorem CI.tt {w0 w : World} {B cb m : Nat} (h : CI w0 B cb m w) : TT w (B + 4) cb 3 (B + 3) :=
  ⟨blk_cell h.tab 0, blk_cell h.tab 1, blk_cell h.tab 2, blk_cell h.tab 3, blk_cell h.tab 4, blk_cell h.tab 5, blk_cell h.tab 6⟩
end Go.Proofs.YtlipfgdjbimfjaaGreatDoor
