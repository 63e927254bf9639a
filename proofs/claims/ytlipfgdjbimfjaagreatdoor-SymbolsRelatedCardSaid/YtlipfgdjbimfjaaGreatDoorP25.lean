/- awake. -/
import Derived.Test.YtlipfgdjbimfjaaGreatDoorP24
import Derived.Test.YtlipfgdjbimfjaaGreatDoorP21
namespace Go.Proofs.YtlipfgdjbimfjaaGreatDoor
open Go.RowKit Go.Shelf Go.Sort
set_option maxRecDepth 100000

/-- The classes' cells. -/
def CLX (B : Nat) : Array Value := #[.string ⟨#[65]⟩, .int .i64 1, .int .i64 0, .int .i64 (-1), .slice none 0 0, .slice (some ⟨B, 0, none⟩) 1 1, .slice none 0 0, .slice none 0 0, .slice none 0 0, .slice none 0 0, .slice none 0 0, .slice none 0 0, .int .i64 0, .string ⟨#[66]⟩, .int .i64 2, .int .i64 0, .int .i64 (-1), .slice none 0 0, .slice (some ⟨B + 1, 0, none⟩) 2 2, .slice none 0 0, .slice none 0 0, .slice none 0 0, .slice none 0 0, .slice none 0 0, .slice none 0 0, .int .i64 0, .string ⟨#[67]⟩, .int .i64 0, .int .i64 0, .int .i64 1, .slice none 0 0, .slice (some ⟨B + 1 + 1, 0, none⟩) 1 1, .slice none 0 0, .slice none 0 0, .slice none 0 0, .slice none 0 0, .slice none 0 0, .slice none 0 0, .int .i64 0]
theorem alloc5 (w : World) (o0 o1 o2 o3 o4 : Obj) : Below w.heap.size w (((((w.alloc o0).alloc o1).alloc o2).alloc o3).alloc o4) ∧ (((((w.alloc o0).alloc o1).alloc o2).alloc o3).alloc o4).heap[w.heap.size]? = some o0 ∧ (((((w.alloc o0).alloc o1).alloc o2).alloc o3).alloc o4).heap[w.heap.size + 1]? = some o1 ∧
    (((((w.alloc o0).alloc o1).alloc o2).alloc o3).alloc o4).heap[w.heap.size + 2]? = some o2 ∧ (((((w.alloc o0).alloc o1).alloc o2).alloc o3).alloc o4).heap[w.heap.size + 3]? = some o3 ∧
    (((((w.alloc o0).alloc o1).alloc o2).alloc o3).alloc o4).heap[w.heap.size + 4]? = some o4 ∧ (((((w.alloc o0).alloc o1).alloc o2).alloc o3).alloc o4).heap.size = w.heap.size + 5 := by
  have h1 : Below w.heap.size w (w.alloc o0) := (Below.refl _ w).alloc (Nat.le_refl _) _
  have h2 : Below w.heap.size w ((w.alloc o0).alloc o1) := h1.alloc (by rw [World.size_alloc]; omega) _
  have h3 : Below w.heap.size w (((w.alloc o0).alloc o1).alloc o2) := h2.alloc (by rw [World.size_alloc, World.size_alloc]; omega) _
  have h4 : Below w.heap.size w ((((w.alloc o0).alloc o1).alloc o2).alloc o3) := h3.alloc (by rw [World.size_alloc, World.size_alloc, World.size_alloc]; omega) _
  have h5 : Below w.heap.size w (((((w.alloc o0).alloc o1).alloc o2).alloc o3).alloc o4) := h4.alloc (by rw [World.size_alloc, World.size_alloc, World.size_alloc, World.size_alloc]; omega) _
  have s1 : (w.alloc o0).heap.size = w.heap.size + 1 := World.size_alloc _ _
  have s2 : ((w.alloc o0).alloc o1).heap.size = w.heap.size + 2 := by rw [World.size_alloc, s1]
  have s3 : (((w.alloc o0).alloc o1).alloc o2).heap.size = w.heap.size + 3 := by rw [World.size_alloc, s2]
  have s4 : ((((w.alloc o0).alloc o1).alloc o2).alloc o3).heap.size = w.heap.size + 4 := by rw [World.size_alloc, s3]
  refine ⟨h5, ?_, ?_, ?_, ?_, ?_, by rw [World.size_alloc, World.size_alloc, World.size_alloc, World.size_alloc, World.size_alloc]⟩
  · rw [Below.heap_alloc _ _ _ (by omega), Below.heap_alloc _ _ _ (by omega), Below.heap_alloc _ _ _ (by omega), Below.heap_alloc _ _ _ (by omega)]
    exact alloc_blk w o0
  · rw [Below.heap_alloc _ _ _ (by omega), Below.heap_alloc _ _ _ (by omega), Below.heap_alloc _ _ _ (by omega)]
    have h := alloc_blk (w.alloc o0) o1
    rw [World.size_alloc] at h; exact h
  · rw [Below.heap_alloc _ _ _ (by omega), Below.heap_alloc _ _ _ (by omega)]
    have h := alloc_blk ((w.alloc o0).alloc o1) o2
    rw [World.size_alloc, World.size_alloc] at h; exact h
  · rw [Below.heap_alloc _ _ _ (by omega)]
    have h := alloc_blk (((w.alloc o0).alloc o1).alloc o2) o3
    rw [World.size_alloc, World.size_alloc, World.size_alloc] at h; exact h
  · have h := alloc_blk ((((w.alloc o0).alloc o1).alloc o2).alloc o3) o4
    rw [World.size_alloc, World.size_alloc, World.size_alloc, World.size_alloc] at h; exact h
/-- The program as awake lays it. -/
structure AW (w : World) (B : Nat) : Prop where
  t0 : w.heap[B]? = some (.cells #[.int .i64 1, .int .i64 0, .string ⟨#[]⟩, .int .i64 0, .slice none 0 0] 58 (0, 0))
  t1 : w.heap[B + 1]? = some (.cells #[.int .i64 1, .int .i64 0, .string ⟨#[]⟩, .int .i64 0, .slice none 0 0, .int .i64 10, .int .i64 0, .string ⟨#[]⟩, .int .i64 0, .slice none 0 0] 58 (0, 0))
  t2 : w.heap[B + 2]? = some (.cells #[.int .i64 1, .int .i64 0, .string ⟨#[]⟩, .int .i64 0, .slice none 0 0] 58 (0, 0))
  cl : w.heap[B + 3]? = some (.cells (CLX B) 36 (0, 0))
  p : w.heap[B + 4]? = some (.cells #[.slice (some ⟨B + 3, 0, none⟩) 3 3, nilS, nilS, nilS, nilS, .int .i64 (-1)] 28 (0, 0))
theorem AW.bel {w w' : World} {B B' : Nat} (h : AW w B) (hb : Below B' w w') (hB : B + 5 ≤ B') : AW w' B :=
  ⟨(hb.block _ (by omega)).trans h.t0, (hb.block _ (by omega)).trans h.t1, (hb.block _ (by omega)).trans h.t2, (hb.block _ (by omega)).trans h.cl, (hb.block _ (by omega)).trans h.p⟩
theorem ty_blk {w : World} {b : Nat} {xs : Array Value} {t : TypeId} (h : w.heap[b]? = some (.cells xs t (0, 0))) (o : Nat) (k s : Int) (h0 : xs[o]? = some (.int .i64 k)) (h1 : xs[o + 1]? = some (.int .i64 s)) (h2 : xs[o + 2]? = some (.string ByteArray.empty)) (h3 : xs[o + 3]? = some (.int .i64 0)) (h4 : xs[o + 4]? = some nilS) : Ty0 w b o k s :=
  ⟨(blk_cell h _).trans h0, (blk_cell h _).trans h1, (blk_cell h _).trans h2, (blk_cell h _).trans h3, (blk_cell h _).trans h4⟩
theorem AW.p3 {w : World} {B : Nat} (h : AW w B) : P3 w (B + 4) (B + 3) B (B + 1) (B + 2) [65] :=
  ⟨⟨blk_cell h.cl 0, blk_cell h.cl 1, blk_cell h.cl 2, blk_cell h.cl 3, blk_cell h.cl 4, blk_cell h.cl 5, blk_cell h.cl 6, blk_cell h.cl 7, blk_cell h.cl 8, blk_cell h.cl 9⟩, ⟨blk_cell h.cl 13, blk_cell h.cl 14, blk_cell h.cl 15, blk_cell h.cl 16, blk_cell h.cl 17, blk_cell h.cl 18, blk_cell h.cl 19, blk_cell h.cl 20, blk_cell h.cl 21, blk_cell h.cl 22⟩, ⟨blk_cell h.cl 26, blk_cell h.cl 27, blk_cell h.cl 28, blk_cell h.cl 29, blk_cell h.cl 30, blk_cell h.cl 31, blk_cell h.cl 32, blk_cell h.cl 33, blk_cell h.cl 34, blk_cell h.cl 35⟩,
   ty_blk h.t0 0 _ _ rfl rfl rfl rfl rfl, ty_blk h.t1 0 _ _ rfl rfl rfl rfl rfl, ty_blk h.t1 5 _ _ rfl rfl rfl rfl rfl, ty_blk h.t2 0 _ _ rfl rfl rfl rfl rfl, by omega, by omega, by omega, by omega⟩
theorem P3.mono {w : World} {B B' cb pa pb pc : Nat} {nm : List UInt8} (h : P3 w B cb pa pb pc nm) (hB : B ≤ B') : P3 w B' cb pa pb pc nm :=
  ⟨h.a, h.b, h.c, h.ta, h.tb, h.tb2, h.tc, Nat.lt_of_lt_of_le h.cB hB, Nat.lt_of_lt_of_le h.aB hB, Nat.lt_of_lt_of_le h.bB hB, Nat.lt_of_lt_of_le h.dB hB⟩
def nm3 : Nat → List UInt8 := fun i => if i = 0 then [65] else if i = 1 then [66] else [67]
def kd3 : Nat → Int := fun i => if i = 0 then 1 else if i = 1 then 2 else 0
theorem P3.nms {w : World} {B cb pa pb pc : Nat} (h : P3 w B cb pa pb pc [65]) : Nms w cb 0 3 nm3 kd3 := fun i hi => by
  rw [Nat.zero_add]
  match i, hi with
  | 0, _ => exact ⟨h.a.c0, h.a.c1⟩
  | 1, _ => exact ⟨h.b.c0, h.b.c1⟩
  | 2, _ => exact ⟨h.c.c0, h.c.c1⟩
theorem full3 : Lib.join (partsM own3 nm3 kd3 3 2) [46] = [66, 35, 46, 67] := by decide
theorem nm3_len (i : Nat) (h : i < 3) : (nm3 i).length ≤ 1000 := by
  match i, h with
  | 0, _ => decide
  | 1, _ => decide
  | 2, _ => decide
theorem name3 (w : World) (B : Nat) (hA : AW w B) : Calls Tryz.prog 23 #[PV (B + 3) 0 3 3 nilS nilS nilS nilS (.int .i64 (-1)), .int .i64 2] w fun e w' => e = .returned (.tuple #[.string ⟨#[66, 35, 46, 67]⟩, .int .i64 0]) ∧ Below w.heap.size w w' := by
  have h := fullName_in (B + 3) 0 3 3 2 own3 nm3 kd3 nilS nilS nilS nilS (.int .i64 (-1)) w (by omega) (by omega) (by omega) (Array.getElem?_eq_some_iff.1 hA.cl).1 hA.p3.own hA.p3.nms nm3_len (by decide)
  rw [full3] at h
  exact h
theorem anc3b (w : World) (B : Nat) (hA : AW w B) : Calls Tryz.prog 19 #[PV (B + 3) 0 3 3 nilS nilS nilS nilS (.int .i64 (-1)), .int .i64 1] w (RetI w [0]) := by
  have h := ancestors_in (B + 3) 0 3 3 1 pl3 nilS nilS nilS nilS (.int .i64 (-1)) w (by omega) (by omega) (Array.getElem?_eq_some_iff.1 hA.cl).1 (hA.p3.par (by have := (Array.getElem?_eq_some_iff.1 hA.p).1; omega))
  rw [anc3 1 (by omega)] at h
  rw [show srt (ints (if 1 = 1 then [0] else [])) = [0] by simp [srt]] at h
  exact h
end Go.Proofs.YtlipfgdjbimfjaaGreatDoor
