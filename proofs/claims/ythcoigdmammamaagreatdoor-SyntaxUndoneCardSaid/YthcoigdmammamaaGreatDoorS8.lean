/- Renaming there and back; placeOf; addresses of lists. -/
import Derived.Test.YthcoigdmammamaaGreatDoorS7
import Derived.LaidEql
namespace Go.Proofs.YthcoigdmammamaaGreatDoor
open Go.RowKit Go.Shelf
set_option maxRecDepth 100000

mutual
/-- The names that occur. -/
def Nd.names : Nd → List (List UInt8)
  | .mk k s _ l _ => (if k == 30 || k == 19 then [s.toList] else []) ++ namesL l
def namesL : List Nd → List (List UInt8)
  | [] => []
  | x :: r => x.names ++ namesL r
end
theorem bytes_ext {a b : ByteArray} (h : a.toList = b.toList) : a = b := by
  have h1 : a.data.toList = b.data.toList := by
    rw [ByteArray.toList_eq, ByteArray.toList_eq] at h
    exact h
  cases a; cases b
  congr 1
  exact Array.toList_inj.1 h1
mutual
theorem ren_back (f t : ByteArray) (hne : f.toList ≠ t.toList) : ∀ x : Nd, t.toList ∉ x.names → ren t f (ren f t x) = x
  | .mk k s n l a => by
    intro h
    rw [Nd.names, List.mem_append] at h
    have h1 := renL_back f t hne l (fun e => h (.inr e))
    rw [ren, ren, h1]
    cases hk : (k == 30 || k == 19) with
    | false => simp
    | true =>
      rw [hk] at h
      have h2 : s.toList ≠ t.toList := fun e => h (.inl (by simp [e]))
      by_cases h3 : s.toList = f.toList
      · have h4 : s = f := bytes_ext h3
        simp [h4]
      · simp [h3, h2]
theorem renL_back (f t : ByteArray) (hne : f.toList ≠ t.toList) : ∀ l : List Nd, t.toList ∉ namesL l → renL t f (renL f t l) = l
  | [] => fun _ => rfl
  | x :: r => by
    intro h
    rw [namesL, List.mem_append] at h
    show ren t f (ren f t x) :: renL t f (renL f t r) = x :: r
    rw [ren_back f t hne x (fun e => h (.inl e)), renL_back f t hne r (fun e => h (.inr e))]
end

/-- The addresses of a new block and of another one differ. -/
theorem addr_new {P : Program} (w : World) {a b : Addr} {ca cb : Array Value} {ta tb : TypeId} {fr : Nat × Nat} (hne : a.block ≠ b.block) (ha : w.heap[a.block]? = some (.cells ca ta (0, 0))) (hb : w.heap[b.block]? = some (.cells cb tb fr)) (hz : 0 < cb.size) :
    (sameAddr a b).run P w = .ok false w := by
  obtain ⟨lo, hi⟩ := fr
  have h0 : cb.size ≠ 0 := by omega
  simp [sameAddr, hne, World.frozen?, ha, hb, noView, viewAt, World.shape?, mayBeOne, stringish, h0]

theorem results41_run (tmps : Array Value) (W : World) (F : Nat) (c0 c1 : Value) (h2 : tmps[2]?.getD undef = .pointer (some ⟨F, 0, none⟩)) (hF : W.heap[F]? = some (.cells #[c0, c1] 87 (0, 0))) :
    (results Tryz.f41 tmps).run Tryz.prog W = .ok (.agg #[c0, c1]) W := by
  have r0 : W.cell? ⟨F, 0, none⟩ = some c0 := blk_cell hF 0
  have r1 : W.cell? ⟨F, 1, none⟩ = some c1 := blk_cell hF 1
  simp [results, Tryz.results41, go_sem, h2, r0, r1]

set_option maxHeartbeats 2000000 in
theorem placeOf_any (b off n cap : Nat) (w : World) (hn : 0 < n) :
    Calls Tryz.prog 41 #[.slice (some ⟨b, off, none⟩) n cap] w fun e w' => e = .returned (.agg #[.pointer (some ⟨b, off, none⟩), .int .i64 n]) ∧ Below w.heap.size w w' := by
  have h0 : (0 : Int) < (n : Int) := by omega
  go_enter Tryz.func41, Tryz.ntmps41
  go_wp2
  refine bodyPost_ret (v := .agg #[.pointer (some ⟨b, off, none⟩), .int .i64 n]) (results41_run _ _ w.heap.size _ _ rfl (alloc_blk w _)) rfl ⟨rfl, (Below.refl _ w).alloc (Nat.le_refl _) _⟩
end Go.Proofs.YthcoigdmammamaaGreatDoor
