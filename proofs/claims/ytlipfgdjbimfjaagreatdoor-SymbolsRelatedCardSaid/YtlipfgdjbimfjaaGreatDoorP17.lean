/- classOnce. -/
import Derived.Test.YtlipfgdjbimfjaaGreatDoorP16
namespace Go.Proofs.YtlipfgdjbimfjaaGreatDoor
open Go.RowKit Go.Shelf Go.Sort
set_option maxRecDepth 100000

/-- A class's key. -/
abbrev ckey (owner : Int) (nm : List UInt8) (b : Bool) : Value := .agg #[.int .i64 1, .int .i64 owner, .int .i64 0, .string (bs nm), .bool b]
set_option maxHeartbeats 1000000 in
theorem classOnce_ok (tb cb n mb c i : Nat) (nm : List UInt8) (kind owner : Int) (ob : Bool) (pv : Value) (l : Lit) (es : Array MapEntry) (w : World) (hT : TT w tb cb n mb) (hM : w.heap[mb]? = some (.map es c)) (hi : i < n) (hB : BC w cb (i * 13) nm kind owner pv)
    (hob : (kind == 2) = ob) (hk : keyOf Tryz.prog 172 (ckey owner nm ob) = some l) (he : KeysOk es) (hne : ∀ e ∈ es.toList, e.key ≠ ckey owner nm ob) :
    Calls Tryz.prog 90 #[.pointer (some ⟨tb, 0, none⟩), .int .i64 i] w fun e w' => e = .returned (.int .i64 0) ∧
      w'.heap[mb]? = some (.map (es.push { key := ckey owner nm ob, val := .bool true, born := c }) (c + 1)) ∧ w.grownBy w' (some mb) := by
  obtain ⟨W, hW⟩ : ∃ W, w.drew = W := ⟨_, rfl⟩
  have hT2 : TT W tb cb n mb := by rw [← hW]; exact ⟨hT.c0, hT.c1, hT.c2, hT.c3, hT.c4, hT.c5, hT.c6⟩
  have hM2 : W.heap[mb]? = some (.map es c) := by rw [← hW]; exact hM
  have cO := once_ok tb cb n mb c 1 owner 0 (bs nm) ob l es W hT2 hM2 hk he hne
  have hgW : w.grownBy W (some mb) := by rw [← hW]; exact ⟨rfl, rfl, rfl, Nat.le_refl _, fun _ _ _ => rfl⟩
  have HGW := Lib.hid hgW
  have HW := Lib.hid hW
  obtain ⟨a0, a1, a2, a3, a4, a5, a6⟩ := hT
  obtain ⟨c0, c1, c2, c3, c4, c5, c6, c7, c8, c9⟩ := hB
  clear hT2 hM2 hM hk he hne hgW hW
  go_enter Tryz.func90, Tryz.ntmps90
  go_wp2
  go_still_tail 15, (by kernel_rfl)
  change wpList _ _ _ _ _ (World.drew _)
  rw [HW.out]
  go_wp2_with fail
  refine cO.mono ?_
  rintro e w2 ⟨rfl, h2, hg2⟩
  have H2 := Lib.hid h2
  have HG2 := Lib.hid (HGW.out.trans hg2)
  clear cO h2 hg2
  go_wp2
  go_ret
  exact ⟨rfl, H2.out, HG2.out⟩
end Go.Proofs.YtlipfgdjbimfjaaGreatDoor
