/- ownName. -/
import Derived.Test.YtlipfgdjbimfjaaGreatDoorP14
namespace Go.Proofs.YtlipfgdjbimfjaaGreatDoor
open Go.RowKit Go.Shelf Go.Sort
set_option maxRecDepth 100000

def ownM (nm : List UInt8) (k : Int) : List UInt8 := if k = 2 then nm ++ [35] else nm
theorem ownName_any (cb o : Nat) (nm : List UInt8) (k : Int) (w : World) (c0 : w.cell? ⟨cb, o, none⟩ = some (.string (bs nm))) (c1 : w.cell? ⟨cb, o + 1, none⟩ = some (.int .i64 k)) (hl : nm.length ≤ 100000) :
    Calls Tryz.prog 48 #[.pointer (some ⟨cb, o, none⟩)] w fun e w' => e = .returned (.string (bs (ownM nm k))) ∧ w = w' := by
  by_cases h : k = 2
  · subst h
    have HE : Hid (ownM nm 2 = nm ++ [35]) := Lib.hid rfl
    go_enter Tryz.func48, Tryz.ntmps48
    go_wp2
    go_ret
    rw [HE.out]
    exact ⟨congrArg (fun x => Ending.returned (Value.string x)) (ByteArray.ext (by simp [bs])), rfl⟩
  · have HE : Hid (ownM nm k = nm) := Lib.hid (by unfold ownM; rw [if_neg h])
    have hk : (k == 2) = false := by simpa using h
    clear h
    go_enter Tryz.func48, Tryz.ntmps48
    go_wp2
    go_ret
    rw [HE.out]
    exact ⟨rfl, rfl⟩
end Go.Proofs.YtlipfgdjbimfjaaGreatDoor
