/- The walks of put and putName. -/
import Derived.Test.YtkfkgdkfgpofnaaDoorA2
import Derived.Test.YtkfkgdkfgpofnaaDoorD0
import Derived.Deep.RegionLaw
namespace Go.Proofs.YtkfkgdkfgpofnaaDoor
open Go.RowKit
set_option maxRecDepth 100000

theorem info32 : (Tryd.prog.info? 32).map (fun i => (i.zero, i.size, i.bytes)) = some (some (.agg #[.int .i64 0, .string ByteArray.empty, .int .i64 0, .int .i64 0, .int .i64 0]), 5, 48) := by kernel_rfl

/-- What a method that adds tokens comes to. -/
def Put (b : Nat) (s : ByteArray) (w0 : World) (p l g : Nat) (out : List Tok) (op : List Br) (e : Ending) (w' : World) : Prop :=
  e = .returned (.tuple #[]) ∧ ∃ vo vp, Rd b s w0 w' p l g out op vo vp

set_option maxHeartbeats 1000000 in
theorem put_any (b : Nat) (s : ByteArray) (w0 : World) (p line beg : Nat) (vo vp : Value) (out : List Tok) (op : List Br) (k : Int) (x : ByteArray) (st en : Nat) (w : World) (hr : Rd b s w0 w p line beg out op vo vp)
    (hlen : out.length ≤ 1000000) (hst : st < 1000000) (hen : en < 1000000) (hbe : beg < 1000000) :
    Calls Tryd.prog 48 #[.pointer (some ⟨b, 0, none⟩), .int .i64 k, .string x, .int .i64 st, .int .i64 en] w (Put b s w0 en line beg (out ++ [⟨k, x, st, line, (st : Int) - beg⟩]) op) := by
  have hsub : IntKind.i64.wrap ((st : Int) - beg) = (st : Int) - beg := IntWalk.i64_in _ (by omega)
  obtain ⟨t, ht⟩ : ∃ t : Tok, t = ⟨k, x, st, line, (st : Int) - beg⟩ := ⟨_, rfl⟩
  obtain ⟨c0, c1, c2, c3, c4, c5, f1, f2, f3, f4, f5⟩ := rc hr.blk
  obtain ⟨i0, hi, hz0, hz1, hz2⟩ := info_parts info32
  rw [show (⟨k, x, st, line, (st : Int) - beg⟩ : Tok) = t from ht.symm]
  have HT := Lib.hid ht
  clear ht
  have HR := Lib.hid hr
  have hlt := lt_of_block hr.blk
  clear hr
  go_enter Tryd.func48, Tryd.ntmps48
  go_wp2
  go_region_law (first
    | (refine step_append_lies _ rfl _ _ 23 rfl (b + 1) 32 i0 (.agg #[.int .i64 0, .string ByteArray.empty, .int .i64 0, .int .i64 0, .int .i64 0]) 5 48 Tryd.underlying23 hi hz0 hz1 hz2 rfl (by decide) vo out.length (out.flatMap Tok.cells) rfl (by exact HR.out.own.alloc _) ⟨w.heap.size, 0, none⟩ 1 1 t.cells rfl rfl (by rw [HT.out]; exact tok_row w ⟨k, x, st, line, (st : Int) - beg⟩ 32) (tok_one t) (by decide) (by unfold maxLen; omega) (by omega) (by simp; omega) (w.heap.size + 1) (by simp) ?_; intro gg cap w3 hown' hgrow hat hltg; have HG := Lib.hid (And.intro hown' (And.intro hgrow hat)); clear hown' hgrow hat; obtain ⟨c0', c1', c2', c3', c4', c5', f1', f2', f3', f4', f5'⟩ := rc (HR.out.blk3 _ (by rfl) HG.out.2.1)))
  all_goals
    go_wp2
    go_end0
    exact ⟨rfl, _, _, HR.out.put2 (by rfl) (by rfl) (by rfl) (by rfl) HG.out.1 HG.out.2.1 HG.out.2.2⟩

/-- What putName comes to. -/
def PutN (b : Nat) (s : ByteArray) (w0 : World) (p l g : Nat) (out : List Tok) (op : List Br) (x : ByteArray) (st : Int) (e : Ending) (w' : World) : Prop :=
  if 64 < x.size then e = .panicked [{ v := .iface 26 (.agg #[.int .i64 st, .int .i64 18]), recovered := false }] ∧ Below b w0 w'
  else Put b s w0 p l g out op e w'

theorem putName_any (b : Nat) (s : ByteArray) (w0 : World) (p line beg : Nat) (vo vp : Value) (out : List Tok) (op : List Br) (k : Int) (x : ByteArray) (st en : Nat) (w : World) (hr : Rd b s w0 w p line beg out op vo vp)
    (hlen : out.length ≤ 1000000) (hst : st < 1000000) (hen : en < 1000000) (hbe : beg < 1000000) :
    Calls Tryd.prog 50 #[.pointer (some ⟨b, 0, none⟩), .int .i64 k, .string x, .int .i64 st, .int .i64 en] w (PutN b s w0 en line beg (out ++ [⟨k, x, st, line, (st : Int) - beg⟩]) op x st) := by
  have HR := Lib.hid hr
  clear hr
  by_cases hx : 64 < x.size
  · have HX := Lib.hid hx
    go_enter Tryd.func50, Tryd.ntmps50
    go_wp2_with (go_at_call 18; refine (fail_any _ _ _).mono ?_; rintro e w' ⟨rfl, rfl⟩)
    refine ⟨rfl, ?_⟩
    unfold PutN
    rw [if_pos HX.out]
    exact ⟨rfl, HR.out.bel⟩
  · have HX := Lib.hid hx
    go_enter Tryd.func50, Tryd.ntmps50
    go_wp2_with fail
    refine (put_any b s w0 p line beg vo vp out op k x st en _ HR.out hlen hst hen hbe).mono ?_
    intro e w1 h1
    have H1 := Lib.hid h1
    obtain ⟨rfl, hex⟩ := h1
    clear hex
    go_wp2
    go_end0
    unfold PutN
    rw [if_neg HX.out]
    exact H1.out
end Go.Proofs.YtkfkgdkfgpofnaaDoor
