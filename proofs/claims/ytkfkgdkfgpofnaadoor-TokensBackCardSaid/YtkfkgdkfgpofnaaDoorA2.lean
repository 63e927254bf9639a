/- The walks of the reader's small methods: lineFeed, ahead. -/
import Derived.Test.YtkfkgdkfgpofnaaDoorA0
import Derived.Test.YtkfkgdkfgpofnaaDoorA1
namespace Go.Proofs.YtkfkgdkfgpofnaaDoor
open Go.RowKit
set_option maxRecDepth 100000

theorem drop_take (s : ByteArray) (q : Nat) : List.take (s.size - q) (List.drop q s.data.toList) = List.drop q s.data.toList := by
  apply List.take_of_length_le
  rw [List.length_drop, Array.length_toList]
  exact Nat.le_refl _

/-- Does u stand at q? -/
def ah (s : ByteArray) (q : Nat) (u : ByteArray) : Bool := Lib.hasPrefix (s.data.toList.drop q) u.data.toList

theorem lineFeed_any (b : Nat) (s : ByteArray) (p line beg : Nat) (vo vp : Value) (w : World) (hb : w.heap[b]? = some (RB s p line beg vo vp)) (hp : p < 1000000) (hl : line < 1000000) :
    Calls Tryd.prog 24 #[.pointer (some ⟨b, 0, none⟩)] w fun e w' => e = .returned (.tuple #[]) ∧ w'.heap[b]? = some (RB s (p + 1) (line + 1) (p + 1) vo vp) ∧ Fr b w w' := by
  obtain ⟨c0, c1, c2, c3, c4, c5, f1, f2, f3, f4, f5⟩ := rc hb
  have HB := Lib.hid hb
  clear hb
  go_enter Tryd.func24, Tryd.ntmps24
  go_wp2
  go_end0
  exact ⟨rfl, rb_beg (rb_line (rb_at HB.out (p + 1)) (line + 1)) (p + 1), (((Fr.refl _ _).set _ _).set _ _).set _ _⟩

theorem ahead_any (b : Nat) (s : ByteArray) (p line beg : Nat) (vo vp : Value) (q : Nat) (u : ByteArray) (w : World) (hb : w.heap[b]? = some (RB s p line beg vo vp)) (hq : q ≤ s.size) :
    Calls Tryd.prog 26 #[.pointer (some ⟨b, 0, none⟩), .int .i64 q, .string u] w fun e w' => e = .returned (.bool (ah s q u)) ∧ w = w' := by
  obtain ⟨c0, c1, c2, c3, c4, c5, f1, f2, f3, f4, f5⟩ := rc hb
  clear hb
  go_enter Tryd.func26, Tryd.ntmps26
  go_wp2_with (go_at_call 46; refine (Tryd.strings_HasPrefix _ _ _).mono ?_; rintro e w' ⟨rfl, rfl⟩)
  go_ret
  refine ⟨ret_bool ?_, rfl⟩
  rw [drop_take]
  rfl

/-- The byte at a place. -/
def bt (s : ByteArray) (q : Nat) : Nat := (s.data.toList.getD q 0).toNat
theorem bt_eq (s : ByteArray) (q : Nat) (h : q < s.size) : (s[q]'h).toNat = bt s q := by
  unfold bt
  rw [List.getD_eq_getElem?_getD, Array.getElem?_toList]
  rw [Array.getElem?_eq_getElem (show q < s.data.size from h)]
  rfl

theorem fail_any (p c : Int) (w : World) :
    Calls Tryd.prog 18 #[.int .i64 p, .int .i64 c] w fun e w' => e = .panicked [{ v := .iface 26 (.agg #[.int .i64 p, .int .i64 c]), recovered := false }] ∧ w = w' := by
  go_enter Tryd.func18, Tryd.ntmps18
  go_wp2
  exact ⟨rfl, rfl, rfl⟩

def hexd : ByteArray := ⟨#[48, 49, 50, 51, 52, 53, 54, 55, 56, 57, 97, 98, 99, 100, 101, 102]⟩
def hexv (c : Nat) : Int := Lib.indexByte [48, 49, 50, 51, 52, 53, 54, 55, 56, 57, 97, 98, 99, 100, 101, 102] c.toUInt8
theorem indexByte_lo (l : List UInt8) (c : UInt8) : -1 ≤ Lib.indexByte l c := by
  induction l with
  | nil => simp [Lib.indexByte]
  | cons b l ih => 
    simp only [Lib.indexByte]
    split
    · omega
    · split <;> omega
theorem indexByte_hi (l : List UInt8) (c : UInt8) : Lib.indexByte l c < l.length ∨ Lib.indexByte l c = -1 := by
  induction l with
  | nil => simp [Lib.indexByte]
  | cons b l ih => 
    simp only [Lib.indexByte, List.length_cons]
    split
    · left; omega
    · split
      · right; rfl
      · rename_i h; simp at h; omega
theorem hexv_bd (c : Nat) : -1 ≤ hexv c ∧ hexv c < 16 := by
  refine ⟨indexByte_lo _ _, ?_⟩
  rcases indexByte_hi [48, 49, 50, 51, 52, 53, 54, 55, 56, 57, 97, 98, 99, 100, 101, 102] c.toUInt8 with h | h
  · simpa [hexv] using h
  · unfold hexv; rw [h]; omega
theorem hexidx_any (c : Nat) (w : World) : Calls Tryd.prog 68 #[.string ⟨#[48, 49, 50, 51, 52, 53, 54, 55, 56, 57, 97, 98, 99, 100, 101, 102]⟩, .int .u8 c] w fun e w' => e = .returned (.int .i64 (hexv c)) ∧ w = w' :=
  (Tryd.strings_IndexByte _ _ _).mono fun _ _ ⟨h1, h2⟩ => ⟨h1, h2.symm⟩

/-- The value of a hexadecimal digit at a place. -/
def mhex (s : ByteArray) (p : Nat) : Option Int := if p < s.size ∧ 0 ≤ hexv (bt s p) then some (hexv (bt s p)) else none

/-- What a reading of one byte comes to: a byte and a new place, or the fault of the literal. -/
def One (b : Nat) (s : ByteArray) (line beg : Nat) (vo vp : Value) (st : Int) (r : Option (Int × Nat)) (w : World) (e : Ending) (w' : World) : Prop :=
  match r with
  | some (v, q) => e = .returned (.int .u8 v) ∧ w'.heap[b]? = some (RB s q line beg vo vp) ∧ Fr b w w'
  | none => e = .panicked [{ v := .iface 26 (.agg #[.int .i64 st, .int .i64 27]), recovered := false }] ∧ Fr b w w'

theorem hex_any (b : Nat) (s : ByteArray) (p line beg : Nat) (vo vp : Value) (st : Int) (w : World) (hb : w.heap[b]? = some (RB s p line beg vo vp)) (hs : s.size < 1000000) (hp : p < 2000000) :
    Calls Tryd.prog 73 #[.pointer (some ⟨b, 0, none⟩), .int .i64 st] w (One b s line beg vo vp st ((mhex s p).map fun v => (v, p + 1)) w) := by
  obtain ⟨c0, c1, c2, c3, c4, c5, f1, f2, f3, f4, f5⟩ := rc hb
  have HB := Lib.hid hb
  clear hb
  by_cases hlt : p < s.size
  · have e := bt_eq s p hlt
    obtain ⟨hb1, hb2⟩ := hexv_bd (bt s p)
    by_cases hx : 0 ≤ hexv (bt s p)
    · have HR : Hid (mhex s p = some (hexv (bt s p))) := by show mhex s p = _; simp [mhex, hlt, hx]
      go_enter Tryd.func73, Tryd.ntmps73
      go_wp2
      go_quiet (fail)
      go_wp2
      go_quiet ((go_at_call 68; exact quiet_add_left (hexidx_any _ _)))
      go_wp2
      go_ret
      rw [HR.out]
      exact ⟨ret_int (by simp), rb_at HB.out (p + 1), ((Fr.refl _ _).drewN _).set _ _⟩
    · have HR : Hid (mhex s p = none) := by show mhex s p = _; simp [mhex, hx]
      go_enter Tryd.func73, Tryd.ntmps73
      go_wp2
      go_quiet (fail)
      go_wp2
      go_quiet ((go_at_call 68; exact quiet_add_left (hexidx_any _ _)))
      go_wp2_with (go_at_call 18; refine (fail_any _ _ _).mono ?_; rintro e w' ⟨rfl, rfl⟩)
      refine ⟨rfl, ?_⟩
      rw [HR.out]
      exact ⟨rfl, (Fr.refl _ _).drewN _⟩
  · have HR : Hid (mhex s p = none) := by show mhex s p = _; simp [mhex, hlt]
    go_enter Tryd.func73, Tryd.ntmps73
    go_wp2
    go_quiet (fail)
    go_wp2_with (go_at_call 18; refine (fail_any _ _ _).mono ?_; rintro e w' ⟨rfl, rfl⟩)
    refine ⟨rfl, ?_⟩
    rw [HR.out]
    exact ⟨rfl, (Fr.refl _ _).drewN _⟩
end Go.Proofs.YtkfkgdkfgpofnaaDoor
