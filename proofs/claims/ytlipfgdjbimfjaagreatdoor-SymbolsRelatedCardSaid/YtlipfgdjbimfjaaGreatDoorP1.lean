/- IsName of the program and of the reference. -/
import Derived.Test.YtlipfgdjbimfjaaGreatDoorP0
namespace Go.Proofs.YtlipfgdjbimfjaaGreatDoor
open Go.RowKit Go.Shelf
set_option maxRecDepth 100000

abbrev bs (l : List UInt8) : ByteArray := ⟨l.toArray⟩
def opsL : List UInt8 := [43, 45, 42, 47, 37, 60, 62, 61, 33, 38, 124, 94, 126, 58, 63]
def wordL : List UInt8 := [97, 98, 99, 100, 101, 102, 103, 104, 105, 106, 107, 108, 109, 110, 111, 112, 113, 114, 115, 116, 117, 118, 119, 120, 121, 122, 65, 66, 67, 68, 69, 70, 71, 72, 73, 74, 75, 76, 77, 78, 79, 80, 81, 82, 83, 84, 85, 86, 87, 88, 89, 90, 95, 36, 48, 49, 50, 51, 52, 53, 54, 55, 56, 57]
def digL : List UInt8 := [48, 49, 50, 51, 52, 53, 54, 55, 56, 57]
def letN (c : Int) : Bool := (decide (97 ≤ c) && decide (c ≤ 122)) || (decide (65 ≤ c) && decide (c ≤ 90)) || c == 95 || c == 36
def digN (c : Int) : Bool := decide (48 ≤ c) && decide (c ≤ 57)
theorem inB_word (c : UInt8) : inB wordL c = (letN c.toNat || digN c.toNat) := by
  have h : ∀ n : Fin 256, inB wordL (UInt8.ofNat n.val) = (letN ((UInt8.ofNat n.val).toNat) || digN ((UInt8.ofNat n.val).toNat)) := by decide +kernel
  have := h ⟨c.toNat, c.toNat_lt⟩
  simpa using this
theorem inB_dig (c : UInt8) : inB digL c = digN c.toNat := by
  have h : ∀ n : Fin 256, inB digL (UInt8.ofNat n.val) = digN ((UInt8.ofNat n.val).toNat) := by decide +kernel
  have := h ⟨c.toNat, c.toNat_lt⟩
  simpa using this
theorem inB_ops (c : UInt8) : inB opsL c = opsL.contains c := by
  have h : ∀ n : Fin 256, inB opsL (UInt8.ofNat n.val) = opsL.contains (UInt8.ofNat n.val) := by decide +kernel
  have := h ⟨c.toNat, c.toNat_lt⟩
  simpa using this

/-- The name's rule, as the program asks it. -/
def nameM (l : List UInt8) : Bool := !l.isEmpty && decide (l.length ≤ 64) && (allB opsL l || (allB wordL l && !allB digL (l.take 1)))

theorem bs_size (l : List UInt8) : (bs l).size = l.length := rfl
theorem bs_list (l : List UInt8) : (bs l).data.toList = l := rfl
theorem bs_of (s : ByteArray) : bs s.data.toList = s := by cases s; rfl
theorem consists_bs (l b : List UInt8) (w : World) (hs : l.length ≤ 140737488351232) :
    Calls Tryz.prog 147 #[.string (bs l), .string ⟨b.toArray⟩] w fun e w' => e = .returned (.bool (allB b l)) ∧ w = w' := consists_any (bs l) (bs b) w hs
theorem head_ex (c : UInt8) (r : List UInt8) : (bs (c :: r)).extract 0 1 = bs [c] := by
  apply ByteArray.ext
  simp [bs]
set_option maxHeartbeats 400000 in
theorem isName_any (l : List UInt8) (w : World) (hs : l.length ≤ 140737488351232) :
    Calls Tryz.prog 121 #[.string (bs l)] w fun e w' => e = .returned (.bool (nameM l)) ∧ w = w' := by
  match l with
  | [] =>
    go_enter Tryz.func121, Tryz.ntmps121
    go_wp2
    go_ret
    exact ⟨rfl, rfl⟩
  | c :: r =>
    by_cases h64 : (c :: r).length ≤ 64
    · have h1 : nameM (c :: r) = (allB opsL (c :: r) || (allB wordL (c :: r) && !allB digL ((c :: r).take 1))) := by
        unfold nameM; simp only [List.isEmpty_cons, h64]; simp
      have H1 := Lib.hid h1
      have hd : decide (64 < (r.length : Int) + 1) = false := by simp at h64 ⊢; omega
      clear h1
      cases hb : allB opsL (c :: r) with
      | true =>
        have HB := Lib.hid hb
        clear hb
        go_enter Tryz.func121, Tryz.ntmps121
        go_wp2_with (go_at_call 147; refine (consists_bs (c :: r) opsL _ hs).mono ?_; rintro e w' ⟨rfl, rfl⟩; rw [HB.out])
        go_ret
        exact ⟨ret_bool (by rw [H1.out, HB.out]; rfl), rfl⟩
      | false =>
        have HB := Lib.hid hb
        clear hb
        cases hb2 : allB wordL (c :: r) with
        | false =>
          have HB2 := Lib.hid hb2
          clear hb2
          go_enter Tryz.func121, Tryz.ntmps121
          go_wp2_with fail
          refine (consists_bs (c :: r) opsL _ hs).mono ?_; rintro e w' ⟨rfl, rfl⟩; rw [HB.out]
          go_wp2_with fail
          refine (consists_bs (c :: r) wordL _ hs).mono ?_; rintro e w' ⟨rfl, rfl⟩; rw [HB2.out]
          go_wp2
          go_ret
          exact ⟨ret_bool (by rw [H1.out, HB.out, HB2.out]; rfl), rfl⟩
        | true =>
          have HB2 := Lib.hid hb2
          clear hb2
          go_enter Tryz.func121, Tryz.ntmps121
          go_wp2_with fail
          refine (consists_bs (c :: r) opsL _ hs).mono ?_; rintro e w' ⟨rfl, rfl⟩; rw [HB.out]
          go_wp2_with fail
          refine (consists_bs (c :: r) wordL _ hs).mono ?_; rintro e w' ⟨rfl, rfl⟩; rw [HB2.out]
          go_wp2_with fail
          rw [head_ex c r]
          refine (consists_bs [c] digL _ (by simp)).mono ?_; rintro e w' ⟨rfl, rfl⟩
          go_wp2
          go_ret
          exact ⟨ret_bool (by rw [H1.out, HB.out, HB2.out]; rfl), rfl⟩
    · have HN : Hid (nameM (c :: r) = false) := Lib.hid (by unfold nameM; simp only [h64]; simp)
      have hd : decide (64 < (r.length : Int) + 1) = true := by simp at h64 ⊢; omega
      go_enter Tryz.func121, Tryz.ntmps121
      go_wp2
      go_ret
      exact ⟨ret_bool HN.out.symm, rfl⟩

/-- The reference's two flags behind a part of the bytes. -/
def wordK (l : List UInt8) : Bool := match l with | [] => true | c :: r => letN c.toNat && r.all (fun x => letN x.toNat || digN x.toNat)
def signK (l : List UInt8) : Bool := l.all fun c => opsL.contains c
def nameR (l : List UInt8) : Bool := !l.isEmpty && decide (l.length ≤ 64) && (wordK l || signK l)
theorem letdig (c : Int) : (letN c && digN c) = false := by
  unfold letN digN
  by_cases h1 : 48 ≤ c <;> by_cases h2 : c ≤ 57 <;> simp [h1, h2] <;> omega
theorem name_eq (l : List UInt8) : nameR l = nameM l := by
  unfold nameR nameM
  match l with
  | [] => rfl
  | c :: r =>
    congr 1
    have h1 : allB opsL (c :: r) = signK (c :: r) := by unfold allB signK; congr 1; funext x; exact inB_ops x
    have h2 : allB wordL (c :: r) = ((letN c.toNat || digN c.toNat) && r.all (fun x => letN x.toNat || digN x.toNat)) := by
      unfold allB; rw [List.all_cons, inB_word]; congr 2; funext x; exact inB_word x
    have h3 : allB digL ((c :: r).take 1) = digN c.toNat := by unfold allB; simp [inB_dig]
    rw [h1, h2, h3, show wordK (c :: r) = (letN c.toNat && r.all (fun x => letN x.toNat || digN x.toNat)) from rfl]
    have h4 := letdig c.toNat
    generalize letN (c.toNat : Int) = a at *
    generalize digN (c.toNat : Int) = b at *
    generalize signK (c :: r) = d
    generalize r.all (fun x => letN x.toNat || digN x.toNat) = f
    revert h4
    cases a <;> cases b <;> cases d <;> cases f <;> simp
end Go.Proofs.YtlipfgdjbimfjaaGreatDoor
