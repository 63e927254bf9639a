/- IsName of the reference. -/
import Derived.Test.YtlipfgdjbimfjaaDoorP1
import Derived.Deep.Cut
import Derived.Deep.CutRange
namespace Go.Proofs.YtlipfgdjbimfjaaDoor
open Go.RowKit Go.Shelf
set_option maxRecDepth 100000

theorem wordK_snoc (l : List UInt8) (x : UInt8) : wordK (l ++ [x]) = (wordK l && (letN x.toNat || (digN x.toNat && decide (0 < l.length)))) := by
  match l with
  | [] => simp [wordK]
  | c :: r => simp [wordK, Bool.and_assoc]
theorem wordK_step (c : UInt8) (r : List UInt8) (k : Nat) (h : k < r.length + 1) (x : UInt8) (hx : x = (bs (c :: r))[k]'(by show k < (c :: r).toArray.size; simpa using h)) :
    wordK ((c :: r).take (k + 1)) = (wordK ((c :: r).take k) && (letN x.toNat || (digN x.toNat && decide (0 < k)))) := by
  have h' : k < (c :: r).length := by simpa using h
  have hx' : x = (c :: r)[k] := by rw [hx]; rfl
  rw [List.take_succ_eq_append_getElem h', ← hx', wordK_snoc]
  congr 4
  simp; omega
theorem signK_step (c : UInt8) (r : List UInt8) (k : Nat) (h : k < r.length + 1) (x : UInt8) (hx : x = (bs (c :: r))[k]'(by show k < (c :: r).toArray.size; simpa using h)) :
    signK ((c :: r).take (k + 1)) = (signK ((c :: r).take k) && opsL.contains x) := by
  have h' : k < (c :: r).length := by simpa using h
  have hx' : x = (c :: r)[k] := by rw [hx]; rfl
  rw [List.take_succ_eq_append_getElem h', ← hx']
  unfold signK
  rw [List.all_append]
  simp
theorem ops_step (x : UInt8) (j : Nat) (h : j < 15) : (opsL.take (j + 1)).contains x = ((opsL.take j).contains x || (opsL.getD j 0 == x)) := by
  have h2 : ∀ j : Fin 15, ∀ n : Fin 256, (opsL.take (j.val + 1)).contains (UInt8.ofNat n.val) = ((opsL.take j.val).contains (UInt8.ofNat n.val) || (opsL.getD j.val 0 == UInt8.ofNat n.val)) := by decide +kernel
  have := h2 ⟨j, h⟩ ⟨x.toNat, x.toNat_lt⟩
  simpa using this
theorem ops_at (x : UInt8) (j : Nat) (h : j < 15) : (((({ data := #[43, 45, 42, 47, 37, 60, 62, 61, 33, 38, 124, 94, 126, 58, 63] } : ByteArray)[j]'(by show j < 15; exact h)).toNat : Int) == (x.toNat : Int)) = (opsL.getD j 0 == x) := by
  have e : ({ data := #[43, 45, 42, 47, 37, 60, 62, 61, 33, 38, 124, 94, 126, 58, 63] } : ByteArray)[j]'(by show j < 15; exact h) = opsL.getD j 0 := by
    have h' : j < opsL.length := h
    rw [List.getD_eq_getElem?_getD, List.getElem?_eq_getElem h']
    rfl
  rw [e, Bool.eq_iff_iff, beq_iff_eq, beq_iff_eq]
  constructor
  · intro h; exact UInt8.toNat_inj.1 (by omega)
  · intro h; rw [h]
set_option maxHeartbeats 4000000 in
theorem refName_any (l : List UInt8) (w : World) (hs : l.length ≤ 140737488351232) :
    Calls Tryd.prog 6 #[.string (bs l)] w fun e w' => e = .returned (.bool (nameR l)) ∧ w = w' := by
  match l with
  | [] =>
    go_enter Tryd.func6, Tryd.ntmps6
    go_wp2
    go_ret
    exact ⟨rfl, rfl⟩
  | c :: r =>
    by_cases h64 : (c :: r).length ≤ 64
    · have h1 : nameR (c :: r) = (wordK (c :: r) || signK (c :: r)) := by
        unfold nameR; simp only [List.isEmpty_cons, h64]; simp
      have H1 := Lib.hid h1
      have hd : decide (64 < (r.length : Int) + 1) = false := by simp at h64 ⊢; omega
      clear h1
      go_enter Tryd.func6, Tryd.ntmps6
      go_wp2
      go_loop [3, 4, 5] (fun a b i => ∃ k : Nat, k ≤ r.length + 1 ∧ i = .int .i64 k ∧ a = .bool (wordK ((c :: r).take k)) ∧ b = .bool (signK ((c :: r).take k))) (fun _ _ i => r.length + 1 - (intOf i).toNat)
      case atStart => exact ⟨0, Nat.zero_le _, rfl, rfl, rfl⟩
      case round =>
        obtain ⟨k, hk, rfl, rfl, rfl⟩ := hrel
        by_cases hlt : k < r.length + 1
        · obtain ⟨x, hx⟩ : ∃ x, x = (bs (c :: r))[k]'(by show k < (c :: r).toArray.size; simpa using hlt) := ⟨_, rfl⟩
          have hkb : k < 100 := by simp at h64; omega
          have hkd : decide ((k : Int) < (r.length : Int) + 1) = true := by simp; omega
          have HX := Lib.hid hx
          clear hx
          go_upto_region 8 with fail
          rw [← HX.out]
          go_cut [7] from 27 to 32 (fun y wx => y = .bool (digN x.toNat) ∧ w = wx)
          case first =>
            go_wp2
            all_goals (go_meet; exact ⟨congrArg Value.bool (by rw [Bool.eq_iff_iff]; first | (simp [digN, letN]; done) | (simp [digN, letN]; omega)), rfl⟩)
          obtain ⟨rfl, rfl⟩ := hcut
          go_upto_region 9 with fail
          go_cut [8] from 33 to 54 (fun y wx => y = .bool (letN x.toNat) ∧ w = wx)
          case first =>
            cases h1 : ((x.toNat : Int) == 95) <;> cases h2 : ((x.toNat : Int) == 36)
            all_goals
              go_wp2
              all_goals (go_meet; exact ⟨congrArg Value.bool (by rw [Bool.eq_iff_iff]; first | (simp [letN, h1, h2]; done) | (simp [letN, h1, h2]; omega)), rfl⟩)
          obtain ⟨rfl, rfl⟩ := hcut
          have hwk := wordK_step c r k hlt x HX.out
          have hsk := signK_step c r k hlt x HX.out
          have HWK := Lib.hid hwk
          have HSK := Lib.hid hsk
          clear hwk hsk
          obtain ⟨wk, hwk⟩ : ∃ b, b = wordK ((c :: r).take k) := ⟨_, rfl⟩
          obtain ⟨sk, hsk⟩ : ∃ b, b = signK ((c :: r).take k) := ⟨_, rfl⟩
          obtain ⟨lk, hlk⟩ : ∃ b, b = letN x.toNat := ⟨_, rfl⟩
          obtain ⟨dk, hdk⟩ : ∃ b, b = digN x.toNat := ⟨_, rfl⟩
          rw [← hwk, ← hsk, ← hlk, ← hdk]
          rw [← hwk, ← hlk, ← hdk] at HWK
          rw [← hsk] at HSK
          clear hwk hsk hlk hdk
          go_upto_region 10 with fail
          go_cut [3] from 55 to 65 (fun y wx => y = .bool (wk && (lk || (dk && decide (0 < k)))) ∧ w = wx)
          case first =>
            cases wk <;> cases lk <;> cases dk
            all_goals
              go_wp2
              all_goals (go_meet; exact ⟨congrArg Value.bool (by first | rfl | simp), rfl⟩)
          obtain ⟨rfl, rfl⟩ := hcut
          rw [← HWK.out]
          go_wp2
          go_loop [9, 10] (fun a i => ∃ j : Nat, j ≤ 15 ∧ i = .int .i64 j ∧ a = .bool ((opsL.take j).contains x)) (fun _ i => 15 - (intOf i).toNat)
          case atStart => exact ⟨0, by omega, rfl, rfl⟩
          case round =>
            obtain ⟨j, hj, rfl, rfl⟩ := hrel
            by_cases hj2 : j < 15
            · have hop := ops_step x j hj2
              have HOP := Lib.hid hop
              clear hop
              cases hck : (opsL.take j).contains x with
              | true =>
                have HCK := Lib.hid hck
                clear hck
                go_wp2
                go_round
                case rel => exact ⟨j + 1, by omega, by go_num, congrArg Value.bool (by rw [HOP.out, HCK.out]; rfl)⟩
                case measure => simp [intOf]; omega
              | false =>
                have HCK := Lib.hid hck
                clear hck
                go_wp2
                go_round
                case rel => exact ⟨j + 1, by omega, by go_num, congrArg Value.bool (by rw [HOP.out, HCK.out, ops_at x j hj2]; rfl)⟩
                case measure => simp [intOf]; omega
            · obtain rfl : j = 15 := by omega
              obtain ⟨ok, hok⟩ : ∃ b, b = (opsL.take 15).contains x := ⟨_, rfl⟩
              have HOK : Hid (ok = opsL.contains x) := Lib.hid hok
              rw [← hok]
              clear hok
              have hsk : signK ((c :: r).take (k + 1)) = (sk && ok) := by rw [HSK.out, HOK.out]
              have HS := Lib.hid hsk
              clear hsk
              cases sk
              · go_wp2
                go_round
                case rel => exact ⟨k + 1, by omega, by go_num, rfl, congrArg Value.bool (by rw [HS.out]; rfl)⟩
                case measure => simp [intOf]; omega
              · go_wp2
                go_round
                case rel => exact ⟨k + 1, by omega, by go_num, rfl, congrArg Value.bool (by rw [HS.out]; rfl)⟩
                case measure => simp [intOf]; omega
        · obtain rfl : k = r.length + 1 := by omega
          rw [List.take_of_length_le (by simp)]
          obtain ⟨wk, hwk⟩ : ∃ b, b = wordK (c :: r) := ⟨_, rfl⟩
          obtain ⟨sk, hsk⟩ : ∃ b, b = signK (c :: r) := ⟨_, rfl⟩
          have h2 := H1.out
          rw [← hwk, ← hsk] at h2 ⊢
          have H2 := Lib.hid h2
          clear h2 hwk hsk
          cases wk
          · go_wp2
            go_ret
            exact ⟨ret_bool (by rw [H2.out]; rfl), rfl⟩
          · go_wp2
            go_ret
            exact ⟨ret_bool (by rw [H2.out]; rfl), rfl⟩
    · have HN : Hid (nameR (c :: r) = false) := Lib.hid (by unfold nameR; simp only [h64]; simp)
      have hd : decide (64 < (r.length : Int) + 1) = true := by simp at h64 ⊢; omega
      go_enter Tryd.func6, Tryd.ntmps6
      go_wp2
      go_ret
      exact ⟨ret_bool HN.out.symm, rfl⟩
end Go.Proofs.YtlipfgdjbimfjaaDoor
