/- The canonical text of the tokens of a text is read as the same tokens: of the models. No program. -/
import Derived.Test.YtkfkgdkfgpofnaaDoorT
/- The canonical forms of tokens, and how the models of the scanners read them. No program. -/
namespace Go.Proofs.YtkfkgdkfgpofnaaDoor
open Go.RowKit
set_option maxRecDepth 100000

def hexc (n : Nat) : UInt8 := [48, 49, 50, 51, 52, 53, 54, 55, 56, 57, 97, 98, 99, 100, 101, 102].getD n 0
def eHex (b : UInt8) : List UInt8 := [92, 120, hexc (b.toNat / 16), hexc (b.toNat % 16)]
/-- What stands for a byte of a literal, where some bytes are special. -/
def eByte (sp : List UInt8) (b : UInt8) : List UInt8 :=
  if b.toNat = 10 then [92, 110] else if b.toNat = 9 then [92, 116] else if b.toNat = 92 then [92, 92] else if b.toNat < 32 ∨ 126 < b.toNat then eHex b
  else if sp.contains b = true then (if b.toNat = 123 then eHex b else [92, b]) else [b]
def eBytes (sp : List UInt8) (bs : List UInt8) : List UInt8 := bs.flatMap (eByte sp)
def ePart (after : Bool) : List UInt8 → List UInt8
  | [] => []
  | b :: r => if (after && wordB b.toNat) = true then eHex b ++ eBytes [34, 36] r else eBytes [34, 36] (b :: r)
/-- The canonical form of a token behind one of the kind last. -/
def eTok (last : Int) (x : Tok) : List UInt8 :=
  if x.kind = 0 ∨ x.kind = 1 then (if last = 9 then [36] else []) ++ x.text.data.toList
  else if x.kind = 5 then x.text.data.toList ++ [76]
  else if x.kind = 6 then [39] ++ eBytes [39, 123] x.text.data.toList ++ [39]
  else if x.kind = 7 then [34] ++ eBytes [34] x.text.data.toList ++ [34]
  else if x.kind = 8 then x.text.data.toList ++ [34]
  else if x.kind = 9 then ePart (last == 0 || last == 1) x.text.data.toList
  else if x.kind = 10 then [34]
  else x.text.data.toList
/-- Does a blank stand between tokens of two kinds? -/
def spc (a b : Int) : Bool := a != 8 && a != 9 && b != 9
/-- The canonical forms of tokens, with the blanks, behind a token of a kind, or at the beginning. -/
def eFrom : Option Int → List Tok → List UInt8
  | _, [] => []
  | none, x :: r => eTok (-1) x ++ eFrom (some x.kind) r
  | some k, x :: r => (if spc k x.kind = true then [32] else []) ++ eTok k x ++ eFrom (some x.kind) r

/-! Lists of bytes at a place. -/
abbrev dr (c : ByteArray) (p : Nat) : List UInt8 := c.data.toList.drop p
section
variable {c : ByteArray} {p : Nat}
theorem dr_len : (dr c p).length = c.size - p := by rw [List.length_drop, Array.length_toList]; rfl
theorem dr_cons {x : UInt8} {tl : List UInt8} (h : dr c p = x :: tl) : p < c.size ∧ bt c p = x.toNat ∧ dr c (p + 1) = tl := by
  have h1 := @dr_len c p
  rw [h] at h1
  have h' : c.data.toList.drop p = x :: tl := h
  refine ⟨by simp at h1; omega, ?_, ?_⟩
  · rw [bt_drop, h']; rfl
  · show List.drop (p + 1) _ = _
    rw [← List.drop_drop, h']; rfl
theorem dr_app {a tl : List UInt8} (h : dr c p = a ++ tl) : dr c (p + a.length) = tl ∧ (a ≠ [] → p + a.length ≤ c.size) := by
  have h1 := @dr_len c p
  rw [h, List.length_append] at h1
  have h' : c.data.toList.drop p = a ++ tl := h
  refine ⟨?_, fun ha => ?_⟩
  · show List.drop (p + a.length) _ = _
    rw [← List.drop_drop, h', List.drop_left]
  · have : 0 < a.length := List.length_pos_iff.mpr ha
    omega
theorem dr_nil (h : dr c p = []) : c.size ≤ p := by
  have h1 := @dr_len c p
  rw [h] at h1
  simp at h1
  omega
theorem sub_at {a tl : List UInt8} (h : dr c p = a ++ tl) : sub c p (p + a.length) = ⟨a.toArray⟩ := by
  have h' : c.data.toList.drop p = a ++ tl := h
  apply ByteArray.ext
  apply Array.toList_inj.mp
  rw [ByteArray.data_extract, Array.toList_extract, List.extract_eq_take_drop, h', Nat.add_sub_cancel_left, List.take_left]
theorem sub_list {a tl : List UInt8} (h : dr c p = a ++ tl) : (sub c p (p + a.length)).toList = a := by
  rw [ByteArray.toList_eq, sub_at h]
theorem ah_at (u : ByteArray) : ah c p u = u.data.toList.isPrefixOf (dr c p) := rfl
end

theorem indexByte_neg (l : List UInt8) (b : UInt8) (h : b ∉ l) : Lib.indexByte l b = -1 := by
  induction l with
  | nil => rfl
  | cons x l ih =>
    simp only [List.mem_cons, not_or] at h
    simp only [Lib.indexByte]
    rw [if_neg (by simpa using fun e => h.1 e.symm), ih h.2]
    rfl
theorem indexByte_mem (l : List UInt8) (b : UInt8) (h : b ∈ l) : 0 ≤ Lib.indexByte l b := by
  induction l with
  | nil => cases h
  | cons x l ih =>
    simp only [Lib.indexByte]
    split
    · omega
    · rename_i hx
      have : b ∈ l := by
        rcases List.mem_cons.mp h with e | e
        · exact absurd (by simp [e]) hx
        · exact e
      have := ih this
      split
      · rename_i h2; simp at h2; omega
      · omega
theorem sidx_neg {stops : ByteArray} {b : UInt8} (h : b ∉ stops.data.toList) : sidx stops b.toNat < 0 := by
  unfold sidx
  rw [show b.toNat.toUInt8 = b from UInt8.ofNat_toNat, indexByte_neg _ _ h]
  decide
theorem sidx_pos {stops : ByteArray} {b : UInt8} (h : b ∈ stops.data.toList) : 0 ≤ sidx stops b.toNat := by
  unfold sidx
  rw [show b.toNat.toUInt8 = b from UInt8.ofNat_toNat]
  exact indexByte_mem _ _ h

theorem hexv_hexc : ∀ n : Fin 16, hexv (hexc n.val).toNat = (n.val : Int) := by decide +kernel
theorem join_all : ∀ n : Fin 256, join16 ((n.val / 16 : Nat) : Int) ((n.val % 16 : Nat) : Int) = (n.val : Int) := by decide +kernel
theorem join_byte (b : UInt8) : join16 ((b.toNat / 16 : Nat) : Int) ((b.toNat % 16 : Nat) : Int) = (b.toNat : Int) := join_all ⟨b.toNat, b.toNat_lt⟩

/-- A form that is read as a byte in a literal with some stops. -/
def Dec (stops : ByteArray) (f : List UInt8) (b : UInt8) : Prop := f ≠ [] ∧ ∀ (c : ByteArray) (p : Nat) (tl : List UInt8), dr c p = f ++ tl → sidx stops (bt c p) < 0 ∧ mchar c p = some ((b.toNat : Int), p + f.length)

theorem mhex_at {c : ByteArray} {p : Nat} {tl : List UInt8} (n : Nat) (hn : n < 16) (h : dr c p = hexc n :: tl) : mhex c p = some (n : Int) := by
  obtain ⟨h1, h2, _⟩ := dr_cons h
  unfold mhex
  have := hexv_hexc ⟨n, hn⟩
  simp only at this
  rw [h2, this, if_pos ⟨h1, by omega⟩]
theorem dec_esc {stops : ByteArray} (hs : (92 : UInt8) ∉ stops.data.toList) (e b : UInt8) (he : e.toNat = 110 ∧ b.toNat = 10 ∨ e.toNat = 116 ∧ b.toNat = 9 ∨ (e.toNat = 92 ∨ e.toNat = 39 ∨ e.toNat = 34 ∨ e.toNat = 36) ∧ b = e) : Dec stops [92, e] b := by
  refine ⟨by simp, fun c p tl h => ?_⟩
  obtain ⟨h1, h2, h3⟩ := dr_cons h
  obtain ⟨h4, h5, _⟩ := dr_cons h3
  refine ⟨by rw [h2]; exact sidx_neg hs, ?_⟩
  unfold mchar
  rw [h2, if_neg (by decide), if_pos (by decide)]
  unfold mescape
  rw [if_pos h4, h5]
  rcases he with ⟨a1, a2⟩ | ⟨a1, a2⟩ | ⟨a1, rfl⟩
  · rw [if_pos a1, a2]; rfl
  · rw [if_neg (by omega), if_pos a1, a2]; rfl
  · rw [if_neg (by omega), if_neg (by omega), if_pos (by omega)]; rfl
theorem dec_hex {stops : ByteArray} (hs : (92 : UInt8) ∉ stops.data.toList) (b : UInt8) : Dec stops (eHex b) b := by
  refine ⟨by simp [eHex], fun c p tl h => ?_⟩
  obtain ⟨h1, h2, h3⟩ := dr_cons h
  obtain ⟨h4, h5, h6⟩ := dr_cons h3
  have hb := b.toNat_lt
  have h7 := mhex_at (b.toNat / 16) (by omega) h6
  obtain ⟨_, _, h8⟩ := dr_cons h6
  have h9 := mhex_at (b.toNat % 16) (by omega) h8
  refine ⟨by rw [h2]; exact sidx_neg hs, ?_⟩
  unfold mchar
  rw [h2, if_neg (by decide), if_pos (by decide)]
  unfold mescape
  rw [if_pos h4, h5, if_neg (by decide), if_neg (by decide), if_neg (by decide), if_pos (by decide), h7]
  simp only
  rw [show p + 1 + 2 = p + 1 + 1 + 1 from rfl, h9]
  simp only
  rw [join_byte]
  rfl
theorem dec_plain {stops : ByteArray} (b : UInt8) (hb : b ∉ stops.data.toList) (h1 : 32 ≤ b.toNat) (h2 : b.toNat ≠ 92) : Dec stops [b] b := by
  refine ⟨by simp, fun c p tl h => ?_⟩
  obtain ⟨h3, h4, _⟩ := dr_cons h
  refine ⟨by rw [h4]; exact sidx_neg hb, ?_⟩
  unfold mchar
  rw [h4, if_neg (by omega), if_neg h2]
  rfl
theorem dec_byte {stops : ByteArray} {sp : List UInt8} (hs : (92 : UInt8) ∉ stops.data.toList) (hsub : ∀ b ∈ stops.data.toList, b ∈ sp) (hsp : ∀ b ∈ sp, b.toNat = 123 ∨ b.toNat = 39 ∨ b.toNat = 34 ∨ b.toNat = 36) (b : UInt8) : Dec stops (eByte sp b) b := by
  unfold eByte
  split
  · rename_i h; exact dec_esc hs 110 b (Or.inl ⟨by decide, h⟩)
  · split
    · rename_i h; exact dec_esc hs 116 b (Or.inr (Or.inl ⟨by decide, h⟩))
    · split
      · rename_i h
        have : b = 92 := UInt8.toNat_inj.mp (by rw [h]; rfl)
        subst this
        exact dec_esc hs 92 92 (Or.inr (Or.inr ⟨by decide, rfl⟩))
      · split
        · exact dec_hex hs b
        · rename_i h1 h2 h3 h4
          split
          · rename_i h5
            have hm : b ∈ sp := by simpa using h5
            split
            · exact dec_hex hs b
            · rename_i h6
              have := hsp b hm
              exact dec_esc hs b b (Or.inr (Or.inr ⟨by omega, rfl⟩))
          · rename_i h5
            have hm : b ∉ sp := by simpa using h5
            exact dec_plain b (fun h => hm (hsub b h)) (by omega) h3

/-- A literal's bytes, form by form, up to a stop. -/
theorem mquotF_dec {stops : ByteArray} {c : ByteArray} {z : UInt8} {tl : List UInt8} (hz : 0 ≤ sidx stops z.toNat) (fs : List (List UInt8 × UInt8)) :
    ∀ (p : Nat) (acc : List Int) (n : Nat), (∀ x ∈ fs, Dec stops x.1 x.2) → dr c p = (fs.map (·.1)).flatten ++ z :: tl → c.size - p < n →
      mquotF c stops n p acc = some (acc ++ fs.map (fun x => (x.2.toNat : Int)), p + ((fs.map (·.1)).flatten).length) := by
  induction fs with
  | nil =>
    intro p acc n _ h hn
    obtain ⟨m, rfl⟩ : ∃ m, n = m + 1 := ⟨n - 1, by omega⟩
    obtain ⟨h1, h2, _⟩ := dr_cons h
    rw [mquotF, if_pos h1, h2, if_neg (by omega)]
    simp
  | cons x fs ih =>
    intro p acc n hd h hn
    obtain ⟨m, rfl⟩ : ∃ m, n = m + 1 := ⟨n - 1, by omega⟩
    have hx := hd x (by simp)
    have h' : dr c p = x.1 ++ ((fs.map (·.1)).flatten ++ z :: tl) := by rw [h]; simp
    obtain ⟨h1, h2⟩ := hx.2 c p _ h'
    obtain ⟨h3, h4⟩ := dr_app h'
    have h4 := h4 hx.1
    have h5 : 0 < x.1.length := List.length_pos_iff.mpr hx.1
    rw [mquotF, if_pos (by omega), if_pos h1, h2]
    simp only
    rw [ih (p + x.1.length) _ m (fun y hy => hd y (by simp [hy])) h3 (by omega)]
    simp [Nat.add_assoc]
/-- The forms of a literal's bytes. -/
def fsOf (sp : List UInt8) (bs : List UInt8) : List (List UInt8 × UInt8) := bs.map fun b => (eByte sp b, b)
theorem fsOf_flat (sp bs : List UInt8) : ((fsOf sp bs).map (·.1)).flatten = eBytes sp bs := by
  unfold fsOf eBytes
  rw [List.map_map, ← List.flatMap_def]
  rfl
theorem fsOf_nums (sp bs : List UInt8) : (fsOf sp bs).map (fun x => (x.2.toNat : Int)) = bs.map (fun b => (b.toNat : Int)) := by
  unfold fsOf
  rw [List.map_map]
  rfl
theorem str_nums (bs : List UInt8) : strOfNums (bs.map fun b => (b.toNat : Int)) = ⟨bs.toArray⟩ := by
  unfold strOfNums
  rw [List.map_map]
  congr 2
  conv => rhs; rw [← List.map_id bs]
  apply List.map_congr_left
  intro b _
  simp
theorem quoted_at {stops : ByteArray} {sp bs : List UInt8} {c : ByteArray} {p : Nat} {z : UInt8} {tl : List UInt8} (hs : (92 : UInt8) ∉ stops.data.toList) (hsub : ∀ b ∈ stops.data.toList, b ∈ sp) (hsp : ∀ b ∈ sp, b.toNat = 123 ∨ b.toNat = 39 ∨ b.toNat = 34 ∨ b.toNat = 36) (hz : z ∈ stops.data.toList)
    (h : dr c p = eBytes sp bs ++ z :: tl) : mquoted c p stops = some (bs.map (fun b => (b.toNat : Int)), p + (eBytes sp bs).length) := by
  unfold mquoted
  rw [mquotF_dec (sidx_pos hz) (fsOf sp bs) p [] _ (fun x hx => ?_) (by rw [fsOf_flat]; exact h) (Nat.lt_succ_self _), fsOf_flat, fsOf_nums]
  · rfl
  · unfold fsOf at hx
    obtain ⟨b, _, rfl⟩ := List.mem_map.mp hx
    exact dec_byte hs hsub hsp b
/-- .. of a part. -/
theorem part_at {af : Bool} {bs : List UInt8} {c : ByteArray} {p : Nat} {z : UInt8} {tl : List UInt8} (hz : z = 34 ∨ z = 36)
    (h : dr c p = ePart af bs ++ z :: tl) : mquoted c p ⟨#[34, 36]⟩ = some (bs.map (fun b => (b.toNat : Int)), p + (ePart af bs).length) := by
  have hs : (92 : UInt8) ∉ (⟨#[34, 36]⟩ : ByteArray).data.toList := by decide
  have hsub : ∀ b ∈ (⟨#[34, 36]⟩ : ByteArray).data.toList, b ∈ ([34, 36] : List UInt8) := fun b hb => hb
  have hsp : ∀ b ∈ ([34, 36] : List UInt8), b.toNat = 123 ∨ b.toNat = 39 ∨ b.toNat = 34 ∨ b.toNat = 36 := by decide
  have hz' : z ∈ (⟨#[34, 36]⟩ : ByteArray).data.toList := by rcases hz with rfl | rfl <;> decide
  rcases bs with _ | ⟨b, r⟩
  · exact quoted_at (sp := [34, 36]) (bs := []) hs hsub hsp hz' h
  · have ec : ePart af (b :: r) = if (af && wordB b.toNat) = true then eHex b ++ eBytes [34, 36] r else eBytes [34, 36] (b :: r) := rfl
    rw [ec] at h ⊢
    by_cases hc : (af && wordB b.toNat) = true
    · rw [if_pos hc] at h ⊢
      unfold mquoted
      have e : (((eHex b, b) :: fsOf [34, 36] r).map (·.1)).flatten = eHex b ++ eBytes [34, 36] r := by
        rw [List.map_cons, List.flatten_cons, fsOf_flat]
      rw [mquotF_dec (sidx_pos hz') ((eHex b, b) :: fsOf [34, 36] r) p [] _ (fun x hx => ?_) (by rw [e]; exact h) (Nat.lt_succ_self _), e, List.map_cons, fsOf_nums]
      · rfl
      · rcases List.mem_cons.mp hx with rfl | hx
        · exact dec_hex hs b
        · unfold fsOf at hx
          obtain ⟨b, _, rfl⟩ := List.mem_map.mp hx
          exact dec_byte hs hsub hsp b
    · rw [if_neg hc] at h ⊢
      exact quoted_at hs hsub hsp hz' h
end Go.Proofs.YtkfkgdkfgpofnaaDoor
/- The canonical text of a list of tokens that is in order is read as that list: single tokens. No program. -/
namespace Go.Proofs.YtkfkgdkfgpofnaaDoor
open Go.RowKit
set_option maxRecDepth 100000

/-- What Show writes of a token: its kind and its text. -/
def pk (x : Tok) : Int × ByteArray := (x.kind, x.text)
/-- A word. -/
def WordL (w : List UInt8) : Prop := (∃ a r, w = a :: r ∧ cls a.toNat = 2) ∧ ∀ b ∈ w, wordB b.toNat = true
def StartT (w : List UInt8) : Prop := WordL w ∧ w ≠ [95] ∧ kwB w = false ∧ w.length ≤ 64
def InsT (x : Tok) : Prop := WordL x.text.data.toList ∧ x.text.data.toList ≠ [95] ∧ (x.kind = 1 ∧ kwB x.text.data.toList = true ∨ x.kind = 0 ∧ kwB x.text.data.toList = false ∧ x.text.data.toList.length ≤ 64)
def WordT (x : Tok) : Prop := x.kind = 3 ∧ x.text.data.toList = [95] ∨ InsT x
def most10 : List UInt8 := [50, 49, 52, 55, 52, 56, 51, 54, 52, 55]
def most19 : List UInt8 := [57, 50, 50, 51, 51, 55, 50, 48, 51, 54, 56, 53, 52, 55, 55, 53, 56, 48, 55]
def Small (n : Nat) (m d : List UInt8) : Prop := ¬ (n < d.length ∨ (d.length = n ∧ Op.bytesLess d m = false ∧ (d == m) = false))
def NumT (x : Tok) : Prop := x.text.data.toList ≠ [] ∧ (∀ b ∈ x.text.data.toList, cls b.toNat = 3) ∧ ¬ (1 < x.text.data.toList.length ∧ (x.text.data.toList.getD 0 0).toNat = 48) ∧ (x.kind = 4 ∧ Small 10 most10 x.text.data.toList ∨ x.kind = 5 ∧ Small 19 most19 x.text.data.toList)
def OpOk (w : List UInt8) : Prop := ∀ i, ([47, 47] : List UInt8).isPrefixOf (w.drop i) = false ∧ ([47, 42] : List UInt8).isPrefixOf (w.drop i) = false
def OpT (x : Tok) : Prop := x.text.data.toList ≠ [] ∧ (∀ b ∈ x.text.data.toList, cls b.toNat = 4) ∧ OpOk x.text.data.toList ∧ (x.kind = 3 ∧ opMarks.contains x.text.data.toList = true ∨ x.kind = 2 ∧ opMarks.contains x.text.data.toList = false ∧ x.text.data.toList.length ≤ 64)
def SepT (x : Tok) : Prop := x.kind = 3 ∧ ∃ b, x.text.data.toList = [b] ∧ cls b.toNat = 7
/-- A token that stands by itself. -/
def Plain (x : Tok) : Prop := WordT x ∨ NumT x ∨ OpT x ∨ SepT x ∨ (x.kind = 6 ∧ x.text.data.toList.length = 1) ∨ x.kind = 7
/-- What stands behind a token in the canonical text. -/
def Bnd (tl : List UInt8) : Prop := tl = [] ∨ ∃ r, tl = 32 :: r
/-- Where skip stops. -/
def StopAt (c : ByteArray) (p : Nat) : Prop := cls (bt c p) ≠ 1 ∧ ah c p ⟨#[47, 47]⟩ = false ∧ ah c p ⟨#[47, 42]⟩ = false

theorem text_eta (x : ByteArray) : (⟨x.data.toList.toArray⟩ : ByteArray) = x := by
  apply ByteArray.ext
  simp
theorem stop_of_cls {c : ByteArray} {p : Nat} (h1 : cls (bt c p) ≠ 1) (h4 : cls (bt c p) ≠ 4) : StopAt c p := by
  refine ⟨h1, ?_, ?_⟩
  · rcases h : ah c p ⟨#[47, 47]⟩ with _ | _
    · rfl
    · have := ah_bt c p 47 47 h
      rw [this] at h4
      exact absurd (by decide) h4
  · rcases h : ah c p ⟨#[47, 42]⟩ with _ | _
    · rfl
    · have := ah_bt c p 47 42 h
      rw [this] at h4
      exact absurd (by decide) h4

section
variable {c : ByteArray}
theorem wEndF_at (a : List UInt8) : ∀ (p n : Nat) (tl : List UInt8), dr c p = a ++ tl → (∀ b ∈ a, wordB b.toNat = true) → (∀ y r, tl = y :: r → wordB y.toNat = false) → c.size - p < n → wEndF c n p = p + a.length := by
  induction a with
  | nil =>
    intro p n tl h _ ht hn
    obtain ⟨m, rfl⟩ : ∃ m, n = m + 1 := ⟨n - 1, by omega⟩
    rw [wEndF]
    rcases tl with _ | ⟨y, r⟩
    · have := dr_nil h; rw [if_neg (by omega)]; rfl
    · obtain ⟨h1, h2, _⟩ := dr_cons h
      rw [if_neg (by rw [h2, ht y r rfl]; simp)]; rfl
  | cons b a ih =>
    intro p n tl h hw ht hn
    obtain ⟨m, rfl⟩ : ∃ m, n = m + 1 := ⟨n - 1, by omega⟩
    obtain ⟨h1, h2, h3⟩ := dr_cons (tl := a ++ tl) h
    rw [wEndF, if_pos ⟨h1, by rw [h2]; exact hw b (by simp)⟩, ih (p + 1) m tl h3 (fun x hx => hw x (by simp [hx])) ht (by omega), List.length_cons]
    omega
theorem wEnd_at {a tl : List UInt8} {p : Nat} (h : dr c p = a ++ tl) (hw : ∀ b ∈ a, wordB b.toNat = true) (ht : ∀ y r, tl = y :: r → wordB y.toNat = false) : wEnd c p = p + a.length := wEndF_at a p _ tl h hw ht (Nat.lt_succ_self _)
theorem nEndF_at (a : List UInt8) : ∀ (p n : Nat) (tl : List UInt8), dr c p = a ++ tl → (∀ b ∈ a, cls b.toNat = 3) → (∀ y r, tl = y :: r → cls y.toNat ≠ 3) → c.size - p < n → nEndF c n p = p + a.length := by
  induction a with
  | nil =>
    intro p n tl h _ ht hn
    obtain ⟨m, rfl⟩ : ∃ m, n = m + 1 := ⟨n - 1, by omega⟩
    rw [nEndF]
    rcases tl with _ | ⟨y, r⟩
    · have := dr_nil h; rw [if_neg (by omega)]; rfl
    · obtain ⟨h1, h2, _⟩ := dr_cons h
      rw [if_neg (by rw [h2]; exact fun h => ht y r rfl h.2)]; rfl
  | cons b a ih =>
    intro p n tl h hw ht hn
    obtain ⟨m, rfl⟩ : ∃ m, n = m + 1 := ⟨n - 1, by omega⟩
    obtain ⟨h1, h2, h3⟩ := dr_cons (tl := a ++ tl) h
    rw [nEndF, if_pos ⟨h1, by rw [h2]; exact hw b (by simp)⟩, ih (p + 1) m tl h3 (fun x hx => hw x (by simp [hx])) ht (by omega), List.length_cons]
    omega
theorem nEnd_at {a tl : List UInt8} {p : Nat} (h : dr c p = a ++ tl) (hw : ∀ b ∈ a, cls b.toNat = 3) (ht : ∀ y r, tl = y :: r → cls y.toNat ≠ 3) : nEnd c p = p + a.length := nEndF_at a p _ tl h hw ht (Nat.lt_succ_self _)
theorem OpOk.tail {b : UInt8} {a : List UInt8} (h : OpOk (b :: a)) : OpOk a := fun i => h (i + 1)
theorem OpOk.ah {w tl : List UInt8} {p : Nat} (h : OpOk w) (hd : dr c p = w ++ tl) (hw : w ≠ []) (hb : Bnd tl) : ah c p ⟨#[47, 47]⟩ = false ∧ ah c p ⟨#[47, 42]⟩ = false := by
  have h0 := h 0
  rw [List.drop_zero] at h0
  rw [ah_at, ah_at, hd]
  show ([47, 47] : List UInt8).isPrefixOf (w ++ tl) = false ∧ ([47, 42] : List UInt8).isPrefixOf (w ++ tl) = false
  rcases w with _ | ⟨b, w⟩
  · exact absurd rfl hw
  · rcases w with _ | ⟨b2, w⟩
    · rcases hb with rfl | ⟨r, rfl⟩
      · simp [List.isPrefixOf]
      · simp [List.isPrefixOf]
    · simpa [List.isPrefixOf] using h0
theorem oEndF_at (a : List UInt8) : ∀ (p n : Nat) (tl : List UInt8), dr c p = a ++ tl → (∀ b ∈ a, cls b.toNat = 4) → OpOk a → Bnd tl → c.size - p < n → oEndF c n p = p + a.length := by
  induction a with
  | nil =>
    intro p n tl h _ _ ht hn
    obtain ⟨m, rfl⟩ : ∃ m, n = m + 1 := ⟨n - 1, by omega⟩
    rw [oEndF]
    rcases ht with rfl | ⟨r, rfl⟩
    · have := dr_nil h
      rw [if_neg (fun e => by have := opB_lt e; omega)]; rfl
    · obtain ⟨h1, h2, _⟩ := dr_cons h
      have h32 : cls (32 : UInt8).toNat = 1 := by decide
      rw [if_neg (by intro e; unfold opB at e; rw [h2, h32] at e; simp at e)]; rfl
  | cons b a ih =>
    intro p n tl h hw ho ht hn
    obtain ⟨m, rfl⟩ : ∃ m, n = m + 1 := ⟨n - 1, by omega⟩
    obtain ⟨h4, h5⟩ := ho.ah h (by simp) ht
    obtain ⟨h1, h2, h3⟩ := dr_cons (tl := a ++ tl) h
    have hq : opB c p = true := by unfold opB; rw [h4, h5, h2, hw b (by simp)]; simp [h1]
    rw [oEndF, if_pos hq, ih (p + 1) m tl h3 (fun x hx => hw x (by simp [hx])) ho.tail ht (by omega), List.length_cons]
    omega

theorem bnd_word {tl : List UInt8} (h : Bnd tl) : ∀ y r, tl = y :: r → wordB y.toNat = false := by
  intro y r e
  rcases h with rfl | ⟨r', rfl⟩
  · cases e
  · injection e with e1 e2; subst e1; decide
theorem bnd_num {tl : List UInt8} (h : Bnd tl) : ∀ y r, tl = y :: r → cls y.toNat ≠ 3 := by
  intro y r e
  rcases h with rfl | ⟨r', rfl⟩
  · cases e
  · injection e with e1 e2; subst e1; decide
theorem bnd_one {tl : List UInt8} {p : Nat} (h : Bnd tl) (hd : dr c p = tl) (z : UInt8) (hz : z ≠ 32) : ah c p ⟨#[z]⟩ = false := by
  rw [ah_at, hd]
  rcases h with rfl | ⟨r, rfl⟩
  · rfl
  · show ([z] : List UInt8).isPrefixOf (32 :: r) = false
    simp [List.isPrefixOf, hz]
end

/-- A step over some tokens. -/
structure Step (t t' : St) (xs : List Tok) (n : Nat) : Prop where
  out : t'.out.map pk = t.out.map pk ++ xs.map pk
  p : t'.p = t.p + n
theorem step_put {t : St} {x : Tok} {k : Int} {b : ByteArray} {st en n : Nat} (h1 : x.kind = k) (h2 : x.text = b) (hn : en = t.p + n) : Step t (t.put k b st en) [x] n := by
  refine ⟨?_, hn⟩
  show (t.out ++ [_]).map pk = _
  rw [List.map_append]
  show _ ++ [((k, b) : Int × ByteArray)] = _ ++ [((x.kind, x.text) : Int × ByteArray)]
  rw [h1, h2]

section
variable {c : ByteArray} {t : St}
theorem mtok2 (h : cls (bt c t.p) = 2) : mtok c t = mword c t := by unfold mtok; simp [h]
theorem mtok3 (h : cls (bt c t.p) = 3) : mtok c t = mnumber c t := by unfold mtok; simp [h]
theorem mtok4 (h : cls (bt c t.p) = 4) : mtok c t = moperator c t := by unfold mtok; simp [h]
theorem mtok5 (h : cls (bt c t.p) = 5) : mtok c t = mopening c t := by unfold mtok; simp [h]
theorem mtok6 (h : cls (bt c t.p) = 6) : mtok c t = mclosing c t := by unfold mtok; simp [h]
theorem mtok7 (h : cls (bt c t.p) = 7) : mtok c t = .ok (msep c t) := by unfold mtok; simp [h]
theorem mtok8 (h : cls (bt c t.p) = 8) : mtok c t = msingle c t := by unfold mtok; simp [h]
theorem mtok9 (h : cls (bt c t.p) = 9) : mtok c t = mdouble c t := by unfold mtok; simp [h]
theorem mtok10 (h : cls (bt c t.p) = 10) : mtok c t = mdollar c t := by unfold mtok; simp [h]

theorem putN_at {k : Int} {x : ByteArray} {st en : Nat} (h : x.size ≤ 64) : t.putN k x st en = .ok (t.put k x st en) := by unfold St.putN; rw [if_neg (by omega)]
theorem arr_size (l : List UInt8) : (⟨l.toArray⟩ : ByteArray).size = l.length := by show l.toArray.size = _; simp
theorem arr_list (l : List UInt8) : (⟨l.toArray⟩ : ByteArray).toList = l := by rw [ByteArray.toList_eq]

theorem word_step {x : Tok} (hx : WordT x) {k : Int} (hk : k ≠ 9) {tl : List UInt8} (h : dr c t.p = eTok k x ++ tl) (hb : Bnd tl) :
    StopAt c t.p ∧ ∃ t', mtok c t = .ok t' ∧ Step t t' [x] (eTok k x).length ∧ t'.op = t.op := by
  obtain ⟨w, hw⟩ : ∃ w, w = x.text.data.toList := ⟨_, rfl⟩
  have he : eTok k x = w := by
    unfold eTok
    rcases hx with ⟨h1, h2⟩ | ⟨_, _, ⟨h1, _⟩ | ⟨h1, _⟩⟩
    · rw [h1]; simp [hw]
    · rw [h1]; simp [hk, hw]
    · rw [h1]; simp [hk, hw]
  have hWL : WordL w := by
    rcases hx with ⟨h1, h2⟩ | ⟨h1, _⟩
    · rw [hw, h2]; exact ⟨⟨95, [], rfl, by decide⟩, by decide⟩
    · rw [hw]; exact h1
  rw [he] at h ⊢
  have ht : x.text = ⟨w.toArray⟩ := by rw [hw, text_eta]
  obtain ⟨⟨a, r, ha, h2⟩, hall⟩ := hWL
  have hc : cls (bt c t.p) = 2 := by
    obtain ⟨_, h3, _⟩ := dr_cons (x := a) (tl := r ++ tl) (by rw [h, ha]; rfl)
    rw [h3]; exact h2
  have hE := wEnd_at h hall (bnd_word hb)
  have hS := sub_at h
  have hL := sub_list h
  refine ⟨stop_of_cls (by rw [hc]; decide) (by rw [hc]; decide), ?_⟩
  rw [mtok2 hc]
  unfold mword
  rw [hE, hL, hS]
  have hq : ah c (t.p + w.length) ⟨#[34]⟩ = false := bnd_one hb (dr_app h).1 34 (by decide)
  rw [hq]
  rcases hx with ⟨h3, h4⟩ | ⟨_, h4, hx⟩
  · rw [if_pos (by rw [hw, h4])]
    exact ⟨_, rfl, step_put h3 ht rfl, rfl⟩
  · rw [← hw] at h4 hx
    rw [if_neg h4]
    rcases hx with ⟨h5, h6⟩ | ⟨h5, h6, h7⟩
    · rw [if_pos h6]
      exact ⟨_, rfl, step_put h5 ht rfl, rfl⟩
    · rw [if_neg (by rw [h6]; simp), if_neg (by simp), putN_at (by rw [arr_size]; exact h7)]
      exact ⟨_, rfl, step_put h5 ht rfl, rfl⟩

theorem num_step {x : Tok} (hx : NumT x) {k : Int} {tl : List UInt8} (h : dr c t.p = eTok k x ++ tl) (hb : Bnd tl) :
    StopAt c t.p ∧ ∃ t', mtok c t = .ok t' ∧ Step t t' [x] (eTok k x).length ∧ t'.op = t.op := by
  obtain ⟨d, hd⟩ : ∃ d, d = x.text.data.toList := ⟨_, rfl⟩
  obtain ⟨h1, h2, h3, h4⟩ := hx
  rw [← hd] at h1 h2 h3 h4
  have ht : x.text = ⟨d.toArray⟩ := by rw [hd, text_eta]
  obtain ⟨a, r, ha⟩ : ∃ a r, d = a :: r := by
    rcases d with _ | ⟨a, r⟩
    · exact absurd rfl h1
    · exact ⟨a, r, rfl⟩
  rcases h4 with ⟨h5, h6⟩ | ⟨h5, h6⟩
  · have he : eTok k x = d := by unfold eTok; rw [h5]; simp [hd]
    rw [he] at h ⊢
    have hbt : bt c t.p = a.toNat := (dr_cons (x := a) (tl := r ++ tl) (by rw [h, ha]; rfl)).2.1
    have hc : cls (bt c t.p) = 3 := by rw [hbt]; exact h2 a (by rw [ha]; simp)
    refine ⟨stop_of_cls (by rw [hc]; decide) (by rw [hc]; decide), ?_⟩
    rw [mtok3 hc]
    unfold mnumber
    have hE := nEnd_at h h2 (bnd_num hb)
    have hL : ah c (t.p + d.length) ⟨#[76]⟩ = false := bnd_one hb (dr_app h).1 76 (by decide)
    have hS := sub_at h
    have hSL := sub_list h
    have hbt0 : bt c t.p = (d.getD 0 0).toNat := by rw [hbt, ha]; rfl
    have hw : ¬ (t.p + d.length < c.size ∧ wordB (bt c (t.p + d.length)) = true) := by
      rintro ⟨e1, e2⟩
      have h7 := (dr_app h).1
      rcases tl with _ | ⟨y, tl⟩
      · have := dr_nil h7; omega
      · rw [(dr_cons h7).2.1, bnd_word hb y tl rfl] at e2
        cases e2
    rw [hE, hL]
    unfold Small most10 at h6
    simp only [Bool.false_eq_true, if_false, Nat.add_sub_cancel_left, hS, arr_list]
    rw [if_neg (fun e => e.elim (fun e => h3 (by rw [← hbt0]; exact e)) hw), if_neg h6]
    exact ⟨_, rfl, step_put h5 ht rfl, rfl⟩
  · have he : eTok k x = d ++ [76] := by unfold eTok; rw [h5]; simp [hd]
    rw [he] at h ⊢
    have h' : dr c t.p = d ++ (76 :: tl) := by rw [h]; simp
    have hbt : bt c t.p = a.toNat := (dr_cons (x := a) (tl := r ++ (76 :: tl)) (by rw [h', ha]; rfl)).2.1
    have hc : cls (bt c t.p) = 3 := by rw [hbt]; exact h2 a (by rw [ha]; simp)
    refine ⟨stop_of_cls (by rw [hc]; decide) (by rw [hc]; decide), ?_⟩
    rw [mtok3 hc]
    unfold mnumber
    have hE := nEnd_at h' h2 (by intro y r e; injection e with e1 e2; subst e1; decide)
    have h8 := (dr_app h').1
    have hL : ah c (t.p + d.length) ⟨#[76]⟩ = true := by rw [ah_at, h8]; show ([76] : List UInt8).isPrefixOf (76 :: tl) = true; simp [List.isPrefixOf]
    have h9 := (dr_cons h8).2.2
    have hS := sub_at h'
    have hSL := sub_list h'
    have hbt0 : bt c t.p = (d.getD 0 0).toNat := by rw [hbt, ha]; rfl
    have hw : ¬ (t.p + d.length + 1 < c.size ∧ wordB (bt c (t.p + d.length + 1)) = true) := by
      rintro ⟨e1, e2⟩
      rcases tl with _ | ⟨y, tl⟩
      · have := dr_nil h9; omega
      · rw [(dr_cons h9).2.1, bnd_word hb y tl rfl] at e2
        cases e2
    rw [hE, hL]
    unfold Small most19 at h6
    simp only [if_true, Nat.add_sub_cancel_left, hS, arr_list]
    rw [if_neg (fun e => e.elim (fun e => h3 (by rw [← hbt0]; exact e)) hw), if_neg h6]
    exact ⟨_, rfl, step_put h5 ht (by simp [Nat.add_assoc]), rfl⟩

theorem op_step {x : Tok} (hx : OpT x) {k : Int} {tl : List UInt8} (h : dr c t.p = eTok k x ++ tl) (hb : Bnd tl) :
    StopAt c t.p ∧ ∃ t', mtok c t = .ok t' ∧ Step t t' [x] (eTok k x).length ∧ t'.op = t.op := by
  obtain ⟨w, hw⟩ : ∃ w, w = x.text.data.toList := ⟨_, rfl⟩
  obtain ⟨h1, h2, h3, h4⟩ := hx
  rw [← hw] at h1 h2 h3 h4
  have ht : x.text = ⟨w.toArray⟩ := by rw [hw, text_eta]
  obtain ⟨a, r, ha⟩ : ∃ a r, w = a :: r := by
    rcases w with _ | ⟨a, r⟩
    · exact absurd rfl h1
    · exact ⟨a, r, rfl⟩
  have he : eTok k x = w := by
    unfold eTok
    rcases h4 with ⟨h5, _⟩ | ⟨h5, _⟩ <;> rw [h5] <;> simp [hw]
  rw [he] at h ⊢
  have hcs := dr_cons (x := a) (tl := r ++ tl) (by rw [h, ha]; rfl)
  have hc : cls (bt c t.p) = 4 := by rw [hcs.2.1]; exact h2 a (by rw [ha]; simp)
  refine ⟨⟨by rw [hc]; decide, h3.ah h h1 hb⟩, ?_⟩
  rw [mtok4 hc]
  unfold moperator
  have hE : oEnd c (t.p + 1) = t.p + w.length := by
    unfold oEnd
    rw [oEndF_at r (t.p + 1) _ tl hcs.2.2 (fun b hb => h2 b (by rw [ha]; simp [hb])) (by rw [ha] at h3; exact h3.tail) hb (Nat.lt_succ_self _), ha, List.length_cons]
    omega
  rw [hE, sub_list h, sub_at h]
  rcases h4 with ⟨h5, h6⟩ | ⟨h5, h6, h7⟩
  · rw [if_pos h6]
    exact ⟨_, rfl, step_put h5 ht rfl, rfl⟩
  · rw [if_neg (by rw [h6]; simp), putN_at (by rw [arr_size]; exact h7)]
    exact ⟨_, rfl, step_put h5 ht rfl, rfl⟩

theorem sep_step {x : Tok} (hx : SepT x) {k : Int} {tl : List UInt8} (h : dr c t.p = eTok k x ++ tl) :
    StopAt c t.p ∧ ∃ t', mtok c t = .ok t' ∧ Step t t' [x] (eTok k x).length ∧ t'.op = t.op := by
  obtain ⟨h1, b, h2, h3⟩ := hx
  have he : eTok k x = [b] := by unfold eTok; rw [h1]; simp [h2]
  rw [he] at h ⊢
  have hc : cls (bt c t.p) = 7 := by rw [(dr_cons h).2.1]; exact h3
  refine ⟨stop_of_cls (by rw [hc]; decide) (by rw [hc]; decide), ?_⟩
  rw [mtok7 hc]
  refine ⟨_, rfl, ?_, rfl⟩
  unfold msep
  have hS := sub_at h
  rw [List.length_singleton] at hS
  rw [hS]
  exact step_put h1 (by rw [← h2, text_eta]) rfl

theorem chr_step {x : Tok} (h1 : x.kind = 6) (h2 : x.text.data.toList.length = 1) {k : Int} {tl : List UInt8} (h : dr c t.p = eTok k x ++ tl) :
    StopAt c t.p ∧ ∃ t', mtok c t = .ok t' ∧ Step t t' [x] (eTok k x).length ∧ t'.op = t.op := by
  obtain ⟨b, hb⟩ := List.length_eq_one_iff.mp h2
  have he : eTok k x = 39 :: (eBytes [39, 123] [b] ++ [39]) := by unfold eTok; rw [h1, hb]; simp
  rw [he] at h ⊢
  obtain ⟨g1, g2, g3⟩ := dr_cons (x := 39) (tl := eBytes [39, 123] [b] ++ [39] ++ tl) (by rw [h]; simp)
  have hc : cls (bt c t.p) = 8 := by rw [g2]; decide
  refine ⟨stop_of_cls (by rw [hc]; decide) (by rw [hc]; decide), ?_⟩
  rw [mtok8 hc]
  unfold msingle
  have hq := quoted_at (stops := ⟨#[39]⟩) (sp := [39, 123]) (bs := [b]) (z := 39) (tl := tl) (by decide) (by decide) (by decide) (by decide) (by rw [g3]; simp : dr c (t.p + 1) = _)
  have hn : ah c t.p ⟨#[39, 123]⟩ = false := by
    rw [ah_two]
    have : ah c (t.p + 1) ⟨#[123]⟩ = false := by
      rw [ah_at, g3]
      have hf : ∃ z r, eBytes [39, 123] [b] = z :: r ∧ z ≠ 123 := by
        unfold eBytes
        rw [List.flatMap_cons, List.flatMap_nil, List.append_nil]
        unfold eByte
        repeat' split
        all_goals first
          | exact ⟨92, _, rfl, by decide⟩
          | (rename_i h5; exact ⟨b, [], rfl, fun e => h5 (by rw [e]; decide)⟩)
      obtain ⟨z, r, e, hz⟩ := hf
      rw [e]
      show ([123] : List UInt8).isPrefixOf (z :: _) = false
      have hz2 : ¬ (123 : UInt8) = z := fun e => hz e.symm
      simp [List.isPrefixOf, hz2]
    rw [this, Bool.and_false]
  rw [hn, hq]
  simp only [Bool.false_eq_true, if_false]
  rw [str_nums, if_pos (show (⟨#[b]⟩ : ByteArray).size = 1 from rfl)]
  refine ⟨_, rfl, ⟨?_, ?_⟩, rfl⟩
  · show (t.out ++ [_]).map pk = _
    rw [List.map_append]
    show _ ++ [((6, ⟨[b].toArray⟩) : Int × ByteArray)] = _ ++ [((x.kind, x.text) : Int × ByteArray)]
    rw [h1, ← hb, text_eta]
  · show t.p + 1 + (eBytes [39, 123] [b]).length + 1 = _
    simp; omega

theorem str_step {x : Tok} (h1 : x.kind = 7) {k : Int} {tl : List UInt8} (h : dr c t.p = eTok k x ++ tl) :
    StopAt c t.p ∧ ∃ t', mtok c t = .ok t' ∧ Step t t' [x] (eTok k x).length ∧ t'.op = t.op := by
  have he : eTok k x = 34 :: (eBytes [34] x.text.data.toList ++ [34]) := by unfold eTok; rw [h1]; simp
  rw [he] at h ⊢
  obtain ⟨g1, g2, g3⟩ := dr_cons (x := 34) (tl := eBytes [34] x.text.data.toList ++ [34] ++ tl) (by rw [h]; simp)
  have hc : cls (bt c t.p) = 9 := by rw [g2]; decide
  refine ⟨stop_of_cls (by rw [hc]; decide) (by rw [hc]; decide), ?_⟩
  rw [mtok9 hc]
  unfold mdouble
  have hq := quoted_at (stops := ⟨#[34]⟩) (sp := [34]) (bs := x.text.data.toList) (z := 34) (tl := tl) (by decide) (by decide) (by decide) (by decide) (by rw [g3]; simp : dr c (t.p + 1) = _)
  rw [hq]
  simp only
  rw [str_nums]
  refine ⟨_, rfl, ⟨?_, ?_⟩, rfl⟩
  · show (t.out ++ [_]).map pk = _
    rw [List.map_append]
    show _ ++ [((7, ⟨x.text.data.toList.toArray⟩) : Int × ByteArray)] = _ ++ [((x.kind, x.text) : Int × ByteArray)]
    rw [h1, text_eta]
  · show t.p + 1 + (eBytes [34] x.text.data.toList).length + 1 = _
    simp; omega

theorem plain_step {x : Tok} (hx : Plain x) {k : Int} (hk : k ≠ 9) {tl : List UInt8} (h : dr c t.p = eTok k x ++ tl) (hb : Bnd tl) :
    StopAt c t.p ∧ ∃ t', mtok c t = .ok t' ∧ Step t t' [x] (eTok k x).length ∧ t'.op = t.op := by
  rcases hx with hx | hx | hx | hx | ⟨h1, h2⟩ | hx
  · exact word_step hx hk h hb
  · exact num_step hx h hb
  · exact op_step hx h hb
  · exact sep_step hx h
  · exact chr_step h1 h2 h
  · exact str_step hx h
end
end Go.Proofs.YtkfkgdkfgpofnaaDoor
/- The canonical text of a list of tokens that is in order is read as that list: the whole list. No program. -/
namespace Go.Proofs.YtkfkgdkfgpofnaaDoor
open Go.RowKit
set_option maxRecDepth 100000

/-- Lists that are in order: between tokens (false), or inside of an interpolated string in front of a part (true), with the brackets that are open. -/
inductive Run : Bool → List (Nat × Bool) → List Tok → Prop
  | nil : Run false [] []
  | plain {st : List (Nat × Bool)} {x : Tok} {r : List Tok} : Plain x → Run false st r → Run false st (x :: r)
  | opn {st : List (Nat × Bool)} {x : Tok} {r : List Tok} : x.kind = 3 → x.text.data.toList ∈ ([[40], [91], [123], [39, 123], [36, 123]] : List (List UInt8)) → st.length < 64 → Run false (st ++ [(closerOf x.text.data.toList, false)]) r → Run false st (x :: r)
  | shut {st : List (Nat × Bool)} {x : Tok} {b : UInt8} {r : List Tok} : x.kind = 3 → x.text.data.toList = [b] → cls b.toNat = 6 → Run false st r → Run false (st ++ [(b.toNat, false)]) (x :: r)
  | back {st : List (Nat × Bool)} {x : Tok} {b : UInt8} {r : List Tok} : x.kind = 3 → x.text.data.toList = [b] → cls b.toNat = 6 → Run true st r → Run false (st ++ [(b.toNat, true)]) (x :: r)
  | start {st : List (Nat × Bool)} {x : Tok} {r : List Tok} : x.kind = 8 → StartT x.text.data.toList → Run true st r → Run false st (x :: r)
  | fin {st : List (Nat × Bool)} {x y : Tok} {r : List Tok} : x.kind = 9 → y.kind = 10 → y.text = ⟨#[]⟩ → Run false st r → Run true st (x :: y :: r)
  | ins {st : List (Nat × Bool)} {x y : Tok} {r : List Tok} : x.kind = 9 → y.kind = 3 → y.text = ⟨#[36, 123]⟩ → st.length < 64 → Run false (st ++ [(125, true)]) r → Run true st (x :: y :: r)
  | name {st : List (Nat × Bool)} {x y : Tok} {r : List Tok} : x.kind = 9 → InsT y → Run true st r → Run true st (x :: y :: r)

theorem Plain.kind {x : Tok} (h : Plain x) : 0 ≤ x.kind ∧ x.kind ≤ 7 := by
  rcases h with (⟨h, _⟩ | ⟨_, _, ⟨h, _⟩ | ⟨h, _⟩⟩) | ⟨_, _, _, ⟨h, _⟩ | ⟨h, _⟩⟩ | ⟨_, _, _, ⟨h, _⟩ | ⟨h, _⟩⟩ | ⟨h, _⟩ | ⟨h, _⟩ | h <;> omega
theorem Run.first {m : Bool} {st : List (Nat × Bool)} {l : List Tok} (h : Run m st l) : m = false → ∀ x r, l = x :: r → x.kind ≠ 9 := by
  cases h with
  | nil => intro _ x r e; cases e
  | plain h1 h2 => intro _ x r e; injection e with e1 e2; subst e1; have := h1.kind; omega
  | opn h1 _ _ _ => intro _ x r e; injection e with e1 e2; subst e1; omega
  | shut h1 _ _ _ => intro _ x r e; injection e with e1 e2; subst e1; omega
  | back h1 _ _ _ => intro _ x r e; injection e with e1 e2; subst e1; omega
  | start h1 _ _ => intro _ x r e; injection e with e1 e2; subst e1; omega
  | fin => intro e; cases e
  | ins => intro e; cases e
  | name => intro e; cases e
theorem spc_true {a b : Int} (h1 : a ≠ 8) (h2 : a ≠ 9) (h3 : b ≠ 9) : spc a b = true := by simp [spc, h1, h2, h3]
theorem spc_part {a b : Int} (h : b = 9) : spc a b = false := by simp [spc, h]
theorem spc_in {a b : Int} (h : a = 9) : spc a b = false := by simp [spc, h]
theorem spc_st {a b : Int} (h : a = 8) : spc a b = false := by simp [spc, h]
theorem eFrom_some (k : Int) (x : Tok) (r : List Tok) : eFrom (some k) (x :: r) = (if spc k x.kind = true then [32] else []) ++ eTok k x ++ eFrom (some x.kind) r := rfl
theorem bnd_run {st : List (Nat × Bool)} {r : List Tok} {kk : Int} (h : Run false st r) (h8 : kk ≠ 8) (h9 : kk ≠ 9) : Bnd (eFrom (some kk) r) := by
  rcases r with _ | ⟨y, r⟩
  · exact Or.inl rfl
  · rw [eFrom_some, spc_true h8 h9 (h.first rfl y r rfl)]
    exact Or.inr ⟨_, rfl⟩
theorem eByte_head (sp : List UInt8) (b : UInt8) : ∃ z r, eByte sp b = z :: r ∧ (z = 92 ∨ z = b) := by
  unfold eByte
  repeat' split
  all_goals first
    | exact ⟨92, _, rfl, Or.inl rfl⟩
    | exact ⟨b, _, rfl, Or.inr rfl⟩
/-- Behind a part stands a double quote or a dollar sign. -/
theorem Run.second {m : Bool} {st : List (Nat × Bool)} {l : List Tok} (h : Run m st l) : m = true → ∃ x y r, l = x :: y :: r ∧ x.kind = 9 ∧ ∃ z tl, eFrom (some x.kind) (y :: r) = z :: tl ∧ (z = 34 ∨ z = 36) := by
  cases h with
  | nil => intro e; cases e
  | plain => intro e; cases e
  | opn => intro e; cases e
  | shut => intro e; cases e
  | back => intro e; cases e
  | start => intro e; cases e
  | @fin _ _ _ r h1 h2 h3 h4 =>
    intro _
    refine ⟨_, _, _, rfl, h1, 34, eFrom (some 10) r, ?_, Or.inl rfl⟩
    rw [eFrom_some, h1, spc_in rfl]
    simp only [Bool.false_eq_true, if_false, List.nil_append]
    unfold eTok
    rw [h2]
    rfl
  | @ins _ _ _ r h1 h2 h3 h4 h5 =>
    intro _
    refine ⟨_, _, _, rfl, h1, 36, 123 :: eFrom (some 3) r, ?_, Or.inr rfl⟩
    rw [eFrom_some, h1, spc_in rfl]
    simp only [Bool.false_eq_true, if_false, List.nil_append]
    unfold eTok
    rw [h2, h3]
    rfl
  | @name _ _ y r h1 h2 h3 =>
    intro _
    refine ⟨_, _, _, rfl, h1, 36, y.text.data.toList ++ eFrom (some y.kind) r, ?_, Or.inr rfl⟩
    rw [eFrom_some, h1, spc_in rfl]
    simp only [Bool.false_eq_true, if_false, List.nil_append]
    unfold eTok
    rcases h2 with ⟨_, _, ⟨h, _⟩ | ⟨h, _⟩⟩ <;> rw [h] <;> rfl
/-- Behind a name in a string no byte goes on with the name. -/
theorem Run.after {st : List (Nat × Bool)} {l : List Tok} (h : Run true st l) {kk : Int} (hk : kk = 0 ∨ kk = 1) : ∀ y r, eFrom (some kk) l = y :: r → wordB y.toNat = false := by
  obtain ⟨x, y, r, rfl, hx, z, tl, h1, h2⟩ := h.second rfl
  have e : eFrom (some kk) (x :: y :: r) = ePart true x.text.data.toList ++ z :: tl := by
    rw [eFrom_some, hx, spc_part rfl, ← hx, h1]
    simp only [Bool.false_eq_true, if_false, List.nil_append]
    unfold eTok
    rw [hx]
    rcases hk with rfl | rfl <;> rfl
  rw [e]
  intro a b hab
  rcases hw : x.text.data.toList with _ | ⟨u, w⟩
  · rw [hw] at hab
    injection hab with h3 h4
    subst h3
    rcases h2 with rfl | rfl <;> decide
  · rw [hw] at hab
    have ec : ePart true (u :: w) = if (true && wordB u.toNat) = true then eHex u ++ eBytes [34, 36] w else eBytes [34, 36] (u :: w) := rfl
    rw [ec] at hab
    split at hab
    · injection hab with h3 h4
      subst h3
      decide
    · rename_i hu
      obtain ⟨z2, r2, h5, h6⟩ := eByte_head [34, 36] u
      unfold eBytes at hab
      rw [List.flatMap_cons, h5] at hab
      injection hab with h3 h4
      subst h3
      rcases h6 with rfl | rfl
      · decide
      · simpa using hu

theorem closer_text {w : List UInt8} (h : w ∈ ([[40], [91], [123], [39, 123], [36, 123]] : List (List UInt8))) : w = [40] ∨ w = [91] ∨ w = [123] ∨ w = [39, 123] ∨ w = [36, 123] := by simpa using h
theorem map_last {op : List Br} {st : List (Nat × Bool)} {a : Nat × Bool} (h : op.map prb = st ++ [a]) : ∃ br, op.getLast? = some br ∧ prb br = a ∧ op.dropLast.map prb = st := by
  have hne : op ≠ [] := by intro e; rw [e] at h; exact absurd h (by simp)
  have e := List.dropLast_concat_getLast hne
  rw [← e, List.map_append] at h
  have h2 := List.append_inj' h rfl
  refine ⟨op.getLast hne, List.getLast?_eq_some_getLast hne, ?_, h2.1⟩
  simpa using h2.2
theorem openMark_at {t : St} {m : ByteArray} {b : Bool} {st : List (Nat × Bool)} (h : t.op.map prb = st) (hl : st.length < 64) : ∃ t', t.openMark m b = .ok t' ∧ t'.out = t.out ++ [⟨3, m, t.p, t.l, (t.p : Int) - t.g⟩] ∧ t'.op.map prb = st ++ [(closerOf m.data.toList, b)] ∧ t'.p = t.p + m.size := by
  have : t.op.length < 64 := by rw [← h] at hl; simpa using hl
  unfold St.openMark
  rw [if_neg (by omega)]
  refine ⟨_, rfl, rfl, ?_, rfl⟩
  show (t.op ++ [_]).map prb = _
  rw [List.map_append, h, ← ByteArray.toList_eq]
  rfl

/-- Inside of a string, up to where it ends or an expression begins. -/
theorem parts_run {m : Bool} {st : List (Nat × Bool)} {rest : List Tok} (h : Run m st rest) : m = true → ∃ new rest' st' kk, rest = new ++ rest' ∧ new ≠ [] ∧ Run false st' rest' ∧ kk ≠ 8 ∧ kk ≠ 9 ∧
    ∀ (c : ByteArray) (t : St) (k : Int) (n : Nat), t.op.map prb = st → dr c t.p = eFrom (some k) rest → c.size - t.p < n →
      ∃ T, mpartsF c n t = .ok T ∧ T.op.map prb = st' ∧ T.out.map pk = t.out.map pk ++ new.map pk ∧ dr c T.p = eFrom (some kk) rest' ∧ t.p < T.p ∧ T.p ≤ c.size := by
  induction h with
  | nil => intro e; cases e
  | plain => intro e; cases e
  | opn => intro e; cases e
  | shut => intro e; cases e
  | back => intro e; cases e
  | start => intro e; cases e
  | @fin st x y r h1 h2 h3 h4 =>
    intro _
    refine ⟨[x, y], r, st, 10, rfl, by simp, h4, by decide, by decide, fun c t k n ho hd hn => ?_⟩
    obtain ⟨n, rfl⟩ : ∃ m, n = m + 1 := ⟨n - 1, by omega⟩
    have e1 : eFrom (some x.kind) (y :: r) = 34 :: eFrom (some 10) r := by
      rw [eFrom_some, h1, spc_in rfl, h2]
      simp only [Bool.false_eq_true, if_false, List.nil_append]
      unfold eTok
      rw [h2]
      rfl
    have e2 : eTok k x = ePart (k == 0 || k == 1) x.text.data.toList := by unfold eTok; rw [h1]; rfl
    rw [eFrom_some, spc_part h1, e1, e2] at hd
    simp only [Bool.false_eq_true, if_false, List.nil_append] at hd
    have hq := part_at (Or.inl rfl) hd
    obtain ⟨g1, _⟩ := dr_app hd
    obtain ⟨g3, g4, g5⟩ := dr_cons g1
    rw [mpartsF, hq]
    simp only
    have ha : ah c (t.p + (ePart (k == 0 || k == 1) x.text.data.toList).length) ⟨#[34]⟩ = true := by rw [ah_one]; simp [g3, g4]
    rw [if_pos ha, str_nums]
    refine ⟨_, rfl, ho, ?_, g5, ?_, ?_⟩
    · show ((t.out ++ [_]) ++ [_]).map pk = _
      rw [List.map_append, List.map_append, List.append_assoc]
      congr 1
      show [((9, ⟨x.text.data.toList.toArray⟩) : Int × ByteArray), ((10, ⟨#[]⟩) : Int × ByteArray)] = [(x.kind, x.text), (y.kind, y.text)]
      rw [h1, h2, h3, text_eta]
    · show t.p < t.p + (ePart (k == 0 || k == 1) x.text.data.toList).length + 1
      omega
    · show t.p + (ePart (k == 0 || k == 1) x.text.data.toList).length + 1 ≤ c.size
      omega
  | @ins st x y r h1 h2 h3 h4 h5 =>
    intro _
    refine ⟨[x, y], r, st ++ [(125, true)], 3, rfl, by simp, h5, by decide, by decide, fun c t k n ho hd hn => ?_⟩
    obtain ⟨n, rfl⟩ : ∃ m, n = m + 1 := ⟨n - 1, by omega⟩
    have e1 : eFrom (some x.kind) (y :: r) = 36 :: (123 :: eFrom (some 3) r) := by
      rw [eFrom_some, h1, spc_in rfl, h2]
      simp only [Bool.false_eq_true, if_false, List.nil_append]
      unfold eTok
      rw [h2, h3]
      rfl
    have e2 : eTok k x = ePart (k == 0 || k == 1) x.text.data.toList := by unfold eTok; rw [h1]; rfl
    rw [eFrom_some, spc_part h1, e1, e2] at hd
    simp only [Bool.false_eq_true, if_false, List.nil_append] at hd
    have hq := part_at (Or.inr rfl) hd
    obtain ⟨g1, _⟩ := dr_app hd
    obtain ⟨g3, g4, g5⟩ := dr_cons g1
    obtain ⟨g6, g7, g8⟩ := dr_cons g5
    rw [mpartsF, hq]
    simp only
    have ha : ah c (t.p + (ePart (k == 0 || k == 1) x.text.data.toList).length) ⟨#[34]⟩ = false := by rw [ah_one, g4]; simp
    have hb : ah c (t.p + (ePart (k == 0 || k == 1) x.text.data.toList).length) ⟨#[36, 123]⟩ = true := by rw [ah_two, ah_one, ah_one, g4, g7]; simp [g3, g6]
    rw [if_neg (by rw [ha]; simp), if_pos hb, str_nums]
    obtain ⟨T, f1, f2, f3, f4⟩ := openMark_at (t := St.put { t with p := t.p + (ePart (k == 0 || k == 1) x.text.data.toList).length } 9 ⟨x.text.data.toList.toArray⟩ t.p (t.p + (ePart (k == 0 || k == 1) x.text.data.toList).length)) (m := ⟨#[36, 123]⟩) (b := true) (st := st) ho h4
    refine ⟨T, f1, f3, ?_, ?_, ?_, ?_⟩
    · rw [f2]
      show ((t.out ++ [_]) ++ [_]).map pk = _
      rw [List.map_append, List.map_append, List.append_assoc]
      congr 1
      show [((9, ⟨x.text.data.toList.toArray⟩) : Int × ByteArray), ((3, ⟨#[36, 123]⟩) : Int × ByteArray)] = [(x.kind, x.text), (y.kind, y.text)]
      rw [h1, h2, h3, text_eta]
    · rw [f4]; exact g8
    · rw [f4]; show t.p < t.p + (ePart (k == 0 || k == 1) x.text.data.toList).length + 2; omega
    · rw [f4]; show t.p + (ePart (k == 0 || k == 1) x.text.data.toList).length + 2 ≤ c.size; omega
  | @name st x y r h1 h2 h3 ih =>
    intro _
    obtain ⟨new, rest', st', kk, i1, i2, i3, i4, i5, i6⟩ := ih rfl
    refine ⟨x :: y :: new, rest', st', kk, by rw [i1]; rfl, by simp, i3, i4, i5, fun c t k n ho hd hn => ?_⟩
    obtain ⟨n, rfl⟩ : ∃ m, n = m + 1 := ⟨n - 1, by omega⟩
    obtain ⟨w, hw⟩ : ∃ w, w = y.text.data.toList := ⟨_, rfl⟩
    have ht : y.text = ⟨w.toArray⟩ := by rw [hw, text_eta]
    obtain ⟨⟨⟨a, r2, ha1, ha2⟩, hall⟩, hne, hkw⟩ := h2
    rw [← hw] at ha1 hall hne hkw
    have hyk : y.kind = 0 ∨ y.kind = 1 := by rcases hkw with ⟨h, _⟩ | ⟨h, _⟩ <;> omega
    have e1 : eFrom (some x.kind) (y :: r) = 36 :: (w ++ eFrom (some y.kind) r) := by
      rw [eFrom_some, h1, spc_in rfl]
      simp only [Bool.false_eq_true, if_false, List.nil_append]
      unfold eTok
      rw [if_pos hyk, hw]
      rfl
    have e2 : eTok k x = ePart (k == 0 || k == 1) x.text.data.toList := by unfold eTok; rw [h1]; rfl
    rw [eFrom_some, spc_part h1, e1, e2] at hd
    simp only [Bool.false_eq_true, if_false, List.nil_append] at hd
    have hq := part_at (Or.inr rfl) hd
    obtain ⟨g1, _⟩ := dr_app hd
    obtain ⟨g3, g4, g5⟩ := dr_cons g1
    have hc1 := dr_cons (x := a) (tl := r2 ++ eFrom (some y.kind) r) (by rw [g5, ha1]; rfl)
    rw [mpartsF, hq]
    simp only
    obtain ⟨q, hqq⟩ : ∃ q, q = t.p + (ePart (k == 0 || k == 1) x.text.data.toList).length := ⟨_, rfl⟩
    rw [← hqq] at g3 g4 g5 hc1 ⊢
    have ha : ah c q ⟨#[34]⟩ = false := by rw [ah_one, g4]; simp
    have hb : ah c q ⟨#[36, 123]⟩ = false := by
      rw [ah_two, ah_one, ah_one, hc1.2.1]
      have : a.toNat ≠ 123 := by intro e; rw [e] at ha2; exact absurd ha2 (by decide)
      simp [this]
    rw [if_neg (by rw [ha]; simp), if_neg (by rw [hb]; simp), str_nums]
    have hE := wEnd_at g5 hall (h3.after hyk)
    have hlen : 0 < w.length := by rw [ha1]; simp
    have hin : minserted c (St.put { t with p := q } 9 ⟨x.text.data.toList.toArray⟩ t.p q) = .ok ((St.put { t with p := q } 9 ⟨x.text.data.toList.toArray⟩ t.p q).put y.kind ⟨w.toArray⟩ (q + 1) (q + 1 + w.length)) := by
      unfold minserted
      show (if wEnd c (q + 1) = q + 1 ∨ (sub c (q + 1) (wEnd c (q + 1))).toList = [95] ∨ cls (bt c (q + 1)) = 3 then _ else if kwB (sub c (q + 1) (wEnd c (q + 1))).toList = true then .ok (St.put _ 1 (sub c (q + 1) (wEnd c (q + 1))) (q + 1) (wEnd c (q + 1))) else St.putN _ 0 (sub c (q + 1) (wEnd c (q + 1))) (q + 1) (wEnd c (q + 1))) = _
      rw [hE, sub_list g5, sub_at g5, hc1.2.1, ha2, if_neg (fun e => e.elim (fun e => by omega) (fun e => e.elim hne (fun e => absurd e (by decide))))]
      rcases hkw with ⟨h5, h6⟩ | ⟨h5, h6, h7⟩
      · rw [if_pos h6, h5]
      · rw [if_neg (by rw [h6]; simp), putN_at (by rw [arr_size]; exact h7), h5]
    rw [hin]
    simp only
    have g9 := dr_app g5
    have g10 := g9.2 (by rw [ha1]; simp)
    obtain ⟨T, f1, f2, f3, f4, f5, f6⟩ := i6 c ((St.put { t with p := q } 9 ⟨x.text.data.toList.toArray⟩ t.p q).put y.kind ⟨w.toArray⟩ (q + 1) (q + 1 + w.length)) y.kind n ho g9.1 (by show c.size - (q + 1 + w.length) < n; omega)
    refine ⟨T, f1, f2, ?_, f4, ?_, f6⟩
    · rw [f3]
      show ((t.out ++ [_]) ++ [_]).map pk ++ _ = _
      rw [List.map_append, List.map_append, List.append_assoc, List.append_assoc]
      congr 1
      show [((9, ⟨x.text.data.toList.toArray⟩) : Int × ByteArray), ((y.kind, ⟨w.toArray⟩) : Int × ByteArray)] ++ new.map pk = [(x.kind, x.text), (y.kind, y.text)] ++ new.map pk
      rw [h1, text_eta, ht]
    · have : q + 1 + w.length < T.p := f5
      omega

/-- From between two tokens on. -/
def mtail (c : ByteArray) (n : Nat) (t : St) : Except Flt St :=
  match mskip c t.p t.l t.g with
  | .error a => .error (a, 27)
  | .ok (p, l, g) => mallF c n { t with p := p, l := l, g := g }
theorem mallF_succ {c : ByteArray} {n : Nat} {t t1 : St} (hlt : t.p < c.size) (h : mtok c t = .ok t1) : mallF c (n + 1) t = mtail c n t1 := by
  rw [mallF, if_pos hlt, h]
  rfl
theorem skip_stop {c : ByteArray} {p l g : Nat} (hlt : p < c.size) (h : StopAt c p) (n : Nat) : mskipF c (n + 1) p l g = .ok (p, l, g) := by
  obtain ⟨h1, h2, h3⟩ := h
  have h10 : bt c p ≠ 10 := by intro e; rw [e] at h1; exact h1 (by decide)
  rw [mskipF, if_pos hlt, if_neg h10, if_neg h1, if_neg (by rw [h2]; simp), if_neg (by rw [h3]; simp)]
theorem skip_here {c : ByteArray} {p l g : Nat} (hlt : p < c.size) (h : StopAt c p) : mskip c p l g = .ok (p, l, g) := skip_stop hlt h _
theorem skip_blank {c : ByteArray} {p l g : Nat} (hb : bt c p = 32) (hlt : p + 1 < c.size) (h : StopAt c (p + 1)) : mskip c p l g = .ok (p + 1, l, g) := by
  unfold mskip
  obtain ⟨n, hn⟩ : ∃ n, c.size - p = n + 1 := ⟨c.size - p - 1, by omega⟩
  rw [hn, mskipF, if_pos (by omega), hb, if_neg (by decide), if_pos (by decide)]
  exact skip_stop hlt h _
theorem skip_end {c : ByteArray} {p l g : Nat} (h : c.size ≤ p) : mskip c p l g = .ok (p, l, g) := by
  unfold mskip
  rw [mskipF, if_neg (by omega)]

theorem eTok_ne {k : Int} {x : Tok} {st : List (Nat × Bool)} {r : List Tok} (h : Run false st (x :: r)) : eTok k x ≠ [] := by
  intro e
  unfold eTok at e
  cases h with
  | plain h =>
    rcases h with (⟨h1, h2⟩ | ⟨⟨⟨a, b, h2, _⟩, _⟩, _, ⟨h1, _⟩ | ⟨h1, _⟩⟩) | ⟨h2, _, _, ⟨h1, _⟩ | ⟨h1, _⟩⟩ | ⟨h2, _, _, ⟨h1, _⟩ | ⟨h1, _⟩⟩ | ⟨h1, b, h2, _⟩ | ⟨h1, _⟩ | h1 <;> rw [h1] at e <;> simp_all
  | opn h1 h2 _ _ => rw [h1] at e; rcases closer_text h2 with h | h | h | h | h <;> simp_all
  | shut h1 h2 _ _ => rw [h1] at e; simp_all
  | back h1 h2 _ _ => rw [h1] at e; simp_all
  | start h1 _ _ => rw [h1] at e; simp at e

/-- One step from a head. -/
theorem head_step {st : List (Nat × Bool)} {x : Tok} {r : List Tok} (h : Run false st (x :: r)) {c : ByteArray} {t : St} {k : Int} (hk : k ≠ 9) (ho : t.op.map prb = st) (hd : dr c t.p = eTok k x ++ eFrom (some x.kind) r) :
    StopAt c t.p ∧ ∃ T new rest' st' kk, mtok c t = .ok T ∧ x :: r = new ++ rest' ∧ new ≠ [] ∧ Run false st' rest' ∧ kk ≠ 8 ∧ kk ≠ 9 ∧ T.op.map prb = st' ∧ T.out.map pk = t.out.map pk ++ new.map pk ∧ dr c T.p = eFrom (some kk) rest' ∧ t.p < T.p ∧ T.p ≤ c.size := by
  have hne := eTok_ne (k := k) h
  have hda := dr_app hd
  have hle := hda.2 hne
  have hpos : 0 < (eTok k x).length := List.length_pos_iff.mpr hne
  cases h with
  | plain h1 h2 =>
    have hkd := h1.kind
    obtain ⟨s1, T, s2, s3, s4⟩ := plain_step h1 hk hd (bnd_run h2 (by omega) (by omega))
    refine ⟨s1, T, [x], r, st, x.kind, s2, rfl, by simp, h2, by omega, by omega, by rw [s4]; exact ho, s3.out, ?_, ?_, ?_⟩
    · rw [s3.p]; exact hda.1
    · rw [s3.p]; omega
    · rw [s3.p]; exact hle
  | opn h1 h2 h3 h4 =>
    have he : eTok k x = x.text.data.toList := by unfold eTok; rw [h1]; rfl
    rw [he] at hd hda hle hpos
    have key : StopAt c t.p ∧ mtok c t = t.openMark x.text false := by
      rcases closer_text h2 with h | h | h | h | h
      · have hc := dr_cons (x := 40) (by rw [hd, h]; rfl)
        have hcl : cls (bt c t.p) = 5 := by rw [hc.2.1]; decide
        refine ⟨stop_of_cls (by rw [hcl]; decide) (by rw [hcl]; decide), ?_⟩
        rw [mtok5 hcl]; unfold mopening
        have := sub_at (a := [40]) (by rw [hd, h])
        rw [List.length_singleton] at this
        rw [this, ← h, text_eta]
      · have hc := dr_cons (x := 91) (by rw [hd, h]; rfl)
        have hcl : cls (bt c t.p) = 5 := by rw [hc.2.1]; decide
        refine ⟨stop_of_cls (by rw [hcl]; decide) (by rw [hcl]; decide), ?_⟩
        rw [mtok5 hcl]; unfold mopening
        have := sub_at (a := [91]) (by rw [hd, h])
        rw [List.length_singleton] at this
        rw [this, ← h, text_eta]
      · have hc := dr_cons (x := 123) (by rw [hd, h]; rfl)
        have hcl : cls (bt c t.p) = 5 := by rw [hc.2.1]; decide
        refine ⟨stop_of_cls (by rw [hcl]; decide) (by rw [hcl]; decide), ?_⟩
        rw [mtok5 hcl]; unfold mopening
        have := sub_at (a := [123]) (by rw [hd, h])
        rw [List.length_singleton] at this
        rw [this, ← h, text_eta]
      · have hc := dr_cons (x := 39) (tl := 123 :: eFrom (some x.kind) r) (by rw [hd, h]; rfl)
        have hc2 := dr_cons hc.2.2
        have hcl : cls (bt c t.p) = 8 := by rw [hc.2.1]; decide
        refine ⟨stop_of_cls (by rw [hcl]; decide) (by rw [hcl]; decide), ?_⟩
        rw [mtok8 hcl]; unfold msingle
        rw [if_pos (by rw [ah_two, ah_one, ah_one, hc.2.1, hc2.2.1]; simp [hc.1, hc2.1])]
        rw [show (⟨#[39, 123]⟩ : ByteArray) = x.text from by rw [← text_eta x.text, h]]
      · have hc := dr_cons (x := 36) (tl := 123 :: eFrom (some x.kind) r) (by rw [hd, h]; rfl)
        have hc2 := dr_cons hc.2.2
        have hcl : cls (bt c t.p) = 10 := by rw [hc.2.1]; decide
        refine ⟨stop_of_cls (by rw [hcl]; decide) (by rw [hcl]; decide), ?_⟩
        rw [mtok10 hcl]; unfold mdollar
        rw [if_pos (by rw [ah_two, ah_one, ah_one, hc.2.1, hc2.2.1]; simp [hc.1, hc2.1])]
        rw [show (⟨#[36, 123]⟩ : ByteArray) = x.text from by rw [← text_eta x.text, h]]
    obtain ⟨T, f1, f2, f3, f4⟩ := openMark_at (m := x.text) (b := false) ho h3
    have hsz : x.text.size = x.text.data.toList.length := by rw [Array.length_toList]; rfl
    refine ⟨key.1, T, [x], r, _, x.kind, by rw [key.2, f1], rfl, by simp, h4, by omega, by omega, f3, ?_, ?_, ?_, ?_⟩
    · rw [f2, List.map_append]
      show _ ++ [((3, x.text) : Int × ByteArray)] = _ ++ [((x.kind, x.text) : Int × ByteArray)]
      rw [h1]
    · rw [f4, hsz]; exact hda.1
    · rw [f4, hsz]; omega
    · rw [f4, hsz]; exact hle
  | @shut st x b r h1 h2 h3 h4 =>
    have he : eTok k x = [b] := by unfold eTok; rw [h1, h2]; rfl
    rw [he] at hd hda hle
    obtain ⟨g1, g2, g3⟩ := dr_cons hd
    have hcl : cls (bt c t.p) = 6 := by rw [g2]; exact h3
    obtain ⟨br, b1, b2, b3⟩ := map_last ho
    have b4 : br.closer = b.toNat ∧ br.inside = false := by unfold prb at b2; injection b2 with e1 e2; exact ⟨e1, e2⟩
    refine ⟨stop_of_cls (by rw [hcl]; decide) (by rw [hcl]; decide), ?_⟩
    have hS := sub_at hd
    rw [List.length_singleton] at hS
    refine ⟨msep c { t with op := t.op.dropLast }, [x], r, st, x.kind, ?_, rfl, by simp, h4, by omega, by omega, b3, ?_, g3, by show t.p < t.p + 1; omega, by show t.p + 1 ≤ c.size; omega⟩
    · rw [mtok6 hcl]
      unfold mclosing
      rw [b1]
      simp only
      rw [if_pos (by rw [g2, b4.1]), if_neg (by rw [b4.2]; simp)]
    · show (t.out ++ [_]).map pk = _
      rw [List.map_append]
      show _ ++ [((3, sub c t.p (t.p + 1)) : Int × ByteArray)] = _ ++ [((x.kind, x.text) : Int × ByteArray)]
      rw [hS, h1, ← h2, text_eta]
  | @back st x b r h1 h2 h3 h4 =>
    have he : eTok k x = [b] := by unfold eTok; rw [h1, h2]; rfl
    rw [he] at hd hda hle
    obtain ⟨g1, g2, g3⟩ := dr_cons hd
    have hcl : cls (bt c t.p) = 6 := by rw [g2]; exact h3
    obtain ⟨br, b1, b2, b3⟩ := map_last ho
    have b4 : br.closer = b.toNat ∧ br.inside = true := by unfold prb at b2; injection b2 with e1 e2; exact ⟨e1, e2⟩
    refine ⟨stop_of_cls (by rw [hcl]; decide) (by rw [hcl]; decide), ?_⟩
    have hS := sub_at hd
    rw [List.length_singleton] at hS
    obtain ⟨new, rest', st', kk, i1, i2, i3, i4, i5, i6⟩ := parts_run h4 rfl
    obtain ⟨T, f1, f2, f3, f4, f5, f6⟩ := i6 c (msep c { t with op := t.op.dropLast }) x.kind (c.size - (msep c { t with op := t.op.dropLast }).p + 1) b3 g3 (Nat.lt_succ_self _)
    refine ⟨T, x :: new, rest', st', kk, ?_, by rw [i1]; rfl, by simp, i3, i4, i5, f2, ?_, f4, ?_, f6⟩
    · rw [mtok6 hcl]
      unfold mclosing
      rw [b1]
      simp only
      rw [if_pos (by rw [g2, b4.1]), if_pos b4.2]
      exact f1
    · rw [f3]
      show (t.out ++ [_]).map pk ++ _ = _
      rw [List.map_append, List.append_assoc]
      show _ ++ ([((3, sub c t.p (t.p + 1)) : Int × ByteArray)] ++ new.map pk) = _ ++ ([((x.kind, x.text) : Int × ByteArray)] ++ new.map pk)
      rw [hS, h1, ← h2, text_eta]
    · have : t.p + 1 < T.p := f5
      omega
  | start h1 h2 h3 =>
    obtain ⟨w, hw⟩ : ∃ w, w = x.text.data.toList := ⟨_, rfl⟩
    have ht : x.text = ⟨w.toArray⟩ := by rw [hw, text_eta]
    obtain ⟨⟨⟨a, r2, ha1, ha2⟩, hall⟩, hne2, hkw, h64⟩ := h2
    rw [← hw] at ha1 hall hne2 hkw h64
    have he : eTok k x = w ++ [34] := by unfold eTok; rw [h1, hw]; rfl
    rw [he] at hd hda hle
    have hd' : dr c t.p = w ++ (34 :: eFrom (some x.kind) r) := by rw [hd]; simp
    have hc := dr_cons (x := a) (tl := r2 ++ (34 :: eFrom (some x.kind) r)) (by rw [hd', ha1]; rfl)
    have hcl : cls (bt c t.p) = 2 := by rw [hc.2.1]; exact ha2
    refine ⟨stop_of_cls (by rw [hcl]; decide) (by rw [hcl]; decide), ?_⟩
    have hE := wEnd_at hd' hall (by intro y r e; injection e with e1 e2; subst e1; decide)
    have g1 := dr_cons (dr_app hd').1
    obtain ⟨new, rest', st', kk, i1, i2, i3, i4, i5, i6⟩ := parts_run h3 rfl
    have hput : t.putN 8 (sub c t.p (wEnd c t.p)) t.p (wEnd c t.p + 1) = .ok (t.put 8 ⟨w.toArray⟩ t.p (t.p + w.length + 1)) := by
      rw [hE, sub_at hd', putN_at (by rw [arr_size]; exact h64)]
    obtain ⟨T, f1, f2, f3, f4, f5, f6⟩ := i6 c (t.put 8 ⟨w.toArray⟩ t.p (t.p + w.length + 1)) x.kind (c.size - (t.put 8 ⟨w.toArray⟩ t.p (t.p + w.length + 1)).p + 1) ho g1.2.2 (Nat.lt_succ_self _)
    refine ⟨T, x :: new, rest', st', kk, ?_, by rw [i1]; rfl, by simp, i3, i4, i5, f2, ?_, f4, ?_, f6⟩
    · rw [mtok2 hcl]
      unfold mword
      rw [hput]
      have hq : ah c (wEnd c t.p) ⟨#[34]⟩ = true := by rw [hE, ah_one, g1.2.1]; simp [g1.1]
      rw [hq, hE, sub_list hd', if_neg hne2, if_neg (by rw [hkw]; simp), if_pos rfl]
      exact f1
    · rw [f3]
      show (t.out ++ [_]).map pk ++ _ = _
      rw [List.map_append, List.append_assoc]
      show _ ++ ([((8, ⟨w.toArray⟩) : Int × ByteArray)] ++ new.map pk) = _ ++ ([((x.kind, x.text) : Int × ByteArray)] ++ new.map pk)
      rw [h1, ht]
    · have : t.p + w.length + 1 < T.p := f5
      omega

/-- The whole of what follows. -/
theorem head_run (N : Nat) : ∀ (st : List (Nat × Bool)) (rest : List Tok), rest.length ≤ N → Run false st rest → ∀ (c : ByteArray) (t : St) (k : Option Int) (n : Nat), t.op.map prb = st → (k = none ∨ ∃ kk, k = some kk ∧ kk ≠ 8 ∧ kk ≠ 9) → dr c t.p = eFrom k rest → t.p ≤ c.size → c.size - t.p < n →
    ∃ T, mtail c n t = .ok T ∧ T.out.map pk = t.out.map pk ++ rest.map pk := by
  induction N with
  | zero =>
    intro st rest hl h c t k n ho hk hd hp hn
    have : rest = [] := List.eq_nil_of_length_eq_zero (by omega)
    subst this
    have hz : c.size ≤ t.p := dr_nil (by rw [hd]; cases k <;> rfl)
    have hst : st = [] := by cases h; rfl
    obtain ⟨n, rfl⟩ : ∃ m, n = m + 1 := ⟨n - 1, by omega⟩
    have hop : t.op = [] := by rw [hst] at ho; simpa using ho
    refine ⟨t, ?_, by simp⟩
    unfold mtail
    rw [skip_end hz]
    simp only
    rw [mallF, if_neg (by show ¬ t.p < c.size; omega)]
    cases t
    simp only at hop
    subst hop
    rfl
  | succ N ih =>
    intro st rest hl h c t k n ho hk hd hp hn
    rcases rest with _ | ⟨x, r⟩
    · exact ih st [] (by simp) h c t k n ho hk hd hp hn
    · obtain ⟨n, rfl⟩ : ∃ m, n = m + 1 := ⟨n - 1, by omega⟩
      have hx9 := h.first rfl x r rfl
      have hne := fun kk => eTok_ne (k := kk) h
      have fin : ∀ (t2 : St) (kk : Int), kk ≠ 9 → t2.op = t.op → t2.out = t.out → t.p ≤ t2.p → dr c t2.p = eTok kk x ++ eFrom (some x.kind) r →
          t2.p < c.size ∧ StopAt c t2.p ∧ ∃ T, mallF c (n + 1) t2 = .ok T ∧ T.out.map pk = t.out.map pk ++ (x :: r).map pk := by
        intro t2 kk hk9 e1 e2 e3 hd2
        obtain ⟨s1, T, new, rest', st', k3, s2, s3, s4, s5, s6, s7, s8, s9, s10, s11, s12⟩ := head_step h hk9 (by rw [e1]; exact ho) hd2
        have hlt : t2.p < c.size := by omega
        have hlen : rest'.length ≤ N := by
          have := congrArg List.length s3
          rw [List.length_append] at this
          have h5 : 0 < new.length := List.length_pos_iff.mpr s4
          omega
        obtain ⟨T2, f1, f2⟩ := ih st' rest' hlen s5 c T (some k3) n s8 (Or.inr ⟨k3, rfl, s6, s7⟩) s10 s12 (by omega)
        refine ⟨hlt, s1, T2, by rw [mallF_succ hlt s2]; exact f1, ?_⟩
        rw [f2, s9, s3, List.map_append, List.append_assoc, e2]
      rcases hk with rfl | ⟨kk, rfl, hk8, hk9⟩
      · have hd2 : dr c t.p = eTok (-1) x ++ eFrom (some x.kind) r := hd
        obtain ⟨f1, f2, T, f3, f4⟩ := fin t (-1) (by decide) rfl rfl (Nat.le_refl _) hd2
        refine ⟨T, ?_, f4⟩
        unfold mtail
        rw [skip_here f1 f2]
        exact f3
      · rw [eFrom_some, spc_true hk8 hk9 hx9] at hd
        obtain ⟨g1, g2, g3⟩ := dr_cons (x := 32) (tl := eTok kk x ++ eFrom (some x.kind) r) (by rw [hd]; simp)
        obtain ⟨f1, f2, T, f3, f4⟩ := fin { t with p := t.p + 1 } kk hk9 rfl rfl (by show t.p ≤ t.p + 1; omega) g3
        refine ⟨T, ?_, f4⟩
        unfold mtail
        rw [skip_blank g2 f1 f2]
        exact f3
end Go.Proofs.YtkfkgdkfgpofnaaDoor
/- The tokens of a text are a list in order, and its canonical text is not too long. No program. -/
namespace Go.Proofs.YtkfkgdkfgpofnaaDoor
open Go.RowKit
set_option maxRecDepth 100000

section
variable {s : ByteArray}
theorem sub_dat (a e : Nat) : (sub s a e).data.toList = (dr s a).take (e - a) := by rw [← ByteArray.toList_eq, extract_list]
theorem sub_mem {a e : Nat} {b : UInt8} (h : b ∈ (sub s a e).data.toList) : ∃ q, a ≤ q ∧ q < e ∧ q < s.size ∧ b.toNat = bt s q := by
  rw [sub_dat] at h
  obtain ⟨i, hi, h2⟩ := List.mem_iff_getElem.mp h
  have hl : i < e - a ∧ i < s.size - a := by
    rw [List.length_take, dr_len] at hi; omega
  refine ⟨a + i, by omega, by omega, by omega, ?_⟩
  rw [← h2, List.getElem_take]
  have h3 : (dr s a)[i]'(by rw [dr_len]; omega) = s.data.toList[a + i]'(by rw [Array.length_toList]; show a + i < s.size; omega) := by
    show (List.drop a s.data.toList)[i]'_ = _
    rw [List.getElem_drop]
  rw [h3]
  unfold bt
  rw [List.getD_eq_getElem?_getD, List.getElem?_eq_getElem (by rw [Array.length_toList]; show a + i < s.size; omega)]
  rfl
theorem sub_head {a e : Nat} (h : a < e) (h2 : a < s.size) : ∃ x r, (sub s a e).data.toList = x :: r ∧ x.toNat = bt s a := by
  rw [sub_dat]
  have hl := @dr_len s a
  rcases hd : dr s a with _ | ⟨x, r⟩
  · rw [hd] at hl; simp at hl; omega
  · obtain ⟨n, hn⟩ : ∃ n, e - a = n + 1 := ⟨e - a - 1, by omega⟩
    rw [hn]
    exact ⟨x, r.take n, rfl, (dr_cons hd).2.1.symm⟩
theorem sub_len {a e : Nat} (h : e ≤ s.size) : (sub s a e).data.toList.length = e - a := by
  rw [sub_dat, List.length_take, dr_len]; omega
theorem sub_size {a e : Nat} (h : e ≤ s.size) : (sub s a e).size = e - a := extract_size s a e h
theorem wEndF_all (n : Nat) : ∀ p q, p ≤ q → q < wEndF s n p → wordB (bt s q) = true := by
  induction n with
  | zero => intro p q h1 h2; rw [wEndF] at h2; omega
  | succ n ih =>
    intro p q h1 h2
    rw [wEndF] at h2
    split at h2
    · rename_i hc
      rcases Nat.eq_or_lt_of_le h1 with rfl | h3
      · exact hc.2
      · exact ih (p + 1) q h3 h2
    · omega
theorem wEnd_all {p q : Nat} (h1 : p ≤ q) (h2 : q < wEnd s p) : wordB (bt s q) = true := wEndF_all _ p q h1 h2
theorem nEndF_all (n : Nat) : ∀ p q, p ≤ q → q < nEndF s n p → cls (bt s q) = 3 := by
  induction n with
  | zero => intro p q h1 h2; rw [nEndF] at h2; omega
  | succ n ih =>
    intro p q h1 h2
    rw [nEndF] at h2
    split at h2
    · rename_i hc
      rcases Nat.eq_or_lt_of_le h1 with rfl | h3
      · exact hc.2
      · exact ih (p + 1) q h3 h2
    · omega
theorem nEnd_all {p q : Nat} (h1 : p ≤ q) (h2 : q < nEnd s p) : cls (bt s q) = 3 := nEndF_all _ p q h1 h2
theorem oEndF_all (n : Nat) : ∀ p q, p ≤ q → q < oEndF s n p → opB s q = true := by
  induction n with
  | zero => intro p q h1 h2; rw [oEndF] at h2; omega
  | succ n ih =>
    intro p q h1 h2
    rw [oEndF] at h2
    split at h2
    · rename_i hc
      rcases Nat.eq_or_lt_of_le h1 with rfl | h3
      · exact hc
      · exact ih (p + 1) q h3 h2
    · omega
theorem oEnd_all {p q : Nat} (h1 : p ≤ q) (h2 : q < oEnd s p) : opB s q = true := oEndF_all _ p q h1 h2

theorem word_sub {p : Nat} (hp : p < s.size) (hc : cls (bt s p) = 2) : WordL (sub s p (wEnd s p)).data.toList := by
  have hg := wEnd_gt s p hp (by unfold wordB; rw [hc]; rfl)
  obtain ⟨x, r, h1, h2⟩ := sub_head hg hp
  refine ⟨⟨x, r, h1, by rw [h2]; exact hc⟩, fun b hb => ?_⟩
  obtain ⟨q, h3, h4, _, h6⟩ := sub_mem hb
  rw [h6]; exact wEnd_all h3 h4

theorem mskipF_stop (n : Nat) : ∀ (p l g p' l' g' : Nat), mskipF s n p l g = .ok (p', l', g') → p' < s.size → StopAt s p' := by
  induction n with
  | zero => intro p l g p' l' g' h; simp [mskipF] at h
  | succ n ih =>
    intro p l g p' l' g' h hp
    rw [mskipF] at h
    split at h
    · split at h
      · exact ih _ _ _ _ _ _ h hp
      · split at h
        · exact ih _ _ _ _ _ _ h hp
        · split at h
          · exact ih _ _ _ _ _ _ h hp
          · split at h
            · rcases hm : mcom s p l g with a | ⟨p2, l2, g2⟩
              · rw [hm] at h; cases h
              · rw [hm] at h
                exact ih _ _ _ _ _ _ h hp
            · rename_i h1 h2 h3 h4
              injection h with h
              injection h with h5 h6
              subst h5
              exact ⟨h2, by simpa using h3, by simpa using h4⟩
    · injection h with h
      injection h with h5 h6
      omega

/-- How long the texts are. -/
def tw (l : List Tok) : Nat := (l.map (fun x => x.text.size)).sum
theorem tw_app (a b : List Tok) : tw (a ++ b) = tw a + tw b := by unfold tw; rw [List.map_append, List.sum_append]
theorem tw_cons (x : Tok) (b : List Tok) : tw (x :: b) = x.text.size + tw b := by unfold tw; rw [List.map_cons, List.sum_cons]
theorem mquotF_len (stops : ByteArray) (n : Nat) : ∀ (p : Nat) (acc l : List Int) (q : Nat), mquotF s stops n p acc = some (l, q) → l.length + p ≤ acc.length + q := by
  induction n with
  | zero => intro p acc l q h; simp [mquotF] at h
  | succ n ih =>
    intro p acc l q h
    rw [mquotF] at h
    split at h
    · rename_i hp
      split at h
      · rcases hm : mchar s p with _ | ⟨v, q2⟩
        · rw [hm] at h; cases h
        · rw [hm] at h
          have h1 := mchar_bd s p v q2 hp hm
          have h2 := ih q2 _ _ _ h
          rw [List.length_append, List.length_singleton] at h2
          omega
      · injection h with h
        injection h with h1 h2
        subst h1 h2
        omega
    · cases h
theorem quot_size {p : Nat} {stops : ByteArray} {l : List Int} {q : Nat} (h : mquoted s p stops = some (l, q)) : (strOfNums l).size + p ≤ q := by
  have h1 := mquotF_len stops _ p [] l q h
  have h2 : (strOfNums l).size = l.length := by unfold strOfNums; rw [arr_size, List.length_map]
  rw [h2]
  simpa using h1

/-- What a step adds: tokens in order, whose texts are no longer than what was read. -/
def Adds (m : Bool) (t t1 : St) : Prop := ∃ new, t1.out = t.out ++ new ∧ tw new + t.p ≤ t1.p ∧ ∀ rest, Run false (t1.op.map prb) rest → Run m (t.op.map prb) (new ++ rest)

theorem adds_one {t t1 : St} {x : Tok} (ho : t1.out = t.out ++ [x]) (hw : x.text.size + t.p ≤ t1.p) (h : ∀ rest, Run false (t1.op.map prb) rest → Run false (t.op.map prb) (x :: rest)) : Adds false t t1 :=
  ⟨[x], ho, by rw [tw_cons]; simpa [tw] using hw, h⟩
theorem adds_open {t t1 : St} {m : ByteArray} (hm : m.data.toList ∈ ([[40], [91], [123], [39, 123], [36, 123]] : List (List UInt8))) (h : t.openMark m false = .ok t1) : Adds false t t1 := by
  obtain ⟨h1, h2⟩ := openMark_ok h
  subst h1
  refine adds_one (x := ⟨3, m, t.p, t.l, (t.p : Int) - t.g⟩) rfl (by show m.size + t.p ≤ t.p + m.size; omega) fun rest hr => ?_
  refine Run.opn rfl hm (by simpa using h2) ?_
  have e : ((t.opens m false).put 3 m t.p (t.p + m.size)).op.map prb = t.op.map prb ++ [(closerOf m.data.toList, false)] := by
    show (t.op ++ [_]).map prb = _
    rw [List.map_append, ← ByteArray.toList_eq]
    rfl
  rw [← e]; exact hr

theorem parts_adds (n : Nat) : ∀ (t t1 : St), mpartsF s n t = .ok t1 → Adds true t t1 := by
  induction n with
  | zero => intro t t1 e; simp [mpartsF] at e
  | succ n ih =>
    intro t t1 e
    rw [mpartsF] at e
    rcases hm : mquoted s t.p ⟨#[34, 36]⟩ with _ | ⟨l, q⟩
    · rw [hm] at e; cases e
    · rw [hm] at e
      simp only at e
      have hb := mquoted_bd s _ _ _ _ hm
      have hz := quot_size hm
      split at e
      · injection e with e
        subst e
        refine ⟨[⟨9, strOfNums l, t.p, t.l, (t.p : Int) - t.g⟩, ⟨10, ⟨#[]⟩, q, t.l, (q : Int) - t.g⟩], ?_, ?_, fun rest hr => Run.fin rfl rfl rfl hr⟩
        · show (t.out ++ [_]) ++ [_] = _
          rw [List.append_assoc]; rfl
        · rw [tw_cons, tw_cons]
          show (strOfNums l).size + (0 + 0) + t.p ≤ q + 1
          omega
      · split at e
        · obtain ⟨h1, h2⟩ := openMark_ok e
          subst h1
          refine ⟨[⟨9, strOfNums l, t.p, t.l, (t.p : Int) - t.g⟩, ⟨3, ⟨#[36, 123]⟩, q, t.l, (q : Int) - t.g⟩], ?_, ?_, fun rest hr => Run.ins rfl rfl rfl (by have h2' : t.op.length < 64 := h2; simpa using h2') ?_⟩
          · show (t.out ++ [_]) ++ [_] = _
            rw [List.append_assoc]; rfl
          · rw [tw_cons, tw_cons]
            show (strOfNums l).size + (2 + 0) + t.p ≤ q + 2
            omega
          · have e2 : (((St.put { t with p := q } 9 (strOfNums l) t.p q).opens ⟨#[36, 123]⟩ true).put 3 ⟨#[36, 123]⟩ (St.put { t with p := q } 9 (strOfNums l) t.p q).p ((St.put { t with p := q } 9 (strOfNums l) t.p q).p + (⟨#[36, 123]⟩ : ByteArray).size)).op.map prb = t.op.map prb ++ [(125, true)] := by
              show (t.op ++ [_]).map prb = _
              rw [List.map_append, ByteArray.toList_eq]
              rfl
            rw [← e2]; exact hr
        · rcases hq : minserted s (St.put { t with p := q } 9 (strOfNums l) t.p q) with f | t2
          · rw [hq] at e; cases e
          · rw [hq] at e
            simp only at e
            have hbd := wEnd_bd s (q + 1) (by omega)
            have key : ∃ y : Tok, t2.out = t.out ++ [⟨9, strOfNums l, t.p, t.l, (t.p : Int) - t.g⟩, y] ∧ t2.op = t.op ∧ t2.p = wEnd s (q + 1) ∧ y.text = sub s (q + 1) (wEnd s (q + 1)) ∧ InsT y := by
              unfold minserted at hq
              split at hq
              · cases hq
              · rename_i hn
                have hn1 : wEnd s (q + 1) ≠ q + 1 := fun h => hn (Or.inl h)
                have hn2 : (sub s (q + 1) (wEnd s (q + 1))).data.toList ≠ [95] := fun h => hn (Or.inr (Or.inl (by rw [ByteArray.toList_eq]; exact h)))
                have hn3 : cls (bt s (q + 1)) ≠ 3 := fun h => hn (Or.inr (Or.inr h))
                have hlt : q + 1 < s.size := by omega
                have hcl : cls (bt s (q + 1)) = 2 := by
                  have := wEnd_all (s := s) (p := q + 1) (q := q + 1) (Nat.le_refl _) (by omega)
                  unfold wordB at this
                  simp only [Bool.or_eq_true, beq_iff_eq] at this
                  exact this.resolve_right hn3
                have hW := word_sub hlt hcl
                split at hq
                · rename_i hk
                  injection hq with hq
                  subst hq
                  refine ⟨⟨1, sub s (q + 1) (wEnd s (q + 1)), ((q + 1 : Nat) : Int), t.l, ((q + 1 : Nat) : Int) - t.g⟩, ?_, rfl, rfl, rfl, hW, hn2, Or.inl ⟨rfl, by rw [← ByteArray.toList_eq]; exact hk⟩⟩
                  show (t.out ++ [_]) ++ [_] = _
                  rw [List.append_assoc]; rfl
                · rename_i hk
                  have h64 : ¬ 64 < (sub s (q + 1) (wEnd s (q + 1))).size := by
                    intro h
                    unfold St.putN at hq
                    have hq' := hq
                    rw [if_pos (by exact h)] at hq'
                    cases hq'
                  have := putN_out hq
                  subst this
                  refine ⟨⟨0, sub s (q + 1) (wEnd s (q + 1)), ((q + 1 : Nat) : Int), t.l, ((q + 1 : Nat) : Int) - t.g⟩, ?_, rfl, rfl, rfl, hW, hn2, Or.inr ⟨rfl, ?_, ?_⟩⟩
                  · show (t.out ++ [_]) ++ [_] = _
                    rw [List.append_assoc]; rfl
                  · rw [← ByteArray.toList_eq]
                    have hk2 : ¬ kwB (sub s (q + 1) (wEnd s (q + 1))).toList = true := hk
                    simpa using hk2
                  · rw [Array.length_toList]; show (sub s (q + 1) (wEnd s (q + 1))).size ≤ 64; omega
            obtain ⟨y, k1, k2, k3, k4, k5⟩ := key
            obtain ⟨new, i1, i2, i3⟩ := ih t2 t1 e
            refine ⟨⟨9, strOfNums l, t.p, t.l, (t.p : Int) - t.g⟩ :: y :: new, ?_, ?_, fun rest hr => ?_⟩
            · rw [i1, k1, List.append_assoc]; rfl
            · rw [tw_cons, tw_cons, k4, sub_size hbd.2]
              rw [k3] at i2
              show (strOfNums l).size + (wEnd s (q + 1) - (q + 1) + tw new) + t.p ≤ t1.p
              omega
            · refine Run.name rfl k5 ?_
              rw [← k2]
              exact i3 rest hr

theorem cls5 : ∀ n : Fin 128, cls n.val = 5 → n.val = 40 ∨ n.val = 91 ∨ n.val = 123 := by decide +kernel
theorem cls_lt {n : Nat} (h : cls n ≠ 0) : n < 128 := by
  rcases Nat.lt_or_ge n 128 with h1 | h1
  · exact h1
  · exact absurd (by unfold cls; rw [if_neg (by omega)]) h

theorem tok_adds {t t1 : St} (hg : t.Good s) (hp : t.p < s.size) (hs : StopAt s t.p) (e : mtok s t = .ok t1) : Adds false t t1 := by
  have hw := wEnd_bd s t.p (by omega)
  unfold mtok at e
  split at e
  · rename_i hc
    have hc : cls (bt s t.p) = 2 := by simpa using hc
    have hW := word_sub hp hc
    unfold mword at e
    split at e
    · rename_i h1
      injection e with e; subst e
      refine adds_one rfl ?_ fun rest hr => Run.plain (Or.inl (Or.inl ⟨rfl, by rw [← ByteArray.toList_eq]; exact h1⟩)) hr
      show (sub s t.p (wEnd s t.p)).size + t.p ≤ wEnd s t.p
      rw [sub_size hw.2]; omega
    · rename_i h1
      have h1' : (sub s t.p (wEnd s t.p)).data.toList ≠ [95] := by rw [← ByteArray.toList_eq]; exact h1
      split at e
      · rename_i h2
        injection e with e; subst e
        refine adds_one rfl ?_ fun rest hr => Run.plain (Or.inl (Or.inr ⟨hW, h1', Or.inl ⟨rfl, by rw [← ByteArray.toList_eq]; exact h2⟩⟩)) hr
        show (sub s t.p (wEnd s t.p)).size + t.p ≤ wEnd s t.p
        rw [sub_size hw.2]; omega
      · rename_i h2
        have h2' : kwB (sub s t.p (wEnd s t.p)).data.toList = false := by rw [← ByteArray.toList_eq]; simpa using h2
        split at e
        · rcases hq : t.putN 8 (sub s t.p (wEnd s t.p)) t.p (wEnd s t.p + 1) with f | t2
          · rw [hq] at e; cases e
          · rw [hq] at e
            have h64 : ¬ 64 < (sub s t.p (wEnd s t.p)).size := by
              intro h
              unfold St.putN at hq
              rw [if_pos h] at hq
              cases hq
            have := putN_out hq
            subst this
            obtain ⟨new, i1, i2, i3⟩ := parts_adds _ _ _ e
            refine ⟨⟨8, sub s t.p (wEnd s t.p), t.p, t.l, (t.p : Int) - t.g⟩ :: new, ?_, ?_, fun rest hr => Run.start rfl ⟨hW, h1', h2', by rw [Array.length_toList]; show (sub s t.p (wEnd s t.p)).size ≤ 64; omega⟩ (i3 rest hr)⟩
            · rw [i1]; show (t.out ++ [_]) ++ new = _; rw [List.append_assoc]; rfl
            · rw [tw_cons]
              have i2' : tw new + (wEnd s t.p + 1) ≤ t1.p := i2
              show (sub s t.p (wEnd s t.p)).size + tw new + t.p ≤ t1.p
              rw [sub_size hw.2]; omega
        · have h64 : ¬ 64 < (sub s t.p (wEnd s t.p)).size := by
            intro h
            unfold St.putN at e
            rw [if_pos h] at e
            cases e
          have := putN_out e
          subst this
          refine adds_one rfl ?_ fun rest hr => Run.plain (Or.inl (Or.inr ⟨hW, h1', Or.inr ⟨rfl, h2', by rw [Array.length_toList]; show (sub s t.p (wEnd s t.p)).size ≤ 64; omega⟩⟩)) hr
          show (sub s t.p (wEnd s t.p)).size + t.p ≤ wEnd s t.p
          rw [sub_size hw.2]; omega
  · split at e
    · rename_i hc0 hc
      have hc : cls (bt s t.p) = 3 := by simpa using hc
      have hn := nEnd_bd s t.p (by omega)
      have hgt := nEnd_gt s t.p hp hc
      obtain ⟨x0, r0, g1, g2⟩ := sub_head hgt hp
      have hne : (sub s t.p (nEnd s t.p)).data.toList ≠ [] := by rw [g1]; simp
      have hall : ∀ b ∈ (sub s t.p (nEnd s t.p)).data.toList, cls b.toNat = 3 := by
        intro b hb
        obtain ⟨q, h3, h4, _, h6⟩ := sub_mem hb
        rw [h6]; exact nEnd_all h3 h4
      have hl := sub_len (s := s) (a := t.p) hn.2
      have h0 : ((sub s t.p (nEnd s t.p)).data.toList.getD 0 0).toNat = bt s t.p := by rw [g1, ← g2]; rfl
      unfold mnumber at e
      by_cases hL : ah s (nEnd s t.p) ⟨#[76]⟩ = true
      · simp only [hL, if_true] at e
        split at e
        · cases e
        · rename_i h1
          split at e
          · cases e
          · rename_i h2
            injection e with e; subst e
            refine adds_one rfl ?_ fun rest hr => Run.plain (Or.inr (Or.inl ⟨hne, hall, by rw [hl, h0]; exact fun h => h1 (Or.inl h), Or.inr ⟨rfl, ?_⟩⟩)) hr
            · show (sub s t.p (nEnd s t.p)).size + t.p ≤ nEnd s t.p + 1
              rw [sub_size hn.2]; omega
            · unfold Small most19
              rw [hl, ← ByteArray.toList_eq]
              exact h2
      · simp only [hL, if_false, Bool.false_eq_true] at e
        split at e
        · cases e
        · rename_i h1
          split at e
          · cases e
          · rename_i h2
            injection e with e; subst e
            refine adds_one rfl ?_ fun rest hr => Run.plain (Or.inr (Or.inl ⟨hne, hall, by rw [hl, h0]; exact fun h => h1 (Or.inl h), Or.inl ⟨rfl, ?_⟩⟩)) hr
            · show (sub s t.p (nEnd s t.p)).size + t.p ≤ nEnd s t.p
              rw [sub_size hn.2]; omega
            · unfold Small most10
              rw [hl, ← ByteArray.toList_eq]
              exact h2
    · split at e
      · rename_i hc0 hc1 hc
        have hc : cls (bt s t.p) = 4 := by simpa using hc
        have ho := oEnd_bd s (t.p + 1) (by omega)
        obtain ⟨x0, r0, g1, g2⟩ := sub_head (s := s) (a := t.p) (e := oEnd s (t.p + 1)) (by omega) hp
        have hne : (sub s t.p (oEnd s (t.p + 1))).data.toList ≠ [] := by rw [g1]; simp
        have hopB : ∀ q, t.p + 1 ≤ q → q < oEnd s (t.p + 1) → cls (bt s q) = 4 ∧ ah s q ⟨#[47, 47]⟩ = false ∧ ah s q ⟨#[47, 42]⟩ = false := by
          intro q h1 h2
          have := oEnd_all h1 h2
          unfold opB at this
          simp only [Bool.and_eq_true, decide_eq_true_eq, beq_iff_eq, Bool.not_eq_true'] at this
          exact ⟨this.1.1.2, this.1.2, this.2⟩
        have hall : ∀ b ∈ (sub s t.p (oEnd s (t.p + 1))).data.toList, cls b.toNat = 4 := by
          intro b hb
          obtain ⟨q, h3, h4, _, h6⟩ := sub_mem hb
          rw [h6]
          rcases Nat.eq_or_lt_of_le h3 with rfl | h3
          · exact hc
          · exact (hopB q h3 h4).1
        have hok : OpOk (sub s t.p (oEnd s (t.p + 1))).data.toList := by
          intro i
          have hah : ∀ q, t.p ≤ q → q < oEnd s (t.p + 1) → ah s q ⟨#[47, 47]⟩ = false ∧ ah s q ⟨#[47, 42]⟩ = false := by
            intro q h1 h2
            rcases Nat.eq_or_lt_of_le h1 with rfl | h3
            · exact hs.2
            · exact (hopB q h3 h2).2
          have hpre : ∀ z : UInt8, ([47, z] : List UInt8).isPrefixOf ((sub s t.p (oEnd s (t.p + 1))).data.toList.drop i) = true → t.p + i < oEnd s (t.p + 1) ∧ ah s (t.p + i) ⟨#[47, z]⟩ = true := by
            intro z hz
            rw [List.isPrefixOf_iff_prefix] at hz
            have hlen := hz.length_le
            rw [List.length_drop, sub_len ho.2] at hlen
            simp only [List.length_cons, List.length_nil] at hlen
            refine ⟨by omega, ?_⟩
            rw [ah_at]
            show ([47, z] : List UInt8).isPrefixOf (dr s (t.p + i)) = true
            rw [List.isPrefixOf_iff_prefix]
            refine hz.trans ?_
            rw [sub_dat, List.drop_take]
            have e2 : dr s (t.p + i) = List.drop i (dr s t.p) := by show List.drop _ _ = List.drop i (List.drop t.p _); rw [List.drop_drop]
            rw [e2]
            exact List.take_prefix _ _
          constructor
          · rcases hq : ([47, 47] : List UInt8).isPrefixOf ((sub s t.p (oEnd s (t.p + 1))).data.toList.drop i) with _ | _
            · rfl
            · obtain ⟨h1, h2⟩ := hpre 47 hq
              rw [(hah _ (by omega) h1).1] at h2
              cases h2
          · rcases hq : ([47, 42] : List UInt8).isPrefixOf ((sub s t.p (oEnd s (t.p + 1))).data.toList.drop i) with _ | _
            · rfl
            · obtain ⟨h1, h2⟩ := hpre 42 hq
              rw [(hah _ (by omega) h1).2] at h2
              cases h2
        unfold moperator at e
        split at e
        · rename_i h1
          injection e with e; subst e
          refine adds_one rfl ?_ fun rest hr => Run.plain (Or.inr (Or.inr (Or.inl ⟨hne, hall, hok, Or.inl ⟨rfl, by rw [← ByteArray.toList_eq]; exact h1⟩⟩))) hr
          show (sub s t.p (oEnd s (t.p + 1))).size + t.p ≤ oEnd s (t.p + 1)
          rw [sub_size ho.2]; omega
        · rename_i h1
          have h64 : ¬ 64 < (sub s t.p (oEnd s (t.p + 1))).size := by
            intro h
            unfold St.putN at e
            rw [if_pos h] at e
            cases e
          have := putN_out e
          subst this
          refine adds_one rfl ?_ fun rest hr => Run.plain (Or.inr (Or.inr (Or.inl ⟨hne, hall, hok, Or.inr ⟨rfl, by rw [← ByteArray.toList_eq]; simpa using h1, by rw [Array.length_toList]; show (sub s t.p (oEnd s (t.p + 1))).size ≤ 64; omega⟩⟩))) hr
          show (sub s t.p (oEnd s (t.p + 1))).size + t.p ≤ oEnd s (t.p + 1)
          rw [sub_size ho.2]; omega
      · obtain ⟨x0, r0, g1, g2⟩ := sub_head (s := s) (a := t.p) (e := t.p + 1) (by omega) hp
        have hl1 := sub_len (s := s) (a := t.p) (e := t.p + 1) (by omega)
        have hr0 : r0 = [] := by rw [g1] at hl1; simp at hl1; exact hl1
        subst hr0
        split at e
        · rename_i hc0 hc1 hc2 hc
          have hc : cls (bt s t.p) = 5 := by simpa using hc
          refine adds_open ?_ e
          rw [g1]
          have hlt := cls_lt (n := bt s t.p) (by rw [hc]; decide)
          have := cls5 ⟨bt s t.p, hlt⟩ hc
          simp only at this
          rw [← g2] at this
          rcases this with h | h | h
          · rw [show x0 = 40 from UInt8.toNat_inj.mp h]; simp
          · rw [show x0 = 91 from UInt8.toNat_inj.mp h]; simp
          · rw [show x0 = 123 from UInt8.toNat_inj.mp h]; simp
        · split at e
          · rename_i hc0 hc1 hc2 hc3 hc
            have hc : cls (bt s t.p) = 6 := by simpa using hc
            unfold mclosing at e
            rcases ho : t.op.getLast? with _ | br
            · rw [ho] at e; cases e
            · rw [ho] at e
              simp only at e
              have hne : t.op ≠ [] := by intro h; rw [h] at ho; cases ho
              have hop : t.op.map prb = t.op.dropLast.map prb ++ [prb br] := by
                conv => lhs; rw [← List.dropLast_concat_getLast hne]
                rw [List.map_append]
                rw [List.getLast?_eq_some_getLast hne] at ho
                injection ho with ho
                rw [ho]
                rfl
              split at e
              · rename_i hcl
                split at e
                · rename_i hin
                  obtain ⟨new, i1, i2, i3⟩ := parts_adds _ _ _ e
                  refine ⟨⟨3, sub s t.p (t.p + 1), t.p, t.l, (t.p : Int) - t.g⟩ :: new, ?_, ?_, fun rest hr => ?_⟩
                  · rw [i1]; show (t.out ++ [_]) ++ new = _; rw [List.append_assoc]; rfl
                  · rw [tw_cons]
                    have i2' : tw new + (t.p + 1) ≤ t1.p := i2
                    show (sub s t.p (t.p + 1)).size + tw new + t.p ≤ t1.p
                    rw [sub_size (by omega)]; omega
                  · have hbr : prb br = (x0.toNat, true) := by unfold prb; rw [hcl, g2, hin]
                    rw [hop, hbr]
                    exact Run.back rfl g1 (by rw [g2]; exact hc) (i3 rest hr)
                · rename_i hin
                  injection e with e; subst e
                  refine adds_one rfl (by show (sub s t.p (t.p + 1)).size + t.p ≤ t.p + 1; rw [sub_size (by omega)]; omega) fun rest hr => ?_
                  have hbr : prb br = (x0.toNat, false) := by unfold prb; rw [hcl, g2]; simp [hin]
                  rw [hop, hbr]
                  exact Run.shut rfl g1 (by rw [g2]; exact hc) hr
              · cases e
          · split at e
            · rename_i hc0 hc1 hc2 hc3 hc4 hc
              have hc : cls (bt s t.p) = 7 := by simpa using hc
              injection e with e; subst e
              refine adds_one rfl (by show (sub s t.p (t.p + 1)).size + t.p ≤ t.p + 1; rw [sub_size (by omega)]; omega) fun rest hr => Run.plain (Or.inr (Or.inr (Or.inr (Or.inl ⟨rfl, x0, g1, by rw [g2]; exact hc⟩)))) hr
            · split at e
              · unfold msingle at e
                split at e
                · exact adds_open (by decide) e
                · rcases hm : mquoted s (t.p + 1) ⟨#[39]⟩ with _ | ⟨l, q⟩
                  · rw [hm] at e; cases e
                  · rw [hm] at e
                    simp only at e
                    have hz := quot_size hm
                    split at e
                    · rename_i h1
                      injection e with e; subst e
                      refine adds_one (x := ⟨6, strOfNums l, t.p, t.l, (t.p : Int) - t.g⟩) rfl (by show (strOfNums l).size + t.p ≤ q + 1; omega) fun rest hr => Run.plain (Or.inr (Or.inr (Or.inr (Or.inr (Or.inl ⟨rfl, ?_⟩))))) hr
                      rw [Array.length_toList]; exact h1
                    · cases e
              · split at e
                · unfold mdouble at e
                  rcases hm : mquoted s (t.p + 1) ⟨#[34]⟩ with _ | ⟨l, q⟩
                  · rw [hm] at e; cases e
                  · rw [hm] at e
                    have hz := quot_size hm
                    injection e with e; subst e
                    exact adds_one (x := ⟨7, strOfNums l, t.p, t.l, (t.p : Int) - t.g⟩) rfl (by show (strOfNums l).size + t.p ≤ q + 1; omega) fun rest hr => Run.plain (Or.inr (Or.inr (Or.inr (Or.inr (Or.inr rfl))))) hr
                · split at e
                  · unfold mdollar at e
                    split at e
                    · exact adds_open (by decide) e
                    · cases e
                  · cases e

theorem mallF_run (n : Nat) : ∀ (t T : St), t.Good s → (t.p < s.size → StopAt s t.p) → mallF s n t = .ok T → ∃ rest, T.out = t.out ++ rest ∧ tw rest + t.p ≤ s.size ∧ Run false (t.op.map prb) rest := by
  induction n with
  | zero => intro t T _ _ e; simp [mallF] at e
  | succ n ih =>
    intro t T hg hst e
    rw [mallF] at e
    split at e
    · rename_i hlt
      rcases h1 : mtok s t with f | t1
      · rw [h1] at e; cases e
      · rw [h1] at e
        simp only at e
        rcases h2 : mskip s t1.p t1.l t1.g with f | ⟨p, l, g⟩
        · rw [h2] at e; cases e
        · rw [h2] at e
          obtain ⟨new, i1, i2, i3⟩ := tok_adds hg hlt (hst hlt) h1
          obtain ⟨g1, g2, g3, g4⟩ := next_good hg hlt h1 h2
          obtain ⟨rest, j1, j2, j3⟩ := ih { t1 with p := p, l := l, g := g } T g1 (fun hp => mskipF_stop _ _ _ _ _ _ _ h2 hp) e
          refine ⟨new ++ rest, ?_, ?_, i3 rest j3⟩
          · rw [j1]; show t1.out ++ rest = _; rw [i1, List.append_assoc]
          · rw [tw_app]
            have j2' : tw rest + p ≤ s.size := j2
            omega
    · rcases ho : t.op.getLast? with _ | br
      · rw [ho] at e
        injection e with e; subst e
        have hop : t.op = [] := by simpa using ho
        exact ⟨[], by simp, by show 0 + t.p ≤ s.size; have := hg.p; omega, by rw [hop]; exact Run.nil⟩
      · rw [ho] at e; cases e
/-- The tokens of a text. -/
theorem raw_run {L : List Tok} (hL : mraw s = .ok L) : Run false [] L ∧ tw L ≤ s.size := by
  unfold mraw at hL
  split at hL
  · cases hL
  · rcases hT : mall s st0 with f | T
    · rw [hT] at hL; cases hL
    · rw [hT] at hL
      injection hL with hL
      subst hL
      unfold mall at hT
      rcases hq : mskip s st0.p st0.l st0.g with f | ⟨p, l, g⟩
      · rw [hq] at hT; cases hT
      · rw [hq] at hT
        have hbd := mskip_bd s _ _ _ _ _ _ hq (Nat.zero_le _) (Nat.le_refl _) (Nat.le_refl _)
        have hg0 : ({ st0 with p := p, l := l, g := g } : St).Good s := ⟨hbd.2.1, hbd.2.2.1, hbd.2.2.2, Nat.zero_le _, Nat.zero_le _⟩
        obtain ⟨rest, j1, j2, j3⟩ := mallF_run _ _ T hg0 (fun hp => mskipF_stop _ _ _ _ _ _ _ hq hp) hT
        have j1' : T.out = rest := by rw [j1]; rfl
        rw [j1']
        exact ⟨j3, by have : tw rest + p ≤ s.size := j2; omega⟩
end
end Go.Proofs.YtkfkgdkfgpofnaaDoor
/- The canonical text of the tokens of a text has the same tokens. No program. -/
namespace Go.Proofs.YtkfkgdkfgpofnaaDoor
open Go.RowKit
set_option maxRecDepth 100000

theorem eByte_len (sp : List UInt8) (b : UInt8) : (eByte sp b).length ≤ 4 := by
  unfold eByte
  repeat' split
  all_goals simp [eHex]
theorem eBytes_len (sp bs : List UInt8) : (eBytes sp bs).length ≤ 4 * bs.length := by
  induction bs with
  | nil => simp [eBytes]
  | cons b bs ih =>
    have := eByte_len sp b
    unfold eBytes at ih ⊢
    rw [List.flatMap_cons, List.length_append, List.length_cons]
    omega
theorem ePart_len (af : Bool) (bs : List UInt8) : (ePart af bs).length ≤ 4 * bs.length := by
  rcases bs with _ | ⟨b, r⟩
  · simp [ePart]
  · have ec : ePart af (b :: r) = if (af && wordB b.toNat) = true then eHex b ++ eBytes [34, 36] r else eBytes [34, 36] (b :: r) := rfl
    rw [ec]
    split
    · have := eBytes_len [34, 36] r
      simp only [List.length_append, List.length_cons, eHex, List.length_nil]
      omega
    · exact eBytes_len _ _
theorem eTok_len (k : Int) (x : Tok) : (eTok k x).length ≤ 4 * x.text.size + 2 := by
  have hz : x.text.data.toList.length = x.text.size := by rw [Array.length_toList]; rfl
  unfold eTok
  split
  · rw [List.length_append, hz]; split <;> simp <;> omega
  · split
    · rw [List.length_append, hz]; simp; omega
    · split
      · have := eBytes_len [39, 123] x.text.data.toList
        simp only [List.length_append, List.length_cons, List.length_nil]
        omega
      · split
        · have := eBytes_len [34] x.text.data.toList
          simp only [List.length_append, List.length_cons, List.length_nil]
          omega
        · split
          · rw [List.length_append, hz]; simp; omega
          · split
            · have := ePart_len (k == 0 || k == 1) x.text.data.toList
              omega
            · split
              · simp
              · omega
theorem eFrom_len (L : List Tok) : ∀ k, (eFrom k L).length ≤ 4 * tw L + 3 * L.length := by
  induction L with
  | nil => intro k; cases k <;> simp [eFrom]
  | cons x r ih =>
    intro k
    have h1 := ih (some x.kind)
    rw [tw_cons, List.length_cons]
    rcases k with _ | k
    · have h2 := eTok_len (-1) x
      show (eTok (-1) x ++ eFrom (some x.kind) r).length ≤ _
      rw [List.length_append]
      omega
    · have h2 := eTok_len k x
      rw [eFrom_some, List.length_append, List.length_append]
      have h3 : (if spc k x.kind = true then ([32] : List UInt8) else []).length ≤ 1 := by split <;> simp
      omega

/-- A byte that a text may have. -/
def Pr (b : UInt8) : Prop := 32 ≤ b.toNat ∧ b.toNat ≤ 126
theorem cls_pr : ∀ n : Fin 128, cls n.val = 0 ∨ cls n.val = 1 ∨ (32 ≤ n.val ∧ n.val ≤ 126) := by decide +kernel
theorem pr_cls {b : UInt8} {k : Int} (h : cls b.toNat = k) (h0 : k ≠ 0) (h1 : k ≠ 1) : Pr b := by
  have hlt := cls_lt (n := b.toNat) (by rw [h]; exact h0)
  rcases cls_pr ⟨b.toNat, hlt⟩ with h2 | h2 | h2
  · exact absurd (h.symm.trans h2) h0
  · exact absurd (h.symm.trans h2) h1
  · exact h2
theorem pr_word {b : UInt8} (h : wordB b.toNat = true) : Pr b := by
  unfold wordB at h
  simp only [Bool.or_eq_true, beq_iff_eq] at h
  rcases h with h | h <;> exact pr_cls h (by decide) (by decide)
theorem hexc_pr : ∀ n : Fin 16, 32 ≤ (hexc n.val).toNat ∧ (hexc n.val).toNat ≤ 126 := by decide +kernel
theorem eHex_pr (b : UInt8) : ∀ z ∈ eHex b, Pr z := by
  have hb := b.toNat_lt
  intro z hz
  unfold eHex at hz
  simp only [List.mem_cons, List.not_mem_nil, or_false] at hz
  rcases hz with rfl | rfl | rfl | rfl
  · exact ⟨by decide, by decide⟩
  · exact ⟨by decide, by decide⟩
  · exact hexc_pr ⟨b.toNat / 16, by omega⟩
  · exact hexc_pr ⟨b.toNat % 16, by omega⟩
theorem eByte_pr (sp : List UInt8) (b : UInt8) : ∀ z ∈ eByte sp b, Pr z := by
  unfold eByte
  split
  · intro z hz
    simp only [List.mem_cons, List.not_mem_nil, or_false] at hz
    rcases hz with rfl | rfl <;> exact ⟨by decide, by decide⟩
  · split
    · intro z hz
      simp only [List.mem_cons, List.not_mem_nil, or_false] at hz
      rcases hz with rfl | rfl <;> exact ⟨by decide, by decide⟩
    · split
      · intro z hz
        simp only [List.mem_cons, List.not_mem_nil, or_false] at hz
        rcases hz with rfl | rfl <;> exact ⟨by decide, by decide⟩
      · split
        · exact eHex_pr b
        · rename_i h
          have hp : Pr b := ⟨by omega, by omega⟩
          split
          · split
            · exact eHex_pr b
            · intro z hz
              simp only [List.mem_cons, List.not_mem_nil, or_false] at hz
              rcases hz with rfl | rfl
              · exact ⟨by decide, by decide⟩
              · exact hp
          · intro z hz
            simp only [List.mem_cons, List.not_mem_nil, or_false] at hz
            rw [hz]; exact hp
theorem eBytes_pr (sp bs : List UInt8) : ∀ z ∈ eBytes sp bs, Pr z := by
  intro z hz
  unfold eBytes at hz
  obtain ⟨b, _, h⟩ := List.mem_flatMap.mp hz
  exact eByte_pr sp b z h
theorem ePart_pr (af : Bool) (bs : List UInt8) : ∀ z ∈ ePart af bs, Pr z := by
  rcases bs with _ | ⟨b, r⟩
  · intro z hz; cases hz
  · have ec : ePart af (b :: r) = if (af && wordB b.toNat) = true then eHex b ++ eBytes [34, 36] r else eBytes [34, 36] (b :: r) := rfl
    rw [ec]
    split
    · intro z hz
      rcases List.mem_append.mp hz with h | h
      · exact eHex_pr b z h
      · exact eBytes_pr _ _ z h
    · exact eBytes_pr _ _
/-- Tokens whose canonical form has no byte that no text has. -/
def TokPr (x : Tok) : Prop := (x.kind = 6 ∨ x.kind = 7 ∨ x.kind = 9 ∨ x.kind = 10) ∨ ∀ b ∈ x.text.data.toList, Pr b
theorem eTok_pr {x : Tok} (h : TokPr x) (k : Int) : ∀ z ∈ eTok k x, Pr z := by
  have p34 : Pr 34 := ⟨by decide, by decide⟩
  have p36 : Pr 36 := ⟨by decide, by decide⟩
  have p39 : Pr 39 := ⟨by decide, by decide⟩
  have p76 : Pr 76 := ⟨by decide, by decide⟩
  have one : ∀ {a : UInt8}, Pr a → ∀ z ∈ [a], Pr z := by
    intro a ha z hz
    simp only [List.mem_cons, List.not_mem_nil, or_false] at hz
    rw [hz]; exact ha
  unfold eTok
  split
  · rename_i hk
    have ht : ∀ b ∈ x.text.data.toList, Pr b := h.resolve_left (by omega)
    intro z hz
    rcases List.mem_append.mp hz with h1 | h1
    · split at h1
      · exact one p36 z h1
      · cases h1
    · exact ht z h1
  · split
    · rename_i hk
      have ht : ∀ b ∈ x.text.data.toList, Pr b := h.resolve_left (by omega)
      intro z hz
      rcases List.mem_append.mp hz with h1 | h1
      · exact ht z h1
      · exact one p76 z h1
    · split
      · intro z hz
        rcases List.mem_append.mp hz with h1 | h1
        · rcases List.mem_append.mp h1 with h2 | h2
          · exact one p39 z h2
          · exact eBytes_pr _ _ z h2
        · exact one p39 z h1
      · split
        · intro z hz
          rcases List.mem_append.mp hz with h1 | h1
          · rcases List.mem_append.mp h1 with h2 | h2
            · exact one p34 z h2
            · exact eBytes_pr _ _ z h2
          · exact one p34 z h1
        · split
          · rename_i hk
            have ht : ∀ b ∈ x.text.data.toList, Pr b := h.resolve_left (by omega)
            intro z hz
            rcases List.mem_append.mp hz with h1 | h1
            · exact ht z h1
            · exact one p34 z h1
          · split
            · exact ePart_pr _ _
            · split
              · exact one p34
              · have ht : ∀ b ∈ x.text.data.toList, Pr b := h.resolve_left (by omega)
                exact ht
theorem eFrom_pr (L : List Tok) : (∀ x ∈ L, TokPr x) → ∀ k, ∀ z ∈ eFrom k L, Pr z := by
  induction L with
  | nil => intro _ k z hz; cases k <;> cases hz
  | cons x r ih =>
    intro h k z hz
    have h1 := ih (fun y hy => h y (by simp [hy])) (some x.kind)
    have h2 := h x (by simp)
    rcases k with _ | k
    · rcases List.mem_append.mp (show z ∈ eTok (-1) x ++ eFrom (some x.kind) r from hz) with h3 | h3
      · exact eTok_pr h2 _ z h3
      · exact h1 z h3
    · rw [eFrom_some] at hz
      rcases List.mem_append.mp hz with h3 | h3
      · rcases List.mem_append.mp h3 with h4 | h4
        · split at h4
          · simp only [List.mem_cons, List.not_mem_nil, or_false] at h4
            rw [h4]; exact ⟨by decide, by decide⟩
          · cases h4
        · exact eTok_pr h2 _ z h4
      · exact h1 z h3
theorem InsT.pr {x : Tok} (h : InsT x) : TokPr x := Or.inr fun b hb => pr_word (h.1.2 b hb)
theorem Plain.pr {x : Tok} (h : Plain x) : TokPr x := by
  rcases h with (⟨_, h⟩ | h) | ⟨_, h, _⟩ | ⟨_, h, _⟩ | ⟨_, b, h1, h2⟩ | ⟨h, _⟩ | h
  · right
    rw [h]
    intro b hb
    simp only [List.mem_cons, List.not_mem_nil, or_false] at hb
    rw [hb]; exact ⟨by decide, by decide⟩
  · exact h.pr
  · exact Or.inr fun b hb => pr_cls (h b hb) (by decide) (by decide)
  · exact Or.inr fun b hb => pr_cls (h b hb) (by decide) (by decide)
  · right
    rw [h1]
    intro z hz
    simp only [List.mem_cons, List.not_mem_nil, or_false] at hz
    rw [hz]; exact pr_cls h2 (by decide) (by decide)
  · exact Or.inl (Or.inl h)
  · exact Or.inl (Or.inr (Or.inl h))
theorem one_pr {x : Tok} {b : UInt8} (h1 : x.text.data.toList = [b]) (h2 : cls b.toNat = 6) : TokPr x := by
  right
  rw [h1]
  intro z hz
  simp only [List.mem_cons, List.not_mem_nil, or_false] at hz
  rw [hz]; exact pr_cls h2 (by decide) (by decide)
theorem Run.pr {m : Bool} {st : List (Nat × Bool)} {L : List Tok} (h : Run m st L) : ∀ x ∈ L, TokPr x := by
  induction h with
  | nil => intro x hx; cases hx
  | plain h1 _ ih =>
    intro x hx
    rcases List.mem_cons.mp hx with rfl | hx
    · exact h1.pr
    · exact ih x hx
  | opn h1 h2 _ _ ih =>
    intro x hx
    rcases List.mem_cons.mp hx with rfl | hx
    · right
      have p : ∀ w ∈ ([[40], [91], [123], [39, 123], [36, 123]] : List (List UInt8)), ∀ b ∈ w, 32 ≤ b.toNat ∧ b.toNat ≤ 126 := by decide
      exact p _ h2
    · exact ih x hx
  | shut h1 h2 h3 _ ih =>
    intro x hx
    rcases List.mem_cons.mp hx with rfl | hx
    · exact one_pr h2 h3
    · exact ih x hx
  | back h1 h2 h3 _ ih =>
    intro x hx
    rcases List.mem_cons.mp hx with rfl | hx
    · exact one_pr h2 h3
    · exact ih x hx
  | start h1 h2 _ ih =>
    intro x hx
    rcases List.mem_cons.mp hx with rfl | hx
    · exact Or.inr fun b hb => pr_word (h2.1.2 b hb)
    · exact ih x hx
  | fin h1 h2 _ _ ih =>
    intro x hx
    rcases List.mem_cons.mp hx with rfl | hx
    · exact Or.inl (Or.inr (Or.inr (Or.inl h1)))
    · rcases List.mem_cons.mp hx with rfl | hx
      · exact Or.inl (Or.inr (Or.inr (Or.inr h2)))
      · exact ih x hx
  | ins h1 h2 h3 _ _ ih =>
    intro x hx
    rcases List.mem_cons.mp hx with rfl | hx
    · exact Or.inl (Or.inr (Or.inr (Or.inl h1)))
    · rcases List.mem_cons.mp hx with rfl | hx
      · right
        rw [h3]
        have p : ∀ b ∈ ([36, 123] : List UInt8), 32 ≤ b.toNat ∧ b.toNat ≤ 126 := by decide
        exact p
      · exact ih x hx
  | name h1 h2 _ ih =>
    intro x hx
    rcases List.mem_cons.mp hx with rfl | hx
    · exact Or.inl (Or.inr (Or.inr (Or.inl h1)))
    · rcases List.mem_cons.mp hx with rfl | hx
      · exact h2.pr
      · exact ih x hx
theorem mbad_pr (l : List UInt8) (h : ∀ z ∈ l, Pr z) (n : Nat) : ∀ k, mbadF ⟨l.toArray⟩ n k = (0, 0) := by
  induction n with
  | zero => intro k; rfl
  | succ n ih =>
    intro k
    rw [mbadF]
    split
    · rename_i hk
      rw [arr_size] at hk
      have hb : bt ⟨l.toArray⟩ k = (l[k]'hk).toNat := by
        unfold bt
        rw [List.getD_eq_getElem?_getD]
        show ((l.toArray.toList[k]?).getD 0).toNat = _
        simp [List.getElem?_eq_getElem hk]
      have hp := h _ (List.getElem_mem hk)
      have hf : ¬ badB (bt ⟨l.toArray⟩ k) = true := by
        rw [hb]
        unfold badB
        have h1 : ¬ ((l[k]'hk).toNat < 32) := by have := hp.1; omega
        have h2 : ¬ (126 < (l[k]'hk).toNat) := by have := hp.2; omega
        simp [h1, h2]
      rw [if_neg hf]
      exact ih (k + 1)
    · rfl

/-- The canonical text of the tokens of a text. -/
def canon (L : List Tok) : ByteArray := ⟨(eFrom none L).toArray⟩
theorem raw_back {s : ByteArray} {L : List Tok} (hL : mraw s = .ok L) : ∃ L', mraw (canon L) = .ok L' ∧ L'.map pk = L.map pk := by
  obtain ⟨h1, _⟩ := raw_run hL
  have hb : mbad (canon L) = (0, 0) := mbad_pr _ (eFrom_pr L h1.pr none) _ 0
  obtain ⟨T, f1, f2⟩ := head_run L.length [] L (Nat.le_refl _) h1 (canon L) st0 none ((canon L).size + 1) rfl (Or.inl rfl) (by show (canon L).data.toList.drop 0 = _; rw [List.drop_zero]; simp [canon]) (Nat.zero_le _) (by show (canon L).size - 0 < _; omega)
  refine ⟨T.out, ?_, f2⟩
  unfold mraw
  rw [hb]
  have e : mall (canon L) st0 = mtail (canon L) ((canon L).size + 1) st0 := rfl
  rw [e, f1]
  rfl
theorem canon_size {s : ByteArray} {L : List Tok} (hL : mraw s = .ok L) (hs : s.size ≤ 4000) (hl : L.length ≤ 2 * s.size) : (eFrom none L).length ≤ 40000 := by
  obtain ⟨_, h⟩ := raw_run hL
  have := eFrom_len L none
  omega
end Go.Proofs.YtkfkgdkfgpofnaaDoor
