/- Plain facts on runes: which numbers are runes, their bytes, their texts. Nothing of the program stands here. -/
import Derived.Lib.RuneBytes
import Derived.Lib.MapLaws
import Derived.Laws.Runes
import Derived.Laws.BytesArg
namespace Go.Proofs.YtagbpkabfjnplaaDoor.Ru
open Go Go.Lib

/-- A rune's bytes; none, where the number is no rune. -/
def encB (r : Int) : ByteArray := if Go.validRune r = true then Utf8.encode r else ⟨#[]⟩
theorem encB_yes {r : Int} (h : Go.validRune r = true) : encB r = Utf8.encode r := if_pos h
theorem encB_no {r : Int} (h : Go.validRune r = false) : encB r = ⟨#[]⟩ := if_neg (by simp [h])

theorem valid_iff (r : Int) : Go.validRune r = true ↔ ((0 ≤ r ∧ r < 55296) ∨ (57343 < r ∧ r ≤ 1114111)) := by
  unfold Go.validRune
  rw [decide_eq_true_iff]
theorem valid_not (r : Int) : Go.validRune r = false ↔ (r < 0 ∨ (55296 ≤ r ∧ r ≤ 57343) ∨ 1114111 < r) := by
  unfold Go.validRune
  rw [decide_eq_false_iff_not]
  omega

/-- The bytes, by the number's size. -/
theorem encode_1 {r : Int} (h0 : 0 ≤ r) (h1 : r < 128) : Utf8.encode r = ⟨#[UInt8.ofNat r.toNat]⟩ := by
  have hv : Utf8.valid r = true := by rw [validRune_eq, valid_iff]; omega
  unfold Utf8.encode
  simp only [hv, if_true]
  rw [if_pos (by omega)]
theorem encode_2 {r : Int} (h0 : 128 ≤ r) (h1 : r < 2048) : Utf8.encode r = ⟨#[UInt8.ofNat (192 + r.toNat / 64), UInt8.ofNat (128 + r.toNat % 64)]⟩ := by
  have hv : Utf8.valid r = true := by rw [validRune_eq, valid_iff]; omega
  unfold Utf8.encode
  simp only [hv, if_true]
  rw [if_neg (by omega), if_pos (by omega)]
theorem encode_3 {r : Int} (hv' : Go.validRune r = true) (h0 : 2048 ≤ r) (h1 : r < 65536) : Utf8.encode r = ⟨#[UInt8.ofNat (224 + r.toNat / 4096), UInt8.ofNat (128 + r.toNat / 64 % 64), UInt8.ofNat (128 + r.toNat % 64)]⟩ := by
  have hv : Utf8.valid r = true := by rw [validRune_eq]; exact hv'
  unfold Utf8.encode
  simp only [hv, if_true]
  rw [if_neg (by omega), if_neg (by omega), if_pos (by omega)]
theorem encode_4 {r : Int} (h0 : 65536 ≤ r) (h1 : r ≤ 1114111) : Utf8.encode r = ⟨#[UInt8.ofNat (240 + r.toNat / 262144), UInt8.ofNat (128 + r.toNat / 4096 % 64), UInt8.ofNat (128 + r.toNat / 64 % 64), UInt8.ofNat (128 + r.toNat % 64)]⟩ := by
  have hv : Utf8.valid r = true := by rw [validRune_eq, valid_iff]; omega
  unfold Utf8.encode
  simp only [hv, if_true]
  rw [if_neg (by omega), if_neg (by omega), if_neg (by omega)]

theorem enc_1 {r : Int} (h0 : 0 ≤ r) (h1 : r < 128) : encB r = strOfNums [r] := by
  rw [encB_yes ((valid_iff r).2 (by omega)), encode_1 h0 h1]; rfl
theorem enc_2 {r : Int} (h0 : 128 ≤ r) (h1 : r < 2048) : encB r = strOfNums [192 + r / 64, 128 + r % 64] := by
  rw [encB_yes ((valid_iff r).2 (by omega)), encode_2 h0 h1]
  have e1 : (192 + r / 64).toNat = 192 + r.toNat / 64 := by omega
  have e2 : (128 + r % 64).toNat = 128 + r.toNat % 64 := by omega
  simp only [strOfNums, List.map_cons, List.map_nil, e1, e2]
theorem enc_3 {r : Int} (hv : Go.validRune r = true) (h0 : 2048 ≤ r) (h1 : r < 65536) : encB r = strOfNums [224 + r / 4096, 128 + r / 64 % 64, 128 + r % 64] := by
  rw [encB_yes hv, encode_3 hv h0 h1]
  have e1 : (224 + r / 4096).toNat = 224 + r.toNat / 4096 := by omega
  have e2 : (128 + r / 64 % 64).toNat = 128 + r.toNat / 64 % 64 := by omega
  have e3 : (128 + r % 64).toNat = 128 + r.toNat % 64 := by omega
  simp only [strOfNums, List.map_cons, List.map_nil, e1, e2, e3]
theorem enc_4 {r : Int} (h0 : 65536 ≤ r) (h1 : r ≤ 1114111) : encB r = strOfNums [240 + r / 262144, 128 + r / 4096 % 64, 128 + r / 64 % 64, 128 + r % 64] := by
  rw [encB_yes ((valid_iff r).2 (by omega)), encode_4 h0 h1]
  have e1 : (240 + r / 262144).toNat = 240 + r.toNat / 262144 := by omega
  have e2 : (128 + r / 4096 % 64).toNat = 128 + r.toNat / 4096 % 64 := by omega
  have e3 : (128 + r / 64 % 64).toNat = 128 + r.toNat / 64 % 64 := by omega
  have e4 : (128 + r % 64).toNat = 128 + r.toNat % 64 := by omega
  simp only [strOfNums, List.map_cons, List.map_nil, e1, e2, e3, e4]

/-- A digit of 16, small. -/
def hexd (n : Nat) : UInt8 := if n < 10 then UInt8.ofNat (48 + n) else UInt8.ofNat (87 + n)
/-- A number's digits of 16, as few as may be. -/
def hexL (n : Nat) : List UInt8 := if n < 16 then [hexd n] else hexL (n / 16) ++ [hexd (n % 16)]
theorem hexL_low {n : Nat} (h : n < 16) : hexL n = [hexd n] := by rw [hexL, if_pos h]
theorem hexL_high {n : Nat} (h : ¬ n < 16) : hexL n = hexL (n / 16) ++ [hexd (n % 16)] := by rw [hexL, if_neg h]
theorem hexL_length_le : ∀ (k n : Nat), n < 16 ^ (k + 1) → (hexL n).length ≤ k + 1
  | 0, n, h => by rw [hexL_low (by simpa using h)]; simp
  | k + 1, n, h => by
    by_cases hn : n < 16
    · rw [hexL_low hn]; simp
    · rw [hexL_high hn]
      have : n / 16 < 16 ^ (k + 1) := by
        rw [Nat.div_lt_iff_lt_mul (by omega)]
        rw [Nat.pow_succ] at h
        exact h
      have := hexL_length_le k (n / 16) this
      simp only [List.length_append, List.length_cons, List.length_nil]
      omega
theorem hexL_length_pos (n : Nat) : 1 ≤ (hexL n).length := by
  by_cases hn : n < 16
  · rw [hexL_low hn]; simp
  · rw [hexL_high hn]; simp

/-- What is behind the backslash of a rune that is escaped by itself; 0, if it isn't. -/
def sign (r : Int) : UInt8 := if r = 10 then 110 else if r = 13 then 114 else if r = 9 then 116 else if r = 92 then 92 else if r = 39 then 39 else if r = 93 then 93 else if r = 45 then 45 else if r = 91 then 91 else 0
/-- A rune's text; none, where the number is no rune. -/
def text (r : Int) : List UInt8 :=
  if Go.validRune r = false then []
  else if sign r ≠ 0 then [92, sign r]
  else if 32 ≤ r ∧ r ≤ 126 then [UInt8.ofNat r.toNat]
  else [92, 117, 123] ++ hexL r.toNat ++ [125]
def textB (r : Int) : ByteArray := ⟨(text r).toArray⟩
theorem text_no {r : Int} (h : Go.validRune r = false) : text r = [] := if_pos h
theorem text_sign {r : Int} (h : Go.validRune r = true) (hs : sign r ≠ 0) : text r = [92, sign r] := by
  unfold text; rw [if_neg (by simp [h]), if_pos hs]
theorem text_self {r : Int} (h0 : 32 ≤ r) (h1 : r ≤ 126) (hs : sign r = 0) : text r = [UInt8.ofNat r.toNat] := by
  unfold text; rw [if_neg (by rw [Bool.not_eq_false, valid_iff]; omega), if_neg (by simp [hs]), if_pos ⟨h0, h1⟩]
theorem text_num {r : Int} (h : Go.validRune r = true) (h1 : r < 32 ∨ 126 < r) (hs : sign r = 0) : text r = [92, 117, 123] ++ hexL r.toNat ++ [125] := by
  unfold text; rw [if_neg (by simp [h]), if_neg (by simp [hs]), if_neg (by omega)]
theorem sign_cases (r : Int) : r = 10 ∨ r = 13 ∨ r = 9 ∨ r = 92 ∨ r = 39 ∨ r = 93 ∨ r = 45 ∨ r = 91 ∨ (sign r = 0 ∧ r ≠ 10 ∧ r ≠ 13 ∧ r ≠ 9 ∧ r ≠ 92 ∧ r ≠ 39 ∧ r ≠ 93 ∧ r ≠ 45 ∧ r ≠ 91) := by
  by_cases h1 : r = 10; · exact Or.inl h1
  by_cases h2 : r = 13; · simp [h2]
  by_cases h3 : r = 9; · simp [h3]
  by_cases h4 : r = 92; · simp [h4]
  by_cases h5 : r = 39; · simp [h5]
  by_cases h6 : r = 93; · simp [h6]
  by_cases h7 : r = 45; · simp [h7]
  by_cases h8 : r = 91; · simp [h8]
  simp [sign, h1, h2, h3, h4, h5, h6, h7, h8]
end Go.Proofs.YtagbpkabfjnplaaDoor.Ru
