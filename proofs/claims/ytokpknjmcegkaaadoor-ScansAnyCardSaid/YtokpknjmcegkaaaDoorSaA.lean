/- The chapter's answer: its small functions. The chapter's Decode: the first number of bytes that are the bytes of what they make. The contract of the chapter's Decode. The contracts of the chapter's Bad and Place. The chapter's Escape: digits one by one. The contract of the chapter's Escape. The contract of the chapter's one: a rune of a text, or a set. The contract of the chapter's text. The contract of the chapter's set. The contract of the chapter's gap. The chapter's words as they lie in memory; Same, where they are the words. The chapter's Scan: what its loop keeps; texts that are not runes throughout. -/
import Derived.Test.YtokpknjmcegkaaaDoorScZ
import Derived.Test.YtokpknjmcegkaaaDoorScS
import Derived.Test.YtokpknjmcegkaaaDoorSbW
import Derived.Deep.RegionHeld3
namespace Go.Proofs.YtokpknjmcegkaaaDoor
open Go Go.RowKit Ru
set_option maxRecDepth 100000

theorem refLetter_any (c : Int) (w : World) : Calls Tryd.prog 23 #[.int .u8 c] w fun e w' => e = .returned (.bool (letZ c)) ∧ w = w' := by
  obtain ⟨b, hb⟩ : ∃ b, letZ c = b := ⟨_, rfl⟩
  rw [hb]
  unfold letZ at hb
  rcases (show c < 65 ∨ (65 ≤ c ∧ c ≤ 90) ∨ (90 < c ∧ c < 97) ∨ (97 ≤ c ∧ c ≤ 122) ∨ 122 < c by omega) with h | h | h | h | h
  all_goals
    first
    | (have d1 : decide (97 ≤ c) = true := by rw [decide_eq_true_iff]; omega)
    | (have d1 : decide (97 ≤ c) = false := by rw [decide_eq_false_iff_not]; omega)
    first
    | (have d2 : decide (c ≤ 122) = true := by rw [decide_eq_true_iff]; omega)
    | (have d2 : decide (c ≤ 122) = false := by rw [decide_eq_false_iff_not]; omega)
    first
    | (have d3 : decide (65 ≤ c) = true := by rw [decide_eq_true_iff]; omega)
    | (have d3 : decide (65 ≤ c) = false := by rw [decide_eq_false_iff_not]; omega)
    first
    | (have d4 : decide (c ≤ 90) = true := by rw [decide_eq_true_iff]; omega)
    | (have d4 : decide (c ≤ 90) = false := by rw [decide_eq_false_iff_not]; omega)
    rw [d1, d2, d3, d4] at hb
    simp at hb
    subst hb
    clear h
    go_enter Tryd.func23, Tryd.ntmps23
    go_wp2
    go_ret
    exact ⟨rfl, rfl⟩
theorem refDigit_any (c : Int) (w : World) : Calls Tryd.prog 24 #[.int .u8 c] w fun e w' => e = .returned (.bool (digZ c)) ∧ w = w' := by
  obtain ⟨b, hb⟩ : ∃ b, digZ c = b := ⟨_, rfl⟩
  rw [hb]
  unfold digZ at hb
  rcases (show c < 48 ∨ (48 ≤ c ∧ c ≤ 57) ∨ 57 < c by omega) with h | h | h
  all_goals
    first
    | (have d1 : decide (48 ≤ c) = true := by rw [decide_eq_true_iff]; omega)
    | (have d1 : decide (48 ≤ c) = false := by rw [decide_eq_false_iff_not]; omega)
    first
    | (have d2 : decide (c ≤ 57) = true := by rw [decide_eq_true_iff]; omega)
    | (have d2 : decide (c ≤ 57) = false := by rw [decide_eq_false_iff_not]; omega)
    rw [d1, d2] at hb
    simp at hb
    subst hb
    clear h
    go_enter Tryd.func24, Tryd.ntmps24
    go_wp2
    go_ret
    exact ⟨rfl, rfl⟩
/-- Which numbers are escaped by themselves. -/
def ownZ (c : Int) : Bool := c == 92 || c == 39 || c == 93 || c == 91 || c == 45
theorem ownU_any (c : Int) (w : World) : Calls Tryd.prog 71 #[.int .u8 c] w fun e w' => e = .returned (.bool (ownZ c)) ∧ w = w' := by
  by_cases h1 : c = 92
  · subst h1
    go_enter Tryd.func71, Tryd.ntmps71
    go_wp2
    go_ret
    exact ⟨rfl, rfl⟩
  by_cases h2 : c = 39
  · subst h2
    go_enter Tryd.func71, Tryd.ntmps71
    go_wp2
    go_ret
    exact ⟨rfl, rfl⟩
  by_cases h3 : c = 93
  · subst h3
    go_enter Tryd.func71, Tryd.ntmps71
    go_wp2
    go_ret
    exact ⟨rfl, rfl⟩
  by_cases h4 : c = 91
  · subst h4
    go_enter Tryd.func71, Tryd.ntmps71
    go_wp2
    go_ret
    exact ⟨rfl, rfl⟩
  by_cases h5 : c = 45
  · subst h5
    go_enter Tryd.func71, Tryd.ntmps71
    go_wp2
    go_ret
    exact ⟨rfl, rfl⟩
  have n1 : (c == 92) = false := by rw [beq_eq_false_iff_ne]; exact h1
  have n2 : (c == 39) = false := by rw [beq_eq_false_iff_ne]; exact h2
  have n3 : (c == 93) = false := by rw [beq_eq_false_iff_ne]; exact h3
  have n4 : (c == 91) = false := by rw [beq_eq_false_iff_ne]; exact h4
  have n5 : (c == 45) = false := by rw [beq_eq_false_iff_ne]; exact h5
  have e : ownZ c = false := by unfold ownZ; rw [n1, n2, n3, n4, n5]; rfl
  rw [e]
  clear h1 h2 h3 h4 h5 e
  go_enter Tryd.func71, Tryd.ntmps71
  go_wp2
  go_ret
  exact ⟨rfl, rfl⟩
/-- A digit of 16, or -1. -/
def hexI (c : UInt8) : Int := match hexv c with | some d => (d : Int) | none => -1
theorem refHexd_any (c : UInt8) (w : World) : Calls Tryd.prog 72 #[.int .u8 c.toNat] w fun e w' => e = .returned (.int .i64 (hexI c)) ∧ w = w' := by
  have hlt := c.toNat_lt
  obtain ⟨C, hC⟩ : ∃ C : Int, (c.toNat : Int) = C := ⟨_, rfl⟩
  obtain ⟨b, hb⟩ : ∃ b, hexI c = b := ⟨_, rfl⟩
  rw [hb, hC]
  unfold hexI hexv at hb
  rcases (show C < 48 ∨ (48 ≤ C ∧ C ≤ 57) ∨ (57 < C ∧ C < 65) ∨ (65 ≤ C ∧ C ≤ 70) ∨ (70 < C ∧ C < 97) ∨ (97 ≤ C ∧ C ≤ 102) ∨ 102 < C by omega) with h | h | h | h | h | h | h
  all_goals
    first
    | (have d1 : decide (48 ≤ C) = true := by rw [decide_eq_true_iff]; omega)
    | (have d1 : decide (48 ≤ C) = false := by rw [decide_eq_false_iff_not]; omega)
    first
    | (have d2 : decide (C ≤ 57) = true := by rw [decide_eq_true_iff]; omega)
    | (have d2 : decide (C ≤ 57) = false := by rw [decide_eq_false_iff_not]; omega)
    first
    | (have d3 : decide (65 ≤ C) = true := by rw [decide_eq_true_iff]; omega)
    | (have d3 : decide (65 ≤ C) = false := by rw [decide_eq_false_iff_not]; omega)
    first
    | (have d4 : decide (C ≤ 70) = true := by rw [decide_eq_true_iff]; omega)
    | (have d4 : decide (C ≤ 70) = false := by rw [decide_eq_false_iff_not]; omega)
    first
    | (have d5 : decide (97 ≤ C) = true := by rw [decide_eq_true_iff]; omega)
    | (have d5 : decide (97 ≤ C) = false := by rw [decide_eq_false_iff_not]; omega)
    first
    | (have d6 : decide (C ≤ 102) = true := by rw [decide_eq_true_iff]; omega)
    | (have d6 : decide (C ≤ 102) = false := by rw [decide_eq_false_iff_not]; omega)
    have q1 : (48 ≤ C ∧ C ≤ 102) → IntKind.u8.wrap (C - 48) = C - 48 := fun _ => IntWalk.u8_in _ (by omega)
    have q2 : (97 ≤ C ∧ C ≤ 102) → IntKind.u8.wrap (C - 97) = C - 97 := fun _ => IntWalk.u8_in _ (by omega)
    have q3 : (65 ≤ C ∧ C ≤ 102) → IntKind.u8.wrap (C - 65) = C - 65 := fun _ => IntWalk.u8_in _ (by omega)
    have q4 : (97 ≤ C ∧ C ≤ 102) → IntKind.i64.wrap (C - 97 + 10) = b := by
      intro hh
      rw [IntWalk.i64_in _ (by omega)]
      rw [if_neg (by omega), if_pos (by omega)] at hb
      dsimp only at hb
      omega
    have q5 : (65 ≤ C ∧ C ≤ 70) → IntKind.i64.wrap (C - 65 + 10) = b := by
      intro hh
      rw [IntWalk.i64_in _ (by omega)]
      rw [if_neg (by omega), if_neg (by omega), if_pos (by omega)] at hb
      dsimp only at hb
      omega
    have q6 : (48 ≤ C ∧ C ≤ 57) → C - 48 = b := by
      intro hh
      rw [if_pos (by omega)] at hb
      dsimp only at hb
      omega
    have q7 : ¬ (48 ≤ C ∧ C ≤ 57) ∧ ¬ (97 ≤ C ∧ C ≤ 102) ∧ ¬ (65 ≤ C ∧ C ≤ 70) → b = -1 := by
      intro hh
      rw [if_neg (by omega), if_neg (by omega), if_neg (by omega)] at hb
      dsimp only at hb
      omega
    clear hb hC hlt
    try have z1 := q1 (by omega)
    try have z2 := q2 (by omega)
    try have z3 := q3 (by omega)
    try have z4 := q4 (by omega)
    try have z5 := q5 (by omega)
    try have z6 := q6 (by omega)
    try have z7 := q7 (by omega)
    try have z8 : 0 ≤ b ∧ b ≤ 255 := by omega
    have HH := Lib.hid h
    have H4 := Lib.hid (show (97 ≤ C ∧ C ≤ 102) → C - 97 + 10 = b from fun hh => by have := q4 hh; rw [IntWalk.i64_in _ (by omega)] at this; exact this)
    have H5 := Lib.hid (show (65 ≤ C ∧ C ≤ 70) → C - 65 + 10 = b from fun hh => by have := q5 hh; rw [IntWalk.i64_in _ (by omega)] at this; exact this)
    clear q1 q2 q3 q4 q5 q6 q7 h
    go_enter Tryd.func72, Tryd.ntmps72
    go_wp2
    go_ret
    first
    | exact ⟨rfl, rfl⟩
    | exact ⟨ret_int (by omega), rfl⟩
    | exact ⟨ret_int (by have a1 := HH.out; have a2 := H4.out; have a3 := H5.out; unfold wrap64; omega), rfl⟩
theorem pre_eq (s p : ByteArray) (k : Nat) (_h : k + p.size ≤ s.size) : ((s.extract k (k + p.size)).toList == p.toList) = Lib.hasPrefix (s.data.toList.drop k) p.data.toList := by
  rw [ByteArray.toList_eq, ByteArray.toList_eq, Lib.extract_data, Nat.add_sub_cancel_left, Lib.size_eq p]
  unfold Lib.hasPrefix
  generalize s.data.toList.drop k = l
  generalize p.data.toList = q
  rw [Bool.eq_iff_iff, List.isPrefixOf_iff_prefix, beq_iff_eq, List.prefix_iff_eq_take]
  exact eq_comm
/-- Does the text begin so at k? -/
theorem begins_any (s p : ByteArray) (k : Nat) (w : World) (hk : k ≤ s.size) (hp : p.size ≤ 100) (hs : s.size ≤ 140737488355328) : Calls Tryd.prog 27 #[.string s, .int .i64 k, .string p] w fun e w' => e = .returned (.bool (Lib.hasPrefix (s.data.toList.drop k) p.data.toList)) ∧ w = w' := by
  by_cases h : k + p.size ≤ s.size
  · have d0 : decide ((k : Int) + (p.size : Int) ≤ (s.size : Int)) = true := by rw [decide_eq_true_iff]; omega
    have d1 : (k : Int) + (p.size : Int) ≤ (s.size : Int) := by omega
    have q1 : IntKind.i64.wrap ((k : Int) + (p.size : Int)) = (k : Int) + (p.size : Int) := IntWalk.i64_in _ (by omega)
    have q2 : ((k : Int) + (p.size : Int)).toNat = k + p.size := by omega
    have q3 : (0 : Int) ≤ (k : Int) + (p.size : Int) := by omega
    have q4 : (k : Int) ≤ (k : Int) + (p.size : Int) := by omega
    go_enter Tryd.func27, Tryd.ntmps27
    go_wp2
    go_ret
    exact ⟨ret_bool (pre_eq s p k h), rfl⟩
  · have d0 : decide ((k : Int) + (p.size : Int) ≤ (s.size : Int)) = false := by rw [decide_eq_false_iff_not]; omega
    have d1 : ¬ (k : Int) + (p.size : Int) ≤ (s.size : Int) := by omega
    have q1 : IntKind.i64.wrap ((k : Int) + (p.size : Int)) = (k : Int) + (p.size : Int) := IntWalk.i64_in _ (by omega)
    have hf : Lib.hasPrefix (s.data.toList.drop k) p.data.toList = false := by
      cases hb : Lib.hasPrefix (s.data.toList.drop k) p.data.toList with
      | false => rfl
      | true =>
        have := Sc.prefix_len hb
        rw [List.length_drop, ← Lib.size_eq, ← Lib.size_eq] at this
        have hp0 : p.size = 0 ∨ 0 < p.size := by omega
        omega
    rw [hf]
    go_enter Tryd.func27, Tryd.ntmps27
    go_wp2
    go_ret
    exact ⟨rfl, rfl⟩
end Go.Proofs.YtokpknjmcegkaaaDoor
namespace Go.Proofs.YtokpknjmcegkaaaDoor
open Go Go.RowKit Ru
set_option maxRecDepth 100000

/-- What the first i of m bytes make. -/
def cN (m : Nat) (b : Nat → Nat) : Nat → Nat
  | 0 => 0
  | i + 1 => if i = 0 then (if 1 < m then b 0 % 2 ^ (7 - m) else b 0) else 64 * cN m b i + b i % 64
theorem cN_1 (b : Nat → Nat) : cN 1 b 1 = b 0 := rfl
theorem cN_2 (b : Nat → Nat) : cN 2 b 2 = 64 * (b 0 % 32) + b 1 % 64 := rfl
theorem cN_3 (b : Nat → Nat) : cN 3 b 3 = 64 * (64 * (b 0 % 16) + b 1 % 64) + b 2 % 64 := rfl
theorem cN_4 (b : Nat → Nat) : cN 4 b 4 = 64 * (64 * (64 * (b 0 % 8) + b 1 % 64) + b 2 % 64) + b 3 % 64 := rfl
theorem cN_bound (m : Nat) (b : Nat → Nat) (hb : b 0 < 256) : ∀ i, i ≤ 4 → cN m b i < 256 * 64 ^ i
  | 0, _ => by simp [cN]
  | i + 1, h => by
    have ih := cN_bound m b hb i (by omega)
    have h0 : cN m b (i + 1) = if i = 0 then (if 1 < m then b 0 % 2 ^ (7 - m) else b 0) else 64 * cN m b i + b i % 64 := rfl
    rw [h0, Nat.pow_succ]
    have h1 : b 0 % 2 ^ (7 - m) ≤ b 0 := Nat.mod_le _ _
    have hp : 0 < 64 ^ i := Nat.pos_of_ne_zero (by simp)
    split
    · split <;> omega
    · omega
theorem take_1 {l : List UInt8} (h : 0 < l.length) : l.take 1 = [l.getD 0 0] := by
  match l, h with
  | a :: r, _ => rfl
def byteAt (l : List UInt8) (i : Nat) : Nat := (l.getD i 0).toNat
/-- Where the bytes are those of a number, it is decoded. -/
theorem dec_of_enc {l : List UInt8} {n m : Nat} (hm : 1 ≤ m) (hl : m ≤ l.length) (h : encL (n : Int) = l.take m) : Lib.decodeL l = (n, m) ∧ Lib.decodeL l ≠ (65533, 1) := by
  have hlen : (encL (n : Int)).length = m := by rw [h, List.length_take]; omega
  have hv : Go.validRune (n : Int) = true := by
    cases hv : Go.validRune (n : Int) with
    | true => rfl
    | false =>
      rw [encL_no hv] at hlen
      simp at hlen
      omega
  have e : l = encL (n : Int) ++ l.drop m := by rw [h, List.take_append_drop]
  have h1 := decode_enc_app (n : Int) (l.drop m) hv
  rw [← e, hlen, Int.toNat_natCast] at h1
  have h2 := (decode_enc (n : Int) hv).2.2
  have h3 := (decode_enc (n : Int) hv).1
  rw [hlen, Int.toNat_natCast] at h3
  exact ⟨h1, by rw [h1, ← h3]; exact h2⟩
theorem take_2 {l : List UInt8} (h : 1 < l.length) : l.take 2 = [l.getD 0 0, l.getD 1 0] := by
  match l, h with
  | [_], h => simp at h
  | a :: b :: r, _ => rfl
theorem take_3 {l : List UInt8} (h : 2 < l.length) : l.take 3 = [l.getD 0 0, l.getD 1 0, l.getD 2 0] := by
  match l, h with
  | [_], h => simp at h
  | [_, _], h => simp at h
  | a :: b :: c :: r, _ => rfl
theorem take_4 {l : List UInt8} (h : 3 < l.length) : l.take 4 = [l.getD 0 0, l.getD 1 0, l.getD 2 0, l.getD 3 0] := by
  match l, h with
  | [_], h => simp at h
  | [_, _], h => simp at h
  | [_, _, _], h => simp at h
  | a :: b :: c :: d :: r, _ => rfl
theorem byte_as {c : UInt8} {n : Nat} (h : n = c.toNat) : UInt8.ofNat n = c := by rw [h, UInt8.ofNat_toNat]
theorem enc_of_dec {l : List UInt8} (hl : l ≠ []) (h : Lib.decodeL l ≠ (65533, 1)) : encL ((Lib.decodeL l).1 : Int) = l.take (Lib.decodeL l).2 ∧ cN (Lib.decodeL l).2 (byteAt l) (Lib.decodeL l).2 = (Lib.decodeL l).1 ∧ (Lib.decodeL l).2 ≤ 4 := by
  have hv := Sc.decode_valid l h
  rw [Lib.decodeL_N] at h hv ⊢
  have b0 := (l.getD 0 0).toNat_lt
  have b1 := (l.getD 1 0).toNat_lt
  have b2 := (l.getD 2 0).toNat_lt
  have b3 := (l.getD 3 0).toNat_lt
  have hp := List.length_pos_iff.2 hl
  rcases Lib.decodeN_shape l.length (l.getD 0 0).toNat (l.getD 1 0).toNat (l.getD 2 0).toNat (l.getD 3 0).toNat with ⟨c, e⟩ | ⟨c1, c2, c3, cv, e⟩ | ⟨c1, c2, c3, c4, cv, cs, e⟩ | ⟨c1, c2, c3, c4, c5, cv, cw, e⟩ | e
  · rw [e] at hv ⊢
    dsimp only at hv ⊢
    refine ⟨?_, rfl, by omega⟩
    rw [take_1 hp]
    unfold encL
    rw [encB_yes hv, encode_1 (by omega) (by omega)]
    simp only [Int.toNat_natCast, UInt8.ofNat_toNat]
  · rw [e] at hv ⊢
    dsimp only at hv ⊢
    refine ⟨?_, by rw [cN_2]; unfold byteAt; omega, by omega⟩
    rw [take_2 c2]
    unfold encL
    rw [encB_yes hv, encode_2 (by omega) (by omega)]
    simp only [Int.toNat_natCast]
    rw [byte_as (c := l.getD 0 0) (by omega), byte_as (c := l.getD 1 0) (by omega)]
  · rw [e] at hv ⊢
    dsimp only at hv ⊢
    refine ⟨?_, by rw [cN_3]; unfold byteAt; omega, by omega⟩
    rw [take_3 c2]
    unfold encL
    rw [encB_yes hv, encode_3 hv (by omega) (by omega)]
    simp only [Int.toNat_natCast]
    rw [byte_as (c := l.getD 0 0) (by omega), byte_as (c := l.getD 1 0) (by omega), byte_as (c := l.getD 2 0) (by omega)]
  · rw [e] at hv ⊢
    dsimp only at hv ⊢
    refine ⟨?_, by rw [cN_4]; unfold byteAt; omega, by omega⟩
    rw [take_4 c2]
    unfold encL
    rw [encB_yes hv, encode_4 (by omega) (by omega)]
    simp only [Int.toNat_natCast]
    rw [byte_as (c := l.getD 0 0) (by omega), byte_as (c := l.getD 1 0) (by omega), byte_as (c := l.getD 2 0) (by omega), byte_as (c := l.getD 3 0) (by omega)]
  · exact absurd e h
theorem refDecode_out (s : ByteArray) (k : Nat) (w : World) (h : s.size ≤ k) (_hk : k ≤ 140737488355328) :
    Calls Tryd.prog 41 #[.string s, .int .i64 k] w fun e w' => e = .returned (.tuple #[.int .i32 0, .int .i64 0, .bool false]) ∧ w = w' := by
  have d0 : decide ((s.size : Int) ≤ (k : Int)) = true := by rw [decide_eq_true_iff]; omega
  have d1 : decide (s.size ≤ k) = true := by rw [decide_eq_true_iff]; omega
  go_enter Tryd.func41, Tryd.ntmps41
  go_wp2
  go_ret3
  exact ⟨rfl, rfl⟩
/-- m bytes at k are the bytes of what they make. -/
def Fits (s : ByteArray) (k m : Nat) : Prop := k + m ≤ s.size ∧ encL ((cN m (byteAt (s.data.toList.drop k)) m : Nat) : Int) = (s.data.toList.drop k).take m
theorem dec_bad {s : ByteArray} {k m : Nat} (hk : k < s.size) (_hm : 1 ≤ m) (hx : ¬ (m ≤ 4 ∧ k + m ≤ s.size)) (h : ∀ j, 1 ≤ j → j < m → ¬ Fits s k j) : Lib.decodeL (s.data.toList.drop k) = (65533, 1) := by
  apply Classical.byContradiction
  intro hd
  have hne : s.data.toList.drop k ≠ [] := by
    intro e
    have := congrArg List.length e
    rw [List.length_drop, ← Lib.size_eq] at this
    simp at this
    omega
  obtain ⟨h1, h2, h3⟩ := enc_of_dec hne hd
  have h4 := Lib.decodeL_le _ hne
  have h5 := Lib.decodeL_width (s.data.toList.drop k)
  rw [List.length_drop, ← Lib.size_eq] at h4
  exact h _ h5 (by omega) ⟨by omega, by rw [h2]; exact h1⟩
end Go.Proofs.YtokpknjmcegkaaaDoor
namespace Go.Proofs.YtokpknjmcegkaaaDoor
open Go Go.RowKit Ru
set_option maxRecDepth 100000

set_option maxHeartbeats 4000000 in
theorem refDecode_in (s : ByteArray) (k : Nat) (w : World) (hs : s.size ≤ 140737488355328) (hk : k < s.size) :
    Calls Tryd.prog 41 #[.string s, .int .i64 k] w fun e w' => e = .returned (decT (Lib.decodeL (s.data.toList.drop k))) ∧ Below w.heap.size w w' := by
  have d0 : decide ((s.size : Int) ≤ (k : Int)) = false := by rw [decide_eq_false_iff_not]; omega
  have d1 : decide (s.size ≤ k) = false := by rw [decide_eq_false_iff_not]; omega
  go_enter Tryd.func41, Tryd.ntmps41
  go_wp2_with fail
  go_loopw [7] (fun a wr => ∃ m : Nat, 1 ≤ m ∧ m ≤ 5 ∧ a = .int .i64 m ∧ Below w.heap.size w wr ∧ Hid (∀ j, 1 ≤ j → j < m → ¬ Fits s k j)) (fun a _ => 5 - (intOf a).toNat)
  case atStart => exact ⟨1, by omega, by omega, rfl, Below.refl _ _, fun j h1 h2 => by omega⟩
  case round =>
    obtain ⟨m, hm1, hm5, rfl, hb, hno⟩ := hrel
    by_cases hin : m ≤ 4 ∧ k + m ≤ s.size
    · have t0 : decide ((m : Int) ≤ 4) = true := by rw [decide_eq_true_iff]; omega
      have t1 : decide ((k : Int) + (m : Int) ≤ (s.size : Int)) = true := by rw [decide_eq_true_iff]; omega
      have t2 : decide (m ≤ 4) = true := by rw [decide_eq_true_iff]; omega
      have t3 : (k : Int) + (m : Int) ≤ (s.size : Int) := by omega
      have t4 : decide (k + m ≤ s.size) = true := by rw [decide_eq_true_iff]; omega
      have hbyte : ∀ i, i < m → (s.data.toList.getD (k + i) 0).toNat = byteAt (s.data.toList.drop k) i := fun i _ => by unfold byteAt; rw [Sc.getD_drop]
      have hb255 : ∀ i, byteAt (s.data.toList.drop k) i < 256 := fun i => UInt8.toNat_lt _
      have hbd := cN_bound m (byteAt (s.data.toList.drop k)) (hb255 0)
      have HBY := Lib.hid hbyte
      have H255 := Lib.hid hb255
      have HBD := Lib.hid hbd
      have HNO := Lib.hid hno
      have HB := Lib.hid hb
      have HIN := Lib.hid hin
      obtain ⟨B, hB⟩ : ∃ B, byteAt (s.data.toList.drop k) = B := ⟨_, rfl⟩
      have HBE := Lib.hid hB
      rw [hB] at HBY H255 HBD
      have hm4 := hin.1
      clear hbyte hb255 hbd hno hb hin hB hm5
      go_wp2_with fail
      go_loopw [8, 9] (fun n a wx => ∃ i : Nat, i ≤ m ∧ n = .int .i64 (cN m B i : Nat) ∧ a = .int .i64 i ∧ wx = wr) (fun _ a _ => m - (intOf a).toNat)
      case atStart => exact ⟨0, Nat.zero_le _, rfl, rfl, rfl⟩
      case round =>
        obtain ⟨i, him, rfl, rfl, rfl⟩ := hrel
        by_cases hlt : i < m
        · have u0 : decide (i < m) = true := by rw [decide_eq_true_iff]; exact hlt
          have hix0 := fun wx => byte_at s (k + i) (by have := HIN.out.2; omega) (B i : Nat) (by rw [HBY.out i hlt]) wx
          have hix : ∀ wx, (Instr.index 9 (.string s) (.int .i64 ((k : Int) + (i : Int)))).run Tryd.prog wx = .ok (.int .u8 (B i : Nat)) wx := fun wx => by have := hix0 wx; rwa [Int.natCast_add] at this
          have hbi := H255.out i
          obtain ⟨c, hc⟩ : ∃ c : Int, ((B i : Nat) : Int) = c := ⟨_, rfl⟩
          have hstep : cN m B (i + 1) = if i = 0 then (if 1 < m then B 0 % 2 ^ (7 - m) else B 0) else 64 * cN m B i + B i % 64 := rfl
          by_cases hi0 : i = 0
          · subst hi0
            rw [if_pos rfl] at hstep
            have q0 : 0 ≤ c ∧ c < 256 := by omega
            have hm : m = 1 ∨ m = 2 ∨ m = 3 ∨ m = 4 := by omega
            rw [hc] at hix
            clear hix0
            obtain ⟨X, hX⟩ : ∃ X : Int, ((cN m B (0 + 1) : Nat) : Int) = X := ⟨_, rfl⟩
            have HX := Lib.hid hX
            simp only [Int.natCast_zero, Int.add_zero] at hix
            rcases hm with rfl | rfl | rfl | rfl
            · have e : X = c := by rw [← hX, hstep, if_neg (by omega)]; exact hc
              subst e
              clear hstep hc hX
              go_wp2_with fail
              exact ⟨⟨1, by omega, by rw [← HX.out], rfl, by first | trivial | rfl⟩, by simp [intOf]⟩
            · have e : c.tmod 32 = X := by rw [← hX, hstep, if_pos (by omega), Int.tmod_eq_emod_of_nonneg q0.1, ← hc]; omega
              clear hstep hc hX
              go_wp2_with fail
              exact ⟨⟨1, by omega, by rw [← HX.out], rfl, by first | trivial | rfl⟩, by simp [intOf]⟩
            · have e : c.tmod 16 = X := by rw [← hX, hstep, if_pos (by omega), Int.tmod_eq_emod_of_nonneg q0.1, ← hc]; omega
              clear hstep hc hX
              go_wp2_with fail
              exact ⟨⟨1, by omega, by rw [← HX.out], rfl, by first | trivial | rfl⟩, by simp [intOf]⟩
            · have e : c.tmod 8 = X := by rw [← hX, hstep, if_pos (by omega), Int.tmod_eq_emod_of_nonneg q0.1, ← hc]; omega
              clear hstep hc hX
              go_wp2_with fail
              exact ⟨⟨1, by omega, by rw [← HX.out], rfl, by first | trivial | rfl⟩, by simp [intOf]⟩
          · rw [if_neg hi0] at hstep
            have hbn := HBD.out i (by omega)
            have hp : 64 ^ i ≤ 64 ^ 3 := Nat.pow_le_pow_right (by omega) (by omega)
            obtain ⟨X, hX⟩ : ∃ X : Int, ((cN m B (i + 1) : Nat) : Int) = X := ⟨_, rfl⟩
            have HX := Lib.hid hX
            have hn1 : cN m B i < 67108864 := by omega
            have e1 : c.tmod 64 = ((B i % 64 : Nat) : Int) := by rw [Int.tmod_eq_emod_of_nonneg (by omega)]; omega
            obtain ⟨D, hD⟩ : ∃ X : Int, ((B i % 64 : Nat) : Int) = X := ⟨_, rfl⟩
            rw [hD] at e1
            obtain ⟨Ni, hNi⟩ : ∃ X : Int, ((cN m B i : Nat) : Int) = X := ⟨_, rfl⟩
            have e2 : IntKind.i64.wrap (64 * Ni) = 64 * Ni := IntWalk.i64_in _ (by omega)
            have e3 : IntKind.i64.wrap (64 * Ni + D) = X := by rw [IntWalk.i64_in _ (by omega), ← hX, hstep]; omega
            have W0 : wrap64 c = c := by unfold wrap64; omega
            have W1 : wrap64 (64 * Ni) = 64 * Ni := by unfold wrap64; omega
            have HW := Lib.hid (show wrap64 (wrap64 (64 * Ni) + (wrap64 c).tmod 64) = X by rw [W0, W1, e1, ← hX, hstep]; unfold wrap64; omega)
            have ti : ((i : Int) == 0) = false := by rw [beq_eq_false_iff_ne]; omega
            have ti2 : (i == 0) = false := by rw [beq_eq_false_iff_ne]; exact hi0
            rw [hc] at hix
            rw [hNi]
            clear hstep hc hX hix0 hbn hp hn1 hD hNi hbi W0 W1 e1 e2 e3
            go_wp2_with fail
            exact ⟨⟨i + 1, by omega, by rw [HX.out, ← HW.out], by go_num, by first | trivial | rfl⟩, by simp [intOf]; omega⟩
        · have hie : i = m := by omega
          subst hie
          have hin := HIN.out
          have hN : cN i B i ≤ 67108864 := by
            have hm : i = 1 ∨ i = 2 ∨ i = 3 ∨ i = 4 := by omega
            have b0 := H255.out 0
            have b1 := H255.out 1
            have b2 := H255.out 2
            have b3 := H255.out 3
            rcases hm with rfl | rfl | rfl | rfl
            · rw [cN_1]; omega
            · rw [cN_2]; omega
            · rw [cN_3]; omega
            · rw [cN_4]; omega
          obtain ⟨NN, hNN⟩ : ∃ X : Nat, cN i B i = X := ⟨_, rfl⟩
          rw [hNN] at hN ⊢
          have u0 : decide (i < i) = false := by simp
          obtain ⟨Z, hZ⟩ : ∃ Z : Int, (NN : Int) = Z := ⟨_, rfl⟩
          have e1 : IntKind.i32.wrap Z = Z := IntWalk.i32_in _ (by omega)
          have CE := Lib.hid (fun w' => refEncode_any Z w')
          obtain ⟨EB, hEB⟩ : ∃ b : ByteArray, encB Z = b := ⟨_, rfl⟩
          rw [hEB] at CE
          have hext : (s.extract k (k + i)).toList = (s.data.toList.drop k).take i := by
            rw [ByteArray.toList_eq, Lib.extract_data, Nat.add_sub_cancel_left]
          have henc : EB.toList = encL Z := by rw [← hEB, ByteArray.toList_eq]; rfl
          obtain ⟨EX, hEX⟩ : ∃ b : ByteArray, s.extract k (k + i) = b := ⟨_, rfl⟩
          rw [hEX] at hext
          have v1 : IntKind.i64.wrap ((k : Int) + (i : Int)) = (k : Int) + (i : Int) := IntWalk.i64_in _ (by omega)
          have v2 : ((k : Int) + (i : Int)).toNat = k + i := by omega
          have v3 : (k : Int) ≤ (k : Int) + (i : Int) := by omega
          rw [hZ]
          by_cases hf : Fits s k i
          · have hfe := hf.2
            rw [HBE.out, hNN, hZ] at hfe
            have t5 : (EB.toList == EX.toList) = true := by rw [beq_iff_eq, henc, hext]; exact hfe
            have hd := dec_of_enc (l := s.data.toList.drop k) (n := NN) hm1 (by rw [List.length_drop, ← Lib.size_eq]; omega) (by rw [hZ]; exact hfe)
            have HF := Lib.hid (show decT (Lib.decodeL (s.data.toList.drop k)) = .tuple #[.int .i32 Z, .int .i64 i, .bool true] by rw [decT_ok hd.2, hd.1, ← hZ])
            clear hf hfe hd henc hext hEB hNN hZ hN hin HBE HBY H255 HBD HIN HNO hlt him
            go_upto_region 16 with fail
            go_region_held3 (fun _ => True) (trivial) (first | (go_at_call 43; refine (CE.out _).mono ?_; rintro e w2 ⟨rfl, b2⟩))
            have HB6 := Lib.hid (HB.out.trans (show Below w.heap.size wr w2 from (show Below wr.heap.size wr w2 from ⟨b2.os, b2.tape, b2.output, b2.size, b2.block⟩).mono HB.out.size))
            clear b2
            go_wp2_with fail
            go_ret3
            exact ⟨ret_eq HF.out.symm, HB6.out⟩
          · have hfe : encL Z ≠ (s.data.toList.drop k).take i := by
              intro e
              refine hf ⟨hin.2, ?_⟩
              rw [HBE.out, hNN, hZ]
              exact e
            have t5 : (EB.toList == EX.toList) = false := by rw [beq_eq_false_iff_ne, henc, hext]; exact hfe
            have HNX := Lib.hid (show ∀ j, 1 ≤ j → j < i + 1 → ¬ Fits s k j by
              intro j h1 h2
              by_cases hj : j = i
              · subst hj; exact hf
              · exact HNO.out j h1 (by omega))
            clear hf hfe henc hext hEB hNN hZ hN HBE HBY H255 HBD HIN HNO hlt him
            go_upto_region 16 with fail
            go_region_held3 (fun _ => True) (trivial) (first | (go_at_call 43; refine (CE.out _).mono ?_; rintro e w2 ⟨rfl, b2⟩))
            have HB6 := Lib.hid (HB.out.trans (show Below w.heap.size wr w2 from (show Below wr.heap.size wr w2 from ⟨b2.os, b2.tape, b2.output, b2.size, b2.block⟩).mono HB.out.size))
            clear b2
            go_wp2_with fail
            exact ⟨⟨i + 1, by omega, by omega, by go_num, HB6.out, HNX⟩, by simp [intOf]; omega⟩
    · have HD := Lib.hid (dec_bad hk hm1 hin hno.out)
      have HB := Lib.hid hb
      clear hb hno
      rcases (show (4 < m) ∨ (m ≤ 4 ∧ s.size < k + m) by omega) with h5 | ⟨h5, h6⟩
      · have t0 : decide ((m : Int) ≤ 4) = false := by rw [decide_eq_false_iff_not]; omega
        have t2 : decide (m ≤ 4) = false := by rw [decide_eq_false_iff_not]; omega
        clear hin
        go_wp2_with fail
        go_ret3
        exact ⟨ret_eq (decT_bad HD.out).symm, HB.out⟩
      · have t0 : decide ((m : Int) ≤ 4) = true := by rw [decide_eq_true_iff]; omega
        have t2 : decide (m ≤ 4) = true := by rw [decide_eq_true_iff]; omega
        have t1 : decide ((k : Int) + (m : Int) ≤ (s.size : Int)) = false := by rw [decide_eq_false_iff_not]; omega
        have t3 : ¬ (k : Int) + (m : Int) ≤ (s.size : Int) := by omega
        have t4 : decide (k + m ≤ s.size) = false := by rw [decide_eq_false_iff_not]; omega
        clear hin
        go_wp2_with fail
        go_ret3
        exact ⟨ret_eq (decT_bad HD.out).symm, HB.out⟩
end Go.Proofs.YtokpknjmcegkaaaDoor
namespace Go.Proofs.YtokpknjmcegkaaaDoor
open Go Go.RowKit Ru
set_option maxRecDepth 100000

set_option maxHeartbeats 400000 in
theorem refBad_any (s : ByteArray) (w : World) (hs : s.size ≤ 140737488355328) :
    Calls Tryd.prog 21 #[.string s] w fun e w' => e = .returned (.int .i64 (bad s.data.toList)) ∧ Below w.heap.size w w' := by
  go_enter Tryd.func21, Tryd.ntmps21
  go_wp2
  go_loopw [3] (fun a wr => ∃ k : Nat, k ≤ s.size ∧ a = .int .i64 k ∧ Below w.heap.size w wr ∧ Hid (bd (s.size - k) (s.data.toList.drop k) k = bad s.data.toList)) (fun a _ => s.size - (intOf a).toNat)
  case atStart => exact ⟨0, Nat.zero_le _, rfl, Below.refl _ _, by unfold bad; rw [← Lib.size_eq]; rfl⟩
  case round =>
    obtain ⟨k, hk, rfl, hb, hbad⟩ := hrel
    by_cases hlt : k < s.size
    · have C := Lib.hid (refDecode_in s k wr hs hlt)
      have hne : s.data.toList.drop k ≠ [] := by
        intro e
        have := congrArg List.length e
        rw [List.length_drop, ← Lib.size_eq] at this
        simp at this
        omega
      have hl : (s.data.toList.drop k).length = s.size - k := by rw [List.length_drop, ← Lib.size_eq]
      have hstep := bd_step (s.size - k) (s.data.toList.drop k) k hne (by omega)
      by_cases hd : Lib.decodeL (s.data.toList.drop k) = (65533, 1)
      · have HF := Lib.hid (show (k : Int) = bad s.data.toList by rw [← hbad.out, hstep, if_pos hd])
        rw [decT_bad hd] at C
        clear hstep hl hne hd hbad
        go_wp2_with (go_at_call 41; refine C.out.mono ?_; rintro e w' ⟨rfl, hb2⟩)
        go_ret
        exact ⟨ret_int HF.out, hb.trans (hb2.mono hb.size)⟩
      · have hw := Lib.decodeL_width (s.data.toList.drop k)
        have hle := Lib.decodeL_le (s.data.toList.drop k) hne
        rw [hl] at hle
        rw [if_neg hd, List.drop_drop] at hstep
        have hfu := bd_fuel (s.size - k) (s.size - (k + (Lib.decodeL (s.data.toList.drop k)).2)) (s.data.toList.drop (k + (Lib.decodeL (s.data.toList.drop k)).2)) (k + (Lib.decodeL (s.data.toList.drop k)).2) (by rw [List.length_drop, ← Lib.size_eq]; omega) (by rw [List.length_drop, ← Lib.size_eq]; omega)
        have HF := Lib.hid (show bd (s.size - (k + (Lib.decodeL (s.data.toList.drop k)).2)) (s.data.toList.drop (k + (Lib.decodeL (s.data.toList.drop k)).2)) (k + (Lib.decodeL (s.data.toList.drop k)).2) = bad s.data.toList by rw [← hbad.out, hstep, hfu])
        rw [decT_ok hd] at C
        clear hstep hl hne hd hbad hfu
        generalize Lib.decodeL (s.data.toList.drop k) = d at *
        obtain ⟨r, n⟩ := d
        dsimp only at *
        go_wp2_with (go_at_call 41; refine C.out.mono ?_; rintro e w' ⟨rfl, hb2⟩)
        refine ⟨⟨k + n, by omega, rfl, hb.trans (hb2.mono hb.size), HF⟩, ?_⟩
        simp [intOf]
        omega
    · have HF := Lib.hid (show (-1 : Int) = bad s.data.toList by
        rw [← hbad.out, List.drop_eq_nil_of_le (by rw [← Lib.size_eq]; omega), bd_nil])
      clear hbad
      go_wp2
      go_ret
      exact ⟨ret_int HF.out, hb⟩

theorem tens_nil : tens [] = 0 := rfl
theorem tens_snoc (l : List UInt8) (i : Nat) (h : i < l.length) : tens (l.take (i + 1)) = tens (l.take i) + if l.getD i 0 = 10 then 1 else 0 := by
  have e : l.take (i + 1) = l.take i ++ [l.getD i 0] := by
    have e0 : l.getD i 0 = l[i] := by simp [List.getD, List.getElem?_eq_getElem h]
    rw [e0, List.take_succ_eq_append_getElem h]
  rw [e, tens_app]
  congr 1
  generalize l.getD i 0 = c
  unfold tens
  split
  · rename_i h1; rw [h1]; rfl
  · rename_i h1; simp [h1]
/-- The column behind the last byte 10. -/
theorem col_of {l : List UInt8} (hG : Sc.Good l) {F : Nat} (hF : F ≤ l.length) (ht : tens (l.drop F) = 0) (h : F = 0 ∨ (0 < F ∧ l.getD (F - 1) 0 = 10)) : (place (l.drop F)).2 = (place l).2 := by
  rcases h with rfl | ⟨h1, h2⟩
  · rfl
  · have hA := (Sc.At.ascii hG (k := F - 1) (by omega) (by rw [h2]; decide)).2
    rw [Nat.sub_add_cancel h1] at hA
    have e : l.take F = l.take (F - 1) ++ [10] := by
      have e0 : l.getD (F - 1) 0 = l[F - 1] := by simp [List.getD, List.getElem?_eq_getElem (show F - 1 < l.length by omega)]
      have e1 := List.take_succ_eq_append_getElem (l := l) (i := F - 1) (by omega)
      rw [Nat.sub_add_cancel h1, ← e0, h2] at e1
      exact e1
    have hj := plc_join (l.take F) (l.drop F) hA.2.1
    rw [List.take_append_drop] at hj
    have hl1 : (place (l.drop F)).1 = 1 := by
      unfold place
      rw [pl_line _ _ _ _ (Nat.le_refl _), ht]
    rw [hj, hl1, if_pos rfl, e, Sc.place10]
    dsimp only
    omega
set_option maxHeartbeats 2000000 in
theorem refPlace_any (s : ByteArray) (k : Nat) (w : World) (hs : s.size ≤ 140737488355328) (hk : k ≤ s.size) (hG : Sc.Good (s.data.toList.take k)) :
    Calls Tryd.prog 20 #[.string s, .int .i64 k] w fun e w' => e = .returned (.agg #[.int .i64 k, .int .i64 (place (s.data.toList.take k)).1, .int .i64 (place (s.data.toList.take k)).2]) ∧ Below w.heap.size w w' := by
  have d0 : decide ((s.size : Int) < (k : Int)) = false := by rw [decide_eq_false_iff_not]; omega
  have d1 : decide (s.size < k) = false := by rw [decide_eq_false_iff_not]; omega
  have d2 : ¬ s.size < k := by omega
  obtain ⟨l, hl⟩ : ∃ l, s.data.toList.take k = l := ⟨_, rfl⟩
  have hll : l.length = k := by rw [← hl, List.length_take, ← Lib.size_eq]; omega
  have hld : ∀ i, i < k → s.data.toList.getD i 0 = l.getD i 0 := by
    intro i hi
    rw [← hl]
    simp [List.getD, hi]
  have HG := Lib.hid hG
  have HL := Lib.hid hl
  have HLL := Lib.hid hll
  have HLD := Lib.hid hld
  rw [hl] at HG ⊢
  have HB0 := Lib.hid ((Below.refl _ w).alloc (Nat.le_refl _) (.cells #[.int .i64 0, .int .i64 0, .int .i64 0] 26))
  have HT0 := Lib.hid (Three.made w 26 (.int .i64 0) (.int .i64 0) (.int .i64 0))
  clear hG hl hll hld
  go_enter Tryd.func20, Tryd.ntmps20
  go_wp2_with fail
  generalize hW1 : w.alloc (.cells #[.int .i64 0, .int .i64 0, .int .i64 0] 26) = w1 at HB0 HT0 ⊢
  go_loopw [5, 6, 7] (fun ln fr a wx => ∃ i F : Nat, i ≤ k ∧ a = .int .i64 i ∧ fr = .int .i64 F ∧ ln = .int .i64 (1 + tens (l.take i) : Nat) ∧ F ≤ i ∧ tens ((l.take i).drop F) = 0 ∧ (F = 0 ∨ (0 < F ∧ l.getD (F - 1) 0 = 10)) ∧ wx = w1) (fun _ _ a _ => k - (intOf a).toNat)
  case atStart => exact ⟨0, 0, Nat.zero_le _, rfl, rfl, rfl, Nat.le_refl _, by simp [tens], Or.inl rfl, rfl⟩
  case round =>
    obtain ⟨i, F, hi, rfl, rfl, rfl, hFi, ht, hF, rfl⟩ := hrel
    by_cases hlt : i < k
    · have t0 : decide (i < k) = true := by rw [decide_eq_true_iff]; exact hlt
      have hix := fun wx => byte_at s i (by omega) _ rfl wx
      rw [HLD.out i hlt] at hix
      have hb255 := (l.getD i 0).toNat_lt
      have hsn := tens_snoc l i (by rw [HLL.out]; exact hlt)
      have htl : tens (l.take i) ≤ i := by
        unfold tens
        have := List.length_filter_le (fun b => b == 10) (l.take i)
        rw [List.length_take] at this
        omega
      by_cases hc : l.getD i 0 = 10
      · rw [hc] at hix
        rw [if_pos hc] at hsn
        have HN := Lib.hid (show ((1 + tens (l.take i) : Nat) : Int) + 1 = ((1 + tens (l.take (i + 1)) : Nat) : Int) by rw [hsn]; omega)
        obtain ⟨T, hT⟩ : ∃ T : Int, ((1 + tens (l.take i) : Nat) : Int) = T := ⟨_, rfl⟩
        have htr : 0 ≤ T ∧ T ≤ 1000000000000000 := by omega
        have HC := Lib.hid hc
        rw [hT] at HN ⊢
        clear hc hsn htl ht hF hT hb255
        go_wp2_with fail
        refine ⟨⟨i + 1, i + 1, by omega, by go_num, by go_num, ?_, Nat.le_refl _, ?_, Or.inr ⟨by omega, by rw [Nat.add_sub_cancel]; exact HC.out⟩, by first | trivial | rfl⟩, by simp [intOf]; omega⟩
        · rw [← HN.out]
        · rw [List.drop_eq_nil_of_le (by rw [List.length_take]; omega)]; rfl
      · have hne : ((l.getD i 0).toNat : Int) ≠ 10 := by
          intro e
          apply hc
          have : (l.getD i 0).toNat = 10 := by omega
          exact UInt8.toNat.inj this
        obtain ⟨c, hcc⟩ : ∃ c : Int, ((l.getD i 0).toNat : Int) = c := ⟨_, rfl⟩
        rw [hcc] at hix hne
        have t1 : (c == 10) = false := by rw [beq_eq_false_iff_ne]; exact hne
        rw [if_neg hc, Nat.add_zero] at hsn
        have HN := Lib.hid hsn
        have HT := Lib.hid (show tens ((l.take (i + 1)).drop F) = 0 by
          have e1 := tens_app ((l.take i).take F) ((l.take i).drop F)
          have e2 := tens_app ((l.take (i + 1)).take F) ((l.take (i + 1)).drop F)
          rw [List.take_append_drop] at e1 e2
          rw [List.take_take, Nat.min_eq_left (by omega)] at e1 e2
          omega)
        have HF := Lib.hid hF
        clear hc hsn htl ht hF hcc hb255
        go_wp2_with fail
        exact ⟨⟨i + 1, F, by omega, by go_num, rfl, by rw [HN.out]; rfl, by omega, HT.out, HF.out, by first | trivial | rfl⟩, by simp [intOf]; omega⟩
    · have hie : i = k := by omega
      subst hie
      have e1 : l.take i = l := List.take_of_length_le (by rw [HLL.out]; exact Nat.le_refl _)
      rw [e1] at ht ⊢
      have t0 : decide (i < i) = false := by simp
      have HC := Lib.hid (col_of HG.out (by rw [HLL.out]; exact hFi) ht hF)
      have HLN := Lib.hid (show ((1 + tens l : Nat) : Int) = (place l).1 by unfold place; rw [pl_line _ _ _ _ (Nat.le_refl _)])
      obtain ⟨LN, hLN⟩ : ∃ T : Int, ((1 + tens l : Nat) : Int) = T := ⟨_, rfl⟩
      rw [hLN] at HLN ⊢
      obtain ⟨t, hte⟩ : ∃ t, s.extract 0 i = t := ⟨_, rfl⟩
      have htd : t.data.toList = l := by rw [← hte, Lib.extract_data, List.drop_zero, Nat.sub_zero]; exact HL.out
      have hts : t.size = i := by rw [Lib.size_eq, htd]; exact HLL.out
      have HTD := Lib.hid htd
      have HT := Lib.hid ht
      clear ht hF hLN htd e1
      go_wp2_with fail
      have HB1 := Lib.hid (Below.refl wr.heap.size wr)
      go_loopw [6, 8] (fun fr col wx => ∃ p c : Nat, p ≤ i ∧ fr = .int .i64 p ∧ col = .int .i64 c ∧ c ≤ p + 1 ∧ Hid (tens (l.drop p) = 0 ∧ (pl (l.drop p).length (l.drop p) 1 c).2 = (place l).2) ∧ Below wr.heap.size wr wx) (fun fr _ _ => i - (intOf fr).toNat)
      case atStart => exact ⟨F, 1, hFi, rfl, rfl, by omega, ⟨HT.out, HC.out⟩, Below.refl _ _⟩
      case round =>
        obtain ⟨p, c, hp, rfl, rfl, hcp, hpl, hb⟩ := hrel
        by_cases hlt : p < i
        · have u0 : decide (p < i) = true := by rw [decide_eq_true_iff]; exact hlt
          have hli : l.length = i := HLL.out
          have hne : l.drop p ≠ [] := by
            intro e
            have := congrArg List.length e
            rw [List.length_drop, hli] at this
            simp at this
            omega
          have hl2 : (l.drop p).length = i - p := by rw [List.length_drop, hli]
          have hw := Lib.decodeL_width (l.drop p)
          have hle := Lib.decodeL_le (l.drop p) hne
          have hts2 := tens_step (l.drop p) hne
          have hta := tens_app ((l.drop p).take (Lib.decodeL (l.drop p)).2) ((l.drop p).drop (Lib.decodeL (l.drop p)).2)
          rw [List.take_append_drop, hpl.out.1] at hta
          have hn10 : (Lib.decodeL (l.drop p)).1 ≠ 10 := by
            intro e
            rw [if_pos e] at hts2
            omega
          have hstep := pl_step (l.drop p).length (l.drop p) 1 c hne (Nat.le_refl _)
          rw [if_neg hn10, pl_fuel (l.drop p).length ((l.drop p).drop (Lib.decodeL (l.drop p)).2).length _ _ _ (by rw [List.length_drop]; omega) (Nat.le_refl _)] at hstep
          rw [List.drop_drop] at hstep hta
          rw [hl2] at hle
          have HNX := Lib.hid (show tens (l.drop (p + (Lib.decodeL (l.drop p)).2)) = 0 ∧ (pl (l.drop (p + (Lib.decodeL (l.drop p)).2)).length (l.drop (p + (Lib.decodeL (l.drop p)).2)) 1 (c + 1)).2 = (place l).2 from ⟨by omega, by rw [← hstep]; exact hpl.out.2⟩)
          have C := refDecode_in t p wr (by omega) (by omega : p < t.size)
          rw [HTD.out] at C
          have HB := Lib.hid hb
          by_cases hd : Lib.decodeL (l.drop p) = (65533, 1)
          · rw [decT_bad hd] at C
            rw [hd] at HNX
            replace C := Lib.hid C
            clear hne hl2 hw hle hts2 hta hn10 hstep hd hb hpl
            go_wp2_with fail
            refine C.out.mono ?_
            rintro e w4 ⟨rfl, b4⟩
            have HB4 := Lib.hid (HB.out.trans (b4.mono HB.out.size))
            clear b4
            go_wp2_with fail
            exact ⟨⟨p + 1, c + 1, by omega, by go_num, by go_num, by omega, HNX, HB4.out⟩, by simp [intOf]; omega⟩
          · rw [decT_ok hd] at C
            generalize Lib.decodeL (l.drop p) = d at *
            obtain ⟨r, n⟩ := d
            dsimp only at *
            replace C := Lib.hid C
            clear hne hl2 hts2 hta hn10 hstep hd hb hpl
            go_wp2_with fail
            refine C.out.mono ?_
            rintro e w4 ⟨rfl, b4⟩
            have HB4 := Lib.hid (HB.out.trans (b4.mono HB.out.size))
            clear b4
            go_wp2_with fail
            exact ⟨⟨p + n, c + 1, by omega, by go_num, by go_num, by omega, HNX, HB4.out⟩, by simp [intOf]; omega⟩
        · have u0 : decide (p < i) = false := by rw [decide_eq_false_iff_not]; exact hlt
          have hcol : ((c : Nat) : Int) = (place l).2 := by
            have := hpl.out.2
            rw [List.drop_eq_nil_of_le (by rw [HLL.out]; omega), pl_nil] at this
            omega
          have HCOL := Lib.hid hcol
          have HB := Lib.hid (HB0.out.trans (hb.mono HB0.out.size))
          have HT2 : Three wr w.heap.size 26 (.int .i64 0) (.int .i64 0) (.int .i64 0) := (hb.block _ HT0.out.lt).trans HT0.out
          have d0 := HT2.cell0
          have d1 := HT2.cell1
          have d2 := HT2.cell2
          have f0 := HT2.free 0
          have f1 := HT2.free 1
          have f2 := HT2.free 2
          have hF := Lib.hid (((HT2.set0 (.int .i64 i)).set1 (.int .i64 LN)).set2 (.int .i64 c))
          clear hb hpl hcol HT2
          go_wp2_with fail
          refine bodyPost_ret (v := .agg #[.int .i64 i, .int .i64 LN, .int .i64 c]) ?_ rfl ⟨ret_eq (by rw [HLN.out, HCOL.out]), ?_⟩
          · have g0 := hF.out.cell0
            have g1 := hF.out.cell1
            have g2 := hF.out.cell2
            clear d0 d1 d2
            simp [results, Tryd.results20, go_sem, g0, g1, g2]
          · exact ((HB.out.setCell (by simp) _).setCell (by simp) _).setCell (by simp) _
end Go.Proofs.YtokpknjmcegkaaaDoor
namespace Go.Proofs.YtokpknjmcegkaaaDoor
open Go Go.RowKit Ru
set_option maxRecDepth 100000

theorem hex_all : ∀ (l : List UInt8) (acc n : Nat), hexN acc l = some n → ∀ b ∈ l, ∃ d, hexv b = some d
  | [], _, _, _, b, hb => by simp at hb
  | c :: l, acc, n, h, b, hb => by
    cases hv : hexv c with
    | none => rw [hexN_none hv] at h; cases h
    | some d =>
      rw [hexN_some hv] at h
      rcases List.mem_cons.1 hb with rfl | hb
      · exact ⟨d, hv⟩
      · exact hex_all l _ n h b hb
theorem hex125 : hexv 125 = none := by decide
theorem split_take {m : List UInt8} {j : Nat} (h : j < m.length) : m = m.take j ++ m.getD j 0 :: m.drop (j + 1) := (Sc.split_at m j h).symm
theorem mem_take_getD {m : List UInt8} {i j : Nat} (hi : i < j) (hj : j ≤ m.length) : m.getD i 0 ∈ m.take j := by
  have e0 : m.getD i 0 = (m.take j)[i]'(by rw [List.length_take]; omega) := by simp [List.getD, List.getElem?_eq_getElem (show i < m.length by omega)]
  rw [e0]
  exact List.getElem_mem _
/-- Where the digits end, the number by them, or none. -/
theorem num_end {m : List UInt8} {j n : Nat} (hn : hexN 0 (m.take j) = some n) (hj : j ≤ m.length) (hx : j = m.length ∨ hexv (m.getD j 0) = none ∨ j = 7) :
    numV m = if 1 ≤ j ∧ j ≤ 6 ∧ j < m.length ∧ m.getD j 0 = 125 ∧ Go.validRune (n : Int) = true then some (n, j + 4) else none := by
  have hall := hex_all _ _ _ hn
  have hno : ∀ b ∈ m.take j, b ≠ 125 := by
    intro b hb e
    obtain ⟨d, hd⟩ := hall b hb
    rw [e, hex125] at hd
    cases hd
  have hlen : (m.take j).length = j := by rw [List.length_take]; omega
  split
  · rename_i h
    obtain ⟨h1, h2, h3, h4, h5⟩ := h
    have e := split_take h3
    rw [h4] at e
    have hP : hexP (m.take j) = some n := by
      unfold hexP
      rw [if_neg (by intro e; rw [e] at hlen; simp at hlen; omega)]
      exact hn
    have := Sc.numV_of (y := m.drop (j + 1)) hno (by omega) hP h5
    rw [← e, hlen] at this
    exact this
  · rename_i h
    cases hv : numV m with
    | none => rfl
    | some d =>
      exfalso
      obtain ⟨n', k'⟩ := d
      obtain ⟨a, y, h1, h2, h3, h4, h5, h6⟩ := Sc.numV_form hv
      have hane : a ≠ [] := by
        intro e
        rw [e] at h4
        unfold hexP at h4
        rw [if_pos rfl] at h4
        cases h4
      have hal : 1 ≤ a.length := List.length_pos_iff.2 hane
      have h4' : hexN 0 a = some n' := by
        unfold hexP at h4
        rw [if_neg hane] at h4
        exact h4
      have haa := hex_all _ _ _ h4'
      have hml : a.length < m.length := by rw [h1]; simp
      have hat : m.getD a.length 0 = 125 := by rw [h1]; exact getD_app_mid a y 125
      have hta : m.take a.length = a := by rw [h1, List.take_left]
      have hja : j = a.length := by
        rcases Nat.lt_trichotomy j a.length with h0 | h0 | h0
        · exfalso
          have hm := mem_take_getD (m := m) h0 (by omega)
          rw [hta] at hm
          obtain ⟨d, hd⟩ := haa _ hm
          rcases hx with hx | hx | hx
          · omega
          · rw [hx] at hd; cases hd
          · omega
        · exact h0
        · exfalso
          have hm := mem_take_getD (m := m) h0 hj
          rw [hat] at hm
          exact hno _ hm rfl
      subst hja
      rw [hta, h4'] at hn
      injection hn with hn
      subst hn
      exact h ⟨hal, h3, hml, hat, h5⟩
theorem hex_step {m : List UInt8} {j n d : Nat} (hn : hexN 0 (m.take j) = some n) (hj : j < m.length) (hd : hexv (m.getD j 0) = some d) : hexN 0 (m.take (j + 1)) = some (16 * n + d) := by
  have e0 : m.getD j 0 = m[j] := by simp [List.getD, List.getElem?_eq_getElem hj]
  rw [List.take_succ_eq_append_getElem hj, hexN_append _ _ _ _ hn, ← e0, hexN_some hd]
  rfl
/-- Which escapes there are. -/
theorem escL_short {l : List UInt8} (h : l.length < 2) : escL l = none := by
  unfold escL
  rw [if_neg ?_, if_pos h]
  intro hp
  have := Sc.prefix_len hp
  simp only [List.length_cons, List.length_nil] at this
  omega
theorem escL_not0 {l : List UInt8} (h : l.getD 0 0 ≠ 92) : escL l = none := by
  cases l with
  | nil => exact Sc.escL_nil
  | cons c r => exact Sc.escL_not _ h
theorem escL_two {l : List UInt8} (h : 2 ≤ l.length) (h0 : l.getD 0 0 = 92) (hu : l.getD 1 0 ≠ 117) : escL l = if unsign (l.getD 1 0) = 0 then none else some (unsign (l.getD 1 0), 2) := by
  unfold escL
  rw [if_neg ?_, if_neg (by omega), if_pos h0]
  intro hp
  obtain ⟨r, rfl⟩ := Sc.prefix_app hp
  exact hu rfl
theorem escL_u {l : List UInt8} (h : 2 ≤ l.length) (h0 : l.getD 0 0 = 92) (hu : l.getD 1 0 = 117) (hn : ¬ (2 < l.length ∧ l.getD 2 0 = 123)) : escL l = none := by
  unfold escL
  rw [if_neg ?_, if_neg (by omega), if_pos h0, hu, if_pos (by decide)]
  intro hp
  have := Sc.prefix_len hp
  obtain ⟨r, rfl⟩ := Sc.prefix_app hp
  exact hn ⟨this, rfl⟩
theorem escL_n {l : List UInt8} (h : 2 < l.length) (h0 : l.getD 0 0 = 92) (hu : l.getD 1 0 = 117) (hn : l.getD 2 0 = 123) : escL l = numV (l.drop 3) := by
  unfold escL
  rw [if_pos ?_]
  match l, h with
  | a :: b :: c :: r, _ =>
    have h0 : a = 92 := h0
    have hu : b = 117 := hu
    have hn : c = 123 := hn
    subst h0 hu hn
    exact Sc.prefix_of [92, 117, 123] r
theorem ownZ_iff (c : UInt8) : ownZ (c.toNat : Int) = true → unsign c = c.toNat ∧ unsign c ≠ 0 ∧ c ≠ 117 := by
  have key : ∀ k : Fin 256, ownZ ((UInt8.ofNat k.val).toNat : Int) = true → unsign (UInt8.ofNat k.val) = (UInt8.ofNat k.val).toNat ∧ unsign (UInt8.ofNat k.val) ≠ 0 ∧ UInt8.ofNat k.val ≠ 117 := by decide +kernel
  have h := key ⟨c.toNat, c.toNat_lt⟩
  dsimp only at h
  rw [UInt8.ofNat_toNat] at h
  exact h
theorem unsign_other (c : UInt8) : ownZ (c.toNat : Int) = false → c ≠ 110 → c ≠ 114 → c ≠ 116 → unsign c = 0 := by
  have key : ∀ k : Fin 256, ownZ ((UInt8.ofNat k.val).toNat : Int) = false → UInt8.ofNat k.val ≠ 110 → UInt8.ofNat k.val ≠ 114 → UInt8.ofNat k.val ≠ 116 → unsign (UInt8.ofNat k.val) = 0 := by decide +kernel
  have h := key ⟨c.toNat, c.toNat_lt⟩
  dsimp only at h
  rw [UInt8.ofNat_toNat] at h
  exact h
end Go.Proofs.YtokpknjmcegkaaaDoor
namespace Go.Proofs.YtokpknjmcegkaaaDoor
open Go Go.RowKit Ru
set_option maxRecDepth 100000

theorem refEsc_short (s : ByteArray) (k : Nat) (w : World) (hs : s.size ≤ 140737488355328) (hk : k ≤ s.size) (h : s.size ≤ k + 1) :
    Calls Tryd.prog 58 #[.string s, .int .i64 k] w fun e w' => e = .returned (escT none) ∧ w = w' := by
  have d0 : decide ((s.size : Int) - 1 ≤ (k : Int)) = true := by rw [decide_eq_true_iff]; omega
  have d1 : (s.size : Int) - 1 ≤ (k : Int) := by omega
  have q1 : IntKind.i64.wrap ((s.size : Int) - 1) = (s.size : Int) - 1 := IntWalk.i64_in _ (by omega)
  go_enter Tryd.func58, Tryd.ntmps58
  go_wp2
  go_ret3
  exact ⟨rfl, rfl⟩
theorem refEsc_not (s : ByteArray) (k : Nat) (w : World) (hs : s.size ≤ 140737488355328) (h : k + 1 < s.size) (h0 : s.data.toList.getD k 0 ≠ 92) :
    Calls Tryd.prog 58 #[.string s, .int .i64 k] w fun e w' => e = .returned (escT none) ∧ w = w' := by
  have d0 : decide ((s.size : Int) - 1 ≤ (k : Int)) = false := by rw [decide_eq_false_iff_not]; omega
  have d1 : ¬ (s.size : Int) - 1 ≤ (k : Int) := by omega
  have q1 : IntKind.i64.wrap ((s.size : Int) - 1) = (s.size : Int) - 1 := IntWalk.i64_in _ (by omega)
  obtain ⟨c, hc⟩ : ∃ c : Int, ((s.data.toList.getD k 0).toNat : Int) = c := ⟨_, rfl⟩
  have hix := fun wx => byte_at s k (by omega) c hc.symm wx
  have hne : (c == 92) = false := by
    rw [beq_eq_false_iff_ne]
    intro e
    apply h0
    have : (s.data.toList.getD k 0).toNat = 92 := by omega
    exact UInt8.toNat.inj this
  have hne2 : (c != 92) = true := by rw [bne_iff_ne]; exact beq_eq_false_iff_ne.1 hne
  have hne3 : ¬ c = 92 := beq_eq_false_iff_ne.1 hne
  clear h0 hc
  go_enter Tryd.func58, Tryd.ntmps58
  go_wp2
  go_ret3
  exact ⟨rfl, rfl⟩
theorem index_next (s : ByteArray) (k i : Nat) (h : k + i < s.size) (c : Int) (hc : c = ((s.data.toList.getD (k + i) 0).toNat : Int)) (wx : World) : (Instr.index 9 (.string s) (.int .i64 ((k : Int) + (i : Int)))).run Tryd.prog wx = .ok (.int .u8 c) wx := by
  have := byte_at s (k + i) h c hc wx
  rwa [Int.natCast_add] at this
theorem ne_byte {b : UInt8} {n : Nat} (_hn : n < 256) (h : b ≠ UInt8.ofNat n) : (b.toNat : Int) ≠ (n : Int) := by
  intro e
  apply h
  rw [← (show b.toNat = n by omega), UInt8.ofNat_toNat]
theorem refEsc_two (s : ByteArray) (k : Nat) (w : World) (hs : s.size ≤ 140737488355328) (h : k + 1 < s.size) (h0 : s.data.toList.getD k 0 = 92) (h1 : s.data.toList.getD (k + 1) 0 ≠ 117) :
    Calls Tryd.prog 58 #[.string s, .int .i64 k] w fun e w' => e = .returned (escT (escL (s.data.toList.drop k))) ∧ w = w' := by
  have d0 : decide ((s.size : Int) - 1 ≤ (k : Int)) = false := by rw [decide_eq_false_iff_not]; omega
  have d1 : ¬ (s.size : Int) - 1 ≤ (k : Int) := by omega
  have q1 : IntKind.i64.wrap ((s.size : Int) - 1) = (s.size : Int) - 1 := IntWalk.i64_in _ (by omega)
  have q2 : IntKind.i64.wrap ((k : Int) + 1) = (k : Int) + 1 := IntWalk.i64_in _ (by omega)
  have hesc := escL_two (l := s.data.toList.drop k) (by rw [List.length_drop, ← Lib.size_eq]; omega) (by rw [Sc.getD_drop]; exact h0) (by rw [Sc.getD_drop]; exact h1)
  rw [Sc.getD_drop] at hesc
  have hix0 := fun wx => byte_at s k (by omega) 92 (by rw [h0]; rfl) wx
  obtain ⟨b, hb⟩ : ∃ b, s.data.toList.getD (k + 1) 0 = b := ⟨_, rfl⟩
  have hix1 := fun wx => index_next s k 1 h (b.toNat : Int) (by rw [hb]) wx
  rw [hb] at h1 hesc
  have hbl := b.toNat_lt
  have CO := Lib.hid (fun w' => ownU_any (b.toNat : Int) w')
  have hown := ownZ_iff b
  have hoth := unsign_other b
  have n3 := ne_byte (b := b) (n := 117) (by decide) h1
  obtain ⟨c, hc⟩ : ∃ c : Int, (b.toNat : Int) = c := ⟨_, rfl⟩
  obtain ⟨O, hO⟩ : ∃ O, ownZ (b.toNat : Int) = O := ⟨_, rfl⟩
  rw [hO] at CO hown hoth
  rw [hc] at CO hix1 n3
  simp only [Int.natCast_one] at hix1
  cases O with
  | true =>
    obtain ⟨e1, e2, _⟩ := hown rfl
    rw [if_neg e2, e1] at hesc
    have HF := Lib.hid (show escT (escL (s.data.toList.drop k)) = .tuple #[.int .i32 c, .int .i64 2, .bool true] by rw [hesc, ← hc]; rfl)
    have q3 : IntKind.i32.wrap c = c := IntWalk.i32_in _ (by omega)
    clear hesc hown hoth e1 e2 hO hb h1 h0
    go_enter Tryd.func58, Tryd.ntmps58
    go_wp2_with (go_at_call 71; refine (CO.out _).mono ?_; rintro e w' ⟨rfl, rfl⟩)
    go_ret3
    exact ⟨ret_eq HF.out.symm, rfl⟩
  | false =>
    by_cases g1 : b = 110
    · have HF := Lib.hid (show escT (escL (s.data.toList.drop k)) = .tuple #[.int .i32 10, .int .i64 2, .bool true] by rw [hesc, g1]; rfl)
      have e : c = 110 := by rw [← hc, g1]; rfl
      clear hesc hown hoth hO hb h1 h0 hc g1
      subst e
      go_enter Tryd.func58, Tryd.ntmps58
      go_wp2_with (go_at_call 71; refine (CO.out _).mono ?_; rintro e w' ⟨rfl, rfl⟩)
      go_ret3
      exact ⟨ret_eq HF.out.symm, rfl⟩
    by_cases g2 : b = 114
    · have HF := Lib.hid (show escT (escL (s.data.toList.drop k)) = .tuple #[.int .i32 13, .int .i64 2, .bool true] by rw [hesc, g2]; rfl)
      have e : c = 114 := by rw [← hc, g2]; rfl
      clear hesc hown hoth hO hb h1 h0 hc g1 g2
      subst e
      go_enter Tryd.func58, Tryd.ntmps58
      go_wp2_with (go_at_call 71; refine (CO.out _).mono ?_; rintro e w' ⟨rfl, rfl⟩)
      go_ret3
      exact ⟨ret_eq HF.out.symm, rfl⟩
    by_cases g3 : b = 116
    · have HF := Lib.hid (show escT (escL (s.data.toList.drop k)) = .tuple #[.int .i32 9, .int .i64 2, .bool true] by rw [hesc, g3]; rfl)
      have e : c = 116 := by rw [← hc, g3]; rfl
      clear hesc hown hoth hO hb h1 h0 hc g1 g2 g3
      subst e
      go_enter Tryd.func58, Tryd.ntmps58
      go_wp2_with (go_at_call 71; refine (CO.out _).mono ?_; rintro e w' ⟨rfl, rfl⟩)
      go_ret3
      exact ⟨ret_eq HF.out.symm, rfl⟩
    have hu := hoth rfl g1 g2 g3
    rw [if_pos hu] at hesc
    rw [hesc]
    have m1 := ne_byte (b := b) (n := 110) (by decide) g1
    have m2 := ne_byte (b := b) (n := 114) (by decide) g2
    have m3 := ne_byte (b := b) (n := 116) (by decide) g3
    rw [hc] at m1 m2 m3
    have t1 : (c == 110) = false := by rw [beq_eq_false_iff_ne]; exact m1
    have t2 : (c == 114) = false := by rw [beq_eq_false_iff_ne]; exact m2
    have t3 : (c == 116) = false := by rw [beq_eq_false_iff_ne]; exact m3
    have t4 : (c == 117) = false := by rw [beq_eq_false_iff_ne]; exact n3
    clear hesc hown hoth hO hb h1 h0 hc g1 g2 g3 hu m1 m2 m3 n3
    go_enter Tryd.func58, Tryd.ntmps58
    go_wp2_with (go_at_call 71; refine (CO.out _).mono ?_; rintro e w' ⟨rfl, rfl⟩)
    go_ret3
    exact ⟨rfl, rfl⟩
theorem refEsc_u (s : ByteArray) (k : Nat) (w : World) (hs : s.size ≤ 140737488355328) (h : k + 1 < s.size) (h0 : s.data.toList.getD k 0 = 92) (h1 : s.data.toList.getD (k + 1) 0 = 117) (h2 : ¬ (k + 2 < s.size ∧ s.data.toList.getD (k + 2) 0 = 123)) :
    Calls Tryd.prog 58 #[.string s, .int .i64 k] w fun e w' => e = .returned (escT none) ∧ w = w' := by
  have d0 : decide ((s.size : Int) - 1 ≤ (k : Int)) = false := by rw [decide_eq_false_iff_not]; omega
  have d1 : ¬ (s.size : Int) - 1 ≤ (k : Int) := by omega
  have q1 : IntKind.i64.wrap ((s.size : Int) - 1) = (s.size : Int) - 1 := IntWalk.i64_in _ (by omega)
  have q2 : IntKind.i64.wrap ((k : Int) + 1) = (k : Int) + 1 := IntWalk.i64_in _ (by omega)
  have q3 : IntKind.i64.wrap ((k : Int) + 2) = (k : Int) + 2 := IntWalk.i64_in _ (by omega)
  have hix0 := fun wx => byte_at s k (by omega) 92 (by rw [h0]; rfl) wx
  have hix1 := fun wx => index_next s k 1 h 117 (by rw [h1]; rfl) wx
  simp only [Int.natCast_one] at hix1
  have CO := fun w' => ownU_any 117 w'
  rw [show ownZ 117 = false by decide] at CO
  replace CO := Lib.hid CO
  by_cases h3 : k + 2 < s.size
  · have t0 : decide ((s.size : Int) ≤ (k : Int) + 2) = false := by rw [decide_eq_false_iff_not]; omega
    have t1 : ¬ (s.size : Int) ≤ (k : Int) + 2 := by omega
    have h4 : s.data.toList.getD (k + 2) 0 ≠ 123 := fun e => h2 ⟨h3, e⟩
    obtain ⟨b, hb⟩ : ∃ b, s.data.toList.getD (k + 2) 0 = b := ⟨_, rfl⟩
    have hix2 := fun wx => index_next s k 2 h3 (b.toNat : Int) (by rw [hb]) wx
    rw [hb] at h4
    have n3 := ne_byte (b := b) (n := 123) (by decide) h4
    obtain ⟨c, hc⟩ : ∃ c : Int, (b.toNat : Int) = c := ⟨_, rfl⟩
    rw [hc] at hix2 n3
    have m1 : (c == 123) = false := by rw [beq_eq_false_iff_ne]; exact n3
    have m2 : (c != 123) = true := by rw [bne_iff_ne]; exact n3
    have m3 : ¬ c = 123 := n3
    simp only [show ((2 : Nat) : Int) = 2 from rfl] at hix2
    clear h2 h4 hb hc n3 h0 h1
    go_enter Tryd.func58, Tryd.ntmps58
    go_wp2_with (go_at_call 71; refine (CO.out _).mono ?_; rintro e w' ⟨rfl, rfl⟩)
    go_ret3
    exact ⟨rfl, rfl⟩
  · have t0 : decide ((s.size : Int) ≤ (k : Int) + 2) = true := by rw [decide_eq_true_iff]; omega
    have t1 : (s.size : Int) ≤ (k : Int) + 2 := by omega
    clear h2 h0 h1
    go_enter Tryd.func58, Tryd.ntmps58
    go_wp2_with (go_at_call 71; refine (CO.out _).mono ?_; rintro e w' ⟨rfl, rfl⟩)
    go_ret3
    exact ⟨rfl, rfl⟩
set_option maxHeartbeats 4000000 in
theorem refEsc_n (s : ByteArray) (k : Nat) (w : World) (hs : s.size ≤ 140737488355328) (h : k + 2 < s.size) (h0 : s.data.toList.getD k 0 = 92) (h1 : s.data.toList.getD (k + 1) 0 = 117) (h2 : s.data.toList.getD (k + 2) 0 = 123) :
    Calls Tryd.prog 58 #[.string s, .int .i64 k] w fun e w' => e = .returned (escT (escL (s.data.toList.drop k))) ∧ w = w' := by
  have d0 : decide ((s.size : Int) - 1 ≤ (k : Int)) = false := by rw [decide_eq_false_iff_not]; omega
  have d1 : ¬ (s.size : Int) - 1 ≤ (k : Int) := by omega
  have q1 : IntKind.i64.wrap ((s.size : Int) - 1) = (s.size : Int) - 1 := IntWalk.i64_in _ (by omega)
  have q2 : IntKind.i64.wrap ((k : Int) + 1) = (k : Int) + 1 := IntWalk.i64_in _ (by omega)
  have q3 : IntKind.i64.wrap ((k : Int) + 2) = (k : Int) + 2 := IntWalk.i64_in _ (by omega)
  have q4 : IntKind.i64.wrap ((k : Int) + 3) = (k : Int) + 3 := IntWalk.i64_in _ (by omega)
  have hix0 := fun wx => byte_at s k (by omega) 92 (by rw [h0]; rfl) wx
  have hix1 := fun wx => index_next s k 1 (by omega) 117 (by rw [h1]; rfl) wx
  have hix2 := fun wx => index_next s k 2 h 123 (by rw [h2]; rfl) wx
  simp only [Int.natCast_one] at hix1
  simp only [show ((2 : Nat) : Int) = 2 from rfl] at hix2
  have CO := fun w' => ownU_any 117 w'
  rw [show ownZ 117 = false by decide] at CO
  replace CO := Lib.hid CO
  have t0 : decide ((s.size : Int) ≤ (k : Int) + 2) = false := by rw [decide_eq_false_iff_not]; omega
  have t1 : ¬ (s.size : Int) ≤ (k : Int) + 2 := by omega
  have hesc := escL_n (l := s.data.toList.drop k) (by rw [List.length_drop, ← Lib.size_eq]; omega) (by rw [Sc.getD_drop]; exact h0) (by rw [Sc.getD_drop]; exact h1) (by rw [Sc.getD_drop]; exact h2)
  rw [List.drop_drop] at hesc
  obtain ⟨m, hm⟩ : ∃ m, s.data.toList.drop (k + 3) = m := ⟨_, rfl⟩
  have hml : m.length = s.size - (k + 3) := by rw [← hm, List.length_drop, ← Lib.size_eq]
  have hmd : ∀ j, s.data.toList.getD (k + 3 + j) 0 = m.getD j 0 := fun j => by rw [← hm, Sc.getD_drop]
  rw [hm] at hesc
  rw [hesc]
  have HML := Lib.hid hml
  have HMD := Lib.hid hmd
  have h3 : k + 3 ≤ s.size := by omega
  clear hesc hm hml hmd h0 h1 h2
  go_enter Tryd.func58, Tryd.ntmps58
  go_wp2_with (go_at_call 71; refine (CO.out _).mono ?_; rintro e w' ⟨rfl, rfl⟩)
  clear hix0 hix1 hix2 CO
  go_loopw [8, 9, 10] (fun n mn i wx => ∃ j nn : Nat, j ≤ 7 ∧ k + 3 + j ≤ s.size ∧ n = .int .i64 nn ∧ mn = .int .i64 j ∧ i = .int .i64 ((k + 3 + j : Nat) : Int) ∧ Hid (hexN 0 (m.take j) = some nn) ∧ wx = w) (fun _ mn _ _ => 7 - (intOf mn).toNat)
  case atStart => exact ⟨0, 0, by omega, by omega, rfl, rfl, by go_num, rfl, rfl⟩
  case round =>
    obtain ⟨j, nn, hj7, hjs, rfl, rfl, rfl, hx, rfl⟩ := hrel
    have hnb : nn < 16 ^ 7 := by
      have := hexN_bound (m.take j) 0 nn 0 (by omega) hx.out
      have hl : (m.take j).length ≤ 7 := by rw [List.length_take]; omega
      exact Nat.lt_of_lt_of_le this (Nat.pow_le_pow_right (by omega) (by omega))
    by_cases hlt : k + 3 + j < s.size
    · obtain ⟨I, hI⟩ : ∃ I : Int, ((k + 3 + j : Nat) : Int) = I := ⟨_, rfl⟩
      have hix := fun wx => byte_at s (k + 3 + j) hlt _ rfl wx
      rw [HMD.out j, hI] at hix
      have CD := Lib.hid (fun w' => refHexd_any (m.getD j 0) w')
      have u0 : decide (I < (s.size : Int)) = true := by rw [decide_eq_true_iff]; omega
      have u1 : I < (s.size : Int) := by omega
      have v0 : decide ((s.size : Int) ≤ I) = false := by rw [decide_eq_false_iff_not]; omega
      have v1 : ¬ (s.size : Int) ≤ I := by omega
      have i0 : 0 ≤ I := by omega
      obtain ⟨c, hc⟩ : ∃ c : Int, ((m.getD j 0).toNat : Int) = c := ⟨_, rfl⟩
      rw [hc] at hix CD
      cases hd : hexv (m.getD j 0) with
      | some d =>
        have hlt16 := hexv_lt _ _ hd
        have eh : hexI (m.getD j 0) = (d : Int) := by unfold hexI; rw [hd]
        rw [eh] at CD
        by_cases h7 : j < 7
        · have HS := Lib.hid (hex_step hx.out (by rw [HML.out]; omega) hd)
          have u3 : decide (j < 7) = true := by rw [decide_eq_true_iff]; exact h7
          have w1 : IntKind.i64.wrap (16 * (nn : Int)) = 16 * (nn : Int) := IntWalk.i64_in _ (by omega)
          have w2 : IntKind.i64.wrap (16 * (nn : Int) + (d : Int)) = 16 * (nn : Int) + (d : Int) := IntWalk.i64_in _ (by omega)
          have w3 : IntKind.i64.wrap (I + 1) = I + 1 := IntWalk.i64_in _ (by omega)
          have HI := Lib.hid hI
          rw [hI]
          clear hx hd eh hc hI hnb
          go_wp2_with (go_at_call 72; refine (CD.out _).mono ?_; rintro e w' ⟨rfl, rfl⟩)
          refine ⟨⟨j + 1, 16 * nn + d, by omega, by omega, by go_num, by go_num, ?_, HS, by first | trivial | rfl⟩, by simp [intOf]; omega⟩
          have := HI.out
          first
          | (congr 1; omega)
          | (apply congrArg (Value.int IntKind.i64); omega)
        · have hj : j = 7 := by omega
          subst hj
          have hne := num_end hx.out (by rw [HML.out]; omega) (Or.inr (Or.inr rfl))
          rw [if_neg (by omega)] at hne
          have HF := Lib.hid hne
          have u3 : decide ((7 : Nat) < 7) = false := by decide
          rw [hI]
          clear hx hd eh hc hI hnb hne
          go_wp2_with (go_at_call 72; refine (CD.out _).mono ?_; rintro e w' ⟨rfl, rfl⟩)
          go_ret3
          exact ⟨ret_eq (by rw [HF.out]; rfl), rfl⟩
      | none =>
        have eh : hexI (m.getD j 0) = -1 := by unfold hexI; rw [hd]
        rw [eh] at CD
        have hne := num_end hx.out (by rw [HML.out]; omega) (Or.inr (Or.inl hd))
        by_cases hok : 1 ≤ j ∧ j ≤ 6 ∧ m.getD j 0 = 125
        · obtain ⟨o1, o2, o3⟩ := hok
          have hn16 : nn < 16 ^ 6 := by
            have := hexN_bound (m.take j) 0 nn 0 (by omega) hx.out
            have hl : (m.take j).length ≤ 6 := by rw [List.length_take]; omega
            exact Nat.lt_of_lt_of_le this (Nat.pow_le_pow_right (by omega) (by omega))
          have ec : c = 125 := by rw [← hc, o3]; rfl
          have s1 : decide (j < 1) = false := by rw [decide_eq_false_iff_not]; omega
          have s2 : decide (6 < j) = false := by rw [decide_eq_false_iff_not]; omega
          have w4 : IntKind.i32.wrap (nn : Int) = (nn : Int) := IntWalk.i32_in _ (by omega)
          subst ec
          cases hv : Go.validRune (nn : Int) with
          | true =>
            have CI := Lib.hid (fun w' => refIs_yes (nn : Int) w' hv)
            rw [if_pos ⟨o1, o2, by rw [HML.out]; omega, o3, hv⟩] at hne
            have HF := Lib.hid (show escT (numV m) = .tuple #[.int .i32 (nn : Int), .int .i64 ((j + 4 : Nat) : Int), .bool true] by rw [hne]; rfl)
            have w5 : IntKind.i64.wrap (I + 1) = I + 1 := IntWalk.i64_in _ (by omega)
            have w6 : IntKind.i64.wrap (I + 1 - (k : Int)) = ((j + 4 : Nat) : Int) := by rw [IntWalk.i64_in _ (by omega)]; omega
            obtain ⟨J4, hJ4⟩ : ∃ J4 : Int, ((j + 4 : Nat) : Int) = J4 := ⟨_, rfl⟩
            rw [hJ4] at HF w6
            rw [hI]
            clear hx hd eh hc hI hnb hne hv hJ4 hn16 o3
            go_wp2_with (first | (go_at_call 72; refine (CD.out _).mono ?_; rintro e w' ⟨rfl, rfl⟩) | (go_at_call 59; refine (CI.out _).mono ?_; rintro e w' ⟨rfl, rfl⟩))
            go_ret3
            exact ⟨ret_eq HF.out.symm, rfl⟩
          | false =>
            have CI := Lib.hid (fun w' => refIs_no (nn : Int) w' hv)
            rw [if_neg (by rw [hv]; simp)] at hne
            have HF := Lib.hid hne
            rw [hI]
            clear hx hd eh hc hI hnb hne hv hn16 o3
            go_wp2_with (first | (go_at_call 72; refine (CD.out _).mono ?_; rintro e w' ⟨rfl, rfl⟩) | (go_at_call 59; refine (CI.out _).mono ?_; rintro e w' ⟨rfl, rfl⟩))
            go_ret3
            exact ⟨ret_eq (by rw [HF.out]; rfl), rfl⟩
        · rw [if_neg (fun hh => hok ⟨hh.1, hh.2.1, hh.2.2.2.1⟩)] at hne
          have HF := Lib.hid hne
          have hcc : m.getD j 0 ≠ 125 → c ≠ 125 := fun hh => by have := ne_byte (b := m.getD j 0) (n := 125) (by decide) hh; omega
          rw [hI]
          rcases (show j < 1 ∨ (1 ≤ j ∧ 6 < j) ∨ (1 ≤ j ∧ j ≤ 6 ∧ m.getD j 0 ≠ 125) by
            by_cases h1 : j < 1
            · exact Or.inl h1
            · by_cases h2 : 6 < j
              · exact Or.inr (Or.inl ⟨by omega, h2⟩)
              · exact Or.inr (Or.inr ⟨by omega, by omega, fun e => hok ⟨by omega, by omega, e⟩⟩)) with g | ⟨g1, g2⟩ | ⟨g1, g2, g3⟩
          · have s1 : decide (j < 1) = true := by rw [decide_eq_true_iff]; omega
            clear hx hd eh hc hI hnb hne hcc hok
            go_wp2_with (go_at_call 72; refine (CD.out _).mono ?_; rintro e w' ⟨rfl, rfl⟩)
            go_ret3
            exact ⟨ret_eq (by rw [HF.out]; rfl), rfl⟩
          · have s1 : decide (j < 1) = false := by rw [decide_eq_false_iff_not]; omega
            have s2 : decide (6 < j) = true := by rw [decide_eq_true_iff]; omega
            clear hx hd eh hc hI hnb hne hcc hok
            go_wp2_with (go_at_call 72; refine (CD.out _).mono ?_; rintro e w' ⟨rfl, rfl⟩)
            go_ret3
            exact ⟨ret_eq (by rw [HF.out]; rfl), rfl⟩
          · have s1 : decide (j < 1) = false := by rw [decide_eq_false_iff_not]; omega
            have s2 : decide (6 < j) = false := by rw [decide_eq_false_iff_not]; omega
            have s3 : (c == 125) = false := by rw [beq_eq_false_iff_ne]; exact hcc g3
            have s4 : (c != 125) = true := by rw [bne_iff_ne]; exact hcc g3
            have s5 : ¬ c = 125 := hcc g3
            clear hx hd eh hc hI hnb hne hcc hok g3
            go_wp2_with (go_at_call 72; refine (CD.out _).mono ?_; rintro e w' ⟨rfl, rfl⟩)
            go_ret3
            exact ⟨ret_eq (by rw [HF.out]; rfl), rfl⟩
    · obtain ⟨I, hI⟩ : ∃ I : Int, ((k + 3 + j : Nat) : Int) = I := ⟨_, rfl⟩
      have u0 : decide (I < (s.size : Int)) = false := by rw [decide_eq_false_iff_not]; omega
      have u1 : ¬ I < (s.size : Int) := by omega
      have v0 : decide ((s.size : Int) ≤ I) = true := by rw [decide_eq_true_iff]; omega
      have v1 : (s.size : Int) ≤ I := by omega
      have hne := num_end hx.out (by rw [HML.out]; omega) (Or.inl (by rw [HML.out]; omega))
      rw [if_neg (by rw [HML.out]; omega)] at hne
      have HF := Lib.hid hne
      rw [hI]
      clear hx hI hnb hne
      rcases (show j < 1 ∨ (1 ≤ j ∧ 6 < j) ∨ (1 ≤ j ∧ j ≤ 6) by omega) with g | ⟨g1, g2⟩ | ⟨g1, g2⟩
      · have s1 : decide (j < 1) = true := by rw [decide_eq_true_iff]; omega
        go_wp2_with fail
        go_ret3
        exact ⟨ret_eq (by rw [HF.out]; rfl), rfl⟩
      · have s1 : decide (j < 1) = false := by rw [decide_eq_false_iff_not]; omega
        have s2 : decide (6 < j) = true := by rw [decide_eq_true_iff]; omega
        go_wp2_with fail
        go_ret3
        exact ⟨ret_eq (by rw [HF.out]; rfl), rfl⟩
      · have s1 : decide (j < 1) = false := by rw [decide_eq_false_iff_not]; omega
        have s2 : decide (6 < j) = false := by rw [decide_eq_false_iff_not]; omega
        go_wp2_with fail
        go_ret3
        exact ⟨ret_eq (by rw [HF.out]; rfl), rfl⟩
theorem refEscape_any (s : ByteArray) (k : Nat) (w : World) (hs : s.size ≤ 140737488355328) (hk : k ≤ s.size) :
    Calls Tryd.prog 58 #[.string s, .int .i64 k] w fun e w' => e = .returned (escT (escL (s.data.toList.drop k))) ∧ w = w' := by
  have hlen : (s.data.toList.drop k).length = s.size - k := by rw [List.length_drop, ← Lib.size_eq]
  by_cases h1 : s.size ≤ k + 1
  · rw [escL_short (by omega)]
    exact refEsc_short s k w hs hk h1
  by_cases h0 : s.data.toList.getD k 0 = 92
  · by_cases hu : s.data.toList.getD (k + 1) 0 = 117
    · by_cases h2 : k + 2 < s.size ∧ s.data.toList.getD (k + 2) 0 = 123
      · exact refEsc_n s k w hs h2.1 h0 hu h2.2
      · rw [escL_u (by omega) (by rw [Sc.getD_drop]; exact h0) (by rw [Sc.getD_drop]; exact hu) (by
          rw [Sc.getD_drop]
          intro hh
          exact h2 ⟨by omega, hh.2⟩)]
        exact refEsc_u s k w hs (by omega) h0 hu h2
    · exact refEsc_two s k w hs (by omega) h0 hu
  · rw [escL_not0 (by rw [Sc.getD_drop]; exact h0)]
    exact refEsc_not s k w hs (by omega) h0
end Go.Proofs.YtokpknjmcegkaaaDoor
namespace Go.Proofs.YtokpknjmcegkaaaDoor
open Go Go.RowKit Ru
set_option maxRecDepth 100000

/-- What one answers, of what is read at k. -/
def onT (o : Option (Nat × Nat)) (k : Nat) : Value := match o with
  | some (r, n) => .tuple #[.int .i32 r, .int .i64 ((k + n : Nat) : Int)]
  | none => .tuple #[.int .i32 0, .int .i64 (-1)]
def noL (b : Bool) : List Nat := if b then Sc.notSet else Sc.notText
theorem refOne_esc (s : ByteArray) (k : Nat) (b : Bool) (w : World) (hs : s.size ≤ 140737488355328) (hk : k ≤ s.size) (r n : Nat) (he : escL (s.data.toList.drop k) = some (r, n)) :
    Calls Tryd.prog 42 #[.string s, .int .i64 k, .bool b] w fun e w' => e = .returned (onT (some (r, n)) k) ∧ Below w.heap.size w w' := by
  have CE := refEscape_any s k w hs hk
  have hn := (Sc.escL_some he).2.2
  rw [List.length_drop, ← Lib.size_eq] at hn
  rw [he] at CE
  unfold escT at CE
  dsimp only at CE
  replace CE := Lib.hid CE
  have q1 : IntKind.i64.wrap ((k : Int) + (n : Int)) = ((k + n : Nat) : Int) := by rw [IntWalk.i64_in _ (by omega)]; omega
  obtain ⟨K, hK⟩ : ∃ K : Int, ((k + n : Nat) : Int) = K := ⟨_, rfl⟩
  have HF := Lib.hid (show onT (some (r, n)) k = .tuple #[.int .i32 r, .int .i64 K] by rw [← hK]; rfl)
  rw [hK] at q1
  clear he hK
  go_enter Tryd.func42, Tryd.ntmps42
  go_wp2_with (go_at_call 58; refine CE.out.mono ?_; rintro e w' ⟨rfl, rfl⟩)
  go_ret2
  exact ⟨ret_eq HF.out.symm, Below.refl _ _⟩
theorem refOne_bad (s : ByteArray) (k : Nat) (b : Bool) (w : World) (hs : s.size ≤ 140737488355328) (hk : k ≤ s.size) (he : escL (s.data.toList.drop k) = none) (n : Nat)
    (CD : Calls Tryd.prog 41 #[.string s, .int .i64 k] w fun e w' => e = .returned (.tuple #[.int .i32 0, .int .i64 n, .bool false]) ∧ Below w.heap.size w w') :
    Calls Tryd.prog 42 #[.string s, .int .i64 k, .bool b] w fun e w' => e = .returned (onT none k) ∧ Below w.heap.size w w' := by
  have CE := refEscape_any s k w hs hk
  rw [he] at CE
  unfold escT at CE
  dsimp only at CE
  replace CE := Lib.hid CE
  replace CD := Lib.hid CD
  have HF := Lib.hid (show onT none k = .tuple #[.int .i32 0, .int .i64 (-1)] from rfl)
  clear he
  go_enter Tryd.func42, Tryd.ntmps42
  go_wp2_with (first | (go_at_call 58; refine CE.out.mono ?_; rintro e w' ⟨rfl, rfl⟩) | (go_at_call 41; refine CD.out.mono ?_; rintro e w' ⟨rfl, hb⟩))
  go_ret2
  exact ⟨ret_eq HF.out.symm, hb⟩
set_option maxHeartbeats 4000000 in
theorem refOne_dec (s : ByteArray) (k : Nat) (b : Bool) (w : World) (hs : s.size ≤ 140737488355328) (hk : k < s.size) (he : escL (s.data.toList.drop k) = none) (r n : Nat) (hn : k + n ≤ s.size) (hd : decT (Lib.decodeL (s.data.toList.drop k)) = .tuple #[.int .i32 r, .int .i64 n, .bool true]) :
    Calls Tryd.prog 42 #[.string s, .int .i64 k, .bool b] w fun e w' => e = .returned (onT (if r ∈ noL b then none else some (r, n)) k) ∧ Below w.heap.size w w' := by
  have CE := refEscape_any s k w hs (by omega)
  rw [he] at CE
  unfold escT at CE
  dsimp only at CE
  replace CE := Lib.hid CE
  have CD := refDecode_in s k w hs hk
  rw [hd] at CD
  replace CD := Lib.hid CD
  have q1 : IntKind.i64.wrap ((k : Int) + (n : Int)) = ((k + n : Nat) : Int) := by rw [IntWalk.i64_in _ (by omega)]; omega
  obtain ⟨K, hK⟩ : ∃ K : Int, ((k + n : Nat) : Int) = K := ⟨_, rfl⟩
  rw [hK] at q1
  obtain ⟨R, hR⟩ : ∃ R : Int, (r : Int) = R := ⟨_, rfl⟩
  have HN := Lib.hid (show onT none k = .tuple #[.int .i32 0, .int .i64 (-1)] from rfl)
  have HS := Lib.hid (show onT (some (r, n)) k = .tuple #[.int .i32 R, .int .i64 K] by rw [← hK, ← hR]; rfl)
  rw [hR] at CD
  cases b with
  | false =>
    have hin : r ∈ noL false ↔ (R = 10 ∨ R = 92 ∨ R = 39) := by
      show r ∈ [39, 92, 10] ↔ _
      simp only [List.mem_cons, List.not_mem_nil, or_false]
      omega
    by_cases h : R = 10 ∨ R = 92 ∨ R = 39
    · rw [if_pos (hin.2 h)]
      clear hin hK hR he hd
      rcases h with rfl | rfl | rfl
      all_goals
        go_enter Tryd.func42, Tryd.ntmps42
        go_wp2_with (first | (go_at_call 58; refine CE.out.mono ?_; rintro e w' ⟨rfl, rfl⟩) | (go_at_call 41; refine CD.out.mono ?_; rintro e w' ⟨rfl, hb⟩))
        go_ret2
        exact ⟨ret_eq HN.out.symm, hb⟩
    · rw [if_neg (fun hh => h (hin.1 hh))]
      have t1 : (R == 10) = false := by rw [beq_eq_false_iff_ne]; omega
      have t2 : (R == 92) = false := by rw [beq_eq_false_iff_ne]; omega
      have t3 : (R == 39) = false := by rw [beq_eq_false_iff_ne]; omega
      clear hin hK hR he hd h
      go_enter Tryd.func42, Tryd.ntmps42
      go_wp2_with (first | (go_at_call 58; refine CE.out.mono ?_; rintro e w' ⟨rfl, rfl⟩) | (go_at_call 41; refine CD.out.mono ?_; rintro e w' ⟨rfl, hb⟩))
      go_ret2
      exact ⟨ret_eq HS.out.symm, hb⟩
  | true =>
    have hin : r ∈ noL true ↔ (R = 10 ∨ R = 92 ∨ R = 91 ∨ R = 93 ∨ R = 45) := by
      show r ∈ [93, 91, 92, 45, 10] ↔ _
      simp only [List.mem_cons, List.not_mem_nil, or_false]
      omega
    by_cases h : R = 10 ∨ R = 92 ∨ R = 91 ∨ R = 93 ∨ R = 45
    · rw [if_pos (hin.2 h)]
      clear hin hK hR he hd
      rcases h with rfl | rfl | rfl | rfl | rfl
      all_goals
        go_enter Tryd.func42, Tryd.ntmps42
        go_wp2_with (first | (go_at_call 58; refine CE.out.mono ?_; rintro e w' ⟨rfl, rfl⟩) | (go_at_call 41; refine CD.out.mono ?_; rintro e w' ⟨rfl, hb⟩))
        go_ret2
        exact ⟨ret_eq HN.out.symm, hb⟩
    · rw [if_neg (fun hh => h (hin.1 hh))]
      have t1 : (R == 10) = false := by rw [beq_eq_false_iff_ne]; omega
      have t2 : (R == 92) = false := by rw [beq_eq_false_iff_ne]; omega
      have t3 : (R == 91) = false := by rw [beq_eq_false_iff_ne]; omega
      have t4 : (R == 93) = false := by rw [beq_eq_false_iff_ne]; omega
      have t5 : (R == 45) = false := by rw [beq_eq_false_iff_ne]; omega
      clear hin hK hR he hd h
      go_enter Tryd.func42, Tryd.ntmps42
      go_wp2_with (first | (go_at_call 58; refine CE.out.mono ?_; rintro e w' ⟨rfl, rfl⟩) | (go_at_call 41; refine CD.out.mono ?_; rintro e w' ⟨rfl, hb⟩))
      go_ret2
      exact ⟨ret_eq HS.out.symm, hb⟩
theorem refOne_any (s : ByteArray) (k : Nat) (b : Bool) (w : World) (hs : s.size ≤ 140737488355328) (hk : k ≤ s.size) :
    Calls Tryd.prog 42 #[.string s, .int .i64 k, .bool b] w fun e w' => e = .returned (onT (Sc.oneL (noL b) (s.data.toList.drop k)) k) ∧ Below w.heap.size w w' := by
  unfold Sc.oneL
  cases he : escL (s.data.toList.drop k) with
  | some d =>
    obtain ⟨r, n⟩ := d
    exact refOne_esc s k b w hs hk r n he
  | none =>
    dsimp only
    by_cases h0 : s.data.toList.drop k = []
    · rw [if_pos h0]
      have hks : s.size ≤ k := by
        have := congrArg List.length h0
        rw [List.length_drop, ← Lib.size_eq] at this
        simp at this
        omega
      exact refOne_bad s k b w hs hk he 0 ((refDecode_out s k w hks (by omega)).mono fun e w' ⟨h1, h2⟩ => ⟨h1, by rw [h2]; exact Below.refl _ _⟩)
    · rw [if_neg h0]
      have hks : k < s.size := by
        rcases Nat.lt_or_ge k s.size with h | h
        · exact h
        · exact absurd (List.drop_eq_nil_of_le (by rw [← Lib.size_eq]; exact h)) h0
      by_cases hd : Lib.decodeL (s.data.toList.drop k) = (65533, 1)
      · rw [if_pos hd]
        have CD := refDecode_in s k w hs hks
        rw [decT_bad hd] at CD
        exact refOne_bad s k b w hs hk he 1 CD
      · rw [if_neg hd]
        have hle := Lib.decodeL_le _ h0
        rw [List.length_drop, ← Lib.size_eq] at hle
        exact refOne_dec s k b w hs hks he (Lib.decodeL (s.data.toList.drop k)).1 (Lib.decodeL (s.data.toList.drop k)).2 (by omega) (decT_ok hd)
end Go.Proofs.YtokpknjmcegkaaaDoor
namespace Go.Proofs.YtokpknjmcegkaaaDoor
open Go Go.RowKit Ru
set_option maxRecDepth 100000

/-- What text answers, of what is read at k. -/
def textT (r : Sc.WR) (k : Nat) : Value := match r with
  | .ok _ t _ z => .tuple #[.string ⟨t.toArray⟩, .int .i64 ((k + z : Nat) : Int)]
  | .err _ => .tuple #[.string ⟨#[]⟩, .int .i64 (-1)]
theorem utf_ne {r : Nat} (h : Go.validRune (r : Int) = true) : Sc.utf r ≠ [] := by
  have := (encL_len (r : Int) h).1
  intro e
  unfold Sc.utf at e
  rw [e] at this
  simp at this
/-- p bytes of l have been read, as the runes rs. -/
structure RsAt (l : List UInt8) (p : Nat) (rs : List Nat) : Prop where
  le : p ≤ l.length
  len : rs.length ≤ p
  val : ∀ r ∈ rs, Go.validRune (r : Int) = true
  is : Sc.items (Sc.oneL Sc.notText) l.length l = (rs ++ (Sc.items (Sc.oneL Sc.notText) (l.drop p).length (l.drop p)).1, p + (Sc.items (Sc.oneL Sc.notText) (l.drop p).length (l.drop p)).2)
theorem RsAt.start (l : List UInt8) : RsAt l 0 [] := ⟨Nat.zero_le _, Nat.zero_le _, by simp, by rw [List.drop_zero, Nat.zero_add, List.nil_append]⟩
theorem RsAt.step {l : List UInt8} {p : Nat} {rs : List Nat} (h : RsAt l p rs) {r n : Nat} (ho : Sc.oneL Sc.notText (l.drop p) = some (r, n)) : RsAt l (p + n) (rs ++ [r]) := by
  obtain ⟨h1, h2, h3, h4⟩ := h
  obtain ⟨hv, n1, n2⟩ := Sc.oneL_some ho
  rw [List.length_drop] at n2
  have hs : ∀ l a k, Sc.oneL Sc.notText l = some (a, k) → 1 ≤ k ∧ k ≤ l.length := fun l a k h => (Sc.oneL_some h).2
  have e := Sc.items_some (Sc.oneL_nil Sc.notText) hs ho (Nat.le_refl _)
  rw [Sc.items_fuel (Sc.oneL_nil Sc.notText) hs (l.drop p).length ((l.drop p).drop n).length ((l.drop p).drop n) (by rw [List.length_drop]; omega) (Nat.le_refl _), List.drop_drop] at e
  refine ⟨by omega, by rw [List.length_append, List.length_singleton]; omega, ?_, ?_⟩
  · intro q hq
    rcases List.mem_append.1 hq with hq | hq
    · exact h3 q hq
    · rw [List.mem_singleton] at hq
      subst hq
      exact hv
  · rw [h4, e]
    simp [Nat.add_assoc]
theorem RsAt.stop {l : List UInt8} {p : Nat} {rs : List Nat} (h : RsAt l p rs) (ho : Sc.oneL Sc.notText (l.drop p) = none) : Sc.items (Sc.oneL Sc.notText) l.length l = (rs, p) := by
  rw [h.is, Sc.items_none ho]
  simp
theorem RsAt.text {m : List UInt8} {p : Nat} {rs : List Nat} (hm : m ≠ []) (h : RsAt (m.drop 1) p rs) (ho : Sc.oneL Sc.notText ((m.drop 1).drop p) = none) :
    Sc.textR m = if rs = [] then .err 4 else if Lib.hasPrefix ((m.drop 1).drop p) [39] = true then .ok 2 (rs.flatMap Sc.utf) [] (1 + p + 1) else .err 4 := by
  have hs : ∀ l a k, Sc.oneL Sc.notText l = some (a, k) → 1 ≤ k ∧ k ≤ l.length := fun l a k h => (Sc.oneL_some h).2
  have hp := List.length_pos_iff.2 hm
  have e := h.stop ho
  rw [Sc.items_fuel (Sc.oneL_nil Sc.notText) hs (m.drop 1).length m.length (m.drop 1) (Nat.le_refl _) (by rw [List.length_drop]; omega)] at e
  unfold Sc.textR
  rw [e, List.drop_drop]
set_option maxHeartbeats 4000000 in
theorem told2Text_any (s : ByteArray) (k : Nat) (w : World) (hs : s.size ≤ 70000) (hk : k < s.size) :
    Calls Tryd.prog 25 #[.string s, .int .i64 k] w fun e w' => e = .returned (textT (Sc.textR (s.data.toList.drop k)) k) ∧ Below w.heap.size w w' := by
  have hmne : s.data.toList.drop k ≠ [] := by
    intro e
    have := congrArg List.length e
    rw [List.length_drop, ← Lib.size_eq] at this
    simp at this
    omega
  obtain ⟨m, hm⟩ : ∃ m, s.data.toList.drop k = m := ⟨_, rfl⟩
  have hml : m.length = s.size - k := by rw [← hm, List.length_drop, ← Lib.size_eq]
  have hmd : ∀ p, s.data.toList.drop (k + 1 + p) = (m.drop 1).drop p := fun p => by rw [← hm, List.drop_drop, List.drop_drop, Nat.add_assoc]
  have HML := Lib.hid hml
  have HMD := Lib.hid hmd
  rw [hm] at hmne
  have HNE := Lib.hid hmne
  rw [hm]
  have q1 : IntKind.i64.wrap ((k : Int) + 1) = (k : Int) + 1 := IntWalk.i64_in _ (by omega)
  have HST := Lib.hid (RsAt.start (m.drop 1))
  clear hm hml hmd hmne
  go_enter Tryd.func25, Tryd.ntmps25
  go_wp2_with fail
  go_loopw [1, 6] (fun a v wr => ∃ (p : Nat) (rs : List Nat), a = .int .i64 ((k + 1 + p : Nat) : Int) ∧ v = .string ⟨(rs.flatMap Sc.utf).toArray⟩ ∧ Hid (RsAt (m.drop 1) p rs) ∧ Below w.heap.size w wr) (fun a _ _ => s.size + 1 - (intOf a).toNat)
  case atStart => exact ⟨0, [], by go_num, rfl, HST.out, Below.refl _ _⟩
  case round =>
    obtain ⟨p, rs, rfl, rfl, hR, hb⟩ := hrel
    have hp := hR.out.le
    rw [List.length_drop, HML.out] at hp
    have hrl := hR.out.len
    have hks : k + 1 + p ≤ s.size := by omega
    have CB := fun w' => begins_any s ⟨#[39]⟩ (k + 1 + p) w' hks (by decide) (by omega)
    have CO := fun w' => refOne_any s (k + 1 + p) false w' (by omega) hks
    rw [HMD.out p] at CB CO
    rw [show (⟨#[39]⟩ : ByteArray).data.toList = [39] from rfl] at CB
    rw [show noL false = Sc.notText from rfl] at CO
    obtain ⟨V, hV⟩ : ∃ V : ByteArray, (⟨(rs.flatMap Sc.utf).toArray⟩ : ByteArray) = V := ⟨_, rfl⟩
    have hVs : V.size ≤ 4 * rs.length := by rw [← hV, mk_size]; exact Sc.flat_len rs
    obtain ⟨I, hI⟩ : ∃ I : Int, ((k + 1 + p : Nat) : Int) = I := ⟨_, rfl⟩
    have HI := Lib.hid hI
    rw [hI] at CB CO
    rw [hI, hV]
    have HB := Lib.hid hb
    cases hq : Lib.hasPrefix ((m.drop 1).drop p) [39] with
    | true =>
      obtain ⟨r, hr⟩ := (Sc.prefix_one _ _).1 hq
      have ho : Sc.oneL Sc.notText ((m.drop 1).drop p) = none := by rw [hr]; exact Sc.one39 r
      have ht := RsAt.text HNE.out hR.out ho
      rw [if_pos hq] at ht
      rw [hq] at CB
      replace CB := Lib.hid CB
      have q2 : IntKind.i64.wrap (I + 1) = I + 1 := IntWalk.i64_in _ (by omega)
      by_cases h0 : rs = []
      · rw [if_pos h0] at ht
        have HF := Lib.hid (show textT (Sc.textR m) k = .tuple #[.string ⟨#[]⟩, .int .i64 (-1)] by rw [ht]; rfl)
        have hVe : V = ⟨#[]⟩ := by rw [← hV, h0]; rfl
        subst hVe
        clear hb hR hq hr ho ht hI hV h0 CO
        go_wp2_with (go_at_call 27; refine (CB.out _).mono ?_; rintro e w' ⟨rfl, rfl⟩)
        go_ret2
        exact ⟨ret_eq HF.out.symm, HB.out⟩
      · rw [if_neg h0] at ht
        have HF := Lib.hid (show textT (Sc.textR m) k = .tuple #[.string V, .int .i64 (I + 1)] by
          rw [ht]
          unfold textT
          dsimp only
          have e : ((k + (1 + p + 1) : Nat) : Int) = I + 1 := by omega
          rw [hV, e])
        have hVne : V.toList.isEmpty = false := by
          rw [ByteArray.toList_eq, ← hV]
          show (rs.flatMap Sc.utf).isEmpty = false
          cases rs with
          | nil => exact absurd rfl h0
          | cons r rs =>
            have := utf_ne (hR.out.val r (by simp))
            rw [List.flatMap_cons]
            cases hu : Sc.utf r with
            | nil => exact absurd hu this
            | cons a b => rfl
        have hVne2 : ¬ V.toList = [] := by
          intro e
          rw [e] at hVne
          cases hVne
        clear hb hR hq hr ho ht hI hV h0 CO
        go_wp2_with (go_at_call 27; refine (CB.out _).mono ?_; rintro e w' ⟨rfl, rfl⟩)
        go_ret2
        exact ⟨ret_eq HF.out.symm, HB.out⟩
    | false =>
      rw [hq] at CB
      replace CB := Lib.hid CB
      cases ho : Sc.oneL Sc.notText ((m.drop 1).drop p) with
      | none =>
        have ht := RsAt.text HNE.out hR.out ho
        have ht2 : Sc.textR m = .err 4 := by
          rw [ht, hq]
          split
          · rfl
          · rw [if_neg (by simp)]
        have HF := Lib.hid (show textT (Sc.textR m) k = .tuple #[.string ⟨#[]⟩, .int .i64 (-1)] by rw [ht2]; rfl)
        rw [ho] at CO
        unfold onT at CO
        dsimp only at CO
        replace CO := Lib.hid CO
        clear hb hR hq ho ht ht2 hI hV
        go_wp2_with (first | (go_at_call 27; refine (CB.out _).mono ?_; rintro e w' ⟨rfl, rfl⟩) | (go_at_call 42; refine (CO.out _).mono ?_; rintro e w' ⟨rfl, hb2⟩))
        go_ret2
        exact ⟨ret_eq HF.out.symm, HB.out.trans (hb2.mono HB.out.size)⟩
      | some d =>
        obtain ⟨r, n⟩ := d
        obtain ⟨hv, n1, n2⟩ := Sc.oneL_some ho
        rw [List.length_drop, List.length_drop, HML.out] at n2
        have HR := Lib.hid (hR.out.step ho)
        rw [ho] at CO
        unfold onT at CO
        dsimp only at CO
        obtain ⟨R, hRr⟩ : ∃ R : Int, (r : Int) = R := ⟨_, rfl⟩
        obtain ⟨J, hJ⟩ : ∃ J : Int, ((k + 1 + p + n : Nat) : Int) = J := ⟨_, rfl⟩
        rw [hRr, hJ] at CO
        replace CO := Lib.hid CO
        have CE := Lib.hid (fun w' => refEncode_any R w')
        obtain ⟨X, hX⟩ : ∃ X : ByteArray, encB R = X := ⟨_, rfl⟩
        have hXs : X.size ≤ 4 := by rw [← hX]; exact encB_size R
        have hXd : X.data.toList = Sc.utf r := by rw [← hX, ← hRr]; rfl
        rw [hX] at CE
        have a1 : ∀ wx, (Op.stringOp .add V X).run Tryd.prog wx = .ok (.string (V ++ X)) wx := fun wx => run_string_add_sum wx _ _ (by omega)
        have hVX : V ++ X = ⟨((rs ++ [r]).flatMap Sc.utf).toArray⟩ := by
          have e : X = ⟨X.data.toList.toArray⟩ := by cases X; simp
          rw [e, ← hV, app_mk, hXd]
          simp
        have HV := Lib.hid hVX
        have j0 : decide (J < 0) = false := by rw [decide_eq_false_iff_not]; omega
        have j1 : ¬ J < 0 := by omega
        have HJ := Lib.hid hJ
        clear hb hR hq ho hI hV hv hRr hJ hX hXs hXd hVX
        go_wp2_with (first | (go_at_call 27; refine (CB.out _).mono ?_; rintro e w' ⟨rfl, rfl⟩) | (go_at_call 42; refine (CO.out _).mono ?_; rintro e w2 ⟨rfl, hb2⟩) | (go_at_call 43; refine (CE.out _).mono ?_; rintro e w3 ⟨rfl, hb3⟩))
        have b4 := HB.out.trans (hb2.mono HB.out.size)
        refine ⟨⟨p + n, rs ++ [r], by rw [← HJ.out]; simp [Nat.add_assoc], congrArg Value.string HV.out, HR.out, b4.trans (hb3.mono b4.size)⟩, ?_⟩
        have e1 := HJ.out
        have e2 := HI.out
        simp [intOf]
        omega
end Go.Proofs.YtokpknjmcegkaaaDoor
namespace Go.Proofs.YtokpknjmcegkaaaDoor
open Go Go.RowKit Ru
set_option maxRecDepth 100000

/-- p bytes of l have been read, as the ranges st. -/
structure PsAt (l : List UInt8) (p : Nat) (st : List (Nat × Nat)) : Prop where
  le : p ≤ l.length
  len : st.length ≤ p
  is : Sc.items Sc.partL l.length l = (st ++ (Sc.items Sc.partL (l.drop p).length (l.drop p)).1, p + (Sc.items Sc.partL (l.drop p).length (l.drop p)).2)
theorem PsAt.start (l : List UInt8) : PsAt l 0 [] := ⟨Nat.zero_le _, Nat.zero_le _, by rw [List.drop_zero, Nat.zero_add, List.nil_append]⟩
theorem part_some_le : ∀ l a k, Sc.partL l = some (a, k) → 1 ≤ k ∧ k ≤ l.length := fun _ _ _ h => ⟨(Sc.partL_some h).1, (Sc.partL_some h).2.1⟩
theorem PsAt.step {l : List UInt8} {p : Nat} {st : List (Nat × Nat)} (h : PsAt l p st) {r : Nat × Nat} {n : Nat} (ho : Sc.partL (l.drop p) = some (r, n)) : PsAt l (p + n) (st ++ [r]) := by
  obtain ⟨h1, h2, h4⟩ := h
  obtain ⟨n1, n2⟩ := part_some_le _ _ _ ho
  rw [List.length_drop] at n2
  have e := Sc.items_some Sc.partL_nil part_some_le ho (Nat.le_refl _)
  rw [Sc.items_fuel Sc.partL_nil part_some_le (l.drop p).length ((l.drop p).drop n).length ((l.drop p).drop n) (by rw [List.length_drop]; omega) (Nat.le_refl _), List.drop_drop] at e
  refine ⟨by omega, by rw [List.length_append, List.length_singleton]; omega, ?_⟩
  rw [h4, e]
  simp [Nat.add_assoc]
theorem PsAt.stop {l : List UInt8} {p : Nat} {st : List (Nat × Nat)} (h : PsAt l p st) (ho : Sc.partL (l.drop p) = none) : Sc.items Sc.partL l.length l = (st, p) := by
  rw [h.is, Sc.items_none ho]
  simp
theorem PsAt.set {m : List UInt8} {p : Nat} {st : List (Nat × Nat)} (hm : m ≠ []) (h : PsAt (m.drop 1) p st) (ho : Sc.partL ((m.drop 1).drop p) = none) :
    Sc.setR m = if st = [] then .err 4 else if Lib.hasPrefix ((m.drop 1).drop p) [93] = true then .ok 3 [] st (1 + p + 1) else .err 4 := by
  have hp := List.length_pos_iff.2 hm
  have e := h.stop ho
  rw [Sc.items_fuel Sc.partL_nil part_some_le (m.drop 1).length m.length (m.drop 1) (Nat.le_refl _) (by rw [List.length_drop]; omega)] at e
  unfold Sc.setR
  rw [e, List.drop_drop]
/-- What set answers, of what is read at k. -/
def setT (r : Sc.WR) (k : Nat) (sv : Value) : Value := match r with
  | .ok _ _ _ z => .tuple #[sv, .int .i64 ((k + z : Nat) : Int)]
  | .err _ => .tuple #[.slice none 0 0, .int .i64 (-1)]
def TellsSet (r : Sc.WR) (k : Nat) (w : World) (e : Ending) (w' : World) : Prop := ∃ sv, e = .returned (setT r k sv) ∧ SetAt w' w.heap.size sv (wrSet r) ∧ Below w.heap.size w w'
theorem TellsSet.err {m : List UInt8} {k : Nat} {w w' : World} {e : Ending} (h : Sc.setR m = .err 4) (he : e = .returned (.tuple #[.slice none 0 0, .int .i64 (-1)])) (hb : Below w.heap.size w w') : TellsSet (Sc.setR m) k w e w' := by
  rw [h]
  exact ⟨.slice none 0 0, he, SetAt.none_ _ _, hb⟩
set_option maxHeartbeats 8000000 in
theorem told2Set_any (s : ByteArray) (k : Nat) (w : World) (hs : s.size ≤ 70000) (hk : k < s.size) :
    Calls Tryd.prog 26 #[.string s, .int .i64 k] w (TellsSet (Sc.setR (s.data.toList.drop k)) k w) := by
  obtain ⟨i0, hi, hz0, hz1, hz2⟩ := info_parts Tryd.infoRange
  have hmne : s.data.toList.drop k ≠ [] := by
    intro e
    have := congrArg List.length e
    rw [List.length_drop, ← Lib.size_eq] at this
    simp at this
    omega
  obtain ⟨m, hm⟩ : ∃ m, s.data.toList.drop k = m := ⟨_, rfl⟩
  have hml : m.length = s.size - k := by rw [← hm, List.length_drop, ← Lib.size_eq]
  have hmd : ∀ p, s.data.toList.drop (k + 1 + p) = (m.drop 1).drop p := fun p => by rw [← hm, List.drop_drop, List.drop_drop, Nat.add_assoc]
  have HML := Lib.hid hml
  have HMD := Lib.hid hmd
  rw [hm] at hmne
  have HNE := Lib.hid hmne
  rw [hm]
  have q1 : IntKind.i64.wrap ((k : Int) + 1) = (k : Int) + 1 := IntWalk.i64_in _ (by omega)
  have HST := Lib.hid (PsAt.start (m.drop 1))
  clear hm hml hmd hmne
  go_enter Tryd.func26, Tryd.ntmps26
  go_wp2_with fail
  go_loopw [1, 6] (fun a v wr => ∃ (p : Nat) (st : List (Nat × Nat)), a = .int .i64 ((k + 1 + p : Nat) : Int) ∧ PsAt (m.drop 1) p st ∧ wr.ownsRow w.heap.size 40 2 v st.length (setCells st) ∧ Below w.heap.size w wr) (fun a _ _ => s.size + 1 - (intOf a).toNat)
  case atStart => exact ⟨0, [], by go_num, HST.out, World.ownsRow_nil _ _ _ _, Below.refl _ _⟩
  case round =>
    obtain ⟨p, st, rfl, hR, how, hb⟩ := hrel
    have hp := hR.le
    rw [List.length_drop, HML.out] at hp
    have hrl := hR.len
    have hks : k + 1 + p ≤ s.size := by omega
    have CB := fun w' => begins_any s ⟨#[93]⟩ (k + 1 + p) w' hks (by decide) (by omega)
    have CO := fun w' => refOne_any s (k + 1 + p) true w' (by omega) hks
    rw [HMD.out p] at CB CO
    rw [show (⟨#[93]⟩ : ByteArray).data.toList = [93] from rfl] at CB
    rw [show noL true = Sc.notSet from rfl] at CO
    obtain ⟨I, hI⟩ : ∃ I : Int, ((k + 1 + p : Nat) : Int) = I := ⟨_, rfl⟩
    have HI := Lib.hid hI
    rw [hI] at CB CO
    rw [hI]
    have HB := Lib.hid hb
    have HOW := Lib.hid how
    have HR := Lib.hid hR
    clear hR how hb
    cases hq : Lib.hasPrefix ((m.drop 1).drop p) [93] with
    | true =>
      obtain ⟨r, hr⟩ := (Sc.prefix_one _ _).1 hq
      have ho : Sc.partL ((m.drop 1).drop p) = none := by rw [hr]; exact Sc.part93 r
      have ht := PsAt.set HNE.out HR.out ho
      rw [if_pos hq] at ht
      rw [hq] at CB
      replace CB := Lib.hid CB
      have q2 : IntKind.i64.wrap (I + 1) = I + 1 := IntWalk.i64_in _ (by omega)
      have HRow := Lib.hid (Row.of_own HOW.out)
      obtain ⟨A, cap, rfl, hcap⟩ := HRow.out.form
      obtain ⟨N, hN⟩ : ∃ N, st.length = N := ⟨_, rfl⟩
      by_cases h0 : st = []
      · rw [if_pos h0] at ht
        have HF := Lib.hid ht
        have d0 : ((N : Int) == 0) = true := by rw [beq_iff_eq, ← hN, h0]; rfl
        have d1 : N = 0 := by rw [← hN, h0]; rfl
        rw [hN]
        clear hq hr ho ht hI h0 CO hN
        go_wp2_with (go_at_call 27; refine (CB.out _).mono ?_; rintro e w' ⟨rfl, rfl⟩)
        go_ret2
        exact TellsSet.err HF.out rfl HB.out
      · rw [if_neg h0] at ht
        have hpos : 0 < st.length := List.length_pos_iff.2 h0
        have d0 : ((N : Int) == 0) = false := by rw [beq_eq_false_iff_ne]; omega
        have d1 : ¬ N = 0 := by omega
        have HF := Lib.hid ht
        have HN := Lib.hid hN
        rw [hN]
        clear hq hr ho ht hI h0 CO hN
        go_wp2_with (go_at_call 27; refine (CB.out _).mono ?_; rintro e w' ⟨rfl, rfl⟩)
        go_ret2
        rw [HF.out]
        refine ⟨.slice A N cap, ?_, ?_, HB.out⟩
        · unfold setT
          dsimp only
          rw [show ((k + (1 + p + 1) : Nat) : Int) = I + 1 by have := HI.out; omega]
          rfl
        · unfold SetAt wrSet
          dsimp only
          have R0 := HRow.out
          rw [HN.out] at R0 ⊢
          exact R0
    | false =>
      rw [hq] at CB
      replace CB := Lib.hid CB
      cases ho : Sc.oneL Sc.notSet ((m.drop 1).drop p) with
      | none =>
        have hpn : Sc.partL ((m.drop 1).drop p) = none := by unfold Sc.partL; rw [ho]
        have ht := PsAt.set HNE.out HR.out hpn
        have ht2 : Sc.setR m = .err 4 := by
          rw [ht, hq]
          split
          · rfl
          · rw [if_neg (by simp)]
        have HF := Lib.hid ht2
        rw [ho] at CO
        unfold onT at CO
        dsimp only at CO
        replace CO := Lib.hid CO
        clear hq ho ht ht2 hI hpn
        go_wp2_with (first | (go_at_call 27; refine (CB.out _).mono ?_; rintro e w' ⟨rfl, rfl⟩) | (go_at_call 42; refine (CO.out _).mono ?_; rintro e w' ⟨rfl, hb2⟩))
        go_ret2
        exact TellsSet.err HF.out rfl (HB.out.trans (hb2.mono HB.out.size))
      | some d =>
        obtain ⟨a, ka⟩ := d
        obtain ⟨hva, n1, n2⟩ := Sc.oneL_some ho
        rw [List.length_drop, List.length_drop, HML.out] at n2
        have hpart : Sc.partL ((m.drop 1).drop p) = if Lib.hasPrefix (((m.drop 1).drop p).drop ka) [45] = true then (match Sc.oneL Sc.notSet (((m.drop 1).drop p).drop (ka + 1)) with | none => none | some (high, m') => if high < a then none else some ((a, high), ka + 1 + m')) else some ((a, a), ka) := by
          conv => lhs; unfold Sc.partL
          rw [ho]
          rfl
        rw [ho] at CO
        unfold onT at CO
        dsimp only at CO
        obtain ⟨J, hJ⟩ : ∃ J : Int, ((k + 1 + p + ka : Nat) : Int) = J := ⟨_, rfl⟩
        rw [hJ] at CO
        replace CO := Lib.hid CO
        have CB2 := fun w' => begins_any s ⟨#[45]⟩ (k + 1 + p + ka) w' (by omega) (by decide) (by omega)
        rw [show s.data.toList.drop (k + 1 + p + ka) = ((m.drop 1).drop p).drop ka by rw [← HMD.out p, List.drop_drop], show (⟨#[45]⟩ : ByteArray).data.toList = [45] from rfl, hJ] at CB2
        have j0 : decide (J < 0) = false := by rw [decide_eq_false_iff_not]; omega
        have j1 : ¬ J < 0 := by omega
        have va := (valid_iff (a : Int)).1 hva
        obtain ⟨RA, hRA⟩ : ∃ R : Int, (a : Int) = R := ⟨_, rfl⟩
        rw [hRA] at CO va
        cases hq2 : Lib.hasPrefix (((m.drop 1).drop p).drop ka) [45] with
        | false =>
          rw [hq2, if_neg (by simp)] at hpart
          have HP2 := Lib.hid (HR.out.step hpart)
          rw [hq2] at CB2
          replace CB2 := Lib.hid CB2
          have HJ := Lib.hid hJ
          have HSC := Lib.hid (show setCells (st ++ [(a, a)]) = setCells st ++ [.int .i32 RA, .int .i32 RA] by rw [setCells_snoc, hRA])
          have x0 : decide (RA < RA) = false := by simp
          clear hq ho hI hq2 hpart hJ hva hRA
          go_wp2_with fail
          refine (CB.out _).mono ?_
          rintro e w' ⟨rfl, rfl⟩
          go_wp2_with fail
          refine (CO.out _).mono ?_
          rintro e w1 ⟨rfl, hb2⟩
          go_wp2_with fail
          refine (CB2.out _).mono ?_
          rintro e w' ⟨rfl, rfl⟩
          have HBX := Lib.hid hb2
          clear hb2
          have cn := cells_new w1 [.int .i32 RA, .int .i32 RA] 40
          have HCN := Lib.hid cn
          have HO3 := Lib.hid (own_below HOW.out HBX.out)
          have hw0 := HOW.out.lt
          have hsx := HBX.out.size
          have hsb := HB.out.size
          clear cn
          go_wp2_with (at_builtin; refine wpList_append_own _ rfl _ _ 36 rfl w.heap.size 40 i0 (.agg #[.int .i32 0, .int .i32 0]) 2 8 Tryd.underlying36 hi hz0 hz1 hz2 rfl (by decide) _ _ _ rfl (HO3.out.alloc _) ⟨w1.heap.size, 0, none⟩ 1 1 [.int .i32 RA, .int .i32 RA] rfl rfl HCN.out (fun x hx => by simp at hx; rcases hx with rfl | rfl <;> rfl) (by unfold maxLen; omega) (by omega) (by simp; omega) ?_; intro v' w3 hown3 hg3 _)
          have HO4 := Lib.hid hown3
          have hlt3 := HO3.out.lt
          have HB4 := Lib.hid (((HB.out.trans (HBX.out.mono HB.out.size)).alloc (Nat.le_trans HB.out.size HBX.out.size) (.cells #[.int .i32 RA, .int .i32 RA] 40)).grown hg3 (by have h1 := HB.out.size; have h2 := HBX.out.size; simp; omega) (fun b hb => (hlt3 b hb).1))
          clear hown3 hg3 hw0 hlt3
          refine ⟨⟨p + ka, st ++ [(a, a)], by rw [← HJ.out]; simp [Nat.add_assoc], HP2.out, ?_, HB4.out⟩, ?_⟩
          · have h := HO4.out
            rw [List.length_append, List.length_singleton, HSC.out]
            exact h
          · have e1 := HJ.out
            have e2 := HI.out
            simp [intOf]
            omega
        | true =>
          have hle := Sc.prefix_len hq2
          rw [List.length_drop, List.length_drop, List.length_drop, HML.out] at hle
          simp only [List.length_cons, List.length_nil] at hle
          have CO2 := fun w' => refOne_any s (k + 1 + p + ka + 1) true w' (by omega) (by omega)
          rw [show s.data.toList.drop (k + 1 + p + ka + 1) = ((m.drop 1).drop p).drop (ka + 1) by rw [← HMD.out p, List.drop_drop]; rfl, show noL true = Sc.notSet from rfl] at CO2
          have q3 : IntKind.i64.wrap (J + 1) = J + 1 := IntWalk.i64_in _ (by omega)
          rw [show ((k + 1 + p + ka + 1 : Nat) : Int) = J + 1 by omega] at CO2
          rw [hq2, if_pos rfl] at hpart
          rw [hq2] at CB2
          replace CB2 := Lib.hid CB2
          cases ho2 : Sc.oneL Sc.notSet (((m.drop 1).drop p).drop (ka + 1)) with
          | none =>
            rw [ho2] at hpart CO2
            dsimp only at hpart
            have ht := PsAt.set HNE.out HR.out hpart
            have ht2 : Sc.setR m = .err 4 := by
              rw [ht, hq]
              split
              · rfl
              · rw [if_neg (by simp)]
            have HF := Lib.hid ht2
            unfold onT at CO2
            dsimp only at CO2
            replace CO2 := Lib.hid CO2
            clear hq ho hI hq2 hpart hJ hva hRA ht ht2 ho2
            go_wp2_with fail
            refine (CB.out _).mono ?_
            rintro e w' ⟨rfl, rfl⟩
            go_wp2_with fail
            refine (CO.out _).mono ?_
            rintro e w1 ⟨rfl, hb2⟩
            go_wp2_with fail
            refine (CB2.out _).mono ?_
            rintro e w' ⟨rfl, rfl⟩
            go_wp2_with fail
            refine (CO2.out _).mono ?_
            rintro e w2 ⟨rfl, hb3⟩
            have HB5 := Lib.hid (HB.out.trans ((hb2.trans (hb3.mono hb2.size)).mono HB.out.size))
            clear hb2 hb3
            go_wp2_with fail
            go_ret2
            exact TellsSet.err HF.out rfl HB5.out
          | some d2 =>
            obtain ⟨b, kb⟩ := d2
            obtain ⟨hvb, n3, n4⟩ := Sc.oneL_some ho2
            rw [List.length_drop, List.length_drop, List.length_drop, HML.out] at n4
            have vb := (valid_iff (b : Int)).1 hvb
            rw [ho2] at hpart CO2
            dsimp only at hpart
            unfold onT at CO2
            dsimp only at CO2
            obtain ⟨RB, hRB⟩ : ∃ R : Int, (b : Int) = R := ⟨_, rfl⟩
            obtain ⟨J2, hJ2⟩ : ∃ J : Int, ((k + 1 + p + ka + 1 + kb : Nat) : Int) = J := ⟨_, rfl⟩
            rw [hRB, hJ2] at CO2
            rw [hRB] at vb
            replace CO2 := Lib.hid CO2
            have j2 : decide (J2 < 0) = false := by rw [decide_eq_false_iff_not]; omega
            have j3 : ¬ J2 < 0 := by omega
            by_cases hba : b < a
            · rw [if_pos hba] at hpart
              have ht := PsAt.set HNE.out HR.out hpart
              have ht2 : Sc.setR m = .err 4 := by
                rw [ht, hq]
                split
                · rfl
                · rw [if_neg (by simp)]
              have HF := Lib.hid ht2
              have x0 : decide (RB < RA) = true := by rw [decide_eq_true_iff]; omega
              have x1 : RB < RA := by omega
              clear hq ho hI hq2 hpart hJ hva hRA ht ht2 ho2 hvb hRB hJ2 hba
              go_wp2_with fail
              refine (CB.out _).mono ?_
              rintro e w' ⟨rfl, rfl⟩
              go_wp2_with fail
              refine (CO.out _).mono ?_
              rintro e w1 ⟨rfl, hb2⟩
              go_wp2_with fail
              refine (CB2.out _).mono ?_
              rintro e w' ⟨rfl, rfl⟩
              go_wp2_with fail
              refine (CO2.out _).mono ?_
              rintro e w2 ⟨rfl, hb3⟩
              have HB5 := Lib.hid (HB.out.trans ((hb2.trans (hb3.mono hb2.size)).mono HB.out.size))
              clear hb2 hb3
              go_wp2_with fail
              go_ret2
              exact TellsSet.err HF.out rfl HB5.out
            · rw [if_neg hba] at hpart
              have HP2 := Lib.hid (HR.out.step hpart)
              have HJ := Lib.hid (show ((k + 1 + (p + (ka + 1 + kb)) : Nat) : Int) = J2 by omega)
              have HSC := Lib.hid (show setCells (st ++ [(a, b)]) = setCells st ++ [.int .i32 RA, .int .i32 RB] by rw [setCells_snoc, hRA, hRB])
              have x0 : decide (RB < RA) = false := by rw [decide_eq_false_iff_not]; omega
              have x1 : ¬ RB < RA := by omega
              clear hq ho hI hq2 hpart hJ hva hRA ho2 hvb hRB hJ2 hba
              go_wp2_with fail
              refine (CB.out _).mono ?_
              rintro e w' ⟨rfl, rfl⟩
              go_wp2_with fail
              refine (CO.out _).mono ?_
              rintro e w1 ⟨rfl, hb2⟩
              go_wp2_with fail
              refine (CB2.out _).mono ?_
              rintro e w' ⟨rfl, rfl⟩
              go_wp2_with fail
              refine (CO2.out _).mono ?_
              rintro e w2 ⟨rfl, hb3⟩
              have HBX := Lib.hid (hb2.trans (hb3.mono hb2.size))
              clear hb2 hb3
              have cn := cells_new w2 [.int .i32 RA, .int .i32 RB] 40
              have HCN := Lib.hid cn
              have HO3 := Lib.hid (own_below HOW.out HBX.out)
              have hw0 := HOW.out.lt
              have hsx := HBX.out.size
              have hsb := HB.out.size
              clear cn
              go_wp2_with (at_builtin; refine wpList_append_own _ rfl _ _ 36 rfl w.heap.size 40 i0 (.agg #[.int .i32 0, .int .i32 0]) 2 8 Tryd.underlying36 hi hz0 hz1 hz2 rfl (by decide) _ _ _ rfl (HO3.out.alloc _) ⟨w2.heap.size, 0, none⟩ 1 1 [.int .i32 RA, .int .i32 RB] rfl rfl HCN.out (fun x hx => by simp at hx; rcases hx with rfl | rfl <;> rfl) (by unfold maxLen; omega) (by omega) (by simp; omega) ?_; intro v' w3 hown3 hg3 _)
              have HO4 := Lib.hid hown3
              have hlt3 := HO3.out.lt
              have HB4 := Lib.hid (((HB.out.trans (HBX.out.mono HB.out.size)).alloc (Nat.le_trans HB.out.size HBX.out.size) (.cells #[.int .i32 RA, .int .i32 RB] 40)).grown hg3 (by have h1 := HB.out.size; have h2 := HBX.out.size; simp; omega) (fun b hb => (hlt3 b hb).1))
              clear hown3 hg3 hw0 hlt3
              refine ⟨⟨p + (ka + 1 + kb), st ++ [(a, b)], by rw [← HJ.out], HP2.out, ?_, HB4.out⟩, ?_⟩
              · have h := HO4.out
                rw [List.length_append, List.length_singleton, HSC.out]
                exact h
              · have e1 := HJ.out
                have e2 := HI.out
                simp [intOf]
                omega
end Go.Proofs.YtokpknjmcegkaaaDoor
namespace Go.Proofs.YtokpknjmcegkaaaDoor
open Go Go.RowKit Ru
set_option maxRecDepth 100000

/-- Where the gap at p ends; below 0: a comment does not. -/
def gapI (l : List UInt8) (p : Nat) : Int := if (Sc.gapL l).2 = true then ((p + (Sc.gapL l).1 : Nat) : Int) else -1 - ((p + (Sc.gapL l).1 : Nat) : Int)
theorem gapI_go {l : List UInt8} {n : Nat} (h : Sc.skip l = .go n) (p : Nat) : gapI (l.drop n) (p + n) = gapI l p := by
  unfold gapI
  rw [Sc.gapL_go h]
  dsimp only
  rw [Nat.add_assoc]
theorem gapI_stop {l : List UInt8} (h : Sc.skip l = .stop) (p : Nat) : gapI l p = (p : Int) := by
  unfold gapI
  rw [Sc.gapL_stop h, if_pos rfl]
  rfl
theorem gapI_fail {l : List UInt8} (h : Sc.skip l = .fail) (p : Nat) : gapI l p = -1 - (p : Int) := by
  unfold gapI
  rw [Sc.gapL_fail h, if_neg (by simp)]
  rfl
theorem skip_blank {l : List UInt8} (h : Sc.blankB (l.getD 0 0) = true) : Sc.skip l = .go 1 := by
  unfold Sc.skip
  rw [if_pos h]
theorem skip_line {l : List UInt8} (h : ¬ Sc.blankB (l.getD 0 0) = true) (h1 : Lib.hasPrefix l [47, 47] = true) : Sc.skip l = .go (Lib.cut l [10]).1.length := by
  unfold Sc.skip
  rw [if_neg h, if_pos h1]
theorem skip_stop {l : List UInt8} (h : ¬ Sc.blankB (l.getD 0 0) = true) (h1 : Lib.hasPrefix l [47, 47] = false) (h2 : Lib.hasPrefix l [47, 42] = false) : Sc.skip l = .stop := by
  unfold Sc.skip
  rw [if_neg h, if_neg (by rw [h1]; simp), if_neg (by rw [h2]; simp)]
theorem skip_star {l : List UInt8} (h : ¬ Sc.blankB (l.getD 0 0) = true) (h1 : Lib.hasPrefix l [47, 47] = false) (h2 : Lib.hasPrefix l [47, 42] = true) : Sc.skip l = if (Lib.cut (l.drop 2) [42, 47]).2.2 = true then .go ((Lib.cut (l.drop 2) [42, 47]).1.length + 4) else .fail := by
  unfold Sc.skip
  rw [if_neg h, if_neg (by rw [h1]; simp), if_pos h2]
/-- The end of a line. -/
theorem line_end {l : List UInt8} {i : Nat} (hi : i ≤ l.length) (hn : ∀ j, j < i → l.getD j 0 ≠ 10) (he : i = l.length ∨ l.getD i 0 = 10) : (Lib.cut l [10]).1.length = i := by
  have hocc : ∀ j, j < i → Lib.occAt l [10] j = false := by
    intro j hj
    cases ho : Lib.occAt l [10] j with
    | false => rfl
    | true =>
      obtain ⟨r, hr⟩ := Sc.occ_split ho
      exact absurd (Sc.drop_head hr).2 (hn j hj)
  rcases he with he | he
  · have h := Sc.cut_no_of (l := l) (sep := [10]) (fun j hj => by
      by_cases h0 : j < i
      · exact hocc j h0
      · have : j = l.length := by omega
        subst this
        unfold Lib.occAt
        rw [List.drop_length]
        rfl)
    rw [h.2, he]
  · by_cases h0 : i < l.length
    · refine (Sc.cut_of hi ?_ hocc).2.2
      unfold Lib.occAt
      obtain ⟨c, r, hcr⟩ : ∃ c r, l.drop i = c :: r := ⟨_, _, List.drop_eq_getElem_cons h0⟩
      have := (Sc.drop_head hcr).2
      rw [he] at this
      subst this
      rw [hcr]
      exact Sc.prefix_of [10] r
    · have h := getD_ge l i (by omega)
      rw [he] at h
      exact absurd h (by decide)
theorem star_no {l : List UInt8} (hn : ∀ j, j < l.length → Lib.hasPrefix (l.drop j) [42, 47] = false) : (Lib.cut l [42, 47]).2.2 = false := by
  refine (Sc.cut_no_of fun j hj => ?_).1
  by_cases h0 : j < l.length
  · exact hn j h0
  · have : j = l.length := by omega
    subst this
    unfold Lib.occAt
    rw [List.drop_length]
    rfl
theorem star_yes {l : List UInt8} {i : Nat} (hi : i ≤ l.length) (hn : ∀ j, j < i → Lib.hasPrefix (l.drop j) [42, 47] = false) (h : Lib.hasPrefix (l.drop i) [42, 47] = true) : (Lib.cut l [42, 47]).2.2 = true ∧ (Lib.cut l [42, 47]).1.length = i := by
  have := Sc.cut_of (sep := [42, 47]) hi h hn
  exact ⟨this.1, this.2.2⟩
theorem blank_cases {b : UInt8} (h : Sc.blankB b = true) : (b.toNat : Int) = 32 ∨ (b.toNat : Int) = 9 ∨ (b.toNat : Int) = 10 ∨ (b.toNat : Int) = 13 := by
  unfold Sc.blankB at h
  simp only [Bool.or_eq_true, beq_iff_eq] at h
  rcases h with ((h | h) | h) | h <;> subst h
  · exact Or.inl rfl
  · exact Or.inr (Or.inl rfl)
  · exact Or.inr (Or.inr (Or.inl rfl))
  · exact Or.inr (Or.inr (Or.inr rfl))
theorem blank_not {b : UInt8} (h : Sc.blankB b = false) : (b.toNat : Int) ≠ 32 ∧ (b.toNat : Int) ≠ 9 ∧ (b.toNat : Int) ≠ 10 ∧ (b.toNat : Int) ≠ 13 := by
  unfold Sc.blankB at h
  simp only [Bool.or_eq_false_iff, beq_eq_false_iff_ne] at h
  obtain ⟨⟨⟨h1, h2⟩, h3⟩, h4⟩ := h
  exact ⟨ne_byte (n := 32) (by decide) h1, ne_byte (n := 9) (by decide) h2, ne_byte (n := 10) (by decide) h3, ne_byte (n := 13) (by decide) h4⟩
set_option maxHeartbeats 8000000 in
theorem told2Gap_any (s : ByteArray) (k : Nat) (w : World) (hs : s.size ≤ 70000) (hk : k ≤ s.size) :
    Calls Tryd.prog 22 #[.string s, .int .i64 k] w fun e w' => e = .returned (.int .i64 (gapI (s.data.toList.drop k) k)) ∧ w = w' := by
  go_enter Tryd.func22, Tryd.ntmps22
  go_wp2_with fail
  go_loopw [1] (fun a wx => ∃ p : Nat, a = .int .i64 p ∧ p ≤ s.size ∧ Hid (gapI (s.data.toList.drop p) p = gapI (s.data.toList.drop k) k) ∧ wx = w) (fun a _ => s.size - (intOf a).toNat)
  case atStart => exact ⟨k, rfl, hk, rfl, rfl⟩
  case round =>
    obtain ⟨p, rfl, hp, hg, rfl⟩ := hrel
    by_cases hlt : p < s.size
    · have t0 : decide (p < s.size) = true := by rw [decide_eq_true_iff]; exact hlt
      have hix0 := fun wx => byte_at s p hlt _ rfl wx
      have hb255 := (s.data.toList.getD p 0).toNat_lt
      obtain ⟨l, hl⟩ : ∃ l, s.data.toList.drop p = l := ⟨_, rfl⟩
      have hll : l.length = s.size - p := by rw [← hl, List.length_drop, ← Lib.size_eq]
      have hld : ∀ j, s.data.toList.getD (p + j) 0 = l.getD j 0 := fun j => by rw [← hl, Sc.getD_drop]
      have hldr : ∀ j, s.data.toList.drop (p + j) = l.drop j := fun j => by rw [← hl, List.drop_drop]
      have h00 := hld 0
      rw [Nat.add_zero] at h00
      rw [h00] at hix0 hb255
      obtain ⟨c, hc⟩ : ∃ c : Int, ((l.getD 0 0).toNat : Int) = c := ⟨_, rfl⟩
      rw [hc] at hix0
      have hix := hix0
      rw [hl] at hg
      cases hbl : Sc.blankB (l.getD 0 0) with
      | true =>
        have hsk := gapI_go (skip_blank hbl) p
        rw [← hldr 1] at hsk
        have HG := Lib.hid (hsk.trans hg.out)
        have hcc := blank_cases hbl
        rw [hc] at hcc
        clear hix0 hg hc hbl hsk hb255 h00 hl hll hld hldr
        rcases hcc with rfl | rfl | rfl | rfl
        all_goals
          go_wp2_with fail
          exact ⟨⟨p + 1, by go_num, by omega, HG, by first | trivial | rfl⟩, by simp [intOf]; omega⟩
      | false =>
        have hbn : ¬ Sc.blankB (l.getD 0 0) = true := by rw [hbl]; simp
        have hcc := blank_not hbl
        rw [hc] at hcc
        obtain ⟨m1, m2, m3, m4⟩ := hcc
        have u1 : (c == 32) = false := by rw [beq_eq_false_iff_ne]; exact m1
        have u2 : (c == 9) = false := by rw [beq_eq_false_iff_ne]; exact m2
        have u3 : (c == 10) = false := by rw [beq_eq_false_iff_ne]; exact m3
        have u4 : (c == 13) = false := by rw [beq_eq_false_iff_ne]; exact m4
        have CB1 := fun w' => begins_any s ⟨#[47, 47]⟩ p w' hp (by decide) (by omega)
        have CB2 := fun w' => begins_any s ⟨#[47, 42]⟩ p w' hp (by decide) (by omega)
        rw [hl, show (⟨#[47, 47]⟩ : ByteArray).data.toList = [47, 47] from rfl] at CB1
        rw [hl, show (⟨#[47, 42]⟩ : ByteArray).data.toList = [47, 42] from rfl] at CB2
        cases hq1 : Lib.hasPrefix l [47, 47] with
        | true =>
          rw [hq1] at CB1
          replace CB1 := Lib.hid CB1
          have HLN := Lib.hid (fun q (hq : q ≤ l.length) hn he => gapI_go ((skip_line hbn hq1).trans (by rw [line_end (i := q) hq hn he])) p)
          have HG := Lib.hid hg.out
          have HLL := Lib.hid hll
          have HLD := Lib.hid hld
          have HLR := Lib.hid hldr
          have h10 : l.getD 0 0 ≠ 10 := by
            intro e
            rw [e] at hbl
            exact absurd hbl (by decide)
          have H10 := Lib.hid h10
          clear hix0 hg hc hbl hb255 h00 hl hll hld hldr CB2 hbn hq1 m1 m2 m3 m4 h10
          go_wp2_with fail
          refine (CB1.out _).mono ?_
          rintro e w' ⟨rfl, rfl⟩
          go_wp2_with fail
          go_loopw [1] (fun a wx => ∃ q : Nat, q ≤ l.length ∧ a = .int .i64 ((p + q : Nat) : Int) ∧ Hid (∀ j, j < q → l.getD j 0 ≠ 10) ∧ wx = wr) (fun a _ => s.size - (intOf a).toNat)
          case atStart => exact ⟨0, Nat.zero_le _, rfl, fun j hj => by omega, rfl⟩
          case round =>
            obtain ⟨q, hq, rfl, hnq, rfl⟩ := hrel
            have hll := HLL.out
            obtain ⟨I, hI⟩ : ∃ I : Int, ((p + q : Nat) : Int) = I := ⟨_, rfl⟩
            by_cases hql : q < l.length
            · have v0 : decide (I < (s.size : Int)) = true := by rw [decide_eq_true_iff]; omega
              have v1 : I < (s.size : Int) := by omega
              have i0 : 0 ≤ I := by omega
              have hix2 := fun wx => byte_at s (p + q) (by omega) _ rfl wx
              rw [HLD.out q, hI] at hix2
              have hb2 := (l.getD q 0).toNat_lt
              by_cases h10 : l.getD q 0 = 10
              · have HX := Lib.hid ((HLN.out q hq hnq.out (Or.inr h10)).trans HG.out)
                rw [h10] at hix2
                have hix3 : ∀ wx, (Instr.index 9 (.string s) (.int .i64 I)).run Tryd.prog wx = .ok (.int .u8 10) wx := hix2
                have hq0 : 0 < q := by
                  rcases Nat.eq_zero_or_pos q with h | h
                  · subst h; exact absurd h10 H10.out
                  · exact h
                have HI := Lib.hid hI
                rw [hI]
                clear hix2 hb2 h10 hnq hI
                go_wp2_with fail
                refine ⟨⟨p + q, by rw [HI.out], by omega, ?_, by first | trivial | rfl⟩, by have := HI.out; simp [intOf]; omega⟩
                have h := HX.out
                rw [← HLR.out q] at h
                exact h
              · obtain ⟨c2, hc2⟩ : ∃ c : Int, ((l.getD q 0).toNat : Int) = c := ⟨_, rfl⟩
                have n10 := ne_byte (b := l.getD q 0) (n := 10) (by decide) h10
                rw [hc2] at hix2 n10
                have x1 : (c2 == 10) = false := by rw [beq_eq_false_iff_ne]; exact n10
                have x2 : (c2 != 10) = true := by rw [bne_iff_ne]; exact n10
                have x3 : ¬ c2 = 10 := n10
                have HN := Lib.hid (show ∀ j, j < q + 1 → l.getD j 0 ≠ 10 by
                  intro j hj
                  by_cases h : j = q
                  · subst h; exact h10
                  · exact hnq.out j (by omega))
                have HI := Lib.hid hI
                have w3 : IntKind.i64.wrap (I + 1) = I + 1 := IntWalk.i64_in _ (by omega)
                rw [hI]
                clear hb2 h10 hnq hI hc2 n10
                go_wp2_with fail
                refine ⟨⟨q + 1, by omega, ?_, HN, by first | trivial | rfl⟩, by have := HI.out; simp [intOf]; omega⟩
                have := HI.out
                apply congrArg (Value.int IntKind.i64)
                omega
            · have hqe : q = l.length := by omega
              have v0 : decide (I < (s.size : Int)) = false := by rw [decide_eq_false_iff_not]; omega
              have v1 : ¬ I < (s.size : Int) := by omega
              have HX := Lib.hid ((HLN.out q hq hnq.out (Or.inl hqe)).trans HG.out)
              have HI := Lib.hid hI
              rw [hI]
              clear hnq hI
              go_wp2_with fail
              refine ⟨⟨p + q, by rw [HI.out], by omega, ?_, by first | trivial | rfl⟩, by have := HI.out; simp [intOf]; omega⟩
              have h := HX.out
              rw [← HLR.out q] at h
              exact h
        | false =>
          rw [hq1] at CB1
          replace CB1 := Lib.hid CB1
          cases hq2 : Lib.hasPrefix l [47, 42] with
          | false =>
            rw [hq2] at CB2
            replace CB2 := Lib.hid CB2
            have HX := Lib.hid ((gapI_stop (skip_stop hbn hq1 hq2) p).symm.trans hg.out)
            clear hix0 hg hc hbl hb255 h00 hl hll hld hldr hbn hq1 hq2 m1 m2 m3 m4
            go_wp2_with fail
            refine (CB1.out _).mono ?_
            rintro e w' ⟨rfl, rfl⟩
            go_wp2_with fail
            refine (CB2.out _).mono ?_
            rintro e w' ⟨rfl, rfl⟩
            go_wp2_with fail
            go_ret
            exact ⟨ret_int HX.out, rfl⟩
          | true =>
            rw [hq2] at CB2
            replace CB2 := Lib.hid CB2
            have hpl := Sc.prefix_len hq2
            simp only [List.length_cons, List.length_nil] at hpl
            have HSK := Lib.hid (skip_star hbn hq1 hq2)
            have HG := Lib.hid hg.out
            have HLL := Lib.hid hll
            have HLR := Lib.hid hldr
            have w2 : IntKind.i64.wrap ((p : Int) + 2) = (p : Int) + 2 := IntWalk.i64_in _ (by omega)
            clear hix0 hg hc hbl hb255 h00 hl hld hldr hbn hq1 hq2 m1 m2 m3 m4
            go_wp2_with fail
            refine (CB1.out _).mono ?_
            rintro e w' ⟨rfl, rfl⟩
            go_wp2_with fail
            refine (CB2.out _).mono ?_
            rintro e w' ⟨rfl, rfl⟩
            go_wp2_with fail
            go_loopw [6] (fun a wx => ∃ q : Nat, q + 2 ≤ l.length ∧ a = .int .i64 ((p + 2 + q : Nat) : Int) ∧ Hid (∀ j, j < q → Lib.hasPrefix ((l.drop 2).drop j) [42, 47] = false) ∧ wx = wr) (fun a _ => s.size - (intOf a).toNat)
            case atStart => exact ⟨0, hpl, by go_num, fun j hj => by omega, rfl⟩
            case round =>
              obtain ⟨q, hq, rfl, hnq, rfl⟩ := hrel
              have hll := HLL.out
              have hd2 : (l.drop 2).length = l.length - 2 := List.length_drop
              obtain ⟨I, hI⟩ : ∃ I : Int, ((p + 2 + q : Nat) : Int) = I := ⟨_, rfl⟩
              by_cases hql : q + 2 < l.length
              · have v0 : decide (I < (s.size : Int)) = true := by rw [decide_eq_true_iff]; omega
                have v1 : I < (s.size : Int) := by omega
                have v2 : decide ((s.size : Int) ≤ I) = false := by rw [decide_eq_false_iff_not]; omega
                have v3 : ¬ (s.size : Int) ≤ I := by omega
                have CB3 := fun w' => begins_any s ⟨#[42, 47]⟩ (p + 2 + q) w' (by omega) (by decide) (by omega)
                rw [show (⟨#[42, 47]⟩ : ByteArray).data.toList = [42, 47] from rfl, Nat.add_assoc, HLR.out (2 + q), ← List.drop_drop, ← Nat.add_assoc, hI] at CB3
                have HI := Lib.hid hI
                cases hq3 : Lib.hasPrefix ((l.drop 2).drop q) [42, 47] with
                | false =>
                  rw [hq3] at CB3
                  replace CB3 := Lib.hid CB3
                  have HN := Lib.hid (show ∀ j, j < q + 1 → Lib.hasPrefix ((l.drop 2).drop j) [42, 47] = false by
                    intro j hj
                    by_cases h : j = q
                    · subst h; exact hq3
                    · exact hnq.out j (by omega))
                  have w3 : IntKind.i64.wrap (I + 1) = I + 1 := IntWalk.i64_in _ (by omega)
                  rw [hI]
                  clear hnq hI hq3
                  go_wp2_with fail
                  refine (CB3.out _).mono ?_
                  rintro e w' ⟨rfl, rfl⟩
                  go_wp2_with fail
                  refine ⟨⟨q + 1, by omega, ?_, HN, by first | trivial | rfl⟩, by have := HI.out; simp [intOf]; omega⟩
                  have := HI.out
                  apply congrArg (Value.int IntKind.i64)
                  omega
                | true =>
                  rw [hq3] at CB3
                  replace CB3 := Lib.hid CB3
                  obtain ⟨y1, y2⟩ := star_yes (i := q) (by omega) hnq.out hq3
                  have hp3 := Sc.prefix_len hq3
                  rw [List.length_drop, hd2] at hp3
                  simp only [List.length_cons, List.length_nil] at hp3
                  have hsk := HSK.out
                  rw [if_pos y1, y2] at hsk
                  have hgo := gapI_go hsk p
                  have HX := Lib.hid (hgo.trans HG.out)
                  have w3 : IntKind.i64.wrap (I + 2) = I + 2 := IntWalk.i64_in _ (by omega)
                  rw [hI]
                  clear hnq hI hq3 y1 y2 hsk hgo
                  go_wp2_with fail
                  refine (CB3.out _).mono ?_
                  rintro e w' ⟨rfl, rfl⟩
                  go_wp2_with fail
                  refine ⟨⟨p + (q + 4), ?_, by omega, ?_, by first | trivial | rfl⟩, by have := HI.out; simp [intOf]; omega⟩
                  · have := HI.out
                    apply congrArg (Value.int IntKind.i64)
                    omega
                  · have h := HX.out
                    rw [← HLR.out (q + 4)] at h
                    exact h
              · have v0 : decide (I < (s.size : Int)) = false := by rw [decide_eq_false_iff_not]; omega
                have v1 : ¬ I < (s.size : Int) := by omega
                have v2 : decide ((s.size : Int) ≤ I) = true := by rw [decide_eq_true_iff]; omega
                have v3 : (s.size : Int) ≤ I := by omega
                have hno := star_no (l := l.drop 2) (fun j hj => hnq.out j (by omega))
                have hsk := HSK.out
                rw [if_neg (by rw [hno]; simp)] at hsk
                have HX := Lib.hid ((gapI_fail hsk p).symm.trans HG.out)
                have w3 : IntKind.i64.wrap (-1 - (p : Int)) = -1 - (p : Int) := IntWalk.i64_in _ (by omega)
                rw [hI]
                clear hnq hI hno hsk
                go_wp2_with fail
                go_ret
                exact ⟨ret_int HX.out, rfl⟩
    · have t0 : decide (p < s.size) = false := by rw [decide_eq_false_iff_not]; exact hlt
      have HX := Lib.hid (show (p : Int) = gapI (s.data.toList.drop k) k by
        rw [← hg.out, List.drop_eq_nil_of_le (by rw [← Lib.size_eq]; omega)]
        exact (gapI_stop Sc.skip_nil p).symm)
      clear hg
      go_wp2_with fail
      go_ret
      exact ⟨ret_int HX.out, rfl⟩
end Go.Proofs.YtokpknjmcegkaaaDoor
namespace Go.Proofs.YtokpknjmcegkaaaDoor
open Go Go.RowKit Ru
set_option maxRecDepth 100000

def rcells (l : List UInt8) (sv : Value) (d : Sc.W) : List Value := [.int .i64 d.kind, .string ⟨d.text.toArray⟩, sv, .int .i64 d.pos, .int .i64 (place (l.take d.pos)).1, .int .i64 (place (l.take d.pos)).2]
def rwords (l : List UInt8) (svs : List Value) (ds : List Sc.W) : List Value := (List.zipWith (rcells l) svs ds).flatten
theorem rwords_snoc (l : List UInt8) (svs : List Value) (ds : List Sc.W) (sv : Value) (d : Sc.W) (h : svs.length = ds.length) : rwords l (svs ++ [sv]) (ds ++ [d]) = rwords l svs ds ++ rcells l sv d := by
  unfold rwords
  rw [List.zipWith_append h]
  simp
theorem rwords_at (l : List UInt8) : ∀ (svs : List Value) (ds : List Sc.W) (i j : Nat) (sv : Value) (d : Sc.W), svs.length = ds.length → svs[i]? = some sv → ds[i]? = some d → j < 6 → (rwords l svs ds)[i * 6 + j]? = (rcells l sv d)[j]?
  | [], _, _, _, _, _, _, h, _, _ => by simp at h
  | _ :: _, [], _, _, _, _, h, _, _, _ => by simp at h
  | s0 :: svs, d0 :: ds, 0, j, sv, d, hl, h1, h2, hj => by
    simp at h1 h2
    subst h1 h2
    have e : (rcells l s0 d0).length = 6 := rfl
    unfold rwords
    simp only [List.zipWith_cons_cons, List.flatten_cons, Nat.zero_mul, Nat.zero_add]
    rw [List.getElem?_append_left (by omega)]
  | s0 :: svs, d0 :: ds, i + 1, j, sv, d, hl, h1, h2, hj => by
    have := rwords_at l svs ds i j sv d (by simpa using hl) (by simpa using h1) (by simpa using h2) hj
    have e : (rcells l s0 d0).length = 6 := rfl
    unfold rwords at this ⊢
    simp only [List.zipWith_cons_cons, List.flatten_cons]
    rw [List.getElem?_append_right (by omega), e, show (i + 1) * 6 + j - 6 = i * 6 + j by omega]
    exact this
def WordsR (w : World) (B : Nat) (v : Value) (l : List UInt8) (ds : List Sc.W) : Prop :=
  ∃ svs : List Value, svs.length = ds.length ∧ Row w B 60 6 v ds.length (rwords l svs ds) ∧ ∀ (i : Nat) sv d, svs[i]? = some sv → ds[i]? = some d → SetAt w B sv d.set
theorem WordsR.below {w w' : World} {B : Nat} {v : Value} {l : List UInt8} {ds : List Sc.W} (h : WordsR w B v l ds) (hb : Below w.heap.size w w') : WordsR w' B v l ds := by
  obtain ⟨svs, h1, h2, h3⟩ := h
  exact ⟨svs, h1, h2.below hb, fun i sv d k1 k2 => (h3 i sv d k1 k2).below hb⟩
/-- v reads as the words ds of the text l, of kinds in kk. -/
def ReadW (kk : IntKind) (w : World) (v : Value) (l : List UInt8) (ds : List Sc.W) : Prop := ∃ a cap, v = .slice a ds.length cap ∧
  ∀ (i : Nat) d, ds[i]? = some d → ∃ g o sv, a = some ⟨g, o, none⟩ ∧ w.cell? ⟨g, o + i * 6, none⟩ = some (.int kk d.kind) ∧ w.cell? ⟨g, o + i * 6 + 1, none⟩ = some (.string ⟨d.text.toArray⟩) ∧ w.cell? ⟨g, o + i * 6 + 2, none⟩ = some sv ∧
    w.cell? ⟨g, o + i * 6 + 3, none⟩ = some (.int .i64 d.pos) ∧ w.cell? ⟨g, o + i * 6 + 4, none⟩ = some (.int .i64 (place (l.take d.pos)).1) ∧ w.cell? ⟨g, o + i * 6 + 5, none⟩ = some (.int .i64 (place (l.take d.pos)).2) ∧ ReadSet w sv d.set
theorem ReadW.nil (kk : IntKind) (w : World) (l : List UInt8) : ReadW kk w (.slice none 0 0) l [] := ⟨none, 0, rfl, fun i d h => by simp at h⟩
theorem Words.read {w : World} {B : Nat} {v : Value} {l : List UInt8} {ds : List Sc.W} (h : Words w B v l ds) : ReadW .u8 w v l ds := by
  obtain ⟨A, cap, hv, _⟩ := h.choose_spec.2.1.form
  subst hv
  refine ⟨A, cap, rfl, fun i d hd => ?_⟩
  have hi := (List.getElem?_eq_some_iff.1 hd).1
  obtain ⟨g, hA, _, _, hc⟩ := h.at (by omega)
  obtain ⟨sv, hs, c0, c1, c2, c3, c4, c5⟩ := hc i d hd
  refine ⟨g, 0, sv, hA, ?_⟩
  rw [Nat.zero_add]
  exact ⟨c0, c1, c2, c3, c4, c5, hs.read⟩
theorem WordsR.read {w : World} {B : Nat} {v : Value} {l : List UInt8} {ds : List Sc.W} (h : WordsR w B v l ds) : ReadW .i64 w v l ds := by
  obtain ⟨svs, h1, h2, h3⟩ := h
  obtain ⟨A, cap, hv, _⟩ := h2.form
  subst hv
  refine ⟨A, cap, rfl, fun i d hd => ?_⟩
  have hi : i < ds.length := (List.getElem?_eq_some_iff.1 hd).1
  obtain ⟨g, cap', hA, _⟩ := h2.some_ (by omega)
  injection hA with hA _ hcc
  subst hA hcc
  have hsv : svs[i]? = some (svs[i]'(by omega)) := List.getElem?_eq_getElem (by omega)
  refine ⟨g, 0, svs[i]'(by omega), rfl, ?_⟩
  have key : ∀ j, j < 6 → w.cell? ⟨g, i * 6 + j, none⟩ = (rcells l (svs[i]'(by omega)) d)[j]? := fun j hj => by
    rw [h2.cell (i * 6 + j) (by omega), rwords_at l svs ds i j _ d h1 hsv hd hj]
  rw [Nat.zero_add]
  exact ⟨key 0 (by omega), key 1 (by omega), key 2 (by omega), key 3 (by omega), key 4 (by omega), key 5 (by omega), (h3 i _ d hsv hd).read⟩
set_option maxHeartbeats 4000000 in
theorem Same_yes (ds : List Sc.W) (l : List UInt8) (u v : Value) (w : World) (hN : ds.length ≤ 1000000) (hst : ∀ (i : Nat) d, ds[i]? = some d → d.set.length ≤ 1000000 ∧ d.kind ≤ 4) (hu : ReadW .u8 w u l ds) (hv : ReadW .i64 w v l ds) :
    Calls Tryd.prog 10 #[u, v] w fun e w' => e = .returned (.bool true) ∧ ∃ n, w' = w.drewN n := by
  obtain ⟨a, c, rfl, ha⟩ := hu
  obtain ⟨b, c', rfl, hb⟩ := hv
  obtain ⟨N, hNe⟩ : ∃ N, ds.length = N := ⟨_, rfl⟩
  have HN := Lib.hid hNe
  have HA := Lib.hid ha
  have HB := Lib.hid hb
  have HST := Lib.hid hst
  rw [hNe] at hN ⊢
  clear hNe ha hb hst
  go_enter Tryd.func10, Tryd.ntmps10
  go_wp2_with fail
  go_loopw [5] (fun i wr => ∃ k n : Nat, k ≤ N ∧ i = .int .i64 k ∧ wr = w.drewN n) (fun i _ => N - (intOf i).toNat)
  case atStart => exact ⟨0, 0, Nat.zero_le _, rfl, rfl⟩
  case round =>
    obtain ⟨k, n, hk, rfl, rfl⟩ := hrel
    by_cases hlt : k < N
    · obtain ⟨d, hd⟩ : ∃ d, ds[k]? = some d := ⟨ds[k]'(by have := HN.out; omega), List.getElem?_eq_getElem _⟩
      obtain ⟨g1, o1, s1, rfl, x0, x1, x2, x3, x4, x5, x6⟩ := HA.out k d hd
      obtain ⟨g2, o2, s2, rfl, y0, y1, y2, y3, y4, y5, y6⟩ := HB.out k d hd
      obtain ⟨zs, zk⟩ := HST.out k d hd
      obtain ⟨T, hT⟩ : ∃ T : ByteArray, (⟨d.text.toArray⟩ : ByteArray) = T := ⟨_, rfl⟩
      rw [hT] at x1 y1
      obtain ⟨K, hK⟩ : ∃ K : Int, (d.kind : Int) = K := ⟨_, rfl⟩
      obtain ⟨P, hP⟩ : ∃ K : Int, (d.pos : Int) = K := ⟨_, rfl⟩
      obtain ⟨L, hL⟩ : ∃ K : Int, ((place (l.take d.pos)).1 : Int) = K := ⟨_, rfl⟩
      obtain ⟨C, hC⟩ : ∃ K : Int, ((place (l.take d.pos)).2 : Int) = K := ⟨_, rfl⟩
      rw [hK] at x0 y0
      rw [hP] at x3 y3
      rw [hL] at x4 y4
      rw [hC] at x5 y5
      have q1 : IntKind.i64.wrap K = K := IntWalk.i64_in _ (by omega)
      have q2 : wrap64 K = K := by unfold wrap64; omega
      have CS := Lib.hid (fun m => SameSet_yes d.set s1 s2 (w.drewN m) zs (x6.drewN m) (y6.drewN m))
      have d0 : decide (k < N) = true := by rw [decide_eq_true_iff]; exact hlt
      have a0 : (k : Int) < (N : Int) := by omega
      clear hd x6 y6 zs hT hK hP hL hC zk
      go_wp2_with fail
      go_quiet ((go_at_call 15; exact quiet_at (CS.out _)))
      go_wp2_with fail
      exact ⟨⟨k + 1, n + nq, by omega, by go_num, rfl⟩, by simp [intOf]; omega⟩
    · have d0 : decide (k < N) = false := by rw [decide_eq_false_iff_not]; exact hlt
      go_wp2_with fail
      go_ret
      exact ⟨rfl, n, rfl⟩
/-- Ahead of the first bad place all is runes. -/
theorem bd_off : ∀ (f : Nat) (l : List UInt8) (k d : Nat), bd f l k ≠ -1 → bd f l (k + d) = bd f l k + d
  | 0, _, _, _, h => absurd rfl h
  | f + 1, l, k, d, h => by
    unfold bd at h ⊢
    split
    · rename_i hl
      rw [if_pos hl] at h
      exact absurd rfl h
    · rename_i hl
      rw [if_neg hl] at h
      split
      · omega
      · rename_i hd
        rw [if_neg hd] at h
        have := bd_off f _ _ d h
        rw [Nat.add_right_comm] at this
        exact this
theorem good_take : ∀ (n : Nat) (l : List UInt8) (p : Nat), l.length ≤ n → bad l = (p : Int) → Sc.Good (l.take p)
  | n, [], p, _, h => by
    have : bad ([] : List UInt8) = -1 := rfl
    rw [this] at h
    omega
  | 0, _ :: _, _, h, _ => by simp at h
  | n + 1, a :: r, p, hl, h => by
    obtain ⟨l, hle⟩ : ∃ l, a :: r = l := ⟨_, rfl⟩
    have hne : l ≠ [] := by rw [← hle]; simp
    rw [hle] at h hl ⊢
    have hw := Lib.decodeL_width l
    have hle2 := Lib.decodeL_le l hne
    have h' := h
    unfold bad at h
    rw [bd_step _ l 0 hne (Nat.le_refl _)] at h
    by_cases hd : Lib.decodeL l = (65533, 1)
    · rw [if_pos hd] at h
      have : p = 0 := by omega
      subst this
      exact Sc.Good.nil
    · rw [if_neg hd] at h
      have hdl : (l.drop (Lib.decodeL l).2).length ≤ l.length := by rw [List.length_drop]; omega
      rw [bd_fuel l.length (l.drop (Lib.decodeL l).2).length _ _ hdl (Nat.le_refl _), Nat.zero_add] at h
      have hbn : bd (l.drop (Lib.decodeL l).2).length (l.drop (Lib.decodeL l).2) 0 ≠ -1 := by
        intro e
        have := Sc.bd_shift _ _ 0 (Lib.decodeL l).2 e
        omega
      have ho := bd_off _ _ 0 (Lib.decodeL l).2 hbn
      rw [Nat.zero_add] at ho
      have hge := bd_range (l.drop (Lib.decodeL l).2).length (l.drop (Lib.decodeL l).2) 0
      obtain ⟨q, hq⟩ : ∃ q : Nat, bd (l.drop (Lib.decodeL l).2).length (l.drop (Lib.decodeL l).2) 0 = (q : Int) := ⟨(bd (l.drop (Lib.decodeL l).2).length (l.drop (Lib.decodeL l).2) 0).toNat, by omega⟩
      have hpq : p = (Lib.decodeL l).2 + q := by omega
      have ih := good_take n (l.drop (Lib.decodeL l).2) q (by rw [List.length_drop]; omega) hq
      have henc := (enc_of_dec hne hd).1
      have hv := Sc.decode_valid l hd
      have e : l.take p = encL ((Lib.decodeL l).1 : Int) ++ (l.drop (Lib.decodeL l).2).take q := by rw [hpq, List.take_add, henc]
      have hlen : (encL ((Lib.decodeL l).1 : Int)).length = (Lib.decodeL l).2 := by rw [henc, List.length_take]; omega
      have hdec := decode_enc_app ((Lib.decodeL l).1 : Int) ((l.drop (Lib.decodeL l).2).take q) hv
      have hbad := (decode_enc ((Lib.decodeL l).1 : Int) hv).2.2
      rw [(decode_enc ((Lib.decodeL l).1 : Int) hv).1] at hbad
      rw [e]
      refine (Sc.good_iff ?_).2 ⟨?_, ?_⟩
      · intro e0
        have := congrArg List.length e0
        rw [List.length_append, hlen] at this
        simp at this
        omega
      · rw [hdec]; exact hbad
      · rw [hdec]
        dsimp only
        rw [List.drop_left]
        exact ih
end Go.Proofs.YtokpknjmcegkaaaDoor
namespace Go.Proofs.YtokpknjmcegkaaaDoor
open Go Go.RowKit Ru
set_option maxRecDepth 100000

def MemR (s : ByteArray) (w : World) (v : Value) (svs : List Value) (ds : List Sc.W) (wr : World) : Prop :=
  Bk wr w.heap.size 26 #[.int .i64 0, .int .i64 0, .int .i64 0] ∧ svs.length = ds.length ∧ wr.ownsRow (w.heap.size + 1) 60 6 v ds.length (rwords s.data.toList svs ds) ∧
  (∀ (i : Nat) sv d, svs[i]? = some sv → ds[i]? = some d → SetAt wr (w.heap.size + 1) sv d.set) ∧ Below w.heap.size w wr
theorem MemR.below {s : ByteArray} {w : World} {v : Value} {svs : List Value} {ds : List Sc.W} {wr w1 : World} (h : MemR s w v svs ds wr) (hb : Below wr.heap.size wr w1) : MemR s w v svs ds w1 := by
  obtain ⟨h1, h3, h4, h5, h6⟩ := h
  exact ⟨h1.below hb h1.lt, h3, own_below h4 hb, fun i sv d k1 k2 => (h5 i sv d k1 k2).below hb, h6.trans (hb.mono h6.size)⟩
theorem MemR.push {s : ByteArray} {w : World} {v v' : Value} {svs : List Value} {ds : List Sc.W} {wr w1 : World} {sv : Value} {d : Sc.W} (h : MemR s w v svs ds wr) (hset : SetAt wr (w.heap.size + 1) sv d.set)
    (hown : w1.ownsRow (w.heap.size + 1) 60 6 v' (ds.length + 1) (rwords s.data.toList svs ds ++ rcells s.data.toList sv d)) (hg : wr.grownBy w1 v.ownBlock) : MemR s w v' (svs ++ [sv]) (ds ++ [d]) w1 := by
  obtain ⟨h1, h3, h4, h5, h6⟩ := h
  have hr : ∀ (e : TypeId), e ≠ 60 → ∀ b, v.ownBlock = some b → ∃ t cs, Bk wr b t cs ∧ e ≠ t := by
    intro e he b hb
    obtain ⟨cs, hcs⟩ := own_row h4 hb
    exact ⟨_, _, hcs, he⟩
  refine ⟨h1.grown hg ?_, by simp [h3], ?_, ?_, h6.grown hg h6.size ?_⟩
  · intro e
    have := (h4.lt _ e.symm).1
    omega
  · rw [rwords_snoc _ _ _ _ _ h3, List.length_append]
    exact hown
  · intro i sv2 d2 k1 k2
    by_cases hi : i < ds.length
    · rw [List.getElem?_append_left (by omega)] at k1 k2
      exact Row.grown (h5 i sv2 d2 k1 k2) hg (hr _ (by decide))
    · rw [List.getElem?_append_right (by omega)] at k1 k2
      have hi2 : i - ds.length = 0 := by
        rcases Nat.eq_zero_or_pos (i - ds.length) with h0 | h0
        · exact h0
        · rw [List.getElem?_eq_none (by simp; omega)] at k2; cases k2
      rw [h3, hi2] at k1
      rw [hi2] at k2
      simp at k1 k2
      subst k1 k2
      exact Row.grown hset hg (hr _ (by decide))
  · intro b hb
    have := (h4.lt _ hb).1
    omega
/-- What the chapter's Scan answers. -/
def ToldR (s : ByteArray) (w : World) (e : Ending) (w' : World) : Prop :=
  (∃ c p, Sc.scanL s.data.toList = .err c p ∧ p ≤ s.size ∧ e = .returned (.tuple #[.slice none 0 0, .int .i64 c, .agg #[.int .i64 p, .int .i64 (place (s.data.toList.take p)).1, .int .i64 (place (s.data.toList.take p)).2]]) ∧ Below w.heap.size w w') ∨
  (∃ ds v, Sc.scanL s.data.toList = .ok ds ∧ e = .returned (.tuple #[v, .int .i64 0, .agg #[.int .i64 0, .int .i64 0, .int .i64 0]]) ∧ WordsR w' (w.heap.size + 1) v s.data.toList ds ∧ Below w.heap.size w w')
set_option maxHeartbeats 2000000 in
theorem RScan_bad (s : ByteArray) (w : World) (hs : s.size ≤ 65536) (p : Nat) (h : bad s.data.toList = p) :
    Calls Tryd.prog 9 #[.string s] w (ToldR s w) := by
  have hp : p ≤ s.size := by
    rcases bd_range s.data.toList.length s.data.toList 0 with h1 | ⟨_, h1⟩
    · unfold bad at h; omega
    · unfold bad at h
      rw [← Lib.size_eq] at *
      omega
  have h0 : ¬ 65536 < s.size := by omega
  have d0 : decide ((65536 : Int) < (s.size : Int)) = false := by rw [decide_eq_false_iff_not]; omega
  have HS := Lib.hid (show Sc.scanL s.data.toList = .err 4 p by
    unfold Sc.scanL
    rw [if_neg (by rw [← Lib.size_eq]; omega), if_pos (by omega), h]
    rfl)
  have CB := fun w' => refBad_any s w' (by omega)
  rw [h] at CB
  replace CB := Lib.hid CB
  have CP := fun w' => refPlace_any s p w' (by omega) hp (good_take _ _ _ (Nat.le_refl _) h)
  obtain ⟨L, hL⟩ : ∃ L : Int, ((place (s.data.toList.take p)).1 : Int) = L := ⟨_, rfl⟩
  obtain ⟨C, hC⟩ : ∃ C : Int, ((place (s.data.toList.take p)).2 : Int) = C := ⟨_, rfl⟩
  rw [hL, hC] at CP
  replace CP := Lib.hid CP
  have HL := Lib.hid hL
  have HC := Lib.hid hC
  have e0 : decide ((0 : Int) ≤ (p : Int)) = true := by rw [decide_eq_true_iff]; omega
  have e1 : (0 : Int) ≤ (p : Int) := by omega
  clear h hL hC
  go_enter Tryd.func9, Tryd.ntmps9
  go_wp2_with fail
  refine (CB.out _).mono ?_
  rintro e w1 ⟨rfl, b1⟩
  have K1 := Lib.hid ((Bk.made w 26 #[.int .i64 0, .int .i64 0, .int .i64 0]).below b1 (by simp))
  have B1 := Lib.hid (((Below.refl _ w).alloc (Nat.le_refl _) (.cells #[.int .i64 0, .int .i64 0, .int .i64 0] 26)).trans (b1.mono (by simp)))
  clear b1
  go_wp2_with fail
  refine (CP.out _).mono ?_
  rintro e w2 ⟨rfl, b2⟩
  have K2 := Lib.hid (K1.out.below b2 K1.out.lt)
  have B2 := Lib.hid (B1.out.trans (b2.mono B1.out.size))
  clear b2 K1 B1
  have c0 := K2.out.cell 0
  have c1 := K2.out.cell 1
  have c2 := K2.out.cell 2
  have f0 := K2.out.free 0
  have f1 := K2.out.free 1
  have f2 := K2.out.free 2
  simp at c0 c1 c2
  have G := Lib.hid (((K2.out.set 0 (.int .i64 p)).set 1 (.int .i64 L)).set 2 (.int .i64 C))
  go_wp2_with fail
  refine bodyPost_ret (v := .tuple #[.slice none 0 0, .int .i64 4, .agg #[.int .i64 p, .int .i64 L, .int .i64 C]]) ?_ rfl ?_
  · have y0 := G.out.cell 0
    have y1 := G.out.cell 1
    have y2 := G.out.cell 2
    clear c0 c1 c2 f0 f1 f2
    simp at y0 y1 y2
    simp [results, Tryd.results9, go_sem, y0, y1, y2]
  · refine .inl ⟨4, p, HS.out, hp, by rw [HL.out, HC.out]; rfl, ?_⟩
    exact ((B2.out.setCell (by simp) _).setCell (by simp) _).setCell (by simp) _
end Go.Proofs.YtokpknjmcegkaaaDoor
