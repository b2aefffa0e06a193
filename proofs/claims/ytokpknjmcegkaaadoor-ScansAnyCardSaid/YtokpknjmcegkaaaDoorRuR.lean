/- What the reading of a rune's text hands back: for RunesBack. -/
import Derived.Test.YtokpknjmcegkaaaDoorRuK
import Derived.Test.YtokpknjmcegkaaaDoorRuQ
namespace Go.Proofs.YtokpknjmcegkaaaDoor
open Go Go.RowKit Ru

theorem hexv_hexd : ∀ k : Fin 16, hexv (hexd k.val) = some k.val := by decide +kernel
theorem hexd_ne : ∀ k : Fin 16, hexd k.val ≠ 125 := by decide +kernel
theorem hexN_append : ∀ (l y : List UInt8) (acc n : Nat), hexN acc l = some n → hexN acc (l ++ y) = hexN n y
  | [], y, acc, n, h => by simp only [hexN, Option.some.injEq] at h; subst h; rfl
  | c :: l, y, acc, n, h => by
    cases hv : hexv c with
    | none => rw [hexN_none hv] at h; cases h
    | some d => rw [hexN_some hv] at h; rw [List.cons_append, hexN_some hv]; exact hexN_append l y _ n h
theorem hexN_hexL (n : Nat) : hexN 0 (hexL n) = some n := by
  induction n using Nat.strongRecOn with
  | ind n ih =>
    by_cases h : n < 16
    · rw [hexL_low h, hexN_some (hexv_hexd ⟨n, h⟩)]; simp [hexN]
    · rw [hexL_high h, hexN_append _ _ _ _ (ih (n / 16) (by omega)), hexN_some (hexv_hexd ⟨n % 16, by omega⟩)]
      simp only [hexN, Option.some.injEq]; omega
theorem hexL_ne (n : Nat) : ∀ c ∈ hexL n, c ≠ 125 := by
  induction n using Nat.strongRecOn with
  | ind n ih =>
    intro c hc
    by_cases h : n < 16
    · rw [hexL_low h, List.mem_singleton] at hc; subst hc; exact hexd_ne ⟨n, h⟩
    · rw [hexL_high h, List.mem_append, List.mem_singleton] at hc
      rcases hc with hc | rfl
      · exact ih (n / 16) (by omega) c hc
      · exact hexd_ne ⟨n % 16, by omega⟩
theorem index_behind : ∀ (l y : List UInt8) (c : UInt8), (∀ b ∈ l, b ≠ c) → Lib.indexByte (l ++ c :: y) c = l.length
  | [], y, c, _ => by simp [Lib.indexByte]
  | b :: l, y, c, h => by
    have ih := index_behind l y c (fun d hd => h d (List.mem_cons_of_mem _ hd))
    have hb : (b == c) = false := by simpa using h b List.mem_cons_self
    rw [List.cons_append, Lib.indexByte, ih, hb]
    have : ((l.length : Int) == -1) = false := by rw [beq_eq_false_iff_ne]; omega
    simp [this]
theorem cut_behind (l y : List UInt8) (c : UInt8) (h : ∀ b ∈ l, b ≠ c) : Lib.cut (l ++ c :: y) [c] = (l, y, true) := by
  unfold Lib.cut
  rw [Lib.index_one, index_behind l y c h, if_pos (by omega)]
  simp only [Int.toNat_natCast, List.length_singleton, Prod.mk.injEq, and_true]
  refine ⟨by simp, ?_⟩
  have e : l ++ c :: y = (l ++ [c]) ++ y := by simp
  rw [e, show l.length + 1 = (l ++ [c]).length by simp, List.drop_left]
theorem numV_hexL (n : Nat) (x : List UInt8) (h : Go.validRune n = true) : numV (hexL n ++ 125 :: x) = some (n, (hexL n).length + 4) := by
  have hn : n ≤ 1114111 := by rw [valid_iff] at h; omega
  have hl := hexL_length_le 5 n (by omega)
  have hp := hexL_length_pos n
  have ht : (hexL n ++ 125 :: x).take 7 = hexL n ++ 125 :: x.take (6 - (hexL n).length) := by
    rw [List.take_append, List.take_of_length_le (by omega)]
    obtain ⟨j, hj⟩ : ∃ j, 7 - (hexL n).length = j + 1 := ⟨6 - (hexL n).length, by omega⟩
    rw [hj, List.take_succ_cons, show 6 - (hexL n).length = j by omega]
  have hP : hexP (hexL n) = some n := by
    unfold hexP
    rw [if_neg (by intro hh; rw [hh] at hp; simp at hp), hexN_hexL]
  unfold numV
  rw [ht, cut_behind _ _ _ (hexL_ne n), if_pos rfl]
  simp only [hP, h, if_true]
theorem escL_num (r : Int) (x : List UInt8) (h : Go.validRune r = true) (h1 : r < 32 ∨ 126 < r) (hs : sign r = 0) : escL (text r ++ x) = some (r.toNat, (text r).length) := by
  have h0 : 0 ≤ r := by rw [valid_iff] at h; omega
  rw [text_num h h1 hs]
  unfold escL
  rw [if_pos (by simp [Lib.hasPrefix])]
  have e : ([92, 117, 123] ++ hexL r.toNat ++ [125] ++ x).drop 3 = hexL r.toNat ++ 125 :: x := by simp
  rw [e, numV_hexL _ _ (by rw [Int.toNat_of_nonneg h0]; exact h)]
  simp
theorem sign_back (r : Int) (hs : sign r ≠ 0) : unsign (sign r) = r.toNat ∧ sign r ≠ 117 ∧ unsign (sign r) ≠ 0 ∧ 0 ≤ r ∧ r ≤ 93 := by
  rcases sign_cases r with rfl | rfl | rfl | rfl | rfl | rfl | rfl | rfl | h
  all_goals first | exact absurd h.1 hs | decide +kernel
theorem escL_sign (r : Int) (x : List UInt8) (h : Go.validRune r = true) (hs : sign r ≠ 0) : escL (text r ++ x) = some (r.toNat, (text r).length) := by
  obtain ⟨h1, h2, h3, _⟩ := sign_back r hs
  rw [text_sign h hs]
  unfold escL
  rw [if_neg (by simp [Lib.hasPrefix, Ne.symm h2]), if_neg (by simp), if_pos (by simp), if_neg (by simpa using h3)]
  simp [h1]
theorem escL_self (c : UInt8) : escL [c] = none := by
  unfold escL
  rw [if_neg (by simp [Lib.hasPrefix]), if_pos (by simp)]
theorem text_ne (r : Int) (h : Go.validRune r = true) : text r ≠ [] := by
  unfold text
  rw [if_neg (by simp [h])]
  split
  · simp
  · split <;> simp
/-- The rune whose text l is. -/
def back (l : List UInt8) : Nat := match escL l with | some (n, _) => n | none => (l.getD 0 0).toNat
theorem text_back (r : Int) (h : Go.validRune r = true) : back (text r) = r.toNat := by
  have h0 : 0 ≤ r := by rw [valid_iff] at h; omega
  by_cases hs : sign r = 0
  · by_cases h1 : 32 ≤ r ∧ r ≤ 126
    · rw [text_self h1.1 h1.2 hs, back, escL_self]
      simp only [List.getD_cons_zero]
      exact ofNat_toNat _ (by omega)
    · have := escL_num r [] h (by omega) hs
      rw [List.append_nil] at this
      rw [back, this]
  · have := escL_sign r [] h hs
    rw [List.append_nil] at this
    rw [back, this]
theorem text_inj (q r : Int) (h : Go.validRune r = true) : text q = text r ↔ q = r := by
  refine ⟨fun e => ?_, fun e => by rw [e]⟩
  cases hq : Go.validRune q
  · rw [text_no hq] at e
    exact absurd e.symm (text_ne r h)
  · have := congrArg back e
    rw [text_back q hq, text_back r h] at this
    rw [valid_iff] at h hq
    omega
theorem encL_len (r : Int) (h : Go.validRune r = true) : 1 ≤ (encL r).length ∧ (encL r).length ≤ 4 ∧ (r < 128 → encL r = [UInt8.ofNat r.toNat]) := by
  have hv := h
  rw [valid_iff] at h
  unfold encL
  rw [encB_yes hv]
  by_cases h1 : r < 128
  · rw [encode_1 (by omega) h1]; simp
  by_cases h2 : r < 2048
  · rw [encode_2 (by omega) h2]; simp; omega
  by_cases h3 : r < 65536
  · rw [encode_3 hv (by omega) h3]; simp; omega
  · rw [encode_4 (by omega) (by omega)]; simp; omega
theorem text_is_enc (r : Int) (h : Go.validRune r = true) : text r = encL r ↔ (32 ≤ r ∧ r ≤ 126 ∧ sign r = 0) := by
  obtain ⟨hl1, hl2, hl3⟩ := encL_len r h
  by_cases hs : sign r = 0
  · by_cases h1 : 32 ≤ r ∧ r ≤ 126
    · rw [text_self h1.1 h1.2 hs, hl3 (by omega)]
      simp [h1.1, h1.2, hs]
    · refine ⟨fun e => ?_, fun e => absurd ⟨e.1, e.2.1⟩ h1⟩
      rw [text_num h (by omega) hs] at e
      have := congrArg List.length e
      have hp := hexL_length_pos r.toNat
      simp only [List.length_append, List.length_cons, List.length_nil] at this
      omega
  · refine ⟨fun e => ?_, fun e => absurd e.2.2 hs⟩
    obtain ⟨_, _, _, _, h4⟩ := sign_back r hs
    rw [text_sign h hs, hl3 (by omega)] at e
    simp at e
theorem escL_text (r : Int) (x : List UInt8) (h : Go.validRune r = true) (hn : text r ≠ encL r) : escL (text r ++ x) = some (r.toNat, (text r).length) := by
  by_cases hs : sign r = 0
  · refine escL_num r x h ?_ hs
    rw [ne_eq, text_is_enc r h] at hn
    simp only [hs, and_true] at hn
    omega
  · exact escL_sign r x h hs
theorem text_len (r : Int) : (text r).length ≤ 10 := by
  unfold text
  split
  · simp
  · rename_i hv
    split
    · simp
    · split
      · simp
      · have hn : r.toNat < 16 ^ 6 := by
          rw [Bool.not_eq_false, valid_iff] at hv; omega
        have := hexL_length_le 5 r.toNat hn
        simp only [List.length_append, List.length_cons, List.length_nil]
        omega
end Go.Proofs.YtokpknjmcegkaaaDoor
