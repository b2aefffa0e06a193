/- Plain facts on texts as runes: decoding, the first bad place, places. Nothing of the program stands here. -/
import Derived.Test.YtagbpkabfjnplaaDoorRuM
import Derived.Lib.TrimUEq
import Derived.Lib.MapLaws
namespace Go.Proofs.YtagbpkabfjnplaaDoor.Ru
open Go Go.Lib

theorem getD_app_lt (l x : List UInt8) (k : Nat) (h : k < l.length) : (l ++ x).getD k 0 = l.getD k 0 := by
  simp [List.getD, List.getElem?_append_left h]
theorem getD_app_mid (l y : List UInt8) (c : UInt8) : (l ++ c :: y).getD l.length 0 = c := by
  simp [List.getD]
theorem getD_ge (l : List UInt8) (k : Nat) (h : l.length ≤ k) : l.getD k 0 = 0 := by
  simp [List.getD, List.getElem?_eq_none h]

/-- What is a rune's stays so whatever follows. -/
theorem decodeL_app (l x : List UInt8) (hne : l ≠ []) (h : decodeL l ≠ (65533, 1)) : decodeL (l ++ x) = decodeL l := by
  have hl : 0 < l.length := List.length_pos_iff.2 hne
  rw [decodeL_N] at h ⊢
  rw [decodeL_N, List.length_append]
  have g0 := getD_app_lt l x 0 hl
  rcases decodeN_shape l.length (l.getD 0 0).toNat (l.getD 1 0).toNat (l.getD 2 0).toNat (l.getD 3 0).toNat with ⟨c, e⟩ | ⟨c1, c2, c3, cv, e⟩ | ⟨c1, c2, c3, c4, cv, cs, e⟩ | ⟨c1, c2, c3, c4, c5, cv, cw, e⟩ | e
  · rw [e, g0]; unfold decodeN; rw [if_pos c]
  · have g1 := getD_app_lt l x 1 c2
    rw [e, g0, g1]; unfold decodeN
    rw [if_neg (by omega), if_pos ⟨c1, by omega, c3⟩, if_pos cv]
  · have g1 := getD_app_lt l x 1 (by omega)
    have g2 := getD_app_lt l x 2 c2
    rw [e, g0, g1, g2]; unfold decodeN
    rw [if_neg (by omega), if_neg (by omega), if_pos ⟨c1, ⟨by omega, c3⟩, by omega, c4⟩, if_pos ⟨cv, by
      have k0 := (l.getD 0 0).toNat_lt
      omega⟩]
  · have g1 := getD_app_lt l x 1 (by omega)
    have g2 := getD_app_lt l x 2 (by omega)
    have g3 := getD_app_lt l x 3 c2
    rw [e, g0, g1, g2, g3]; unfold decodeN
    rw [if_neg (by omega), if_neg (by omega), if_neg (by omega), if_pos ⟨c1, ⟨by omega, c3⟩, ⟨by omega, c4⟩, by omega, c5⟩, if_pos ⟨cv, by omega⟩]
  · exact absurd e h

theorem decodeN_1 (b0 b1 b2 b3 m b1' b2' b3' : Nat) (h : b1' / 64 ≠ 2) : decodeN (1 + m) b0 b1' b2' b3' = decodeN 1 b0 b1 b2 b3 := by
  unfold decodeN
  by_cases c : b0 < 128
  · rw [if_pos c, if_pos c]
  · rw [if_neg c, if_neg c, if_neg (by omega), if_neg (by omega), if_neg (by omega), if_neg (by omega), if_neg (by omega), if_neg (by omega)]
theorem decodeN_2 (b0 b1 b2 b3 m b2' b3' : Nat) (h : b2' / 64 ≠ 2) : decodeN (2 + m) b0 b1 b2' b3' = decodeN 2 b0 b1 b2 b3 := by
  unfold decodeN
  have e1 : (1 < 2 + m ∧ b1 / 64 = 2) ↔ (1 < 2 ∧ b1 / 64 = 2) := by omega
  by_cases c : b0 < 128
  · rw [if_pos c, if_pos c]
  · rw [if_neg c, if_neg c]
    simp only [e1]
    by_cases d : b0 / 32 = 6 ∧ 1 < 2 ∧ b1 / 64 = 2
    · rw [if_pos d, if_pos d]
    · rw [if_neg d, if_neg d, if_neg (by omega), if_neg (by omega), if_neg (by omega), if_neg (by omega)]
theorem decodeN_3 (b0 b1 b2 b3 m b3' : Nat) (h : b3' / 64 ≠ 2) : decodeN (3 + m) b0 b1 b2 b3' = decodeN 3 b0 b1 b2 b3 := by
  unfold decodeN
  have e1 : (1 < 3 + m ∧ b1 / 64 = 2) ↔ (1 < 3 ∧ b1 / 64 = 2) := by omega
  have e2 : (2 < 3 + m ∧ b2 / 64 = 2) ↔ (2 < 3 ∧ b2 / 64 = 2) := by omega
  by_cases c : b0 < 128
  · rw [if_pos c, if_pos c]
  · rw [if_neg c, if_neg c]
    simp only [e1, e2]
    by_cases d : b0 / 32 = 6 ∧ 1 < 3 ∧ b1 / 64 = 2
    · rw [if_pos d, if_pos d]
    · rw [if_neg d, if_neg d]
      by_cases f : b0 / 16 = 14 ∧ (1 < 3 ∧ b1 / 64 = 2) ∧ 2 < 3 ∧ b2 / 64 = 2
      · rw [if_pos f, if_pos f]
      · rw [if_neg f, if_neg f, if_neg (by omega), if_neg (by omega)]
theorem decodeN_4 (n m b0 b1 b2 b3 : Nat) (h : 4 ≤ n) : decodeN (n + m) b0 b1 b2 b3 = decodeN n b0 b1 b2 b3 := by
  unfold decodeN
  have e1 : (1 < n + m ∧ b1 / 64 = 2) ↔ (1 < n ∧ b1 / 64 = 2) := by omega
  have e2 : (2 < n + m ∧ b2 / 64 = 2) ↔ (2 < n ∧ b2 / 64 = 2) := by omega
  have e3 : (3 < n + m ∧ b3 / 64 = 2) ↔ (3 < n ∧ b3 / 64 = 2) := by omega
  simp only [e1, e2, e3]
/-- A byte that goes on no rune changes nothing of what is ahead of it. -/
theorem decodeL_stop (l y : List UInt8) (c : UInt8) (hne : l ≠ []) (h : c.toNat / 64 ≠ 2) : decodeL (l ++ c :: y) = decodeL l := by
  have hl : 0 < l.length := List.length_pos_iff.2 hne
  rw [decodeL_N, decodeL_N, List.length_append]
  have g0 := getD_app_lt l (c :: y) 0 hl
  have gm := getD_app_mid l y c
  rw [g0]
  by_cases h1 : l.length = 1
  · rw [h1] at gm ⊢
    rw [gm]
    exact decodeN_1 _ _ _ _ _ _ _ _ h
  · have g1 := getD_app_lt l (c :: y) 1 (by omega)
    rw [g1]
    by_cases h2 : l.length = 2
    · rw [h2] at gm ⊢
      rw [gm]
      exact decodeN_2 _ _ _ _ _ _ _ h
    · have g2 := getD_app_lt l (c :: y) 2 (by omega)
      rw [g2]
      by_cases h3 : l.length = 3
      · rw [h3] at gm ⊢
        rw [gm]
        exact decodeN_3 _ _ _ _ _ _ h
      · have g3 := getD_app_lt l (c :: y) 3 (by omega)
        rw [g3]
        exact decodeN_4 _ _ _ _ _ _ (by omega)
/-- A rune below 128 is its one byte. -/
theorem decodeL_low (b : UInt8) (t : List UInt8) (h : b.toNat < 128) : decodeL (b :: t) = (b.toNat, 1) := by
  rw [decodeL_N]
  unfold decodeN
  have : (b :: t).getD 0 0 = b := rfl
  rw [this, if_pos h]
theorem decodeL_high (b : UInt8) (t : List UInt8) (h : 128 ≤ b.toNat) : 128 ≤ (decodeL (b :: t)).1 := by
  rw [decodeL_N]
  have e0 : (b :: t).getD 0 0 = b := rfl
  rw [e0]
  rcases decodeN_shape (b :: t).length b.toNat ((b :: t).getD 1 0).toNat ((b :: t).getD 2 0).toNat ((b :: t).getD 3 0).toNat with ⟨c, e⟩ | ⟨c1, c2, c3, cv, e⟩ | ⟨c1, c2, c3, c4, cv, cs, e⟩ | ⟨c1, c2, c3, c4, c5, cv, cw, e⟩ | e
  all_goals (rw [e]; dsimp only; omega)
end Go.Proofs.YtagbpkabfjnplaaDoor.Ru
