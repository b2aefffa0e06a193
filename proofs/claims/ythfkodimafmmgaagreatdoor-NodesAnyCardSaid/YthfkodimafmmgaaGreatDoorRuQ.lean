/- Plain facts on runes' bytes one behind the other, and on texts of runes. Nothing of the program stands here. -/
import Derived.Test.YthfkodimafmmgaaGreatDoorRuO
namespace Go.Proofs.YthfkodimafmmgaaGreatDoor.Ru
open Go Go.Lib

def encL (r : Int) : List UInt8 := (encB r).data.toList
theorem encL_no {r : Int} (h : Go.validRune r = false) : encL r = [] := by unfold encL; rw [encB_no h]
theorem ofNat_toNat (n : Nat) (h : n < 256) : (UInt8.ofNat n).toNat = n := by
  simp; omega
/-- A rune's bytes are it. -/
theorem decode_enc (r : Int) (h : Go.validRune r = true) : decodeL (encL r) = (r.toNat, (encL r).length) ∧ encL r ≠ [] ∧ decodeL (encL r) ≠ (65533, 1) := by
  have hv := (valid_iff r).1 h
  unfold encL
  rw [decodeL_N]
  by_cases a : r < 128
  · rw [enc_1 (by omega) a]
    have e : (strOfNums [r]).data.toList = [UInt8.ofNat r.toNat] := rfl
    rw [e]
    have g0 : ([UInt8.ofNat r.toNat].getD 0 0).toNat = r.toNat := ofNat_toNat _ (by omega)
    refine ⟨?_, by simp, ?_⟩
    · rw [g0]; unfold decodeN; rw [if_pos (by omega)]; rfl
    · rw [g0]; unfold decodeN; rw [if_pos (by omega)]; intro k; have := congrArg Prod.fst k; simp at this; omega
  by_cases b : r < 2048
  · rw [enc_2 (by omega) b]
    have e : (strOfNums [192 + r / 64, 128 + r % 64]).data.toList = [UInt8.ofNat (192 + r / 64).toNat, UInt8.ofNat (128 + r % 64).toNat] := rfl
    rw [e]
    generalize hL : [UInt8.ofNat (192 + r / 64).toNat, UInt8.ofNat (128 + r % 64).toNat] = L
    have g0 : (L.getD 0 0).toNat = (192 + r / 64).toNat := by rw [← hL]; exact ofNat_toNat _ (by omega)
    have g1 : (L.getD 1 0).toNat = (128 + r % 64).toNat := by rw [← hL]; exact ofNat_toNat _ (by omega)
    have hlen : L.length = 2 := by rw [← hL]; rfl
    rw [hlen, g0, g1]
    have hd : ∀ x y, decodeN 2 (192 + r / 64).toNat (128 + r % 64).toNat x y = (r.toNat, 2) := by
      intro x y
      unfold decodeN
      rw [if_neg (by omega), if_pos (by omega), if_pos (by omega)]
      refine Prod.ext ?_ rfl
      show (192 + r / 64).toNat % 32 * 64 + (128 + r % 64).toNat % 64 = r.toNat
      omega
    rw [hd]
    exact ⟨rfl, by rw [← hL]; simp, by intro k; have := congrArg Prod.snd k; simp at this⟩
  by_cases c : r < 65536
  · rw [enc_3 h (by omega) c]
    have e : (strOfNums [224 + r / 4096, 128 + r / 64 % 64, 128 + r % 64]).data.toList = [UInt8.ofNat (224 + r / 4096).toNat, UInt8.ofNat (128 + r / 64 % 64).toNat, UInt8.ofNat (128 + r % 64).toNat] := rfl
    rw [e]
    generalize hL : [UInt8.ofNat (224 + r / 4096).toNat, UInt8.ofNat (128 + r / 64 % 64).toNat, UInt8.ofNat (128 + r % 64).toNat] = L
    have g0 : (L.getD 0 0).toNat = (224 + r / 4096).toNat := by rw [← hL]; exact ofNat_toNat _ (by omega)
    have g1 : (L.getD 1 0).toNat = (128 + r / 64 % 64).toNat := by rw [← hL]; exact ofNat_toNat _ (by omega)
    have g2 : (L.getD 2 0).toNat = (128 + r % 64).toNat := by rw [← hL]; exact ofNat_toNat _ (by omega)
    have hlen : L.length = 3 := by rw [← hL]; rfl
    rw [hlen, g0, g1, g2]
    have hd : ∀ y, decodeN 3 (224 + r / 4096).toNat (128 + r / 64 % 64).toNat (128 + r % 64).toNat y = (r.toNat, 3) := by
      intro y
      have hc : (224 + r / 4096).toNat % 16 * 4096 + (128 + r / 64 % 64).toNat % 64 * 64 + (128 + r % 64).toNat % 64 = r.toNat := by omega
      unfold decodeN
      rw [if_neg (by omega), if_neg (by omega), if_pos (by omega)]
      rw [hc, if_pos (by omega)]
    rw [hd]
    exact ⟨rfl, by rw [← hL]; simp, by intro k; have := congrArg Prod.snd k; simp at this⟩
  · rw [enc_4 (by omega) (by omega)]
    have e : (strOfNums [240 + r / 262144, 128 + r / 4096 % 64, 128 + r / 64 % 64, 128 + r % 64]).data.toList = [UInt8.ofNat (240 + r / 262144).toNat, UInt8.ofNat (128 + r / 4096 % 64).toNat, UInt8.ofNat (128 + r / 64 % 64).toNat, UInt8.ofNat (128 + r % 64).toNat] := rfl
    rw [e]
    generalize hL : [UInt8.ofNat (240 + r / 262144).toNat, UInt8.ofNat (128 + r / 4096 % 64).toNat, UInt8.ofNat (128 + r / 64 % 64).toNat, UInt8.ofNat (128 + r % 64).toNat] = L
    have g0 : (L.getD 0 0).toNat = (240 + r / 262144).toNat := by rw [← hL]; exact ofNat_toNat _ (by omega)
    have g1 : (L.getD 1 0).toNat = (128 + r / 4096 % 64).toNat := by rw [← hL]; exact ofNat_toNat _ (by omega)
    have g2 : (L.getD 2 0).toNat = (128 + r / 64 % 64).toNat := by rw [← hL]; exact ofNat_toNat _ (by omega)
    have g3 : (L.getD 3 0).toNat = (128 + r % 64).toNat := by rw [← hL]; exact ofNat_toNat _ (by omega)
    have hlen : L.length = 4 := by rw [← hL]; rfl
    rw [hlen, g0, g1, g2, g3]
    have hd : decodeN 4 (240 + r / 262144).toNat (128 + r / 4096 % 64).toNat (128 + r / 64 % 64).toNat (128 + r % 64).toNat = (r.toNat, 4) := by
      have hc : (240 + r / 262144).toNat % 8 * 262144 + (128 + r / 4096 % 64).toNat % 64 * 4096 + (128 + r / 64 % 64).toNat % 64 * 64 + (128 + r % 64).toNat % 64 = r.toNat := by omega
      unfold decodeN
      rw [if_neg (by omega), if_neg (by omega), if_neg (by omega), if_pos (by omega)]
      rw [hc, if_pos (by omega)]
    rw [hd]
    exact ⟨rfl, by rw [← hL]; simp, by intro k; have := congrArg Prod.snd k; simp at this⟩
theorem decode_enc_app (r : Int) (x : List UInt8) (h : Go.validRune r = true) : decodeL (encL r ++ x) = (r.toNat, (encL r).length) := by
  obtain ⟨h1, h2, h3⟩ := decode_enc r h
  rw [decodeL_app _ _ h2 h3, h1]
/-- Of numbers the bytes of those that are runes, one behind the other. -/
def encs (rs : List Int) : List UInt8 := rs.flatMap encL
theorem encs_app (a b : List Int) : encs (a ++ b) = encs a ++ encs b := by simp [encs]
/-- Nothing is bad in them. -/
theorem bd_encs : ∀ (rs : List Int) (f k : Nat), (encs rs).length ≤ f → bd f (encs rs) k = -1
  | [], f, k, _ => bd_nil _ _
  | r :: rs, f, k, hf => by
    have e : encs (r :: rs) = encL r ++ encs rs := rfl
    rw [e] at hf ⊢
    cases h : Go.validRune r with
    | false =>
      rw [encL_no h, List.nil_append] at hf ⊢
      exact bd_encs rs f k hf
    | true =>
      obtain ⟨h1, h2, h3⟩ := decode_enc r h
      have hd := decode_enc_app r (encs rs) h
      have hl : 0 < (encL r).length := List.length_pos_iff.2 h2
      rw [List.length_append] at hf
      have hne : ¬ decodeL (encL r ++ encs rs) = (65533, 1) := by
        rw [decodeL_app _ _ h2 h3]; exact h3
      rw [bd_step _ _ _ (by simp [h2]) (by rw [List.length_append]; exact hf), if_neg hne, hd]
      dsimp only
      rw [List.drop_left]
      exact bd_encs rs f _ (by omega)
/-- A byte that is no rune's is the first bad place behind such. -/
theorem bad_at (rs : List Int) (x : List UInt8) : bad (encs rs ++ 255 :: x) = ((encs rs).length : Int) := by
  unfold bad
  rw [List.length_append, bd_app _ _ _ _ (Nat.le_refl _) (bd_encs rs _ _ (Nat.le_refl _))]
  have hd : decodeL (255 :: x) = (65533, 1) := by
    rw [decodeL_N]
    have e0 : (255 :: x).getD 0 0 = (255 : UInt8) := rfl
    rw [e0]
    have e1 : ((255 : UInt8)).toNat = 255 := rfl
    rw [e1]
    unfold decodeN
    rw [if_neg (by omega), if_neg (by omega), if_neg (by omega), if_neg (by omega)]
  rw [List.length_cons, bd, if_neg (by simp), if_pos hd]
  omega
theorem bad_encs (rs : List Int) : bad (encs rs) = -1 := bd_encs rs _ _ (Nat.le_refl _)
end Go.Proofs.YthfkodimafmmgaaGreatDoor.Ru
