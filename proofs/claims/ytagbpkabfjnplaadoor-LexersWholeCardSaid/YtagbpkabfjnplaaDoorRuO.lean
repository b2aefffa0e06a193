/- Plain facts on texts as runes: the first bad place, places told by line and column. Nothing of the program stands here. -/
import Derived.Test.YtagbpkabfjnplaaDoorRuN
namespace Go.Proofs.YtagbpkabfjnplaaDoor.Ru
open Go Go.Lib

/-- The line and column behind l, from (ln, c) on. -/
def pl : Nat → List UInt8 → Nat → Nat → Nat × Nat
  | 0, _, ln, c => (ln, c)
  | f + 1, l, ln, c => if l = [] then (ln, c) else if (decodeL l).1 = 10 then pl f (l.drop (decodeL l).2) (ln + 1) 1 else pl f (l.drop (decodeL l).2) ln (c + 1)
def place (l : List UInt8) : Nat × Nat := pl l.length l 1 1
theorem pl_nil (f ln c : Nat) : pl f [] ln c = (ln, c) := by cases f <;> simp [pl]
theorem pl_fuel : ∀ (f g : Nat) (l : List UInt8) (ln c : Nat), l.length ≤ f → l.length ≤ g → pl f l ln c = pl g l ln c
  | 0, g, l, ln, c, hf, _ => by
    have : l = [] := List.eq_nil_of_length_eq_zero (by omega)
    subst this; rw [pl_nil, pl_nil]
  | f + 1, 0, l, ln, c, _, hg => by
    have : l = [] := List.eq_nil_of_length_eq_zero (by omega)
    subst this; rw [pl_nil, pl_nil]
  | f + 1, g + 1, l, ln, c, hf, hg => by
    by_cases hl : l = []
    · subst hl; rw [pl_nil, pl_nil]
    · have hw := decodeL_width l
      have hd : (l.drop (decodeL l).2).length ≤ f := by rw [List.length_drop]; omega
      have hd2 : (l.drop (decodeL l).2).length ≤ g := by rw [List.length_drop]; omega
      unfold pl
      rw [if_neg hl, if_neg hl]
      split
      · exact pl_fuel f g _ _ _ hd hd2
      · exact pl_fuel f g _ _ _ hd hd2
/-- One step. -/
theorem pl_step (f : Nat) (l : List UInt8) (ln c : Nat) (hl : l ≠ []) (hf : l.length ≤ f) :
    pl f l ln c = if (decodeL l).1 = 10 then pl f (l.drop (decodeL l).2) (ln + 1) 1 else pl f (l.drop (decodeL l).2) ln (c + 1) := by
  have hp : 0 < l.length := List.length_pos_iff.2 hl
  obtain ⟨g, rfl⟩ : ∃ g, f = g + 1 := ⟨f - 1, by omega⟩
  have hw := decodeL_width l
  have hd : (l.drop (decodeL l).2).length ≤ g := by rw [List.length_drop]; omega
  conv => lhs; unfold pl
  rw [if_neg hl]
  split
  · exact pl_fuel _ _ _ _ _ hd (by omega)
  · exact pl_fuel _ _ _ _ _ hd (by omega)
/-- The line is at least the one begun at, the column at least 1. -/
theorem pl_le : ∀ (f : Nat) (l : List UInt8) (ln c : Nat), 1 ≤ c → ln ≤ (pl f l ln c).1 ∧ 1 ≤ (pl f l ln c).2 ∧ (pl f l ln c).1 ≤ ln + f ∧ (pl f l ln c).2 ≤ c + f
  | 0, l, ln, c, h => by simp [pl, h]
  | f + 1, l, ln, c, h => by
    unfold pl
    split
    · simp [h]
    · split
      · have := pl_le f (l.drop (decodeL l).2) (ln + 1) 1 (by omega); omega
      · have := pl_le f (l.drop (decodeL l).2) ln (c + 1) (by omega); omega
/-- Where one begins makes the difference that it should. -/
theorem pl_from : ∀ (f : Nat) (l : List UInt8) (ln c : Nat), 1 ≤ ln → 1 ≤ c →
    pl f l ln c = (ln + (pl f l 1 1).1 - 1, if (pl f l 1 1).1 = 1 then c + (pl f l 1 1).2 - 1 else (pl f l 1 1).2)
  | 0, l, ln, c, h1, h2 => by simp [pl]
  | f + 1, l, ln, c, h1, h2 => by
    unfold pl
    by_cases hl : l = []
    · rw [if_pos hl, if_pos hl]; simp
    · rw [if_neg hl, if_neg hl]
      by_cases hd : (decodeL l).1 = 10
      · rw [if_pos hd, if_pos hd]
        have h := pl_le f (l.drop (decodeL l).2) 2 1 (by omega)
        rw [pl_from f _ (ln + 1) 1 (by omega) (by omega), pl_from f _ 2 1 (by omega) (by omega)]
        have k := pl_le f (l.drop (decodeL l).2) 1 1 (by omega)
        generalize pl f (l.drop (decodeL l).2) 1 1 = p at *
        dsimp only
        rw [if_neg (by omega : ¬ 2 + p.1 - 1 = 1)]
        refine Prod.ext ?_ ?_
        · dsimp only; omega
        · rfl
      · rw [if_neg hd, if_neg hd]
        rw [pl_from f _ ln (c + 1) h1 (by omega), pl_from f _ 1 2 (by omega) (by omega)]
        have k := pl_le f (l.drop (decodeL l).2) 1 1 (by omega)
        generalize pl f (l.drop (decodeL l).2) 1 1 = p at *
        dsimp only
        by_cases hp : p.1 = 1
        · rw [hp]; simp; omega
        · rw [if_neg hp, if_neg (by omega : ¬ 1 + p.1 - 1 = 1), if_neg hp]
          refine Prod.ext ?_ ?_
          · dsimp only; omega
          · rfl
/-- A byte 10 behind a text is a line's end. -/
theorem pl_snoc10 : ∀ (f : Nat) (l : List UInt8) (ln c : Nat), l.length ≤ f → pl (f + 1) (l ++ [10]) ln c = ((pl f l ln c).1 + 1, 1)
  | f, [], ln, c, _ => by
    have : (decodeL ([] ++ [10])) = (10, 1) := decodeL_low 10 [] (by decide)
    rw [pl_nil]
    unfold pl
    rw [if_neg (by simp), this, if_pos rfl]
    simp [pl_nil]
  | 0, b :: l, ln, c, h => by simp at h
  | f + 1, b :: l, ln, c, h => by
    have hd := decodeL_stop (b :: l) [] 10 (by simp) (by decide)
    have hw := decodeL_width (b :: l)
    have hle := decodeL_le (b :: l) (by simp)
    have hdr : ((b :: l) ++ [10]).drop (decodeL (b :: l)).2 = (b :: l).drop (decodeL (b :: l)).2 ++ [10] := List.drop_append_of_le_length hle
    have hlen : ((b :: l).drop (decodeL (b :: l)).2).length ≤ f := by rw [List.length_drop]; omega
    conv => lhs; unfold pl
    conv => rhs; unfold pl
    rw [if_neg (show ¬ ((b :: l) ++ [10] = []) by simp), if_neg (show ¬ (b :: l = []) by simp), hd, hdr]
    by_cases ht : (decodeL (b :: l)).1 = 10
    · rw [if_pos ht, if_pos ht]; exact pl_snoc10 f _ _ _ hlen
    · rw [if_neg ht, if_neg ht]; exact pl_snoc10 f _ _ _ hlen
/-- How many bytes 10 there are. -/
def tens (l : List UInt8) : Nat := (l.filter fun b => b == 10).length
theorem tens_app (a b : List UInt8) : tens (a ++ b) = tens a + tens b := by simp [tens]
theorem tens_high (l : List UInt8) (h : ∀ b ∈ l, 128 ≤ b.toNat) : tens l = 0 := by
  unfold tens
  rw [List.length_eq_zero_iff, List.filter_eq_nil_iff]
  intro b hb
  have := h b hb
  intro e
  rw [beq_iff_eq] at e
  subst e
  exact absurd this (by decide)
/-- The bytes of one step hold a byte 10 just where the step is one. -/
theorem tens_step (l : List UInt8) (hl : l ≠ []) : tens (l.take (decodeL l).2) = if (decodeL l).1 = 10 then 1 else 0 := by
  match l, hl with
  | b :: t, _ =>
    by_cases h : b.toNat < 128
    · rw [decodeL_low b t h]
      dsimp only
      by_cases e : b = 10
      · subst e; rfl
      · have e2 : b.toNat ≠ 10 := fun k => e (by rw [← UInt8.toNat_inj]; exact k)
        rw [if_neg e2]
        simp [tens, e]
    · have hh := decodeL_high b t (by omega)
      rw [if_neg (by omega)]
      apply tens_high
      by_cases hbad : decodeL (b :: t) = (65533, 1)
      · rw [hbad]; intro x hx; simp at hx; subst hx; omega
      · have he := encode_decode (b :: t) (by simp) (fun k => hbad (Prod.ext k.1 k.2))
        rw [← he]
        intro x hx
        have hr := decodeL_rune (b :: t)
        unfold encodeRune at hx
        obtain ⟨z, hz, rfl⟩ := List.mem_map.1 hx
        have hb := encodeRuneZ_byte _ z hz
        have : 128 ≤ z := by
          unfold encodeRuneZ at hz
          rw [if_neg (by omega)] at hz
          split at hz
          · simp at hz; omega
          · split at hz
            · simp at hz; omega
            · split at hz
              · simp at hz; omega
              · simp at hz; omega
        simp; omega
/-- The line is one more than the bytes 10 are. -/
theorem pl_line : ∀ (f : Nat) (l : List UInt8) (ln c : Nat), l.length ≤ f → (pl f l ln c).1 = ln + tens l
  | 0, l, ln, c, h => by
    have : l = [] := List.eq_nil_of_length_eq_zero (by omega)
    subst this; rfl
  | f + 1, l, ln, c, h => by
    by_cases hl : l = []
    · subst hl; rw [pl_nil]; rfl
    · have hw := decodeL_width l
      have hd : (l.drop (decodeL l).2).length ≤ f := by rw [List.length_drop]; omega
      have ht := tens_step l hl
      have hs : tens l = tens (l.take (decodeL l).2) + tens (l.drop (decodeL l).2) := by rw [← tens_app, List.take_append_drop]
      unfold pl
      rw [if_neg hl]
      split
      · rename_i k
        rw [pl_line f _ _ _ hd, hs, ht, if_pos k]; omega
      · rename_i k
        rw [pl_line f _ _ _ hd, hs, ht, if_neg k]; omega

/-- The first place from k on at which no rune begins; -1, if there is none. -/
def bd : Nat → List UInt8 → Nat → Int
  | 0, _, _ => -1
  | f + 1, l, k => if l = [] then -1 else if decodeL l = (65533, 1) then (k : Int) else bd f (l.drop (decodeL l).2) (k + (decodeL l).2)
theorem bd_nil (f k : Nat) : bd f [] k = -1 := by cases f <;> simp [bd]
theorem bd_fuel : ∀ (f g : Nat) (l : List UInt8) (k : Nat), l.length ≤ f → l.length ≤ g → bd f l k = bd g l k
  | 0, g, l, k, hf, _ => by
    have : l = [] := List.eq_nil_of_length_eq_zero (by omega)
    subst this; rw [bd_nil, bd_nil]
  | f + 1, 0, l, k, _, hg => by
    have : l = [] := List.eq_nil_of_length_eq_zero (by omega)
    subst this; rw [bd_nil, bd_nil]
  | f + 1, g + 1, l, k, hf, hg => by
    by_cases hl : l = []
    · subst hl; rw [bd_nil, bd_nil]
    · have hw := decodeL_width l
      have hd : (l.drop (decodeL l).2).length ≤ f := by rw [List.length_drop]; omega
      have hd2 : (l.drop (decodeL l).2).length ≤ g := by rw [List.length_drop]; omega
      unfold bd
      rw [if_neg hl, if_neg hl]
      split
      · rfl
      · exact bd_fuel f g _ _ hd hd2
theorem bd_step (f : Nat) (l : List UInt8) (k : Nat) (hl : l ≠ []) (hf : l.length ≤ f) :
    bd f l k = if decodeL l = (65533, 1) then (k : Int) else bd f (l.drop (decodeL l).2) (k + (decodeL l).2) := by
  have hp : 0 < l.length := List.length_pos_iff.2 hl
  obtain ⟨g, rfl⟩ : ∃ g, f = g + 1 := ⟨f - 1, by omega⟩
  have hw := decodeL_width l
  have hd : (l.drop (decodeL l).2).length ≤ g := by rw [List.length_drop]; omega
  conv => lhs; unfold bd
  rw [if_neg hl]
  split
  · rfl
  · exact bd_fuel _ _ _ _ hd (by omega)
def bad (l : List UInt8) : Int := bd l.length l 0
theorem bd_range : ∀ (f : Nat) (l : List UInt8) (k : Nat), bd f l k = -1 ∨ ((k : Int) ≤ bd f l k ∧ bd f l k < k + l.length)
  | 0, l, k => Or.inl rfl
  | f + 1, l, k => by
    by_cases hl : l = []
    · subst hl; exact Or.inl (bd_nil _ _)
    · have hp : 0 < l.length := List.length_pos_iff.2 hl
      have hw := decodeL_width l
      have hle := decodeL_le l hl
      unfold bd
      rw [if_neg hl]
      split
      · exact Or.inr ⟨Int.le_refl _, by omega⟩
      · rcases bd_range f (l.drop (decodeL l).2) (k + (decodeL l).2) with h | ⟨h1, h2⟩
        · exact Or.inl h
        · rw [List.length_drop] at h2
          exact Or.inr ⟨by omega, by omega⟩
/-- A text in which all are runes, ahead of another one. -/
theorem bd_app : ∀ (f : Nat) (l x : List UInt8) (k : Nat), l.length ≤ f → bd f l k = -1 → bd (f + x.length) (l ++ x) k = bd x.length x (k + l.length)
  | 0, l, x, k, hf, _ => by
    have : l = [] := List.eq_nil_of_length_eq_zero (by omega)
    subst this
    simp
  | f + 1, l, x, k, hf, hb => by
    by_cases hl : l = []
    · subst hl
      rw [List.nil_append, List.length_nil, Nat.add_zero]
      exact bd_fuel _ _ _ _ (by omega) (by omega)
    · have hp : 0 < l.length := List.length_pos_iff.2 hl
      have hw := decodeL_width l
      have hle := decodeL_le l hl
      have hd : (l.drop (decodeL l).2).length ≤ f := by rw [List.length_drop]; omega
      rw [bd, if_neg hl] at hb
      by_cases hbad : decodeL l = (65533, 1)
      · rw [if_pos hbad] at hb; omega
      · rw [if_neg hbad] at hb
        have e := decodeL_app l x hl hbad
        have hdr : (l ++ x).drop (decodeL l).2 = l.drop (decodeL l).2 ++ x := List.drop_append_of_le_length hle
        rw [show f + 1 + x.length = f + x.length + 1 from by omega, bd, if_neg (by simp [hl]), e, if_neg hbad, hdr, bd_app f _ x _ hd hb, List.length_drop]
        congr 1
        omega
/-- .. and how places go on behind it. -/
theorem pl_app : ∀ (f : Nat) (l x : List UInt8) (k ln c : Nat), l.length ≤ f → bd f l k = -1 → pl (f + x.length) (l ++ x) ln c = pl x.length x (pl f l ln c).1 (pl f l ln c).2
  | 0, l, x, k, ln, c, hf, _ => by
    have : l = [] := List.eq_nil_of_length_eq_zero (by omega)
    subst this
    simp [pl]
  | f + 1, l, x, k, ln, c, hf, hb => by
    by_cases hl : l = []
    · subst hl
      rw [List.nil_append, pl_nil]
      exact pl_fuel _ _ _ _ _ (by omega) (by omega)
    · have hp : 0 < l.length := List.length_pos_iff.2 hl
      have hw := decodeL_width l
      have hle := decodeL_le l hl
      have hd : (l.drop (decodeL l).2).length ≤ f := by rw [List.length_drop]; omega
      rw [bd, if_neg hl] at hb
      by_cases hbad : decodeL l = (65533, 1)
      · rw [if_pos hbad] at hb; omega
      · rw [if_neg hbad] at hb
        have e := decodeL_app l x hl hbad
        have hdr : (l ++ x).drop (decodeL l).2 = l.drop (decodeL l).2 ++ x := List.drop_append_of_le_length hle
        rw [show f + 1 + x.length = f + x.length + 1 from by omega]
        conv => lhs; unfold pl
        rw [if_neg (by simp [hl]), e, hdr]
        conv => rhs; rw [pl, if_neg hl]
        by_cases ht : (decodeL l).1 = 10
        · rw [if_pos ht, if_pos ht]; exact pl_app f _ x _ _ _ hd hb
        · rw [if_neg ht, if_neg ht]; exact pl_app f _ x _ _ _ hd hb
end Go.Proofs.YtagbpkabfjnplaaDoor.Ru
