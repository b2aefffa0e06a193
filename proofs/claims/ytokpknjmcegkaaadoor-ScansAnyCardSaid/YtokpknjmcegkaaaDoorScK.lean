/- Where words stand the text is whole runes on both sides; scanF step by step. -/
import Derived.Test.YtokpknjmcegkaaaDoorScD
namespace Go.Proofs.YtokpknjmcegkaaaDoor
namespace Sc
open Go Go.RowKit Ru

def Good (l : List UInt8) : Prop := bad l = -1
theorem bd_shift : ∀ (f : Nat) (l : List UInt8) (k j : Nat), bd f l k = -1 → bd f l j = -1
  | 0, _, _, _, _ => rfl
  | f + 1, l, k, j, h => by
    unfold bd at h ⊢
    split at h
    · rename_i hl
      rw [if_pos hl]
    · rename_i hl
      rw [if_neg hl]
      split at h
      · omega
      · rename_i hd
        rw [if_neg hd]
        exact bd_shift f _ _ _ h
theorem Good.nil : Good [] := rfl
theorem good_iff {l : List UInt8} (hl : l ≠ []) : Good l ↔ Lib.decodeL l ≠ (65533, 1) ∧ Good (l.drop (Lib.decodeL l).2) := by
  have hw := Lib.decodeL_width l
  have hp : 0 < l.length := List.length_pos_iff.2 hl
  unfold Good bad
  rw [bd_step _ l 0 hl (Nat.le_refl _)]
  by_cases h : Lib.decodeL l = (65533, 1)
  · rw [if_pos h]
    constructor
    · intro h0; omega
    · rintro ⟨h1, _⟩; exact absurd h h1
  · rw [if_neg h]
    have hd : (l.drop (Lib.decodeL l).2).length ≤ l.length := by rw [List.length_drop]; omega
    constructor
    · intro h1
      refine ⟨h, ?_⟩
      rw [bd_fuel _ l.length _ _ (Nat.le_refl _) hd]
      exact bd_shift _ _ _ _ h1
    · rintro ⟨_, h1⟩
      rw [bd_fuel _ l.length _ _ (Nat.le_refl _) hd] at h1
      exact bd_shift _ _ _ _ h1
theorem good_app {a x : List UInt8} (ha : Good a) (hx : Good x) : Good (a ++ x) := by
  unfold Good bad at *
  have h := bd_app a.length a x 0 (Nat.le_refl _) ha
  rw [List.length_append, h]
  exact bd_shift _ _ _ _ hx
theorem good_ascii : ∀ (n : Nat) (p : List UInt8) (c : UInt8) (r : List UInt8), p.length ≤ n → c.toNat < 128 → Good (p ++ c :: r) → Good p ∧ Good r := by
  have base : ∀ (c : UInt8) (r : List UInt8), c.toNat < 128 → Good (c :: r) → Good r := by
    intro c r hc h
    have := ((good_iff (by simp)).1 h).2
    rw [decodeL_low c r hc] at this
    exact this
  intro n
  induction n with
  | zero =>
    intro p c r hp hc h
    have : p = [] := List.eq_nil_of_length_eq_zero (by omega)
    subst this
    exact ⟨Good.nil, base c r hc h⟩
  | succ n ih =>
    intro p c r hp hc h
    by_cases hp0 : p = []
    · subst hp0
      exact ⟨Good.nil, base c r hc h⟩
    · have e := decodeL_stop p r c hp0 (by omega)
      have hw := Lib.decodeL_width p
      have hle := Lib.decodeL_le p hp0
      obtain ⟨h1, h2⟩ := (good_iff (by simp)).1 h
      rw [e] at h1 h2
      rw [List.drop_append_of_le_length hle] at h2
      obtain ⟨h3, h4⟩ := ih (p.drop (Lib.decodeL p).2) c r (by rw [List.length_drop]; omega) hc h2
      exact ⟨(good_iff hp0).2 ⟨h1, h3⟩, h4⟩

theorem getD_drop (l : List UInt8) (k i : Nat) : (l.drop k).getD i 0 = l.getD (k + i) 0 := by simp [List.getD, List.getElem?_drop]
theorem drop_head {l : List UInt8} {j : Nat} {c : UInt8} {r : List UInt8} (h : l.drop j = c :: r) : j < l.length ∧ l.getD j 0 = c := by
  have hl := congrArg List.length h
  rw [List.length_drop] at hl
  simp at hl
  have h0 := getD_drop l j 0
  rw [h] at h0
  exact ⟨by omega, by simpa using h0.symm⟩
theorem split_at (l : List UInt8) (k : Nat) (h : k < l.length) : l.take k ++ l.getD k 0 :: l.drop (k + 1) = l := by
  have e : l.getD k 0 = l[k] := by simp [List.getD, List.getElem?_eq_getElem h]
  rw [e, ← List.drop_eq_getElem_cons h, List.take_append_drop]
/-- Behind k bytes a rune begins, or l ends. -/
def At (l : List UInt8) (k : Nat) : Prop := k ≤ l.length ∧ Good (l.take k) ∧ Good (l.drop k)
theorem At.zero {l : List UInt8} (h : Good l) : At l 0 := ⟨Nat.zero_le _, Good.nil, h⟩
theorem At.full {l : List UInt8} (h : Good l) : At l l.length := ⟨Nat.le_refl _, by rw [List.take_length]; exact h, by rw [List.drop_length]; exact Good.nil⟩
theorem At.ascii {l : List UInt8} (h : Good l) {k : Nat} (hk : k < l.length) (hc : (l.getD k 0).toNat < 128) : At l k ∧ At l (k + 1) := by
  have e := split_at l k hk
  rw [← e] at h
  obtain ⟨h1, h2⟩ := good_ascii _ _ _ _ (Nat.le_refl _) hc h
  have h3 : Good (l.getD k 0 :: l.drop (k + 1)) := (good_iff (by simp)).2 ⟨by rw [decodeL_low _ _ hc]; intro e; injection e with e; omega, by rw [decodeL_low _ _ hc]; exact h2⟩
  have e1 : l.drop k = l.getD k 0 :: l.drop (k + 1) := by
    have e0 : l.getD k 0 = l[k] := by simp [List.getD, List.getElem?_eq_getElem hk]
    rw [e0, ← List.drop_eq_getElem_cons hk]
  have e2 : l.take (k + 1) = l.take k ++ [l.getD k 0] := by
    have e0 : l.getD k 0 = l[k] := by simp [List.getD, List.getElem?_eq_getElem hk]
    rw [e0, List.take_succ_eq_append_getElem hk]
  refine ⟨⟨by omega, h1, by rw [e1]; exact h3⟩, ⟨by omega, ?_, h2⟩⟩
  rw [e2]
  refine good_app h1 ((good_iff (by simp)).2 ⟨by rw [decodeL_low _ _ hc]; intro e; injection e with e; omega, by rw [decodeL_low _ _ hc]; exact Good.nil⟩)
theorem blank_low {c : UInt8} (h : blankB c = true) : c.toNat < 128 := by
  unfold blankB at h
  simp only [Bool.or_eq_true, beq_iff_eq] at h
  rcases h with ((h | h) | h) | h <;> (subst h; decide)
theorem skip_at {l : List UInt8} {k m : Nat} (hG : Good l) (hk : k ≤ l.length) (h : skip (l.drop k) = .go m) : At l (k + m) := by
  unfold skip at h
  split at h
  · rename_i hb
    injection h with h
    subst h
    have h1 := blank_ne hb
    rw [List.length_drop] at h1
    rw [getD_drop] at hb
    exact (At.ascii hG (k := k) (by omega) (blank_low hb)).2
  split at h
  · rename_i _ hp
    injection h with h
    subst h
    cases hc : (Lib.cut (l.drop k) [10]).2.2 with
    | false =>
      rw [(cut_no hc).1, List.length_drop, show k + (l.length - k) = l.length by omega]
      exact At.full hG
    | true =>
      obtain ⟨i, _, _, h3, h4, _⟩ := cut_yes hc
      rw [h3]
      obtain ⟨r, hr⟩ := occ_split h4
      rw [List.drop_drop] at hr
      obtain ⟨h5, h6⟩ := drop_head hr
      exact (At.ascii hG h5 (by rw [h6]; decide)).1
  split at h
  · split at h
    · rename_i hc
      injection h with h
      subst h
      obtain ⟨i, _, _, h3, h4, _⟩ := cut_yes hc
      rw [h3]
      obtain ⟨r, hr⟩ := occ_split h4
      rw [List.drop_drop, List.drop_drop] at hr
      have hr2 : l.drop (k + (2 + i) + 1) = 47 :: r := by
        rw [← List.drop_drop, hr]; rfl
      obtain ⟨h5, h6⟩ := drop_head hr2
      have := (At.ascii hG h5 (by rw [h6]; decide)).2
      rw [show k + (i + 4) = k + (2 + i) + 1 + 1 by omega]
      exact this
    · cases h
  · cases h
theorem gap_at : ∀ (n : Nat) (l : List UInt8) (k : Nat), l.length - k ≤ n → Good l → At l k → At l (k + (gapL (l.drop k)).1) := by
  intro n
  induction n with
  | zero =>
    intro l k hn hG hA
    have : l.drop k = [] := List.drop_eq_nil_of_le (by omega)
    rw [this, gapL_stop skip_nil]
    exact hA
  | succ n ih =>
    intro l k hn hG hA
    cases hs : skip (l.drop k) with
    | stop => rw [gapL_stop hs]; exact hA
    | fail => rw [gapL_fail hs]; exact hA
    | go m =>
      have hm := skip_go hs
      rw [List.length_drop] at hm
      have h1 := ih l (k + m) (by omega) hG (skip_at hG hA.1 hs)
      rw [gapL_go hs, List.drop_drop]
      dsimp only
      rw [← Nat.add_assoc]
      exact h1

theorem runR_ok {kd most : Nat} {p : UInt8 → Bool} {l : List UInt8} {k : Nat} {t : List UInt8} {st : List (Nat × Nat)} {z : Nat} (hp : p (l.getD 0 0) = true) (h0 : p 0 = false) (hlow : ∀ c, p c = true → c.toNat < 128) (h : runR kd most p l = .ok k t st z) :
    1 ≤ z ∧ z ≤ l.length ∧ (l.getD (z - 1) 0).toNat < 128 := by
  have hl : 0 < l.length := by
    cases l with
    | nil =>
      have : p 0 = true := hp
      rw [h0] at this; cases this
    | cons _ _ => simp
  unfold runR at h
  split at h
  · cases h
  · injection h with _ _ _ h
    subst h
    have h1 := (tw_lt (p := p) l 0 (Nat.zero_le _) hl).1 hp
    have h2 := tw_le (p := p) l
    refine ⟨h1, h2, hlow _ ?_⟩
    exact (tw_lt (p := p) l _ (by omega) (by omega)).2 (by omega)
theorem low_letter (c : UInt8) (h : letterB c = true) : c.toNat < 128 := by
  unfold letterB at h
  simp only [Bool.or_eq_true, Bool.and_eq_true, decide_eq_true_eq] at h
  omega
theorem low_digit (c : UInt8) (h : digitB c = true) : c.toNat < 128 := by
  unfold digitB at h
  simp only [Bool.and_eq_true, decide_eq_true_eq] at h
  omega
theorem low_fol (c : UInt8) (h : folB c = true) : c.toNat < 128 := by
  unfold folB at h
  simp only [Bool.or_eq_true, decide_eq_true_eq] at h
  rcases h with (h | h) | h
  · exact low_letter c h
  · exact low_digit c h
  · omega
theorem wordR_ok {l : List UInt8} {k : Nat} {t : List UInt8} {st : List (Nat × Nat)} {z : Nat} (h : wordR l = .ok k t st z) : 1 ≤ z ∧ z ≤ l.length ∧ (l.getD (z - 1) 0).toNat < 128 := by
  unfold wordR at h
  split at h
  · rename_i hl
    exact runR_ok (by unfold folB; rw [hl]; rfl) (by decide) low_fol h
  split at h
  · rename_i hd
    exact runR_ok hd (by decide) low_digit h
  split at h
  · unfold textR at h
    split at h
    · cases h
    split at h
    · rename_i hq
      injection h with _ _ _ h
      subst h
      obtain ⟨r, hr⟩ := (prefix_one _ _).1 hq
      obtain ⟨h5, h6⟩ := drop_head hr
      exact ⟨by omega, by omega, by rw [Nat.add_sub_cancel, h6]; decide⟩
    · cases h
  split at h
  · unfold setR at h
    split at h
    · cases h
    split at h
    · rename_i hq
      injection h with _ _ _ h
      subst h
      obtain ⟨r, hr⟩ := (prefix_one _ _).1 hq
      obtain ⟨h5, h6⟩ := drop_head hr
      exact ⟨by omega, by omega, by rw [Nat.add_sub_cancel, h6]; decide⟩
    · cases h
  · unfold markR at h
    split at h
    · rename_i hp
      injection h with _ _ _ h
      subst h
      obtain ⟨r, hr⟩ := prefix_app hp
      rw [hr]
      exact ⟨by omega, by simp, (show (62 : UInt8).toNat < 128 by decide)⟩
    split at h
    · rename_i hp
      injection h with _ _ _ h
      subst h
      obtain ⟨r, hr⟩ := prefix_app hp
      rw [hr]
      exact ⟨by omega, by simp, (show (46 : UInt8).toNat < 128 by decide)⟩
    split at h
    · rename_i hm
      injection h with _ _ _ h
      subst h
      have hl : 0 < l.length := by
        cases l with
        | nil => exact absurd hm (by decide)
        | cons _ _ => simp
      refine ⟨Nat.le_refl _, hl, ?_⟩
      have : ∀ c ∈ marksL, c.toNat < 128 := by decide
      exact this _ hm
    · cases h
theorem word_at {l : List UInt8} {k : Nat} {kd : Nat} {t : List UInt8} {st : List (Nat × Nat)} {z : Nat} (hG : Good l) (h : wordR (l.drop k) = .ok kd t st z) : At l (k + z) := by
  obtain ⟨h1, h2, h3⟩ := wordR_ok h
  rw [List.length_drop] at h2
  rw [getD_drop] at h3
  have := (At.ascii hG (k := k + (z - 1)) (by omega) h3).2
  rw [show k + (z - 1) + 1 = k + z by omega] at this
  exact this

theorem scanF_nil (f k : Nat) : scanF f [] k = .ok [] := by
  cases f with
  | zero => rfl
  | succ f =>
    unfold scanF
    rw [gapL_stop skip_nil]
    simp
theorem scanF_fuel : ∀ (f g : Nat) (l : List UInt8) (k : Nat), l.length ≤ f → l.length ≤ g → scanF f l k = scanF g l k
  | 0, g, l, k, h, _ => by
    have : l = [] := List.eq_nil_of_length_eq_zero (by omega)
    subst this
    rw [scanF_nil, scanF_nil]
  | f + 1, 0, l, k, _, h => by
    have : l = [] := List.eq_nil_of_length_eq_zero (by omega)
    subst this
    rw [scanF_nil, scanF_nil]
  | f + 1, g + 1, l, k, h1, h2 => by
    unfold scanF
    split
    · rfl
    split
    · rfl
    cases hw : wordR (l.drop (gapL l).1) with
    | err e => rfl
    | ok kd t st z =>
      obtain ⟨h3, h4, _⟩ := wordR_ok hw
      rw [List.length_drop] at h4
      dsimp only
      rw [scanF_fuel f g _ _ (by rw [List.length_drop]; omega) (by rw [List.length_drop]; omega)]
theorem scan_fail {l : List UInt8} (f k : Nat) (hf : l.length ≤ f) (h : (gapL l).2 = false) : scanF f l k = .err 4 (k + (gapL l).1) := by
  cases f with
  | zero =>
    have : l = [] := List.eq_nil_of_length_eq_zero (by omega)
    subst this
    rw [gapL_stop skip_nil] at h; cases h
  | succ f => unfold scanF; rw [if_pos h]
theorem scan_done {l : List UInt8} (f k : Nat) (h : (gapL l).2 = true) (hd : l.drop (gapL l).1 = []) : scanF f l k = .ok [] := by
  cases f with
  | zero => rfl
  | succ f => unfold scanF; rw [if_neg (by rw [h]; simp), if_pos hd]
theorem scan_err {l : List UInt8} (f k e : Nat) (hf : l.length ≤ f) (h : (gapL l).2 = true) (hd : l.drop (gapL l).1 ≠ []) (hw : wordR (l.drop (gapL l).1) = .err e) : scanF f l k = .err e (k + (gapL l).1) := by
  cases f with
  | zero =>
    have : l = [] := List.eq_nil_of_length_eq_zero (by omega)
    subst this
    simp at hd
  | succ f => unfold scanF; rw [if_neg (by rw [h]; simp), if_neg hd, hw]
theorem scan_ok {l : List UInt8} (f k kd : Nat) (t : List UInt8) (st : List (Nat × Nat)) (z : Nat) (hf : l.length ≤ f) (h : (gapL l).2 = true) (hd : l.drop (gapL l).1 ≠ []) (hw : wordR (l.drop (gapL l).1) = .ok kd t st z) :
    scanF f l k = (scanF f (l.drop ((gapL l).1 + z)) (k + (gapL l).1 + z)).cons ⟨kd, t, st, k + (gapL l).1⟩ := by
  cases f with
  | zero =>
    have : l = [] := List.eq_nil_of_length_eq_zero (by omega)
    subst this
    simp at hd
  | succ f =>
    obtain ⟨h3, h4, _⟩ := wordR_ok hw
    rw [List.length_drop] at h4
    rw [scanF_fuel (f + 1) f (l.drop ((gapL l).1 + z)) _ (by rw [List.length_drop]; omega) (by rw [List.length_drop]; omega)]
    conv => lhs; unfold scanF
    rw [if_neg (by rw [h]; simp), if_neg hd, hw]
end Sc
end Go.Proofs.YtokpknjmcegkaaaDoor
