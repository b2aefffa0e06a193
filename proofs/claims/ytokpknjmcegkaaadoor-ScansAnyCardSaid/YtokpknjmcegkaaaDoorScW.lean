/- What is read of a text stays so with more behind it; the words of two texts with the end of a line between. -/
import Derived.Test.YtokpknjmcegkaaaDoorScU
namespace Go.Proofs.YtokpknjmcegkaaaDoor
namespace Sc
open Go Go.RowKit Ru
set_option maxRecDepth 100000

theorem tw_app (p : UInt8 → Bool) (c : UInt8) (x : List UInt8) (hc : p c = false) : ∀ l : List UInt8, (l ++ c :: x).takeWhile p = l.takeWhile p
  | [] => by simp [hc]
  | a :: l => by
    rw [List.cons_append, List.takeWhile_cons, List.takeWhile_cons, tw_app p c x hc l]
theorem head_app {l : List UInt8} (hl : l ≠ []) (x : List UInt8) : (l ++ x).getD 0 0 = l.getD 0 0 := getD_app_lt l x 0 (List.length_pos_iff.2 hl)
theorem drop_app {l : List UInt8} {n : Nat} (h : n ≤ l.length) (x : List UInt8) : (l ++ x).drop n = l.drop n ++ x := by
  rw [List.drop_append_of_le_length h]
theorem prefix_more {l p : List UInt8} (h : Lib.hasPrefix l p = true) (x : List UInt8) : Lib.hasPrefix (l ++ x) p = true := by
  obtain ⟨r, hr⟩ := prefix_app h
  rw [hr, List.append_assoc]
  exact prefix_of _ _
theorem prefix_two_no {l : List UInt8} {a b c : UInt8} (h : Lib.hasPrefix l [a, b] = false) (hl : l ≠ []) (hc : c ≠ b) (x : List UInt8) : Lib.hasPrefix (l ++ c :: x) [a, b] = false := by
  match l, h, hl with
  | [], _, hl => exact absurd rfl hl
  | [y], _, _ =>
    have : (b == c) = false := by rw [beq_eq_false_iff_ne]; exact fun e => hc e.symm
    simp [Lib.hasPrefix, List.isPrefixOf, this]
  | y :: z :: r, h, _ =>
    simpa [Lib.hasPrefix, List.isPrefixOf] using h
/-- A cut that is found stays where it is. -/
theorem no_byte {l : List UInt8} {c : UInt8} {i : Nat} (h : ∀ j, j < i → Lib.occAt l [c] j = false) : ∀ b ∈ l.take i, b ≠ c := by
  intro b hb e
  subst e
  obtain ⟨j, hj, he⟩ := List.getElem_of_mem hb
  rw [List.length_take] at hj
  rw [List.getElem_take] at he
  have h1 := h j (by omega)
  unfold Lib.occAt at h1
  rw [List.drop_eq_getElem_cons (by omega), he] at h1
  simp [Lib.hasPrefix, List.isPrefixOf] at h1
theorem numV_form {m : List UInt8} {n k : Nat} (h : numV m = some (n, k)) : ∃ a y, m = a ++ 125 :: y ∧ (∀ b ∈ a, b ≠ 125) ∧ a.length ≤ 6 ∧ hexP a = some n ∧ Go.validRune (n : Int) = true ∧ k = a.length + 4 := by
  unfold numV at h
  split at h
  · rename_i hc
    obtain ⟨i, h1, h2, h3, h4, h5⟩ := cut_yes hc
    split at h
    · rename_i n' hP
      split at h
      · rename_i hv
        injection h with h
        injection h with e1 e2
        subst e1
        obtain ⟨r, hr⟩ := occ_split h4
        have hlen := occ_len h4 (by simp)
        rw [List.length_take] at hlen
        simp only [List.length_cons, List.length_nil] at hlen
        have hn := no_byte h5
        have e3 : m.take 7 = (m.take 7).take i ++ (m.take 7).drop i := (List.take_append_drop _ _).symm
        rw [hr, ← h2] at e3
        rw [← h2] at hn
        obtain ⟨a, ha⟩ : ∃ a, (Lib.cut (m.take 7) [125]).1 = a := ⟨_, rfl⟩
        rw [ha] at hn e3 hP e2 h3
        refine ⟨a, r ++ m.drop 7, ?_, hn, by omega, hP, hv, by omega⟩
        calc m = m.take 7 ++ m.drop 7 := (List.take_append_drop _ _).symm
          _ = _ := by rw [e3]; simp
      · cases h
    · cases h
  · cases h
theorem numV_of {a y : List UInt8} {n : Nat} (ha : ∀ b ∈ a, b ≠ 125) (hl : a.length ≤ 6) (hP : hexP a = some n) (hv : Go.validRune (n : Int) = true) : numV (a ++ 125 :: y) = some (n, a.length + 4) := by
  have ht : (a ++ 125 :: y).take 7 = a ++ 125 :: y.take (6 - a.length) := by
    rw [List.take_append, List.take_of_length_le (by omega)]
    obtain ⟨j, hj⟩ : ∃ j, 7 - a.length = j + 1 := ⟨6 - a.length, by omega⟩
    rw [hj, List.take_succ_cons, show 6 - a.length = j by omega]
  unfold numV
  rw [ht, cut_behind _ _ _ ha, if_pos rfl]
  simp only [hP, hv, if_true]
theorem escL_app {l : List UInt8} {d : Nat × Nat} (h : escL l = some d) (x : List UInt8) : escL (l ++ x) = some d := by
  unfold escL at h
  split at h
  · rename_i hp
    obtain ⟨n, k⟩ := d
    obtain ⟨a, y, h1, h2, h3, h4, h5, h6⟩ := numV_form h
    have h3' := prefix_len hp
    simp only [List.length_cons, List.length_nil] at h3'
    unfold escL
    rw [if_pos (prefix_more hp x), drop_app (by omega), h1, List.append_assoc, List.cons_append, numV_of h2 h3 h4 h5, h6]
  split at h
  · cases h
  split at h
  · rename_i hp hl h0
    split at h
    · cases h
    · rename_i hu
      have hp' : Lib.hasPrefix l [92, 117, 123] = false := by simpa using hp
      unfold escL
      have hq : Lib.hasPrefix (l ++ x) [92, 117, 123] = false := by
        match l, hl, hu with
        | [], hl, _ => exact absurd (by simp) hl
        | [_], hl, _ => exact absurd (by simp) hl
        | c0 :: c1 :: r, _, hu =>
          have : (117 == c1) = false := by
            rw [beq_eq_false_iff_ne]
            intro e
            subst e
            exact hu (show unsign 117 = 0 by decide)
          simp [Lib.hasPrefix, List.isPrefixOf, this]
      rw [if_neg (by rw [hq]; simp), if_neg (by rw [List.length_append]; omega), getD_app_lt _ _ _ (by omega), if_pos h0, getD_app_lt _ _ _ (by omega), if_neg hu]
      exact h
  · cases h
theorem escL_not {c : UInt8} (r : List UInt8) (h : c ≠ 92) : escL (c :: r) = none := by
  have h1 : (92 == c) = false := by rw [beq_eq_false_iff_ne]; exact fun e => h e.symm
  unfold escL
  rw [if_neg (by simp [Lib.hasPrefix, List.isPrefixOf, h1])]
  split
  · rfl
  · rw [if_neg (by simpa using h)]
theorem oneL_app {no : List Nat} (h92 : 92 ∈ no) {l : List UInt8} {d : Nat × Nat} (h : oneL no l = some d) (x : List UInt8) : oneL no (l ++ x) = some d := by
  unfold oneL at h
  split at h
  · rename_i d' hd
    unfold oneL
    rw [escL_app hd]
    exact h
  · rename_i he
    split at h
    · cases h
    split at h
    · cases h
    split at h
    · cases h
    · rename_i hne hd hno
      have e := decodeL_app l x hne hd
      have hesc : escL (l ++ x) = none := by
        cases l with
        | nil => exact absurd rfl hne
        | cons c r =>
          refine escL_not _ ?_
          intro ec
          subst ec
          rw [decodeL_low _ _ (by decide)] at hno
          exact hno (by simpa using h92)
      unfold oneL
      rw [hesc]
      dsimp only
      rw [if_neg (by simp [hne]), e, if_neg hd, if_neg hno]
      exact h
theorem partL_app {l : List UInt8} {p : Nat × Nat} {k : Nat} (h : partL l = some (p, k)) (hk : k < l.length) (x : List UInt8) : partL (l ++ x) = some (p, k) := by
  have h92 : 92 ∈ notSet := by decide
  unfold partL at h
  split at h
  · cases h
  · rename_i low m hl
    have hm := oneL_some hl
    unfold partL
    rw [oneL_app h92 hl]
    dsimp only
    rw [drop_app hm.2.2]
    split at h
    · rename_i hp
      rw [if_pos (prefix_more hp x)]
      have h1 := prefix_len hp
      rw [List.length_drop] at h1
      simp only [List.length_cons, List.length_nil] at h1
      rw [drop_app (by omega)]
      split at h
      · cases h
      · rename_i high q hh
        rw [oneL_app h92 hh]
        exact h
    · rename_i hp
      have hp' : Lib.hasPrefix (l.drop m) [45] = false := by simpa using hp
      injection h with h
      injection h with h1 h2
      rw [h2] at hp' ⊢
      have hq : Lib.hasPrefix (l.drop k ++ x) [45] = false := by
        obtain ⟨c, r, hcr⟩ : ∃ c r, l.drop k = c :: r := ⟨_, _, List.drop_eq_getElem_cons hk⟩
        rw [hcr] at hp' ⊢
        simpa [Lib.hasPrefix, List.isPrefixOf] using hp'
      rw [if_neg (by rw [hq]; simp), h1]
section
variable {α : Type} {one : List UInt8 → Option (α × Nat)}
theorem items_app (hn : one [] = none) (hs : ∀ l a k, one l = some (a, k) → 1 ≤ k ∧ k ≤ l.length) (happ : ∀ l a k x, one l = some (a, k) → k < l.length → one (l ++ x) = some (a, k)) {c : UInt8} (hc : ∀ y, one (c :: y) = none) (x : List UInt8) :
    ∀ (f g : Nat) (l : List UInt8), l.length ≤ f → (l ++ x).length ≤ g → (∃ r, l.drop (items one f l).2 = c :: r) → items one g (l ++ x) = items one f l
  | 0, g, l, h, _, ⟨r, hr⟩ => by
    have : l = [] := List.eq_nil_of_length_eq_zero (by omega)
    subst this
    simp at hr
  | f + 1, g, l, h1, h2, ⟨r, hr⟩ => by
    cases ho : one l with
    | none =>
      rw [items_none ho] at hr ⊢
      have : l = c :: r := hr
      subst this
      exact items_none (hc _)
    | some d =>
      obtain ⟨a, k⟩ := d
      have hk := hs l a k ho
      have e1 := items_some hn hs ho h1
      rw [e1] at hr ⊢
      have hlt : k < l.length := by
        have := congrArg List.length hr
        rw [List.length_drop, List.length_cons] at this
        dsimp only at this
        omega
      have e2 := items_some hn hs (happ l a k x ho hlt) h2
      rw [e2, drop_app hk.2]
      have ih' : items one g (l.drop k ++ x) = items one (f + 1) (l.drop k) := by
        rw [items_fuel hn hs (f + 1) f (l.drop k) (by rw [List.length_drop]; omega) (by rw [List.length_drop]; omega)]
        refine items_app hn hs happ hc x f g (l.drop k) (by rw [List.length_drop]; omega) (by rw [List.length_append, List.length_drop]; rw [List.length_append] at h2; omega) ⟨r, ?_⟩
        rw [items_fuel hn hs f (f + 1) (l.drop k) (by rw [List.length_drop]; omega) (by rw [List.length_drop]; omega), List.drop_drop]
        exact hr
      rw [ih']
end
theorem one39 (y : List UInt8) : oneL notText (39 :: y) = none := by
  unfold oneL
  rw [escL_not _ (by decide)]
  dsimp only
  rw [if_neg (by simp), decodeL_low _ _ (by decide), if_neg (by decide), if_pos (by decide)]
theorem one93 (y : List UInt8) : oneL notSet (93 :: y) = none := by
  unfold oneL
  rw [escL_not _ (by decide)]
  dsimp only
  rw [if_neg (by simp), decodeL_low _ _ (by decide), if_neg (by decide), if_pos (by decide)]
theorem part93 (y : List UInt8) : partL (93 :: y) = none := by
  unfold partL
  rw [one93]
theorem textR_app {l : List UInt8} (hl : l ≠ []) {k : Nat} {t : List UInt8} {st : List (Nat × Nat)} {z : Nat} (h : textR l = .ok k t st z) (x : List UInt8) : textR (l ++ x) = .ok k t st z := by
  have hp := List.length_pos_iff.2 hl
  unfold textR at h
  split at h
  · cases h
  split at h
  · rename_i hne hq
    obtain ⟨r, hr⟩ := (prefix_one _ _).1 hq
    have hlen := (drop_head hr).1
    have e : items (oneL notText) (l ++ x).length ((l ++ x).drop 1) = items (oneL notText) l.length (l.drop 1) := by
      rw [drop_app (by omega)]
      exact items_app (oneL_nil _) (fun l a k h => (oneL_some h).2) (fun l a k x h _ => oneL_app (by decide) h x) one39 x _ _ _ (by rw [List.length_drop]; omega) (by rw [List.length_append, List.length_append, List.length_drop]; omega) ⟨r, by rw [List.drop_drop]; exact hr⟩
    unfold textR
    rw [e, if_neg hne, drop_app (by omega), if_pos (prefix_more hq x)]
    exact h
  · cases h
theorem setR_app {l : List UInt8} (hl : l ≠ []) {k : Nat} {t : List UInt8} {st : List (Nat × Nat)} {z : Nat} (h : setR l = .ok k t st z) (x : List UInt8) : setR (l ++ x) = .ok k t st z := by
  have hp := List.length_pos_iff.2 hl
  unfold setR at h
  split at h
  · cases h
  split at h
  · rename_i hne hq
    obtain ⟨r, hr⟩ := (prefix_one _ _).1 hq
    have hlen := (drop_head hr).1
    have e : items partL (l ++ x).length ((l ++ x).drop 1) = items partL l.length (l.drop 1) := by
      rw [drop_app (by omega)]
      exact items_app partL_nil (fun l a k h => ⟨(partL_some h).1, (partL_some h).2.1⟩) (fun l a k x h hk => partL_app h hk x) part93 x _ _ _ (by rw [List.length_drop]; omega) (by rw [List.length_append, List.length_append, List.length_drop]; omega) ⟨r, by rw [List.drop_drop]; exact hr⟩
    unfold setR
    rw [e, if_neg hne, drop_app (by omega), if_pos (prefix_more hq x)]
    exact h
  · cases h
theorem wordR_nil : wordR [] = .err 4 := by kernel_rfl
/-- A word stays what it is, if what stands behind the text goes on with no byte of a name, none of a mark of two. -/
theorem wordR_app {l : List UInt8} {k : Nat} {t : List UInt8} {st : List (Nat × Nat)} {z : Nat} (h : wordR l = .ok k t st z) (c : UInt8) (x : List UInt8) (hc : folB c = false) (h62 : c ≠ 62) (h46 : c ≠ 46) : wordR (l ++ c :: x) = .ok k t st z := by
  have hl : l ≠ [] := by
    rintro rfl
    rw [wordR_nil] at h
    cases h
  have hd : digitB c = false := by
    unfold folB at hc
    simp only [Bool.or_eq_false_iff] at hc
    exact hc.1.2
  unfold wordR at h ⊢
  rw [head_app hl]
  split at h
  · rename_i h1
    rw [if_pos h1]
    unfold runR at h ⊢
    rw [tw_app _ _ _ hc]
    exact h
  rename_i h1
  rw [if_neg h1]
  split at h
  · rename_i h2
    rw [if_pos h2]
    unfold runR at h ⊢
    rw [tw_app _ _ _ hd]
    exact h
  rename_i h2
  rw [if_neg h2]
  split at h
  · rename_i h3
    rw [if_pos h3]
    exact textR_app hl h _
  rename_i h3
  rw [if_neg h3]
  split at h
  · rename_i h4
    rw [if_pos h4]
    exact setR_app hl h _
  rename_i h4
  rw [if_neg h4]
  unfold markR at h ⊢
  rw [head_app hl]
  split at h
  · rename_i hp
    have : 2 ≤ l.length := prefix_len hp
    rw [if_pos (prefix_more hp _), List.take_append_of_le_length this]
    exact h
  rename_i hp
  rw [if_neg (by rw [prefix_two_no (by simpa using hp) hl h62]; simp)]
  split at h
  · rename_i hp
    have : 2 ≤ l.length := prefix_len hp
    rw [if_pos (prefix_more hp _), List.take_append_of_le_length this]
    exact h
  rename_i hp2
  rw [if_neg (by rw [prefix_two_no (by simpa using hp2) hl h46]; simp), List.take_append_of_le_length (List.length_pos_iff.2 hl)]
  exact h
end Sc
end Go.Proofs.YtokpknjmcegkaaaDoor
