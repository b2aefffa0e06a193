/- Scans: the words of a text, as plain functions on lists of bytes; what they do step by step. -/
import Derived.Test.YtokpknjmcegkaaaDoorRuR
namespace Go.Proofs.YtokpknjmcegkaaaDoor
namespace Sc
open Go Go.RowKit Ru

def letterB (c : UInt8) : Bool := (decide (97 ≤ c.toNat) && decide (c.toNat ≤ 122)) || (decide (65 ≤ c.toNat) && decide (c.toNat ≤ 90))
def digitB (c : UInt8) : Bool := decide (48 ≤ c.toNat) && decide (c.toNat ≤ 57)
def folB (c : UInt8) : Bool := letterB c || digitB c || decide (c.toNat = 95)
def blankB (c : UInt8) : Bool := c == 32 || c == 9 || c == 10 || c == 13

/-- What stands first between words. -/
inductive Skip | stop | fail | go (n : Nat)
def skip (l : List UInt8) : Skip :=
  if blankB (l.getD 0 0) = true then .go 1
  else if Lib.hasPrefix l [47, 47] = true then .go (Lib.cut l [10]).1.length
  else if Lib.hasPrefix l [47, 42] = true then
    (if (Lib.cut (l.drop 2) [42, 47]).2.2 = true then .go ((Lib.cut (l.drop 2) [42, 47]).1.length + 4) else .fail)
  else .stop
def gapF : Nat → List UInt8 → Nat × Bool
  | 0, _ => (0, true)
  | f + 1, l => match skip l with
    | .stop => (0, true)
    | .fail => (0, false)
    | .go n => (n + (gapF f (l.drop n)).1, (gapF f (l.drop n)).2)
/-- The gap with which l begins: how many bytes it has, or up to the comment that does not end; and if it ends. -/
def gapL (l : List UInt8) : Nat × Bool := gapF l.length l

/-- A rune of a text or a set: it, and how many bytes it takes. -/
def oneL (no : List Nat) (l : List UInt8) : Option (Nat × Nat) :=
  match escL l with
  | some d => some d
  | none => if l = [] then none else if Lib.decodeL l = (65533, 1) then none else if (Lib.decodeL l).1 ∈ no then none else some (Lib.decodeL l)
def notText : List Nat := [39, 92, 10]
def notSet : List Nat := [93, 91, 92, 45, 10]
def items {α : Type} (one : List UInt8 → Option (α × Nat)) : Nat → List UInt8 → List α × Nat
  | 0, _ => ([], 0)
  | f + 1, l => match one l with
    | none => ([], 0)
    | some (a, n) => (a :: (items one f (l.drop n)).1, n + (items one f (l.drop n)).2)
def partL (l : List UInt8) : Option ((Nat × Nat) × Nat) :=
  match oneL notSet l with
  | none => none
  | some (low, k) =>
    if Lib.hasPrefix (l.drop k) [45] = true then
      match oneL notSet (l.drop (k + 1)) with
      | none => none
      | some (high, m) => if high < low then none else some ((low, high), k + 1 + m)
    else some ((low, low), k)

/-- What a word is read as. -/
inductive WR | err (e : Nat) | ok (kind : Nat) (text : List UInt8) (set : List (Nat × Nat)) (size : Nat)
def runR (kind most : Nat) (p : UInt8 → Bool) (l : List UInt8) : WR :=
  if most < (l.takeWhile p).length then .err 3 else .ok kind (l.takeWhile p) [] (l.takeWhile p).length
def utf (r : Nat) : List UInt8 := encL (r : Int)
def textR (l : List UInt8) : WR :=
  if (items (oneL notText) l.length (l.drop 1)).1 = [] then .err 4
  else if Lib.hasPrefix (l.drop (1 + (items (oneL notText) l.length (l.drop 1)).2)) [39] = true then
    .ok 2 ((items (oneL notText) l.length (l.drop 1)).1.flatMap utf) [] (1 + (items (oneL notText) l.length (l.drop 1)).2 + 1)
  else .err 4
def setR (l : List UInt8) : WR :=
  if (items partL l.length (l.drop 1)).1 = [] then .err 4
  else if Lib.hasPrefix (l.drop (1 + (items partL l.length (l.drop 1)).2)) [93] = true then
    .ok 3 [] (items partL l.length (l.drop 1)).1 (1 + (items partL l.length (l.drop 1)).2 + 1)
  else .err 4
def marksL : List UInt8 := [58, 59, 124, 40, 41, 63, 42, 43, 61, 123, 125, 46, 126]
def markR (l : List UInt8) : WR :=
  if Lib.hasPrefix l [61, 62] = true then .ok 4 (l.take 2) [] 2
  else if Lib.hasPrefix l [46, 46] = true then .ok 4 (l.take 2) [] 2
  else if l.getD 0 0 ∈ marksL then .ok 4 (l.take 1) [] 1 else .err 4
def wordR (l : List UInt8) : WR :=
  if letterB (l.getD 0 0) = true then runR 0 64 folB l
  else if digitB (l.getD 0 0) = true then runR 1 9 digitB l
  else if l.getD 0 0 = 39 then textR l
  else if l.getD 0 0 = 91 then setR l
  else markR l

structure W where
  kind : Nat
  text : List UInt8
  set : List (Nat × Nat)
  pos : Nat
inductive SR | err (e pos : Nat) | ok (ws : List W)
def SR.cons (x : W) : SR → SR
  | .err e p => .err e p
  | .ok ws => .ok (x :: ws)
def SR.app (xs : List W) : SR → SR
  | .err e p => .err e p
  | .ok ws => .ok (xs ++ ws)
/-- The words of l, which stands at k in the text. -/
def scanF : Nat → List UInt8 → Nat → SR
  | 0, _, _ => .ok []
  | f + 1, l, k =>
    if (gapL l).2 = false then .err 4 (k + (gapL l).1)
    else if l.drop (gapL l).1 = [] then .ok []
    else match wordR (l.drop (gapL l).1) with
      | .err e => .err e (k + (gapL l).1)
      | .ok kd t st z => (scanF f (l.drop ((gapL l).1 + z)) (k + (gapL l).1 + z)).cons ⟨kd, t, st, k + (gapL l).1⟩
def scanL (l : List UInt8) : SR :=
  if 65536 < l.length then .err 3 0
  else if 0 ≤ bad l then .err 4 (bad l).toNat
  else scanF l.length l 0

theorem SR.app_nil (r : SR) : r.app [] = r := by cases r <;> rfl
theorem SR.app_cons (xs : List W) (x : W) (r : SR) : (r.cons x).app xs = r.app (xs ++ [x]) := by cases r <;> simp [SR.cons, SR.app]

/-- Each skip takes something, and no more than there is. -/
theorem blank_ne {l : List UInt8} (h : blankB (l.getD 0 0) = true) : 1 ≤ l.length := by
  cases l with
  | nil => simp [blankB] at h
  | cons _ _ => simp
theorem prefix_app {l p : List UInt8} (h : Lib.hasPrefix l p = true) : ∃ r, l = p ++ r := by
  unfold Lib.hasPrefix at h
  obtain ⟨r, hr⟩ := List.isPrefixOf_iff_prefix.1 h
  exact ⟨r, hr.symm⟩
theorem prefix_of (p r : List UInt8) : Lib.hasPrefix (p ++ r) p = true := by
  unfold Lib.hasPrefix
  exact List.isPrefixOf_iff_prefix.2 ⟨r, rfl⟩
theorem prefix_len {l p : List UInt8} (h : Lib.hasPrefix l p = true) : p.length ≤ l.length := by
  obtain ⟨r, hr⟩ := prefix_app h
  rw [hr]; simp
theorem prefix_one (l : List UInt8) (c : UInt8) : Lib.hasPrefix l [c] = true ↔ ∃ r, l = c :: r := by
  constructor
  · intro h
    obtain ⟨r, hr⟩ := prefix_app h
    exact ⟨r, hr⟩
  · rintro ⟨r, rfl⟩
    exact prefix_of [c] r
/-- What a cut is. -/
theorem cut_no {l sep : List UInt8} (h : (Lib.cut l sep).2.2 = false) : (Lib.cut l sep).1 = l ∧ ∀ j, j ≤ l.length → Lib.occAt l sep j = false := by
  unfold Lib.cut at h ⊢
  rcases Lib.index_spec l sep with ⟨h1, h2⟩ | ⟨i, h1, _⟩
  · rw [if_neg (by omega)]
    exact ⟨rfl, h2⟩
  · rw [if_pos (by omega)] at h
    simp at h
theorem cut_yes {l sep : List UInt8} (h : (Lib.cut l sep).2.2 = true) : ∃ i : Nat, i ≤ l.length ∧ (Lib.cut l sep).1 = l.take i ∧ (Lib.cut l sep).1.length = i ∧ Lib.occAt l sep i = true ∧ (∀ j, j < i → Lib.occAt l sep j = false) := by
  unfold Lib.cut at h ⊢
  rcases Lib.index_spec l sep with ⟨h1, h2⟩ | ⟨i, h1, h2, h3, h4⟩
  · rw [if_neg (by omega)] at h
    simp at h
  · rw [if_pos (by omega), h1]
    refine ⟨i, h2, ?_, ?_, h3, h4⟩
    · simp
    · simp; omega
theorem occ_split {l sep : List UInt8} {i : Nat} (h : Lib.occAt l sep i = true) : ∃ r, l.drop i = sep ++ r := prefix_app h
theorem occ_len {l sep : List UInt8} {i : Nat} (h : Lib.occAt l sep i = true) (hs : sep ≠ []) : i + sep.length ≤ l.length := by
  rcases Lib.occAt_room h with h | h
  · exact h
  · exact absurd h hs
theorem skip_go {l : List UInt8} {n : Nat} (h : skip l = .go n) : 1 ≤ n ∧ n ≤ l.length := by
  unfold skip at h
  split at h
  · rename_i hb
    injection h with h
    have := blank_ne hb
    omega
  split at h
  · rename_i _ hp
    injection h with h
    subst h
    obtain ⟨r, hr⟩ := prefix_app hp
    refine ⟨?_, cut_le _ _⟩
    cases hc : (Lib.cut l [10]).2.2 with
    | false => rw [(cut_no hc).1, hr]; simp
    | true =>
      obtain ⟨i, _, _, h3, h4, _⟩ := cut_yes hc
      rw [h3]
      rcases Nat.eq_zero_or_pos i with h0 | h0
      · subst h0
        obtain ⟨q, hq⟩ := occ_split h4
        rw [hr] at hq
        simp at hq
      · exact h0
  split at h
  · rename_i _ _ hp
    split at h
    · rename_i hc
      injection h with h
      subst h
      obtain ⟨i, _, _, h3, h4, _⟩ := cut_yes hc
      have h5 := occ_len h4 (by simp)
      have h6 := prefix_len hp
      rw [h3]
      rw [List.length_drop] at h5
      simp only [List.length_cons, List.length_nil] at h5 h6
      omega
    · cases h
  · cases h
theorem skip_nil : skip [] = .stop := rfl
theorem gapF_nil (f : Nat) : gapF f [] = (0, true) := by
  cases f with
  | zero => rfl
  | succ f => unfold gapF; rw [skip_nil]
theorem gapF_fuel : ∀ (f g : Nat) (l : List UInt8), l.length ≤ f → l.length ≤ g → gapF f l = gapF g l
  | 0, g, l, h, _ => by
    have : l = [] := List.eq_nil_of_length_eq_zero (by omega)
    subst this
    rw [gapF_nil, gapF_nil]
  | f + 1, 0, l, _, h => by
    have : l = [] := List.eq_nil_of_length_eq_zero (by omega)
    subst this
    rw [gapF_nil, gapF_nil]
  | f + 1, g + 1, l, h1, h2 => by
    unfold gapF
    cases hs : skip l with
    | stop => rfl
    | fail => rfl
    | go n =>
      have := skip_go hs
      have e := gapF_fuel f g (l.drop n) (by rw [List.length_drop]; omega) (by rw [List.length_drop]; omega)
      simp only [e]
theorem gapL_stop {l : List UInt8} (h : skip l = .stop) : gapL l = (0, true) := by
  unfold gapL
  cases hl : l.length with
  | zero => rfl
  | succ f => unfold gapF; rw [h]
theorem gapL_fail {l : List UInt8} (h : skip l = .fail) : gapL l = (0, false) := by
  unfold gapL
  cases hl : l.length with
  | zero =>
    have : l = [] := List.eq_nil_of_length_eq_zero hl
    subst this
    rw [skip_nil] at h; cases h
  | succ f => unfold gapF; rw [h]
theorem gapL_go {l : List UInt8} {n : Nat} (h : skip l = .go n) : gapL l = (n + (gapL (l.drop n)).1, (gapL (l.drop n)).2) := by
  have hn := skip_go h
  have e := gapF_fuel (l.length - 1) (l.drop n).length (l.drop n) (by rw [List.length_drop]; omega) (Nat.le_refl _)
  conv => lhs; unfold gapL
  have hl : l.length = (l.length - 1) + 1 := by omega
  rw [hl]
  unfold gapF
  rw [h]
  simp only [e]
  rfl
theorem gapL_le : ∀ (k : Nat) (l : List UInt8), l.length ≤ k → (gapL l).1 ≤ l.length
  | 0, l, h => by
    have : l = [] := List.eq_nil_of_length_eq_zero (by omega)
    subst this
    rw [gapL_stop skip_nil]
    simp
  | k + 1, l, h => by
    cases hs : skip l with
    | stop => rw [gapL_stop hs]; simp
    | fail => rw [gapL_fail hs]; simp
    | go n =>
      have hn := skip_go hs
      have := gapL_le k (l.drop n) (by rw [List.length_drop]; omega)
      rw [gapL_go hs]
      rw [List.length_drop] at this
      show n + _ ≤ _
      omega

/-- Runes, one by one. -/
theorem decode_valid (l : List UInt8) (h : Lib.decodeL l ≠ (65533, 1)) : Go.validRune ((Lib.decodeL l).1 : Int) = true := by
  rw [Lib.decodeL_N] at h ⊢
  rw [valid_iff]
  have b0 := (l.getD 0 0).toNat_lt
  rcases Lib.decodeN_shape l.length (l.getD 0 0).toNat (l.getD 1 0).toNat (l.getD 2 0).toNat (l.getD 3 0).toNat with ⟨c, e⟩ | ⟨c1, c2, c3, cv, e⟩ | ⟨c1, c2, c3, c4, cv, cs, e⟩ | ⟨c1, c2, c3, c4, c5, cv, cw, e⟩ | e
  · rw [e]; dsimp only; omega
  · rw [e]; dsimp only; omega
  · rw [e]; dsimp only; omega
  · rw [e]; dsimp only; omega
  · exact absurd e h
theorem numV_some {l : List UInt8} {n k : Nat} (h : numV l = some (n, k)) : Go.validRune (n : Int) = true ∧ 4 ≤ k ∧ k ≤ l.length + 3 := by
  unfold numV at h
  split at h
  · rename_i hc
    split at h
    · split at h
      · rename_i hv
        injection h with h
        injection h with h1 h2
        subst h1 h2
        obtain ⟨i, _, _, h3, h4, _⟩ := cut_yes hc
        have h5 := occ_len h4 (by simp)
        have : (l.take 7).length ≤ l.length := by rw [List.length_take]; omega
        simp only [List.length_cons, List.length_nil] at h5
        exact ⟨hv, by omega, by omega⟩
      · cases h
    · cases h
  · cases h
theorem unsign_valid (c : UInt8) : unsign c ≤ 93 := by
  unfold unsign
  repeat' split
  all_goals omega
theorem escL_some {l : List UInt8} {n k : Nat} (h : escL l = some (n, k)) : Go.validRune (n : Int) = true ∧ 2 ≤ k ∧ k ≤ l.length := by
  unfold escL at h
  split at h
  · rename_i hp
    have := prefix_len hp
    obtain ⟨h1, h2, h3⟩ := numV_some h
    rw [List.length_drop] at h3
    simp only [List.length_cons, List.length_nil] at this
    exact ⟨h1, by omega, by omega⟩
  split at h
  · cases h
  split at h
  · split at h
    · cases h
    · injection h with h
      injection h with h1 h2
      subst h1 h2
      have := unsign_valid (l.getD 1 0)
      exact ⟨by rw [valid_iff]; omega, Nat.le_refl _, by omega⟩
  · cases h
theorem escL_nil : escL [] = none := by decide
theorem oneL_some {no : List Nat} {l : List UInt8} {r k : Nat} (h : oneL no l = some (r, k)) : Go.validRune (r : Int) = true ∧ 1 ≤ k ∧ k ≤ l.length := by
  unfold oneL at h
  split at h
  · rename_i d hd
    injection h with h
    subst h
    have := escL_some hd
    exact ⟨this.1, by omega, this.2.2⟩
  · split at h
    · cases h
    split at h
    · cases h
    split at h
    · cases h
    · rename_i hne hd _
      injection h with h
      have h1 : r = (Lib.decodeL l).1 := by rw [h]
      have h2 : k = (Lib.decodeL l).2 := by rw [h]
      subst h1 h2
      exact ⟨decode_valid l hd, Lib.decodeL_width l, Lib.decodeL_le l hne⟩
theorem oneL_nil (no : List Nat) : oneL no [] = none := by
  unfold oneL
  rw [escL_nil]
  simp
theorem partL_some {l : List UInt8} {p : Nat × Nat} {k : Nat} (h : partL l = some (p, k)) : 1 ≤ k ∧ k ≤ l.length ∧ p.1 ≤ p.2 ∧ Go.validRune (p.1 : Int) = true ∧ Go.validRune (p.2 : Int) = true := by
  unfold partL at h
  split at h
  · cases h
  · rename_i low m hl
    obtain ⟨v1, k1, k2⟩ := oneL_some hl
    split at h
    · split at h
      · cases h
      · rename_i high q hh
        obtain ⟨v2, q1, q2⟩ := oneL_some hh
        split at h
        · cases h
        · injection h with h
          injection h with h1 h2
          subst h1 h2
          rw [List.length_drop] at q2
          exact ⟨by omega, by omega, by simp; omega, v1, v2⟩
    · injection h with h
      injection h with h1 h2
      subst h1 h2
      exact ⟨k1, k2, Nat.le_refl _, v1, v1⟩
theorem partL_nil : partL [] = none := by
  unfold partL
  rw [oneL_nil]

section
variable {α : Type} {one : List UInt8 → Option (α × Nat)}
theorem items_nil (hn : one [] = none) (f : Nat) : items one f [] = ([], 0) := by
  cases f with
  | zero => rfl
  | succ f => unfold items; rw [hn]
theorem items_fuel (hn : one [] = none) (hs : ∀ l a k, one l = some (a, k) → 1 ≤ k ∧ k ≤ l.length) : ∀ (f g : Nat) (l : List UInt8), l.length ≤ f → l.length ≤ g → items one f l = items one g l
  | 0, g, l, h, _ => by
    have : l = [] := List.eq_nil_of_length_eq_zero (by omega)
    subst this
    rw [items_nil hn, items_nil hn]
  | f + 1, 0, l, _, h => by
    have : l = [] := List.eq_nil_of_length_eq_zero (by omega)
    subst this
    rw [items_nil hn, items_nil hn]
  | f + 1, g + 1, l, h1, h2 => by
    unfold items
    cases ho : one l with
    | none => rfl
    | some d =>
      obtain ⟨a, k⟩ := d
      have := hs l a k ho
      have e := items_fuel hn hs f g (l.drop k) (by rw [List.length_drop]; omega) (by rw [List.length_drop]; omega)
      simp only [e]
theorem items_none {f : Nat} {l : List UInt8} (h : one l = none) : items one f l = ([], 0) := by
  cases f with
  | zero => rfl
  | succ f => unfold items; rw [h]
theorem items_some (hn : one [] = none) (hs : ∀ l a k, one l = some (a, k) → 1 ≤ k ∧ k ≤ l.length) {f : Nat} {l : List UInt8} {a : α} {k : Nat} (h : one l = some (a, k)) (hf : l.length ≤ f) :
    items one f l = (a :: (items one f (l.drop k)).1, k + (items one f (l.drop k)).2) := by
  have hk := hs l a k h
  cases f with
  | zero => omega
  | succ f =>
    conv => lhs; unfold items
    rw [h]
    have e := items_fuel hn hs f (f + 1) (l.drop k) (by rw [List.length_drop]; omega) (by rw [List.length_drop]; omega)
    simp only [e]
theorem items_le (hs : ∀ l a k, one l = some (a, k) → 1 ≤ k ∧ k ≤ l.length) : ∀ (f : Nat) (l : List UInt8), (items one f l).2 ≤ l.length
  | 0, _ => by simp [items]
  | f + 1, l => by
    unfold items
    cases ho : one l with
    | none => simp
    | some d =>
      obtain ⟨a, k⟩ := d
      have := hs l a k ho
      have e := items_le hs f (l.drop k)
      rw [List.length_drop] at e
      show k + _ ≤ _
      omega
end
end Sc
end Go.Proofs.YtokpknjmcegkaaaDoor
