/- What the words of a text are: where they stand, and what they hold. -/
import Derived.Test.YtokpknjmcegkaaaDoorScK
namespace Go.Proofs.YtokpknjmcegkaaaDoor
namespace Sc
open Go Go.RowKit Ru
set_option maxRecDepth 100000

theorem SR.cons_ok {x : W} {r : SR} {ds : List W} (h : r.cons x = .ok ds) : ∃ ws, r = .ok ws ∧ ds = x :: ws := by
  cases r with
  | err e p => cases h
  | ok ws => injection h with h; exact ⟨ws, rfl, h.symm⟩
/-- Word by word: each begins behind the one ahead of it, and is what stands there. -/
theorem scan_words : ∀ (f : Nat) (l : List UInt8) (k : Nat) (ds : List W), l.length ≤ f → scanF f l k = .ok ds → ∀ (i : Nat) (d : W), ds[i]? = some d →
    k ≤ d.pos ∧ d.pos < k + l.length ∧ (∃ z, wordR (l.drop (d.pos - k)) = .ok d.kind d.text d.set z) ∧ ∀ (j : Nat) (e : W), j < i → ds[j]? = some e → e.pos < d.pos
  | 0, l, k, ds, hl, h, i, d, hd => by
    have h : SR.ok [] = .ok ds := h
    injection h with h
    subst h
    simp at hd
  | f + 1, l, k, ds, hl, h, i, d, hd => by
    cases hg : (gapL l).2 with
    | false =>
      rw [scan_fail _ _ hl hg] at h
      cases h
    | true =>
      by_cases he : l.drop (gapL l).1 = []
      · rw [scan_done _ _ hg he] at h
        injection h with h
        subst h
        simp at hd
      · cases hw : wordR (l.drop (gapL l).1) with
        | err e =>
          rw [scan_err _ _ e hl hg he hw] at h
          cases h
        | ok kd t st z =>
          rw [scan_ok _ _ kd t st z hl hg he hw] at h
          obtain ⟨ws, h1, h2⟩ := SR.cons_ok h
          obtain ⟨z1, z2, _⟩ := wordR_ok hw
          rw [List.length_drop] at z2
          have hgl : (gapL l).1 < l.length := by
            rcases Nat.lt_or_ge (gapL l).1 l.length with h0 | h0
            · exact h0
            · exact absurd (List.drop_eq_nil_of_le h0) he
          have hf : scanF f (l.drop ((gapL l).1 + z)) (k + (gapL l).1 + z) = .ok ws := by
            rw [scanF_fuel f (f + 1) _ _ (by rw [List.length_drop]; omega) (by rw [List.length_drop]; omega)]
            exact h1
          subst h2
          cases i with
          | zero =>
            simp at hd
            subst hd
            refine ⟨by show k ≤ k + _; omega, by show k + (gapL l).1 < _; omega, ⟨z, ?_⟩, fun j e hj => by omega⟩
            show wordR (l.drop (k + (gapL l).1 - k)) = _
            rw [Nat.add_sub_cancel_left]
            exact hw
          | succ i =>
            have hd' : ws[i]? = some d := by simpa using hd
            obtain ⟨a1, a2, ⟨z', a3⟩, a4⟩ := scan_words f _ _ ws (by rw [List.length_drop]; omega) hf i d hd'
            rw [List.length_drop] at a2
            refine ⟨by omega, by omega, ⟨z', ?_⟩, ?_⟩
            · rw [List.drop_drop] at a3
              rw [show d.pos - k = (gapL l).1 + z + (d.pos - (k + (gapL l).1 + z)) by omega]
              exact a3
            · intro j e hj hje
              cases j with
              | zero =>
                simp at hje
                subst hje
                show k + (gapL l).1 < _
                omega
              | succ j => exact a4 j e (by omega) (by simpa using hje)
/-- What a word holds. -/
theorem utf_four (r : Nat) : (utf r).length ≤ 4 := by
  have := encB_size (r : Int)
  rw [Lib.size_eq] at this
  exact this
theorem flat_len (rs : List Nat) : (rs.flatMap utf).length ≤ 4 * rs.length := by
  induction rs with
  | nil => simp
  | cons r rs ih =>
    have hu := utf_four r
    rw [List.flatMap_cons, List.length_append, List.length_cons]
    omega
theorem items_count {α : Type} {one : List UInt8 → Option (α × Nat)} (hs : ∀ l a k, one l = some (a, k) → 1 ≤ k ∧ k ≤ l.length) : ∀ (f : Nat) (l : List UInt8), (items one f l).1.length ≤ (items one f l).2
  | 0, _ => by simp [items]
  | f + 1, l => by
    unfold items
    cases ho : one l with
    | none => simp
    | some d =>
      obtain ⟨a, k⟩ := d
      have := hs l a k ho
      have e := items_count hs f (l.drop k)
      show (_ :: _).length ≤ k + _
      rw [List.length_cons]
      omega
theorem wordR_is {l : List UInt8} {kd : Nat} {t : List UInt8} {st : List (Nat × Nat)} {z : Nat} (h : wordR l = .ok kd t st z) :
    (kd = 0 ∨ kd = 1 ∨ kd = 4 ∨ kd = 2 ∨ kd = 3) ∧ st.length ≤ z ∧ t.length ≤ 4 * z ∧ ((kd = 0 ∨ kd = 1 ∨ kd = 4) → t.length = z ∧ t = l.take z ∧ st = []) ∧ (kd = 2 → st = [] ∧ ∃ rs : List Nat, t = rs.flatMap utf ∧ rs ≠ [] ∧ rs.length ≤ z ∧ ∀ r ∈ rs, Go.validRune (r : Int) = true) ∧
      (kd = 3 → t = [] ∧ st ≠ [] ∧ ∀ p ∈ st, p.1 ≤ p.2 ∧ Go.validRune (p.1 : Int) = true ∧ Go.validRune (p.2 : Int) = true) := by
  obtain ⟨hz1, hz2, _⟩ := wordR_ok h
  have hrun : ∀ {k most : Nat} {p : UInt8 → Bool}, runR k most p l = .ok kd t st z → (k = 0 ∨ k = 1) → (kd = 0 ∨ kd = 1 ∨ kd = 4 ∨ kd = 2 ∨ kd = 3) ∧ st.length ≤ z ∧ t.length ≤ 4 * z ∧ ((kd = 0 ∨ kd = 1 ∨ kd = 4) → t.length = z ∧ t = l.take z ∧ st = []) ∧ (kd = 2 → st = [] ∧ ∃ rs : List Nat, t = rs.flatMap utf ∧ rs ≠ [] ∧ rs.length ≤ z ∧ ∀ r ∈ rs, Go.validRune (r : Int) = true) ∧
      (kd = 3 → t = [] ∧ st ≠ [] ∧ ∀ p ∈ st, p.1 ≤ p.2 ∧ Go.validRune (p.1 : Int) = true ∧ Go.validRune (p.2 : Int) = true) := by
    intro k most p h hk
    unfold runR at h
    split at h
    · cases h
    · injection h with h1 h2 h3 h4
      subst h1 h2 h3 h4
      exact ⟨by omega, by simp, by omega, fun _ => ⟨rfl, (tw_take _).symm, rfl⟩, fun h => by omega, fun h => by omega⟩
  unfold wordR at h
  split at h
  · exact hrun h (Or.inl rfl)
  split at h
  · exact hrun h (Or.inr rfl)
  split at h
  · unfold textR at h
    split at h
    · cases h
    split at h
    · rename_i hne _
      injection h with h1 h2 h3 h4
      subst h1 h2 h3 h4
      have hc := items_count (one := oneL notText) (fun l a k h => (oneL_some h).2) l.length (l.drop 1)
      have hf := flat_len (items (oneL notText) l.length (l.drop 1)).1
      refine ⟨by omega, by simp, by omega, fun h => by omega, fun _ => ⟨rfl, (items (oneL notText) l.length (l.drop 1)).1, rfl, hne, by omega, ?_⟩, fun h => by omega⟩
      have key : ∀ (f : Nat) (l : List UInt8), ∀ r ∈ (items (oneL notText) f l).1, Go.validRune (r : Int) = true := by
        intro f
        induction f with
        | zero => intro l r hr; simp [items] at hr
        | succ f ih =>
          intro l r hr
          unfold items at hr
          cases ho : oneL notText l with
          | none => rw [ho] at hr; simp at hr
          | some d =>
            obtain ⟨a, k⟩ := d
            rw [ho] at hr
            simp only [List.mem_cons] at hr
            rcases hr with hr | hr
            · subst hr; exact (oneL_some ho).1
            · exact ih _ r hr
      exact key _ _
    · cases h
  split at h
  · unfold setR at h
    split at h
    · cases h
    split at h
    · rename_i hne _
      injection h with h1 h2 h3 h4
      subst h1 h2 h3 h4
      have hc := items_count (one := partL) (fun l a k h => ⟨(partL_some h).1, (partL_some h).2.1⟩) l.length (l.drop 1)
      refine ⟨by omega, by omega, by simp, fun h => by omega, fun h => by omega, fun _ => ⟨rfl, hne, ?_⟩⟩
      have key : ∀ (f : Nat) (l : List UInt8), ∀ p ∈ (items partL f l).1, p.1 ≤ p.2 ∧ Go.validRune (p.1 : Int) = true ∧ Go.validRune (p.2 : Int) = true := by
        intro f
        induction f with
        | zero => intro l r hr; simp [items] at hr
        | succ f ih =>
          intro l r hr
          unfold items at hr
          cases ho : partL l with
          | none => rw [ho] at hr; simp at hr
          | some d =>
            obtain ⟨a, k⟩ := d
            rw [ho] at hr
            simp only [List.mem_cons] at hr
            rcases hr with hr | hr
            · subst hr; exact (partL_some ho).2.2
            · exact ih _ r hr
      exact key _ _
    · cases h
  · unfold markR at h
    split at h
    · rename_i hp
      have := prefix_len hp
      injection h with h1 h2 h3 h4
      subst h1 h2 h3 h4
      simp only [List.length_cons, List.length_nil] at this
      exact ⟨by omega, by simp, by rw [List.length_take]; omega, fun _ => ⟨by rw [List.length_take]; omega, rfl, rfl⟩, fun h => by omega, fun h => by omega⟩
    split at h
    · rename_i hp
      have := prefix_len hp
      injection h with h1 h2 h3 h4
      subst h1 h2 h3 h4
      simp only [List.length_cons, List.length_nil] at this
      exact ⟨by omega, by simp, by rw [List.length_take]; omega, fun _ => ⟨by rw [List.length_take]; omega, rfl, rfl⟩, fun h => by omega, fun h => by omega⟩
    split at h
    · injection h with h1 h2 h3 h4
      subst h1 h2 h3 h4
      exact ⟨by omega, by simp, by rw [List.length_take]; omega, fun _ => ⟨by rw [List.length_take]; omega, rfl, rfl⟩, fun h => by omega, fun h => by omega⟩
    · cases h
/-- Of a text that is read. -/
theorem scanL_ok {l : List UInt8} {ds : List W} (h : scanL l = .ok ds) : l.length ≤ 65536 ∧ Good l ∧ scanF l.length l 0 = .ok ds := by
  unfold scanL at h
  split at h
  · cases h
  split at h
  · cases h
  · refine ⟨by omega, ?_, h⟩
    rcases bd_range l.length l 0 with h1 | ⟨h1, _⟩
    · exact h1
    · unfold bad at *
      omega
end Sc
end Go.Proofs.YtokpknjmcegkaaaDoor
