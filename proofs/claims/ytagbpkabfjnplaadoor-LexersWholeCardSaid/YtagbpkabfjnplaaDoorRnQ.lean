/- Ranges, pure: the ends of lists; what the sets that are made of them hold. Nothing of the program stands here. -/
import Derived.Test.YtagbpkabfjnplaaDoorRnP
namespace Go.Proofs.YtagbpkabfjnplaaDoor.Rn
open Go

/-- The ends of a range. -/
def endsR (e : Int) (r : Int × Int) : List (Int × Int) := if r.1 ≤ r.2 then [(r.1, e), (r.2 + 1, -e)] else []
def endsL (e : Int) (l : List (Int × Int)) : List (Int × Int) := l.flatMap (endsR e)
def endsLL (e : Int) (ls : List (List (Int × Int))) : List (Int × Int) := ls.flatMap (endsL e)
/-- How many of them hold a number. -/
def cnt (l : List (Int × Int)) (y : Int) : Nat := (l.filter fun r => decide (r.1 ≤ y) && decide (y ≤ r.2)).length
theorem cnt_pos (l : List (Int × Int)) (y : Int) : 0 < cnt l y ↔ hasB l y = true := by
  unfold cnt hasB
  rw [List.length_pos_iff_exists_mem, List.any_eq_true]
  simp
theorem cnt_zero (l : List (Int × Int)) (y : Int) : cnt l y = 0 ↔ hasB l y = false := by
  have := cnt_pos l y
  cases h : hasB l y with
  | true => rw [h] at this; simp at this; simp; omega
  | false => rw [h] at this; simp at this; simp; omega
theorem upto_ends (e y : Int) : ∀ (l : List (Int × Int)), upto y (endsL e l) = e * cnt l y
  | [] => by simp [endsL, upto, cnt]
  | r :: l => by
    have ih := upto_ends e y l
    have h1 : endsL e (r :: l) = endsR e r ++ endsL e l := rfl
    rw [h1, upto_append, ih]
    have h2 : cnt (r :: l) y = (if r.1 ≤ y ∧ y ≤ r.2 then 1 else 0) + cnt l y := by
      unfold cnt
      rw [List.filter_cons]
      by_cases h : r.1 ≤ y ∧ y ≤ r.2
      · rw [if_pos (by simpa using h), if_pos h, List.length_cons]; omega
      · rw [if_neg (by simpa using h), if_neg h]; omega
    rw [h2]
    have h3 : upto y (endsR e r) = if r.1 ≤ y ∧ y ≤ r.2 then e else 0 := by
      unfold endsR
      by_cases h : r.1 ≤ r.2
      · rw [if_pos h]
        simp only [upto]
        by_cases a : r.1 ≤ y
        · by_cases b : y ≤ r.2
          · rw [if_pos a, if_neg (show ¬ r.2 + 1 ≤ y by omega), if_pos ⟨a, b⟩]; omega
          · rw [if_pos a, if_pos (show r.2 + 1 ≤ y by omega), if_neg (by omega)]; omega
        · rw [if_neg a, if_neg (show ¬ r.2 + 1 ≤ y by omega), if_neg (by omega)]; omega
      · rw [if_neg h, if_neg (by omega)]; rfl
    rw [h3]
    by_cases h : r.1 ≤ y ∧ y ≤ r.2
    · rw [if_pos h, if_pos h, Int.natCast_add, Int.mul_add]; simp
    · rw [if_neg h, if_neg h]; simp
theorem upto_ends2 (y : Int) (ls : List (List (Int × Int))) : 0 ≤ upto y (endsLL 1 ls) ∧ (0 < upto y (endsLL 1 ls) ↔ ls.any (fun l => hasB l y) = true) := by
  induction ls with
  | nil => simp [endsLL, upto]
  | cons l ls ih =>
    have h1 : endsLL 1 (l :: ls) = endsL 1 l ++ endsLL 1 ls := rfl
    rw [h1, upto_append, upto_ends, List.any_cons, Bool.or_eq_true, ← ih.2, ← cnt_pos]
    omega
theorem mem_endsL {e : Int} {l : List (Int × Int)} {p : Int × Int} : p ∈ endsL e l ↔ ∃ r ∈ l, r.1 ≤ r.2 ∧ (p = (r.1, e) ∨ p = (r.2 + 1, -e)) := by
  unfold endsL endsR
  rw [List.mem_flatMap]
  constructor
  · rintro ⟨r, hr, h⟩
    by_cases k : r.1 ≤ r.2
    · rw [if_pos k] at h; simp at h; exact ⟨r, hr, k, h⟩
    · rw [if_neg k] at h; simp at h
  · rintro ⟨r, hr, k, h⟩
    exact ⟨r, hr, by rw [if_pos k]; simpa using h⟩
/-- Numbers as a rune's type has them. -/
def I32 (l : List (Int × Int)) : Prop := ∀ r ∈ l, (-2147483648 ≤ r.1 ∧ r.1 ≤ 2147483647) ∧ (-2147483648 ≤ r.2 ∧ r.2 ≤ 2147483647)
def lowest : Int := -2147483648
theorem ends_in {e : Int} {l : List (Int × Int)} (h : I32 l) : ∀ p ∈ endsL e l, lowest ≤ p.1 ∧ p.1 ≤ 2147483648 := fun p hp => by
  obtain ⟨r, hr, hle, h2⟩ := mem_endsL.1 hp
  have := h r hr
  unfold lowest
  rcases h2 with rfl | rfl <;> simp only <;> omega
theorem endsLL_in {e : Int} {ls : List (List (Int × Int))} (h : ∀ l ∈ ls, I32 l) : ∀ p ∈ endsLL e ls, lowest ≤ p.1 ∧ p.1 ≤ 2147483648 := fun p hp => by
  obtain ⟨l, hl, hp⟩ := List.mem_flatMap.1 hp
  exact ends_in (h l hl) p hp
theorem hasB_in {l : List (Int × Int)} (h : I32 l) {y : Int} (hy : hasB l y = true) : -2147483648 ≤ y ∧ y ≤ 2147483647 := by
  obtain ⟨r, hr, h1, h2⟩ := (hasB_iff l y).1 hy
  have := h r hr
  omega
theorem endsL_len (e : Int) : ∀ l : List (Int × Int), (endsL e l).length ≤ 2 * l.length
  | [] => by simp [endsL]
  | r :: l => by
    have ih := endsL_len e l
    have h1 : endsL e (r :: l) = endsR e r ++ endsL e l := rfl
    rw [h1, List.length_append, List.length_cons]
    have : (endsR e r).length ≤ 2 := by unfold endsR; split <;> simp
    omega
/-- How many ranges there are in lists. -/
def total : List (List (Int × Int)) → Nat
  | [] => 0
  | l :: ls => l.length + total ls
theorem endsLL_len (e : Int) : ∀ ls : List (List (Int × Int)), (endsLL e ls).length ≤ 2 * total ls
  | [] => by simp [endsLL]
  | l :: ls => by
    have ih := endsLL_len e ls
    have h0 := endsL_len e l
    have h1 : endsLL e (l :: ls) = endsL e l ++ endsLL e ls := rfl
    rw [h1, List.length_append]
    simp only [total]
    omega

/-! ### Neat lists -/
/-- Is what holds nothing at once behind each? -/
def neatB : List (Int × Int) → Bool
  | [] => true
  | r :: t => decide (r.1 ≤ r.2) && (match t with | [] => true | q :: _ => decide (r.2 + 1 < q.1)) && neatB t
theorem Runs.neat {σ : Int → Bool} : ∀ (l : List (Int × Int)) (b : Int), Runs false σ b l → neatB l = true
  | [], _, _ => rfl
  | r :: t, b, ⟨h1, h2, h3, h4, h5, h6, h7⟩ => by
    have ih := Runs.neat t _ h7
    simp only [neatB, ih, Bool.and_true, Bool.and_eq_true, decide_eq_true_eq]
    refine ⟨h2, ?_⟩
    cases t with
    | nil => rfl
    | cons q t =>
      obtain ⟨g1, g2, g3, g4, _⟩ := h7
      rw [decide_eq_true_iff]
      by_cases k : q.1 = r.2 + 1
      · exfalso
        rw [k] at g4
        cases e : σ r.1 with
        | false => exact h4 e
        | true => rw [e] at h6; cases e2 : σ (r.2 + 1) with
          | true => exact h6 e2
          | false => exact g4 e2
      · omega
theorem neat_runs : ∀ (l : List (Int × Int)) (b : Int), neatB l = true → (∀ r ∈ l, b ≤ r.1) → Runs false (hasB l) b l
  | [], _, _, _ => fun _ _ => rfl
  | r :: t, b, h, hb => by
    simp only [neatB, Bool.and_eq_true, decide_eq_true_eq] at h
    obtain ⟨⟨h1, h2⟩, h3⟩ := h
    have hlow : ∀ q ∈ t, r.2 + 1 < q.1 := by
      have : ∀ (t : List (Int × Int)) (x : Int), neatB t = true → (match t with | [] => true | q :: _ => decide (x < q.1)) = true → ∀ q ∈ t, x < q.1 := by
        intro t
        induction t with
        | nil => intro x _ _ q hq; simp at hq
        | cons p t ih =>
          intro x hn hx q hq
          simp only [decide_eq_true_eq] at hx
          rcases List.mem_cons.1 hq with rfl | hq
          · exact hx
          · simp only [neatB, Bool.and_eq_true, decide_eq_true_eq] at hn
            refine Int.lt_trans hx (ih p.1 hn.2 ?_ q hq)
            cases t with
            | nil => rfl
            | cons q' t => have := hn.1.2; simp only [decide_eq_true_eq] at this ⊢; have := hn.1.1; omega
      refine this t _ h3 ?_
      cases t with
      | nil => rfl
      | cons q t => exact h2
    have hno : ∀ y, y ≤ r.2 + 1 → hasB t y = false := fun y hy => by
      rw [← Bool.not_eq_true, hasB_iff]
      rintro ⟨q, hq, k1, k2⟩
      have := hlow q hq
      omega
    have hyes : ∀ y, r.1 ≤ y → y ≤ r.2 → hasB (r :: t) y = true := fun y k1 k2 => by rw [hasB_cons, decide_eq_true k1, decide_eq_true k2]; rfl
    have e0 := hyes r.1 (Int.le_refl _) h1
    refine ⟨hb r (by simp), h1, fun y k1 k2 => ?_, by rw [e0]; decide, fun y k1 k2 => by rw [hyes y k1 k2, e0], ?_, ?_⟩
    · rw [hasB_cons, decide_eq_false (by omega), hno y (by omega)]; rfl
    · rw [e0, hasB_cons, decide_eq_false (show ¬ r.2 + 1 ≤ r.2 by omega), hno _ (Int.le_refl _), Bool.and_false]; decide
    · refine Runs.congr t _ (fun y hy => ?_) (neat_runs t (r.2 + 1) h3 (fun q hq => by have := hlow q hq; omega))
      rw [hasB_cons, decide_eq_false (show ¬ y ≤ r.2 by omega), Bool.and_false, Bool.false_or]
theorem Runs.self {σ : Int → Bool} {l : List (Int × Int)} {b : Int} (h : Runs false σ b l) : Runs false (hasB l) b l :=
  Runs.congr l b (fun y hy => by
    have := Runs.has l b h y
    cases e : hasB l y with
    | true => have := (this.1 e).2; cases e2 : σ y with
      | true => rfl
      | false => exact absurd e2 this
    | false => cases e2 : σ y with
      | false => rfl
      | true => have := this.2 ⟨hy, by rw [e2]; decide⟩; rw [e] at this; cases this) h
theorem Runs.same {σ : Int → Bool} {l : List (Int × Int)} {b : Int} (h : Runs false σ b l) (y : Int) (hy : b ≤ y) : hasB l y = σ y := by
  have := Runs.has l b h y
  cases e : σ y with
  | true => exact this.2 ⟨hy, by rw [e]; decide⟩
  | false =>
    cases e2 : hasB l y with
    | false => rfl
    | true => exact absurd e (this.1 e2).2
/-- A neat list holds a number once at most. -/
theorem neat_cnt : ∀ (l : List (Int × Int)), neatB l = true → ∀ y, cnt l y = if hasB l y then 1 else 0 := by
  intro l h y
  have key : ∀ (l : List (Int × Int)) (b : Int), Runs false (hasB l) b l → cnt l y ≤ 1 := by
    intro l
    induction l with
    | nil => intro b _; simp [cnt]
    | cons r t ih =>
      rintro b ⟨h1, h2, h3, h4, h5, h6, h7⟩
      have e : cnt (r :: t) y = (if r.1 ≤ y ∧ y ≤ r.2 then 1 else 0) + cnt t y := by
        unfold cnt
        rw [List.filter_cons]
        by_cases h : r.1 ≤ y ∧ y ≤ r.2
        · rw [if_pos (by simpa using h), if_pos h, List.length_cons]; omega
        · rw [if_neg (by simpa using h), if_neg h]; omega
      rw [e]
      by_cases k : r.1 ≤ y ∧ y ≤ r.2
      · rw [if_pos k]
        have : hasB t y = false := by
          cases e2 : hasB t y with
          | false => rfl
          | true =>
            have := (Runs.has t _ h7 y).1 e2
            omega
        rw [(cnt_zero t y).2 this]
        exact Nat.le_refl _
      · rw [if_neg k, Nat.zero_add]
        exact ih _ h7.self
  have hk := fun b hb => key l b (neat_runs l b h hb)
  obtain ⟨b, hb⟩ : ∃ b : Int, ∀ r ∈ l, b ≤ r.1 := by
    clear hk key h
    induction l with
    | nil => exact ⟨0, by simp⟩
    | cons r t ih =>
      obtain ⟨b, hb⟩ := ih
      refine ⟨min b r.1, fun q hq => ?_⟩
      rcases List.mem_cons.1 hq with rfl | hq
      · omega
      · have := hb q hq; omega
  have h1 := hk b hb
  have h2 := cnt_pos l y
  cases e : hasB l y with
  | true => have := h2.2 e; simp; omega
  | false => simp; exact (cnt_zero l y).2 e
/-- .. so what is at once behind, or ahead of, one of its ends is held otherwise. -/
theorem neat_end {l : List (Int × Int)} (h : neatB l = true) (e : Int) {p : Int × Int} (hp : p ∈ endsL e l) : hasB l (p.1 - 1) ≠ hasB l p.1 := by
  obtain ⟨b, hb⟩ : ∃ b : Int, ∀ r ∈ l, b ≤ r.1 := by
    clear h hp
    induction l with
    | nil => exact ⟨0, by simp⟩
    | cons r t ih =>
      obtain ⟨b, hb⟩ := ih
      refine ⟨min b r.1, fun q hq => ?_⟩
      rcases List.mem_cons.1 hq with rfl | hq
      · omega
      · have := hb q hq; omega
  obtain ⟨r, hr, hle, hpp⟩ := mem_endsL.1 hp
  have hR := neat_runs l b h hb
  have in_l : hasB l r.1 = true ∧ hasB l r.2 = true := ⟨(hasB_iff _ _).2 ⟨r, hr, Int.le_refl _, hle⟩, (hasB_iff _ _).2 ⟨r, hr, hle, Int.le_refl _⟩⟩
  have out : ∀ (l : List (Int × Int)) (b : Int), Runs false (hasB l) b l → ∀ r ∈ l, hasB l (r.1 - 1) = false ∧ hasB l (r.2 + 1) = false := by
    intro l
    induction l with
    | nil => intro _ _ r hr; simp at hr
    | cons q t ih =>
      intro b hR r hr
      have hRR := hR
      obtain ⟨h1, h2, h3, h4, h5, h6, h7⟩ := hR
      have hq1 : hasB (q :: t) q.1 = true := by cases e : hasB (q :: t) q.1 with
        | true => rfl
        | false => exact absurd e h4
      have hq2 : hasB (q :: t) (q.2 + 1) = false := by cases e : hasB (q :: t) (q.2 + 1) with
        | false => rfl
        | true => rw [e, hq1] at h6; exact absurd rfl h6
      rcases List.mem_cons.1 hr with rfl | hr
      · refine ⟨?_, hq2⟩
        by_cases k : b ≤ r.1 - 1
        · exact h3 _ k (by omega)
        · cases e : hasB (r :: t) (r.1 - 1) with
          | false => rfl
          | true => have := (Runs.has _ _ hRR _).1 e; omega
      · obtain ⟨i1, i2⟩ := ih _ h7.self r hr
        have hge : q.2 + 1 < r.1 := by
          have a1 := (Runs.has t _ h7 r.1).1 ((hasB_iff _ _).2 ⟨r, hr, Int.le_refl _, by
            have hn := Runs.neat _ _ hRR
            have : ∀ (l : List (Int × Int)), neatB l = true → ∀ r ∈ l, r.1 ≤ r.2 := by
              intro l
              induction l with
              | nil => intro _ r hr; simp at hr
              | cons q t ih =>
                intro hn r hr
                simp only [neatB, Bool.and_eq_true, decide_eq_true_eq] at hn
                rcases List.mem_cons.1 hr with rfl | hr
                · exact hn.1.1
                · exact ih hn.2 r hr
            exact this _ hn r (by simp [hr])⟩)
          by_cases k : r.1 = q.2 + 1
          · rw [k] at a1; exact absurd hq2 a1.2
          · omega
        have hle2 : r.1 ≤ r.2 + 1 := by
          have hn := Runs.neat _ _ h7
          have : ∀ (l : List (Int × Int)), neatB l = true → ∀ r ∈ l, r.1 ≤ r.2 := by
            intro l
            induction l with
            | nil => intro _ r hr; simp at hr
            | cons q t ih =>
              intro hn r hr
              simp only [neatB, Bool.and_eq_true, decide_eq_true_eq] at hn
              rcases List.mem_cons.1 hr with rfl | hr
              · exact hn.1.1
              · exact ih hn.2 r hr
          have := this _ hn r hr
          omega
        rw [hasB_cons, decide_eq_false (show ¬ r.1 - 1 ≤ q.2 by omega), Bool.and_false, Bool.false_or, hasB_cons, decide_eq_false (show ¬ r.2 + 1 ≤ q.2 by omega), Bool.and_false, Bool.false_or]
        exact ⟨i1, i2⟩
  obtain ⟨o1, o2⟩ := out l b hR r hr
  rcases hpp with rfl | rfl
  · simp only; rw [in_l.1, o1]; decide
  · simp only; rw [show r.2 + 1 - 1 = r.2 by omega, in_l.2, o2]; decide
/-- .. and nothing turns where none of its ends stands. -/
theorem noend {l : List (Int × Int)} {y : Int} (h : ∀ p ∈ endsL 1 l, p.1 ≠ y + 1) : hasB l (y + 1) = hasB l y := by
  have one : ∀ y z : Int, (∀ p ∈ endsL 1 l, ¬ (p.1 = max y z ∧ y ≠ z)) → (y = z + 1 ∨ z = y + 1) → hasB l y = true → hasB l z = true := by
    intro y z hh hyz hy
    obtain ⟨r, hr, k1, k2⟩ := (hasB_iff l y).1 hy
    refine (hasB_iff l z).2 ⟨r, hr, ?_, ?_⟩
    · rcases hyz with e | e
      · by_cases k : r.1 = y
        · have := hh (r.1, 1) (mem_endsL.2 ⟨r, hr, by omega, .inl rfl⟩)
          simp only at this
          omega
        · omega
      · omega
    · rcases hyz with e | e
      · omega
      · by_cases k : r.2 = y
        · have := hh (r.2 + 1, -1) (mem_endsL.2 ⟨r, hr, by omega, .inr rfl⟩)
          simp only at this
          omega
        · omega
  cases e1 : hasB l (y + 1) with
  | true => exact (one (y + 1) y (fun p hp hx => h p hp (by omega)) (.inl rfl) e1).symm
  | false =>
    cases e2 : hasB l y with
    | false => rfl
    | true =>
      have := one y (y + 1) (fun p hp hx => h p hp (by omega)) (.inr rfl) e2
      rw [e1] at this
      exact this
end Go.Proofs.YtagbpkabfjnplaaDoor.Rn
