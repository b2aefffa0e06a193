/- Ranges, pure: what a list of ranges holds; its runs; ends that are gone through in order. Nothing of the program stands here. -/
import Derived.Lib.Hide
import Derived.Below
import Derived.Sort.Statements
namespace Go.Proofs.YtagbpkabfjnplaaDoor.Rn
open Go

/-! ### Runs -/
/-- What a list of ranges holds. -/
def hasB (l : List (Int × Int)) (y : Int) : Bool := l.any fun r => decide (r.1 ≤ y) && decide (y ≤ r.2)
theorem hasB_nil (y : Int) : hasB [] y = false := rfl
theorem hasB_cons (r : Int × Int) (l : List (Int × Int)) (y : Int) : hasB (r :: l) y = (decide (r.1 ≤ y) && decide (y ≤ r.2) || hasB l y) := rfl
theorem hasB_iff (l : List (Int × Int)) (y : Int) : hasB l y = true ↔ ∃ r ∈ l, r.1 ≤ y ∧ y ≤ r.2 := by
  unfold hasB
  rw [List.any_eq_true]
  simp

/-- l is the row of σ's runs from b on: each as long as may be; where σ is z there is none. -/
def Runs {S : Type} (z : S) (σ : Int → S) : Int → List (Int × Int) → Prop
  | b, [] => ∀ y, b ≤ y → σ y = z
  | b, r :: t => b ≤ r.1 ∧ r.1 ≤ r.2 ∧ (∀ y, b ≤ y → y < r.1 → σ y = z) ∧ σ r.1 ≠ z ∧ (∀ y, r.1 ≤ y → y ≤ r.2 → σ y = σ r.1) ∧ σ (r.2 + 1) ≠ σ r.1 ∧ Runs z σ (r.2 + 1) t

theorem Runs.unique {S : Type} {z : S} {σ : Int → S} : ∀ (l l' : List (Int × Int)) (b : Int), Runs z σ b l → Runs z σ b l' → l = l'
  | [], [], _, _, _ => rfl
  | [], r :: t, b, h, h' => absurd (h r.1 h'.1) h'.2.2.2.1
  | r :: t, [], b, h, h' => absurd (h' r.1 h.1) h.2.2.2.1
  | (a, c) :: t, (a', c') :: t', b, h, h' => by
    obtain ⟨h1, h2, h3, h4, h5, h6, h7⟩ := h
    obtain ⟨g1, g2, g3, g4, g5, g6, g7⟩ := h'
    simp only at *
    have e1 : a = a' := by
      rcases Int.lt_trichotomy a a' with k | k | k
      · exact absurd (g3 a h1 k) h4
      · exact k
      · exact absurd (h3 a' g1 k) g4
    subst e1
    have e2 : c = c' := by
      rcases Int.lt_trichotomy c c' with k | k | k
      · exact absurd (g5 (c + 1) (by omega) (by omega)) h6
      · exact k
      · exact absurd (h5 (c' + 1) (by omega) (by omega)) g6
    subst e2
    rw [Runs.unique t t' _ h7 g7]
theorem Runs.congr {S : Type} {z : S} {σ τ : Int → S} : ∀ (l : List (Int × Int)) (b : Int), (∀ y, b ≤ y → σ y = τ y) → Runs z σ b l → Runs z τ b l
  | [], b, e, h => fun y hy => by rw [← e y hy]; exact h y hy
  | r :: t, b, e, ⟨h1, h2, h3, h4, h5, h6, h7⟩ =>
    ⟨h1, h2, fun y a c => by rw [← e y a]; exact h3 y a c, by rw [← e _ h1]; exact h4, fun y a c => by rw [← e y (by omega), ← e _ h1]; exact h5 y a c,
      by rw [← e _ (by omega), ← e _ h1]; exact h6, Runs.congr t _ (fun y hy => e y (by omega)) h7⟩
theorem Runs.has {S : Type} [DecidableEq S] {z : S} {σ : Int → S} : ∀ (l : List (Int × Int)) (b : Int), Runs z σ b l → ∀ y, (hasB l y = true ↔ b ≤ y ∧ σ y ≠ z)
  | [], b, h, y => by
    rw [hasB_nil]
    constructor
    · intro k; cases k
    · rintro ⟨k1, k2⟩; exact absurd (h y k1) k2
  | r :: t, b, ⟨h1, h2, h3, h4, h5, h6, h7⟩, y => by
    have ih := Runs.has t _ h7 y
    rw [hasB_cons, Bool.or_eq_true, ih, Bool.and_eq_true, decide_eq_true_iff, decide_eq_true_iff]
    constructor
    · rintro (⟨k1, k2⟩ | ⟨k1, k2⟩)
      · exact ⟨by omega, by rw [h5 y k1 k2]; exact h4⟩
      · exact ⟨by omega, k2⟩
    · rintro ⟨k1, k2⟩
      by_cases a : y < r.1
      · exact absurd (h3 y k1 a) k2
      by_cases c : y ≤ r.2
      · exact .inl ⟨by omega, c⟩
      · exact .inr ⟨by omega, k2⟩
/-- Where no number is told otherwise than the next one is, but where both ways of telling say so. -/
theorem Runs.turn {S T : Type} {z : S} {z' : T} {σ : Int → S} {τ : Int → T} : ∀ (l : List (Int × Int)) (b : Int), (∀ y, b ≤ y → (σ y = z ↔ τ y = z')) → (∀ y, b ≤ y → (σ (y + 1) = σ y ↔ τ (y + 1) = τ y)) → Runs z σ b l → Runs z' τ b l
  | [], b, e, _, h => fun y hy => (e y hy).1 (h y hy)
  | (a, c) :: t, b, e, s, ⟨h1, h2, h3, h4, h5, h6, h7⟩ => by
    simp only at *
    have key : ∀ n : Nat, a + n ≤ c → τ (a + n) = τ a := by
      intro n
      induction n with
      | zero => intro _; rw [show a + ((0 : Nat) : Int) = a by omega]
      | succ n ih =>
        intro hn
        have i := ih (by omega)
        rw [← i, show a + ((n + 1 : Nat) : Int) = a + n + 1 by omega]
        exact (s (a + n) (by omega)).1 ((h5 (a + n + 1) (by omega) (by omega)).trans (h5 (a + n) (by omega) (by omega)).symm)
    have all : ∀ y, a ≤ y → y ≤ c → τ y = τ a := fun y k1 k2 => by
      have := key (y - a).toNat (by omega)
      rwa [show a + ((y - a).toNat : Int) = y by omega] at this
    refine ⟨h1, h2, fun y k1 k2 => (e y k1).1 (h3 y k1 k2), fun k => h4 ((e a h1).2 k), all, fun k => h6 ?_, Runs.turn t _ (fun y hy => e y (by omega)) (fun y hy => s y (by omega)) h7⟩
    have hc := all c h2 (Int.le_refl _)
    have := (s c (by omega)).2 (by rw [k, hc])
    rw [this, h5 c h2 (Int.le_refl _)]
theorem Runs.in {S : Type} {z : S} {σ : Int → S} {lo hi : Int} (hσ : ∀ y, σ y ≠ z → lo ≤ y ∧ y ≤ hi) : ∀ (l : List (Int × Int)) (b : Int), Runs z σ b l → ∀ r ∈ l, (lo ≤ r.1 ∧ r.1 ≤ hi) ∧ (lo ≤ r.2 ∧ r.2 ≤ hi)
  | [], _, _, r, hr => by simp at hr
  | q :: t, b, ⟨h1, h2, h3, h4, h5, h6, h7⟩, r, hr => by
    rcases List.mem_cons.1 hr with rfl | hr
    · exact ⟨hσ _ h4, hσ _ (by rw [h5 _ h2 (Int.le_refl _)]; exact h4)⟩
    · exact Runs.in hσ t _ h7 r hr

/-! ### Ends in order -/
/-- Is the next end at the same number? -/
def more (a : Int) : List (Int × Int) → Bool
  | [] => false
  | p :: _ => decide (p.1 = a)
/-- What the program makes of ends: k calls so far, o open, s the last one counted, lo where that began. -/
def emit {S : Type} [DecidableEq S] (z : S) (c : Nat → Int → S) : List (Int × Int) → Nat → Int → S → Int → List (Int × Int)
  | [], _, _, s, lo => if s = z then [] else [(lo, 0)]
  | (a, m) :: t, k, o, s, lo =>
    if more a t then emit z c t k (o + m) s lo
    else if c k (o + m) = s then emit z c t (k + 1) (o + m) s lo
    else if s = z then emit z c t (k + 1) (o + m) (c k (o + m)) a
    else (lo, a - 1) :: emit z c t (k + 1) (o + m) (c k (o + m)) a
/-- What is counted at a number. -/
def tau {S : Type} (c : Nat → Int → S) : List (Int × Int) → Nat → Int → S → Int → S
  | [], _, _, s, _ => s
  | (a, m) :: t, k, o, s, y => if y < a then s else if more a t then tau c t k (o + m) s y else tau c t (k + 1) (o + m) (c k (o + m)) y
/-- Rising. -/
def Up : List (Int × Int) → Prop
  | [] => True
  | p :: t => (∀ q ∈ t, p.1 ≤ q.1) ∧ Up t

theorem Runs.widen {S : Type} {z : S} {σ : Int → S} {a b : Int} (hb : b ≤ a) (h0 : ∀ y, b ≤ y → y < a → σ y = z) : ∀ {l : List (Int × Int)}, Runs z σ a l → Runs z σ b l
  | [], h => fun y hy => by
    by_cases k : y < a
    · exact h0 y hy k
    · exact h y (by omega)
  | r :: t, ⟨h1, h2, h3, h4⟩ => ⟨Int.le_trans hb h1, h2, fun y k1 k2 => by
      by_cases k : y < a
      · exact h0 y k1 k
      · exact h3 y (by omega) k2, h4⟩
theorem tau_first {S : Type} {c : Nat → Int → S} : ∀ (t : List (Int × Int)) (k : Nat) (o : Int) (s : S) (a : Int), (∀ p ∈ t, a ≤ p.1) → ¬ more a t = true → tau c t k o s a = s
  | [], _, _, _, _, _, _ => rfl
  | (b, m) :: t, k, o, s, a, h, hm => by
    have h1 := h (b, m) (by simp)
    simp only [more, decide_eq_true_eq] at hm
    simp only [tau]
    rw [if_pos (by simp only at h1; omega)]

theorem emit_runs {S : Type} [DecidableEq S] {z : S} {c : Nat → Int → S} : ∀ (d : List (Int × Int)) (k : Nat) (o : Int) (s : S) (lo b : Int), Up d → (∀ p ∈ d, b ≤ p.1) → (∀ y, (∀ p ∈ d, p.1 ≤ y) → tau c d k o s y = z) →
    (s = z → Runs z (tau c d k o s) b (emit z c d k o s lo)) ∧
    (s ≠ z → (∃ p, p ∈ d) ∧ ∃ h t, emit z c d k o s lo = (lo, h) :: t ∧ b - 1 ≤ h ∧ (∀ y, b ≤ y → y ≤ h → tau c d k o s y = s) ∧ tau c d k o s (h + 1) ≠ s ∧ Runs z (tau c d k o s) (h + 1) t)
  | [], k, o, s, lo, b, _, _, hf => by
    have h0 : s = z := hf b (by simp)
    subst h0
    refine ⟨fun _ => ?_, fun h => absurd rfl h⟩
    simp only [emit, if_true]
    exact fun y _ => rfl
  | (a, m) :: t, k, o, s, lo, b, hu, hb, hf => by
    have ha : b ≤ a := hb (a, m) (by simp)
    have hta : ∀ p ∈ t, a ≤ p.1 := hu.1
    have low : ∀ y, y < a → tau c ((a, m) :: t) k o s y = s := fun y hy => by simp only [tau, if_pos hy]
    by_cases hm : more a t = true
    · have high : ∀ y, a ≤ y → tau c ((a, m) :: t) k o s y = tau c t k (o + m) s y := fun y hy => by simp only [tau]; rw [if_neg (by omega), if_pos hm]
      have he : emit z c ((a, m) :: t) k o s lo = emit z c t k (o + m) s lo := by simp only [emit]; rw [if_pos hm]
      obtain ⟨q, hq⟩ : ∃ q, q ∈ t := by
        cases t with
        | nil => simp [more] at hm
        | cons q t => exact ⟨q, by simp⟩
      obtain ⟨i1, i2⟩ := emit_runs t k (o + m) s lo a hu.2 hta (fun y hy => by
        rw [← high y (Int.le_trans (hta q hq) (hy q hq))]
        exact hf y (fun p hp => by
          rcases List.mem_cons.1 hp with rfl | hp
          · exact Int.le_trans (hta q hq) (hy q hq)
          · exact hy p hp))
      rw [he]
      refine ⟨fun hs => ?_, fun hs => ?_⟩
      · have r := i1 hs
        refine Runs.widen ha (fun y k1 k2 => by rw [low y k2, hs]) (Runs.congr _ _ (fun y hy => (high y hy).symm) r)
      · obtain ⟨_, h, t', e1, e2, e3, e4, e5⟩ := i2 hs
        refine ⟨⟨_, List.mem_cons_self⟩, h, t', e1, by omega, fun y k1 k2 => ?_, ?_, Runs.congr _ _ (fun y hy => (high y (by omega)).symm) e5⟩
        · by_cases hy : y < a
          · exact low y hy
          · rw [high y (by omega)]; exact e3 y (by omega) k2
        · rw [high _ (by omega)]; exact e4
    · have high : ∀ y, a ≤ y → tau c ((a, m) :: t) k o s y = tau c t (k + 1) (o + m) (c k (o + m)) y := fun y hy => by simp only [tau]; rw [if_neg (by omega), if_neg hm]
      have hf' : ∀ y, (∀ p ∈ t, p.1 ≤ y) → tau c t (k + 1) (o + m) (c k (o + m)) y = z := fun y hy => by
        have hyy : ∀ p ∈ (a, m) :: t, p.1 ≤ max y a := fun p hp => by
          rcases List.mem_cons.1 hp with rfl | hp
          · simp only; omega
          · have := hy p hp; omega
        have := hf (max y a) hyy
        rw [high _ (by omega)] at this
        rw [← this]
        cases ht : t with
        | nil => rfl
        | cons q t' =>
          have h1 := hta q (by rw [ht]; simp)
          have h2 := hy q (by rw [ht]; simp)
          rw [show max y a = y by omega]
      by_cases hc : c k (o + m) = s
      · have he : emit z c ((a, m) :: t) k o s lo = emit z c t (k + 1) (o + m) s lo := by simp only [emit]; rw [if_neg hm, if_pos hc]
        rw [hc] at high hf'
        obtain ⟨i1, i2⟩ := emit_runs t (k + 1) (o + m) s lo a hu.2 hta hf'
        rw [he]
        refine ⟨fun hs => ?_, fun hs => ?_⟩
        · exact Runs.widen ha (fun y k1 k2 => by rw [low y k2, hs]) (Runs.congr _ _ (fun y hy => (high y hy).symm) (i1 hs))
        · obtain ⟨_, h, t', e1, e2, e3, e4, e5⟩ := i2 hs
          refine ⟨⟨_, List.mem_cons_self⟩, h, t', e1, by omega, fun y k1 k2 => ?_, ?_, Runs.congr _ _ (fun y hy => (high y (by omega)).symm) e5⟩
          · by_cases hy : y < a
            · exact low y hy
            · rw [high y (by omega)]; exact e3 y (by omega) k2
          · rw [high _ (by omega)]; exact e4
      · obtain ⟨i1, i2⟩ := emit_runs t (k + 1) (o + m) (c k (o + m)) a a hu.2 hta hf'
        have at_a : tau c t (k + 1) (o + m) (c k (o + m)) a = c k (o + m) := tau_first t _ _ _ a hu.1 hm
        -- what stands from a on
        have rest : Runs z (tau c ((a, m) :: t) k o s) a (emit z c t (k + 1) (o + m) (c k (o + m)) a) := by
          refine Runs.congr _ _ (fun y hy => (high y hy).symm) ?_
          by_cases hz : c k (o + m) = z
          · exact i1 hz
          · obtain ⟨_, h, t', e1, e2, e3, e4, e5⟩ := i2 hz
            rw [e1]
            have hh : a ≤ h := by
              by_cases k : h = a - 1
              · exfalso; apply e4; rw [k, show a - 1 + 1 = a by omega]; exact at_a
              · omega
            exact ⟨Int.le_refl _, hh, fun y k1 k2 => by simp only at k2; omega, by simp only; rw [at_a]; exact hz, fun y k1 k2 => by simp only at *; rw [e3 y k1 k2, at_a], by simp only; rw [at_a]; exact e4, e5⟩
        refine ⟨fun hs => ?_, fun hs => ?_⟩
        · have he : emit z c ((a, m) :: t) k o s lo = emit z c t (k + 1) (o + m) (c k (o + m)) a := by simp only [emit]; rw [if_neg hm, if_neg hc, if_pos hs]
          rw [he]
          exact Runs.widen ha (fun y k1 k2 => by rw [low y k2, hs]) rest
        · have he : emit z c ((a, m) :: t) k o s lo = (lo, a - 1) :: emit z c t (k + 1) (o + m) (c k (o + m)) a := by simp only [emit]; rw [if_neg hm, if_neg hc, if_neg hs]
          rw [he]
          refine ⟨⟨_, List.mem_cons_self⟩, a - 1, _, rfl, by omega, fun y k1 k2 => low y (by omega), ?_, ?_⟩
          · rw [show a - 1 + 1 = a by omega, high a (Int.le_refl _), at_a]; exact hc
          · rw [show a - 1 + 1 = a by omega]; exact rest

/-- Where nothing is open it does not matter where that began. -/
theorem emit_lo {S : Type} [DecidableEq S] {z : S} {c : Nat → Int → S} : ∀ (d : List (Int × Int)) (k : Nat) (o : Int) (x y : Int), emit z c d k o z x = emit z c d k o z y
  | [], _, _, _, _ => by simp only [emit, if_true]
  | (a, m) :: t, k, o, x, y => by
    simp only [emit]
    by_cases h : more a t = true
    · rw [if_pos h, if_pos h]; exact emit_lo t _ _ _ _
    · rw [if_neg h, if_neg h]
      by_cases hc : c k (o + m) = z
      · rw [if_pos hc, if_pos hc]; exact emit_lo t _ _ _ _
      · rw [if_neg hc, if_neg hc, if_pos trivial, if_pos trivial]

/-! ### What is counted, by sums -/
/-- What is open at a number. -/
def upto (y : Int) : List (Int × Int) → Int
  | [] => 0
  | p :: t => (if p.1 ≤ y then p.2 else 0) + upto y t
theorem upto_append (y : Int) : ∀ (a b : List (Int × Int)), upto y (a ++ b) = upto y a + upto y b
  | [], b => by simp [upto]
  | p :: a, b => by
    have := upto_append y a b
    simp only [List.cons_append, upto, this]
    omega
theorem upto_perm (y : Int) {a b : List (Int × Int)} (h : a.Perm b) : upto y a = upto y b := by
  induction h with
  | nil => rfl
  | cons p _ ih => simp only [upto, ih]
  | swap p q l => simp only [upto]; omega
  | trans _ _ h1 h2 => rw [h1, h2]
theorem upto_low (y : Int) : ∀ (a : List (Int × Int)), (∀ p ∈ a, y < p.1) → upto y a = 0
  | [], _ => rfl
  | p :: t, h => by
    have h1 := h p (by simp)
    simp only [upto]
    rw [if_neg (by omega), upto_low y t (fun q hq => h q (by simp [hq]))]
    rfl
theorem head_le {a m y : Int} {t : List (Int × Int)} (hu : Up ((a, m) :: t)) (h : y < a) : ∀ p ∈ (a, m) :: t, y < p.1 := fun p hp => by
  rcases List.mem_cons.1 hp with rfl | hp
  · exact h
  · have := hu.1 p hp
    simp only at this
    omega
/-- Where what is counted hangs on what is open alone. -/
theorem tau_sum {S : Type} (c : Int → S) : ∀ (d : List (Int × Int)) (k : Nat) (o : Int) (s : S) (y : Int), Up d → (s = c o ∨ ∃ p ∈ d, p.1 ≤ y) → tau (fun _ => c) d k o s y = c (o + upto y d)
  | [], k, o, s, y, _, hs => by
    rcases hs with hs | ⟨p, hp, _⟩
    · simp only [tau, upto, hs, Int.add_zero]
    · simp at hp
  | (a, m) :: t, k, o, s, y, hu, hs => by
    simp only [tau]
    by_cases hy : y < a
    · rw [if_pos hy, upto_low y _ (head_le hu hy), Int.add_zero]
      rcases hs with hs | ⟨p, hp, hpy⟩
      · exact hs
      · have := head_le hu hy p hp
        omega
    · rw [if_neg hy]
      simp only [upto]
      rw [if_pos (show a ≤ y by omega)]
      by_cases hm : more a t = true
      · rw [if_pos hm, tau_sum c t k (o + m) s y hu.2 (.inr ?_), Int.add_assoc]
        cases t with
        | nil => simp [more] at hm
        | cons q t =>
          simp only [more, decide_eq_true_eq] at hm
          exact ⟨q, by simp, by omega⟩
      · rw [if_neg hm, tau_sum c t (k + 1) (o + m) _ y hu.2 (.inl rfl), Int.add_assoc]
/-- Labels: each number at which ends stand has its own. -/
def labelC (k : Nat) (o : Int) : Int := if o = 0 then 0 else (k : Int) + 1
theorem tau_label : ∀ (d : List (Int × Int)) (k : Nat) (o s y : Int), Up d → (∃ p ∈ d, p.1 ≤ y) → (o + upto y d = 0 → tau labelC d k o s y = 0) ∧ (o + upto y d ≠ 0 → (k : Int) < tau labelC d k o s y)
  | [], k, o, s, y, _, ⟨p, hp, _⟩ => by simp at hp
  | (a, m) :: t, k, o, s, y, hu, ⟨p, hp, hpy⟩ => by
    have hay : ¬ y < a := by
      intro h
      have := head_le hu h p hp
      omega
    simp only [tau, upto]
    rw [if_neg hay, if_pos (show a ≤ y by omega)]
    by_cases hm : more a t = true
    · rw [if_pos hm]
      have := tau_label t k (o + m) s y hu.2 (by
        cases t with
        | nil => simp [more] at hm
        | cons q t =>
          simp only [more, decide_eq_true_eq] at hm
          exact ⟨q, by simp, by omega⟩)
      rw [Int.add_assoc] at this
      exact this
    · rw [if_neg hm]
      by_cases hq : ∃ p ∈ t, p.1 ≤ y
      · have := tau_label t (k + 1) (o + m) (labelC k (o + m)) y hu.2 hq
        rw [Int.add_assoc] at this
        exact ⟨this.1, fun h => by have := this.2 h; omega⟩
      · have hlow : ∀ p ∈ t, y < p.1 := fun p hp => by
          by_cases h : p.1 ≤ y
          · exact absurd ⟨p, hp, h⟩ hq
          · omega
        have e : tau labelC t (k + 1) (o + m) (labelC k (o + m)) y = labelC k (o + m) := by
          cases t with
          | nil => rfl
          | cons q t =>
            obtain ⟨b, n⟩ := q
            have := hlow (b, n) (by simp)
            simp only [tau]
            rw [if_pos this]
        rw [e, upto_low y t hlow]
        unfold labelC
        constructor
        · intro h; rw [if_pos (by omega)]
        · intro h; rw [if_neg (by omega)]; omega
theorem tau_same {S : Type} {c : Nat → Int → S} : ∀ (d : List (Int × Int)) (k : Nat) (o : Int) (s : S) (y : Int), (∀ p ∈ d, p.1 ≠ y + 1) → tau c d k o s (y + 1) = tau c d k o s y
  | [], _, _, _, _, _ => rfl
  | (a, m) :: t, k, o, s, y, h => by
    have h0 := h (a, m) (by simp)
    simp only at h0
    have ht : ∀ p ∈ t, p.1 ≠ y + 1 := fun p hp => h p (by simp [hp])
    simp only [tau]
    by_cases hy : y < a
    · rw [if_pos hy, if_pos (by omega)]
    · rw [if_neg hy, if_neg (by omega)]
      by_cases hm : more a t = true
      · rw [if_pos hm, if_pos hm]; exact tau_same t _ _ _ _ ht
      · rw [if_neg hm, if_neg hm]; exact tau_same t _ _ _ _ ht
theorem tau_other : ∀ (d : List (Int × Int)) (k : Nat) (o s y : Int), Up d → s ≤ k → ((∀ p ∈ d, y < p.1) → (s = 0 ↔ o = 0)) → (∃ p ∈ d, p.1 = y + 1) → (o + upto y d ≠ 0 ∨ o + upto (y + 1) d ≠ 0) → tau labelC d k o s (y + 1) ≠ tau labelC d k o s y
  | [], k, o, s, y, _, _, _, ⟨p, hp, _⟩, _ => by simp at hp
  | (a, m) :: t, k, o, s, y, hu, hsk, hs, ⟨p, hp, hpy⟩, hne => by
    have hay : a ≤ y + 1 := by
      by_cases h : y + 1 < a
      · have := head_le hu h p hp
        omega
      · omega
    by_cases hy : y < a
    · have hlow := head_le hu hy
      have hl := tau_label ((a, m) :: t) k o s (y + 1) hu ⟨p, hp, by omega⟩
      have e : tau labelC ((a, m) :: t) k o s y = s := by simp only [tau]; rw [if_pos hy]
      rw [e]
      have h0 := hs hlow
      rw [upto_low y _ hlow, Int.add_zero] at hne
      intro he
      by_cases hz : o + upto (y + 1) ((a, m) :: t) = 0
      · rw [hl.1 hz] at he
        have := h0.1 he.symm
        omega
      · have := hl.2 hz
        omega
    · have e1 : ∃ p ∈ t, p.1 = y + 1 := by
        rcases List.mem_cons.1 hp with rfl | hp
        · simp only at hpy; omega
        · exact ⟨p, hp, hpy⟩
      simp only [upto] at hne
      rw [if_pos (show a ≤ y by omega), if_pos (show a ≤ y + 1 by omega)] at hne
      rw [← Int.add_assoc, ← Int.add_assoc] at hne
      simp only [tau]
      rw [if_neg (show ¬ y + 1 < a by omega), if_neg hy]
      by_cases hm : more a t = true
      · rw [if_pos hm, if_pos hm]
        refine tau_other t k (o + m) s y hu.2 hsk (fun h => ?_) e1 hne
        exfalso
        cases t with
        | nil => simp [more] at hm
        | cons q t =>
          simp only [more, decide_eq_true_eq] at hm
          have := h q (by simp)
          omega
      · rw [if_neg hm, if_neg hm]
        refine tau_other t (k + 1) (o + m) (labelC k (o + m)) y hu.2 ?_ (fun _ => ?_) e1 hne
        · unfold labelC; split <;> omega
        · unfold labelC; split <;> omega
end Go.Proofs.YtagbpkabfjnplaaDoor.Rn
