/- Ranges, pure: runs that are gathered from place to place, as the chapter's own functions do. -/
import Derived.Test.YtianappapfpbeaaRnK
namespace Go.Proofs.Ytianappapfpbeaa.Rn
open Go Go.RowKit

/-- l are σ's runs from b on, as far as y (not with it). -/
def RT {S : Type} (z : S) (σ : Int → S) : Int → List (Int × Int) → Int → Prop
  | b, [], y => ∀ v, b ≤ v → v < y → σ v = z
  | b, [r], y => b ≤ r.1 ∧ r.1 ≤ r.2 ∧ (∀ v, b ≤ v → v < r.1 → σ v = z) ∧ σ r.1 ≠ z ∧ (∀ v, r.1 ≤ v → v ≤ r.2 → σ v = σ r.1) ∧ r.2 < y ∧ ∀ v, r.2 < v → v < y → σ v = z
  | b, r :: q :: t, y => b ≤ r.1 ∧ r.1 ≤ r.2 ∧ (∀ v, b ≤ v → v < r.1 → σ v = z) ∧ σ r.1 ≠ z ∧ (∀ v, r.1 ≤ v → v ≤ r.2 → σ v = σ r.1) ∧ σ (r.2 + 1) ≠ σ r.1 ∧ RT z σ (r.2 + 1) (q :: t) y
/-- Between y and z nothing changes. -/
def Seg {S : Type} (σ : Int → S) (y z : Int) : Prop := y < z ∧ ∀ v, y ≤ v → v < z → σ v = σ y
theorem RT.le {S : Type} {z : S} {σ : Int → S} : ∀ (l : List (Int × Int)) (b y : Int), RT z σ b l y → ∀ r, l.getLast? = some r → r.2 < y ∧ r.1 ≤ r.2 ∧ b ≤ r.1 ∧ (∀ v, r.1 ≤ v → v ≤ r.2 → σ v = σ r.1) ∧ σ r.1 ≠ z
  | [], _, _, _, r, h => by simp at h
  | [q], b, y, ⟨h1, h2, h3, h4, h5, h6, h7⟩, r, h => by
    obtain rfl : q = r := by simpa using h
    exact ⟨h6, h2, h1, h5, h4⟩
  | p :: q :: t, b, y, ⟨h1, h2, h3, h4, h5, h6, h7⟩, r, h => by
    obtain ⟨a1, a2, a3, a4⟩ := RT.le (q :: t) _ y h7 r (by simpa using h)
    exact ⟨a1, a2, by omega, a4⟩
/-- Nothing is held there. -/
theorem RT.none_ {S : Type} {z : S} {σ : Int → S} {Y Z : Int} (hs : Seg σ Y Z) (h0 : σ Y = z) : ∀ (l : List (Int × Int)) (b : Int), RT z σ b l Y → RT z σ b l Z
  | [], b, h => fun v k1 k2 => by
    by_cases k : v < Y
    · exact h v k1 k
    · rw [hs.2 v (by omega) k2, h0]
  | [r], b, ⟨h1, h2, h3, h4, h5, h6, h7⟩ => ⟨h1, h2, h3, h4, h5, by have := hs.1; omega, fun v k1 k2 => by
    by_cases k : v < Y
    · exact h7 v k1 k
    · rw [hs.2 v (by omega) k2, h0]⟩
  | r :: q :: t, b, ⟨h1, h2, h3, h4, h5, h6, h7⟩ => ⟨h1, h2, h3, h4, h5, h6, RT.none_ hs h0 (q :: t) _ h7⟩
/-- The last one goes on. -/
theorem RT.more_ {S : Type} {z : S} {σ : Int → S} {Y Z : Int} (hs : Seg σ Y Z) {a c : Int} (hac : c + 1 = Y) (he : σ a = σ Y) : ∀ (l : List (Int × Int)) (b : Int), RT z σ b (l ++ [(a, c)]) Y → RT z σ b (l ++ [(a, Z - 1)]) Z
  | [], b, ⟨h1, h2, h3, h4, h5, h6, h7⟩ => by
    have h0 := hs.1
    refine ⟨h1, by simp only at *; omega, h3, h4, fun v k1 k2 => ?_, by simp only; omega, fun v k1 k2 => by simp only at k1; omega⟩
    simp only at *
    by_cases k : v ≤ c
    · exact h5 v k1 k
    · rw [hs.2 v (by omega) (by omega), he]
  | [r], b, ⟨h1, h2, h3, h4, h5, h6, h7⟩ => ⟨h1, h2, h3, h4, h5, h6, RT.more_ hs hac he [] _ h7⟩
  | r :: q :: t, b, ⟨h1, h2, h3, h4, h5, h6, h7⟩ => ⟨h1, h2, h3, h4, h5, h6, RT.more_ hs hac he (q :: t) _ h7⟩
/-- A new one. -/
theorem RT.new_ {S : Type} {z : S} {σ : Int → S} {Y Z : Int} (hs : Seg σ Y Z) (h0 : σ Y ≠ z) : ∀ (l : List (Int × Int)) (b : Int), b ≤ Y → RT z σ b l Y → (∀ r, l.getLast? = some r → r.2 + 1 = Y → σ r.1 ≠ σ Y) → RT z σ b (l ++ [(Y, Z - 1)]) Z
  | [], b, hb, h, _ => by
    have h1 := hs.1
    exact ⟨hb, by simp only; omega, h, h0, fun v k1 k2 => hs.2 v k1 (by simp only at k2; omega), by simp only; omega, fun v k1 k2 => by simp only at k1; omega⟩
  | [r], b, hb, ⟨h1, h2, h3, h4, h5, h6, h7⟩, hn => by
    have hne : σ (r.2 + 1) ≠ σ r.1 := by
      by_cases k : r.2 + 1 = Y
      · rw [k]
        exact fun e => hn r (by simp) k e.symm
      · rw [h7 (r.2 + 1) (by omega) (by omega)]
        exact fun e => h4 e.symm
    refine ⟨h1, h2, h3, h4, h5, hne, RT.new_ hs h0 [] (r.2 + 1) (by omega) (fun v k1 k2 => h7 v (by omega) k2) (fun r h => by simp at h)⟩
  | r :: q :: t, b, hb, ⟨h1, h2, h3, h4, h5, h6, h7⟩, hn => by
    have hq : ∃ x, (q :: t).getLast? = some x := ⟨_, List.getLast?_eq_some_getLast (by simp)⟩
    obtain ⟨x, hx⟩ := hq
    have := RT.le (q :: t) _ Y h7 x hx
    exact ⟨h1, h2, h3, h4, h5, h6, RT.new_ hs h0 (q :: t) _ (by omega) h7 (fun r' hr' => hn r' (by simpa using hr'))⟩
theorem RT.runs {S : Type} {z : S} {σ : Int → S} {Y : Int} (hz : ∀ v, Y ≤ v → σ v = z) : ∀ (l : List (Int × Int)) (b : Int), RT z σ b l Y → Runs z σ b l
  | [], b, h => fun v k => by
    by_cases k2 : v < Y
    · exact h v k k2
    · exact hz v (by omega)
  | [r], b, ⟨h1, h2, h3, h4, h5, h6, h7⟩ => by
    have hall : ∀ v, r.2 < v → σ v = z := fun v k => by
      by_cases k2 : v < Y
      · exact h7 v k k2
      · exact hz v (by omega)
    exact ⟨h1, h2, h3, h4, h5, fun e => h4 (by rw [← e]; exact hall _ (by omega)), fun v k => hall v (by omega)⟩
  | r :: q :: t, b, ⟨h1, h2, h3, h4, h5, h6, h7⟩ => ⟨h1, h2, h3, h4, h5, h6, RT.runs hz (q :: t) _ h7⟩

/-! ### Places where something may change -/
/-- No end of theirs stands between. -/
def Calm (ls : List (List (Int × Int))) (y z : Int) : Prop := y < z ∧ ∀ l ∈ ls, ∀ r ∈ l, (r.1 ≤ y ∨ z ≤ r.1) ∧ (r.2 + 1 ≤ y ∨ z ≤ r.2 + 1)
theorem Calm.has {ls : List (List (Int × Int))} {y z : Int} (h : Calm ls y z) {l : List (Int × Int)} (hl : l ∈ ls) : Seg (hasB l) y z := by
  refine ⟨h.1, fun v k1 k2 => ?_⟩
  have key : ∀ r ∈ l, (r.1 ≤ v ∧ v ≤ r.2) ↔ (r.1 ≤ y ∧ y ≤ r.2) := fun r hr => by
    have := h.2 l hl r hr
    omega
  cases e : hasB l y with
  | true =>
    obtain ⟨r, hr, h1⟩ := (hasB_iff l y).1 e
    exact (hasB_iff l v).2 ⟨r, hr, (key r hr).2 h1⟩
  | false =>
    rw [← Bool.not_eq_true, hasB_iff] at e ⊢
    rintro ⟨r, hr, h1⟩
    exact e ⟨r, hr, (key r hr).1 h1⟩
theorem Calm.seg {S : Type} {ls : List (List (Int × Int))} {y z : Int} (h : Calm ls y z) {σ : Int → S} (hσ : ∀ v w, (∀ l ∈ ls, hasB l v = hasB l w) → σ v = σ w) : Seg σ y z :=
  ⟨h.1, fun v k1 k2 => hσ v y fun l hl => (h.has hl).2 v k1 k2⟩
/-- The places, from the lowest number to beyond the greatest. -/
structure Chg (ls : List (List (Int × Int))) (A : List Int) : Prop where
  head : A[0]? = some lowest
  last : A.getLast? = some 2147483648
  step : ∀ (i : Nat) (y z : Int), A[i]? = some y → A[i + 1]? = some z → Calm ls y z
  low : ∀ y ∈ A, lowest ≤ y ∧ y ≤ 2147483648
/-- .. as they are being gathered, x the next one. -/
structure Gat (ls : List (List (Int × Int))) (A : List Int) (x : Int) : Prop where
  head : (A ++ [x])[0]? = some lowest
  step : ∀ (i : Nat) (y z : Int), (A ++ [x])[i]? = some y → (A ++ [x])[i + 1]? = some z → Calm ls y z
  low : ∀ y ∈ A ++ [x], lowest ≤ y ∧ y ≤ 2147483648
theorem Gat.start (ls : List (List (Int × Int))) : Gat ls [] lowest := ⟨rfl, fun i y z _ h => by simp at h, fun y h => by simp at h; subst h; unfold lowest; omega⟩
theorem snoc_get {α : Type} {l : List α} {x y : α} {i : Nat} (h : (l ++ [x])[i]? = some y) : l[i]? = some y ∨ (i = l.length ∧ x = y) := by
  by_cases hi : i < l.length
  · rw [List.getElem?_append_left hi] at h
    exact .inl h
  · rw [List.getElem?_append_right (by omega)] at h
    by_cases e : i - l.length = 0
    · rw [e] at h
      exact .inr ⟨by omega, by simpa using h⟩
    · rw [List.getElem?_eq_none (by simp; omega)] at h
      cases h
theorem Gat.push {ls : List (List (Int × Int))} {A : List Int} {x n : Int} (h : Gat ls A x) (hc : Calm ls x n) (hn : n ≤ 2147483648) : Gat ls (A ++ [x]) n := by
  refine ⟨?_, fun i y z h1 h2 => ?_, fun y hy => ?_⟩
  · rw [List.getElem?_append_left (by simp)]; exact h.head
  · rcases snoc_get h2 with h2 | ⟨e2, rfl⟩
    · have hlt := (List.getElem?_eq_some_iff.1 h2).1
      rw [List.getElem?_append_left (by omega)] at h1
      exact h.step i y z h1 h2
    · rcases snoc_get h1 with h1 | ⟨e1, _⟩
      · rcases snoc_get h1 with h1 | ⟨_, rfl⟩
        · have := (List.getElem?_eq_some_iff.1 h1).1
          simp at e2
          omega
        · exact hc
      · omega
  · rcases List.mem_append.1 hy with hy | hy
    · exact h.low y hy
    · simp at hy
      subst hy
      have := h.low x (by simp)
      have := hc.1
      omega
theorem Gat.done {ls : List (List (Int × Int))} {A : List Int} (h : Gat ls A 2147483648) : Chg ls (A ++ [2147483648]) := ⟨h.head, by simp, h.step, h.low⟩
end Go.Proofs.Ytianappapfpbeaa.Rn
