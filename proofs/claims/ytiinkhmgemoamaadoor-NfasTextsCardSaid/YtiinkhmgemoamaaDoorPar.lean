/- All tokens' places: each token's are an automaton of just its texts, apart from the others'. Pure. -/
import Derived.Test.YtiinkhmgemoamaaDoorPaq
namespace Go.Proofs.YtiinkhmgemoamaaDoor.Gl
open Go Go.RowKit Nd Nu Nf
set_option maxRecDepth 100000

theorem part_over (fd : ByteArray → Option T) (rns : ByteArray → List Int) (kind : Nat) : ∀ (F : Nat) (s : St) (n : T), s.over = true → (partF fd rns kind F s n).1.over = true
 | 0, _, _, _ => rfl
 | F + 1, s, n, h => by
  rw [part_eq]
  unfold partB
  rw [if_pos (by show (s.over || _) = true; rw [h]; rfl)]
  show (s.over || _) = true
  rw [h]
  rfl
theorem all_cons (fd : ByteArray → Option T) (rns : ByteArray → List Int) (s : St) (a : (Nat → Bool) × (Nat → Bool)) (k : Nat) (b : T) (l : List T) :
 allF fd rns s a k (b :: l) = allF fd rns (partF fd rns k 65537 s b).1 (jn a.1 (partF fd rns k 65537 s b).2.first, jn a.2 (partF fd rns k 65537 s b).2.last) (k + 1) l := by
 conv => lhs; unfold allF
theorem all_over (fd : ByteArray → Option T) (rns : ByteArray → List Int) : ∀ (l : List T) (s : St) (a : (Nat → Bool) × (Nat → Bool)) (k : Nat), (allF fd rns s a k l).1.over = false → s.over = false
 | [], _, _, _, h => h
 | b :: l, s, a, k, h => by
  rw [all_cons] at h
  have h1 := all_over fd rns l _ _ _ h
  cases hs : s.over with
  | false => rfl
  | true => rw [part_over fd rns k 65537 s b hs] at h1; cases h1
/-- One token's places within all. -/
structure Tok (S : St) (F L : Nat → Bool) (kind : Nat) (l : List Int) (R : Nat → Nat → Prop) (b e : Nat) (p : Pt) (A : Au) : Prop where
 is : Is S b e p A
 rd : ∀ i j, Rd A (hdS S.made l) i j ↔ R i j
 kind : ∀ q m, S.made[q]? = some m → (m.2 = kind ↔ b ≤ q ∧ q < e)
 fst : ∀ q, b ≤ q → q < e → F q = p.first q
 lst : ∀ q, b ≤ q → q < e → L q = p.last q
/-- What the tokens behind make of what is there. -/
theorem all_grow (fd : ByteArray → Option T) (rns : ByteArray → List Int) (l : List Int) : ∀ (ns : List T) (s : St) (a : (Nat → Bool) × (Nat → Bool)) (k : Nat), Ok s → (allF fd rns s a k ns).1.over = false →
 (∃ X, (allF fd rns s a k ns).1.made = s.made ++ X ∧ ∀ x ∈ X, k ≤ x.2) ∧ (∀ q, q < s.made.length → (allF fd rns s a k ns).1.follow[q]? = s.follow[q]?) ∧
  (∀ q, q < s.made.length → (allF fd rns s a k ns).2.1 q = a.1 q ∧ (allF fd rns s a k ns).2.2 q = a.2 q)
 | [], s, a, k, _, _ => ⟨⟨[], by simp [allF], by simp⟩, fun _ _ => rfl, fun _ _ => ⟨rfl, rfl⟩⟩
 | b :: ns, s, a, k, hs, h => by
  have ho := all_over fd rns ns _ _ _ (by rw [all_cons] at h; exact h)
  have hp := part_tells fd rns k l 65537 s b hs ho
  have hok := partF_ok fd rns k 65537 s b hs
  rw [all_cons] at h ⊢
  generalize partF fd rns k 65537 s b = x at *
  obtain ⟨s1, p⟩ := x
  obtain ⟨hg, A, hI, _⟩ := hp
  obtain ⟨hok1, _, _⟩ := hok
  dsimp only at *
  obtain ⟨⟨X, hX, kX⟩, hF, hFL⟩ := all_grow fd rns l ns s1 (jn a.1 p.first, jn a.2 p.last) (k + 1) hok1 h
  obtain ⟨⟨Y, hY, kY⟩, hf⟩ := hg
  have hle : s.made.length ≤ s1.made.length := by rw [hY, List.length_append]; omega
  refine ⟨⟨Y ++ X, by rw [hX, hY, List.append_assoc], fun x hx => ?_⟩, fun q hq => (hF q (by omega)).trans (hf q hq), fun q hq => ?_⟩
  · rcases List.mem_append.1 hx with hx | hx
    · rw [kY x hx]; exact Nat.le_refl _
    · have := kX x hx; omega
  · have h1 : p.first q = false := by
     cases hc : p.first q with
     | false => rfl
     | true => have := (hI.dom q).1 (hI.wf.fst q ((hI.fst q).2 hc)); omega
    have h2 : p.last q = false := by
     cases hc : p.last q with
     | false => rfl
     | true => have := (hI.dom q).1 (hI.wf.lst q ((hI.lst q).2 hc)); omega
    obtain ⟨h3, h4⟩ := hFL q (by omega)
    exact ⟨by rw [h3]; simp [jn, h1], by rw [h4]; simp [jn, h2]⟩
theorem all_tells (fd : ByteArray → Option T) (rns : ByteArray → List Int) (l : List Int) : ∀ (ns : List T) (s : St) (a : (Nat → Bool) × (Nat → Bool)) (k : Nat), Ok s → (∀ x ∈ s.made, x.2 < k) → (∀ q, a.1 q = true → q < s.made.length) → (∀ q, a.2 q = true → q < s.made.length) → (allF fd rns s a k ns).1.over = false →
 ∀ (t : Nat) (n : T), ns[t]? = some n → ∃ b e p A, Tok (allF fd rns s a k ns).1 (allF fd rns s a k ns).2.1 (allF fd rns s a k ns).2.2 (k + t) l (den fd rns l 65537 n) b e p A
 | [], _, _, _, _, _, _, _, _, t, n, h => by simp at h
 | b :: ns, s, a, k, hs, hk, ha1, ha2, h, t, n, hn => by
  have ho := all_over fd rns ns _ _ _ (by rw [all_cons] at h; exact h)
  have hp := part_tells fd rns k l 65537 s b hs ho
  have hok := partF_ok fd rns k 65537 s b hs
  rw [all_cons] at h ⊢
  obtain ⟨x, hx⟩ : ∃ x, partF fd rns k 65537 s b = x := ⟨_, rfl⟩
  rw [hx] at hp hok h ho ⊢
  obtain ⟨s1, p⟩ := x
  obtain ⟨hg, A, hI, hR⟩ := hp
  obtain ⟨hok1, hle, hpo⟩ := hok
  dsimp only at *
  have hG := hg
  obtain ⟨⟨Y, hY, kY⟩, hf⟩ := hg
  cases t with
  | zero =>
   injection hn with hn
   subst hn
   obtain ⟨⟨X, hX, kX⟩, hF, hFL⟩ := all_grow fd rns l ns s1 (jn a.1 p.first, jn a.2 p.last) (k + 1) hok1 h
   generalize allF fd rns s1 (jn a.1 p.first, jn a.2 p.last) (k + 1) ns = z at *
   have hget : ∀ q, q < s1.made.length → z.1.made[q]? = s1.made[q]? := fun q hq => by rw [hX, List.getElem?_append_left hq]
   refine ⟨s.made.length, s1.made.length, p, A, ⟨hI.wf, ⟨hI.le.1, by rw [hX, List.length_append]; omega⟩, hI.dom, hI.fst, hI.lst, hI.emp, fun q r h1 h2 => ?_⟩, fun i j => ?_, fun q m hm => ?_, fun q h1 h2 => ?_, fun q h1 h2 => ?_⟩
   · rw [hI.fl q r h1 h2]
     unfold flS
     rw [hF q h2]
   · rw [← hR i j]
     exact Rd.hd hI.wf (fun q i hq => by
      unfold hdS
      rw [hget q ((hI.dom q).1 hq).2]) i j
   · show m.2 = k ↔ _
     by_cases h1 : q < s1.made.length
     · rw [hget q h1, hY] at hm
       by_cases h2 : q < s.made.length
       · rw [List.getElem?_append_left h2] at hm
         have := hk m (List.mem_of_getElem? hm)
         omega
       · rw [List.getElem?_append_right (by omega)] at hm
         have := kY m (List.mem_of_getElem? hm)
         omega
     · rw [hX, List.getElem?_append_right (by omega)] at hm
       have := kX m (List.mem_of_getElem? hm)
       omega
   · rw [(hFL q h2).1]
     have : a.1 q = false := by
      cases hc : a.1 q with
      | false => rfl
      | true => have := ha1 q hc; omega
     simp [jn, this]
   · rw [(hFL q h2).2]
     have : a.2 q = false := by
      cases hc : a.2 q with
      | false => rfl
      | true => have := ha2 q hc; omega
     simp [jn, this]
  | succ t =>
   have := all_tells fd rns l ns s1 (jn a.1 p.first, jn a.2 p.last) (k + 1) hok1 (fun x hx => by
    rw [hY] at hx
    rcases List.mem_append.1 hx with hx | hx
    · have := hk x hx; omega
    · rw [kY x hx]; omega) (fun q hq => by
    have : a.1 q = true ∨ p.first q = true := by simpa [jn] using hq
    rcases this with h | h
    · have := ha1 q h; omega
    · exact hpo.1 q h) (fun q hq => by
    have : a.2 q = true ∨ p.last q = true := by simpa [jn] using hq
    rcases this with h | h
    · have := ha2 q h; omega
    · exact hpo.2 q h) h t n (by simpa using hn)
   rw [show k + (t + 1) = k + 1 + t from by omega]
   exact this
/-- Each token's places. -/
theorem auto_tells (rns : ByteArray → List Int) (rs : List Rl) (l : List Int) (h : (autoF rns rs).1.over = false) (t : Nat) (r : Rl) (ht : (toks rs)[t]? = some r) :
 ∃ b e p A, Tok (autoF rns rs).1 (autoF rns rs).2.1 (autoF rns rs).2.2 t l (den (bodyOf rs) rns l 65537 r.body) b e p A := by
 have := all_tells (bodyOf rs) rns l ((toks rs).map fun r : Rl => r.body) ⟨0, [], [], false⟩ (none_, none_) 0 ⟨rfl, fun S h => (by cases h), Nat.zero_le _⟩ (fun x hx => by cases hx) (fun q hq => by cases hq) (fun q hq => by cases hq) h t r.body (by rw [List.getElem?_map, ht]; rfl)
 rw [Nat.zero_add] at this
 exact this
/-- A text goes from a first place of a token, by places that follow, to a last one, just if it is one of the token's. -/
theorem Tok.way {S : St} {F L : Nat → Bool} {kind : Nat} {l : List Int} {R : Nat → Nat → Prop} {b e : Nat} {p : Pt} {A : Au} (h : Tok S F L kind l R b e p A) {n : Nat} (hn : 0 < n) : R 0 n ↔ ∃ q, Way A (hdS S.made l) 0 n q ∧ L q = true := by
 rw [← h.rd]
 constructor
 · rintro (⟨h0, _⟩ | ⟨q, w, hq⟩)
   · omega
   · have := (h.is.dom q).1 (h.is.wf.lst q hq)
     exact ⟨q, w, by rw [h.lst q this.1 this.2]; exact (h.is.lst q).1 hq⟩
 · rintro ⟨q, w, hq⟩
   have := (h.is.dom q).1 (w.dom h.is.wf)
   exact .inr ⟨q, w, (h.is.lst q).2 (by rw [← h.lst q this.1 this.2]; exact hq)⟩
end Go.Proofs.YtiinkhmgemoamaaDoor.Gl
