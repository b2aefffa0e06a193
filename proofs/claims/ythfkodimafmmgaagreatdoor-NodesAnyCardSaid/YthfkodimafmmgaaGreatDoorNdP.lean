/- Pure: what is plain is so within others. -/
import Derived.Test.YthfkodimafmmgaaGreatDoorNdX
import Derived.Test.YthfkodimafmmgaaGreatDoorNdE
namespace Go.Proofs.YthfkodimafmmgaaGreatDoor
open Go Go.RowKit
namespace Nd
mutual
theorem wt_full : ∀ (t : T) (d : Nat), wt d t ≤ 3000 → full t ≤ wt d t
  | .mk k n x s b, d, h => by
    have e : wt d (.mk k n x s b) = if 100 < d then 9000 else wtL d (1 + x.size + n.size + s.length) b := by simp only [wt]
    rw [e] at h ⊢
    by_cases hd : 100 < d
    · rw [if_pos hd] at h; omega
    rw [if_neg hd] at h ⊢
    have := wtL_whole b d _ h
    simp only [full]
    omega
theorem wtL_whole : ∀ (b : List T) (d acc : Nat), wtL d acc b ≤ 3000 → acc + fullL b ≤ wtL d acc b
  | [], d, acc, h => by simp [wtL, fullL]
  | t :: r, d, acc, h => by
    have e : wtL d acc (t :: r) = if acc < 9000 then wtL d (acc + wt (d + 1) t) r else acc := by simp only [wtL]
    rw [e] at h ⊢
    by_cases ha : acc < 9000
    · rw [if_pos ha] at h ⊢
      have h1 := wtL_ge d r (acc + wt (d + 1) t)
      have h2 := wtL_whole r d _ h
      have h3 := wt_full t (d + 1) (by omega)
      simp only [fullL]
      omega
    · rw [if_neg ha] at h; omega
end
mutual
theorem parts_snd (l m : Nat) : ∀ t : T, (parts l t).map (·.2) = (parts m t).map (·.2)
  | .mk k n x s b => by simp only [parts, List.map_cons, partsL_snd (l + 1) (m + 1) b]
theorem partsL_snd (l m : Nat) : ∀ b : List T, (partsL l b).map (·.2) = (partsL m b).map (·.2)
  | [] => by simp only [partsL]
  | t :: r => by simp only [partsL, List.map_append, parts_snd l m t, partsL_snd l m r]
end
mutual
theorem parts_lvl (l : Nat) : ∀ (t : T), ∀ p ∈ parts l t, p.1 < l + deep t
  | .mk k n x s b, p, hp => by
    simp only [parts, List.mem_cons] at hp
    simp only [deep]
    rcases hp with rfl | hp
    · simp only; omega
    · have := partsL_lvl (l + 1) b p hp; omega
theorem partsL_lvl (l : Nat) : ∀ (b : List T), ∀ p ∈ partsL l b, p.1 < l + deepL b
  | [], p, hp => by simp [partsL] at hp
  | t :: r, p, hp => by
    simp only [partsL, List.mem_append] at hp
    simp only [deepL]
    rcases hp with hp | hp
    · have := parts_lvl l t p hp; omega
    · have := partsL_lvl l r p hp; omega
end
theorem okP_fits (tok : Bool) : ∀ (n : Nat) (l : List (Nat × T)), okP tok n l = true → ∀ p ∈ l, fitsB p.2 tok = true
  | _, [], _, p, hp => by simp at hp
  | n, q :: r, h, p, hp => by
    simp only [okP, Bool.and_eq_true] at h
    rcases List.mem_cons.1 hp with rfl | hp
    · exact h.1.2
    · exact okP_fits tok (n + 1) r h.2 p hp
theorem okP_mk (tok : Bool) : ∀ (n : Nat) (l : List (Nat × T)), n + l.length ≤ 2048 → (∀ p ∈ l, p.1 ≤ 64 ∧ fitsB p.2 tok = true) → okP tok n l = true
  | _, [], _, _ => by simp [okP]
  | n, q :: r, hn, h => by
    simp only [List.length_cons] at hn
    have h1 := h q (by simp)
    simp only [okP, Bool.and_eq_true, decide_eq_true_eq]
    exact ⟨⟨⟨by omega, h1.1⟩, h1.2⟩, okP_mk tok (n + 1) r (by omega) fun p hp => h p (by simp [hp])⟩
theorem plain_fits {t : T} {tok : Bool} (h : plainB t tok = true) (l : Nat) : ∀ p ∈ parts l t, fitsB p.2 tok = true := by
  intro p hp
  have h1 := okP_fits tok 0 _ h
  have h2 : p.2 ∈ (parts l t).map (·.2) := List.mem_map.2 ⟨p, hp, rfl⟩
  rw [parts_snd l 1 t] at h2
  obtain ⟨q, hq, he⟩ := List.mem_map.1 h2
  rw [← he]
  exact h1 q hq
end Nd
/-- The node with another behind it, of a kind. -/
def withA (k : Int) (n : Nd.T) : Nd.T := .mk k ⟨#[]⟩ ⟨#[]⟩ [] [n, tokT ⟨#[65]⟩]
def optT (n : Nd.T) : Nd.T := .mk 2 ⟨#[]⟩ ⟨#[]⟩ [] [n]
theorem tokA_fits (tok : Bool) : Nd.fitsB (tokT ⟨#[65]⟩) tok = true := by simp [tokT, Nd.fitsB, Nd.T.kind, Nd.T.name, Nd.T.text, Nd.T.set, Nd.T.subs, ByteArray.toList_eq, Nd.nameP, Nd.bigL, Nd.behL]
theorem withA_plain {n : Nd.T} {tok : Bool} {k : Int} (hk : k = 0 ∨ k = 1) (h : Nd.plainB n tok = true) (hd : Nd.deep n ≤ 60) (hc : Nd.count n ≤ 2000) : Nd.plainB (withA k n) tok = true := by
  have f : Nd.fitsB (withA k n) tok = true := by
    rcases hk with rfl | rfl <;> simp [withA, tokT, Nd.fitsB, Nd.T.kind, Nd.T.name, Nd.T.text, Nd.T.set, Nd.T.subs, ByteArray.toList_eq, Nd.looksB]
  have hl := Nd.parts_len 2 n
  unfold Nd.plainB
  have e : Nd.parts 1 (withA k n) = (1, withA k n) :: (Nd.parts 2 n ++ [(2, tokT ⟨#[65]⟩)]) := by simp only [withA, tokT, Nd.parts, Nd.partsL, List.append_nil]
  rw [e]
  refine Nd.okP_mk tok 0 _ (by simp [hl]; omega) fun p hp => ?_
  simp only [List.mem_cons, List.mem_append, List.not_mem_nil, or_false] at hp
  rcases hp with rfl | hp | rfl
  · exact ⟨by simp, f⟩
  · exact ⟨by have := Nd.parts_lvl 2 n p hp; omega, Nd.plain_fits h 2 p hp⟩
  · exact ⟨by simp, tokA_fits tok⟩
theorem optT_plain {n : Nd.T} {tok : Bool} (h : Nd.plainB n tok = true) (hd : Nd.deep n ≤ 60) (hc : Nd.count n ≤ 2000) : Nd.plainB (optT n) tok = true := by
  have f : Nd.fitsB (optT n) tok = true := by
    simp [optT, Nd.fitsB, Nd.T.kind, Nd.T.name, Nd.T.text, Nd.T.set, Nd.T.subs, ByteArray.toList_eq]
  have hl := Nd.parts_len 2 n
  unfold Nd.plainB
  have e : Nd.parts 1 (optT n) = (1, optT n) :: Nd.parts 2 n := by simp only [optT, Nd.parts, Nd.partsL, List.append_nil]
  rw [e]
  refine Nd.okP_mk tok 0 _ (by simp [hl]; omega) fun p hp => ?_
  simp only [List.mem_cons] at hp
  rcases hp with rfl | hp
  · exact ⟨by simp, f⟩
  · exact ⟨by have := Nd.parts_lvl 2 n p hp; omega, Nd.plain_fits h 2 p hp⟩
theorem withA_count (k : Int) (n : Nd.T) : Nd.count (withA k n) = Nd.count n + 2 := by simp [withA, tokT, Nd.count, Nd.countL]; omega
theorem withA_deep (k : Int) (n : Nd.T) : Nd.deep (withA k n) = Nd.deep n + 1 := by
  have := Nd.deep_pos n
  simp [withA, tokT, Nd.deep, Nd.deepL]
  omega
theorem withA_full (k : Int) (n : Nd.T) : Nd.full (withA k n) = Nd.full n + 3 := by
  simp [withA, tokT, Nd.full, Nd.fullL, ByteArray.size]
  omega
theorem optT_deep (n : Nd.T) : Nd.deep (optT n) = Nd.deep n + 1 := by simp [optT, Nd.deep, Nd.deepL]; omega
theorem optT_count (n : Nd.T) : Nd.count (optT n) = Nd.count n + 1 := by simp [optT, Nd.count, Nd.countL]; omega
theorem optT_full (n : Nd.T) : Nd.full (optT n) = Nd.full n + 1 := by simp [optT, Nd.full, Nd.fullL, ByteArray.size]; omega
theorem tokA_txt (k : Int) (hk : k = 0 ∨ k = 1) : Nd.subT k (tokT ⟨#[65]⟩) = [65] := by
  rcases hk with rfl | rfl <;> simp [Nd.subT, Nd.wrappedB, tokT, Nd.T.kind, Nd.txt]
theorem alts_txt (n : Nd.T) : Nd.txt (withA 0 n) = Nd.txt n ++ [32, 124, 32, 65] ∨ Nd.txt (withA 0 n) = [40] ++ Nd.txt n ++ [41, 32, 124, 32, 65] := by
  have e : Nd.txt (withA 0 n) = Nd.subT 0 n ++ ([32, 124, 32] ++ Nd.subT 0 (tokT ⟨#[65]⟩)) := by
    unfold withA
    rw [Nd.txt, if_pos rfl, Nd.joinT_cons, Nd.joinT_cons]
    simp [Nd.joinT]
  rw [e, tokA_txt 0 (Or.inl rfl)]
  unfold Nd.subT
  split
  · right; simp
  · left; simp
theorem seq_txt (n : Nd.T) : Nd.txt (withA 1 n) = Nd.txt n ++ [32, 65] ∨ Nd.txt (withA 1 n) = [40] ++ Nd.txt n ++ [41, 32, 65] := by
  have e : Nd.txt (withA 1 n) = Nd.subT 1 n ++ ([32] ++ Nd.subT 1 (tokT ⟨#[65]⟩)) := by
    unfold withA
    rw [Nd.txt, if_neg (by decide), if_pos rfl, Nd.joinT_cons, Nd.joinT_cons]
    simp [Nd.joinT]
  rw [e, tokA_txt 1 (Or.inr rfl)]
  unfold Nd.subT
  split
  · right; simp
  · left; simp
theorem opt_txt (n : Nd.T) : Nd.txt (optT n) = Nd.txt n ++ [63] ∨ Nd.txt (optT n) = [40] ++ Nd.txt n ++ [41, 63] := by
  have e : Nd.txt (optT n) = Nd.subT 2 n ++ [63] := by
    unfold optT
    rw [Nd.txt, if_neg (by decide), if_neg (by decide), if_pos rfl, Nd.firstT_cons]
  rw [e]
  unfold Nd.subT
  split
  · right; simp
  · left; rfl
end Go.Proofs.YthfkodimafmmgaaGreatDoor
