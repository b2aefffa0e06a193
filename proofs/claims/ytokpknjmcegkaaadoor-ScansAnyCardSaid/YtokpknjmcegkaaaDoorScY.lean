/- A word that is written anew is read as itself. -/
import Derived.Test.YtokpknjmcegkaaaDoorScX
namespace Go.Proofs.YtokpknjmcegkaaaDoor
namespace Sc
open Go Go.RowKit Ru
set_option maxRecDepth 100000

/-- The runes of a text. -/
def rsF : Nat → List UInt8 → List Nat
  | 0, _ => []
  | f + 1, l => if l = [] then [] else (Lib.decodeL l).1 :: rsF f (l.drop (Lib.decodeL l).2)
def rsOf (l : List UInt8) : List Nat := rsF l.length l
def txt (r : Nat) : List UInt8 := text (r : Int)
def writL (d : W) : List UInt8 :=
  if d.kind = 2 then 39 :: ((rsOf d.text).flatMap txt ++ [39])
  else if d.kind = 3 then 91 :: ((d.set.flatMap fun p => txt p.1 ++ 45 :: txt p.2) ++ [93])
  else d.text
theorem rsF_utf (rs : List Nat) : ∀ (f : Nat), (∀ r ∈ rs, Go.validRune (r : Int) = true) → (rs.flatMap utf).length ≤ f → rsF f (rs.flatMap utf) = rs := by
  induction rs with
  | nil =>
    intro f _ _
    rw [List.flatMap_nil]
    cases f with
    | zero => rfl
    | succ f => exact if_pos rfl
  | cons r rs ih =>
    intro f hv hf
    have h := hv r (by simp)
    have hl := encL_len (r : Int) h
    rw [List.flatMap_cons] at hf ⊢
    have hu : utf r = encL (r : Int) := rfl
    rw [hu] at hf ⊢
    rw [List.length_append] at hf
    cases f with
    | zero => omega
    | succ f =>
      unfold rsF
      have hne : encL (r : Int) ++ rs.flatMap utf ≠ [] := by
        intro e
        have := congrArg List.length e
        rw [List.length_append, List.length_nil] at this
        omega
      rw [if_neg hne, decode_enc_app _ _ h]
      dsimp only
      rw [List.drop_left, ih f (fun r hr => hv r (by simp [hr])) (by omega), Int.toNat_natCast]
theorem rsOf_utf {rs : List Nat} (h : ∀ r ∈ rs, Go.validRune (r : Int) = true) : rsOf (rs.flatMap utf) = rs := rsF_utf rs _ h (Nat.le_refl _)
theorem not_no {r : Nat} (h : sign (r : Int) = 0) : r ∉ notText ∧ r ∉ notSet := by
  have := sign_cases (r : Int)
  have h1 : ∀ k : Nat, sign (k : Int) ≠ 0 → r ≠ k := fun k hk e => hk (by rw [← e]; exact h)
  have := h1 39 (by decide)
  have := h1 92 (by decide)
  have := h1 10 (by decide)
  have := h1 93 (by decide)
  have := h1 91 (by decide)
  have := h1 45 (by decide)
  unfold notText notSet
  simp only [List.mem_cons, List.not_mem_nil, or_false]
  omega
theorem oneL_txt {r : Nat} (hv : Go.validRune (r : Int) = true) {no : List Nat} (hno : no = notText ∨ no = notSet) (y : List UInt8) : oneL no (txt r ++ y) = some (r, (txt r).length) := by
  unfold txt
  by_cases e : text (r : Int) = encL (r : Int)
  · obtain ⟨h1, h2, h3⟩ := (text_is_enc _ hv).1 e
    have ht := text_self h1 h2 h3
    rw [Int.toNat_natCast] at ht
    have hc : (UInt8.ofNat r).toNat = r := ofNat_toNat _ (by omega)
    have h92 : UInt8.ofNat r ≠ 92 := by
      intro e9
      rw [e9] at hc
      have : r = 92 := hc.symm
      subst this
      exact absurd h3 (by decide)
    rw [ht, List.cons_append, List.nil_append]
    unfold oneL
    rw [escL_not _ h92]
    dsimp only
    rw [if_neg (by simp), decodeL_low _ _ (by rw [hc]; omega), hc, if_neg (by intro e; injection e with e; omega), if_neg ?_]
    · rfl
    · rcases hno with rfl | rfl
      · exact (not_no h3).1
      · exact (not_no h3).2
  · unfold oneL
    rw [escL_text _ _ hv e, Int.toNat_natCast]
theorem txt_len (r : Nat) : (txt r).length ≤ 10 := text_len _
theorem partL_txt {a b : Nat} (hab : a ≤ b) (ha : Go.validRune (a : Int) = true) (hb : Go.validRune (b : Int) = true) (y : List UInt8) : partL ((txt a ++ 45 :: txt b) ++ y) = some ((a, b), (txt a ++ 45 :: txt b).length) := by
  unfold partL
  rw [List.append_assoc, oneL_txt ha (Or.inr rfl)]
  dsimp only
  have e0 : Lib.hasPrefix (45 :: txt b ++ y) [45] = true := (prefix_one _ _).2 ⟨txt b ++ y, rfl⟩
  rw [List.drop_left, if_pos e0]
  have e : (txt a ++ (45 :: txt b ++ y)).drop ((txt a).length + 1) = txt b ++ y := by
    rw [← List.drop_drop, List.drop_left]
    rfl
  rw [e, oneL_txt hb (Or.inr rfl)]
  dsimp only
  rw [if_neg (by omega), List.length_append, List.length_cons]
  simp only [Option.some.injEq, Prod.mk.injEq, true_and]
  omega
theorem items_make {α : Type} {one : List UInt8 → Option (α × Nat)} (hn : one [] = none) (hs : ∀ l a k, one l = some (a, k) → 1 ≤ k ∧ k ≤ l.length) {c : UInt8} (hc : ∀ y, one (c :: y) = none) (wr : α → List UInt8) (x : List UInt8) :
    ∀ (xs : List α) (f : Nat), (∀ a ∈ xs, ∀ y, one (wr a ++ y) = some (a, (wr a).length)) → (xs.flatMap wr ++ c :: x).length ≤ f → items one f (xs.flatMap wr ++ c :: x) = (xs, (xs.flatMap wr).length)
  | [], f, _, _ => items_none (hc x)
  | a :: xs, f, h, hf => by
    have h1 := h a (by simp) (xs.flatMap wr ++ c :: x)
    have e : (a :: xs).flatMap wr ++ c :: x = wr a ++ (xs.flatMap wr ++ c :: x) := by rw [List.flatMap_cons, List.append_assoc]
    rw [e] at hf ⊢
    rw [items_some hn hs h1 hf, List.drop_left]
    have hk := hs _ _ _ h1
    rw [List.length_append] at hf
    rw [items_make hn hs hc wr x xs f (fun a ha => h a (by simp [ha])) (by omega), List.flatMap_cons, List.length_append]
theorem getD_take {l : List UInt8} {z : Nat} (hz : 1 ≤ z) : (l.take z).getD 0 0 = l.getD 0 0 := by
  cases l with
  | nil => simp
  | cons a l =>
    obtain ⟨n, rfl⟩ : ∃ n, z = n + 1 := ⟨z - 1, by omega⟩
    simp
theorem tw_tw (p : UInt8 → Bool) : ∀ l : List UInt8, (l.takeWhile p).takeWhile p = l.takeWhile p
  | [] => rfl
  | a :: l => by
    cases h : p a with
    | true => simp only [List.takeWhile_cons, h, if_true, tw_tw p l]
    | false => simp [List.takeWhile_cons, h]
theorem runR_take {kd most : Nat} {p : UInt8 → Bool} {l : List UInt8} {k : Nat} {t : List UInt8} {st : List (Nat × Nat)} {z : Nat} (h : runR kd most p l = .ok k t st z) : runR kd most p (l.take z) = .ok k t st z := by
  have hz : z = (l.takeWhile p).length := by
    unfold runR at h
    split at h
    · cases h
    · injection h with _ _ _ h
      exact h.symm
  subst hz
  rw [tw_take]
  have e := tw_tw p l
  unfold runR at h ⊢
  rw [e]
  exact h
/-- Names, numbers and marks are read as themselves. -/
theorem wordR_take {l : List UInt8} {kd : Nat} {t : List UInt8} {st : List (Nat × Nat)} {z : Nat} (h : wordR l = .ok kd t st z) (hk : kd = 0 ∨ kd = 1 ∨ kd = 4) : wordR (l.take z) = .ok kd t st z := by
  obtain ⟨hz1, hz2, _⟩ := wordR_ok h
  unfold wordR at h ⊢
  rw [getD_take hz1]
  split at h
  · rename_i h1
    rw [if_pos h1]
    exact runR_take h
  rename_i h1
  rw [if_neg h1]
  split at h
  · rename_i h2
    rw [if_pos h2]
    exact runR_take h
  rename_i h2
  rw [if_neg h2]
  split at h
  · unfold textR at h
    split at h
    · cases h
    split at h
    · injection h with h _ _ _
      omega
    · cases h
  rename_i h3
  rw [if_neg h3]
  split at h
  · unfold setR at h
    split at h
    · cases h
    split at h
    · injection h with h _ _ _
      omega
    · cases h
  rename_i h4
  rw [if_neg h4]
  unfold markR at h
  split at h
  · rename_i hp
    injection h with e1 e2 e3 e4
    subst e1 e2 e3 e4
    obtain ⟨r, rfl⟩ := prefix_app hp
    rfl
  split at h
  · rename_i hp
    injection h with e1 e2 e3 e4
    subst e1 e2 e3 e4
    obtain ⟨r, rfl⟩ := prefix_app hp
    rfl
  split at h
  · rename_i hm
    injection h with e1 e2 e3 e4
    subst e1 e2 e3 e4
    cases l with
    | nil => simp at hz2
    | cons c r =>
      have hm' : c ∈ marksL := hm
      show markR [c] = .ok 4 [c] [] 1
      unfold markR
      rw [if_neg (by simp [Lib.hasPrefix, List.isPrefixOf]), if_neg (by simp [Lib.hasPrefix, List.isPrefixOf]), if_pos (by simpa using hm')]
      rfl
  · cases h
/-- A word written anew is read as itself, whatever gap comes behind it. -/
theorem wordR_writ {l : List UInt8} {d : W} {z : Nat} (h : wordR l = .ok d.kind d.text d.set z) (c : UInt8) (x : List UInt8) (hc : folB c = false) (h62 : c ≠ 62) (h46 : c ≠ 46) : wordR (writL d ++ c :: x) = .ok d.kind d.text d.set (writL d).length := by
  obtain ⟨k, _, _, k1, k2, k3⟩ := wordR_is h
  by_cases h2 : d.kind = 2
  · obtain ⟨hst, rs, ht, hne, _, hv⟩ := k2 h2
    have hw : writL d = 39 :: (rs.flatMap txt ++ [39]) := by
      unfold writL
      rw [if_pos h2, ht, rsOf_utf hv]
    have hl : writL d ++ c :: x = 39 :: (rs.flatMap txt ++ 39 :: (c :: x)) := by rw [hw]; simp
    have hi : items (oneL notText) (writL d ++ c :: x).length ((writL d ++ c :: x).drop 1) = (rs, (rs.flatMap txt).length) := by
      rw [hl, List.drop_succ_cons, List.drop_zero]
      exact items_make (oneL_nil _) (fun l a k h => (oneL_some h).2) one39 txt (c :: x) rs _ (fun r hr y => oneL_txt (hv r hr) (Or.inl rfl) y) (by rw [List.length_cons]; omega)
    have e0 : (writL d ++ c :: x).getD 0 0 = 39 := by rw [hl]; rfl
    unfold wordR
    rw [e0, if_neg (by decide), if_neg (by decide), if_pos rfl]
    unfold textR
    rw [hi, if_neg hne]
    dsimp only
    have e1 : (writL d ++ c :: x).drop (1 + (rs.flatMap txt).length) = 39 :: c :: x := by
      rw [hl, Nat.add_comm, List.drop_succ_cons, List.drop_left]
    rw [e1, if_pos ((prefix_one _ _).2 ⟨_, rfl⟩), h2, ht, hst, hw]
    simp only [WR.ok.injEq, true_and, List.length_cons, List.length_append, List.length_nil]
    omega
  by_cases h3 : d.kind = 3
  · obtain ⟨ht, hne, hv⟩ := k3 h3
    have hw : writL d = 91 :: ((d.set.flatMap fun p => txt p.1 ++ 45 :: txt p.2) ++ [93]) := by
      unfold writL
      rw [if_neg h2, if_pos h3]
    have hl : writL d ++ c :: x = 91 :: ((d.set.flatMap fun p => txt p.1 ++ 45 :: txt p.2) ++ 93 :: (c :: x)) := by rw [hw]; simp
    have hi : items partL (writL d ++ c :: x).length ((writL d ++ c :: x).drop 1) = (d.set, (d.set.flatMap fun p => txt p.1 ++ 45 :: txt p.2).length) := by
      rw [hl, List.drop_succ_cons, List.drop_zero]
      exact items_make partL_nil (fun l a k h => ⟨(partL_some h).1, (partL_some h).2.1⟩) part93 (fun p : Nat × Nat => txt p.1 ++ 45 :: txt p.2) (c :: x) d.set _ (fun p hp y => partL_txt (hv p hp).1 (hv p hp).2.1 (hv p hp).2.2 y) (by rw [List.length_cons]; omega)
    have e0 : (writL d ++ c :: x).getD 0 0 = 91 := by rw [hl]; rfl
    unfold wordR
    rw [e0, if_neg (by decide), if_neg (by decide), if_neg (by decide), if_pos rfl]
    unfold setR
    rw [hi, if_neg hne]
    dsimp only
    have e1 : (writL d ++ c :: x).drop (1 + (d.set.flatMap fun p => txt p.1 ++ 45 :: txt p.2).length) = 93 :: c :: x := by
      rw [hl, Nat.add_comm, List.drop_succ_cons, List.drop_left]
    rw [e1, if_pos ((prefix_one _ _).2 ⟨_, rfl⟩), h3, ht, hw]
    simp only [WR.ok.injEq, true_and, List.length_cons, List.length_append, List.length_nil]
    omega
  · clear k2 k3
    have hk : d.kind = 0 ∨ d.kind = 1 ∨ d.kind = 4 := by omega
    obtain ⟨e1, e2, e3⟩ := k1 hk
    have hw : writL d = l.take z := by
      unfold writL
      rw [if_neg h2, if_neg h3, e2]
    have h4 := wordR_take h hk
    rw [hw, wordR_app h4 c x hc h62 h46]
    rw [← e2, e1]
/-- Where a word stands no gap begins. -/
theorem skip_word {l : List UInt8} {kd : Nat} {t : List UInt8} {st : List (Nat × Nat)} {z : Nat} (h : wordR l = .ok kd t st z) : skip l = .stop := by
  have key : ∀ c : UInt8, (c = 32 ∨ c = 9 ∨ c = 10 ∨ c = 13 ∨ c = 47) → l.getD 0 0 ≠ c := by
    intro c hc e
    unfold wordR at h
    have n1 : letterB c = false := by rcases hc with rfl | rfl | rfl | rfl | rfl <;> decide
    have n2 : digitB c = false := by rcases hc with rfl | rfl | rfl | rfl | rfl <;> decide
    have n3 : c ≠ 39 := by rcases hc with rfl | rfl | rfl | rfl | rfl <;> decide
    have n4 : c ≠ 91 := by rcases hc with rfl | rfl | rfl | rfl | rfl <;> decide
    have n5 : c ∉ marksL := by rcases hc with rfl | rfl | rfl | rfl | rfl <;> decide
    have n6 : c ≠ 61 ∧ c ≠ 46 := by rcases hc with rfl | rfl | rfl | rfl | rfl <;> decide
    rw [e, if_neg (by rw [n1]; simp), if_neg (by rw [n2]; simp), if_neg n3, if_neg n4] at h
    unfold markR at h
    split at h
    · rename_i hp
      obtain ⟨r, rfl⟩ := prefix_app hp
      exact n6.1 e.symm
    split at h
    · rename_i hp
      obtain ⟨r, rfl⟩ := prefix_app hp
      exact n6.2 e.symm
    split at h
    · rename_i hm
      rw [e] at hm
      exact n5 hm
    · cases h
  unfold skip
  have hb : ¬ blankB (l.getD 0 0) = true := by
    intro hb
    unfold blankB at hb
    simp only [Bool.or_eq_true, beq_iff_eq] at hb
    rcases hb with ((hb | hb) | hb) | hb
    · exact key 32 (by simp) hb
    · exact key 9 (by simp) hb
    · exact key 10 (by simp) hb
    · exact key 13 (by simp) hb
  rw [if_neg hb, if_neg ?_, if_neg ?_]
  · intro hp
    obtain ⟨r, rfl⟩ := prefix_app hp
    exact key 47 (by simp) rfl
  · intro hp
    obtain ⟨r, rfl⟩ := prefix_app hp
    exact key 47 (by simp) rfl
end Sc
end Go.Proofs.YtokpknjmcegkaaaDoor
