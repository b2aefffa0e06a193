/- Words written anew, with a gap behind each: they are read as the same words. -/
import Derived.Test.YtokpknjmcegkaaaDoorScY
namespace Go.Proofs.YtokpknjmcegkaaaDoor
namespace Sc
open Go Go.RowKit Ru
set_option maxRecDepth 100000

def gapsL : List (List UInt8) := [[32], [10], [47, 42, 32, 39, 32, 42, 47], [47, 47, 32, 91, 10], [9, 13], [47, 42, 42, 47]]
theorem gap_blank (c : UInt8) (y : List UInt8) (h : blankB c = true) : gapL (c :: y) = (1 + (gapL y).1, (gapL y).2) := by
  have hs : skip (c :: y) = .go 1 := by
    unfold skip
    rw [if_pos (by simpa using h)]
  rw [gapL_go hs]
  rfl
theorem not_blank47 (y : List UInt8) : ¬ blankB ((47 :: y : List UInt8).getD 0 0) = true := by
  show ¬ blankB 47 = true
  decide
theorem gap_stars (m : List UInt8) (y : List UInt8) (hm : m = [32, 39, 32] ∨ m = []) : gapL (47 :: 42 :: (m ++ 42 :: 47 :: y)) = (m.length + 4 + (gapL y).1, (gapL y).2) := by
  have hc := cut_of (l := m ++ 42 :: 47 :: y) (sep := [42, 47]) (i := m.length) (by simp) (by
    unfold Lib.occAt
    rw [List.drop_left]
    exact prefix_of [42, 47] y) (by
    intro j hj
    rcases hm with rfl | rfl
    · have : j = 0 ∨ j = 1 ∨ j = 2 := by simp at hj; omega
      rcases this with rfl | rfl | rfl <;> simp [Lib.occAt, Lib.hasPrefix, List.isPrefixOf]
    · simp at hj)
  have hs : skip (47 :: 42 :: (m ++ 42 :: 47 :: y)) = .go (m.length + 4) := by
    unfold skip
    rw [if_neg (not_blank47 _), if_neg (by simp [Lib.hasPrefix, List.isPrefixOf]), if_pos (by simp [Lib.hasPrefix, List.isPrefixOf])]
    have e : (47 :: 42 :: (m ++ 42 :: 47 :: y) : List UInt8).drop 2 = m ++ 42 :: 47 :: y := rfl
    rw [e, if_pos hc.1, hc.2.2]
  rw [gapL_go hs]
  have e : (47 :: 42 :: (m ++ 42 :: 47 :: y) : List UInt8).drop (m.length + 4) = y := by
    rw [show m.length + 4 = (47 :: 42 :: (m ++ [42, 47])).length by simp]
    rw [show (47 :: 42 :: (m ++ 42 :: 47 :: y) : List UInt8) = (47 :: 42 :: (m ++ [42, 47])) ++ y by simp, List.drop_left]
  rw [e]
theorem gap_line (y : List UInt8) : gapL (47 :: 47 :: 32 :: 91 :: 10 :: y) = (5 + (gapL y).1, (gapL y).2) := by
  have hc := cut_of (l := 47 :: 47 :: 32 :: 91 :: 10 :: y) (sep := [10]) (i := 4) (by simp) (by
    show Lib.hasPrefix ((47 :: 47 :: 32 :: 91 :: 10 :: y : List UInt8).drop 4) [10] = true
    exact prefix_of [10] y) (by
    intro j hj
    have : j = 0 ∨ j = 1 ∨ j = 2 ∨ j = 3 := by omega
    rcases this with rfl | rfl | rfl | rfl <;> simp [Lib.occAt, Lib.hasPrefix, List.isPrefixOf])
  have hs : skip (47 :: 47 :: 32 :: 91 :: 10 :: y) = .go 4 := by
    unfold skip
    rw [if_neg (not_blank47 _), if_pos (by simp [Lib.hasPrefix, List.isPrefixOf]), hc.2.2]
  rw [gapL_go hs]
  have e : (47 :: 47 :: 32 :: 91 :: 10 :: y : List UInt8).drop 4 = 10 :: y := rfl
  rw [e, gap10]
  simp only [Prod.mk.injEq, and_true]
  omega
theorem gap_str {G : List UInt8} (h : G ∈ gapsL) (y : List UInt8) : gapL (G ++ y) = (G.length + (gapL y).1, (gapL y).2) := by
  unfold gapsL at h
  simp only [List.mem_cons, List.not_mem_nil, or_false] at h
  rcases h with rfl | rfl | rfl | rfl | rfl | rfl
  · exact gap_blank _ _ (by decide)
  · exact gap_blank _ _ (by decide)
  · exact gap_stars [32, 39, 32] y (Or.inl rfl)
  · exact gap_line y
  · show gapL (9 :: (13 :: y)) = _
    rw [gap_blank _ _ (by decide), gap_blank _ _ (by decide)]
    simp only [List.length_cons, List.length_nil, Prod.mk.injEq, and_true]
    omega
  · exact gap_stars [] y (Or.inr rfl)
theorem gap_first {G : List UInt8} (h : G ∈ gapsL) : (∃ c x, G = c :: x ∧ folB c = false ∧ c ≠ 62 ∧ c ≠ 46) ∧ G.length ≤ 7 ∧ ∀ b ∈ G, b.toNat < 128 := by
  unfold gapsL at h
  simp only [List.mem_cons, List.not_mem_nil, or_false] at h
  rcases h with rfl | rfl | rfl | rfl | rfl | rfl
  all_goals exact ⟨⟨_, _, rfl, by decide, by decide, by decide⟩, by decide, by decide⟩

def IsW (d : W) : Prop := ∃ l z, wordR l = .ok d.kind d.text d.set z
def joinL (xs : List (W × List UInt8)) : List UInt8 := xs.flatMap fun p => writL p.1 ++ p.2
def face (d : W) : Nat × List UInt8 × List (Nat × Nat) := (d.kind, d.text, d.set)
theorem scan_writ : ∀ (xs : List (W × List UInt8)) (f k : Nat), (∀ p ∈ xs, IsW p.1 ∧ p.2 ∈ gapsL) → (joinL xs).length ≤ f → ∃ ws, scanF f (joinL xs) k = .ok ws ∧ ws.map face = xs.map fun p => face p.1
  | [], f, k, _, _ => ⟨[], scanF_nil f k, rfl⟩
  | p :: xs, f, k, h, hf => by
    obtain ⟨⟨l, z, hw⟩, hG⟩ := h p (by simp)
    obtain ⟨⟨c, x, hc, c1, c2, c3⟩, _, _⟩ := gap_first hG
    have e0 : joinL (p :: xs) = writL p.1 ++ c :: (x ++ joinL xs) := by
      show (writL p.1 ++ p.2) ++ joinL xs = _
      rw [hc]; simp
    have hw2 := wordR_writ hw c (x ++ joinL xs) c1 c2 c3
    rw [← e0] at hw2
    have hs := gapL_stop (skip_word hw2)
    have e1 : (joinL (p :: xs)).drop (writL p.1).length = p.2 ++ joinL xs := by
      rw [e0, List.drop_left, hc]; rfl
    have hlen : (joinL (p :: xs)).length = (writL p.1).length + (p.2.length + (joinL xs).length) := by
      show ((writL p.1 ++ p.2) ++ joinL xs).length = _
      rw [List.length_append, List.length_append]; omega
    obtain ⟨ws, h1, h2⟩ := scan_writ xs f (k + (writL p.1).length + p.2.length) (fun q hq => h q (by simp [hq])) (by omega)
    refine ⟨⟨p.1.kind, p.1.text, p.1.set, k⟩ :: ws, ?_, ?_⟩
    · have hz := wordR_ok hw2
      rw [scan_ok f k p.1.kind p.1.text p.1.set (writL p.1).length hf (by rw [hs]) (by
        rw [hs, List.drop_zero]
        intro e
        rw [e] at hz
        have := hz.2.1
        rw [List.length_nil] at this
        omega) (by rw [hs, List.drop_zero]; exact hw2)]
      rw [hs, Nat.zero_add, e1, scanF_gap (m := p.2 ++ joinL xs) (u := joinL xs) (a := p.2.length) List.drop_left (gap_str hG _) f f _ (by rw [List.length_append]; omega) (by omega), Nat.add_zero, h1]
      rfl
    · rw [List.map_cons, List.map_cons, h2]
      rfl
/-- Bytes below 128 are runes. -/
theorem good_low : ∀ (l : List UInt8), (∀ b ∈ l, b.toNat < 128) → Good l
  | [], _ => Good.nil
  | b :: l, h => by
    refine (good_iff (by simp)).2 ?_
    have hb := h b (by simp)
    rw [decodeL_low _ _ hb]
    exact ⟨by intro e; injection e with e; omega, good_low l fun c hc => h c (by simp [hc])⟩
theorem hexd_low : ∀ k : Fin 16, (hexd k.val).toNat < 128 := by decide +kernel
theorem hexL_ascii (n : Nat) : ∀ c ∈ hexL n, c.toNat < 128 := by
  induction n using Nat.strongRecOn with
  | ind n ih =>
    intro c hc
    by_cases h : n < 16
    · rw [hexL_low h, List.mem_singleton] at hc; subst hc; exact hexd_low ⟨n, h⟩
    · rw [hexL_high h, List.mem_append, List.mem_singleton] at hc
      rcases hc with hc | rfl
      · exact ih (n / 16) (by omega) c hc
      · exact hexd_low ⟨n % 16, by omega⟩
theorem sign_low (r : Int) : (sign r).toNat < 128 := by
  rcases sign_cases r with rfl | rfl | rfl | rfl | rfl | rfl | rfl | rfl | h
  all_goals first | (rw [h.1]; decide) | decide +kernel
theorem txt_low (r : Nat) : ∀ b ∈ txt r, b.toNat < 128 := by
  intro b hb
  unfold txt text at hb
  split at hb
  · simp at hb
  · split at hb
    · simp only [List.mem_cons, List.not_mem_nil, or_false] at hb
      rcases hb with rfl | rfl
      · decide
      · exact sign_low _
    · split at hb
      · rename_i h2
        simp only [List.mem_cons, List.not_mem_nil, or_false] at hb
        subst hb
        rw [ofNat_toNat _ (by omega)]
        omega
      · simp only [List.mem_append, List.mem_cons, List.not_mem_nil, or_false] at hb
        rcases hb with ((rfl | rfl | rfl) | hb) | rfl
        · decide
        · decide
        · decide
        · exact hexL_ascii _ _ hb
        · decide
theorem tw_mem {p : UInt8 → Bool} : ∀ (l : List UInt8), ∀ b ∈ l.takeWhile p, p b = true
  | [], b, hb => by simp at hb
  | a :: l, b, hb => by
    rw [List.takeWhile_cons] at hb
    split at hb
    · rename_i h
      rcases List.mem_cons.1 hb with rfl | hb
      · exact h
      · exact tw_mem l b hb
    · simp at hb
theorem word_low {l : List UInt8} {kd : Nat} {t : List UInt8} {st : List (Nat × Nat)} {z : Nat} (h : wordR l = .ok kd t st z) (hk : kd = 0 ∨ kd = 1 ∨ kd = 4) : ∀ b ∈ t, b.toNat < 128 := by
  unfold wordR at h
  split at h
  · unfold runR at h
    split at h
    · cases h
    · injection h with _ h _ _
      subst h
      exact fun b hb => low_fol b (tw_mem l b hb)
  split at h
  · unfold runR at h
    split at h
    · cases h
    · injection h with _ h _ _
      subst h
      exact fun b hb => low_digit b (tw_mem l b hb)
  split at h
  · unfold textR at h
    split at h
    · cases h
    split at h
    · injection h with h _ _ _
      omega
    · cases h
  split at h
  · unfold setR at h
    split at h
    · cases h
    split at h
    · injection h with h _ _ _
      omega
    · cases h
  unfold markR at h
  split at h
  · rename_i hp
    injection h with _ h _ _
    subst h
    obtain ⟨r, rfl⟩ := prefix_app hp
    intro b hb
    have hb : b ∈ ([61, 62] : List UInt8) := hb
    have key : ∀ c ∈ ([61, 62] : List UInt8), c.toNat < 128 := by decide
    exact key b hb
  split at h
  · rename_i hp
    injection h with _ h _ _
    subst h
    obtain ⟨r, rfl⟩ := prefix_app hp
    intro b hb
    have hb : b ∈ ([46, 46] : List UInt8) := hb
    have key : ∀ c ∈ ([46, 46] : List UInt8), c.toNat < 128 := by decide
    exact key b hb
  split at h
  · rename_i hm
    injection h with _ h _ _
    subst h
    cases l with
    | nil => intro b hb; simp at hb
    | cons c r =>
      have hm' : c ∈ marksL := hm
      intro b hb
      have hb : b = c := by simpa using hb
      subst hb
      have : ∀ c ∈ marksL, c.toNat < 128 := by decide
      exact this _ hm'
  · cases h
theorem writ_low {d : W} (h : IsW d) : ∀ b ∈ writL d, b.toNat < 128 := by
  obtain ⟨l, z, hw⟩ := h
  have hk := (wordR_is hw).1
  intro b hb
  unfold writL at hb
  split at hb
  · simp only [List.mem_cons, List.mem_append, List.mem_flatMap, List.not_mem_nil, or_false] at hb
    rcases hb with rfl | ⟨r, _, hb⟩ | rfl
    · decide
    · exact txt_low r b hb
    · decide
  split at hb
  · simp only [List.mem_cons, List.mem_append, List.mem_flatMap, List.not_mem_nil, or_false] at hb
    rcases hb with rfl | ⟨p, _, hb | rfl | hb⟩ | rfl
    · decide
    · exact txt_low _ b hb
    · decide
    · exact txt_low _ b hb
    · decide
  · rename_i h2 h3
    exact word_low hw (by omega) b hb
theorem join_low : ∀ (xs : List (W × List UInt8)), (∀ p ∈ xs, IsW p.1 ∧ p.2 ∈ gapsL) → ∀ b ∈ joinL xs, b.toNat < 128 := by
  intro xs h b hb
  unfold joinL at hb
  rw [List.mem_flatMap] at hb
  obtain ⟨p, hp, hb⟩ := hb
  obtain ⟨h1, h2⟩ := h p hp
  rcases List.mem_append.1 hb with hb | hb
  · exact writ_low h1 b hb
  · exact (gap_first h2).2.2 b hb
/-- How long what is written anew may be. -/
theorem txts_len (rs : List Nat) : (rs.flatMap txt).length ≤ 10 * rs.length := by
  induction rs with
  | nil => simp
  | cons r rs ih =>
    have := txt_len r
    rw [List.flatMap_cons, List.length_append, List.length_cons]
    omega
theorem pairs_len (st : List (Nat × Nat)) : (st.flatMap fun p => txt p.1 ++ 45 :: txt p.2).length ≤ 21 * st.length := by
  induction st with
  | nil => simp
  | cons p st ih =>
    have h1 := txt_len p.1
    have h2 := txt_len p.2
    rw [List.flatMap_cons, List.length_append, List.length_append, List.length_cons, List.length_cons]
    omega
theorem writ_len {l : List UInt8} {d : W} {z : Nat} (h : wordR l = .ok d.kind d.text d.set z) : (writL d).length ≤ 23 * z := by
  obtain ⟨hk, h1, _, h2, h3, _⟩ := wordR_is h
  have hz := (wordR_ok h).1
  unfold writL
  split
  · rename_i hk2
    obtain ⟨_, rs, ht, _, hl, hv⟩ := h3 hk2
    have := txts_len rs
    rw [ht, rsOf_utf hv, List.length_cons, List.length_append, List.length_singleton]
    omega
  split
  · have := pairs_len d.set
    rw [List.length_cons, List.length_append, List.length_singleton]
    omega
  · rename_i k2 k3
    clear h3
    have := (h2 (by omega)).1
    omega
def total (ds : List W) : Nat := (ds.map fun d => (writL d).length + 7).sum
theorem total_app (a b : List W) : total (a ++ b) = total a + total b := by simp [total]
theorem scan_total : ∀ (f : Nat) (l : List UInt8) (k : Nat) (ds : List W), l.length ≤ f → scanF f l k = .ok ds → total ds ≤ 30 * l.length ∧ ∀ d ∈ ds, IsW d
  | 0, l, k, ds, hl, h => by
    have h : SR.ok [] = .ok ds := h
    injection h with h
    subst h
    exact ⟨by simp [total], by simp⟩
  | f + 1, l, k, ds, hl, h => by
    cases hg : (gapL l).2 with
    | false =>
      rw [scan_fail _ _ hl hg] at h
      cases h
    | true =>
      by_cases he : l.drop (gapL l).1 = []
      · rw [scan_done _ _ hg he] at h
        injection h with h
        subst h
        exact ⟨by simp [total], by simp⟩
      · cases hw : wordR (l.drop (gapL l).1) with
        | err e =>
          rw [scan_err _ _ e hl hg he hw] at h
          cases h
        | ok kd t st z =>
          rw [scan_ok _ _ kd t st z hl hg he hw] at h
          obtain ⟨ws, h1, h2⟩ := SR.cons_ok h
          obtain ⟨z1, z2, _⟩ := wordR_ok hw
          rw [List.length_drop] at z2
          rw [scanF_fuel (f + 1) f _ _ (by rw [List.length_drop]; omega) (by rw [List.length_drop]; omega)] at h1
          obtain ⟨i1, i2⟩ := scan_total f _ _ ws (by rw [List.length_drop]; omega) h1
          subst h2
          have hwl := writ_len (d := ⟨kd, t, st, k + (gapL l).1⟩) hw
          rw [List.length_drop] at i1
          refine ⟨?_, ?_⟩
          · show (writL _).length + 7 + total ws ≤ _
            omega
          · intro d hd
            rcases List.mem_cons.1 hd with rfl | hd
            · exact ⟨_, _, hw⟩
            · exact i2 d hd
theorem join_len : ∀ (xs : List (W × List UInt8)), (∀ p ∈ xs, p.2 ∈ gapsL) → (joinL xs).length ≤ total (xs.map (·.1))
  | [], _ => by simp [joinL]
  | p :: xs, h => by
    have ih := join_len xs fun q hq => h q (by simp [hq])
    have hg := (gap_first (h p (by simp))).2.1
    show ((writL p.1 ++ p.2) ++ joinL xs).length ≤ ((writL p.1).length + 7) + total (xs.map (·.1))
    rw [List.length_append, List.length_append]
    omega
/-- Of a text that is read: its words, written anew, are read as the same words. -/
theorem back_len {l : List UInt8} {ds : List W} (h : scanL l = .ok ds) (i : Nat) {xs : List (W × List UInt8)} (hx : xs.map (·.1) = ds.take i) (hg : ∀ p ∈ xs, p.2 ∈ gapsL) : (joinL xs).length ≤ 30 * l.length := by
  obtain ⟨_, _, h3⟩ := scanL_ok h
  have h4 := (scan_total _ _ _ _ (Nat.le_refl _) h3).1
  have h5 := join_len xs hg
  rw [hx] at h5
  have h6 := total_app (ds.take i) (ds.drop i)
  rw [List.take_append_drop] at h6
  omega
theorem back_ok {l : List UInt8} {ds : List W} (h : scanL l = .ok ds) (hl : l.length ≤ 2000) {xs : List (W × List UInt8)} (hx : xs.map (·.1) = ds) (hg : ∀ p ∈ xs, p.2 ∈ gapsL) : ∃ ws, scanL (joinL xs) = .ok ws ∧ ws.length = ds.length ∧ ∀ (i : Nat) d e, ds[i]? = some d → ws[i]? = some e → d.kind = e.kind ∧ d.text = e.text ∧ d.set = e.set := by
  have hlen := back_len h ds.length (xs := xs) (by rw [List.take_length]; exact hx) hg
  obtain ⟨_, _, h3⟩ := scanL_ok h
  have hw := (scan_total _ _ _ _ (Nat.le_refl _) h3).2
  have hall : ∀ p ∈ xs, IsW p.1 ∧ p.2 ∈ gapsL := fun p hp => ⟨hw p.1 (by rw [← hx]; exact List.mem_map_of_mem hp), hg p hp⟩
  have hG := good_low _ (join_low xs hall)
  obtain ⟨ws, h4, h5⟩ := scan_writ xs (joinL xs).length 0 hall (Nat.le_refl _)
  have h6 : ws.map face = ds.map face := by
    rw [h5, ← hx, List.map_map]
    rfl
  refine ⟨ws, ?_, ?_, ?_⟩
  · unfold scanL
    unfold Good at hG
    rw [if_neg (by omega), if_neg (by rw [hG]; decide)]
    exact h4
  · have := congrArg List.length h6
    rwa [List.length_map, List.length_map] at this
  · intro i d e hd he
    have h7 := congrArg (·[i]?) h6
    simp only [List.getElem?_map, hd, he, Option.map_some, Option.some.injEq] at h7
    unfold face at h7
    injection h7 with h8 h9
    injection h9 with h9 h10
    exact ⟨h8.symm, h9.symm, h10.symm⟩
end Sc
end Go.Proofs.YtokpknjmcegkaaaDoor
