/- Gaps and words of two texts with the end of a line between. -/
import Derived.Test.YtokpknjmcegkaaaDoorScW
import Derived.Test.YtokpknjmcegkaaaDoorScJ
namespace Go.Proofs.YtokpknjmcegkaaaDoor
namespace Sc
open Go Go.RowKit Ru
set_option maxRecDepth 100000

theorem cut_no_of {l sep : List UInt8} (h : ∀ j, j ≤ l.length → Lib.occAt l sep j = false) : (Lib.cut l sep).2.2 = false ∧ (Lib.cut l sep).1 = l := by
  unfold Lib.cut
  rcases Lib.index_spec l sep with ⟨h1, _⟩ | ⟨i, h1, h2, h3, _⟩
  · rw [if_neg (by omega)]
    exact ⟨rfl, rfl⟩
  · rw [h i h2] at h3; cases h3
theorem cut_of {l sep : List UInt8} {i : Nat} (hi : i ≤ l.length) (h : Lib.occAt l sep i = true) (hl : ∀ j, j < i → Lib.occAt l sep j = false) : (Lib.cut l sep).2.2 = true ∧ (Lib.cut l sep).1 = l.take i ∧ (Lib.cut l sep).1.length = i := by
  unfold Lib.cut
  rcases Lib.index_spec l sep with ⟨h1, h2⟩ | ⟨k, h1, h2, h3, h4⟩
  · rw [h2 i hi] at h; cases h
  · have : k = i := by
      rcases Nat.lt_trichotomy k i with h0 | h0 | h0
      · rw [hl k h0] at h3; cases h3
      · exact h0
      · rw [h4 i h0] at h; cases h
    subst this
    rw [if_pos (by omega), h1]
    refine ⟨rfl, by simp, by simp; omega⟩
/-- With more behind it a cut that is found is found there. -/
theorem cut_app {l sep : List UInt8} (hs : sep ≠ []) (h : (Lib.cut l sep).2.2 = true) (x : List UInt8) : (Lib.cut (l ++ x) sep).2.2 = true ∧ (Lib.cut (l ++ x) sep).1.length = (Lib.cut l sep).1.length := by
  obtain ⟨i, h1, h2, h3, h4, h5⟩ := cut_yes h
  have h6 := occ_len h4 hs
  have hocc : ∀ j, j + sep.length ≤ l.length → Lib.occAt (l ++ x) sep j = Lib.occAt l sep j := by
    intro j hj
    unfold Lib.occAt
    rw [drop_app (by omega)]
    cases hb : Lib.hasPrefix (l.drop j) sep with
    | true =>
      have h7 := prefix_more hb x
      unfold Lib.hasPrefix at hb h7
      rw [hb, h7]
    | false =>
      cases hc : Lib.hasPrefix (l.drop j ++ x) sep with
      | false =>
        unfold Lib.hasPrefix at hb hc
        rw [hb, hc]
      | true =>
        unfold Lib.hasPrefix at hb hc
        have := List.isPrefixOf_iff_prefix.1 hc
        have h7 := List.prefix_of_prefix_length_le this (List.prefix_append (l.drop j) x) (by rw [List.length_drop]; omega)
        rw [List.isPrefixOf_iff_prefix.2 h7] at hb
        cases hb
  have := cut_of (l := l ++ x) (sep := sep) (i := i) (by rw [List.length_append]; omega) (by rw [hocc i h6]; exact h4) (fun j hj => by rw [hocc j (by omega)]; exact h5 j hj)
  exact ⟨this.1, by rw [this.2.2, h3]⟩
theorem occ10 {l : List UInt8} {j : Nat} (hj : j < l.length) (x : List UInt8) : Lib.occAt (l ++ x) [10] j = Lib.occAt l [10] j := by
  unfold Lib.occAt
  rw [drop_app (by omega)]
  obtain ⟨c, r, hcr⟩ : ∃ c r, l.drop j = c :: r := ⟨_, _, List.drop_eq_getElem_cons hj⟩
  rw [hcr]
  simp [Lib.hasPrefix, List.isPrefixOf]
theorem cut10_app (l u : List UInt8) : (Lib.cut (l ++ 10 :: u) [10]).1.length = (Lib.cut l [10]).1.length := by
  cases hc : (Lib.cut l [10]).2.2 with
  | true => exact (cut_app (by simp) hc _).2
  | false =>
    obtain ⟨h1, h2⟩ := cut_no hc
    rw [h1]
    refine (cut_of (i := l.length) (by simp) ?_ ?_).2.2
    · unfold Lib.occAt
      rw [List.drop_left]
      exact prefix_of [10] u
    · intro j hj
      rw [occ10 hj]
      exact h2 j (by omega)
/-- What stands first between words, with more behind it. -/
theorem skip_app {l : List UInt8} (hl : l ≠ []) (u : List UInt8) : skip l ≠ .fail → skip (l ++ 10 :: u) = skip l := by
  intro hf
  unfold skip at hf ⊢
  rw [head_app hl]
  split at hf
  · rename_i h1
    rw [if_pos h1, if_pos h1]
  rename_i h1
  rw [if_neg h1, if_neg h1]
  split at hf
  · rename_i h2
    rw [if_pos (prefix_more h2 _), if_pos h2, cut10_app]
  rename_i h2
  rw [if_neg (by rw [prefix_two_no (by simpa using h2) hl (by decide)]; simp), if_neg h2]
  split at hf
  · rename_i h3
    have h4 := prefix_len h3
    simp only [List.length_cons, List.length_nil] at h4
    split at hf
    · rename_i hc
      obtain ⟨h5, h6⟩ := cut_app (by simp) hc (10 :: u)
      rw [if_pos (prefix_more h3 _), if_pos h3, drop_app (by omega), if_pos h5, if_pos hc, h6]
    · exact absurd rfl hf
  rename_i h3
  rw [if_neg (by rw [prefix_two_no (by simpa using h3) hl (by decide)]; simp), if_neg h3]
theorem gap10 (u : List UInt8) : gapL (10 :: u) = (1 + (gapL u).1, (gapL u).2) := by
  have h : skip (10 :: u) = .go 1 := by
    unfold skip
    rw [if_pos (by simp [blankB])]
  rw [gapL_go h]
  rfl
theorem gap_join : ∀ (n : Nat) (l u : List UInt8), l.length ≤ n → (gapL l).2 = true →
    ((gapL l).1 < l.length → gapL (l ++ 10 :: u) = gapL l) ∧ ((gapL l).1 = l.length → gapL (l ++ 10 :: u) = (l.length + 1 + (gapL u).1, (gapL u).2))
  | n, [], u, _, _ => by
    refine ⟨fun h => by simp at h, fun _ => ?_⟩
    rw [List.nil_append, gap10]
    simp
  | 0, _ :: _, _, h, _ => by simp at h
  | n + 1, a :: l, u, h, hg => by
    have hne : a :: l ≠ [] := by simp
    have hsk := skip_app hne u
    cases hs : skip (a :: l) with
    | fail =>
      rw [gapL_fail hs] at hg
      cases hg
    | stop =>
      rw [hs] at hsk
      rw [gapL_stop (hsk (by simp)), gapL_stop hs]
      exact ⟨fun _ => rfl, fun h => by simp at h⟩
    | go m =>
      have hm := skip_go hs
      rw [hs] at hsk
      rw [gapL_go hs] at hg ⊢
      rw [gapL_go (hsk (by simp)), drop_app hm.2]
      have hdl : ((a :: l).drop m).length = (a :: l).length - m := List.length_drop
      obtain ⟨h1, h2⟩ := gap_join n ((a :: l).drop m) u (by rw [hdl]; omega) hg
      have hle := gapL_le _ ((a :: l).drop m) (Nat.le_refl _)
      constructor
      · intro hlt
        dsimp only at hlt
        rw [h1 (by rw [hdl]; omega)]
      · intro he
        dsimp only at he
        rw [h2 (by rw [hdl]; omega), hdl]
        dsimp only
        rw [show m + ((a :: l).length - m + 1 + (gapL u).1) = (a :: l).length + 1 + (gapL u).1 by omega]

def SR.shift (d : Nat) : SR → SR
  | .err e p => .err e (p + d)
  | .ok ws => .ok (ws.map fun x => { x with pos := x.pos + d })
theorem scanF_shift : ∀ (f : Nat) (l : List UInt8) (k d : Nat), scanF f l (k + d) = (scanF f l k).shift d
  | 0, _, _, _ => rfl
  | f + 1, l, k, d => by
    unfold scanF
    split
    · simp only [SR.shift, SR.err.injEq, true_and]; omega
    split
    · rfl
    cases hw : wordR (l.drop (gapL l).1) with
    | err e => simp only [SR.shift, SR.err.injEq, true_and]; omega
    | ok kd t st z =>
      dsimp only
      rw [show k + d + (gapL l).1 + z = k + (gapL l).1 + z + d by omega, scanF_shift f]
      cases scanF f (l.drop ((gapL l).1 + z)) (k + (gapL l).1 + z) with
      | err e p => rfl
      | ok ws =>
        simp only [SR.cons, SR.shift, List.map_cons, SR.ok.injEq, List.cons.injEq, W.mk.injEq, true_and, and_true]
        omega
/-- A gap in front shifts. -/
theorem scanF_gap {m u : List UInt8} {a : Nat} (hd : m.drop a = u) (hg : gapL m = (a + (gapL u).1, (gapL u).2)) (f g k : Nat) (hf : m.length ≤ f) (hg' : u.length ≤ g) : scanF f m k = scanF g u (k + a) := by
  have hdd : m.drop (gapL m).1 = u.drop (gapL u).1 := by rw [hg, ← hd, List.drop_drop]
  have hsz : u.length = m.length - a := by rw [← hd, List.length_drop]
  have h2 : (gapL m).2 = (gapL u).2 := by rw [hg]
  have h1 : (gapL m).1 = a + (gapL u).1 := by rw [hg]
  cases ho : (gapL u).2 with
  | false =>
    rw [scan_fail f k hf (by rw [h2]; exact ho), scan_fail g (k + a) hg' ho, h1, Nat.add_assoc]
  | true =>
    by_cases he : u.drop (gapL u).1 = []
    · rw [scan_done f k (by rw [h2]; exact ho) (by rw [hdd]; exact he), scan_done g (k + a) ho he]
    · cases hw : wordR (u.drop (gapL u).1) with
      | err e => rw [scan_err f k e hf (by rw [h2]; exact ho) (by rw [hdd]; exact he) (by rw [hdd]; exact hw), scan_err g (k + a) e hg' ho he hw, h1, Nat.add_assoc]
      | ok kd t st z =>
        rw [scan_ok f k kd t st z hf (by rw [h2]; exact ho) (by rw [hdd]; exact he) (by rw [hdd]; exact hw), scan_ok g (k + a) kd t st z hg' ho he hw, h1]
        have e1 : m.drop (a + (gapL u).1 + z) = u.drop ((gapL u).1 + z) := by
          rw [← hd, List.drop_drop, Nat.add_assoc]
        rw [e1, show k + (a + (gapL u).1) + z = k + a + (gapL u).1 + z by omega, show k + (a + (gapL u).1) = k + a + (gapL u).1 by omega]
        have := wordR_ok hw
        rw [scanF_fuel f g (u.drop ((gapL u).1 + z)) _ (by rw [List.length_drop]; omega) (by rw [List.length_drop]; omega)]
theorem cons_app (x : W) (ws : List W) (r : SR) : (r.app ws).cons x = r.app (x :: ws) := by cases r <;> rfl
theorem scan_join : ∀ (f g h : Nat) (l u : List UInt8) (k : Nat) (ws : List W), l.length ≤ f → (l ++ 10 :: u).length ≤ g → u.length ≤ h → scanF f l k = .ok ws →
    scanF g (l ++ 10 :: u) k = (scanF h u (k + l.length + 1)).app ws
  | f, g, h, [], u, k, ws, _, hg, hh, hr => by
    rw [scanF_nil] at hr
    injection hr with hr
    subst hr
    rw [SR.app_nil, List.nil_append]
    rw [List.nil_append] at hg
    exact scanF_gap (a := 1) rfl (gap10 u) g h k hg hh
  | 0, _, _, _ :: _, _, _, _, hf, _, _, _ => by simp at hf
  | f + 1, g, h, a :: l, u, k, ws, hf, hg, hh, hr => by
    cases ho : (gapL (a :: l)).2 with
    | false =>
      rw [scan_fail (f + 1) k hf ho] at hr
      cases hr
    | true =>
      obtain ⟨hj1, hj2⟩ := gap_join _ (a :: l) u (Nat.le_refl _) ho
      have hle := gapL_le _ (a :: l) (Nat.le_refl _)
      by_cases he : (a :: l).drop (gapL (a :: l)).1 = []
      · rw [scan_done (f + 1) k ho he] at hr
        injection hr with hr
        subst hr
        rw [SR.app_nil]
        have h1 : (gapL (a :: l)).1 = (a :: l).length := by
          have := congrArg List.length he
          rw [List.length_drop, List.length_nil] at this
          omega
        have h2 := hj2 h1
        refine (scanF_gap (a := (a :: l).length + 1) ?_ h2 g h k hg hh).trans ?_
        · rw [show (a :: l) ++ 10 :: u = ((a :: l) ++ [10]) ++ u by simp]
          rw [show (a :: l).length + 1 = ((a :: l) ++ [10]).length by simp, List.drop_left]
        · rw [← Nat.add_assoc]
      · have hlt : (gapL (a :: l)).1 < (a :: l).length := by
          rcases Nat.lt_or_ge (gapL (a :: l)).1 (a :: l).length with h0 | h0
          · exact h0
          · exact absurd (List.drop_eq_nil_of_le h0) he
        have hgj := hj1 hlt
        cases hw : wordR ((a :: l).drop (gapL (a :: l)).1) with
        | err e =>
          rw [scan_err (f + 1) k e hf ho he hw] at hr
          cases hr
        | ok kd t st z =>
          rw [scan_ok (f + 1) k kd t st z hf ho he hw] at hr
          obtain ⟨ws', hr', rfl⟩ := SR.cons_ok hr
          obtain ⟨z1, z2, _⟩ := wordR_ok hw
          rw [List.length_drop] at z2
          have e1 : ((a :: l) ++ 10 :: u).drop (gapL (a :: l)).1 = (a :: l).drop (gapL (a :: l)).1 ++ 10 :: u := drop_app (by omega) _
          have e2 : ((a :: l) ++ 10 :: u).drop ((gapL (a :: l)).1 + z) = (a :: l).drop ((gapL (a :: l)).1 + z) ++ 10 :: u := drop_app (by omega) _
          have hw2 := wordR_app hw 10 u (by decide) (by decide) (by decide)
          rw [scan_ok g k kd t st z hg (by rw [hgj]; exact ho) (by rw [hgj, e1]; simp) (by rw [hgj, e1]; exact hw2), hgj, e2]
          have hlen : ((a :: l).drop ((gapL (a :: l)).1 + z)).length = (a :: l).length - ((gapL (a :: l)).1 + z) := List.length_drop
          rw [scanF_fuel (f + 1) f _ _ (by rw [hlen]; omega) (by rw [hlen]; omega)] at hr'
          have hg2 : ((a :: l).drop ((gapL (a :: l)).1 + z) ++ 10 :: u).length ≤ g := by
            rw [List.length_append, hlen]
            rw [List.length_append] at hg
            omega
          rw [scan_join f g h _ u _ ws' (by rw [hlen]; omega) hg2 hh hr', hlen, cons_app]
          rw [show k + (gapL (a :: l)).1 + z + ((a :: l).length - ((gapL (a :: l)).1 + z)) + 1 = k + (a :: l).length + 1 by omega]

/-- The words of two texts with the end of a line between. -/
theorem good10 {u : List UInt8} (h : Good u) : Good (10 :: u) := by
  refine (good_iff (by simp)).2 ?_
  rw [decodeL_low _ _ (by decide)]
  exact ⟨by decide, h⟩
theorem scanL_join {l u : List UInt8} {a : List W} (h : scanL l = .ok a) (hG : Good u) (hs : l.length + 1 + u.length ≤ 65536) : scanL (l ++ 10 :: u) = ((scanL u).shift (l.length + 1)).app a := by
  obtain ⟨h1, h2, h3⟩ := scanL_ok h
  have hlen : (l ++ 10 :: u).length = l.length + 1 + u.length := by rw [List.length_append, List.length_cons]; omega
  have hg2 := good_app h2 (good10 hG)
  unfold scanL
  unfold Good at hg2 hG
  rw [if_neg (by omega), if_neg (by rw [hg2]; decide), if_neg (by omega), if_neg (by rw [hG]; decide)]
  rw [scan_join l.length _ u.length l u 0 a (Nat.le_refl _) (Nat.le_refl _) (Nat.le_refl _) h3, Nat.add_assoc, scanF_shift]
/-- Places in it. -/
theorem place_front {l u : List UInt8} {p : Nat} (h : p ≤ l.length) : (l ++ u).take p = l.take p := List.take_append_of_le_length h
theorem place10 (l : List UInt8) : place (l ++ [10]) = ((place l).1 + 1, 1) := by
  unfold place
  rw [List.length_append]
  exact pl_snoc10 _ _ _ _ (Nat.le_refl _)
theorem good_snoc10 {l : List UInt8} (h : Good l) : Good (l ++ [10]) := good_app h (good10 Good.nil)
theorem place_back {l u : List UInt8} {p : Nat} (h : Good l) : place ((l ++ 10 :: u).take (p + l.length + 1)) = ((place (u.take p)).1 + (place l).1, (place (u.take p)).2) := by
  have e : (l ++ 10 :: u).take (p + l.length + 1) = (l ++ [10]) ++ u.take p := by
    rw [show l ++ 10 :: u = (l ++ [10]) ++ u by simp, List.take_append, List.length_append, List.take_of_length_le (by rw [List.length_append, List.length_singleton]; omega)]
    have : p + l.length + 1 - (l.length + ([10] : List UInt8).length) = p := by
      rw [List.length_singleton]; omega
    rw [this]
  have hle := plc_le (u.take p)
  rw [e, plc_join _ _ (good_snoc10 h), place10]
  split
  · rename_i h1
    rw [h1]
    simp only [Prod.mk.injEq]
    omega
  · simp only [Prod.mk.injEq, and_true]
    omega
end Sc
end Go.Proofs.YtokpknjmcegkaaaDoor
