/- LexersWhole: what its loops look at, pure and in memory. -/
import Derived.Test.YtagbpkabfjnplaaDoorLxR
import Derived.Laws.CopyOwn
namespace Go.Proofs.YtagbpkabfjnplaaDoor
open Go Go.RowKit Rn Lx
set_option maxRecDepth 100000

namespace Lx
/-- What is kept. -/
def kp (sm : List Bool) (q : Int × Nat × Nat) : Bool := !(sm.getD q.1.toNat false)
def mapR (sm : List Bool) : TkR → TkR
  | .ok l => .ok (l.filter (kp sm))
  | .bad e q => .bad e q
theorem fal_get (k : Nat) : fal.getD k false = false := by
  unfold fal
  rw [List.getD_eq_getElem?_getD, List.getElem?_replicate]
  split <;> rfl
theorem tokF_map (t : Tb) (sm : List Bool) (s : List UInt8) : ∀ (f p : Nat) (acc : List (Int × Nat × Nat)), acc.length + (s.length - p) < 16384 → tokF t sm s f p (acc.filter (kp sm)) = mapR sm (tokF t fal s f p acc)
  | 0, p, acc, _ => rfl
  | f + 1, p, acc, h => by
    simp only [tokF]
    by_cases hp : s.length ≤ p
    · rw [if_pos hp, if_pos hp]; rfl
    rw [if_neg hp, if_neg hp]
    by_cases hk : (lon t (s.drop p)).1 < 0
    · rw [if_pos hk, if_pos hk]; rfl
    have hps := lon_pos hk
    rw [if_neg hk, if_neg hk, if_neg (show ¬ fal.getD (lon t (s.drop p)).1.toNat false = true by rw [fal_get]; simp), if_neg (show ¬ acc.length = 16384 by omega)]
    have ih := tokF_map t sm s f (p + (lon t (s.drop p)).2) (acc ++ [((lon t (s.drop p)).1, p, (lon t (s.drop p)).2)]) (by rw [List.length_append, List.length_singleton]; omega)
    rw [List.filter_append] at ih
    have hfl := List.length_filter_le (kp sm) acc
    by_cases hd : sm.getD (lon t (s.drop p)).1.toNat false = true
    · rw [if_pos hd]
      rw [show List.filter (kp sm) [((lon t (s.drop p)).1, p, (lon t (s.drop p)).2)] = [] from by rw [List.filter_cons_of_neg (by unfold kp; rw [hd]; simp), List.filter_nil], List.append_nil] at ih
      exact ih
    · rw [if_neg hd, if_neg (show ¬ (acc.filter (kp sm)).length = 16384 by omega)]
      rw [show List.filter (kp sm) [((lon t (s.drop p)).1, p, (lon t (s.drop p)).2)] = [((lon t (s.drop p)).1, p, (lon t (s.drop p)).2)] from by rw [List.filter_cons_of_pos (by simp only [kp]; simpa using hd), List.filter_nil]] at ih
      exact ih
theorem tok_map (t : Tb) (sm : List Bool) (s : List UInt8) (h : s.length ≤ 100) : tok t sm s = mapR sm (tok t fal s) := by
  unfold tok
  rw [if_neg (by omega), if_neg (by omega)]
  exact tokF_map t sm s s.length 0 [] (by simp; omega)
/-- What is wrong with a short text. -/
theorem tokF_err (t : Tb) (s : List UInt8) : ∀ (f p : Nat) (acc : List (Int × Nat × Nat)) (e : Int) (q : Nat), acc.length + (s.length - p) < 16384 → tokF t fal s f p acc = .bad e q → e = 9 ∧ q < s.length ∧ lon t (s.drop q) = (-1, 0)
  | 0, p, acc, e, q, _, h => by simp [tokF] at h
  | f + 1, p, acc, e, q, hl, h => by
    simp only [tokF] at h
    split at h
    · cases h
    next hp =>
    split at h
    · next hk =>
      injection h with h1 h2
      subst h1 h2
      exact ⟨rfl, by omega, lon_neg hk⟩
    next hk =>
    have hps := lon_pos hk
    rw [if_neg (by rw [fal_get]; simp), if_neg (by omega)] at h
    exact tokF_err t s f _ _ e q (by rw [List.length_append, List.length_singleton]; omega) h
theorem tok_err {t : Tb} {s : List UInt8} {e : Int} {q : Nat} (h : s.length ≤ 100) (hr : tok t fal s = .bad e q) : e = 9 ∧ q < s.length ∧ lon t (s.drop q) = (-1, 0) := by
  unfold tok at hr
  rw [if_neg (by omega)] at hr
  exact tokF_err t s s.length 0 [] e q (by simp; omega) hr
/-- Tokens one behind the other. -/
def Ch (t : Tb) (s : List UInt8) : Nat → List (Int × Nat × Nat) → Prop
  | p, [] => p = s.length
  | p, q :: l => q.2.1 = p ∧ lon t (s.drop p) = (q.1, q.2.2) ∧ 0 ≤ q.1 ∧ p < s.length ∧ p + q.2.2 ≤ s.length ∧ 0 < q.2.2 ∧ Ch t s (p + q.2.2) l
theorem tokF_ch (t : Tb) (s : List UInt8) : ∀ (f p : Nat) (acc l : List (Int × Nat × Nat)), p ≤ s.length → s.length - p ≤ f → tokF t fal s f p acc = .ok l → ∃ l', l = acc ++ l' ∧ Ch t s p l'
  | 0, p, acc, l, hp, hf, h => by
    simp only [tokF, TkR.ok.injEq] at h
    subst h
    exact ⟨[], by simp, by show p = s.length; omega⟩
  | f + 1, p, acc, l, hp, hf, h => by
    simp only [tokF] at h
    split at h
    · next hp2 =>
      injection h with h
      subst h
      exact ⟨[], by simp, by show p = s.length; omega⟩
    next hp2 =>
    split at h
    · cases h
    next hk =>
    have hps := lon_pos hk
    rw [List.length_drop] at hps
    rw [if_neg (by rw [fal_get]; simp)] at h
    split at h
    · cases h
    obtain ⟨l', h1, h2⟩ := tokF_ch t s f (p + (lon t (s.drop p)).2) _ l (by omega) (by omega) h
    refine ⟨_ :: l', by rw [h1, List.append_assoc]; rfl, rfl, rfl, Int.not_lt.1 hk, by omega, (by have := hps.2; show p + (lon t (s.drop p)).2 ≤ s.length; omega), hps.1, h2⟩
theorem tok_ch {t : Tb} {s : List UInt8} {l : List (Int × Nat × Nat)} (hr : tok t fal s = .ok l) : Ch t s 0 l := by
  unfold tok at hr
  split at hr
  · cases hr
  · obtain ⟨l', h1, h2⟩ := tokF_ch t s s.length 0 [] l (Nat.zero_le _) (by omega) hr
    rw [List.nil_append] at h1
    rw [h1]; exact h2
theorem Ch.len {t : Tb} {s : List UInt8} : ∀ {l : List (Int × Nat × Nat)} {p : Nat}, Ch t s p l → l.length + p ≤ s.length
  | [], p, h => by have : p = s.length := h; simp; omega
  | q :: l, p, ⟨_, _, _, _, _, h6, h7⟩ => by have := Ch.len h7; rw [List.length_cons]; omega
theorem Ch.kind {t : Tb} (hm : May t) {s : List UInt8} {p : Nat} {q : Int × Nat × Nat} {l : List (Int × Nat × Nat)} (h : Ch t s p (q :: l)) : q.1 ∈ t.es := by
  obtain ⟨_, h2, h3, _⟩ := h
  have := lon_mem hm (l := s.drop p) (by rw [h2]; omega)
  rw [h2] at this
  exact this
/-- The state behind a token's text, and behind longer ones. -/
theorem Ch.state {t : Tb} {s : List UInt8} {p : Nat} {q : Int × Nat × Nat} {l : List (Int × Nat × Nat)} (h : Ch t s p (q :: l)) :
    (∀ g, q.2.2 ≤ g → 0 ≤ stF t g 0 ((s.drop p).take q.2.2) ∧ t.es.getD (stF t g 0 ((s.drop p).take q.2.2)).toNat 0 = q.1) ∧ ∀ m g, q.2.2 < m → p + m ≤ s.length → m ≤ g → ¬ Endd t (stF t g 0 ((s.drop p).take m)) := by
  obtain ⟨h1, h2, h3, h4, h5, h6, _⟩ := h
  rcases lon_spec t (s.drop p) with ⟨e, _⟩ | ⟨a, b, c, d, f⟩
  · rw [h2] at e
    injection e with e _
    omega
  · rw [h2] at a b c d f
    dsimp only at a b c d f
    refine ⟨c, fun m g g1 g2 g3 => f m g g1 (by rw [List.length_drop]; omega) g3⟩
theorem stF_in {t : Tb} (h : May t) : ∀ (f : Nat) (st : Int) (l : List UInt8), st < t.ns.length → stF t f st l < t.ns.length
  | 0, st, l, hs => hs
  | f + 1, st, l, hs => by
    simp only [stF]
    split
    · exact hs
    next hn =>
    split
    · have := h.n0; omega
    · exact stF_in h f _ _ (h.stp_in (by rcases Int.lt_or_le st 0 with k | k; exact absurd (.inr k) hn; exact k) hs).2
/-! ### In memory -/
theorem tkV_get (s : ByteArray) : ∀ (l : List (Int × Nat × Nat)) (i : Nat) (q : Int × Nat × Nat), l[i]? = some q → (tkV s l)[i * 3]? = some (.int .i64 q.1) ∧ (tkV s l)[i * 3 + 1]? = some (.string (s.extract q.2.1 (q.2.1 + q.2.2))) ∧ (tkV s l)[i * 3 + 2]? = some (.int .i64 q.2.1)
  | [], i, q, h => by simp at h
  | r :: l, 0, q, h => by
    simp only [List.getElem?_cons_zero, Option.some.injEq] at h
    subst h
    exact ⟨rfl, rfl, rfl⟩
  | r :: l, i + 1, q, h => by
    have := tkV_get s l i q (by simpa using h)
    rw [show tkV s (r :: l) = .int .i64 r.1 :: .string (s.extract r.2.1 (r.2.1 + r.2.2)) :: .int .i64 r.2.1 :: tkV s l from rfl, show (i + 1) * 3 = i * 3 + 1 + 1 + 1 by omega]
    simpa using this
/-- Tokens at a. -/
def TkA (w : World) (a : Option Addr) (s : ByteArray) (l : List (Int × Nat × Nat)) : Prop :=
  ∀ i q, l[i]? = some q → ∃ g, a = some ⟨g, 0, none⟩ ∧ w.cell? ⟨g, i * 3, none⟩ = some (.int .i64 q.1) ∧ w.cell? ⟨g, i * 3 + 1, none⟩ = some (.string (s.extract q.2.1 (q.2.1 + q.2.2))) ∧ w.cell? ⟨g, i * 3 + 2, none⟩ = some (.int .i64 q.2.1)
theorem TkA.below {w w' : World} {a : Option Addr} {s : ByteArray} {l : List (Int × Nat × Nat)} (h : TkA w a s l) (hb : Below w.heap.size w w') : TkA w' a s l := fun i q hq => by
  obtain ⟨g, e, h1, h2, h3⟩ := h i q hq
  exact ⟨g, e, Nd.cell_keeps hb h1, Nd.cell_keeps hb h2, Nd.cell_keeps hb h3⟩
theorem own_tka {w : World} {t : TypeId} {B : Nat} {a : Option Addr} {c : Nat} {s : ByteArray} {l : List (Int × Nat × Nat)} (h : OwnV w t B (.slice a l.length c) l.length (tkV s l)) : TkA w a s l := fun i q hq => by
  obtain ⟨a', c', e, _, h3⟩ := h.cells
  injection e with e1 _ _
  subst e1
  obtain ⟨x, y, z⟩ := tkV_get s l i q hq
  obtain ⟨g, rfl, h4⟩ := h3 _ _ x
  obtain ⟨g', e', h5⟩ := h3 _ _ y
  injection e' with e'
  injection e' with e'
  subst e'
  obtain ⟨g', e', h6⟩ := h3 _ _ z
  injection e' with e'
  injection e' with e'
  subst e'
  rw [Nat.zero_add] at h4 h5 h6
  exact ⟨g, rfl, h4, h5, h6⟩
/-- The row of falses with booleans copied into it. -/
def cpB (dr : List Bool) : List Bool := dr.take 100 ++ fal.drop (dr.take 100).length
theorem cpB_len (dr : List Bool) : (cpB dr).length = 100 := by
  unfold cpB
  rw [List.length_append, List.length_drop, fal_len, List.length_take]
  omega
theorem cpB_splice (dr : List Bool) : splice (fal.map Value.bool) 0 ((dr.take 100).map Value.bool) = (cpB dr).map Value.bool := by
  unfold splice cpB
  simp [List.map_drop]
theorem bv_of {w : World} {b : Nat} {l : List Bool} (h : Bk w b 4 (bos l)) : BV w (.slice (some ⟨b, 0, none⟩) l.length l.length) l :=
  ⟨_, _, rfl, Nat.le_refl _, fun i x hx => ⟨b, 0, rfl, by
    have hi := (List.getElem?_eq_some_iff.1 hx).1
    rw [h.cell, Nat.zero_add, bos_get hi, List.getD_eq_getElem?_getD, hx]; rfl⟩⟩
theorem new_len {t : Tb} (hm : mayB t = true) {n : Nat} (hn : n = 100) (h : ∀ x ∈ t.es, x ≤ 99) : newB t n = true := by
  subst hn
  have := new_fal hm h
  rwa [fal_len] at this
theorem ext_data (s : ByteArray) (a b : Nat) : (s.extract a b).data.toList = (s.data.toList.drop a).take (b - a) := by
  rw [Lib.extract_data]
theorem ext_app (s : ByteArray) (p n : Nat) (h : p + n ≤ s.size) : s.extract 0 p ++ s.extract p (p + n) = s.extract 0 (p + n) := by
  apply ByteArray.ext
  apply Array.ext'
  have h2 : s.data.toList.length = s.size := (Lib.size_eq s).symm
  rw [ByteArray.data_append, Array.toList_append, ext_data, ext_data, ext_data, List.drop_zero, Nat.sub_zero, Nat.sub_zero, Nat.add_sub_cancel_left, List.take_add]
end Lx
end Go.Proofs.YtagbpkabfjnplaaDoor
