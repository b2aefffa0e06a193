/- What grammars that are like one another tell: a rule more that nothing names; a body turned. Pure lemmas. -/
import Derived.Test.YtmcpemohemeecaaDoorNuP
namespace Go.Proofs.YtmcpemohemeecaaDoor.Nu
open Go Go.RowKit Nd

/-! ### A rule more, behind the others, that nothing names -/

theorem getD_app (e : List Bool) (b : Bool) (i : Nat) (hi : i < e.length) : (e ++ [b]).getD i false = e.getD i false := by
  rw [List.getD_eq_getElem?_getD, List.getD_eq_getElem?_getD, List.getElem?_append_left hi]
theorem sortAt_app (rs : List Rl) (x : Rl) {i : Nat} (hi : i < rs.length) : sortAt (rs ++ [x]) i = sortAt rs i := by
  unfold sortAt
  rw [List.getElem?_append_left hi]
theorem fnd_app (rs : List Rl) (x : Rl) {nm : ByteArray} (h : ¬ x.name.toList = nm.toList) : fnd (rs ++ [x]) nm = fnd rs nm := by
  unfold fnd
  rw [fndF_append]
  simp only [fndF, if_neg h, Option.or_none]
theorem nmd_app (rs : List Rl) (x : Rl) (s k : Int) {nm : ByteArray} (h : ¬ x.name.toList = nm.toList) : nmd (rs ++ [x]) s k nm = nmd rs s k nm := by
  unfold nmd
  rw [fnd_app rs x h]
  cases hf : fnd rs nm with
  | none => rfl
  | some i =>
    dsimp only
    rw [sortAt_app rs x (fnd_lt hf)]
mutual
theorem thr_app (rs : List Rl) (x : Rl) (s : Int) (e : List Bool) (b : Bool) (he : e.length = rs.length) : ∀ t : T, nms x.name t = false → thr (rs ++ [x]) s (e ++ [b]) t = thr rs s e t
  | .mk k n y z u => by
    intro h
    simp only [nms, Bool.or_eq_false_iff, decide_eq_false_iff_not] at h
    have h1 := thrA_app rs x s e b he u h.2
    have h2 := thrO_app rs x s e b he u h.2
    simp only [thr, h1, h2, nmd_app rs x s k (fun q => h.1 q.symm)]
    cases hn : nmd rs s k n with
    | none => rfl
    | some i => simp only [getD_app e b i (by rw [he]; exact nmd_lt hn)]
theorem thrA_app (rs : List Rl) (x : Rl) (s : Int) (e : List Bool) (b : Bool) (he : e.length = rs.length) : ∀ u : List T, nmsL x.name u = false → thrA (rs ++ [x]) s (e ++ [b]) u = thrA rs s e u
  | [] => fun _ => by simp only [thrA]
  | t :: r => by
    intro h
    simp only [nmsL, Bool.or_eq_false_iff] at h
    simp only [thrA, thr_app rs x s e b he t h.1, thrA_app rs x s e b he r h.2]
theorem thrO_app (rs : List Rl) (x : Rl) (s : Int) (e : List Bool) (b : Bool) (he : e.length = rs.length) : ∀ u : List T, nmsL x.name u = false → thrO (rs ++ [x]) s (e ++ [b]) u = thrO rs s e u
  | [] => fun _ => by simp only [thrO]
  | t :: r => by
    intro h
    simp only [nmsL, Bool.or_eq_false_iff] at h
    simp only [thrO, thr_app rs x s e b he t h.1, thrO_app rs x s e b he r h.2]
end
theorem snoc_of {l : List Bool} {n : Nat} (h : l.length = n + 1) : ∃ a b, l = a ++ [b] ∧ a.length = n := by
  have hn : n < l.length := by omega
  refine ⟨l.take n, l[n], ?_, by simp [h]⟩
  have h1 : l.drop n = [l[n]] := by rw [List.drop_eq_getElem_cons hn, List.drop_eq_nil_of_le (by omega)]
  have h2 := List.take_append_drop n l
  rw [h1] at h2
  exact h2.symm
/-- A rule that may always be empty, and that nothing names, changes nothing of the others. -/
theorem emp_app (rs : List Rl) (x : Rl) (hx : ∀ e, thr (rs ++ [x]) x.sort e x.body = true) (hn : ∀ r ∈ rs, nms x.name r.body = false) : emp (rs ++ [x]) = emp rs ++ [true] := by
  have hl := emp_len (rs ++ [x])
  rw [List.length_append, List.length_singleton] at hl
  obtain ⟨a, b, he, ha⟩ := snoc_of hl
  obtain ⟨f1, f2, f3⟩ := emp_spec (rs ++ [x])
  obtain ⟨g1, g2, g3⟩ := emp_spec rs
  have gl := emp_len rs
  have hb : b = true := by
    have := f2 rs.length x (by rw [List.getElem?_append_right (Nat.le_refl _), Nat.sub_self]; rfl) (hx _)
    rw [he, List.getD_eq_getElem?_getD, List.getElem?_append_right (by omega), ha, Nat.sub_self] at this
    exact this
  subst hb
  have ca : Closed rs a := fun i r hr ht => by
    have hi := (List.getElem?_eq_some_iff.1 hr).1
    have := f2 i r (by rw [List.getElem?_append_left hi]; exact hr) (by rw [he, thr_app rs x r.sort a true ha r.body (hn r (List.mem_of_getElem? hr))]; exact ht)
    rw [he, getD_app a true i (by omega)] at this
    exact this
  have cb : Closed (rs ++ [x]) (emp rs ++ [true]) := fun i r hr ht => by
    by_cases hi : i < rs.length
    · rw [List.getElem?_append_left hi] at hr
      rw [thr_app rs x r.sort (emp rs) true gl r.body (hn r (List.mem_of_getElem? hr))] at ht
      rw [getD_app (emp rs) true i (by omega)]
      exact g2 i r hr ht
    · have hi2 := (List.getElem?_eq_some_iff.1 hr).1
      rw [List.length_append, List.length_singleton] at hi2
      obtain rfl : i = rs.length := by omega
      rw [List.getD_eq_getElem?_getD, List.getElem?_append_right (by omega), gl, Nat.sub_self]
      rfl
  have k1 := g3 a ca
  have k2 := f3 _ cb
  rw [he] at k2 ⊢
  have : a = emp rs := le_len (by omega) (fun i hi => by
    have hia : i < a.length := by
      by_cases h : i < a.length
      · exact h
      · rw [List.getD_eq_getElem?_getD, List.getElem?_eq_none (by omega)] at hi; cases hi
    have := k2 i (by rw [getD_app a true i hia]; exact hi)
    rw [getD_app (emp rs) true i (by omega)] at this
    exact this) k1
  rw [this]

/-! ### A body turned -/

/-- Rules of which one has another body. -/
def turn (rs : List Rl) (i : Nat) (b : T) : List Rl := match rs[i]? with
  | some r => rs.set i { r with body := b }
  | none => rs
theorem turn_len (rs : List Rl) (i : Nat) (b : T) : (turn rs i b).length = rs.length := by unfold turn; split <;> simp
theorem turn_at (rs : List Rl) {i : Nat} {r : Rl} (hr : rs[i]? = some r) (b : T) : (turn rs i b)[i]? = some { r with body := b } := by
  unfold turn
  rw [hr]
  exact List.getElem?_set_self (List.getElem?_eq_some_iff.1 hr).1
theorem turn_other (rs : List Rl) (i k : Nat) (b : T) (h : i ≠ k) : (turn rs i b)[k]? = rs[k]? := by
  unfold turn
  split
  · rw [List.getElem?_set_ne h]
  · rfl
theorem fndF_map (nm : ByteArray) : ∀ (a b : List Rl) (k : Nat), a.map (·.name) = b.map (·.name) → fndF nm k a = fndF nm k b
  | [], [], _, _ => rfl
  | [], _ :: _, _, h => by simp at h
  | _ :: _, [], _, h => by simp at h
  | x :: a, y :: b, k, h => by
    simp only [List.map_cons, List.cons.injEq] at h
    simp only [fndF, h.1, fndF_map nm a b (k + 1) h.2]
theorem turn_names (rs : List Rl) (i : Nat) (b : T) : (turn rs i b).map (·.name) = rs.map (·.name) := by
  unfold turn
  split
  · rename_i r hr
    rw [List.map_set]
    apply List.ext_getElem?
    intro k
    rw [List.getElem?_set]
    split
    · rename_i h; subst h
      split
      · rw [List.getElem?_map, hr]; rfl
      · rename_i h2; rw [List.getElem?_eq_none (by omega)]
    · rfl
  · rfl
theorem turn_sort (rs : List Rl) (i : Nat) (b : T) (k : Nat) : sortAt (turn rs i b) k = sortAt rs k := by
  unfold sortAt
  by_cases h : i = k
  · subst h
    cases hr : rs[i]? with
    | none => unfold turn; rw [hr]; dsimp only; rw [hr]
    | some r => rw [turn_at rs hr b]
  · rw [turn_other rs i k b h]
theorem turn_nmd (rs : List Rl) (i : Nat) (b : T) (s k : Int) (nm : ByteArray) : nmd (turn rs i b) s k nm = nmd rs s k nm := by
  unfold nmd fnd
  rw [fndF_map nm _ _ 0 (turn_names rs i b)]
  simp only [turn_sort]
mutual
theorem turn_thr (rs : List Rl) (i : Nat) (b : T) (s : Int) (e : List Bool) : ∀ t : T, thr (turn rs i b) s e t = thr rs s e t
  | .mk k n y z u => by simp only [thr, turn_thrA rs i b s e u, turn_thrO rs i b s e u, turn_nmd]
theorem turn_thrA (rs : List Rl) (i : Nat) (b : T) (s : Int) (e : List Bool) : ∀ u : List T, thrA (turn rs i b) s e u = thrA rs s e u
  | [] => by simp only [thrA]
  | t :: r => by simp only [thrA, turn_thr rs i b s e t, turn_thrA rs i b s e r]
theorem turn_thrO (rs : List Rl) (i : Nat) (b : T) (s : Int) (e : List Bool) : ∀ u : List T, thrO (turn rs i b) s e u = thrO rs s e u
  | [] => by simp only [thrO]
  | t :: r => by simp only [thrO, turn_thr rs i b s e t, turn_thrO rs i b s e r]
end
/-- With a body that may be empty, all that might may. -/
theorem turn_more (rs : List Rl) {i : Nat} {r : Rl} (hr : rs[i]? = some r) (b : T) (hb : ∀ e, thr rs r.sort e b = true) : (emp (turn rs i b)).getD i false = true ∧ Le (emp rs) (emp (turn rs i b)) := by
  obtain ⟨f1, f2, _⟩ := emp_spec (turn rs i b)
  obtain ⟨_, _, g3⟩ := emp_spec rs
  have hi : (emp (turn rs i b)).getD i false = true := f2 i _ (turn_at rs hr b) (by rw [turn_thr]; exact hb _)
  refine ⟨hi, g3 _ fun k q hq ht => ?_⟩
  by_cases h : i = k
  · subst h; exact hi
  · exact f2 k q (by rw [turn_other rs i k b h]; exact hq) (by rw [turn_thr]; exact ht)
/-- With a body that may not be empty, it may not, and no more may. -/
theorem turn_less (rs : List Rl) {i : Nat} {r : Rl} (hr : rs[i]? = some r) (b : T) (hb : ∀ e, thr rs r.sort e b = false) : (emp (turn rs i b)).getD i false = false ∧ Le (emp (turn rs i b)) (emp rs) := by
  obtain ⟨f1, f2, f3⟩ := emp_spec (turn rs i b)
  obtain ⟨_, g2, _⟩ := emp_spec rs
  refine ⟨?_, f3 _ fun k q hq ht => ?_⟩
  · cases h : (emp (turn rs i b)).getD i false with
    | false => rfl
    | true =>
      have := f1 i _ (turn_at rs hr b) h
      rw [turn_thr, hb] at this
      cases this
  · by_cases h : i = k
    · subst h
      rw [turn_at rs hr b] at hq
      injection hq with hq
      subst hq
      rw [turn_thr, hb] at ht
      cases ht
    · rw [turn_other rs i k b h] at hq
      rw [turn_thr] at ht
      exact g2 k q hq ht
theorem turn_stp (rs : List Rl) {i : Nat} {r : Rl} (hr : rs[i]? = some r) (b : T) (hb : ∀ e, rch (turn rs i b) r.sort e b = []) : (stp (turn rs i b)).getD i [] = [] := by
  unfold stp
  rw [List.getD_eq_getElem?_getD, List.getElem?_map, turn_at rs hr b]
  exact hb _
end Go.Proofs.YtmcpemohemeecaaDoor.Nu
