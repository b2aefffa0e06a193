/- Checks: what follows where nothing is wrong: the rules may be put in an order. Nothing of the program's code stands here. Checks: the short grammar tells of a rule's nodes what the whole one does; what is so where nothing is wrong. Nothing of the program's code stands here. -/
import Derived.Test.YtmcpemohemeecaaDoorCkM
namespace Go.Proofs.YtmcpemohemeecaaDoor.Ck
open Go Go.RowKit Nd Nu

/-! ### Reaching -/

theorem lack_rep (n : Nat) : lack (List.replicate n false) ≤ n := by have := lack_le (List.replicate n false); simpa using this
theorem rea_step (rs : List Rl) {i x : Nat} (hi : i < rs.length) (hx : x ∈ (stp rs).getD i []) : reaAt rs i x = true := by
  unfold reaAt
  rw [rea_at rs hi]
  exact (spr_spec (stp rs) rs.length ((stp rs).getD i []) (List.replicate rs.length false) (lack_rep _) (by simpa using stp_lt rs i) (fun t x hx => by simpa using stp_lt rs t x hx)).1 x hx
theorem rea_ind (rs : List Rl) {i : Nat} (hi : i < rs.length) (P : Nat → Prop) (h0 : ∀ x ∈ (stp rs).getD i [], P x) (h1 : ∀ t, P t → ∀ x ∈ (stp rs).getD t [], P x) (k : Nat) (hk : reaAt rs i k = true) : P k := by
  classical
  unfold reaAt at hk
  rw [rea_at rs hi] at hk
  have b3 := (spr_spec (stp rs) rs.length ((stp rs).getD i []) (List.replicate rs.length false) (lack_rep _) (by simpa using stp_lt rs i) (fun t x hx => by simpa using stp_lt rs t x hx)).2.2
  have hE : ∀ t : Nat, ((List.range rs.length).map fun t => decide (P t)).getD t false = true ↔ t < rs.length ∧ P t := by
    intro t
    rw [List.getD_eq_getElem?_getD, List.getElem?_map]
    by_cases ht : t < rs.length
    · rw [List.getElem?_range ht]; simp [ht]
    · rw [List.getElem?_eq_none (by simpa using ht)]; simp [ht]
  have := b3 ((List.range rs.length).map fun t => decide (P t)) (fun j hj => by rw [getD_rep] at hj; cases hj) (fun x hx => (hE x).2 ⟨stp_lt rs i x hx, h0 x hx⟩)
    (fun t ht x hx => (hE x).2 ⟨stp_lt rs t x hx, h1 t ((hE t).1 ht).2 x hx⟩) k hk
  exact ((hE k).1 this).2
theorem rea_lt (rs : List Rl) {i k : Nat} (hi : i < rs.length) (h : reaAt rs i k = true) : k < rs.length := rea_ind rs hi (fun k => k < rs.length) (stp_lt rs i) (fun t _ => stp_lt rs t) k h

/-! ### An order -/

/-- Is the i-th one ready: not done, and all that it reaches done? -/
def rdy (R : Nat → Nat → Bool) (n i : Nat) (d : List Bool) : Bool := !d.getD i false && (List.range n).all fun k => !R i k || d.getD k false
def sweepF (R : Nat → Nat → Bool) (n : Nat) (st : List Bool × Int) (i : Nat) : List Bool × Int := if rdy R n i st.1 then (st.1.set i true, st.2 - 1) else st
def sweepTo (R : Nat → Nat → Bool) (n p : Nat) (st : List Bool × Int) : List Bool × Int := (List.range p).foldl (sweepF R n) st
def orderTo (R : Nat → Nat → Bool) (n m : Nat) : List Bool × Int := (List.range m).foldl (fun st _ => sweepTo R n n st) (List.replicate n false, (n : Int))
theorem sweep_succ (R : Nat → Nat → Bool) (n p : Nat) (st : List Bool × Int) : sweepTo R n (p + 1) st = sweepF R n (sweepTo R n p st) p := by simp [sweepTo, List.range_succ]
theorem order_succ (R : Nat → Nat → Bool) (n m : Nat) : orderTo R n (m + 1) = sweepTo R n n (orderTo R n m) := by simp [orderTo, List.range_succ]
/-- What holds all along: as many as are told are left. -/
def Fair (n : Nat) (st : List Bool × Int) : Prop := st.1.length = n ∧ st.2 = (lack st.1 : Int)
theorem sweepF_fair {R : Nat → Nat → Bool} {n i : Nat} {st : List Bool × Int} (hi : i < n) (h : Fair n st) : Fair n (sweepF R n st i) ∧ Le st.1 (sweepF R n st i).1 := by
  unfold sweepF
  split
  · rename_i hr
    have h0 : st.1.getD i false = false := by
      unfold rdy at hr
      rw [Bool.and_eq_true] at hr
      simpa using hr.1
    have := lack_set st.1 i (by rw [h.1]; exact hi) h0
    exact ⟨⟨by simp [h.1], by rw [h.2]; dsimp only; omega⟩, Le.set _ _⟩
  · exact ⟨h, Le.refl _⟩
theorem sweep_fair {R : Nat → Nat → Bool} {n : Nat} {st : List Bool × Int} (h : Fair n st) : ∀ p, p ≤ n → Fair n (sweepTo R n p st) ∧ Le st.1 (sweepTo R n p st).1
  | 0, _ => ⟨h, Le.refl _⟩
  | p + 1, hp => by
    have h1 := sweep_fair (R := R) h p (by omega)
    have h2 := sweepF_fair (R := R) (show p < n by omega) h1.1
    rw [sweep_succ]
    exact ⟨h2.1, h1.2.trans h2.2⟩
theorem sweep_le {R : Nat → Nat → Bool} {n : Nat} {st : List Bool × Int} (h : Fair n st) {p q : Nat} (hpq : p ≤ q) (hq : q ≤ n) : Le (sweepTo R n p st).1 (sweepTo R n q st).1 := by
  induction q with
  | zero => obtain rfl : p = 0 := by omega
            exact Le.refl _
  | succ q ih =>
    rcases Nat.lt_or_ge p (q + 1) with hlt | hge
    · rw [sweep_succ]
      exact (ih (by omega) (by omega)).trans (sweepF_fair (R := R) (show q < n by omega) (sweep_fair (R := R) h q (by omega)).1).2
    · obtain rfl : p = q + 1 := by omega
      exact Le.refl _
theorem count_lt {p q : Nat → Bool} : ∀ (l : List Nat), (∀ x ∈ l, p x = true → q x = true) → (∃ x ∈ l, q x = true ∧ p x = false) → (l.filter p).length < (l.filter q).length
  | [], _, ⟨x, hx, _⟩ => by simp at hx
  | y :: l, h1, h2 => by
    have hle : ∀ l : List Nat, (∀ x ∈ l, p x = true → q x = true) → (l.filter p).length ≤ (l.filter q).length := by
      intro l
      induction l with
      | nil => simp
      | cons z l ih =>
        intro h
        have h3 := ih fun x hx => h x (by simp [hx])
        have h4 := h z (by simp)
        simp only [List.filter_cons]
        cases hp : p z <;> cases hq : q z <;> simp [hp, hq] at h4 ⊢ <;> omega
    have h3 := hle l fun x hx => h1 x (by simp [hx])
    have h4 := h1 y (by simp)
    obtain ⟨x, hx, hq, hp⟩ := h2
    simp only [List.filter_cons]
    rcases List.mem_cons.1 hx with rfl | hx
    · simp [hq, hp]; omega
    · have h5 := count_lt l (fun x hx => h1 x (by simp [hx])) ⟨x, hx, hq, hp⟩
      cases hp : p y <;> cases hq : q y <;> simp [hp, hq] at h4 ⊢ <;> omega
/-- Of those that are not done one reaches none such. -/
theorem least {R : Nat → Nat → Bool} {n : Nat} (irr : ∀ i, i < n → R i i = false) (tr : ∀ i k j, i < n → k < n → R i k = true → R k j = true → R i j = true) (d : List Bool) :
    ∀ (m i : Nat), ((List.range n).filter (R i)).length ≤ m → i < n → d.getD i false = false → ∃ j, j < n ∧ d.getD j false = false ∧ ∀ k, k < n → R j k = true → d.getD k false = true
  | m, i, hm, hi, hd => by
    by_cases h : ∀ k, k < n → R i k = true → d.getD k false = true
    · exact ⟨i, hi, hd, h⟩
    · simp only [Classical.not_forall] at h
      obtain ⟨k, hk, hR, hdk⟩ := h
      have hlt : ((List.range n).filter (R k)).length < ((List.range n).filter (R i)).length :=
        count_lt _ (fun x _ hx => tr i k x hi hk hR hx) ⟨k, List.mem_range.2 hk, hR, irr k hk⟩
      exact least irr tr d (m - 1) k (by omega) hk (by simpa using hdk)
  termination_by _m i => ((List.range n).filter (R i)).length
  decreasing_by exact hlt
theorem some_undone : ∀ (d : List Bool), 0 < lack d → ∃ i, i < d.length ∧ d.getD i false = false
  | [], h => by simp [lack] at h
  | false :: l, _ => ⟨0, by simp, rfl⟩
  | true :: l, h => by
    obtain ⟨i, h1, h2⟩ := some_undone l (by simpa [lack] using h)
    exact ⟨i + 1, by simpa using h1, by simpa using h2⟩
theorem lack_lt : ∀ (a b : List Bool) (i : Nat), a.length = b.length → Le a b → i < a.length → a.getD i false = false → b.getD i false = true → lack b < lack a
  | [], _, _, _, _, h, _, _ => by simp at h
  | x :: a, [], _, h, _, _, _, _ => by simp at h
  | x :: a, y :: b, 0, h, hl, _, h1, h2 => by
    have := lack_mono a b (by simpa using h) (fun i hi => by simpa using hl (i + 1) (by simpa using hi))
    simp at h1 h2
    subst h1 h2
    simp [lack]; omega
  | x :: a, y :: b, i + 1, h, hl, hi, h1, h2 => by
    have := lack_lt a b i (by simpa using h) (fun i hi => by simpa using hl (i + 1) (by simpa using hi)) (by simpa using hi) (by simpa using h1) (by simpa using h2)
    have h0 := hl 0
    simp at h0
    simp only [lack]
    cases x <;> cases y <;> simp at h0 ⊢ <;> omega
theorem sweep_more {R : Nat → Nat → Bool} {n : Nat} (irr : ∀ i, i < n → R i i = false) (tr : ∀ i k j, i < n → k < n → R i k = true → R k j = true → R i j = true) {st : List Bool × Int} (h : Fair n st) (h0 : 0 < lack st.1) :
    lack (sweepTo R n n st).1 < lack st.1 := by
  obtain ⟨i, hi, hd⟩ := some_undone st.1 h0
  rw [h.1] at hi
  obtain ⟨j, hj, hdj, hR⟩ := least irr tr st.1 _ i (Nat.le_refl _) hi hd
  have hf := sweep_fair (R := R) h n (Nat.le_refl _)
  refine lack_lt _ _ j (by rw [h.1, hf.1.1]) hf.2 (by rw [h.1]; exact hj) hdj ?_
  have h1 := sweep_fair (R := R) h j (by omega)
  refine sweep_le (R := R) h (show j + 1 ≤ n by omega) (Nat.le_refl _) j ?_
  rw [sweep_succ]
  unfold sweepF
  cases hdone : (sweepTo R n j st).1.getD j false with
  | true =>
    split
    · exact Le.set _ _ j hdone
    · exact hdone
  | false =>
    have hr : rdy R n j (sweepTo R n j st).1 = true := by
      unfold rdy
      rw [hdone]
      simp only [Bool.not_false, Bool.true_and, List.all_eq_true, List.mem_range, Bool.or_eq_true, Bool.not_eq_true']
      intro k hk
      cases hjk : R j k with
      | false => exact .inl rfl
      | true => exact .inr (h1.2 k (hR k hk hjk))
    rw [if_pos hr]
    rw [getD_set _ _ _ _ (by rw [h1.1.1]; exact hj), if_pos rfl]
theorem order_fair {R : Nat → Nat → Bool} {n : Nat} : ∀ m, Fair n (orderTo R n m)
  | 0 => by
    refine ⟨by simp [orderTo], ?_⟩
    have : ∀ n, lack (List.replicate n false) = n := fun n => by
      induction n with
      | zero => rfl
      | succ n ih => rw [List.replicate_succ]; simp only [lack]; rw [ih]; simp; omega
    simp [orderTo, this]
  | m + 1 => by rw [order_succ]; exact (sweep_fair (order_fair m) n (Nat.le_refl _)).1
theorem order_most {R : Nat → Nat → Bool} {n : Nat} (irr : ∀ i, i < n → R i i = false) (tr : ∀ i k j, i < n → k < n → R i k = true → R k j = true → R i j = true) : ∀ m, lack (orderTo R n m).1 + m ≤ n ∨ lack (orderTo R n m).1 = 0
  | 0 => .inl (by have := lack_rep n; simpa [orderTo] using this)
  | m + 1 => by
    have hf := order_fair (R := R) (n := n) m
    have hle := lack_mono (orderTo R n m).1 (orderTo R n (m + 1)).1 (by rw [hf.1, (order_fair (R := R) (n := n) (m + 1)).1]) (by rw [order_succ]; exact (sweep_fair hf n (Nat.le_refl _)).2)
    rcases Nat.eq_zero_or_pos (lack (orderTo R n m).1) with h0 | h0
    · exact .inr (by omega)
    · have := sweep_more irr tr hf h0
      rw [← order_succ] at this
      rcases order_most irr tr m with h | h
      · exact .inl (by omega)
      · omega
/-- Where none comes back to itself all may be put in an order. -/
theorem order_all {R : Nat → Nat → Bool} {n : Nat} (irr : ∀ i, i < n → R i i = false) (tr : ∀ i k j, i < n → k < n → R i k = true → R k j = true → R i j = true) : (orderTo R n n).2 = 0 := by
  have h := (order_fair (R := R) (n := n) n).2
  rcases order_most irr tr n with h1 | h1 <;> rw [h] <;> omega
end Go.Proofs.YtmcpemohemeecaaDoor.Ck
namespace Go.Proofs.YtmcpemohemeecaaDoor.Ck
open Go Go.RowKit Nd Nu

/-! ### The short grammar -/

theorem thr_stand (rs : List Rl) (s : Int) (e : List Bool) (b : Bool) : thr rs s e (stand b) = b := by cases b <;> simp [stand, thr, thrA, thrO]
theorem emp_stand (rs : List Rl) {i : Nat} {r : Rl} (hr : rs[i]? = some r) {b : Bool} (hb : r.body = stand b) : (emp rs).getD i false = b := by
  rw [← emp_is rs hr, hb, thr_stand]
theorem shF_none (e a : List Bool) (nm : ByteArray) : ∀ (l : List Rl) (k q : Nat), fndF nm k l = none → fndF nm q (shortF e a k l) = none
  | [], _, _, _ => rfl
  | r :: l, k, q, h => by
    simp only [fndF] at h
    split at h
    · cases h
    · rename_i hn
      have ih := fun q => shF_none e a nm l (k + 1) q h
      simp only [shortF]
      split
      · simp only [List.singleton_append, fndF]
        rw [if_neg hn]
        exact ih _
      · exact ih q
theorem shF_some (e a : List Bool) (nm : ByteArray) : ∀ (l : List Rl) (k q i : Nat), fndF nm k l = some i → a.getD i false = true →
    ∃ j r, fndF nm q (shortF e a k l) = some (q + j) ∧ (shortF e a k l)[j]? = some ⟨r.name, r.sort, stand (e.getD i false), 0, 0, 0⟩ ∧ k ≤ i ∧ l[i - k]? = some r
  | [], _, _, _, h, _ => by simp [fndF] at h
  | r :: l, k, q, i, h, ha => by
    simp only [fndF] at h
    split at h
    · rename_i hn
      injection h with h
      subst h
      refine ⟨0, r, ?_, ?_, Nat.le_refl _, by simp⟩
      · simp only [shortF]
        rw [if_pos ha]
        simp only [List.singleton_append, fndF]
        rw [if_pos hn]
        rfl
      · simp only [shortF]
        rw [if_pos ha]
        rfl
    · rename_i hn
      have hge := fndF_ge nm l (k + 1) i h
      simp only [shortF]
      split
      · obtain ⟨j, r', h1, h2, h3, h4⟩ := shF_some e a nm l (k + 1) (q + 1) i h ha
        refine ⟨j + 1, r', ?_, ?_, by omega, ?_⟩
        · simp only [List.singleton_append, fndF]
          rw [if_neg hn, h1]
          congr 1; omega
        · simpa using h2
        · rw [show i - k = (i - (k + 1)) + 1 by omega]; simpa using h4
      · obtain ⟨j, r', h1, h2, h3, h4⟩ := shF_some e a nm l (k + 1) q i h ha
        refine ⟨j, r', ?_, ?_, by omega, ?_⟩
        · simpa using h1
        · simpa using h2
        · rw [show i - k = (i - (k + 1)) + 1 by omega]; simpa using h4
theorem sortAt_some {rs : List Rl} {i : Nat} {r : Rl} (h : rs[i]? = some r) : sortAt rs i = r.sort := by unfold sortAt; rw [h]
/-- What a name is in the short grammar: as empty as in the whole one. -/
theorem nmd_short (rs : List Rl) (r : Rl) (s k : Int) (n : ByteArray) (ha : ∀ i, fnd rs n = some i → (asked rs r.body).getD i false = true) :
    (match nmd (short rs r) s k n with | some j => (emp (short rs r)).getD j false | none => false) = (match nmd rs s k n with | some i => (emp rs).getD i false | none => false) := by
  have happ : fnd (short rs r) n = (fndF n 0 (shortF (emp rs) (asked rs r.body) 0 rs)).or (fndF n (0 + (shortF (emp rs) (asked rs r.body) 0 rs).length) [⟨⟨#[]⟩, r.sort, stand false, 0, 0, 0⟩]) := by
    unfold fnd short
    rw [fndF_append]
  cases hf : fnd rs n with
  | none =>
    have h1 : nmd rs s k n = none := by unfold nmd; rw [hf]
    rw [h1, shF_none _ _ _ _ _ _ hf] at *
    rw [Option.none_or] at happ
    dsimp only
    have hlast : ∀ j, fnd (short rs r) n = some j → (emp (short rs r)).getD j false = false := fun j hj => by
      rw [happ] at hj
      simp only [fndF] at hj
      split at hj
      · injection hj with hj
        refine emp_stand (short rs r) (r := ⟨⟨#[]⟩, r.sort, stand false, 0, 0, 0⟩) ?_ rfl
        rw [← hj, Nat.zero_add]
        unfold short
        rw [List.getElem?_append_right (Nat.le_refl _), Nat.sub_self]
        rfl
      · cases hj
    unfold nmd
    cases hq : fnd (short rs r) n with
    | none => rfl
    | some j =>
      have := hlast j hq
      dsimp only
      by_cases hk : k = 5
      · rw [if_pos hk]
        by_cases h0 : sortAt (short rs r) j = 0
        · rw [if_pos h0]; exact this
        · rw [if_neg h0]
      · rw [if_neg hk]
        by_cases h0 : sortAt (short rs r) j ≠ 0 ∧ s ≠ 0
        · rw [if_pos h0]; exact this
        · rw [if_neg h0]
  | some i =>
    obtain ⟨j, r', h1, h2, _, h4⟩ := shF_some (emp rs) (asked rs r.body) n rs 0 0 i hf (ha i hf)
    rw [h1, Nat.zero_add] at happ
    have hj : fnd (short rs r) n = some j := happ
    have hlt := (List.getElem?_eq_some_iff.1 h2).1
    have h3 : (short rs r)[j]? = some ⟨r'.name, r'.sort, stand ((emp rs).getD i false), 0, 0, 0⟩ := by
      unfold short
      rw [List.getElem?_append_left hlt]
      exact h2
    have he := emp_stand (short rs r) h3 rfl
    have hs1 : sortAt (short rs r) j = r'.sort := by unfold sortAt; rw [h3]
    have hs2 : sortAt rs i = r'.sort := sortAt_some (by simpa using h4)
    unfold nmd
    rw [hj, hf]
    dsimp only
    rw [hs1, hs2]
    by_cases hk : k = 5
    · rw [if_pos hk, if_pos hk]
      by_cases h0 : r'.sort = 0
      · rw [if_pos h0, if_pos h0]; exact he
      · rw [if_neg h0, if_neg h0]
    · rw [if_neg hk, if_neg hk]
      by_cases h0 : r'.sort ≠ 0 ∧ s ≠ 0
      · rw [if_pos h0, if_pos h0]; exact he
      · rw [if_neg h0, if_neg h0]
theorem mem_namL {b : List T} {u : T} (hu : u ∈ b) {n : T} (hn : n ∈ nam u) : n ∈ namL b := by
  induction b with
  | nil => simp at hu
  | cons q l ih =>
    simp only [namL, List.mem_append]
    rcases List.mem_cons.1 hu with rfl | hu
    · exact .inl hn
    · exact .inr (ih hu)
/-- All that is named in a node is asked for. -/
def Asks (rs : List Rl) (r : Rl) (l : List T) : Prop := ∀ n ∈ l, ∀ i, fnd rs n.name = some i → (asked rs r.body).getD i false = true
theorem nam_sub {k : Int} {n x : ByteArray} {st : List (Int × Int)} {b : List T} {m : T} (h : m ∈ namL b) : m ∈ nam (.mk k n x st b) := by
  simp only [nam, List.mem_append]
  exact .inr h
mutual
/-- A node as it is handed back is as empty by the short grammar as the node by the whole one. -/
theorem lp_same (rs : List Rl) (r : Rl) : ∀ t : T, Asks rs r (nam t) → shE rs r (lpT (shE rs r) t) = thr rs r.sort (emp rs) t
  | .mk k n x st b, h => by
    have hb : Asks rs r (namL b) := fun m hm => h m (nam_sub hm)
    unfold shE
    simp only [lpT, thr]
    rw [show thr (short rs r) r.sort (emp (short rs r)) = shE rs r from rfl]
    by_cases h4 : k = 4
    · subst h4
      simp only [isLoop]
      have hO := lp_loopO rs r b hb
      unfold shE at hO ⊢
      simp only [show ((4 : Int) = 1) = False from by simp, if_false]
      exact hO
    · by_cases h3 : k = 3
      · subst h3; simp
      · have hlp : isLoop k = false := by unfold isLoop; rw [decide_eq_false_iff_not]; omega
        rw [hlp]
        have hA := lp_A rs r b hb
        have hO := lp_O rs r b hb
        unfold shE at hA hO ⊢
        rw [hA, hO]
        split
        · rfl
        · split
          · rfl
          · split
            · rfl
            · split
              · rfl
              · split
                · rename_i h56
                  exact nmd_short rs r r.sort k n (h (.mk k n x st b) (by simp only [nam]; rw [if_pos h56]; simp))
                · rfl
theorem lp_A (rs : List Rl) (r : Rl) : ∀ b : List T, Asks rs r (namL b) → thrA (short rs r) r.sort (emp (short rs r)) (lpL (shE rs r) false b) = thrA rs r.sort (emp rs) b
  | [], _ => by simp [lpL, thrA]
  | t :: l, h => by
    have h1 := lp_same rs r t (fun m hm => h m (by simp only [namL, List.mem_append]; exact .inl hm))
    have h2 := lp_A rs r l (fun m hm => h m (by simp only [namL, List.mem_append]; exact .inr hm))
    simp only [lpL, thrA]
    rw [h2]
    simp only [Bool.false_eq_true, if_false]
    unfold shE at h1 ⊢
    rw [h1]
theorem lp_O (rs : List Rl) (r : Rl) : ∀ b : List T, Asks rs r (namL b) → thrO (short rs r) r.sort (emp (short rs r)) (lpL (shE rs r) false b) = thrO rs r.sort (emp rs) b
  | [], _ => by simp [lpL, thrO]
  | t :: l, h => by
    have h1 := lp_same rs r t (fun m hm => h m (by simp only [namL, List.mem_append]; exact .inl hm))
    have h2 := lp_O rs r l (fun m hm => h m (by simp only [namL, List.mem_append]; exact .inr hm))
    simp only [lpL, thrO]
    rw [h2]
    simp only [Bool.false_eq_true, if_false]
    unfold shE at h1 ⊢
    rw [h1]
theorem lp_loopO (rs : List Rl) (r : Rl) : ∀ b : List T, Asks rs r (namL b) → thrO (short rs r) r.sort (emp (short rs r)) (lpL (shE rs r) true b) = thrO rs r.sort (emp rs) b
  | [], _ => by simp [lpL, thrO]
  | t :: l, h => by
    have h1 := lp_same rs r t (fun m hm => h m (by simp only [namL, List.mem_append]; exact .inl hm))
    have h2 := lp_loopO rs r l (fun m hm => h m (by simp only [namL, List.mem_append]; exact .inr hm))
    simp only [lpL, thrO]
    rw [h2]
    simp only [if_true]
    rw [thr_stand, h1]
end
theorem asked_len (rs : List Rl) : ∀ (l : List T) (a : List Bool), (l.foldl (fun a n => match fnd rs n.name with | some to => a.set to true | none => a) a).length = a.length
  | [], _ => rfl
  | n :: l, a => by
    simp only [List.foldl_cons]
    rw [asked_len rs l]
    split <;> simp
theorem asked_le (rs : List Rl) : ∀ (l : List T) (a : List Bool), Le a (l.foldl (fun a n => match fnd rs n.name with | some to => a.set to true | none => a) a)
  | [], _ => Le.refl _
  | n :: l, a => by
    simp only [List.foldl_cons]
    refine Le.trans ?_ (asked_le rs l _)
    split
    · exact Le.set _ _
    · exact Le.refl _
theorem asked_in (rs : List Rl) : ∀ (l : List T) (a : List Bool), a.length = rs.length → ∀ n ∈ l, ∀ i, fnd rs n.name = some i → (l.foldl (fun a n => match fnd rs n.name with | some to => a.set to true | none => a) a).getD i false = true
  | [], _, _, _, h, _, _ => by simp at h
  | m :: l, a, ha, n, hn, i, hi => by
    simp only [List.foldl_cons]
    rcases List.mem_cons.1 hn with rfl | hn
    · refine asked_le rs l _ i ?_
      rw [hi]
      dsimp only
      rw [getD_set _ _ _ _ (by rw [ha]; exact fnd_lt hi), if_pos rfl]
    · exact asked_in rs l _ (by split <;> simp [ha]) n hn i hi
theorem asks_body (rs : List Rl) (r : Rl) : Asks rs r (nam r.body) := fun n hn i hi => asked_in rs (nam r.body) _ (by simp) n hn i hi
end Go.Proofs.YtmcpemohemeecaaDoor.Ck
