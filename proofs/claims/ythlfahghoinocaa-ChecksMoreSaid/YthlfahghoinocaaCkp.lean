/- Checks: what is wrong with grammars one step away from one with which nothing is: a rule twice, a body turned. Nothing of the program's code stands here. -/
import Derived.Test.YthlfahghoinocaaCkV
namespace Go.Proofs.Ythlfahghoinocaa.Ck
open Go Go.RowKit Nd Nu

/-! ### What hangs on names alone -/

/-- Rules tell of the names in l what others do. -/
def Agree (rs rs2 : List Rl) (s : Int) (l : List T) : Prop := ∀ n ∈ l, nmd rs2 s n.kind n.name = nmd rs s n.kind n.name
/-- e and e2 tell the same of what the names in l name. -/
def Same2 (rs : List Rl) (s : Int) (e e2 : List Bool) (l : List T) : Prop := ∀ n ∈ l, ∀ k, nmd rs s n.kind n.name = some k → e2.getD k false = e.getD k false
mutual
theorem thr_congr (rs rs2 : List Rl) (s : Int) (e e2 : List Bool) : ∀ t : T, Agree rs rs2 s (nam t) → Same2 rs s e e2 (nam t) → thr rs2 s e2 t = thr rs s e t
  | .mk k n x st b, h, h2 => by
    have hb : Agree rs rs2 s (namL b) := fun m hm => h m (nam_sub hm)
    have hb2 : Same2 rs s e e2 (namL b) := fun m hm => h2 m (nam_sub hm)
    simp only [thr, thrA_congr rs rs2 s e e2 b hb hb2, thrO_congr rs rs2 s e e2 b hb hb2]
    by_cases h56 : k = 5 ∨ k = 6
    · have hm : (Nd.T.mk k n x st b) ∈ nam (.mk k n x st b) := by simp only [nam]; rw [if_pos h56]; simp
      have e1 : nmd rs2 s k n = nmd rs s k n := h _ hm
      rw [e1]
      cases hn : nmd rs s k n with
      | none => rfl
      | some i =>
        have e3 : e2.getD i false = e.getD i false := h2 _ hm i hn
        simp only [e3]
    · simp only [h56, if_false]
theorem thrA_congr (rs rs2 : List Rl) (s : Int) (e e2 : List Bool) : ∀ b : List T, Agree rs rs2 s (namL b) → Same2 rs s e e2 (namL b) → thrA rs2 s e2 b = thrA rs s e b
  | [], _, _ => by simp only [thrA]
  | t :: r, h, h2 => by
    simp only [thrA, thr_congr rs rs2 s e e2 t (fun m hm => h m (by simp only [namL, List.mem_append]; exact .inl hm)) (fun m hm => h2 m (by simp only [namL, List.mem_append]; exact .inl hm)),
      thrA_congr rs rs2 s e e2 r (fun m hm => h m (by simp only [namL, List.mem_append]; exact .inr hm)) (fun m hm => h2 m (by simp only [namL, List.mem_append]; exact .inr hm))]
theorem thrO_congr (rs rs2 : List Rl) (s : Int) (e e2 : List Bool) : ∀ b : List T, Agree rs rs2 s (namL b) → Same2 rs s e e2 (namL b) → thrO rs2 s e2 b = thrO rs s e b
  | [], _, _ => by simp only [thrO]
  | t :: r, h, h2 => by
    simp only [thrO, thr_congr rs rs2 s e e2 t (fun m hm => h m (by simp only [namL, List.mem_append]; exact .inl hm)) (fun m hm => h2 m (by simp only [namL, List.mem_append]; exact .inl hm)),
      thrO_congr rs rs2 s e e2 r (fun m hm => h m (by simp only [namL, List.mem_append]; exact .inr hm)) (fun m hm => h2 m (by simp only [namL, List.mem_append]; exact .inr hm))]
end
mutual
/-- What is reached by less that may be empty is reached by more; names alone decide. -/
theorem rch_sub (rs rs2 : List Rl) (s : Int) {e e2 : List Bool} (he : ∀ t, thr rs2 s e2 t = true → thr rs s e t = true) : ∀ t : T, Agree rs rs2 s (nam t) → ∀ x ∈ rch rs2 s e2 t, x ∈ rch rs s e t
  | .mk k n y st b, h => fun x hx => by
    have hb : Agree rs rs2 s (namL b) := fun m hm => h m (nam_sub hm)
    have hA := rchA_sub rs rs2 s he b hb
    have hO := rchO_sub rs rs2 s he b hb
    simp only [rch] at hx ⊢
    split at hx
    · rw [if_pos (by assumption)]; exact hA x hx
    · rw [if_neg (by assumption)]
      split at hx
      · rw [if_pos (by assumption)]; exact hO x hx
      · rw [if_neg (by assumption)]
        split at hx
        · rw [if_pos (by assumption)]; exact hO x hx
        · rw [if_neg (by assumption)]
          split at hx
          · cases hx
          · rw [if_neg (by assumption)]
            split at hx
            · rename_i h56
              rw [if_pos h56]
              have e1 : nmd rs2 s k n = nmd rs s k n := h (.mk k n y st b) (by simp only [nam]; rw [if_pos h56]; simp)
              rw [e1] at hx
              exact hx
            · cases hx
theorem rchA_sub (rs rs2 : List Rl) (s : Int) {e e2 : List Bool} (he : ∀ t, thr rs2 s e2 t = true → thr rs s e t = true) : ∀ b : List T, Agree rs rs2 s (namL b) → ∀ x ∈ rchA rs2 s e2 b, x ∈ rchA rs s e b
  | [], _ => fun x hx => by simp [rchA] at hx
  | t :: r, h => fun x hx => by
    simp only [rchA, List.mem_append] at hx ⊢
    rcases hx with hx | hx
    · exact .inl (rch_sub rs rs2 s he t (fun m hm => h m (by simp only [namL, List.mem_append]; exact .inl hm)) x hx)
    · split at hx
      · rename_i ht
        rw [if_pos (he t ht)]
        exact .inr (rchA_sub rs rs2 s he r (fun m hm => h m (by simp only [namL, List.mem_append]; exact .inr hm)) x hx)
      · cases hx
theorem rchO_sub (rs rs2 : List Rl) (s : Int) {e e2 : List Bool} (he : ∀ t, thr rs2 s e2 t = true → thr rs s e t = true) : ∀ b : List T, Agree rs rs2 s (namL b) → ∀ x ∈ rchO rs2 s e2 b, x ∈ rchO rs s e b
  | [], _ => fun x hx => by simp [rchO] at hx
  | t :: r, h => fun x hx => by
    simp only [rchO, List.mem_append] at hx ⊢
    rcases hx with hx | hx
    · exact .inl (rch_sub rs rs2 s he t (fun m hm => h m (by simp only [namL, List.mem_append]; exact .inl hm)) x hx)
    · exact .inr (rchO_sub rs rs2 s he r (fun m hm => h m (by simp only [namL, List.mem_append]; exact .inr hm)) x hx)
end
mutual
theorem rch_congr (rs rs2 : List Rl) (s : Int) (e e2 : List Bool) : ∀ t : T, Agree rs rs2 s (nam t) → Same2 rs s e e2 (nam t) → rch rs2 s e2 t = rch rs s e t
  | .mk k n x st b, h, h2 => by
    have hb : Agree rs rs2 s (namL b) := fun m hm => h m (nam_sub hm)
    have hb2 : Same2 rs s e e2 (namL b) := fun m hm => h2 m (nam_sub hm)
    simp only [rch, rchA_congr rs rs2 s e e2 b hb hb2, rchO_congr rs rs2 s e e2 b hb hb2]
    by_cases h56 : k = 5 ∨ k = 6
    · have e1 : nmd rs2 s k n = nmd rs s k n := h (.mk k n x st b) (by simp only [nam]; rw [if_pos h56]; simp)
      rw [e1]
    · simp only [h56, if_false]
theorem rchA_congr (rs rs2 : List Rl) (s : Int) (e e2 : List Bool) : ∀ b : List T, Agree rs rs2 s (namL b) → Same2 rs s e e2 (namL b) → rchA rs2 s e2 b = rchA rs s e b
  | [], _, _ => by simp only [rchA]
  | t :: r, h, h2 => by
    have ht : Agree rs rs2 s (nam t) := fun m hm => h m (by simp only [namL, List.mem_append]; exact .inl hm)
    have ht2 : Same2 rs s e e2 (nam t) := fun m hm => h2 m (by simp only [namL, List.mem_append]; exact .inl hm)
    simp only [rchA, rch_congr rs rs2 s e e2 t ht ht2, thr_congr rs rs2 s e e2 t ht ht2,
      rchA_congr rs rs2 s e e2 r (fun m hm => h m (by simp only [namL, List.mem_append]; exact .inr hm)) (fun m hm => h2 m (by simp only [namL, List.mem_append]; exact .inr hm))]
theorem rchO_congr (rs rs2 : List Rl) (s : Int) (e e2 : List Bool) : ∀ b : List T, Agree rs rs2 s (namL b) → Same2 rs s e e2 (namL b) → rchO rs2 s e2 b = rchO rs s e b
  | [], _, _ => by simp only [rchO]
  | t :: r, h, h2 => by
    simp only [rchO, rch_congr rs rs2 s e e2 t (fun m hm => h m (by simp only [namL, List.mem_append]; exact .inl hm)) (fun m hm => h2 m (by simp only [namL, List.mem_append]; exact .inl hm)),
      rchO_congr rs rs2 s e e2 r (fun m hm => h m (by simp only [namL, List.mem_append]; exact .inr hm)) (fun m hm => h2 m (by simp only [namL, List.mem_append]; exact .inr hm))]
end

/-! ### Loops, by what may be empty alone -/

mutual
def lz (rs : List Rl) (s : Int) (e : List Bool) : T → Bool
  | .mk k _ _ _ b => lzL rs s e (isLoop k) true b
def lzL (rs : List Rl) (s : Int) (e : List Bool) (lp first : Bool) : List T → Bool
  | [] => true
  | t :: r => lz rs s e t && !(lp && first && thr rs s e t) && lzL rs s e lp false r
end
mutual
theorem lz_iff (rs : List Rl) (r : Rl) : ∀ t : T, Asks rs r (nam t) → (lpN (shE rs r) t = 0 ↔ lz rs r.sort (emp rs) t = true)
  | .mk k n x st b, h => by
    have := lzL_iff rs r (isLoop k) b true (fun m hm => h m (nam_sub hm))
    simp only [lpN, lz]
    exact this
theorem lzL_iff (rs : List Rl) (r : Rl) (lp : Bool) : ∀ (b : List T) (f : Bool), Asks rs r (namL b) → (lpNL (shE rs r) lp f b = 0 ↔ lzL rs r.sort (emp rs) lp f b = true)
  | [], f, _ => by simp [lpNL, lzL]
  | t :: l, f, h => by
    have ht : Asks rs r (nam t) := fun m hm => h m (by simp only [namL, List.mem_append]; exact .inl hm)
    have h1 := lz_iff rs r t ht
    have h2 := lzL_iff rs r lp l false (fun m hm => h m (by simp only [namL, List.mem_append]; exact .inr hm))
    have h3 := lp_same rs r t ht
    simp only [lpNL, lzL, h3]
    generalize (lp && f && thr rs r.sort (emp rs) t) = c
    cases c with
    | false =>
      simp only [Bool.not_false, Bool.and_true, Bool.and_eq_true, Bool.false_eq_true, if_false]
      rw [← h1, ← h2]
      exact ⟨fun h => ⟨by omega, by omega⟩, fun h => by obtain ⟨a, b⟩ := h; omega⟩
    | true =>
      simp only [Bool.not_true, Bool.and_false, Bool.false_and, Bool.false_eq_true, if_true]
      exact ⟨fun h => by omega, fun h => h.elim⟩
end
mutual
theorem lz_mono (rs rs2 : List Rl) (s : Int) {e e2 : List Bool} : ∀ t : T, (∀ u, Agree rs rs2 s (nam u) → thr rs2 s e2 u = true → thr rs s e u = true) → Agree rs rs2 s (nam t) → lz rs s e t = true → lz rs2 s e2 t = true
  | .mk k n x st b, he, h, hl => by
    simp only [lz] at hl ⊢
    exact lzL_mono rs rs2 s (isLoop k) b true he (fun m hm => h m (nam_sub hm)) hl
theorem lzL_mono (rs rs2 : List Rl) (s : Int) (lp : Bool) {e e2 : List Bool} : ∀ (b : List T) (f : Bool), (∀ u, Agree rs rs2 s (nam u) → thr rs2 s e2 u = true → thr rs s e u = true) → Agree rs rs2 s (namL b) → lzL rs s e lp f b = true → lzL rs2 s e2 lp f b = true
  | [], f, _, _, _ => by simp [lzL]
  | t :: l, f, he, h, hl => by
    have ht : Agree rs rs2 s (nam t) := fun m hm => h m (by simp only [namL, List.mem_append]; exact .inl hm)
    simp only [lzL, Bool.and_eq_true, Bool.not_eq_true'] at hl ⊢
    refine ⟨⟨lz_mono rs rs2 s t he ht hl.1.1, ?_⟩, lzL_mono rs rs2 s lp l false he (fun m hm => h m (by simp only [namL, List.mem_append]; exact .inr hm)) hl.2⟩
    cases hc : thr rs2 s e2 t with
    | false => simp
    | true => rw [← hl.1.2, he t ht hc]
end

/-! ### What is told of one rule -/

/-- All that is told of a rule but that its name was there already. -/
theorem rulP_rest {rs : List Rl} {i : Nat} {r : Rl} (nms : ∀ n ∈ nam r.body, ∃ k, fnd rs n.name = some k ∧ fits n.kind r.sort (sortAt rs k) = true) (left : r.sort = 0 → reaAt rs i i = false) (round : reaAt (nmR rs) i i = false)
    (loops : lz rs r.sort (emp rs) r.body = true) (full : (r.sort = 1 ∨ r.sort = 3) → (emp rs).getD i false = false) {j : Nat} (hj : fnd rs r.name = some j) : rulP rs i r = if j < i then [⟨1, i, r.name⟩] else [] := by
  have h1 : noneP rs i (nam r.body) = [] := by
    unfold noneP
    rw [List.filterMap_eq_nil_iff]
    intro n hn
    obtain ⟨k, hk, _⟩ := nms n hn
    simp [hk]
  have h2 : sortP rs r.sort i (nam r.body) = [] := by
    unfold sortP
    rw [List.filterMap_eq_nil_iff]
    intro n hn
    obtain ⟨k, hk, hf⟩ := nms n hn
    simp [sortB, hk, hf]
  have h3 : ¬ (r.sort = 0 ∧ reaAt rs i i = true) := fun ⟨a, b⟩ => by rw [left a] at b; cases b
  have h4 : lpN (shE rs r) r.body = 0 := (lz_iff rs r r.body (asks_body rs r)).2 loops
  have h5 : ¬ ((r.sort = 1 ∨ r.sort = 3) ∧ (emp rs).getD i false = true) := fun ⟨a, b⟩ => by rw [full a] at b; cases b
  unfold rulP
  rw [h1, h2, if_neg h3, round, h4, if_neg h5, hj]
  simp
theorem well_lz {rs : List Rl} {i : Nat} {r : Rl} (W : Well rs i r) : lz rs r.sort (emp rs) r.body = true := (lz_iff rs r r.body (asks_body rs r)).1 W.loops
/-- What is reached by less is reached by more. -/
theorem rea_sub {rs rs2 : List Rl} {i : Nat} (hi2 : i < rs2.length) (hi : i < rs.length) (h : ∀ j x, j < rs.length → x ∈ (stp rs2).getD j [] → x < rs.length ∧ x ∈ (stp rs).getD j []) (k : Nat) (hk : reaAt rs2 i k = true) : k < rs.length ∧ reaAt rs i k = true := by
  refine rea_ind rs2 hi2 (fun k => k < rs.length ∧ reaAt rs i k = true) (fun x hx => ?_) (fun t ht x hx => ?_) k hk
  · obtain ⟨h1, h2⟩ := h i x hi hx
    exact ⟨h1, rea_step rs hi h2⟩
  · obtain ⟨h1, h2⟩ := h t x ht.1 hx
    exact ⟨h1, rea_trans rs hi ht.1 ht.2 (rea_step rs ht.1 h2)⟩
/-! ### A rule twice -/

/-- All that is named is a rule. -/
def Found (rs : List Rl) (l : List T) : Prop := ∀ n ∈ l, ∃ k, fnd rs n.name = some k
theorem fnd_more {rs : List Rl} {n : ByteArray} {k : Nat} (x : Rl) (h : fnd rs n = some k) : fnd (rs ++ [x]) n = some k := by
  unfold fnd at h ⊢
  rw [fndF_append, h]
  rfl
theorem nmd_more {rs : List Rl} (x : Rl) (s k : Int) {n : ByteArray} {i : Nat} (h : fnd rs n = some i) : nmd (rs ++ [x]) s k n = nmd rs s k n := by
  unfold nmd
  rw [fnd_more x h, h]
  dsimp only
  rw [sortAt_app rs x (fnd_lt h)]
theorem agree_more {rs : List Rl} (x : Rl) (s : Int) {l : List T} (h : Found rs l) : Agree rs (rs ++ [x]) s l := fun n hn => by
  obtain ⟨k, hk⟩ := h n hn
  exact nmd_more x s n.kind hk
theorem same_of {rs : List Rl} (s : Int) {e e2 : List Bool} (h : ∀ k, k < rs.length → e2.getD k false = e.getD k false) (l : List T) : Same2 rs s e e2 l := fun _ _ k hk => h k (nmd_lt hk)
theorem emp_more {rs : List Rl} {x : Rl} (hF : ∀ r ∈ rs, Found rs (nam r.body)) (hx : Found rs (nam x.body)) : (∀ k, k < rs.length → (emp (rs ++ [x])).getD k false = (emp rs).getD k false) ∧ (emp (rs ++ [x])).getD rs.length false = thr rs x.sort (emp rs) x.body := by
  have key : ∀ k, k < rs.length → (emp (rs ++ [x])).getD k false = (emp rs).getD k false := by
    intro k hk
    obtain ⟨f1, f2, f3⟩ := emp_spec (rs ++ [x])
    obtain ⟨g1, g2, g3⟩ := emp_spec rs
    have hle := emp_len rs
    have hle2 := emp_len (rs ++ [x])
    have le1 : Le (emp rs) ((emp (rs ++ [x])).take rs.length) := g3 _ fun i r hr ht => by
      have hi := (List.getElem?_eq_some_iff.1 hr).1
      have htk : ∀ j, j < rs.length → ((emp (rs ++ [x])).take rs.length).getD j false = (emp (rs ++ [x])).getD j false := fun j hj => by
        rw [List.getD_eq_getElem?_getD, List.getD_eq_getElem?_getD, List.getElem?_take_of_lt hj]
      rw [htk i hi]
      refine f2 i r (by rw [List.getElem?_append_left hi]; exact hr) ?_
      rw [thr_congr rs (rs ++ [x]) r.sort ((emp (rs ++ [x])).take rs.length) (emp (rs ++ [x])) r.body (agree_more x _ (hF r (List.mem_of_getElem? hr))) (same_of _ (fun j hj => (htk j hj).symm) _)]
      exact ht
    have le2 : Le (emp (rs ++ [x])) (emp rs ++ [true]) := f3 _ fun i r hr ht => by
      by_cases hi : i < rs.length
      · rw [getD_app (emp rs) true i (by omega)]
        rw [List.getElem?_append_left hi] at hr
        refine g2 i r hr ?_
        rw [thr_congr rs (rs ++ [x]) r.sort (emp rs) (emp rs ++ [true]) r.body (agree_more x _ (hF r (List.mem_of_getElem? hr))) (same_of _ (fun j hj => getD_app (emp rs) true j (by omega)) _)] at ht
        exact ht
      · have hi2 := (List.getElem?_eq_some_iff.1 hr).1
        rw [List.length_append, List.length_singleton] at hi2
        have : i = (emp rs).length := by omega
        subst this
        rw [List.getD_eq_getElem?_getD, List.getElem?_append_right (Nat.le_refl _), Nat.sub_self]
        rfl
    cases h1 : (emp rs).getD k false with
    | true =>
      have := le1 k h1
      rw [List.getD_eq_getElem?_getD, List.getElem?_take_of_lt hk, ← List.getD_eq_getElem?_getD] at this
      exact this
    | false =>
      cases h2 : (emp (rs ++ [x])).getD k false with
      | false => rfl
      | true =>
        have := le2 k h2
        rw [getD_app (emp rs) true k (by omega), h1] at this
        cases this
  refine ⟨key, ?_⟩
  have := emp_is (rs ++ [x]) (i := rs.length) (r := x) (by rw [List.getElem?_append_right (Nat.le_refl _), Nat.sub_self]; rfl)
  rw [← this]
  exact thr_congr rs (rs ++ [x]) x.sort (emp rs) (emp (rs ++ [x])) x.body (agree_more x _ hx) (same_of _ key _)
theorem stp_more {rs : List Rl} {x : Rl} (hF : ∀ r ∈ rs, Found rs (nam r.body)) (hx : Found rs (nam x.body)) : (∀ k, k < rs.length → (stp (rs ++ [x])).getD k [] = (stp rs).getD k []) ∧ (stp (rs ++ [x])).getD rs.length [] = rch rs x.sort (emp rs) x.body := by
  obtain ⟨h1, _⟩ := emp_more hF hx
  constructor
  · intro k hk
    obtain ⟨r, hr⟩ : ∃ r, rs[k]? = some r := ⟨_, List.getElem?_eq_getElem hk⟩
    rw [stp_at (rs := rs ++ [x]) (by rw [List.getElem?_append_left hk]; exact hr), stp_at hr]
    exact rch_congr rs (rs ++ [x]) r.sort _ _ r.body (agree_more x _ (hF r (List.mem_of_getElem? hr))) (same_of _ h1 _)
  · rw [stp_at (rs := rs ++ [x]) (r := x) (by rw [List.getElem?_append_right (Nat.le_refl _), Nat.sub_self]; rfl)]
    exact rch_congr rs (rs ++ [x]) x.sort _ _ x.body (agree_more x _ hx) (same_of _ h1 _)
theorem rea_more {rs : List Rl} {x : Rl} (hF : ∀ r ∈ rs, Found rs (nam r.body)) (hx : Found rs (nam x.body)) : (∀ j, j < rs.length → reaAt rs j j = false → reaAt (rs ++ [x]) j j = false) ∧ reaAt (rs ++ [x]) rs.length rs.length = false := by
  obtain ⟨h1, h2⟩ := stp_more hF hx
  have hl : (rs ++ [x]).length = rs.length + 1 := by simp
  constructor
  · intro j hj hn
    cases h : reaAt (rs ++ [x]) j j with
    | false => rfl
    | true =>
      have := (rea_sub (rs := rs) (by omega) hj (fun k y hk hy => by rw [h1 k hk] at hy; exact ⟨stp_lt rs k y hy, hy⟩) j h).2
      rw [hn] at this
      cases this
  · cases h : reaAt (rs ++ [x]) rs.length rs.length with
    | false => rfl
    | true =>
      have : rs.length < rs.length := by
        refine rea_ind (rs ++ [x]) (by omega) (fun k => k < rs.length) (fun y hy => ?_) (fun t ht y hy => ?_) rs.length h
        · rw [h2] at hy
          obtain ⟨n, _, hn, _⟩ := rch_nam rs x.sort (emp rs) x.body y hy
          exact nmd_lt hn
        · rw [h1 t ht] at hy
          exact stp_lt rs t y hy
      omega
theorem nam_allT (t : T) : nam (allT t) = (nam t).map fun n => .mk 6 n.name ⟨#[]⟩ [] [] := by
  have key : ∀ l : List T, namL (l.map fun n => .mk 6 n.name ⟨#[]⟩ [] []) = l.map fun n => .mk 6 n.name ⟨#[]⟩ [] [] := by
    intro l
    induction l with
    | nil => simp [namL]
    | cons q r ih => simp only [List.map_cons, namL, ih, nam]; simp
  unfold allT
  simp only [nam]
  rw [key]
  simp
theorem nmR_fnd (rs : List Rl) (n : ByteArray) : fnd (nmR rs) n = fnd rs n := by
  unfold fnd
  exact fndF_map n _ _ 0 (by simp [nmR, List.map_map, Function.comp_def])
theorem found_nm {rs : List Rl} {t : T} (h : Found rs (nam t)) : Found (nmR rs) (nam (allT t)) := fun n hn => by
  rw [nam_allT] at hn
  obtain ⟨m, hm, rfl⟩ := List.mem_map.1 hn
  obtain ⟨k, hk⟩ := h m hm
  exact ⟨k, by rw [nmR_fnd]; exact hk⟩
/-- A rule twice: just that is told. -/
theorem chk_twice {rs : List Rl} (hc : chk rs = []) {i : Nat} {x : Rl} (hx : rs[i]? = some x) : chk (rs ++ [x]) = [⟨1, (rs.length : Nat), x.name⟩] := by
  obtain ⟨hst, hw⟩ := fine_of hc
  have hF : ∀ (j : Nat) (r : Rl), rs[j]? = some r → Found rs (nam r.body) := fun j r hr n hn => by
    obtain ⟨k, hk, _⟩ := (hw j r hr).nms n hn
    exact ⟨k, hk⟩
  have hFm : ∀ r ∈ rs, Found rs (nam r.body) := fun r hr => by
    obtain ⟨j, hj⟩ := List.mem_iff_getElem?.1 hr
    exact hF j r hj
  have hFx := hF i x hx
  obtain ⟨e1, e2⟩ := emp_more hFm hFx
  obtain ⟨r1, r2⟩ := rea_more hFm hFx
  have hnm : nmR (rs ++ [x]) = nmR rs ++ [{ x with body := allT x.body }] := by simp [nmR]
  have hln : (nmR rs).length = rs.length := nmR_len rs
  obtain ⟨q1, q2⟩ := rea_more (rs := nmR rs) (x := { x with body := allT x.body }) (fun r hr => by
    unfold nmR at hr
    obtain ⟨q, hq, rfl⟩ := List.mem_map.1 hr
    exact found_nm (hFm q hq)) (found_nm hFx)
  rw [hln] at q1 q2
  rw [← hnm] at q1 q2
  have hnms : ∀ (j : Nat) (r : Rl), rs[j]? = some r → ∀ n ∈ nam r.body, ∃ k, fnd (rs ++ [x]) n.name = some k ∧ fits n.kind r.sort (sortAt (rs ++ [x]) k) = true := fun j r hr n hn => by
    obtain ⟨k, hk, hf⟩ := (hw j r hr).nms n hn
    exact ⟨k, fnd_more x hk, by rw [sortAt_app rs x (fnd_lt hk)]; exact hf⟩
  have hlz : ∀ (j : Nat) (r : Rl), rs[j]? = some r → lz (rs ++ [x]) r.sort (emp (rs ++ [x])) r.body = true := fun j r hr => by
    refine lz_mono rs (rs ++ [x]) r.sort r.body (fun u hu ht => ?_) (agree_more x _ (hF j r hr)) (well_lz (hw j r hr))
    rw [thr_congr rs (rs ++ [x]) r.sort (emp rs) _ u hu (same_of _ e1 _)] at ht
    exact ht
  have hone : ∀ (j : Nat) (r : Rl), rs[j]? = some r → rulP (rs ++ [x]) j r = [] := fun j r hr => by
    have hj := (List.getElem?_eq_some_iff.1 hr).1
    have W := hw j r hr
    rw [rulP_rest (hnms j r hr) (fun h => r1 j hj (W.left h)) (q1 j hj W.round) (hlz j r hr) (fun h => by rw [e1 j hj]; exact W.full h) (fnd_more x W.one)]
    simp
  have hlast : rulP (rs ++ [x]) rs.length x = [⟨1, (rs.length : Nat), x.name⟩] := by
    have W := hw i x hx
    rw [rulP_rest (hnms i x hx) (fun _ => r2) q2 (hlz i x hx) (fun h => by rw [e2, emp_is rs hx]; exact W.full h) (fnd_more x W.one)]
    rw [if_pos (fnd_lt W.one)]
  have hfold : ∀ (l : List Rl) (k : Nat), (∀ j r, l[j]? = some r → rs[k + j]? = some r) → rulesF (rs ++ [x]) k l = [] := by
    intro l
    induction l with
    | nil => intro k _; rfl
    | cons r l ih =>
      intro k h
      simp only [rulesF]
      rw [hone k r (by simpa using h 0 r rfl), ih (k + 1) (fun j q hq => by rw [show k + 1 + j = k + (j + 1) by omega]; exact h (j + 1) q (by simpa using hq))]
      rfl
  have happ : ∀ (a b : List Rl) (k : Nat), rulesF (rs ++ [x]) k (a ++ b) = rulesF (rs ++ [x]) k a ++ rulesF (rs ++ [x]) (k + a.length) b := by
    intro a
    induction a with
    | nil => intro b k; simp [rulesF]
    | cons r a ih =>
      intro b k
      simp only [List.cons_append, rulesF, ih, List.append_assoc, List.length_cons]
      rw [show k + 1 + a.length = k + (a.length + 1) by omega]
  have hstart : start (rs ++ [x]) ≠ none := by
    unfold start at hst ⊢
    intro h
    apply hst
    rw [List.findIdx?_eq_none_iff] at h ⊢
    exact fun r hr => h r (by simp [hr])
  unfold chk
  rw [happ, hfold rs 0 (fun j r hr => by simpa using hr), if_neg hstart, List.nil_append, Nat.zero_add]
  simp only [rulesF, hlast, List.append_nil]
end Go.Proofs.Ythlfahghoinocaa.Ck
