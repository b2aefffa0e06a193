/- Checks: what is so where nothing is wrong: names, sorts, loops; no rule comes back to itself. Nothing of the program's code stands here. -/
import Derived.Test.YtmcpemohemeecaaDoorCkU
namespace Go.Proofs.YtmcpemohemeecaaDoor.Ck
open Go Go.RowKit Nd Nu

theorem rules_nil (rs : List Rl) : ∀ (l : List Rl) (k i : Nat) (r : Rl), rulesF rs k l = [] → l[i]? = some r → rulP rs (k + i) r = []
  | [], _, _, _, _, h => by simp at h
  | q :: l, k, 0, r, h, hr => by
    simp only [rulesF, List.append_eq_nil_iff] at h
    injection hr with hr
    subst hr
    exact h.1
  | q :: l, k, i + 1, r, h, hr => by
    simp only [rulesF, List.append_eq_nil_iff] at h
    have := rules_nil rs l (k + 1) i r h.2 (by simpa using hr)
    rwa [show k + 1 + i = k + (i + 1) by omega] at this
/-- What is so of a rule of which nothing is told. -/
structure Well (rs : List Rl) (i : Nat) (r : Rl) : Prop where
  one : fnd rs r.name = some i
  nms : ∀ n ∈ nam r.body, ∃ k, fnd rs n.name = some k ∧ fits n.kind r.sort (sortAt rs k) = true
  left : r.sort = 0 → reaAt rs i i = false
  round : reaAt (nmR rs) i i = false
  loops : lpN (shE rs r) r.body = 0
  full : (r.sort = 1 ∨ r.sort = 3) → (emp rs).getD i false = false
theorem fndF_of (nm : ByteArray) : ∀ (l : List Rl) (k i : Nat) (r : Rl), l[i]? = some r → r.name.toList = nm.toList → ∃ j, fndF nm k l = some j ∧ j ≤ k + i
  | [], _, _, _, h, _ => by simp at h
  | q :: l, k, 0, r, h, hn => by
    injection h with h
    subst h
    exact ⟨k, by simp only [fndF]; rw [if_pos hn], by omega⟩
  | q :: l, k, i + 1, r, h, hn => by
    simp only [fndF]
    split
    · exact ⟨k, rfl, by omega⟩
    · obtain ⟨j, h1, h2⟩ := fndF_of nm l (k + 1) i r (by simpa using h) hn
      exact ⟨j, h1, by omega⟩
theorem well_of {rs : List Rl} {i : Nat} {r : Rl} (hr : rs[i]? = some r) (h : rulP rs i r = []) : Well rs i r := by
  unfold rulP at h
  simp only [List.append_eq_nil_iff] at h
  obtain ⟨⟨⟨⟨⟨⟨h1, h2⟩, h3⟩, h4⟩, h5⟩, h6⟩, h7⟩ := h
  obtain ⟨j, hj, hle⟩ := fndF_of r.name rs 0 i r hr rfl
  have hj' : fnd rs r.name = some j := hj
  have hji : j = i := by
    rw [hj'] at h1
    dsimp only at h1
    split at h1
    · cases h1
    · omega
  refine ⟨by rw [hj', hji], fun n hn => ?_, fun h0 => ?_, ?_, ?_, fun hs => ?_⟩
  · cases hf : fnd rs n.name with
    | none =>
      have : (⟨2, (i : Int), n.name⟩ : Pr) ∈ noneP rs i (nam r.body) := List.mem_filterMap.2 ⟨n, hn, by rw [hf]; simp⟩
      rw [h2] at this
      simp at this
    | some k =>
      refine ⟨k, rfl, ?_⟩
      cases hq : fits n.kind r.sort (sortAt rs k) with
      | true => rfl
      | false =>
        have hb : sortB rs r.sort n = true := by unfold sortB; rw [hf]; dsimp only; rw [hq]; rfl
        have : (⟨3, (i : Int), n.name⟩ : Pr) ∈ sortP rs r.sort i (nam r.body) := List.mem_filterMap.2 ⟨n, hn, by rw [hb]; simp⟩
        rw [h3] at this
        simp at this
  · cases hq : reaAt rs i i with
    | false => rfl
    | true => rw [if_pos ⟨h0, hq⟩] at h4; cases h4
  · cases hq : reaAt (nmR rs) i i with
    | false => rfl
    | true => rw [if_pos hq] at h5; cases h5
  · have := congrArg List.length h6
    simpa using this
  · cases hq : (emp rs).getD i false with
    | false => rfl
    | true => rw [if_pos ⟨hs, hq⟩] at h7; cases h7
/-- Nothing is wrong. -/
theorem fine_of {rs : List Rl} (h : chk rs = []) : start rs ≠ none ∧ ∀ (i : Nat) (r : Rl), rs[i]? = some r → Well rs i r := by
  unfold chk at h
  rw [List.append_eq_nil_iff] at h
  refine ⟨fun e => ?_, fun i r hr => well_of hr ?_⟩
  · rw [if_pos e] at h; cases h.2
  · have := rules_nil rs rs 0 i r h.1 hr
    rwa [Nat.zero_add] at this

/-! ### No rule comes back to itself -/

mutual
theorem rch_nam (rs : List Rl) (s : Int) (e : List Bool) : ∀ (t : T) (x : Nat), x ∈ rch rs s e t → ∃ n ∈ nam t, nmd rs s n.kind n.name = some x ∧ (n.kind = 5 ∨ n.kind = 6)
  | .mk k n y st b, x, h => by
    have hA := rchA_nam rs s e b x
    have hO := rchO_nam rs s e b x
    have up : (∃ m ∈ namL b, nmd rs s m.kind m.name = some x ∧ (m.kind = 5 ∨ m.kind = 6)) → ∃ m ∈ nam (.mk k n y st b), nmd rs s m.kind m.name = some x ∧ (m.kind = 5 ∨ m.kind = 6) := fun ⟨m, h1, h2⟩ => ⟨m, nam_sub h1, h2⟩
    simp only [rch] at h
    split at h
    · exact up (hA h)
    · split at h
      · exact up (hO h)
      · split at h
        · exact up (hO h)
        · split at h
          · simp at h
          · split at h
            · rename_i h56
              split at h
              · rename_i i hi
                rw [List.mem_singleton] at h
                subst h
                exact ⟨.mk k n y st b, by simp only [nam]; rw [if_pos h56]; simp, hi, h56⟩
              · simp at h
            · simp at h
theorem rchA_nam (rs : List Rl) (s : Int) (e : List Bool) : ∀ (b : List T) (x : Nat), x ∈ rchA rs s e b → ∃ n ∈ namL b, nmd rs s n.kind n.name = some x ∧ (n.kind = 5 ∨ n.kind = 6)
  | [], x, h => by simp [rchA] at h
  | t :: l, x, h => by
    simp only [rchA, List.mem_append] at h
    rcases h with h | h
    · obtain ⟨n, h1, h2⟩ := rch_nam rs s e t x h
      exact ⟨n, by simp only [namL, List.mem_append]; exact .inl h1, h2⟩
    · split at h
      · obtain ⟨n, h1, h2⟩ := rchA_nam rs s e l x h
        exact ⟨n, by simp only [namL, List.mem_append]; exact .inr h1, h2⟩
      · simp at h
theorem rchO_nam (rs : List Rl) (s : Int) (e : List Bool) : ∀ (b : List T) (x : Nat), x ∈ rchO rs s e b → ∃ n ∈ namL b, nmd rs s n.kind n.name = some x ∧ (n.kind = 5 ∨ n.kind = 6)
  | [], x, h => by simp [rchO] at h
  | t :: l, x, h => by
    simp only [rchO, List.mem_append] at h
    rcases h with h | h
    · obtain ⟨n, h1, h2⟩ := rch_nam rs s e t x h
      exact ⟨n, by simp only [namL, List.mem_append]; exact .inl h1, h2⟩
    · obtain ⟨n, h1, h2⟩ := rchO_nam rs s e l x h
      exact ⟨n, by simp only [namL, List.mem_append]; exact .inr h1, h2⟩
end
theorem mem_rchO (rs : List Rl) (s : Int) (e : List Bool) {x : Nat} {u : T} (hx : x ∈ rch rs s e u) : ∀ b : List T, u ∈ b → x ∈ rchO rs s e b
  | [], h => by simp at h
  | t :: l, h => by
    simp only [rchO, List.mem_append]
    rcases List.mem_cons.1 h with rfl | h
    · exact .inl hx
    · exact .inr (mem_rchO rs s e hx l h)
theorem nmR_at {rs : List Rl} {i : Nat} {r : Rl} (h : rs[i]? = some r) : (nmR rs)[i]? = some { r with body := allT r.body } := by unfold nmR; rw [List.getElem?_map, h]; rfl
theorem nmR_len (rs : List Rl) : (nmR rs).length = rs.length := by simp [nmR]
theorem nmR_nmd (rs : List Rl) (s k : Int) (n : ByteArray) : nmd (nmR rs) s k n = nmd rs s k n := by
  have h1 : fnd (nmR rs) n = fnd rs n := by unfold fnd; exact fndF_map n _ _ 0 (by simp [nmR, Function.comp_def])
  have h2 : ∀ i, sortAt (nmR rs) i = sortAt rs i := fun i => by
    unfold sortAt nmR
    rw [List.getElem?_map]
    cases rs[i]? <;> rfl
  unfold nmd
  rw [h1]
  cases fnd rs n with
  | none => rfl
  | some i => dsimp only; rw [h2]
theorem stp_at {rs : List Rl} {i : Nat} {r : Rl} (h : rs[i]? = some r) : (stp rs).getD i [] = rch rs r.sort (emp rs) r.body := by
  rw [List.getD_eq_getElem?_getD]
  simp [stp, h]
/-- A step of a rule that is no parser's, where nothing is wrong, is one by names alone. -/
theorem step_nm {rs : List Rl} (hw : ∀ (i : Nat) (r : Rl), rs[i]? = some r → Well rs i r) {i x : Nat} (hi : i < rs.length) (hs : sortAt rs i ≠ 0) (hx : x ∈ (stp rs).getD i []) : sortAt rs x ≠ 0 ∧ x ∈ (stp (nmR rs)).getD i [] := by
  obtain ⟨r, hr⟩ : ∃ r, rs[i]? = some r := ⟨_, List.getElem?_eq_getElem hi⟩
  rw [sortAt_some hr] at hs
  rw [stp_at hr] at hx
  obtain ⟨n, hn, hm, h56⟩ := rch_nam rs r.sort (emp rs) r.body x hx
  obtain ⟨k, hk, hf⟩ := (hw i r hr).nms n hn
  have h6 : n.kind = 6 := by
    rcases h56 with h | h
    · unfold fits at hf
      rw [if_pos h] at hf
      simp at hf
      exact absurd hf.1 hs
    · exact h
  rw [h6] at hm
  have hsx : sortAt rs x ≠ 0 := by
    unfold nmd at hm
    rw [hk] at hm
    dsimp only at hm
    rw [if_neg (by omega)] at hm
    split at hm
    · rename_i h0
      injection hm with hm
      rw [← hm]; exact h0.1
    · cases hm
  refine ⟨hsx, ?_⟩
  rw [stp_at (nmR_at hr)]
  have hu : T.mk 6 n.name ⟨#[]⟩ [] [] ∈ (nam r.body).map fun n => T.mk 6 n.name ⟨#[]⟩ [] [] := List.mem_map.2 ⟨n, hn, rfl⟩
  have hxu : x ∈ rch (nmR rs) r.sort (emp (nmR rs)) (T.mk 6 n.name ⟨#[]⟩ [] []) := by
    simp only [rch]
    rw [nmR_nmd, hm]
    simp
  have := mem_rchO (nmR rs) r.sort (emp (nmR rs)) hxu _ hu
  unfold allT
  simp only [rch]
  simpa using this
theorem none_back {rs : List Rl} (hw : ∀ (i : Nat) (r : Rl), rs[i]? = some r → Well rs i r) {i : Nat} (hi : i < rs.length) : reaAt rs i i = false := by
  obtain ⟨r, hr⟩ : ∃ r, rs[i]? = some r := ⟨_, List.getElem?_eq_getElem hi⟩
  have W := hw i r hr
  by_cases h0 : r.sort = 0
  · exact W.left h0
  · cases hq : reaAt rs i i with
    | false => rfl
    | true =>
      have hs : sortAt rs i ≠ 0 := by rw [sortAt_some hr]; exact h0
      have hin : i < (nmR rs).length := by rw [nmR_len]; exact hi
      have := rea_ind rs hi (fun k => k < rs.length ∧ sortAt rs k ≠ 0 ∧ reaAt (nmR rs) i k = true)
        (fun x hx => ⟨stp_lt rs i x hx, (step_nm hw hi hs hx).1, rea_step (nmR rs) hin (step_nm hw hi hs hx).2⟩)
        (fun t ht x hx => ⟨stp_lt rs t x hx, (step_nm hw ht.1 ht.2.1 hx).1, rea_trans (nmR rs) hin (by rw [nmR_len]; exact ht.1) ht.2.2 (rea_step (nmR rs) (by rw [nmR_len]; exact ht.1) (step_nm hw ht.1 ht.2.1 hx).2)⟩) i hq
      have h2 := W.round
      rw [this.2.2] at h2
      cases h2
theorem order_fine {rs : List Rl} (hw : ∀ (i : Nat) (r : Rl), rs[i]? = some r → Well rs i r) : (orderTo (reaAt rs) rs.length rs.length).2 = 0 :=
  order_all (fun _ hi => none_back hw hi) (fun _ _ _ hi hk h1 h2 => rea_trans rs hi hk h1 h2)

/-! ### Bodies -/

/-- May a node stand there that names something: as the law asks. -/
def okN (rs : List Rl) (s k : Int) (n : ByteArray) : Bool := match fnd rs n with
  | none => false
  | some j => (decide (k = 5) == decide (sortAt rs j = 0)) && !decide (sortAt rs j = 3) && !(decide (s = 0) && decide (sortAt rs j = 2))
mutual
/-- Do all nodes name what they may, and do loops take something? -/
def snd (rs : List Rl) (s : Int) (e : List Bool) : T → Bool
  | .mk k n _ _ b => (!decide (k = 5 ∨ k = 6) || okN rs s k n) && ((!isLoop k || (match b with | [] => true | u :: _ => !thr rs s e u)) && sndL rs s e b)
def sndL (rs : List Rl) (s : Int) (e : List Bool) : List T → Bool
  | [] => true
  | t :: l => snd rs s e t && sndL rs s e l
end
theorem ok_of {rs : List Rl} {s : Int} {n : T} (h56 : n.kind = 5 ∨ n.kind = 6) {j : Nat} (hj : fnd rs n.name = some j) (hf : fits n.kind s (sortAt rs j) = true) : okN rs s n.kind n.name = true := by
  unfold okN
  rw [hj]
  dsimp only
  unfold fits at hf
  rcases h56 with h | h
  · rw [if_pos h] at hf
    simp only [decide_eq_true_eq] at hf
    rw [h, hf.1, hf.2]
    decide
  · rw [h, if_neg (by decide)] at hf
    rw [h]
    split at hf
    · rename_i h0
      simp only [decide_eq_true_eq] at hf
      rw [hf, h0]
      decide
    · rename_i h0
      simp only [decide_eq_true_eq] at hf
      rw [hf]
      simp [h0]
mutual
theorem snd_of {rs : List Rl} (r : Rl) : ∀ t : T, Asks rs r (nam t) → (∀ n ∈ nam t, ∃ k, fnd rs n.name = some k ∧ fits n.kind r.sort (sortAt rs k) = true) → lpN (shE rs r) t = 0 → snd rs r.sort (emp rs) t = true
  | .mk k n x st b, ha, hn, hl => by
    have hb := sndL_of r b (isLoop k) true (fun m hm => ha m (nam_sub hm)) (fun m hm => hn m (nam_sub hm)) (by simpa only [lpN] using hl)
    simp only [snd, Bool.and_eq_true]
    refine ⟨?_, ?_, hb.1⟩
    · by_cases h56 : k = 5 ∨ k = 6
      · obtain ⟨j, hj, hf⟩ := hn (.mk k n x st b) (by simp only [nam]; rw [if_pos h56]; simp)
        have := ok_of (n := .mk k n x st b) h56 hj hf
        rw [show okN rs r.sort k n = true from this]
        simp
      · simp [h56]
    · cases hlp : isLoop k with
      | false => rfl
      | true =>
        cases b with
        | nil => rfl
        | cons u l =>
          have := hb.2 hlp rfl u l rfl
          simp only [Bool.not_true, Bool.false_or, this, Bool.not_false]
theorem sndL_of {rs : List Rl} (r : Rl) : ∀ (b : List T) (lp first : Bool), Asks rs r (namL b) → (∀ n ∈ namL b, ∃ k, fnd rs n.name = some k ∧ fits n.kind r.sort (sortAt rs k) = true) → lpNL (shE rs r) lp first b = 0 →
    sndL rs r.sort (emp rs) b = true ∧ (lp = true → first = true → ∀ u l, b = u :: l → thr rs r.sort (emp rs) u = false)
  | [], _, _, _, _, _ => ⟨rfl, fun _ _ u l h => by cases h⟩
  | t :: l, lp, first, ha, hn, hl => by
    simp only [lpNL] at hl
    have ha1 : Asks rs r (nam t) := fun m hm => ha m (by simp only [namL, List.mem_append]; exact .inl hm)
    have h1 := snd_of r t ha1 (fun m hm => hn m (by simp only [namL, List.mem_append]; exact .inl hm)) (by omega)
    have h2 := sndL_of r l lp false (fun m hm => ha m (by simp only [namL, List.mem_append]; exact .inr hm)) (fun m hm => hn m (by simp only [namL, List.mem_append]; exact .inr hm)) (by omega)
    refine ⟨by simp only [sndL, Bool.and_eq_true]; exact ⟨h1, h2.1⟩, fun hlp hf u l' he => ?_⟩
    injection he with he1 he2
    subst he1
    cases hq : thr rs r.sort (emp rs) t with
    | false => rfl
    | true =>
      rw [lp_same rs r t ha1, hq, hlp, hf] at hl
      simp at hl
end
theorem body_snd {rs : List Rl} {i : Nat} {r : Rl} (W : Well rs i r) : snd rs r.sort (emp rs) r.body = true := snd_of r r.body (asks_body rs r) W.nms W.loops
end Go.Proofs.YtmcpemohemeecaaDoor.Ck
