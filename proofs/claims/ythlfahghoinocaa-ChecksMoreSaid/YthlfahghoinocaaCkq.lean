/- Checks: what is wrong with a grammar of which one body is turned: by a name of no rule, by its own name. Nothing of the program's code stands here. -/
import Derived.Test.YthlfahghoinocaaCkp
namespace Go.Proofs.Ythlfahghoinocaa.Ck
open Go Go.RowKit Nd Nu

theorem turn_fnd (rs : List Rl) (i : Nat) (b : T) (n : ByteArray) : fnd (turn rs i b) n = fnd rs n := by
  unfold fnd
  exact fndF_map n _ _ 0 (turn_names rs i b)
theorem turn_agree (rs : List Rl) (i : Nat) (b : T) (s : Int) (l : List T) : Agree rs (turn rs i b) s l := fun n _ => turn_nmd rs i b s n.kind n.name
/-- A name as a node. -/
def leafT (k : Int) (n : ByteArray) : T := .mk k n ⟨#[]⟩ [] []
/-- One node ahead of another one. -/
def bothT (a b : T) : T := .mk 1 ⟨#[]⟩ ⟨#[]⟩ [] [a, b]
theorem nam_leaf {k : Int} (h : k = 5 ∨ k = 6) (n : ByteArray) : nam (leafT k n) = [leafT k n] := by
  unfold leafT
  simp only [nam, namL]
  rw [if_pos h]
  rfl
theorem nam_both (a b : T) : nam (bothT a b) = nam a ++ nam b := by simp [bothT, nam, namL]
theorem rch_allT (rs : List Rl) (s : Int) (e : List Bool) (t : T) (x : Nat) : x ∈ rch rs s e (allT t) ↔ ∃ n ∈ nam t, nmd rs s 6 n.name = some x := by
  have key : ∀ l : List T, x ∈ rchO rs s e (l.map fun n => .mk 6 n.name ⟨#[]⟩ [] []) ↔ ∃ n ∈ l, nmd rs s 6 n.name = some x := by
    intro l
    induction l with
    | nil => simp [rchO]
    | cons q r ih =>
      simp only [List.map_cons, rchO, List.mem_append, ih, List.mem_cons, exists_eq_or_imp]
      refine or_congr ?_ Iff.rfl
      simp only [rch]
      cases h : nmd rs s 6 q.name with
      | none => simp
      | some y => simp [eq_comm]
  have : rch rs s e (allT t) = rchO rs s e ((nam t).map fun n => .mk 6 n.name ⟨#[]⟩ [] []) := by
    unfold allT
    simp [rch]
  rw [this]
  exact key _
theorem stp_nm (rs : List Rl) {j : Nat} {q : Rl} (hq : rs[j]? = some q) (x : Nat) : x ∈ (stp (nmR rs)).getD j [] ↔ ∃ n ∈ nam q.body, nmd rs q.sort 6 n.name = some x := by
  rw [stp_at (nmR_at hq)]
  rw [rch_allT]
  refine exists_congr fun n => and_congr Iff.rfl ?_
  rw [nmR_nmd]
theorem rulesF_first (R : List Rl) : ∀ (l : List Rl) (k i : Nat) (r : Rl), l[i]? = some r → (∀ j, j < i → ∀ q, l[j]? = some q → rulP R (k + j) q = []) → ∃ rest, rulesF R k l = rulP R (k + i) r ++ rest
  | [], _, i, _, h, _ => by simp at h
  | q :: l, k, 0, r, h, _ => by
    obtain rfl : q = r := by simpa using h
    exact ⟨rulesF R (k + 1) l, rfl⟩
  | q :: l, k, i + 1, r, h, h0 => by
    obtain ⟨rest, he⟩ := rulesF_first R l (k + 1) i r (by simpa using h) (fun j hj p hp => by
      have := h0 (j + 1) (by omega) p (by simpa using hp)
      rw [show k + 1 + j = k + (j + 1) by omega]
      exact this)
    refine ⟨rest, ?_⟩
    simp only [rulesF]
    rw [he, show rulP R k q = [] from by simpa using h0 0 (by omega) q rfl, List.nil_append, show k + 1 + i = k + (i + 1) by omega]
/-- A name of no rule behind a rule's body: that is told, ahead of all else. -/
theorem chk_none {rs : List Rl} (hc : chk rs = []) {i : Nat} {r : Rl} (hr : rs[i]? = some r) {k : Int} (hk : k = 5 ∨ k = 6) {z : ByteArray} (hz : fnd rs z = none) : ∃ rest, chk (turn rs i (bothT r.body (leafT k z))) = ⟨2, i, z⟩ :: rest := by
  obtain ⟨hst, hw⟩ := fine_of hc
  have hi := (List.getElem?_eq_some_iff.1 hr).1
  have hzn : ∀ s k, nmd rs s k z = none := fun s k => by unfold nmd; rw [hz]
  have hleaf : ∀ s e, thr rs s e (leafT k z) = false := fun s e => by
    unfold leafT
    simp only [thr, hzn]
    rcases hk with rfl | rfl <;> simp
  have hthr : ∀ e, thr rs r.sort e (bothT r.body (leafT k z)) = false := fun e => by simp [bothT, thr, thrA, hleaf]
  have hrl : ∀ s e, rch rs s e (leafT k z) = [] := fun s e => by
    unfold leafT
    simp only [rch, hzn]
    rcases hk with rfl | rfl <;> simp
  have hrch : ∀ e x, x ∈ rch rs r.sort e (bothT r.body (leafT k z)) → x ∈ rch rs r.sort e r.body := fun e x hx => by
    simp only [bothT, rch, rchA, hrl] at hx
    simpa using hx
  obtain ⟨l1, l2⟩ := turn_less rs hr (bothT r.body (leafT k z)) hthr
  have hat := turn_at rs hr (bothT r.body (leafT k z))
  have hoth : ∀ j, i ≠ j → (turn rs i (bothT r.body (leafT k z)))[j]? = rs[j]? := fun j h => turn_other rs i j _ h
  have hlen := turn_len rs i (bothT r.body (leafT k z))
  have hfn : ∀ n, fnd (turn rs i (bothT r.body (leafT k z))) n = fnd rs n := turn_fnd rs i _
  have hso : ∀ n, sortAt (turn rs i (bothT r.body (leafT k z))) n = sortAt rs n := turn_sort rs i _
  have hnd : ∀ s m n, nmd (turn rs i (bothT r.body (leafT k z))) s m n = nmd rs s m n := turn_nmd rs i (bothT r.body (leafT k z))
  have hth : ∀ s t, thr (turn rs i (bothT r.body (leafT k z))) s (emp (turn rs i (bothT r.body (leafT k z)))) t = true → thr rs s (emp rs) t = true := fun s t h => thr_mono rs s l2 t (by rw [← turn_thr rs i (bothT r.body (leafT k z))]; exact h)
  have hag : ∀ s l, Agree rs (turn rs i (bothT r.body (leafT k z))) s l := turn_agree rs i _
  generalize turn rs i (bothT r.body (leafT k z)) = R at *
  have hsub : ∀ j x, j < rs.length → x ∈ (stp R).getD j [] → x < rs.length ∧ x ∈ (stp rs).getD j [] := by
    intro j x hj hx
    obtain ⟨q, hq⟩ : ∃ q, rs[j]? = some q := ⟨_, List.getElem?_eq_getElem hj⟩
    have h2 : x ∈ (stp rs).getD j [] := by
      rw [stp_at hq]
      by_cases e : i = j
      · subst e
        rw [hr] at hq
        injection hq with hq
        subst hq
        rw [stp_at hat] at hx
        exact hrch _ x (rch_sub rs R r.sort (hth r.sort) _ (hag _ _) x hx)
      · rw [stp_at (rs := R) (r := q) (by rw [hoth j e]; exact hq)] at hx
        exact rch_sub rs R q.sort (hth q.sort) _ (hag _ _) x hx
    exact ⟨stp_lt rs j x h2, h2⟩
  have hsubn : ∀ j x, j < (nmR rs).length → x ∈ (stp (nmR R)).getD j [] → x < (nmR rs).length ∧ x ∈ (stp (nmR rs)).getD j [] := by
    intro j x hj hx
    rw [nmR_len] at hj
    obtain ⟨q, hq⟩ : ∃ q, rs[j]? = some q := ⟨_, List.getElem?_eq_getElem hj⟩
    have h2 : x ∈ (stp (nmR rs)).getD j [] := by
      rw [stp_nm rs hq]
      by_cases e : i = j
      · subst e
        rw [hr] at hq
        injection hq with hq
        subst hq
        rw [stp_nm R hat] at hx
        obtain ⟨n, hn, hx⟩ := hx
        rw [hnd] at hx
        rw [nam_both, nam_leaf hk] at hn
        rcases List.mem_append.1 hn with hn | hn
        · exact ⟨n, hn, hx⟩
        · simp only [List.mem_singleton] at hn
          subst hn
          rw [show (leafT k z).name = z from rfl, hzn] at hx
          cases hx
      · rw [stp_nm R (q := q) (by rw [hoth j e]; exact hq)] at hx
        obtain ⟨n, hn, hx⟩ := hx
        rw [hnd] at hx
        exact ⟨n, hn, hx⟩
    exact ⟨stp_lt (nmR rs) j x h2, h2⟩
  have hone : ∀ j, j < i → ∀ q, R[j]? = some q → rulP R (0 + j) q = [] := by
    intro j hj q hq
    rw [hoth j (by omega)] at hq
    have W := hw j q hq
    have hjl : j < rs.length := by omega
    rw [Nat.zero_add]
    have hno : ∀ (b : Bool), (b = true → False) → b = false := fun b h => by cases b with | false => rfl | true => exact (h rfl).elim
    rw [rulP_rest (rs := R) (i := j) (r := q) (fun n hn => by
        obtain ⟨m, hm, hf⟩ := W.nms n hn
        exact ⟨m, by rw [hfn]; exact hm, by rw [hso]; exact hf⟩)
      (fun h => hno _ fun ht => by
        have := (rea_sub (rs := rs) (rs2 := R) (by omega) hjl hsub j ht).2
        rw [W.left h] at this
        cases this)
      (hno _ fun ht => by
        have := (rea_sub (rs := nmR rs) (rs2 := nmR R) (by rw [nmR_len]; omega) (by rw [nmR_len]; exact hjl) hsubn j ht).2
        rw [W.round] at this
        cases this)
      (lz_mono rs R q.sort q.body (fun u _ h => hth q.sort u h) (hag _ _) (well_lz W))
      (fun h => hno _ fun ht => by
        have := l2 j ht
        rw [W.full h] at this
        cases this)
      (j := j) (by rw [hfn]; exact W.one)]
    simp
  obtain ⟨rest, he⟩ := rulesF_first R R 0 i _ hat hone
  have W := hw i r hr
  have hp : ∃ rest, rulP R (0 + i) { r with body := bothT r.body (leafT k z) } = ⟨2, i, z⟩ :: rest := by
    rw [Nat.zero_add]
    have h1 : noneP R i (nam (bothT r.body (leafT k z))) = [⟨2, i, z⟩] := by
      rw [nam_both, nam_leaf hk]
      unfold noneP
      rw [List.filterMap_append]
      have h0 : (nam r.body).filterMap (fun n => if fnd R n.name = none then some (⟨2, i, n.name⟩ : Pr) else none) = [] := by
        rw [List.filterMap_eq_nil_iff]
        intro n hn
        obtain ⟨m, hm, _⟩ := W.nms n hn
        simp [hfn, hm]
      rw [h0]
      simp [leafT, Nd.T.name, hfn, hz]
    unfold rulP
    dsimp only
    rw [hfn, W.one, h1]
    dsimp only
    rw [if_neg (Nat.lt_irrefl _)]
    exact ⟨_, rfl⟩
  obtain ⟨rest2, hp⟩ := hp
  unfold chk
  rw [he, hp]
  exact ⟨_, rfl⟩
theorem rulesF_mem (R : List Rl) : ∀ (l : List Rl) (k : Nat) (p : Pr), p ∈ rulesF R k l ↔ ∃ j q, l[j]? = some q ∧ p ∈ rulP R (k + j) q
  | [], _, _ => by simp [rulesF]
  | r :: l, k, p => by
    simp only [rulesF, List.mem_append, rulesF_mem R l (k + 1) p]
    constructor
    · rintro (h | ⟨j, q, hq, h⟩)
      · exact ⟨0, r, rfl, h⟩
      · exact ⟨j + 1, q, by simpa using hq, by rw [show k + (j + 1) = k + 1 + j by omega]; exact h⟩
    · rintro ⟨j, q, hq, h⟩
      cases j with
      | zero =>
        obtain rfl : r = q := by simpa using hq
        exact .inl h
      | succ j => exact .inr ⟨j, q, by simpa using hq, by rw [show k + 1 + j = k + (j + 1) by omega]; exact h⟩
/-- What names a rule is not told to name none. -/
theorem chk_other (R : List Rl) {z : ByteArray} {m : Nat} (hz : fnd R z = some m) : ∀ p ∈ chk R, ¬ (p.code = 2 ∧ p.name.toList = z.toList) := by
  rintro p hp ⟨h2, hn⟩
  have hfz : ∀ a b : ByteArray, a.toList = b.toList → fnd R a = fnd R b := fun a b h => by
    have key : ∀ (l : List Rl) (k : Nat), fndF a k l = fndF b k l := by
      intro l
      induction l with
      | nil => intro k; rfl
      | cons r l ih => intro k; simp only [fndF, h, ih]
    exact key R 0
  unfold chk at hp
  rcases List.mem_append.1 hp with hp | hp
  · rw [rulesF_mem] at hp
    obtain ⟨j, q, _, hp⟩ := hp
    have hrep : ∀ n : Nat, p ∈ List.replicate n (⟨6, ((0 + j : Nat) : Int), q.name⟩ : Pr) → p.code = 6 := fun n h => by rw [(List.mem_replicate.1 h).2]
    have hif : ∀ (c : Prop) [Decidable c] (x : Pr), p ∈ (if c then [x] else []) → p = x := fun c _ x h => by split at h <;> simp at h; exact h
    unfold rulP at hp
    simp only [List.mem_append] at hp
    rcases hp with (((((hp | hp) | hp) | hp) | hp) | hp) | hp
    · have : p = ⟨1, ((0 + j : Nat) : Int), q.name⟩ := by
        cases hf : fnd R q.name with
        | none => rw [hf] at hp; simpa using hp
        | some w => rw [hf] at hp; exact hif _ _ hp
      rw [this] at h2
      dsimp only at h2; omega
    · unfold noneP at hp
      obtain ⟨n, _, hn2⟩ := List.mem_filterMap.1 hp
      split at hn2
      · rename_i h0
        injection hn2 with hn2
        rw [← hn2] at hn
        rw [hfz _ _ hn, hz] at h0
        cases h0
      · cases hn2
    · unfold sortP at hp
      obtain ⟨n, _, hn2⟩ := List.mem_filterMap.1 hp
      split at hn2
      · injection hn2 with hn2
        rw [← hn2] at h2
        dsimp only at h2; omega
      · cases hn2
    · rw [hif _ _ hp] at h2; dsimp only at h2; omega
    · rw [hif _ _ hp] at h2; dsimp only at h2; omega
    · rw [hrep _ hp] at h2; omega
    · rw [hif _ _ hp] at h2; dsimp only at h2; omega
  · split at hp
    · simp only [List.mem_singleton] at hp
      rw [hp] at h2
      dsimp only at h2; omega
    · cases hp
/-- A rule's own name ahead of its body: that it begins with itself, or is part of itself, is told. -/
theorem chk_self {rs : List Rl} (hc : chk rs = []) {i : Nat} {r : Rl} (hr : rs[i]? = some r) : ∃ p ∈ chk (turn rs i (bothT (leafT (if r.sort = 0 then 5 else 6) r.name) r.body)), p.rule = i ∧ (p.code = 4 ∨ p.code = 5) := by
  obtain ⟨_, hw⟩ := fine_of hc
  have W := hw i r hr
  have hi := (List.getElem?_eq_some_iff.1 hr).1
  have hat := turn_at rs hr (bothT (leafT (if r.sort = 0 then 5 else 6) r.name) r.body)
  have hlen := turn_len rs i (bothT (leafT (if r.sort = 0 then 5 else 6) r.name) r.body)
  have hnd : ∀ s k n, nmd (turn rs i (bothT (leafT (if r.sort = 0 then 5 else 6) r.name) r.body)) s k n = nmd rs s k n := turn_nmd rs i (bothT (leafT (if r.sort = 0 then 5 else 6) r.name) r.body)
  have hsi : sortAt rs i = r.sort := sortAt_some hr
  generalize turn rs i (bothT (leafT (if r.sort = 0 then 5 else 6) r.name) r.body) = R at *
  have hin : ∀ p : Pr, p ∈ rulP R i { r with body := bothT (leafT (if r.sort = 0 then 5 else 6) r.name) r.body } → p ∈ chk R := fun p hp => by
    unfold chk
    exact List.mem_append.2 (.inl ((rulesF_mem R R 0 p).2 ⟨i, _, hat, by rw [Nat.zero_add]; exact hp⟩))
  by_cases h0 : r.sort = 0
  · have hrea : reaAt R i i = true := by
      refine rea_step R (by omega) ?_
      rw [stp_at hat]
      simp only [h0, if_true, bothT, rch, rchA, leafT, List.mem_append]
      left
      rw [hnd]
      unfold nmd
      rw [W.one]
      simp [hsi, h0]
    refine ⟨⟨4, i, r.name⟩, hin _ ?_, rfl, .inl rfl⟩
    unfold rulP
    simp only [List.mem_append]
    refine .inl (.inl (.inl (.inr ?_)))
    rw [if_pos ⟨h0, hrea⟩]
    simp
  · have hrea : reaAt (nmR R) i i = true := by
      refine rea_step (nmR R) (by rw [nmR_len]; omega) ?_
      rw [stp_nm R hat]
      refine ⟨leafT (if r.sort = 0 then 5 else 6) r.name, ?_, ?_⟩
      · rw [nam_both, nam_leaf (by rw [if_neg h0]; exact .inr rfl)]
        simp
      · rw [hnd]
        unfold nmd
        rw [show (leafT (if r.sort = 0 then 5 else 6) r.name).name = r.name from rfl, W.one]
        simp [hsi, h0]
    refine ⟨⟨5, i, r.name⟩, hin _ ?_, rfl, .inr rfl⟩
    unfold rulP
    simp only [List.mem_append]
    refine .inl (.inl (.inr ?_))
    rw [if_pos hrea]
    simp
end Go.Proofs.Ythlfahghoinocaa.Ck
