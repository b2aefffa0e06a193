/- What follows from what is empty and what is reached: pure lemmas. Nothing of the program's code stands here. -/
import Derived.Test.YtmcpemohemeecaaDoorNuM
import Derived.Test.YtmcpemohemeecaaDoorNuA
namespace Go.Proofs.YtmcpemohemeecaaDoor.Nu
open Go Go.RowKit Nd

theorem getD_set (l : List Bool) (i k : Nat) (b : Bool) (hi : i < l.length) : (l.set i b).getD k false = if i = k then b else l.getD k false := by
  rw [List.getD_eq_getElem?_getD, List.getD_eq_getElem?_getD, List.getElem?_set]
  split
  · rfl
  · rfl
mutual
/-- What may be empty by some may be so by more. -/
theorem thr_mono (rs : List Rl) (s : Int) {e e' : List Bool} (h : Le e e') : ∀ t : T, thr rs s e t = true → thr rs s e' t = true
  | .mk k n x y b => by
    have h1 := thrA_mono rs s h b
    have h2 := thrO_mono rs s h b
    simp only [thr]
    intro H
    split at H
    · rw [if_pos (by assumption)]; exact h1 H
    · rw [if_neg (by assumption)]
      split at H
      · rw [if_pos (by assumption)]; exact h2 H
      · rw [if_neg (by assumption)]
        split at H
        · rw [if_pos (by assumption)]
        · rw [if_neg (by assumption)]
          split at H
          · rw [if_pos (by assumption)]; exact H
          · rw [if_neg (by assumption)]
            split at H
            · rw [if_pos (by assumption)]
              cases hn : nmd rs s k n with
              | none => rw [hn] at H; cases H
              | some i => rw [hn] at H; exact h i H
            · cases H
theorem thrA_mono (rs : List Rl) (s : Int) {e e' : List Bool} (h : Le e e') : ∀ b : List T, thrA rs s e b = true → thrA rs s e' b = true
  | [] => fun _ => by simp [thrA]
  | t :: r => by
    have h1 := thr_mono rs s h t
    have h2 := thrA_mono rs s h r
    simp only [thrA, Bool.and_eq_true]
    exact fun ⟨a, b⟩ => ⟨h1 a, h2 b⟩
theorem thrO_mono (rs : List Rl) (s : Int) {e e' : List Bool} (h : Le e e') : ∀ b : List T, thrO rs s e b = true → thrO rs s e' b = true
  | [] => fun H => by simp [thrO] at H
  | t :: r => by
    have h1 := thr_mono rs s h t
    have h2 := thrO_mono rs s h r
    simp only [thrO, Bool.or_eq_true]
    exact fun H => H.elim (fun a => .inl (h1 a)) (fun b => .inr (h2 b))
end
/-- e holds all that it asks for. -/
def Closed (rs : List Rl) (e : List Bool) : Prop := ∀ (i : Nat) (r : Rl), rs[i]? = some r → thr rs r.sort e r.body = true → e.getD i false = true
/-- All that e holds is asked for. -/
def Founded (rs : List Rl) (e : List Bool) : Prop := ∀ (i : Nat) (r : Rl), rs[i]? = some r → e.getD i false = true → thr rs r.sort e r.body = true
theorem drop_tail {α : Type} {l : List α} {k : Nat} {r : α} {m : List α} (h : l.drop k = r :: m) : l[k]? = some r ∧ l.drop (k + 1) = m := by
  have h1 : (l.drop k)[0]? = some r := by rw [h]; rfl
  rw [List.getElem?_drop, Nat.add_zero] at h1
  refine ⟨h1, ?_⟩
  have : (l.drop k).drop 1 = m := by rw [h]; rfl
  rwa [List.drop_drop] at this
theorem pass_founded (rs : List Rl) : ∀ (l : List Rl) (k : Nat) (e : List Bool) (g : Bool), rs.drop k = l → rs.length = e.length → Founded rs e → Founded rs (pass rs k e g l).1
  | [], _, _, _, _, _, h => h
  | r :: l, k, e, g, hd, hl, h => by
    obtain ⟨hr, hd'⟩ := drop_tail hd
    have hk := (List.getElem?_eq_some_iff.1 hr).1
    simp only [pass]
    split
    · rename_i hc
      refine pass_founded rs l (k + 1) _ true hd' (by simpa using hl) ?_
      intro i q hq hi
      have hm : Le e (e.set k true) := Le.set e k
      rw [getD_set e k i true (by omega)] at hi
      split at hi
      · rename_i hik
        subst hik
        rw [hr] at hq
        injection hq with hq
        subst hq
        exact thr_mono rs _ hm _ hc.2
      · exact thr_mono rs _ hm _ (h i q hq hi)
    · exact pass_founded rs l (k + 1) e g hd' hl h
theorem pass_least (rs : List Rl) (E : List Bool) (hE : Closed rs E) : ∀ (l : List Rl) (k : Nat) (e : List Bool) (g : Bool), rs.drop k = l → rs.length = e.length → Le e E → Le (pass rs k e g l).1 E
  | [], _, _, _, _, _, h => h
  | r :: l, k, e, g, hd, hl, h => by
    obtain ⟨hr, hd'⟩ := drop_tail hd
    have hk := (List.getElem?_eq_some_iff.1 hr).1
    simp only [pass]
    split
    · rename_i hc
      refine pass_least rs E hE l (k + 1) _ true hd' (by simpa using hl) ?_
      intro i hi
      rw [getD_set e k i true (by omega)] at hi
      split at hi
      · rename_i hik
        subst hik
        exact hE k r hr (thr_mono rs _ h _ hc.2)
      · exact h i hi
    · exact pass_least rs E hE l (k + 1) e g hd' hl h
/-- A round that changes nothing has found nothing to be changed. -/
theorem pass_still (rs : List Rl) : ∀ (l : List Rl) (k : Nat) (e : List Bool) (g : Bool), rs.drop k = l → (pass rs k e g l).2 = false → g = false ∧ (pass rs k e g l).1 = e ∧
    ∀ (i : Nat) (r : Rl), k ≤ i → rs[i]? = some r → thr rs r.sort e r.body = true → e.getD i false = true
  | [], k, e, g, hd, h => by
    refine ⟨h, rfl, fun i r hki hr _ => ?_⟩
    have := List.drop_eq_nil_iff.1 hd
    have := (List.getElem?_eq_some_iff.1 hr).1
    omega
  | r :: l, k, e, g, hd, h => by
    obtain ⟨hr, hd'⟩ := drop_tail hd
    simp only [pass] at h ⊢
    split at h
    · have := (pass_still rs l (k + 1) _ true hd' h).1
      cases this
    · rename_i hc
      rw [if_neg hc]
      obtain ⟨h1, h2, h3⟩ := pass_still rs l (k + 1) e g hd' h
      refine ⟨h1, h2, fun i q hki hq ht => ?_⟩
      by_cases hik : k = i
      · subst hik
        rw [hr] at hq
        injection hq with hq
        subst hq
        cases he : e.getD k false with
        | true => rfl
        | false => exact absurd ⟨he, ht⟩ hc
      · exact h3 i q (by omega) hq ht
theorem grow_spec (rs : List Rl) : ∀ (f : Nat) (e : List Bool), rs.length = e.length → lack e < f → Founded rs e → Founded rs (grow rs f e) ∧ Closed rs (grow rs f e) ∧ ∀ E, Closed rs E → Le e E → Le (grow rs f e) E
  | 0, _, _, h, _ => by omega
  | f + 1, e, hl, hf, h => by
    have hF := pass_founded rs rs 0 e false rfl hl h
    have hlen := pass_len rs rs 0 e false
    simp only [grow]
    split
    · rename_i hc
      have hlk := (pass_lack rs rs 0 e false (by omega)).2 rfl hc
      obtain ⟨g1, g2, g3⟩ := grow_spec rs f _ (by rw [hlen]; exact hl) (by omega) hF
      exact ⟨g1, g2, fun E hE he => g3 E hE (pass_least rs E hE rs 0 e false rfl hl he)⟩
    · rename_i hc
      obtain ⟨_, h2, h3⟩ := pass_still rs rs 0 e false rfl (by simpa using hc)
      rw [h2]
      exact ⟨h, fun i r hr ht => h3 i r (Nat.zero_le _) hr ht, fun E _ he => he⟩
theorem getD_rep (n i : Nat) : (List.replicate n false).getD i false = false := by
  rw [List.getD_eq_getElem?_getD, List.getElem?_replicate]
  split <;> rfl
theorem emp_spec (rs : List Rl) : Founded rs (emp rs) ∧ Closed rs (emp rs) ∧ ∀ E, Closed rs E → Le (emp rs) E := by
  have hlk := lack_le (List.replicate rs.length false)
  obtain ⟨h1, h2, h3⟩ := grow_spec rs (rs.length + 1) (List.replicate rs.length false) (by simp) (by simp at hlk; omega) (fun i r _ h => by rw [getD_rep] at h; cases h)
  exact ⟨h1, h2, fun E hE => h3 E hE (fun i h => by rw [getD_rep] at h; cases h)⟩
/-- A rule may be empty just if its body may. -/
theorem emp_is (rs : List Rl) {i : Nat} {r : Rl} (hr : rs[i]? = some r) : thr rs r.sort (emp rs) r.body = (emp rs).getD i false := by
  obtain ⟨h1, h2, _⟩ := emp_spec rs
  cases h : (emp rs).getD i false with
  | true => exact h1 i r hr h
  | false =>
    cases ht : thr rs r.sort (emp rs) r.body with
    | false => rfl
    | true => rw [h2 i r hr ht] at h; cases h
theorem le_len {a b : List Bool} (hl : a.length = b.length) (h1 : Le a b) (h2 : Le b a) : a = b := by
  apply List.ext_getElem hl
  intro i ha hb
  have e1 : a.getD i false = a[i] := by rw [List.getD_eq_getElem?_getD, List.getElem?_eq_getElem ha]; rfl
  have e2 : b.getD i false = b[i] := by rw [List.getD_eq_getElem?_getD, List.getElem?_eq_getElem hb]; rfl
  have k1 := h1 i
  have k2 := h2 i
  rw [e1, e2] at k1
  rw [e1, e2] at k2
  cases ha' : a[i] <;> cases hb' : b[i] <;> simp_all

/-! ### What is reached by one that is reached is reached -/

/-- m is closed under the rows of those in D. -/
def Under (ss : List (List Nat)) (m m' : List Bool) : Prop := ∀ t : Nat, m'.getD t false = true → m.getD t false = false → ∀ x ∈ ss.getD t [], m'.getD x false = true
theorem spr_spec (ss : List (List Nat)) : ∀ (f : Nat) (l : List Nat) (m : List Bool), lack m ≤ f → (∀ x ∈ l, x < m.length) → (∀ (t : Nat), ∀ x ∈ ss.getD t [], x < m.length) →
    (∀ x ∈ l, (spr ss f l m).getD x false = true) ∧ Under ss m (spr ss f l m) ∧ ∀ E : List Bool, Le m E → (∀ x ∈ l, E.getD x false = true) → (∀ t, E.getD t false = true → ∀ x ∈ ss.getD t [], E.getD x false = true) → Le (spr ss f l m) E
  | 0, [], m, _, _, _ => by rw [spr_nil]; exact ⟨by simp, (by intro t h1 h2; rw [h1] at h2; cases h2), fun E h _ _ => h⟩
  | f + 1, [], m, _, _, _ => by rw [spr_nil]; exact ⟨by simp, (by intro t h1 h2; rw [h1] at h2; cases h2), fun E h _ _ => h⟩
  | 0, t :: l, m, hf, hl, hs => by
    have ht : m.getD t false = true := by
      cases h : m.getD t false with
      | true => rfl
      | false => have := lack_set m t (hl t (by simp)) h; omega
    have e : spr ss 0 (t :: l) m = spr ss 0 l m := by simp only [spr]; rw [if_pos ht]
    rw [e]
    obtain ⟨h1, h2, h3⟩ := spr_spec ss 0 l m hf (fun x hx => hl x (by simp [hx])) hs
    refine ⟨fun x hx => ?_, h2, fun E a b c => h3 E a (fun x hx => b x (by simp [hx])) c⟩
    rcases List.mem_cons.1 hx with rfl | hx
    · exact spr_le ss 0 l m _ ht
    · exact h1 x hx
  | f + 1, t :: l, m, hf, hl, hs => by
    by_cases ht : m.getD t false = true
    · have e : spr ss (f + 1) (t :: l) m = spr ss (f + 1) l m := by simp only [spr]; rw [if_pos ht]
      rw [e]
      obtain ⟨h1, h2, h3⟩ := spr_spec ss (f + 1) l m hf (fun x hx => hl x (by simp [hx])) hs
      refine ⟨fun x hx => ?_, h2, fun E a b c => h3 E a (fun x hx => b x (by simp [hx])) c⟩
      rcases List.mem_cons.1 hx with rfl | hx
      · exact spr_le ss (f + 1) l m _ ht
      · exact h1 x hx
    · have htf : m.getD t false = false := by simpa using ht
      have htl := hl t (by simp)
      have hls := lack_set m t htl htf
      have e : spr ss (f + 1) (t :: l) m = spr ss (f + 1) l (spr ss f (ss.getD t []) (m.set t true)) := by simp only [spr]; rw [if_neg ht]
      rw [e]
      have hlen : (spr ss f (ss.getD t []) (m.set t true)).length = m.length := by rw [spr_len]; simp
      obtain ⟨a1, a2, a3⟩ := spr_spec ss f (ss.getD t []) (m.set t true) (by omega) (fun x hx => by simpa using hs t x hx) (fun u x hx => by simpa using hs u x hx)
      have hlk : lack (spr ss f (ss.getD t []) (m.set t true)) ≤ lack (m.set t true) := lack_mono _ _ (by rw [spr_len]) (spr_le ss f _ _)
      obtain ⟨b1, b2, b3⟩ := spr_spec ss (f + 1) l (spr ss f (ss.getD t []) (m.set t true)) (by omega) (fun x hx => by rw [hlen]; exact hl x (by simp [hx])) (fun u x hx => by rw [hlen]; exact hs u x hx)
      have up := spr_le ss (f + 1) l (spr ss f (ss.getD t []) (m.set t true))
      have up1 := spr_le ss f (ss.getD t []) (m.set t true)
      have htt : (m.set t true).getD t false = true := by rw [getD_set m t t true htl, if_pos rfl]
      refine ⟨fun x hx => ?_, fun u hu hmu x hx => ?_, fun E c1 c2 c3 => ?_⟩
      · rcases List.mem_cons.1 hx with rfl | hx
        · exact up _ (up1 _ htt)
        · exact b1 x hx
      · by_cases hu2 : (spr ss f (ss.getD t []) (m.set t true)).getD u false = true
        · by_cases hut : t = u
          · subst hut
            exact up _ (a1 x hx)
          · have : (m.set t true).getD u false = false := by rw [getD_set m t u true htl, if_neg hut]; exact hmu
            exact up _ (a2 u hu2 this x hx)
        · exact b2 u hu (by simpa using hu2) x hx
      · have cE : Le (m.set t true) E := fun i hi => by
          rw [getD_set m t i true htl] at hi
          split at hi
          · rename_i h; subst h; exact c2 t (by simp)
          · exact c1 i hi
        exact b3 E (a3 E cE (c3 t (c2 t (by simp))) c3) (fun x hx => c2 x (by simp [hx])) c3
theorem stp_lt (rs : List Rl) (t : Nat) : ∀ x ∈ (stp rs).getD t [], x < rs.length := by
  intro x hx
  rw [List.getD_eq_getElem?_getD] at hx
  cases h : (stp rs)[t]? with
  | none => rw [h] at hx; simp at hx
  | some l =>
    rw [h] at hx
    simp only [stp, List.getElem?_map] at h
    cases hr : rs[t]? with
    | none => rw [hr] at h; cases h
    | some r =>
      rw [hr] at h
      injection h with h
      subst h
      exact rch_lt rs _ _ _ x hx
def reaAt (rs : List Rl) (i k : Nat) : Bool := ((rea rs).getD i []).getD k false
theorem rea_at (rs : List Rl) {i : Nat} (hi : i < rs.length) : (rea rs).getD i [] = spr (stp rs) rs.length ((stp rs).getD i []) (List.replicate rs.length false) := by
  have hs : i < (stp rs).length := by simp [stp, hi]
  have h2 : (stp rs)[i]? = some ((stp rs)[i]) := List.getElem?_eq_getElem hs
  unfold rea
  rw [List.getD_eq_getElem?_getD, List.getElem?_map, h2, List.getD_eq_getElem?_getD, h2]
  rfl
theorem rea_trans (rs : List Rl) {i k n : Nat} (hi : i < rs.length) (hk : k < rs.length) (h1 : reaAt rs i k = true) (h2 : reaAt rs k n = true) : reaAt rs i n = true := by
  unfold reaAt at *
  rw [rea_at rs hi] at h1 ⊢
  rw [rea_at rs hk] at h2
  have hlk := lack_le (List.replicate rs.length false)
  simp only [List.length_replicate] at hlk
  obtain ⟨a1, a2, _⟩ := spr_spec (stp rs) rs.length ((stp rs).getD i []) (List.replicate rs.length false) hlk (by simpa using stp_lt rs i) (fun t x hx => by simpa using stp_lt rs t x hx)
  obtain ⟨_, _, b3⟩ := spr_spec (stp rs) rs.length ((stp rs).getD k []) (List.replicate rs.length false) hlk (by simpa using stp_lt rs k) (fun t x hx => by simpa using stp_lt rs t x hx)
  have hcl : ∀ t, (spr (stp rs) rs.length ((stp rs).getD i []) (List.replicate rs.length false)).getD t false = true → ∀ x ∈ (stp rs).getD t [], (spr (stp rs) rs.length ((stp rs).getD i []) (List.replicate rs.length false)).getD x false = true :=
    fun t ht x hx => a2 t ht (getD_rep _ _) x hx
  exact b3 _ (fun j hj => by rw [getD_rep] at hj; cases hj) (hcl k h1) hcl n h2
theorem rea_none (rs : List Rl) {i : Nat} (hi : i < rs.length) (h : (stp rs).getD i [] = []) (k : Nat) : reaAt rs i k = false := by
  unfold reaAt
  rw [rea_at rs hi, h, spr_nil, getD_rep]
end Go.Proofs.YtmcpemohemeecaaDoor.Nu
