/- Lexers, pure: tables as lists, what begins at a place, an input's tokens. Nothing of the program stands here. -/
import Derived.Test.YtagbpkabfjnplaaDoorRuO
import Derived.Test.YtagbpkabfjnplaaDoorRnP
namespace Go.Proofs.YtagbpkabfjnplaaDoor.Lx
open Go Go.Lib Ru

/-- A table: ranges, their columns, the next states, what ends. -/
structure Tb where
  rs : List (Int × Int)
  cs : List Int
  ns : List (List Int)
  es : List Int
/-- The place of the first range that holds a number. -/
def clF (x : Int) : Nat → List (Int × Int) → Option Nat
  | _, [] => none
  | p, r :: t => if r.1 ≤ x ∧ x ≤ r.2 then some p else clF x (p + 1) t
theorem clF_lt (x : Int) : ∀ (l : List (Int × Int)) (p i : Nat), clF x p l = some i → p ≤ i ∧ i < p + l.length
  | [], p, i, h => by simp [clF] at h
  | r :: t, p, i, h => by
    simp only [clF] at h
    split at h
    · injection h with h; simp; omega
    · have := clF_lt x t (p + 1) i h; simp; omega
/-- Where a state leads. -/
def stp (t : Tb) (st x : Int) : Int :=
  if st < 0 ∨ (t.ns.length : Int) ≤ st then -1 else
  match clF x 0 t.rs with
  | none => -1
  | some i =>
    if t.cs.length ≤ i then -1 else
    if t.cs.getD i 0 < 0 ∨ ((t.ns.getD st.toNat []).length : Int) ≤ t.cs.getD i 0 then -1 else
    (t.ns.getD st.toNat []).getD (t.cs.getD i 0).toNat 0
/-- Do ranges rise? -/
def apB : Option Int → List (Int × Int) → Bool
  | _, [] => true
  | none, r :: l => decide (r.1 ≤ r.2) && apB (some r.2) l
  | some h, r :: l => decide (r.1 ≤ r.2) && (decide (h < r.1) && apB (some r.2) l)
/-- Columns that are filled: which of them, how many. -/
def filL : List Int → List Bool → Nat → Option (List Bool × Nat)
  | [], m, n => some (m, n)
  | c :: l, m, n => if c < 0 ∨ (m.length : Int) ≤ c then none else if m.getD c.toNat false = true then filL l m n else filL l (m.set c.toNat true) (n + 1)
def filF (cs : List Int) : Option Nat :=
  match filL cs (List.replicate cs.length false) 0 with
  | none => none
  | some (m, n) => if (m.take n).all id = true then some n else none
def witB (many : Int) : List Int → Bool
  | [] => true
  | x :: l => !(decide (x < -1)) && (!(decide (many ≤ x)) && witB many l)
def rowsB (cols : Nat) (many : Nat) : List (List Int) → List Int → Bool
  | r :: ns, e :: es => decide (r.length = cols) && (witB many r && (!(decide (e < -1)) && rowsB cols many ns es))
  | _, _ => true
/-- May a table be? -/
def mayB (t : Tb) : Bool :=
  apB none t.rs && (decide (t.cs.length = t.rs.length) && (!decide (t.ns.length = 0) && (decide (t.ns.length = t.es.length) &&
  (match filF t.cs with | none => false | some n => rowsB n t.ns.length t.ns t.es))))

/-! ### What may be -/
theorem apB_at : ∀ (l : List (Int × Int)) (o : Option Int), apB o l = true → (∀ r ∈ l, r.1 ≤ r.2) ∧ (∀ h, o = some h → ∀ r ∈ l, h < r.1) ∧ l.Pairwise (fun a b => a.2 < b.1)
  | [], o, _ => by simp
  | r :: l, o, h => by
    have h2 : r.1 ≤ r.2 ∧ (∀ k, o = some k → k < r.1) ∧ apB (some r.2) l = true := by
      cases o with
      | none => simp [apB] at h; exact ⟨h.1, fun k hk => by simp at hk, h.2⟩
      | some k => simp [apB] at h; exact ⟨h.1, fun k' hk => by simp at hk; omega, h.2.2⟩
    obtain ⟨a, b, c⟩ := h2
    obtain ⟨i1, i2, i3⟩ := apB_at l _ c
    have i2 := i2 r.2 rfl
    refine ⟨?_, ?_, ?_⟩
    · intro q hq
      rcases List.mem_cons.1 hq with rfl | hq
      · exact a
      · exact i1 q hq
    · intro k hk q hq
      have := b k hk
      rcases List.mem_cons.1 hq with rfl | hq
      · exact this
      · have := i2 q hq; omega
    · rw [List.pairwise_cons]
      exact ⟨i2, i3⟩
theorem count_set : ∀ (m : List Bool) (i : Nat), i < m.length → m.getD i false = false → (m.set i true).count true = m.count true + 1
  | [], i, h, _ => by simp at h
  | b :: m, 0, _, h => by
    have : b = false := by simpa using h
    subst this
    simp
  | b :: m, i + 1, h, h2 => by
    have := count_set m i (by simpa using h) (by simpa using h2)
    simp only [List.set_cons_succ, List.count_cons, this]
    omega
theorem filL_ok : ∀ (l : List Int) (m m' : List Bool) (n n' : Nat), filL l m n = some (m', n') → m.count true = n →
    m'.count true = n' ∧ m'.length = m.length ∧ (∀ i : Nat, m.getD i false = true → m'.getD i false = true) ∧ ∀ c ∈ l, 0 ≤ c ∧ c < m.length ∧ m'.getD c.toNat false = true
  | [], m, m', n, n', h, hc => by
    simp only [filL, Option.some.injEq, Prod.mk.injEq] at h
    obtain ⟨rfl, rfl⟩ := h
    exact ⟨hc, rfl, fun _ h => h, fun c h => by simp at h⟩
  | c :: l, m, m', n, n', h, hc => by
    simp only [filL] at h
    split at h
    · cases h
    · next hr =>
      split at h
      · next hy =>
        obtain ⟨a, b, d, e⟩ := filL_ok l m m' n n' h hc
        refine ⟨a, b, d, fun x hx => ?_⟩
        rcases List.mem_cons.1 hx with rfl | hx
        · exact ⟨by omega, by omega, d _ hy⟩
        · exact e x hx
      · next hy =>
        have hy : m.getD c.toNat false = false := by simpa using hy
        have hlt : c.toNat < m.length := by omega
        obtain ⟨a, b, d, e⟩ := filL_ok l _ m' _ n' h (by rw [count_set m _ hlt hy, hc])
        rw [List.length_set] at b e
        refine ⟨a, b, fun i hi => d i ?_, fun x hx => ?_⟩
        · by_cases k : c.toNat = i
          · subst k; simp [List.getD, List.getElem?_set, hlt]
          · simp only [List.getD, List.getElem?_set, if_neg k]; exact hi
        · rcases List.mem_cons.1 hx with rfl | hx
          · exact ⟨by omega, by omega, d _ (by simp [List.getD, List.getElem?_set, hlt])⟩
          · exact e x hx
theorem filF_ok {cs : List Int} {n : Nat} (h : filF cs = some n) : ∀ c ∈ cs, 0 ≤ c ∧ c < n := by
  unfold filF at h
  cases hL : filL cs (List.replicate cs.length false) 0 with
  | none => simp [hL] at h
  | some p =>
    obtain ⟨m, k⟩ := p
    simp only [hL] at h
    split at h
    · next ha =>
      injection h with h
      subst h
      obtain ⟨a, b, d, e⟩ := filL_ok cs _ m 0 k hL (by simp [List.count_replicate])
      intro c hc
      obtain ⟨e1, e2, e3⟩ := e c hc
      refine ⟨e1, ?_⟩
      apply Int.not_le.1
      intro hk
      have hlen := List.count_le_length (a := true) (l := m)
      have h1 : (m.take k).count true = k := by
        have hx : ∀ b ∈ m.take k, true = b := fun b hb => ((List.all_eq_true.1 ha) b hb).symm
        rw [List.count_eq_length.2 hx, List.length_take]
        omega
      have h2 : (m.drop k).count true = 0 := by
        have := List.count_append (a := true) (l₁ := m.take k) (l₂ := m.drop k)
        rw [List.take_append_drop] at this
        omega
      have h3 : m.getD c.toNat false ∈ m.drop k := by
        have hl : c.toNat < m.length := by rw [List.length_replicate] at b e2; omega
        rw [List.getD_eq_getElem?_getD, List.getElem?_eq_getElem hl, Option.getD_some]
        have : c.toNat = k + (c.toNat - k) := by omega
        have h4 : m[c.toNat] = (m.drop k)[c.toNat - k]'(by rw [List.length_drop]; omega) := by
          rw [List.getElem_drop]; congr 1
        rw [h4]
        exact List.getElem_mem _
      rw [e3] at h3
      exact absurd h3 (List.count_eq_zero.1 h2)
    · cases h
theorem witB_iff (many : Int) : ∀ l : List Int, witB many l = true ↔ ∀ x ∈ l, -1 ≤ x ∧ x < many
  | [] => by simp [witB]
  | x :: l => by
    simp only [witB, Bool.and_eq_true, Bool.not_eq_true', decide_eq_false_iff_not, witB_iff many l, List.mem_cons, forall_eq_or_imp]
    constructor
    · rintro ⟨a, b, c⟩; exact ⟨by omega, c⟩
    · rintro ⟨a, c⟩; exact ⟨by omega, by omega, c⟩
theorem rowsB_at (cols many : Nat) : ∀ (ns : List (List Int)) (es : List Int), ns.length = es.length → rowsB cols many ns es = true → ∀ i, i < ns.length → (ns.getD i []).length = cols ∧ (∀ x ∈ ns.getD i [], -1 ≤ x ∧ x < many) ∧ -1 ≤ es.getD i 0
  | [], _, _, _, i, h => by simp at h
  | r :: ns, [], hl, _, _, _ => by simp at hl
  | r :: ns, e :: es, hl, h, i, hi => by
    simp only [rowsB, Bool.and_eq_true, decide_eq_true_eq, Bool.not_eq_true', decide_eq_false_iff_not] at h
    obtain ⟨a, b, c, d⟩ := h
    cases i with
    | zero => exact ⟨a, (witB_iff many r).1 b, by simp; omega⟩
    | succ i =>
      have := rowsB_at cols many ns es (by simpa using hl) d i (by simpa using hi)
      simpa using this
/-- What is known of a table that may be. -/
structure May (t : Tb) : Prop where
  low : ∀ r ∈ t.rs, r.1 ≤ r.2
  up : t.rs.Pairwise (fun a b => a.2 < b.1)
  lc : t.cs.length = t.rs.length
  n0 : 0 < t.ns.length
  ne : t.ns.length = t.es.length
  row : ∀ st : Nat, st < t.ns.length → ∀ c ∈ t.cs, 0 ≤ c ∧ c < ((t.ns.getD st []).length : Int)
  val : ∀ st : Nat, st < t.ns.length → ∀ x ∈ t.ns.getD st [], -1 ≤ x ∧ x < (t.ns.length : Int)
  en : ∀ st : Nat, st < t.ns.length → -1 ≤ t.es.getD st 0
theorem mayB_may {t : Tb} (h : mayB t = true) : May t := by
  simp only [mayB, Bool.and_eq_true, decide_eq_true_eq, Bool.not_eq_true', decide_eq_false_iff_not] at h
  obtain ⟨h1, h2, h3, h4, h5⟩ := h
  obtain ⟨a1, _, a3⟩ := apB_at _ _ h1
  cases hf : filF t.cs with
  | none => simp [hf] at h5
  | some n =>
    simp only [hf] at h5
    have hr := rowsB_at n _ _ _ h4 h5
    have hc := filF_ok hf
    exact ⟨a1, a3, h2, by omega, h4, fun st hs c k => by rw [(hr st hs).1]; exact hc c k, fun st hs => (hr st hs).2.1, fun st hs => (hr st hs).2.2⟩
/-- In a table that may be. -/
theorem May.stp {t : Tb} (h : May t) {st x : Int} (h0 : 0 ≤ st) (h1 : st < t.ns.length) :
    stp t st x = match clF x 0 t.rs with | none => -1 | some i => (t.ns.getD st.toNat []).getD (t.cs.getD i 0).toNat 0 := by
  unfold Lx.stp
  rw [if_neg (by omega)]
  cases hc : clF x 0 t.rs with
  | none => rfl
  | some i =>
    have hi := clF_lt x t.rs 0 i hc
    have hl := h.lc
    dsimp only
    rw [if_neg (by omega)]
    have hm : t.cs.getD i 0 ∈ t.cs := by
      rw [List.getD_eq_getElem?_getD, List.getElem?_eq_getElem (by omega), Option.getD_some]; exact List.getElem_mem _
    have := h.row st.toNat (by omega) _ hm
    rw [if_neg (by omega)]
theorem May.stp_in {t : Tb} (h : May t) {st x : Int} (h0 : 0 ≤ st) (h1 : st < t.ns.length) : -1 ≤ Lx.stp t st x ∧ Lx.stp t st x < t.ns.length := by
  rw [h.stp h0 h1]
  cases hc : clF x 0 t.rs with
  | none => simp; omega
  | some i =>
    have hi := clF_lt x t.rs 0 i hc
    have hl := h.lc
    have hm : t.cs.getD i 0 ∈ t.cs := by
      rw [List.getD_eq_getElem?_getD, List.getElem?_eq_getElem (by omega), Option.getD_some]; exact List.getElem_mem _
    have hr := h.row st.toNat (by omega) _ hm
    have := h.val st.toNat (by omega) ((t.ns.getD st.toNat []).getD (t.cs.getD i 0).toNat 0) (by
      rw [List.getD_eq_getElem?_getD (i := (t.cs.getD i 0).toNat), List.getElem?_eq_getElem (by omega), Option.getD_some]; exact List.getElem_mem _)
    exact this
/-- Where the search in rising ranges ends. -/
theorem clF_skip (x : Int) : ∀ (l : List (Int × Int)) (p : Nat), (∀ r ∈ l, ¬ (r.1 ≤ x ∧ x ≤ r.2)) → clF x p l = none
  | [], _, _ => rfl
  | r :: l, p, h => by
    simp only [clF]
    rw [if_neg (h r (by simp)), clF_skip x l (p + 1) (fun q hq => h q (by simp [hq]))]
theorem clF_app (x : Int) : ∀ (l m : List (Int × Int)) (p : Nat), (∀ r ∈ l, ¬ (r.1 ≤ x ∧ x ≤ r.2)) → clF x p (l ++ m) = clF x (p + l.length) m
  | [], m, p, _ => by simp
  | r :: l, m, p, h => by
    simp only [List.cons_append, clF, List.length_cons]
    rw [if_neg (h r (by simp)), clF_app x l m (p + 1) (fun q hq => h q (by simp [hq]))]
    congr 1; omega
theorem bs_end {l : List (Int × Int)} {x : Int} {i : Nat} (hup : l.Pairwise (fun a b => a.2 < b.1)) (hi : i ≤ l.length)
    (h1 : ∀ q r, q < i → l[q]? = some r → r.2 < x) (h2 : ∀ r, l[i]? = some r → x ≤ r.2) :
    clF x 0 l = match l[i]? with | none => none | some r => if r.1 ≤ x then some i else none := by
  have hl : l = l.take i ++ l.drop i := (List.take_append_drop i l).symm
  have hno : ∀ r ∈ l.take i, ¬ (r.1 ≤ x ∧ x ≤ r.2) := fun r hr => by
    obtain ⟨q, hq, rfl⟩ := List.getElem_of_mem hr
    have hq2 : q < i := by rw [List.length_take] at hq; omega
    have := h1 q (l.take i)[q] hq2 (by rw [List.getElem_take]; exact List.getElem?_eq_getElem _)
    omega
  have he : clF x 0 l = clF x i (l.drop i) := by
    conv => lhs; rw [hl]
    rw [clF_app x _ _ 0 hno, List.length_take]
    congr 1; omega
  rw [he]
  cases hr : l[i]? with
  | none =>
    have : l.drop i = [] := List.drop_eq_nil_of_le (by simpa using hr)
    rw [this]; rfl
  | some r =>
    have hd : l.drop i = r :: l.drop (i + 1) := by
      obtain ⟨hlt, e⟩ := List.getElem?_eq_some_iff.1 hr
      rw [List.drop_eq_getElem_cons hlt, e]
    have hx := h2 r hr
    have hp : (r :: l.drop (i + 1)).Pairwise (fun a b => a.2 < b.1) := by rw [← hd]; exact hup.sublist (List.drop_sublist _ _)
    rw [hd]
    simp only [clF]
    by_cases hle : r.1 ≤ x
    · rw [if_pos ⟨hle, hx⟩, if_pos hle]
    · rw [if_neg (by omega), if_neg hle]
      exact clF_skip x _ _ fun q hq => by have := (List.pairwise_cons.1 hp).1 q hq; omega

/-! ### What begins at a place -/
def lonF (t : Tb) : Nat → Int → Nat → Int × Nat → List UInt8 → Int × Nat
  | 0, _, _, b, _ => b
  | f + 1, st, i, b, l =>
    if l = [] then b else if decodeL l = (65533, 1) then b else
    if stp t st ((decodeL l).1 : Int) < 0 then b else
    lonF t f (stp t st ((decodeL l).1 : Int)) (i + (decodeL l).2)
      (if 0 ≤ t.es.getD (stp t st ((decodeL l).1 : Int)).toNat 0 then (t.es.getD (stp t st ((decodeL l).1 : Int)).toNat 0, i + (decodeL l).2) else b) (l.drop (decodeL l).2)
def lon (t : Tb) (l : List UInt8) : Int × Nat := lonF t l.length 0 0 (-1, 0) l
theorem lonF_nil (t : Tb) (f : Nat) (st : Int) (i : Nat) (b : Int × Nat) : lonF t f st i b [] = b := by cases f <;> simp [lonF]
theorem lonF_fuel (t : Tb) : ∀ (f g : Nat) (st : Int) (i : Nat) (b : Int × Nat) (l : List UInt8), l.length ≤ f → l.length ≤ g → lonF t f st i b l = lonF t g st i b l
  | 0, g, st, i, b, l, hf, _ => by
    obtain rfl : l = [] := List.eq_nil_of_length_eq_zero (by omega)
    rw [lonF_nil, lonF_nil]
  | f + 1, 0, st, i, b, l, _, hg => by
    obtain rfl : l = [] := List.eq_nil_of_length_eq_zero (by omega)
    rw [lonF_nil, lonF_nil]
  | f + 1, g + 1, st, i, b, l, hf, hg => by
    by_cases hl : l = []
    · subst hl; rw [lonF_nil, lonF_nil]
    · have hw := decodeL_width l
      have hd : (l.drop (decodeL l).2).length ≤ f := by rw [List.length_drop]; omega
      have hd2 : (l.drop (decodeL l).2).length ≤ g := by rw [List.length_drop]; omega
      unfold lonF
      rw [if_neg hl, if_neg hl, lonF_fuel t f g _ _ _ _ hd hd2]
/-- The state behind a text. -/
def stF (t : Tb) : Nat → Int → List UInt8 → Int
  | 0, st, _ => st
  | f + 1, st, l => if l = [] ∨ st < 0 then st else if decodeL l = (65533, 1) then -1 else stF t f (stp t st ((decodeL l).1 : Int)) (l.drop (decodeL l).2)
theorem stF_nil (t : Tb) (f : Nat) (st : Int) : stF t f st [] = st := by cases f <;> simp [stF]
theorem stF_neg (t : Tb) (f : Nat) (st : Int) (l : List UInt8) (h : st < 0) : stF t f st l = st := by cases f <;> simp [stF, h]
/-- What is a rune's is one in a text that is cut behind it. -/
theorem decodeL_take (l : List UInt8) (m : Nat) (h : decodeL l ≠ (65533, 1)) (hm : (decodeL l).2 ≤ m) : decodeL (l.take m) = decodeL l := by
  have hg : ∀ k, k < m → (l.take m).getD k 0 = l.getD k 0 := fun k hk => by simp [List.getD, List.getElem?_take, hk]
  rw [decodeL_N] at h hm
  rw [decodeL_N, decodeL_N, List.length_take]
  rcases decodeN_shape l.length (l.getD 0 0).toNat (l.getD 1 0).toNat (l.getD 2 0).toNat (l.getD 3 0).toNat with ⟨c, e⟩ | ⟨c1, c2, c3, cv, e⟩ | ⟨c1, c2, c3, c4, cv, cs, e⟩ | ⟨c1, c2, c3, c4, c5, cv, cw, e⟩ | e
  · rw [e] at hm ⊢
    rw [hg 0 (by omega)]
    unfold decodeN; rw [if_pos c]
  · rw [e] at hm ⊢
    dsimp only at hm
    rw [hg 0 (by omega), hg 1 (by omega)]
    unfold decodeN
    rw [if_neg (by omega), if_pos ⟨c1, by omega, c3⟩, if_pos cv]
  · rw [e] at hm ⊢
    dsimp only at hm
    rw [hg 0 (by omega), hg 1 (by omega), hg 2 (by omega)]
    unfold decodeN
    rw [if_neg (by omega), if_neg (by omega), if_pos ⟨c1, ⟨by omega, c3⟩, by omega, c4⟩, if_pos ⟨cv, by
      have k0 := (l.getD 0 0).toNat_lt
      omega⟩]
  · rw [e] at hm ⊢
    dsimp only at hm
    rw [hg 0 (by omega), hg 1 (by omega), hg 2 (by omega), hg 3 (by omega)]
    unfold decodeN
    rw [if_neg (by omega), if_neg (by omega), if_neg (by omega), if_pos ⟨c1, ⟨by omega, c3⟩, ⟨by omega, c4⟩, by omega, c5⟩, if_pos ⟨cv, by omega⟩]
  · exact absurd e h
theorem decodeL_cut (l : List UInt8) (m : Nat) (h0 : 0 < m) (hm : m ≤ l.length) (h : decodeL (l.take m) ≠ (65533, 1)) : decodeL l = decodeL (l.take m) ∧ (decodeL l).2 ≤ m := by
  have hne : l.take m ≠ [] := by
    intro e
    have := congrArg List.length e
    rw [List.length_take, List.length_nil] at this
    omega
  have h1 := decodeL_app (l.take m) (l.drop m) hne h
  rw [List.take_append_drop] at h1
  have h2 := decodeL_le (l.take m) hne
  rw [List.length_take] at h2
  exact ⟨h1, by rw [h1]; omega⟩
/-- Does something end behind a text? -/
def Endd (t : Tb) (q : Int) : Prop := 0 ≤ q ∧ 0 ≤ t.es.getD q.toNat 0
/-- The longest text that something ends at. -/
theorem lonF_spec (t : Tb) : ∀ (f : Nat) (st : Int) (i : Nat) (b : Int × Nat) (l : List UInt8), l.length ≤ f → 0 ≤ st →
    (lonF t f st i b l = b ∧ ∀ m g, 0 < m → m ≤ l.length → m ≤ g → ¬ Endd t (stF t g st (l.take m))) ∨
    (∃ m, 0 < m ∧ m ≤ l.length ∧ (lonF t f st i b l).2 = i + m ∧ (∀ g, m ≤ g → 0 ≤ stF t g st (l.take m) ∧ t.es.getD (stF t g st (l.take m)).toNat 0 = (lonF t f st i b l).1) ∧ 0 ≤ (lonF t f st i b l).1 ∧
      ∀ m' g, m < m' → m' ≤ l.length → m' ≤ g → ¬ Endd t (stF t g st (l.take m')))
  | 0, st, i, b, l, hf, _ => .inl ⟨rfl, fun m g h1 h2 _ => by
    have := Nat.le_zero.1 hf
    omega⟩
  | f + 1, st, i, b, l, hf, hst => by
    by_cases hl : l = []
    · subst hl
      exact .inl ⟨lonF_nil _ _ _ _ _, fun m g h1 h2 => by simp at h2; omega⟩
    have hw := decodeL_width l
    have hle := decodeL_le l hl
    -- the state behind a text that is cut
    have hcut : ∀ m g, 0 < m → m ≤ l.length → m ≤ g → stF t g st (l.take m) = if decodeL l = (65533, 1) ∨ m < (decodeL l).2 then -1 else stF t (g - 1) (stp t st ((decodeL l).1 : Int)) ((l.drop (decodeL l).2).take (m - (decodeL l).2)) := by
      intro m g h1 h2 h3
      obtain ⟨g, rfl⟩ : ∃ g', g = g' + 1 := ⟨g - 1, by omega⟩
      have hne : l.take m ≠ [] := by
        intro e
        have := congrArg List.length e
        rw [List.length_take, List.length_nil] at this
        omega
      simp only [stF]
      rw [if_neg (by rintro (k | k); exact hne k; omega)]
      by_cases hb : decodeL (l.take m) = (65533, 1)
      · rw [if_pos hb]
        by_cases hb2 : decodeL l = (65533, 1)
        · rw [if_pos (.inl hb2)]
        · by_cases hm : m < (decodeL l).2
          · rw [if_pos (.inr hm)]
          · exact absurd (decodeL_take l m hb2 (by omega)) (by rw [hb]; exact fun e => hb2 e.symm)
      · rw [if_neg hb]
        obtain ⟨e1, e2⟩ := decodeL_cut l m h1 h2 hb
        rw [if_neg (by rw [e1]; intro k; rcases k with k | k; exact hb k; rw [e1] at e2; omega), ← e1, List.drop_take]
        rfl
    have hnot : ¬ Endd t (-1) := fun k => by have := k.1; omega
    by_cases hb : decodeL l = (65533, 1)
    · refine .inl ⟨by simp only [lonF]; rw [if_neg hl, if_pos hb], fun m g h1 h2 h3 => ?_⟩
      rw [hcut m g h1 h2 h3, if_pos (.inl hb)]
      exact hnot
    by_cases hs : stp t st ((decodeL l).1 : Int) < 0
    · refine .inl ⟨by simp only [lonF]; rw [if_neg hl, if_neg hb, if_pos hs], fun m g h1 h2 h3 => ?_⟩
      rw [hcut m g h1 h2 h3]
      split
      · exact hnot
      · rw [stF_neg _ _ _ _ hs]
        exact fun k => by have := k.1; omega
    have hdl : (l.drop (decodeL l).2).length ≤ f := by rw [List.length_drop]; omega
    have hdl2 : (l.drop (decodeL l).2).length = l.length - (decodeL l).2 := List.length_drop
    have hun : lonF t (f + 1) st i b l = lonF t f (stp t st ((decodeL l).1 : Int)) (i + (decodeL l).2) (if 0 ≤ t.es.getD (stp t st ((decodeL l).1 : Int)).toNat 0 then (t.es.getD (stp t st ((decodeL l).1 : Int)).toNat 0, i + (decodeL l).2) else b) (l.drop (decodeL l).2) := by
      conv => lhs; unfold lonF
      rw [if_neg hl, if_neg hb, if_neg hs]
    rw [hun]
    have ih := lonF_spec t f (stp t st ((decodeL l).1 : Int)) (i + (decodeL l).2) (if 0 ≤ t.es.getD (stp t st ((decodeL l).1 : Int)).toNat 0 then (t.es.getD (stp t st ((decodeL l).1 : Int)).toNat 0, i + (decodeL l).2) else b) (l.drop (decodeL l).2) hdl (by omega)
    generalize stp t st ((decodeL l).1 : Int) = st' at *
    generalize hn : (decodeL l).2 = n at *
    rw [hdl2] at ih
    have hcut2 : ∀ m g, 0 < m → m ≤ l.length → m ≤ g → stF t g st (l.take m) = if m < n then -1 else stF t (g - 1) st' ((l.drop n).take (m - n)) := fun m g h1 h2 h3 => by
      rw [hcut m g h1 h2 h3]
      by_cases k : m < n
      · rw [if_pos (.inr k), if_pos k]
      · rw [if_neg (by rintro (h | h); exact hb h; exact k h), if_neg k]
    rcases ih with ⟨e, hno⟩ | ⟨m, m0, m1, e1, e2, e3, e4⟩
    · have hno2 : ∀ m g, n < m → m ≤ l.length → m ≤ g → ¬ Endd t (stF t g st (l.take m)) := fun m g h1 h2 h3 => by
        rw [hcut2 m g (by omega) h2 h3, if_neg (by omega)]
        exact hno (m - n) (g - 1) (by omega) (by omega) (by omega)
      by_cases hend : 0 ≤ t.es.getD st'.toNat 0
      · rw [if_pos hend] at e ⊢
        refine .inr ⟨n, by omega, hle, by rw [e], fun g hg => ?_, by rw [e]; exact hend, hno2⟩
        rw [hcut2 n g (by omega) hle hg, if_neg (by omega), Nat.sub_self, List.take_zero, stF_nil, e]
        exact ⟨by omega, rfl⟩
      · rw [if_neg hend] at e ⊢
        refine .inl ⟨e, fun m g h1 h2 h3 => ?_⟩
        by_cases k : n < m
        · exact hno2 m g k h2 h3
        · rw [hcut2 m g h1 h2 h3]
          split
          · exact hnot
          · obtain rfl : m = n := by omega
            rw [Nat.sub_self, List.take_zero, stF_nil]
            exact fun k => hend k.2
    · refine .inr ⟨n + m, by omega, by omega, by rw [e1]; omega, fun g hg => ?_, e3, fun m' g h1 h2 h3 => ?_⟩
      · rw [hcut2 (n + m) g (by omega) (by omega) hg, if_neg (by omega), Nat.add_sub_cancel_left]
        exact e2 (g - 1) (by omega)
      · rw [hcut2 m' g (by omega) h2 h3, if_neg (by omega)]
        exact e4 (m' - n) (g - 1) (by omega) (by omega) (by omega)
theorem lon_spec (t : Tb) (l : List UInt8) :
    (lon t l = (-1, 0) ∧ ∀ m g, 0 < m → m ≤ l.length → m ≤ g → ¬ Endd t (stF t g 0 (l.take m))) ∨
    (0 < (lon t l).2 ∧ (lon t l).2 ≤ l.length ∧ (∀ g, (lon t l).2 ≤ g → 0 ≤ stF t g 0 (l.take (lon t l).2) ∧ t.es.getD (stF t g 0 (l.take (lon t l).2)).toNat 0 = (lon t l).1) ∧ 0 ≤ (lon t l).1 ∧
      ∀ m' g, (lon t l).2 < m' → m' ≤ l.length → m' ≤ g → ¬ Endd t (stF t g 0 (l.take m'))) := by
  rcases lonF_spec t l.length 0 0 (-1, 0) l (Nat.le_refl _) (by omega) with ⟨e, h⟩ | ⟨m, h0, h1, h2, h3, h4, h5⟩
  · exact .inl ⟨e, h⟩
  · have : (lon t l).2 = m := by unfold lon; rw [h2]; omega
    rw [this]
    exact .inr ⟨h0, h1, h3, h4, h5⟩
/-- A byte 255 behind a text changes nothing. -/
theorem lonF_255 (t : Tb) : ∀ (f : Nat) (st : Int) (i : Nat) (b : Int × Nat) (l : List UInt8), l.length ≤ f → lonF t (f + 1) st i b (l ++ [255]) = lonF t f st i b l
  | f, st, i, b, [], _ => by
    have hd : decodeL ([] ++ [255]) = (65533, 1) := by decide +kernel
    rw [lonF_nil]
    unfold lonF
    rw [if_neg (by simp), if_pos hd]
  | 0, st, i, b, c :: l, h => by simp at h
  | f + 1, st, i, b, c :: l, h => by
    have hd : decodeL ((c :: l) ++ [255]) = decodeL (c :: l) := decodeL_stop (c :: l) [] 255 (by simp) (by decide)
    have hw := decodeL_width (c :: l)
    have hle := decodeL_le (c :: l) (by simp)
    have hdr : ((c :: l) ++ [255]).drop (decodeL (c :: l)).2 = (c :: l).drop (decodeL (c :: l)).2 ++ [255] := List.drop_append_of_le_length hle
    have hlen : ((c :: l).drop (decodeL (c :: l)).2).length ≤ f := by rw [List.length_drop]; omega
    conv => lhs; unfold lonF
    conv => rhs; unfold lonF
    rw [if_neg (show ¬ ((c :: l) ++ [255] = []) by simp), if_neg (show ¬ (c :: l = []) by simp), hd, hdr, lonF_255 t f _ _ _ _ hlen]
theorem lon_255 (t : Tb) (l : List UInt8) : lon t (l ++ [255]) = lon t l := by
  unfold lon
  rw [List.length_append]
  exact lonF_255 t l.length 0 0 _ l (Nat.le_refl _)

/-! ### Tokens -/
inductive TkR where
  | bad (e : Int) (at_ : Nat)
  | ok (l : List (Int × Nat × Nat))
def tokF (t : Tb) (dr : List Bool) (s : List UInt8) : Nat → Nat → List (Int × Nat × Nat) → TkR
  | 0, _, acc => .ok acc
  | f + 1, p, acc =>
    if s.length ≤ p then .ok acc else
    if (lon t (s.drop p)).1 < 0 then .bad 9 p else
    if dr.getD (lon t (s.drop p)).1.toNat false = true then tokF t dr s f (p + (lon t (s.drop p)).2) acc else
    if acc.length = 16384 then .bad 3 p else
    tokF t dr s f (p + (lon t (s.drop p)).2) (acc ++ [((lon t (s.drop p)).1, p, (lon t (s.drop p)).2)])
def tok (t : Tb) (dr : List Bool) (s : List UInt8) : TkR := if 65536 < s.length then .bad 3 0 else tokF t dr s s.length 0 []
theorem tokF_end (t : Tb) (dr : List Bool) (s : List UInt8) (f p : Nat) (acc : List (Int × Nat × Nat)) (h : s.length ≤ p) : tokF t dr s f p acc = .ok acc := by
  cases f with
  | zero => rfl
  | succ f => simp only [tokF]; rw [if_pos h]
theorem lon_pos {t : Tb} {l : List UInt8} (h : ¬ (lon t l).1 < 0) : 0 < (lon t l).2 ∧ (lon t l).2 ≤ l.length := by
  rcases lon_spec t l with ⟨e, _⟩ | ⟨a, b, _⟩
  · rw [e] at h; exact absurd (by decide) h
  · exact ⟨a, b⟩
theorem lon_neg {t : Tb} {l : List UInt8} (h : (lon t l).1 < 0) : lon t l = (-1, 0) := by
  rcases lon_spec t l with ⟨e, _⟩ | ⟨_, _, _, d, _⟩
  · exact e
  · omega
theorem tokF_fuel (t : Tb) (dr : List Bool) (s : List UInt8) : ∀ (f g p : Nat) (acc : List (Int × Nat × Nat)), s.length - p ≤ f → s.length - p ≤ g → tokF t dr s f p acc = tokF t dr s g p acc
  | 0, g, p, acc, hf, _ => by rw [tokF_end _ _ _ _ _ _ (by omega), tokF_end _ _ _ _ _ _ (by omega)]
  | f + 1, 0, p, acc, _, hg => by rw [tokF_end _ _ _ _ _ _ (by omega), tokF_end _ _ _ _ _ _ (by omega)]
  | f + 1, g + 1, p, acc, hf, hg => by
    by_cases h : s.length ≤ p
    · rw [tokF_end _ _ _ _ _ _ h, tokF_end _ _ _ _ _ _ h]
    · simp only [tokF]
      rw [if_neg h, if_neg h]
      by_cases k : (lon t (s.drop p)).1 < 0
      · rw [if_pos k, if_pos k]
      · have := lon_pos k
        rw [if_neg k, if_neg k]
        rw [tokF_fuel t dr s f g _ _ (by omega) (by omega), tokF_fuel t dr s f g _ _ (by omega) (by omega)]
end Go.Proofs.YtagbpkabfjnplaaDoor.Lx
