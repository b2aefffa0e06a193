/- Nodes: a plain mirror of them, how many, how deep, plain, their text; and how one lies in memory. Nothing of the program stands here. -/
import Derived.Test.YtagbpkabfjnplaaDoorRuO
import Derived.Below
import Derived.WalkKit
namespace Go.Proofs.YtagbpkabfjnplaaDoor.Nd
open Go Go.RowKit

/-- A node: its kind, name, text, ranges, Subs. -/
inductive T where
  | mk (kind : Int) (name text : ByteArray) (set : List (Int × Int)) (subs : List T)
def T.kind : T → Int | .mk k _ _ _ _ => k
def T.name : T → ByteArray | .mk _ n _ _ _ => n
def T.text : T → ByteArray | .mk _ _ t _ _ => t
def T.set : T → List (Int × Int) | .mk _ _ _ s _ => s
def T.subs : T → List T | .mk _ _ _ _ b => b

mutual
/-- How many a node is. -/
def count : T → Nat
  | .mk _ _ _ _ b => 1 + countL b
def countL : List T → Nat
  | [] => 0
  | t :: r => count t + countL r
end
mutual
/-- How deep it is. -/
def deep : T → Nat
  | .mk _ _ _ _ b => 1 + deepL b
def deepL : List T → Nat
  | [] => 0
  | t :: r => max (deep t) (deepL r)
end
mutual
/-- A node and all that is in it, each ahead of its Subs, with its level. -/
def parts (l : Nat) : T → List (Nat × T)
  | .mk k n t s b => (l, .mk k n t s b) :: partsL (l + 1) b
def partsL (l : Nat) : List T → List (Nat × T)
  | [] => []
  | t :: r => parts l t ++ partsL l r
end
mutual
theorem parts_len (l : Nat) : ∀ t : T, (parts l t).length = count t
  | .mk k n t s b => by
    have := partsL_len (l + 1) b
    simp [parts, count, this]
    omega
theorem partsL_len (l : Nat) : ∀ b : List T, (partsL l b).length = countL b
  | [] => by simp [partsL, countL]
  | t :: r => by
    have h1 := parts_len l t
    have h2 := partsL_len l r
    simp [partsL, countL, h1, h2]
end
theorem count_pos (t : T) : 0 < count t := by cases t; simp [count]; omega
theorem deep_pos (t : T) : 0 < deep t := by cases t; simp [deep]; omega
/-- The greatest level of a list of parts. -/
def top : Nat → List (Nat × T) → Nat
  | d, [] => d
  | d, p :: r => top (max d p.1) r
theorem top_append : ∀ (d : Nat) (a b : List (Nat × T)), top d (a ++ b) = top (top d a) b
  | _, [], _ => rfl
  | d, p :: a, b => by simp only [List.cons_append, top]; exact top_append _ a b
theorem top_snoc (d : Nat) (a : List (Nat × T)) (p : Nat × T) : top d (a ++ [p]) = max (top d a) p.1 := by rw [top_append]; rfl
mutual
theorem top_parts (l d : Nat) : ∀ t : T, top d (parts (l + 1) t) = max d (l + deep t)
  | .mk k n t s b => by
    have h := top_partsL (l + 1) (max d (l + 1)) b
    have e1 : parts (l + 1) (.mk k n t s b) = (l + 1, .mk k n t s b) :: partsL (l + 1 + 1) b := by simp only [parts]
    have e2 : deep (.mk k n t s b) = 1 + deepL b := by simp only [deep]
    rw [e1, e2]
    show top (max d (l + 1)) (partsL (l + 1 + 1) b) = _
    by_cases hb : deepL b = 0
    · rw [h.1 hb]; omega
    · rw [h.2 hb]; omega
theorem top_partsL (l d : Nat) : ∀ b : List T, (deepL b = 0 → top d (partsL (l + 1) b) = d) ∧ (deepL b ≠ 0 → top d (partsL (l + 1) b) = max d (l + deepL b))
  | [] => ⟨fun _ => by simp only [partsL, top], fun h => absurd (by simp only [deepL]) h⟩
  | t :: r => by
    have h1 := top_parts l d t
    have h2 := top_partsL l (max d (l + deep t)) r
    have h3 := deep_pos t
    have e1 : partsL (l + 1) (t :: r) = parts (l + 1) t ++ partsL (l + 1) r := by simp only [partsL]
    have e2 : deepL (t :: r) = max (deep t) (deepL r) := by simp only [deepL]
    rw [e1, e2, top_append, h1]
    refine ⟨fun h => by omega, fun _ => ?_⟩
    by_cases hr : deepL r = 0
    · rw [h2.1 hr]; omega
    · rw [h2.2 hr]; omega
end
theorem top_all (t : T) : top 0 (parts 1 t) = deep t := by rw [top_parts 0 0 t]; simp
theorem top_le : ∀ (d : Nat) (a : List (Nat × T)), d ≤ top d a
  | _, [] => Nat.le_refl _
  | d, p :: a => Nat.le_trans (Nat.le_max_left d p.1) (top_le _ a)
theorem top_mem : ∀ (d : Nat) (a : List (Nat × T)) (p : Nat × T), p ∈ a → p.1 ≤ top d a
  | _, [], _, h => by simp at h
  | d, q :: a, p, h => by
    rcases List.mem_cons.1 h with rfl | h
    · exact Nat.le_trans (Nat.le_max_right d p.1) (top_le _ a)
    · exact top_mem _ a p h

/-! ### How one lies in memory -/

/-- The ranges st at a. -/
def RgAt (w : World) : List (Int × Int) → Option Addr → Prop
  | [], _ => True
  | p :: r, a => ∃ b o, a = some ⟨b, o, none⟩ ∧ w.cell? ⟨b, o, none⟩ = some (.int .i32 p.1) ∧ w.cell? ⟨b, o + 1, none⟩ = some (.int .i32 p.2) ∧ RgAt w r (some ⟨b, o + 2, none⟩)
mutual
/-- v is the node t. -/
def At (w : World) : T → Value → Prop
  | .mk k nm tx st sb, v => ∃ sa sc ba bc, v = .agg #[.int .u8 k, .string nm, .string tx, .slice sa st.length sc, .slice ba sb.length bc] ∧ (0 ≤ k ∧ k < 256) ∧ nm.size ≤ 140737488351232 ∧ tx.size ≤ 140737488351232 ∧
      (st.length ≤ sc ∧ st.length ≤ 140737488351232) ∧ (sb.length ≤ bc ∧ sb.length ≤ 140737488351232) ∧ RgAt w st sa ∧ AtL w sb ba
def AtL (w : World) : List T → Option Addr → Prop
  | [], _ => True
  | t :: r, a => ∃ b o v0 v1 v2 v3 v4, a = some ⟨b, o, none⟩ ∧ w.cell? ⟨b, o, none⟩ = some v0 ∧ w.cell? ⟨b, o + 1, none⟩ = some v1 ∧ w.cell? ⟨b, o + 2, none⟩ = some v2 ∧ w.cell? ⟨b, o + 3, none⟩ = some v3 ∧ w.cell? ⟨b, o + 4, none⟩ = some v4 ∧
      At w t (.agg #[v0, v1, v2, v3, v4]) ∧ AtL w r (some ⟨b, o + 5, none⟩)
end
theorem cell_keeps {w w' : World} (hb : Below w.heap.size w w') {b o : Nat} {v : Value} (h : w.cell? ⟨b, o, none⟩ = some v) : w'.cell? ⟨b, o, none⟩ = some v := by
  rw [hb.cell (p := ⟨b, o, none⟩) (World.block_lt_of_cell? _ _ h)]; exact h
theorem RgAt.below {w w' : World} (hb : Below w.heap.size w w') : ∀ {st : List (Int × Int)} {a : Option Addr}, RgAt w st a → RgAt w' st a
  | [], _, _ => trivial
  | _ :: _, _, ⟨b, o, ha, h0, h1, hr⟩ => ⟨b, o, ha, cell_keeps hb h0, cell_keeps hb h1, hr.below hb⟩
mutual
theorem At.below {w w' : World} (hb : Below w.heap.size w w') : ∀ (t : T) {v : Value}, At w t v → At w' t v
  | .mk _ _ _ _ sb, _, ⟨sa, sc, ba, bc, hv, hk, h1, h2, h3, h4, h5, h6⟩ => ⟨sa, sc, ba, bc, hv, hk, h1, h2, h3, h4, h5.below hb, AtL.below hb sb h6⟩
theorem AtL.below {w w' : World} (hb : Below w.heap.size w w') : ∀ (r : List T) {a : Option Addr}, AtL w r a → AtL w' r a
  | [], _, _ => trivial
  | t :: r, _, ⟨b, o, v0, v1, v2, v3, v4, ha, h0, h1, h2, h3, h4, h5, h6⟩ => ⟨b, o, v0, v1, v2, v3, v4, ha, cell_keeps hb h0, cell_keeps hb h1, cell_keeps hb h2, cell_keeps hb h3, cell_keeps hb h4, At.below hb t h5, AtL.below hb r h6⟩
end
/-- Range i of those at a. -/
theorem RgAt.get {w : World} : ∀ {st : List (Int × Int)} {a : Option Addr}, RgAt w st a → ∀ (i : Nat) (p : Int × Int), st[i]? = some p →
    ∃ b o, a = some ⟨b, o, none⟩ ∧ w.cell? ⟨b, o + i * 2, none⟩ = some (.int .i32 p.1) ∧ w.cell? ⟨b, o + i * 2 + 1, none⟩ = some (.int .i32 p.2)
  | [], _, _, i, p, h => by simp at h
  | q :: st, _, ⟨b, o, ha, h0, h1, hr⟩, 0, p, h => by
    simp only [List.getElem?_cons_zero, Option.some.injEq] at h
    subst h
    exact ⟨b, o, ha, by simpa using h0, by simpa using h1⟩
  | q :: st, _, ⟨b, o, ha, h0, h1, hr⟩, i + 1, p, h => by
    obtain ⟨b', o', ha', g0, g1⟩ := hr.get i p (by simpa using h)
    injection ha' with ha'
    injection ha' with e1 e2
    subst e1
    subst e2
    exact ⟨b, o, ha, by rw [show o + (i + 1) * 2 = o + 2 + i * 2 by omega]; exact g0, by rw [show o + (i + 1) * 2 + 1 = o + 2 + i * 2 + 1 by omega]; exact g1⟩
/-- Sub i of those at a. -/
theorem AtL.get {w : World} : ∀ {r : List T} {a : Option Addr}, AtL w r a → ∀ (i : Nat) (t : T), r[i]? = some t →
    ∃ b o v0 v1 v2 v3 v4, a = some ⟨b, o, none⟩ ∧ w.cell? ⟨b, o + i * 5, none⟩ = some v0 ∧ w.cell? ⟨b, o + i * 5 + 1, none⟩ = some v1 ∧ w.cell? ⟨b, o + i * 5 + 2, none⟩ = some v2 ∧ w.cell? ⟨b, o + i * 5 + 3, none⟩ = some v3 ∧ w.cell? ⟨b, o + i * 5 + 4, none⟩ = some v4 ∧
      At w t (.agg #[v0, v1, v2, v3, v4])
  | [], _, _, i, p, h => by simp at h
  | q :: r, _, h, 0, t, ht => by
    unfold AtL at h
    obtain ⟨b, o, v0, v1, v2, v3, v4, ha, h0, h1, h2, h3, h4, h5, _⟩ := h
    simp only [List.getElem?_cons_zero, Option.some.injEq] at ht
    subst ht
    exact ⟨b, o, v0, v1, v2, v3, v4, ha, by simpa using h0, by simpa using h1, by simpa using h2, by simpa using h3, by simpa using h4, h5⟩
  | q :: r, _, h, i + 1, t, ht => by
    unfold AtL at h
    obtain ⟨b, o, _, _, _, _, _, ha, _, _, _, _, _, _, h6⟩ := h
    obtain ⟨b', o', v0, v1, v2, v3, v4, ha', g0, g1, g2, g3, g4, g5⟩ := h6.get i t (by simpa using ht)
    injection ha' with ha'
    injection ha' with e1 e2
    subst e1
    subst e2
    refine ⟨b, o, v0, v1, v2, v3, v4, ha, ?_, ?_, ?_, ?_, ?_, g5⟩
    · rw [show o + (i + 1) * 5 = o + 5 + i * 5 by omega]; exact g0
    · rw [show o + (i + 1) * 5 + 1 = o + 5 + i * 5 + 1 by omega]; exact g1
    · rw [show o + (i + 1) * 5 + 2 = o + 5 + i * 5 + 2 by omega]; exact g2
    · rw [show o + (i + 1) * 5 + 3 = o + 5 + i * 5 + 3 by omega]; exact g3
    · rw [show o + (i + 1) * 5 + 4 = o + 5 + i * 5 + 4 by omega]; exact g4
/-! ### What comes of a walk: each part with its level and its value -/

def cellD (w : World) (b o : Nat) : Value := (w.cell? ⟨b, o, none⟩).getD undef
/-- The node that lies at a. -/
def valAt (w : World) : Option Addr → Value
  | some a => .agg #[cellD w a.block a.off, cellD w a.block (a.off + 1), cellD w a.block (a.off + 2), cellD w a.block (a.off + 3), cellD w a.block (a.off + 4)]
  | none => undef
def nextA : Option Addr → Option Addr
  | some a => some ⟨a.block, a.off + 5, a.spot⟩
  | none => none
def plusA (i : Nat) : Option Addr → Option Addr
  | some a => some ⟨a.block, a.off + i * 5, a.spot⟩
  | none => none
theorem plusA_zero (a : Option Addr) : plusA 0 a = a := by cases a <;> simp [plusA]
theorem next_plusA (i : Nat) (a : Option Addr) : nextA (plusA i a) = plusA (i + 1) a := by
  cases a with
  | none => rfl
  | some a => simp only [plusA, nextA]; rw [show a.off + (i + 1) * 5 = a.off + i * 5 + 5 by omega]
theorem plus_nextA (i : Nat) (a : Option Addr) : plusA i (nextA a) = plusA (i + 1) a := by
  cases a with
  | none => rfl
  | some a => simp only [plusA, nextA]; rw [show a.off + (i + 1) * 5 = a.off + 5 + i * 5 by omega]
def sliceA : Value → Option Addr
  | .slice a _ _ => a
  | _ => none
def subsA : Value → Option Addr
  | .agg xs => sliceA (xs.getD 4 undef)
  | _ => none
mutual
def partsV (w : World) (l : Nat) : T → Value → List (Nat × T × Value)
  | .mk k n t s b, v => (l, .mk k n t s b, v) :: partsVL w (l + 1) b (subsA v)
def partsVL (w : World) (l : Nat) : List T → Option Addr → List (Nat × T × Value)
  | [], _ => []
  | t :: r, a => partsV w l t (valAt w a) ++ partsVL w l r (nextA a)
end
mutual
theorem partsV_map (w : World) (l : Nat) : ∀ (t : T) (v : Value), (partsV w l t v).map (fun x => (x.1, x.2.1)) = parts l t
  | .mk k n t s b, v => by simp only [partsV, parts, List.map_cons, partsVL_map w (l + 1) b (subsA v)]
theorem partsVL_map (w : World) (l : Nat) : ∀ (b : List T) (a : Option Addr), (partsVL w l b a).map (fun x => (x.1, x.2.1)) = partsL l b
  | [], _ => by simp only [partsVL, partsL, List.map_nil]
  | t :: r, a => by simp only [partsVL, partsL, List.map_append, partsV_map w l t (valAt w a), partsVL_map w l r (nextA a)]
end
theorem AtL.here {w : World} {t : T} {r : List T} {a : Option Addr} (h : AtL w (t :: r) a) : At w t (valAt w a) ∧ AtL w r (nextA a) := by
  unfold AtL at h
  obtain ⟨b, o, v0, v1, v2, v3, v4, rfl, h0, h1, h2, h3, h4, h5, h6⟩ := h
  refine ⟨?_, h6⟩
  simp only [valAt, cellD, h0, h1, h2, h3, h4, Option.getD_some]
  exact h5
theorem At.subs {w : World} {k : Int} {n x : ByteArray} {s : List (Int × Int)} {b : List T} {v : Value} (h : At w (.mk k n x s b) v) : AtL w b (subsA v) := by
  unfold At at h
  obtain ⟨sa, sc, ba, bc, rfl, _, _, _, _, _, _, h6⟩ := h
  exact h6
mutual
theorem partsV_at (w : World) (l : Nat) : ∀ (t : T) (v : Value), At w t v → ∀ x ∈ partsV w l t v, At w x.2.1 x.2.2 ∧ l ≤ x.1 ∧ x.1 < l + deep t
  | .mk k n t s b, v, h, x, hx => by
    simp only [partsV, List.mem_cons] at hx
    have e2 : deep (.mk k n t s b) = 1 + deepL b := by simp only [deep]
    rcases hx with rfl | hx
    · exact ⟨h, Nat.le_refl _, by dsimp only; omega⟩
    · obtain ⟨g1, g2, g3⟩ := partsVL_at w (l + 1) b (subsA v) h.subs x hx
      exact ⟨g1, by omega, by omega⟩
theorem partsVL_at (w : World) (l : Nat) : ∀ (b : List T) (a : Option Addr), AtL w b a → ∀ x ∈ partsVL w l b a, At w x.2.1 x.2.2 ∧ l ≤ x.1 ∧ x.1 < l + deepL b
  | [], _, _, x, hx => by simp [partsVL] at hx
  | t :: r, a, h, x, hx => by
    simp only [partsVL, List.mem_append] at hx
    have e2 : deepL (t :: r) = max (deep t) (deepL r) := by simp only [deepL]
    rcases hx with hx | hx
    · obtain ⟨g1, g2, g3⟩ := partsV_at w l t (valAt w a) h.here.1 x hx
      exact ⟨g1, g2, by omega⟩
    · obtain ⟨g1, g2, g3⟩ := partsVL_at w l r (nextA a) h.here.2 x hx
      exact ⟨g1, g2, by omega⟩
end
theorem partsVL_drop (w : World) (l : Nat) : ∀ (b : List T) (a : Option Addr) (i : Nat) (t : T), b[i]? = some t →
    partsVL w l (b.drop i) (plusA i a) = partsV w l t (valAt w (plusA i a)) ++ partsVL w l (b.drop (i + 1)) (plusA (i + 1) a)
  | [], _, _, _, h => by simp at h
  | q :: r, a, 0, t, h => by
    simp only [List.getElem?_cons_zero, Option.some.injEq] at h
    subst h
    rw [List.drop_zero, plusA_zero, ← next_plusA, plusA_zero]
    simp only [partsVL, Nat.zero_add, List.drop_succ_cons, List.drop_zero]
  | q :: r, a, i + 1, t, h => by
    have := partsVL_drop w l r (nextA a) i t (by simpa using h)
    rw [plus_nextA, plus_nextA] at this
    simpa using this
theorem AtL.val {w : World} {b : List T} {a : Option Addr} (h : AtL w b a) (i : Nat) (t : T) (ht : b[i]? = some t) :
    ∃ g o v0 v1 v2 v3 v4, a = some ⟨g, o, none⟩ ∧ w.cell? ⟨g, o + i * 5, none⟩ = some v0 ∧ w.cell? ⟨g, o + i * 5 + 1, none⟩ = some v1 ∧ w.cell? ⟨g, o + i * 5 + 2, none⟩ = some v2 ∧ w.cell? ⟨g, o + i * 5 + 3, none⟩ = some v3 ∧ w.cell? ⟨g, o + i * 5 + 4, none⟩ = some v4 ∧
      valAt w (plusA i a) = .agg #[v0, v1, v2, v3, v4] ∧ At w t (.agg #[v0, v1, v2, v3, v4]) := by
  obtain ⟨g, o, v0, v1, v2, v3, v4, rfl, h0, h1, h2, h3, h4, h5⟩ := h.get i t ht
  refine ⟨g, o, v0, v1, v2, v3, v4, rfl, h0, h1, h2, h3, h4, ?_, h5⟩
  simp only [plusA, valAt, cellD, h0, h1, h2, h3, h4, Option.getD_some]
/-- A node's value, told by its parts. -/
theorem At.form {w : World} : ∀ {t : T} {v : Value}, At w t v → ∃ sa sc ba bc, v = .agg #[.int .u8 t.kind, .string t.name, .string t.text, .slice sa t.set.length sc, .slice ba t.subs.length bc] ∧ (0 ≤ t.kind ∧ t.kind < 256) ∧ t.name.size ≤ 140737488351232 ∧ t.text.size ≤ 140737488351232 ∧
      (t.set.length ≤ sc ∧ t.set.length ≤ 140737488351232) ∧ (t.subs.length ≤ bc ∧ t.subs.length ≤ 140737488351232) ∧ RgAt w t.set sa ∧ AtL w t.subs ba
  | .mk _ _ _ _ _, _, h => by unfold At at h; exact h
theorem At.five {w : World} {t : T} {v0 v1 v2 v3 v4 : Value} (h : At w t (.agg #[v0, v1, v2, v3, v4])) : ∃ sa sc ba bc, v0 = .int .u8 t.kind ∧ v1 = .string t.name ∧ v2 = .string t.text ∧ v3 = .slice sa t.set.length sc ∧ v4 = .slice ba t.subs.length bc := by
  obtain ⟨sa, sc, ba, bc, hv, _⟩ := h.form
  injection hv with hv
  injection hv with hv
  simp only [List.cons.injEq, and_true] at hv
  exact ⟨sa, sc, ba, bc, hv.1, hv.2.1, hv.2.2.1, hv.2.2.2.1, hv.2.2.2.2⟩
theorem drop_some {α : Type} {l : List α} {p : Nat} {s : α} (h : l[p]? = some s) : l.drop p = s :: l.drop (p + 1) := by
  obtain ⟨hlt, rfl⟩ := List.getElem?_eq_some_iff.1 h
  exact List.drop_eq_getElem_cons hlt
/-- Induction on a node. -/
theorem T.ind {P : T → Prop} (h : ∀ k n t s b, (∀ x ∈ b, P x) → P (.mk k n t s b)) (t : T) : P t :=
  T.rec (motive_1 := P) (motive_2 := fun b => ∀ x ∈ b, P x) (fun k n t s b ih => h k n t s b ih) (fun x hx => by simp at hx) (fun _ _ h1 h2 x hx => by
    rcases List.mem_cons.1 hx with rfl | hx
    · exact h1
    · exact h2 x hx) t
end Go.Proofs.YtagbpkabfjnplaaDoor.Nd
