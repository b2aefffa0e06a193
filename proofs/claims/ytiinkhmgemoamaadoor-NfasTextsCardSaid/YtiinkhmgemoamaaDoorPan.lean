/- Nodes that lie in blocks of some sort; the sort of blocks that telling leaves as they lie; a row of nodes that is written over, node by node. The contract of slices.Clone at nodes. Checks, pure: the Subs of a node gone through one by one, as loops does. Checks: what lies in memory while loops goes through the Subs of a node; how deep and many what it hands back is. -/
import Derived.Test.YtiinkhmgemoamaaDoorPah
import Derived.Test.YtiinkhmgemoamaaDoorPam
import Derived.Test.YtiinkhmgemoamaaDoorPad
import Derived.Deep.RegionHeld3
namespace Go.Proofs.YtiinkhmgemoamaaDoor
open Go Go.RowKit Ck
set_option maxRecDepth 100000

namespace Ck
/-- The ranges st at a, in blocks of sort P. -/
def RgX (P : Nat → Prop) (w : World) : List (Int × Int) → Option Addr → Prop
 | [], _ => True
 | p :: r, a => ∃ b o, a = some ⟨b, o, none⟩ ∧ P b ∧ w.cell? ⟨b, o, none⟩ = some (.int .i32 p.1) ∧ w.cell? ⟨b, o + 1, none⟩ = some (.int .i32 p.2) ∧ RgX P w r (some ⟨b, o + 2, none⟩)
mutual
/-- v is the node t, in blocks of sort P. -/
def AtX (P : Nat → Prop) (w : World) : Nd.T → Value → Prop
 | .mk k nm tx st sb, v => ∃ sa sc ba bc, v = .agg #[.int .u8 k, .string nm, .string tx, .slice sa st.length sc, .slice ba sb.length bc] ∧ (0 ≤ k ∧ k < 256) ∧ nm.size ≤ 140737488351232 ∧ tx.size ≤ 140737488351232 ∧
  (st.length ≤ sc ∧ st.length ≤ 140737488351232) ∧ (sb.length ≤ bc ∧ sb.length ≤ 140737488351232) ∧ RgX P w st sa ∧ AtLX P w sb ba
def AtLX (P : Nat → Prop) (w : World) : List Nd.T → Option Addr → Prop
 | [], _ => True
 | t :: r, a => ∃ b o v0 v1 v2 v3 v4, a = some ⟨b, o, none⟩ ∧ P b ∧ w.cell? ⟨b, o, none⟩ = some v0 ∧ w.cell? ⟨b, o + 1, none⟩ = some v1 ∧ w.cell? ⟨b, o + 2, none⟩ = some v2 ∧ w.cell? ⟨b, o + 3, none⟩ = some v3 ∧ w.cell? ⟨b, o + 4, none⟩ = some v4 ∧
  AtX P w t (.agg #[v0, v1, v2, v3, v4]) ∧ AtLX P w r (some ⟨b, o + 5, none⟩)
end
/-- The blocks of sort P lie as they lay. -/
def Stay (P : Nat → Prop) (w w' : World) : Prop := ∀ k, P k → k < w.heap.size → w'.heap[k]? = w.heap[k]?
theorem Stay.cell {P : Nat → Prop} {w w' : World} (h : Stay P w w') {b o : Nat} {v : Value} (hp : P b) (hc : w.cell? ⟨b, o, none⟩ = some v) : w'.cell? ⟨b, o, none⟩ = some v := by
 have hl : b < w.heap.size := World.block_lt_of_cell? _ _ hc
 have := h b hp hl
 simp only [World.cell?] at hc ⊢
 rw [this]; exact hc
theorem Stay.below {P : Nat → Prop} {w w' : World} (h : Below w.heap.size w w') : Stay P w w' := fun k _ hk => h.block k hk
theorem RgX.keep {P P' : Nat → Prop} {w w' : World} (hp : ∀ k, P k → P' k) (h : Stay P w w') : ∀ {st : List (Int × Int)} {a : Option Addr}, RgX P w st a → RgX P' w' st a
 | [], _, _ => trivial
 | _ :: _, _, ⟨b, o, ha, hn, h0, h1, hr⟩ => ⟨b, o, ha, hp _ hn, h.cell hn h0, h.cell hn h1, hr.keep hp h⟩
mutual
theorem AtX.keep {P P' : Nat → Prop} {w w' : World} (hp : ∀ k, P k → P' k) (h : Stay P w w') : ∀ (t : Nd.T) {v : Value}, AtX P w t v → AtX P' w' t v
 | .mk _ _ _ _ sb, _, ⟨sa, sc, ba, bc, hv, hk, h1, h2, h3, h4, h5, h6⟩ => ⟨sa, sc, ba, bc, hv, hk, h1, h2, h3, h4, h5.keep hp h, AtLX.keep hp h sb h6⟩
theorem AtLX.keep {P P' : Nat → Prop} {w w' : World} (hp : ∀ k, P k → P' k) (h : Stay P w w') : ∀ (r : List Nd.T) {a : Option Addr}, AtLX P w r a → AtLX P' w' r a
 | [], _, _ => trivial
 | t :: r, _, ⟨b, o, v0, v1, v2, v3, v4, ha, hn, h0, h1, h2, h3, h4, h5, h6⟩ => ⟨b, o, v0, v1, v2, v3, v4, ha, hp _ hn, h.cell hn h0, h.cell hn h1, h.cell hn h2, h.cell hn h3, h.cell hn h4, AtX.keep hp h t h5, AtLX.keep hp h r h6⟩
end
theorem RgX.to {P : Nat → Prop} {w : World} : ∀ {st : List (Int × Int)} {a : Option Addr}, RgX P w st a → Nd.RgAt w st a
 | [], _, _ => trivial
 | _ :: _, _, ⟨b, o, ha, _, h0, h1, hr⟩ => ⟨b, o, ha, h0, h1, hr.to⟩
mutual
theorem AtX.to {P : Nat → Prop} {w : World} : ∀ (t : Nd.T) {v : Value}, AtX P w t v → Nd.At w t v
 | .mk _ _ _ _ sb, _, ⟨sa, sc, ba, bc, hv, hk, h1, h2, h3, h4, h5, h6⟩ => ⟨sa, sc, ba, bc, hv, hk, h1, h2, h3, h4, h5.to, AtLX.to sb h6⟩
theorem AtLX.to {P : Nat → Prop} {w : World} : ∀ (r : List Nd.T) {a : Option Addr}, AtLX P w r a → Nd.AtL w r a
 | [], _, _ => trivial
 | t :: r, _, ⟨b, o, v0, v1, v2, v3, v4, ha, _, h0, h1, h2, h3, h4, h5, h6⟩ => ⟨b, o, v0, v1, v2, v3, v4, ha, h0, h1, h2, h3, h4, AtX.to t h5, AtLX.to r h6⟩
end
theorem RgX.of {P : Nat → Prop} {w : World} (hp : ∀ k, k < w.heap.size → P k) : ∀ {st : List (Int × Int)} {a : Option Addr}, Nd.RgAt w st a → RgX P w st a
 | [], _, _ => trivial
 | _ :: _, _, ⟨b, o, ha, h0, h1, hr⟩ => ⟨b, o, ha, hp b (World.block_lt_of_cell? _ _ h0), h0, h1, RgX.of hp hr⟩
theorem RgX.small {P : Nat → Prop} {w : World} : ∀ {st : List (Int × Int)} {a : Option Addr}, RgX P w st a → RgX (fun b => P b ∧ b < w.heap.size) w st a
 | [], _, _ => trivial
 | _ :: _, _, ⟨b, o, ha, hn, h0, h1, hr⟩ => ⟨b, o, ha, ⟨hn, World.block_lt_of_cell? _ _ h0⟩, h0, h1, hr.small⟩
mutual
theorem AtX.small' {P : Nat → Prop} {w : World} : ∀ (t : Nd.T) {v : Value}, AtX P w t v → AtX (fun b => P b ∧ b < w.heap.size) w t v
 | .mk _ _ _ _ sb, _, ⟨sa, sc, ba, bc, hv, hk, h1, h2, h3, h4, h5, h6⟩ => ⟨sa, sc, ba, bc, hv, hk, h1, h2, h3, h4, h5.small, AtLX.small' sb h6⟩
theorem AtLX.small' {P : Nat → Prop} {w : World} : ∀ (r : List Nd.T) {a : Option Addr}, AtLX P w r a → AtLX (fun b => P b ∧ b < w.heap.size) w r a
 | [], _, _ => trivial
 | t :: r, _, ⟨b, o, v0, v1, v2, v3, v4, ha, hn, h0, h1, h2, h3, h4, h5, h6⟩ => ⟨b, o, v0, v1, v2, v3, v4, ha, ⟨hn, World.block_lt_of_cell? _ _ h0⟩, h0, h1, h2, h3, h4, AtX.small' t h5, AtLX.small' r h6⟩
end
theorem AtX.small {P : Nat → Prop} {w : World} {t : Nd.T} {v : Value} (h : AtX P w t v) : AtX (fun b => P b ∧ b < w.heap.size) w t v := AtX.small' t h
/-- A node's value, told by its parts. -/
theorem AtX.five {P : Nat → Prop} {w : World} {t : Nd.T} {v : Value} (h : AtX P w t v) : ∃ sa sc ba bc, v = .agg #[.int .u8 t.kind, .string t.name, .string t.text, .slice sa t.set.length sc, .slice ba t.subs.length bc] := by
 obtain ⟨sa, sc, ba, bc, hv, _⟩ := (AtX.to t h).form
 exact ⟨sa, sc, ba, bc, hv⟩
mutual
theorem AtX.of {P : Nat → Prop} {w : World} (hp : ∀ k, k < w.heap.size → P k) : ∀ (t : Nd.T) {v : Value}, Nd.At w t v → AtX P w t v
 | .mk _ _ _ _ sb, _, ⟨sa, sc, ba, bc, hv, hk, h1, h2, h3, h4, h5, h6⟩ => ⟨sa, sc, ba, bc, hv, hk, h1, h2, h3, h4, RgX.of hp h5, AtLX.of hp sb h6⟩
theorem AtLX.of {P : Nat → Prop} {w : World} (hp : ∀ k, k < w.heap.size → P k) : ∀ (r : List Nd.T) {a : Option Addr}, Nd.AtL w r a → AtLX P w r a
 | [], _, _ => trivial
 | t :: r, _, ⟨b, o, v0, v1, v2, v3, v4, ha, h0, h1, h2, h3, h4, h5, h6⟩ => ⟨b, o, v0, v1, v2, v3, v4, ha, hp b (World.block_lt_of_cell? _ _ h0), h0, h1, h2, h3, h4, AtX.of hp t h5, AtLX.of hp r h6⟩
end
/-- What is of a sort is of a wider one. -/
theorem AtX.wide {P P' : Nat → Prop} {w : World} {t : Nd.T} {v : Value} (hp : ∀ k, P k → P' k) (h : AtX P w t v) : AtX P' w t v := AtX.keep hp (fun _ _ _ => rfl) t h
/-- A block that telling leaves: it lies below n₀, or is none of the problems' and not the checker. -/
def Fx (n₀ : Nat) (W : World) (k : Nat) : Prop := k < n₀ ∨ ∃ o, W.heap[k]? = some o ∧ Fix o
theorem Fx.tl {n₀ : Nat} {W W' : World} (h : Tl n₀ W W') (k : Nat) (hk : Fx n₀ W k) : Fx n₀ W' k := hk.elim .inl fun ⟨o, a, b⟩ => .inr ⟨o, h.2 k o a b, b⟩
theorem Fx.bk {n₀ : Nat} {W : World} {b : Nat} {t : TypeId} {cs : Array Value} (h : Bk W b t cs) (h1 : t ≠ 110) (h2 : t ≠ 103) : Fx n₀ W b := .inr ⟨_, h, h1, h2⟩
theorem Tl.stay {n₀ : Nat} {W W' : World} {P : Nat → Prop} (h : Tl n₀ W W') (hP : ∀ k, P k → Fx n₀ W k) : Stay P W W' := fun k hk _ => by
 rcases hP k hk with hk | ⟨o, a, b⟩
 · exact h.1.block k hk
 · rw [h.2 k o a b, a]
/-- A node in blocks that telling leaves stays through it. -/
theorem AtX.tl {n₀ : Nat} {W W' : World} {P : Nat → Prop} {t : Nd.T} {v : Value} (h : AtX P W t v) (hT : Tl n₀ W W') (hP : ∀ k, P k → Fx n₀ W k) : AtX P W' t v := AtX.keep (fun _ h => h) (Ck.Tl.stay hT hP) t h
/-- And through a store elsewhere. -/
theorem AtX.set {P : Nat → Prop} {w : World} {t : Nd.T} {v : Value} (h : AtX P w t v) (a : Addr) (u : Value) (ha : ¬ P a.block) : AtX P (w.setCell a u) t v :=
 AtX.keep (fun _ h => h) (fun k hk _ => Below.heap_setCell _ _ _ _ (fun e => ha (by rw [e] at hk; exact hk))) t h
/-- The row of the nodes ts at nb, each in blocks of sort P. -/
def RowN (P : Nat → Prop) (w : World) (nb : Nat) (ts : List Nd.T) : Prop := ∃ cs, Bk w nb 34 cs ∧ ts.length * 5 ≤ cs.size ∧ ∀ (p : Nat) (t : Nd.T), ts[p]? = some t → ∃ v0 v1 v2 v3 v4, cs[p * 5]? = some v0 ∧ cs[p * 5 + 1]? = some v1 ∧ cs[p * 5 + 2]? = some v2 ∧ cs[p * 5 + 3]? = some v3 ∧ cs[p * 5 + 4]? = some v4 ∧ AtX P w t (.agg #[v0, v1, v2, v3, v4])
theorem RowN.wide {P P' : Nat → Prop} {w : World} {nb : Nat} {ts : List Nd.T} (hp : ∀ k, P k → P' k) (h : RowN P w nb ts) : RowN P' w nb ts := by
 obtain ⟨cs, h1, h2, h3⟩ := h
 refine ⟨cs, h1, h2, fun p t ht => ?_⟩
 obtain ⟨v0, v1, v2, v3, v4, a0, a1, a2, a3, a4, hA⟩ := h3 p t ht
 exact ⟨v0, v1, v2, v3, v4, a0, a1, a2, a3, a4, hA.wide hp⟩
theorem RowN.tl {n₀ : Nat} {W W' : World} {P : Nat → Prop} {nb : Nat} {ts : List Nd.T} (h : RowN P W nb ts) (hT : Tl n₀ W W') (hP : ∀ k, P k → Fx n₀ W k) : RowN P W' nb ts := by
 obtain ⟨cs, h1, h2, h3⟩ := h
 refine ⟨cs, hT.bk h1 (by decide) (by decide), h2, fun p t ht => ?_⟩
 obtain ⟨v0, v1, v2, v3, v4, a0, a1, a2, a3, a4, hA⟩ := h3 p t ht
 exact ⟨v0, v1, v2, v3, v4, a0, a1, a2, a3, a4, hA.tl hT hP⟩
/-- A node is put in its place. -/
theorem RowN.put {P : Nat → Prop} {w : World} {nb : Nat} {ts : List Nd.T} {p : Nat} {t : Nd.T} {u0 u1 u2 u3 u4 : Value} (h : RowN P w nb ts) (hnb : ¬ P nb) (hp : p < ts.length) (hA : AtX P w t (.agg #[u0, u1, u2, u3, u4])) :
 RowN P (((((w.setCell ⟨nb, p * 5, none⟩ u0).setCell ⟨nb, p * 5 + 1, none⟩ u1).setCell ⟨nb, p * 5 + 2, none⟩ u2).setCell ⟨nb, p * 5 + 3, none⟩ u3).setCell ⟨nb, p * 5 + 4, none⟩ u4) nb (ts.set p t) := by
 obtain ⟨cs, h1, h2, h3⟩ := h
 have hset : ∀ {t' : Nd.T} {v : Value}, AtX P w t' v → AtX P (((((w.setCell ⟨nb, p * 5, none⟩ u0).setCell ⟨nb, p * 5 + 1, none⟩ u1).setCell ⟨nb, p * 5 + 2, none⟩ u2).setCell ⟨nb, p * 5 + 3, none⟩ u3).setCell ⟨nb, p * 5 + 4, none⟩ u4) t' v := fun h => ((((h.set _ _ hnb).set _ _ hnb).set _ _ hnb).set _ _ hnb).set _ _ hnb
 refine ⟨_, ((((h1.set _ u0).set _ u1).set _ u2).set _ u3).set _ u4, by simpa using h2, fun q t' ht => ?_⟩
 by_cases e : q = p
 · subst e
   rw [List.getElem?_set_self hp] at ht
   obtain rfl := Option.some.inj ht
   refine ⟨u0, u1, u2, u3, u4, ?_, ?_, ?_, ?_, ?_, hset hA⟩ <;> simp [Array.getElem?_setIfInBounds] <;> omega
 · rw [List.getElem?_set_ne (by omega)] at ht
   obtain ⟨v0, v1, v2, v3, v4, a0, a1, a2, a3, a4, hA'⟩ := h3 q t' ht
   refine ⟨v0, v1, v2, v3, v4, ?_, ?_, ?_, ?_, ?_, hset hA'⟩
   all_goals
    repeat rw [Array.getElem?_setIfInBounds_ne (by omega)]
    assumption
/-- What is read of a row: its nodes, as a list at an address. -/
theorem RowN.at {P : Nat → Prop} {w : World} {nb : Nat} {ts : List Nd.T} (h : RowN P w nb ts) (hnb : P nb) : AtLX P w ts (some ⟨nb, 0, none⟩) := by
 obtain ⟨cs, h1, _, h3⟩ := h
 have key : ∀ (l : List Nd.T) (k : Nat), (∀ p t, l[p]? = some t → ts[k + p]? = some t) → AtLX P w l (some ⟨nb, k * 5, none⟩) := by
  intro l
  induction l with
  | nil => intro k _; trivial
  | cons t l ih =>
   intro k hl
   obtain ⟨v0, v1, v2, v3, v4, a0, a1, a2, a3, a4, hA⟩ := h3 k t (by simpa using hl 0 t rfl)
   refine ⟨nb, k * 5, v0, v1, v2, v3, v4, rfl, hnb, ?_, ?_, ?_, ?_, ?_, hA, ?_⟩
   · rw [h1.cell]; exact a0
   · rw [h1.cell]; exact a1
   · rw [h1.cell]; exact a2
   · rw [h1.cell]; exact a3
   · rw [h1.cell]; exact a4
   · rw [show k * 5 + 5 = (k + 1) * 5 by omega]
     exact ih (k + 1) fun p t hp => by rw [show k + 1 + p = k + (p + 1) by omega]; exact hl (p + 1) t (by simpa using hp)
 have := key ts 0 (fun p t hp => by simpa using hp)
 simpa using this
theorem AtLX.get {P : Nat → Prop} {w : World} : ∀ (ts : List Nd.T) {a : Option Addr}, AtLX P w ts a → ∀ (p : Nat) (t : Nd.T), ts[p]? = some t → ∃ b o v0 v1 v2 v3 v4, a = some ⟨b, o, none⟩ ∧ P b ∧ w.cell? ⟨b, o + p * 5, none⟩ = some v0 ∧ w.cell? ⟨b, o + p * 5 + 1, none⟩ = some v1 ∧ w.cell? ⟨b, o + p * 5 + 2, none⟩ = some v2 ∧ w.cell? ⟨b, o + p * 5 + 3, none⟩ = some v3 ∧ w.cell? ⟨b, o + p * 5 + 4, none⟩ = some v4 ∧ AtX P w t (.agg #[v0, v1, v2, v3, v4])
 | [], _, _, p, t, h => by simp at h
 | q :: r, _, ⟨b, o, v0, v1, v2, v3, v4, ha, hn, h0, h1, h2, h3, h4, h5, h6⟩, 0, t, h => by
  obtain rfl : q = t := by simpa using h
  exact ⟨b, o, v0, v1, v2, v3, v4, ha, hn, by simpa using h0, by simpa using h1, by simpa using h2, by simpa using h3, by simpa using h4, h5⟩
 | q :: r, _, ⟨b, o, v0, v1, v2, v3, v4, ha, hn, h0, h1, h2, h3, h4, h5, h6⟩, p + 1, t, h => by
  obtain ⟨b', o', u0, u1, u2, u3, u4, he, hn', k0, k1, k2, k3, k4, k5⟩ := AtLX.get r h6 p t (by simpa using h)
  injection he with he
  injection he with e1 e2
  subst e1 e2
  have e : o + 5 + p * 5 = o + (p + 1) * 5 := by omega
  rw [e] at k0 k1 k2 k3 k4
  exact ⟨b, o, u0, u1, u2, u3, u4, ha, hn, k0, k1, k2, k3, k4, k5⟩
end Ck
end Go.Proofs.YtiinkhmgemoamaaDoor
namespace Go.Proofs.YtiinkhmgemoamaaDoor
open Go Go.RowKit Ck
set_option maxRecDepth 100000

theorem infoNodeC : (Tryd.prog.info? 34).map (fun i => (i.zero, i.size, i.bytes)) = some (some (.agg #[.int .u8 0, .string ⟨#[]⟩, .string ⟨#[]⟩, .slice none 0 0, .slice none 0 0]), 5, 88) := by kernel_rfl
namespace Ck
theorem cell_of {w : World} {P : Nat → Prop} {ts : List Nd.T} {b o : Nat} (h : AtLX P w ts (some ⟨b, o, none⟩)) (j : Nat) (hj : j < ts.length * 5) : ∃ v : Value, w.cell? ⟨b, o + j, none⟩ = some v ∧ v.oneCell' = true := by
 obtain ⟨t, ht⟩ : ∃ t, ts[j / 5]? = some t := ⟨_, List.getElem?_eq_getElem (by omega)⟩
 obtain ⟨b', o', v0, v1, v2, v3, v4, he, _, a0, a1, a2, a3, a4, hA⟩ := AtLX.get ts h (j / 5) t ht
 injection he with he
 injection he with e1 e2
 subst e1
 subst e2
 obtain ⟨sa1, sc1, ba1, bc1, h5⟩ := hA.five
 injection h5 with h5
 simp only [Array.mk.injEq, List.cons.injEq, and_true] at h5
 obtain ⟨rfl, rfl, rfl, rfl, rfl⟩ := h5
 have hj2 : j = j / 5 * 5 + j % 5 := by omega
 have h10 : j % 5 < 5 := Nat.mod_lt _ (by omega)
 generalize j / 5 = q at *
 generalize j % 5 = m at *
 subst hj2
 rcases (show m = 0 ∨ m = 1 ∨ m = 2 ∨ m = 3 ∨ m = 4 by omega) with rfl | rfl | rfl | rfl | rfl
 · exact ⟨_, by rw [← Nat.add_assoc]; exact a0, rfl⟩
 · exact ⟨_, by rw [← Nat.add_assoc]; exact a1, rfl⟩
 · exact ⟨_, by rw [← Nat.add_assoc]; exact a2, rfl⟩
 · exact ⟨_, by rw [← Nat.add_assoc]; exact a3, rfl⟩
 · exact ⟨_, by rw [← Nat.add_assoc]; exact a4, rfl⟩
end Ck
set_option maxHeartbeats 2000000 in
theorem CloneN_any (P : Nat → Prop) (ts : List Nd.T) (ba : Option Addr) (bc : Nat) (w : World) (hA : AtLX P w ts ba) (hrc : ts.length ≤ bc ∧ ts.length ≤ 1000000) :
 Calls Tryd.prog 73 #[.slice ba ts.length bc] w fun e w' => (∃ ba' bc', e = .returned (.slice ba' ts.length bc') ∧ ts.length ≤ bc' ∧ ((ba' = none ∧ ts = []) ∨ ∃ nb, ba' = some ⟨nb, 0, none⟩ ∧ w.heap.size ≤ nb ∧ RowN P w' nb ts)) ∧ Below w.heap.size w w' := by
 cases ba with
 | none =>
  obtain rfl : ts = [] := by
   cases ts with
   | nil => rfl
   | cons r l => obtain ⟨b, o, _, _, _, _, _, he, _⟩ := AtLX.get _ hA 0 r rfl; cases he
  rw [show ([] : List Nd.T).length = 0 from rfl]
  have hnil : ∀ W, (binOp .eql 32 (.slice none 0 bc) (.slice none 0 0)).run Tryd.prog W = .ok (.bool true) W := fun W => Lib.run_eql_slice_nil_nil W _ _ Tryd.underlying32
  clear hA
  go_enter Tryd.func73, Tryd.ntmps73
  go_wp2_with fail
  go_ret
  exact ⟨⟨none, 0, rfl, Nat.le_refl _, .inl (by simp)⟩, Below.refl _ _⟩
 | some ad =>
  obtain ⟨i0, hi, hz0, hz1, hz2⟩ := info_parts infoNodeC
  obtain ⟨xs, hxl, hxg, hx1, hx2⟩ : ∃ xs : List Value, xs.length = ts.length * 5 ∧ (∀ j u, xs[j]? = some u → w.cell? (ad.add j) = some u) ∧ (∀ u ∈ xs, u.oneCell' = true) ∧ (∀ (nb : Nat) (W : World) (cs : Array Value), Below w.heap.size w W → W.heap[nb]? = some (.cells cs 34 (0, 0)) → ts.length * 5 ≤ cs.size → (∀ j u, xs[j]? = some u → cs[j]? = some u) → RowN P W nb ts) := by
   cases ts with
   | nil => exact ⟨[], rfl, fun j u h => by simp at h, fun u h => by simp at h, fun nb W cs _ hk hs _ => ⟨cs, hk, hs, fun p t h => by simp at h⟩⟩
   | cons r l =>
    obtain ⟨b, o, _, _, _, _, _, he, _⟩ := AtLX.get _ hA 0 r rfl
    injection he with he
    subst he
    refine ⟨rowOf w b o ((r :: l).length * 5), rowOf_len _ _ _ _, fun j u h => ?_, fun u h => ?_, fun nb W cs hb hk hs hc => ⟨cs, hk, hs, fun p t ht => ?_⟩⟩
    · have hj : j < (r :: l).length * 5 := by have := (List.getElem?_eq_some_iff.1 h).1; rw [rowOf_len] at this; exact this
      obtain ⟨v, hv, _⟩ := Ck.cell_of hA j hj
      rw [rowOf_get hj hv] at h
      injection h with h
      subst h
      rw [Go.WideShapes.add_plain]
      exact hv
    · obtain ⟨j, hj, rfl⟩ := List.getElem_of_mem h
      rw [rowOf_len] at hj
      obtain ⟨v, hv, h1⟩ := Ck.cell_of hA j hj
      have := rowOf_get hj hv
      rw [List.getElem?_eq_getElem (by rw [rowOf_len]; exact hj)] at this
      injection this with this
      rw [this]; exact h1
    · have hi := (List.getElem?_eq_some_iff.1 ht).1
      obtain ⟨b', o', v0, v1, v2, v3, v4, he, _, a0, a1, a2, a3, a4, hA'⟩ := AtLX.get _ hA p t ht
      injection he with he
      injection he with e1 e2
      subst e1
      subst e2
      have k := fun (m : Nat) (v : Value) (hm : m < 5) (hv : w.cell? ⟨b, o + (p * 5 + m), none⟩ = some v) => hc (p * 5 + m) v (rowOf_get (by omega) hv)
      exact ⟨v0, v1, v2, v3, v4, k 0 _ (by omega) a0, k 1 _ (by omega) a1, k 2 _ (by omega) a2, k 3 _ (by omega) a3, k 4 _ (by omega) a4, AtX.keep (fun _ h => h) (Stay.below hb) t hA'⟩
  obtain ⟨RN, hRN⟩ : ∃ k, ts.length = k := ⟨_, rfl⟩
  rw [hRN] at hrc hxl ⊢
  have own0 : (w.alloc (.cells #[] 34)).ownsRow w.heap.size 34 5 (.slice (some ⟨w.heap.size, 0, none⟩) 0 0) 0 [] := by
   refine ⟨rfl, .inr ⟨w.heap.size, 0, #[], rfl, Nat.le_refl _, ?_, Nat.le_refl _, Nat.zero_le _, rfl, rfl⟩⟩
   show (w.heap.push _)[w.heap.size]? = _
   simp
  have hb0 : ∀ ob, Below w.heap.size w (w.alloc ob) := fun ob => (Below.refl _ w).alloc (Nat.le_refl _) ob
  have hxg2 : ∀ j u, xs[j]? = some u → (w.alloc (.cells #[] 34)).cell? (ad.add j) = some u := fun j u h => by
   have h0 := hxg j u h
   rw [(hb0 _).cell (World.block_lt_of_cell? _ _ h0)]
   exact h0
  have hnil2 : ∀ W, (binOp .eql 32 (.slice (some ad) RN bc) (.slice none 0 0)).run Tryd.prog W = .ok (.bool false) W := fun W => Lib.run_eql_slice_some_nil W _ _ _ Tryd.underlying32
  have HX2 := Lib.hid hx2
  clear hA hx2
  go_enter Tryd.func73, Tryd.ntmps73
  go_wp2_with (at_builtin; refine wpList_append_own _ rfl _ _ 32 rfl w.heap.size 34 i0 (.agg #[.int .u8 0, .string ⟨#[]⟩, .string ⟨#[]⟩, .slice none 0 0, .slice none 0 0]) 5 88 Tryd.underlying32 hi hz0 hz1 hz2 rfl (by decide) _ 0 _ rfl own0 ad RN bc xs rfl hxl hxg2 hx1 (by unfold maxLen; omega) (by omega) (by simp) ?_; intro v' w2 hown hg hnil)
  go_ret
  have hB2 : Below w.heap.size w w2 := (hb0 _).grown hg (by simp) (fun k e => by cases e; exact Nat.le_refl _)
  rw [Nat.zero_add, List.nil_append] at hown
  rcases hown.2 with ⟨rfl, h0⟩ | ⟨g, cap, cur, rfl, hgb, hcur, hcap, _, hsz, htk⟩
  · subst h0
    obtain rfl : ts = [] := List.eq_nil_of_length_eq_zero hRN
    exact ⟨⟨none, 0, rfl, Nat.le_refl _, .inl ⟨rfl, rfl⟩⟩, hB2⟩
  · have hall : ∀ j u, xs[j]? = some u → cur[j]? = some u := fun j u hj => by
     rw [← htk, List.getElem?_take] at hj
     split at hj
     · simpa using hj
     · cases hj
    refine ⟨⟨some ⟨g, 0, none⟩, cap, rfl, hcap, .inr ⟨g, rfl, hgb, HX2.out g w2 cur hB2 hcur ?_ hall⟩⟩, hB2⟩
    rw [hRN, ← hxl]
    by_cases h : xs.length = 0
    · omega
    · have h1 := hall (xs.length - 1) _ (List.getElem?_eq_getElem (by omega))
      have h2 : xs.length - 1 < cur.size := (Array.getElem?_eq_some_iff.1 h1).1
      omega
end Go.Proofs.YtiinkhmgemoamaaDoor
namespace Go.Proofs.YtiinkhmgemoamaaDoor.Ck
open Go Go.RowKit Nd

/-- What loops puts in the place of one of the Subs. -/
def lpO (e : T → Bool) (lp : Bool) (t : T) : T := if lp then stand (e (lpT e t)) else lpT e t
theorem lpL_map (e : T → Bool) (lp : Bool) : ∀ l : List T, lpL e lp l = l.map (lpO e lp)
 | [] => rfl
 | t :: r => by simp only [lpL, List.map_cons, lpL_map e lp r, lpO]
theorem lpL_len (e : T → Bool) (lp : Bool) (l : List T) : (lpL e lp l).length = l.length := by rw [lpL_map, List.length_map]
/-- The Subs, the first p of which have been gone through. -/
def lpS (e : T → Bool) (lp : Bool) (l : List T) (p : Nat) : List T := lpL e lp (l.take p) ++ l.drop p
theorem lpS_start (e : T → Bool) (lp : Bool) (l : List T) : lpS e lp l 0 = l := by simp [lpS, lpL]
theorem lpS_end (e : T → Bool) (lp : Bool) (l : List T) : lpS e lp l l.length = lpL e lp l := by simp [lpS]
theorem lpS_len (e : T → Bool) (lp : Bool) (l : List T) (p : Nat) : (lpS e lp l p).length = l.length := by
 simp only [lpS, List.length_append, lpL_len, List.length_take, List.length_drop]
 omega
theorem lpS_at {e : T → Bool} {lp : Bool} {l : List T} {p : Nat} {t : T} (h : l[p]? = some t) : (lpS e lp l p)[p]? = some t := by
 have hp := (List.getElem?_eq_some_iff.1 h).1
 unfold lpS
 rw [List.getElem?_append_right (by rw [lpL_len, List.length_take]; omega), lpL_len, List.length_take, List.getElem?_drop]
 rw [show p + (p - min p l.length) = p by omega]
 exact h
theorem lpS_put {e : T → Bool} {lp : Bool} {l : List T} {p : Nat} {t : T} (h : l[p]? = some t) : (lpS e lp l p).set p (lpO e lp t) = lpS e lp l (p + 1) := by
 have hp := (List.getElem?_eq_some_iff.1 h).1
 apply List.ext_getElem?
 intro q
 have hl := lpS_len e lp l p
 by_cases hq : q = p
 · subst hq
   rw [List.getElem?_set_self (by omega)]
   unfold lpS
   rw [List.getElem?_append_left (by rw [lpL_len, List.length_take]; omega), lpL_map, List.getElem?_map, List.getElem?_take_of_lt (by omega), h]
   rfl
 · rw [List.getElem?_set_ne (by omega)]
   unfold lpS
   by_cases hlt : q < p
   · rw [List.getElem?_append_left (by rw [lpL_len, List.length_take]; omega), List.getElem?_append_left (by rw [lpL_len, List.length_take]; omega), lpL_map, lpL_map, List.getElem?_map, List.getElem?_map, List.getElem?_take_of_lt hlt, List.getElem?_take_of_lt (by omega)]
   · rw [List.getElem?_append_right (by rw [lpL_len, List.length_take]; omega), List.getElem?_append_right (by rw [lpL_len, List.length_take]; omega), lpL_len, lpL_len, List.length_take, List.length_take, List.getElem?_drop, List.getElem?_drop]
     congr 1
     omega
/-- How many are told of the first p. -/
def lpK (e : T → Bool) (lp : Bool) (l : List T) (p : Nat) : Nat := lpNL e lp true (l.take p)
theorem lpNL_snoc (e : T → Bool) (lp : Bool) (t : T) : ∀ (l : List T) (f : Bool), lpNL e lp f (l ++ [t]) = lpNL e lp f l + lpN e t + (if lp && (f && l.isEmpty) && e (lpT e t) then 1 else 0)
 | [], f => by simp [lpNL]
 | q :: l, f => by
  have := lpNL_snoc e lp t l false
  simp only [List.cons_append, lpNL, this]
  simp
  omega
theorem lpK_start (e : T → Bool) (lp : Bool) (l : List T) : lpK e lp l 0 = 0 := by simp [lpK, lpNL]
theorem lpK_end (e : T → Bool) (k : Int) (n x : ByteArray) (s : List (Int × Int)) (l : List T) : lpK e (isLoop k) l l.length = lpN e (.mk k n x s l) := by simp [lpK, lpN]
theorem lpK_more {e : T → Bool} {lp : Bool} {l : List T} {p : Nat} {t : T} (h : l[p]? = some t) : lpK e lp l (p + 1) = lpK e lp l p + lpN e t + (if lp && decide (p = 0) && e (lpT e t) then 1 else 0) := by
 have hp := (List.getElem?_eq_some_iff.1 h).1
 unfold lpK
 rw [List.take_add_one, h]
 show lpNL e lp true (l.take p ++ [t]) = _
 rw [lpNL_snoc]
 have : (l.take p).isEmpty = decide (p = 0) := by
  cases p with
  | zero => simp
  | succ p => cases l with
   | nil => simp at hp
   | cons q l => simp
 rw [this]
 simp
end Go.Proofs.YtiinkhmgemoamaaDoor.Ck
namespace Go.Proofs.YtiinkhmgemoamaaDoor
open Go Go.RowKit Ck
set_option maxRecDepth 100000

namespace Ck
theorem stand_deep (b : Bool) : Nd.deep (stand b) = 1 ∧ Nd.count (stand b) = 1 := by cases b <;> simp [stand, Nd.deep, Nd.deepL, Nd.count, Nd.countL]
mutual
theorem lpT_small (e : Nd.T → Bool) : ∀ t : Nd.T, Nd.deep (lpT e t) ≤ Nd.deep t ∧ Nd.count (lpT e t) ≤ Nd.count t
 | .mk k n x s b => by
  have := lpL_small e (isLoop k) b
  simp only [lpT, Nd.deep, Nd.count]
  omega
theorem lpL_small (e : Nd.T → Bool) (lp : Bool) : ∀ b : List Nd.T, Nd.deepL (lpL e lp b) ≤ Nd.deepL b ∧ Nd.countL (lpL e lp b) ≤ Nd.countL b
 | [] => by simp [lpL, Nd.deepL, Nd.countL]
 | t :: r => by
  have h1 := lpT_small e t
  have h2 := lpL_small e lp r
  have h3 := Nd.deep_pos t
  have h4 := Nd.count_pos t
  have h5 := stand_deep (e (lpT e t))
  simp only [lpL, Nd.deepL, Nd.countL]
  cases lp
  · simp only [Bool.false_eq_true, if_false]; omega
  · simp only [if_true]; omega
end
mutual
theorem lpN_le (e : Nd.T → Bool) : ∀ t : Nd.T, lpN e t + 1 ≤ Nd.count t * 2
 | .mk k n x s b => by
  have := lpNL_le e (isLoop k) true b
  simp only [lpN, Nd.count]
  omega
theorem lpNL_le (e : Nd.T → Bool) (lp : Bool) : ∀ (f : Bool) (b : List Nd.T), lpNL e lp f b ≤ Nd.countL b * 2
 | _, [] => by simp [lpNL]
 | f, t :: r => by
  have h1 := lpN_le e t
  have h2 := lpNL_le e lp false r
  simp only [lpNL, Nd.countL]
  split <;> omega
end
theorem deep_sub {b : List Nd.T} {p : Nat} {s : Nd.T} (h : b[p]? = some s) : Nd.deep s ≤ Nd.deepL b ∧ Nd.count s ≤ Nd.countL b := by
 induction b generalizing p with
 | nil => simp at h
 | cons q r ih =>
  simp only [Nd.deepL, Nd.countL]
  cases p with
  | zero =>
   obtain rfl : q = s := by simpa using h
   omega
  | succ p =>
   have := ih (p := p) (by simpa using h)
   omega
theorem lpNL_mono (e : Nd.T → Bool) (lp : Bool) : ∀ (l : List Nd.T) (p : Nat) (f : Bool), lpNL e lp f (l.take p) ≤ lpNL e lp f l
 | [], p, f => by simp
 | t :: r, 0, f => by simp [lpNL]
 | t :: r, p + 1, f => by
  have := lpNL_mono e lp r p false
  simp only [List.take_succ_cons, lpNL]
  omega
theorem Fx.set {n₀ : Nat} {X : World} {k b o : Nat} {u : Value} (h : Fx n₀ X k) (hne : k ≠ b) : Fx n₀ (X.setCell ⟨b, o, none⟩ u) k := h.elim .inl fun ⟨ob, a, c⟩ => .inr ⟨ob, (Below.heap_setCell _ _ _ _ hne).trans a, c⟩
end Ck
theorem Tl.setN {n₀ : Nat} {W X : World} (h : Tl n₀ W X) {b : Nat} (hb : W.heap.size ≤ b) (hn : n₀ ≤ W.heap.size) (o : Nat) (u : Value) : Tl n₀ W (X.setCell ⟨b, o, none⟩ u) :=
 ⟨h.1.setCell (p := ⟨b, o, none⟩) (Nat.le_trans hn hb) u, fun k ob hk hf => by
  rw [Below.heap_setCell _ _ _ _ (by have := (Array.getElem?_eq_some_iff.1 hk).1; show k ≠ b; omega)]
  exact h.2 k ob hk hf⟩
theorem CkI.setB {n₀ cp : Nat} {cv : CkV} {L : List Pr} {X : World} (h : CkI n₀ cp cv L X) {b : Nat} {t : TypeId} {cs : Array Value} (hk : Bk X b t cs) (h1 : t ≠ 110) (h2 : t ≠ 103) (o : Nat) (u : Value) : CkI n₀ cp cv L (X.setCell ⟨b, o, none⟩ u) := by
 obtain ⟨h0, pv, k1, k2⟩ := h
 refine ⟨h0, pv, k1.other _ _ (k1.ne hk (fun e => h2 e.symm)), k2.1, ?_⟩
 rcases k2.2 with h3 | ⟨g, c, cur, h3, h4, h5, h6⟩
 · exact .inl h3
 · refine .inr ⟨g, c, cur, h3, h4, ?_, h6⟩
   exact (Below.heap_setCell _ _ _ _ (show g ≠ b from Bk.ne (show Bk X g 110 cur from h5) hk (fun e => h1 e.symm))).trans h5
namespace Ck
/-- The five cells of a node. -/
def set5 (X : World) (b p : Nat) (u0 u1 u2 u3 u4 : Value) : World := ((((X.setCell ⟨b, p, none⟩ u0).setCell ⟨b, p + 1, none⟩ u1).setCell ⟨b, p + 2, none⟩ u2).setCell ⟨b, p + 3, none⟩ u3).setCell ⟨b, p + 4, none⟩ u4
/-- What loops has made at X, behind W: the grammar's box, the node's, the result's, and the row of the Subs. -/
structure LI (n₀ cp : Nat) (cv : CkV) (P : Nat → Prop) (W : World) (g5 n5 : Array Value) (ba : Option Addr) (ts : List Nd.T) (L : List Pr) (X : World) : Prop where
 t : Tl n₀ W X
 g : Bk X W.heap.size 26 g5
 n : Bk X (W.heap.size + 1) 34 n5
 r : Bk X (W.heap.size + 2) 34 #[.int .u8 0, .string ⟨#[]⟩, .string ⟨#[]⟩, .slice none 0 0, .slice none 0 0]
 row : (ba = none ∧ ts = []) ∨ ∃ nb, ba = some ⟨nb, 0, none⟩ ∧ W.heap.size + 2 < nb ∧ RowN (fun k => P k ∨ (nb < k ∧ Fx n₀ X k)) X nb ts
 i : CkI n₀ cp cv L X
 le : n₀ ≤ W.heap.size
 ps : ∀ k, P k → Fx n₀ W k ∧ k < W.heap.size
theorem LI.to {n₀ cp : Nat} {cv : CkV} {P : Nat → Prop} {W X X' : World} {g5 n5 : Array Value} {ba : Option Addr} {ts : List Nd.T} {L L' : List Pr} (h : LI n₀ cp cv P W g5 n5 ba ts L X) (hT : Tl n₀ X X') (hI : CkI n₀ cp cv L' X') :
 LI n₀ cp cv P W g5 n5 ba ts L' X' where
 t := h.t.trans hT
 g := hT.bk h.g (by decide) (by decide)
 n := hT.bk h.n (by decide) (by decide)
 r := hT.bk h.r (by decide) (by decide)
 row := h.row.imp id fun ⟨nb, e, hl, hr⟩ => ⟨nb, e, hl, RowN.wide (fun k hk => hk.imp id fun hk => ⟨hk.1, hk.2.tl hT⟩) (hr.tl hT fun k hk => hk.elim (fun hk => (h.ps k hk).1.tl h.t) fun hk => hk.2)⟩
 i := hI
 le := h.le
 ps := h.ps
theorem LI.below {n₀ cp : Nat} {cv : CkV} {P : Nat → Prop} {W X X' : World} {g5 n5 : Array Value} {ba : Option Addr} {ts : List Nd.T} {L : List Pr} (h : LI n₀ cp cv P W g5 n5 ba ts L X) (hb : Below X.heap.size X X') :
 LI n₀ cp cv P W g5 n5 ba ts L X' := h.to (Tl.below (Nat.le_trans h.le h.t.1.size) hb) (h.i.below hb)
/-- A Sub is put in its place. -/
theorem LI.put {n₀ cp : Nat} {cv : CkV} {P : Nat → Prop} {W X : World} {g5 n5 : Array Value} {nb : Nat} {ts : List Nd.T} {L : List Pr} (h : LI n₀ cp cv P W g5 n5 (some ⟨nb, 0, none⟩) ts L X) {p : Nat} {t : Nd.T} {u0 u1 u2 u3 u4 : Value} (hp : p < ts.length)
 (hA : AtX (fun k => P k ∨ (nb < k ∧ Fx n₀ X k)) X t (.agg #[u0, u1, u2, u3, u4])) : LI n₀ cp cv P W g5 n5 (some ⟨nb, 0, none⟩) (ts.set p t) L (set5 X nb (p * 5) u0 u1 u2 u3 u4) := by
 rcases h.row with ⟨e, _⟩ | ⟨nb', e, hl, hr⟩
 · cases e
 · injection e with e
   injection e with e _
   subst e
   obtain ⟨cs, hk, hcs⟩ := id hr
   have hnP : ¬ (P nb ∨ (nb < nb ∧ Fx n₀ X nb)) := fun hk => hk.elim (fun hk => by have := (h.ps nb hk).2; omega) fun hk => Nat.lt_irrefl _ hk.1
   have hne : ∀ {b : Nat}, b ≤ W.heap.size + 2 → b ≠ nb := fun h => by omega
   have oth : ∀ {b : Nat} {t : TypeId} {c : Array Value}, Bk X b t c → b ≠ nb → Bk (set5 X nb (p * 5) u0 u1 u2 u3 u4) b t c := fun hb hn => ((((hb.other _ _ hn).other _ _ hn).other _ _ hn).other _ _ hn).other _ _ hn
   have k1 := hk.set (p * 5) u0
   have k2 := k1.set (p * 5 + 1) u1
   have k3 := k2.set (p * 5 + 2) u2
   have k4 := k3.set (p * 5 + 3) u3
   exact {
    t := ((((h.t.setN (by omega) h.le _ _).setN (by omega) h.le _ _).setN (by omega) h.le _ _).setN (by omega) h.le _ _).setN (by omega) h.le _ _
    g := oth h.g (hne (by omega))
    n := oth h.n (hne (by omega))
    r := oth h.r (hne (by omega))
    row := .inr ⟨nb, rfl, hl, RowN.wide (fun k hk => hk.imp id fun hk => ⟨hk.1, ((((hk.2.set (by omega)).set (by omega)).set (by omega)).set (by omega)).set (by omega)⟩) (hr.put hnP hp hA)⟩
    i := ((((h.i.setB hk (by decide) (by decide) _ _).setB k1 (by decide) (by decide) _ _).setB k2 (by decide) (by decide) _ _).setB k3 (by decide) (by decide) _ _).setB k4 (by decide) (by decide) _ _
    le := h.le
    ps := h.ps }
/-- What is handed back. -/
theorem LI.done {n₀ cp : Nat} {cv : CkV} {P : Nat → Prop} {W X : World} {g5 n5 : Array Value} {ba : Option Addr} {ts : List Nd.T} {L : List Pr} (h : LI n₀ cp cv P W g5 n5 ba ts L X) (u0 u1 u2 u3 u4 : Value) :
 AtLX (fun k => P k ∨ (W.heap.size ≤ k ∧ Fx n₀ (set5 X (W.heap.size + 2) 0 u0 u1 u2 u3 u4) k)) (set5 X (W.heap.size + 2) 0 u0 u1 u2 u3 u4) ts ba ∧ CkI n₀ cp cv L (set5 X (W.heap.size + 2) 0 u0 u1 u2 u3 u4) ∧ Tl n₀ W (set5 X (W.heap.size + 2) 0 u0 u1 u2 u3 u4) := by
 have k1 := h.r.set 0 u0
 have k2 := k1.set 1 u1
 have k3 := k2.set 2 u2
 have k4 := k3.set 3 u3
 refine ⟨?_, ((((h.i.setB h.r (by decide) (by decide) _ _).setB k1 (by decide) (by decide) _ _).setB k2 (by decide) (by decide) _ _).setB k3 (by decide) (by decide) _ _).setB k4 (by decide) (by decide) _ _,
  ((((h.t.setN (by omega) h.le _ _).setN (by omega) h.le _ _).setN (by omega) h.le _ _).setN (by omega) h.le _ _).setN (by omega) h.le _ _⟩
 rcases h.row with ⟨rfl, rfl⟩ | ⟨nb, rfl, hl, hr⟩
 · trivial
 · obtain ⟨cs, hk, hcs⟩ := id hr
   have h1 := (RowN.wide (P' := fun k => P k ∨ (nb ≤ k ∧ Fx n₀ X k)) (fun k hk => hk.imp id fun hk => ⟨Nat.le_of_lt hk.1, hk.2⟩) hr).at (.inr ⟨Nat.le_refl _, Fx.bk hk (by decide) (by decide)⟩)
   refine AtLX.keep (P := fun k => P k ∨ (nb ≤ k ∧ Fx n₀ X k)) (fun k hk => hk.imp id fun hk => ⟨by omega, ((((hk.2.set (by omega)).set (by omega)).set (by omega)).set (by omega)).set (by omega)⟩) (fun k hk _ => ?_) _ h1
   have hne : k ≠ W.heap.size + 2 := by
    rcases hk with hk | hk
    · have := (h.ps k hk).2; omega
    · omega
   unfold set5
   rw [Below.heap_setCell _ _ _ _ hne, Below.heap_setCell _ _ _ _ hne, Below.heap_setCell _ _ _ _ hne, Below.heap_setCell _ _ _ _ hne, Below.heap_setCell _ _ _ _ hne]
theorem RowN.oth {P : Nat → Prop} {w : World} {nb : Nat} {ts : List Nd.T} (h : RowN P w nb ts) {b : Nat} (hb : ¬ P b) (hne : nb ≠ b) (o : Nat) (u : Value) : RowN P (w.setCell ⟨b, o, none⟩ u) nb ts := by
 obtain ⟨cs, h1, h2, h3⟩ := h
 refine ⟨cs, h1.other _ _ hne, h2, fun p t ht => ?_⟩
 obtain ⟨v0, v1, v2, v3, v4, a0, a1, a2, a3, a4, hA⟩ := h3 p t ht
 exact ⟨v0, v1, v2, v3, v4, a0, a1, a2, a3, a4, hA.set _ _ hb⟩
theorem stand_atX (P : Nat → Prop) (w : World) (b : Bool) : AtX P w (stand b) (.agg #[.int .u8 (if b then 1 else 0), .string ⟨#[]⟩, .string ⟨#[]⟩, .slice none 0 0, .slice none 0 0]) := by
 unfold stand AtX
 refine ⟨none, 0, none, 0, rfl, ?_, ?_, ?_, ?_, ?_, ?_, ?_⟩
 · cases b <;> simp
 · decide
 · decide
 · simp
 · simp
 · trivial
 · unfold AtLX; trivial
/-- How it begins. -/
theorem LI.start {n₀ cp : Nat} {cv : CkV} {P : Nat → Prop} {W w2 : World} {g5 n5 : Array Value} {ba : Option Addr} {ts : List Nd.T} {L : List Pr} (hI : CkI n₀ cp cv L W) (hn : n₀ ≤ W.heap.size) (hP : ∀ k, P k → Fx n₀ W k ∧ k < W.heap.size) (u : Value)
 (hb : Below (((W.alloc (.cells g5 26)).alloc (.cells n5 34)).alloc (.cells #[.int .u8 0, .string ⟨#[]⟩, .string ⟨#[]⟩, .slice none 0 0, .slice none 0 0] 34)).heap.size (((W.alloc (.cells g5 26)).alloc (.cells n5 34)).alloc (.cells #[.int .u8 0, .string ⟨#[]⟩, .string ⟨#[]⟩, .slice none 0 0, .slice none 0 0] 34)) w2)
 (hrow : (ba = none ∧ ts = []) ∨ ∃ nb, ba = some ⟨nb, 0, none⟩ ∧ W.heap.size + 2 < nb ∧ RowN P w2 nb ts) :
 LI n₀ cp cv P W g5 (n5.setIfInBounds 4 u) ba ts L (w2.setCell ⟨W.heap.size + 1, 4, none⟩ u) := by
 have b1 : Below W.heap.size W (((W.alloc (.cells g5 26)).alloc (.cells n5 34)).alloc (.cells #[.int .u8 0, .string ⟨#[]⟩, .string ⟨#[]⟩, .slice none 0 0, .slice none 0 0] 34)) := (((Below.refl _ W).alloc (Nat.le_refl _) _).alloc (by simp) _).alloc (by simp; omega) _
 have b2 := b1.trans (hb.mono b1.size)
 have kg := (((Bk.made W 26 g5).alloc (.cells n5 34)).alloc (.cells #[.int .u8 0, .string ⟨#[]⟩, .string ⟨#[]⟩, .slice none 0 0, .slice none 0 0] 34)).below hb (by simp; omega)
 have kn := ((Bk.made (W.alloc (.cells g5 26)) 34 n5).alloc (.cells #[.int .u8 0, .string ⟨#[]⟩, .string ⟨#[]⟩, .slice none 0 0, .slice none 0 0] 34)).below hb (by simp)
 have kr := (Bk.made ((W.alloc (.cells g5 26)).alloc (.cells n5 34)) 34 #[.int .u8 0, .string ⟨#[]⟩, .string ⟨#[]⟩, .slice none 0 0, .slice none 0 0]).below hb (by simp)
 simp only [World.size_alloc] at kn kr
 exact {
  t := (Tl.below hn b2).setN (by omega) hn _ _
  g := kg.other _ _ (by show W.heap.size ≠ W.heap.size + 1; omega)
  n := kn.set 4 u
  r := kr.other _ _ (by show W.heap.size + 1 + 1 ≠ W.heap.size + 1; omega)
  row := hrow.imp id fun ⟨nb, e, hl, hr⟩ => ⟨nb, e, hl, RowN.wide (fun k hk => .inl hk) (hr.oth (fun hk => by have := (hP _ hk).2; omega) (by omega) _ _)⟩
  i := (hI.below b2).setB kn (by decide) (by decide) _ _
  le := hn
  ps := hP }
/-- The cells of a Sub. -/
theorem LI.sub {n₀ cp : Nat} {cv : CkV} {P : Nat → Prop} {W X : World} {g5 n5 : Array Value} {nb : Nat} {ts : List Nd.T} {L : List Pr} (h : LI n₀ cp cv P W g5 n5 (some ⟨nb, 0, none⟩) ts L X) {p : Nat} {t : Nd.T} (ht : ts[p]? = some t) :
 W.heap.size + 2 < nb ∧ nb < X.heap.size ∧ (X.frozen? ⟨nb, p * 5, none⟩ = false ∧ X.frozen? ⟨nb, p * 5 + 1, none⟩ = false ∧ X.frozen? ⟨nb, p * 5 + 2, none⟩ = false ∧ X.frozen? ⟨nb, p * 5 + 3, none⟩ = false ∧ X.frozen? ⟨nb, p * 5 + 4, none⟩ = false) ∧
  ∃ sa sc ba bc, (X.cell? ⟨nb, p * 5, none⟩ = some (.int .u8 t.kind) ∧ X.cell? ⟨nb, p * 5 + 1, none⟩ = some (.string t.name) ∧ X.cell? ⟨nb, p * 5 + 2, none⟩ = some (.string t.text) ∧ X.cell? ⟨nb, p * 5 + 3, none⟩ = some (.slice sa t.set.length sc) ∧ X.cell? ⟨nb, p * 5 + 4, none⟩ = some (.slice ba t.subs.length bc)) ∧
   AtX (fun k => P k ∨ (nb < k ∧ Fx n₀ X k)) X t (.agg #[.int .u8 t.kind, .string t.name, .string t.text, .slice sa t.set.length sc, .slice ba t.subs.length bc]) := by
 rcases h.row with ⟨e, _⟩ | ⟨nb', e, hl, hr⟩
 · cases e
 · injection e with e
   injection e with e _
   subst e
   obtain ⟨cs, hk, _, hcs⟩ := hr
   obtain ⟨v0, v1, v2, v3, v4, a0, a1, a2, a3, a4, hA⟩ := hcs p t ht
   obtain ⟨sa, sc, ba, bc, e⟩ := hA.five
   injection e with e
   simp only [Array.mk.injEq, List.cons.injEq, and_true] at e
   obtain ⟨rfl, rfl, rfl, rfl, rfl⟩ := e
   exact ⟨hl, hk.lt, ⟨hk.free _, hk.free _, hk.free _, hk.free _, hk.free _⟩, sa, sc, ba, bc, ⟨(hk.cell _).trans a0, (hk.cell _).trans a1, (hk.cell _).trans a2, (hk.cell _).trans a3, (hk.cell _).trans a4⟩, hA⟩
end Ck
theorem ckdL2 {w : World} {a : Addr} {v : Value} (h : w.cell? a = some v) (o : Obj) : (w.drew.alloc o).cell? a = some v := by obtain ⟨b, i, s⟩ := a; obtain rfl := World.cell?_spot h; exact Nd.cell_keeps ((Below.refl _ w).drew.alloc (Nat.le_refl _) _) h
theorem ckneL {w : World} {p a : Addr} {u v : Value} (hne : p.block ≠ a.block) (h : w.cell? a = some v) : (w.setCell p u).cell? a = some v := by rw [World.cell?_setCell_far _ _ _ _ hne]; exact h
/-- A piece of code that ends as it should, apart from what follows. -/
theorem wp_cutL {P : Program} {c : Code} {Q : Exit → Act → World → Prop} {a : Act} {w : World} (R : Act → Act → World → Prop)
 (first : Code.wp P c (fun e a' w' => match e with | .normal => R a a' w' | _ => False) a w) (next : ∀ a' w', R a a' w' → Q .normal a' w') : Code.wp P c Q a w :=
 Code.wp_mono (fun e a' w' h => by cases e <;> first | exact next a' w' h | exact h.elim) first
end Go.Proofs.YtiinkhmgemoamaaDoor
