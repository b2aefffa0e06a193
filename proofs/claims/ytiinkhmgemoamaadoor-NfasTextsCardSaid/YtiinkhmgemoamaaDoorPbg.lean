/- Checks: rules that are written over one by one; nodes that are gathered in a box. -/
import Derived.Test.YtiinkhmgemoamaaDoorPan
import Derived.Test.YtiinkhmgemoamaaDoorPae
import Derived.Test.YtiinkhmgemoamaaDoorPbd
import Derived.ArgAppend
import Derived.Laws.OwnMore
namespace Go.Proofs.YtiinkhmgemoamaaDoor
open Go Go.RowKit Go.Shelf Ck Nu
set_option maxRecDepth 100000

namespace Ck
/-- The rules rs in the block rb, their bodies elsewhere, and not in q. -/
def RowR (w : World) (q rb : Nat) (rs : List Rl) : Prop := ∃ cs, Bk w rb 38 cs ∧ ∀ (i : Nat) (r : Rl), rs[i]? = some r → ∃ v0 v1 v2 v3 v4, cs[i * 10]? = some (.string r.name) ∧ cs[i * 10 + 1]? = some (.int .u8 r.sort) ∧
 cs[i * 10 + 2]? = some v0 ∧ cs[i * 10 + 3]? = some v1 ∧ cs[i * 10 + 4]? = some v2 ∧ cs[i * 10 + 5]? = some v3 ∧ cs[i * 10 + 6]? = some v4 ∧
 cs[i * 10 + 7]? = some (.int .i64 r.p0) ∧ cs[i * 10 + 8]? = some (.int .i64 r.p1) ∧ cs[i * 10 + 9]? = some (.int .i64 r.p2) ∧
 AtX (fun k => k ≠ rb ∧ k ≠ q) w r.body (.agg #[v0, v1, v2, v3, v4]) ∧ (0 ≤ r.sort ∧ r.sort < 256) ∧ r.name.size ≤ 140737488351232
theorem RowR.below {w w' : World} {q rb : Nat} {rs : List Rl} (h : RowR w q rb rs) (hb : Below w.heap.size w w') : RowR w' q rb rs := by
 obtain ⟨cs, hk, hcs⟩ := h
 refine ⟨cs, hk.below hb hk.lt, fun i r hr => ?_⟩
 obtain ⟨v0, v1, v2, v3, v4, a0, a1, a2, a3, a4, a5, a6, a7, a8, a9, hA, hs, hn⟩ := hcs i r hr
 exact ⟨v0, v1, v2, v3, v4, a0, a1, a2, a3, a4, a5, a6, a7, a8, a9, AtX.keep (fun _ h => h) (Stay.below hb) _ hA, hs, hn⟩
def arr5 (cs : Array Value) (m : Nat) (u0 u1 u2 u3 u4 : Value) : Array Value := ((((cs.setIfInBounds m u0).setIfInBounds (m + 1) u1).setIfInBounds (m + 2) u2).setIfInBounds (m + 3) u3).setIfInBounds (m + 4) u4
theorem arr5_out {cs : Array Value} {m j : Nat} {u0 u1 u2 u3 u4 : Value} (h : j < m ∨ m + 4 < j) : (arr5 cs m u0 u1 u2 u3 u4)[j]? = cs[j]? := by
 unfold arr5
 rw [Array.getElem?_setIfInBounds_ne (by omega), Array.getElem?_setIfInBounds_ne (by omega), Array.getElem?_setIfInBounds_ne (by omega), Array.getElem?_setIfInBounds_ne (by omega), Array.getElem?_setIfInBounds_ne (by omega)]
theorem arr5_in {cs : Array Value} {m : Nat} {u0 u1 u2 u3 u4 : Value} (h : m + 4 < cs.size) : (arr5 cs m u0 u1 u2 u3 u4)[m]? = some u0 ∧ (arr5 cs m u0 u1 u2 u3 u4)[m + 1]? = some u1 ∧ (arr5 cs m u0 u1 u2 u3 u4)[m + 2]? = some u2 ∧ (arr5 cs m u0 u1 u2 u3 u4)[m + 3]? = some u3 ∧ (arr5 cs m u0 u1 u2 u3 u4)[m + 4]? = some u4 := by
 unfold arr5
 refine ⟨?_, ?_, ?_, ?_, ?_⟩
 · rw [Array.getElem?_setIfInBounds_ne (by omega), Array.getElem?_setIfInBounds_ne (by omega), Array.getElem?_setIfInBounds_ne (by omega), Array.getElem?_setIfInBounds_ne (by omega)]
   simp [Array.getElem?_setIfInBounds]; omega
 · rw [Array.getElem?_setIfInBounds_ne (by omega), Array.getElem?_setIfInBounds_ne (by omega), Array.getElem?_setIfInBounds_ne (by omega)]
   simp [Array.getElem?_setIfInBounds]; omega
 · rw [Array.getElem?_setIfInBounds_ne (by omega), Array.getElem?_setIfInBounds_ne (by omega)]
   simp [Array.getElem?_setIfInBounds]; omega
 · rw [Array.getElem?_setIfInBounds_ne (by omega)]
   simp [Array.getElem?_setIfInBounds]; omega
 · simp [Array.getElem?_setIfInBounds]; omega
theorem RowR.put {w : World} {q rb p : Nat} {rs : List Rl} {r : Rl} {t : Nd.T} {u0 u1 u2 u3 u4 : Value} (h : RowR w q rb rs) (hr : rs[p]? = some r) (hA : AtX (fun k => k ≠ rb ∧ k ≠ q) w t (.agg #[u0, u1, u2, u3, u4])) :
 RowR (set5 w rb (p * 10 + 2) u0 u1 u2 u3 u4) q rb (rs.set p { r with body := t }) := by
 obtain ⟨cs, hk, hcs⟩ := h
 have hp := (List.getElem?_eq_some_iff.1 hr).1
 have hset : ∀ {t' : Nd.T} {v : Value}, AtX (fun k => k ≠ rb ∧ k ≠ q) w t' v → AtX (fun k => k ≠ rb ∧ k ≠ q) (set5 w rb (p * 10 + 2) u0 u1 u2 u3 u4) t' v := fun h => ((((h.set _ _ (by simp)).set _ _ (by simp)).set _ _ (by simp)).set _ _ (by simp)).set _ _ (by simp)
 refine ⟨arr5 cs (p * 10 + 2) u0 u1 u2 u3 u4, ((((hk.set _ u0).set _ u1).set _ u2).set _ u3).set _ u4, fun i q' hq => ?_⟩
 by_cases e : i = p
 · subst e
   rw [List.getElem?_set_self hp] at hq
   obtain rfl := Option.some.inj hq
   obtain ⟨v0, v1, v2, v3, v4, a0, a1, a2, a3, a4, a5, a6, a7, a8, a9, _, hs, hn⟩ := hcs i r hr
   have hsz : i * 10 + 9 < cs.size := (Array.getElem?_eq_some_iff.1 a9).1
   obtain ⟨b0, b1, b2, b3, b4⟩ := arr5_in (cs := cs) (m := i * 10 + 2) (u0 := u0) (u1 := u1) (u2 := u2) (u3 := u3) (u4 := u4) (by omega)
   exact ⟨u0, u1, u2, u3, u4, (arr5_out (by omega)).trans a0, (arr5_out (by omega)).trans a1, b0, b1, b2, b3, b4, (arr5_out (by omega)).trans a7, (arr5_out (by omega)).trans a8, (arr5_out (by omega)).trans a9, hset hA, hs, hn⟩
 · rw [List.getElem?_set_ne (by omega)] at hq
   obtain ⟨v0, v1, v2, v3, v4, a0, a1, a2, a3, a4, a5, a6, a7, a8, a9, hA', hs, hn⟩ := hcs i q' hq
   exact ⟨v0, v1, v2, v3, v4, (arr5_out (by omega)).trans a0, (arr5_out (by omega)).trans a1, (arr5_out (by omega)).trans a2, (arr5_out (by omega)).trans a3, (arr5_out (by omega)).trans a4, (arr5_out (by omega)).trans a5, (arr5_out (by omega)).trans a6, (arr5_out (by omega)).trans a7, (arr5_out (by omega)).trans a8, (arr5_out (by omega)).trans a9, hset hA', hs, hn⟩
theorem RowR.ruL {w : World} {q rb : Nat} {rs : List Rl} (h : RowR w q rb rs) : RuL w rs (some ⟨rb, 0, none⟩) := fun i r hr => by
 obtain ⟨cs, hk, hcs⟩ := h
 obtain ⟨v0, v1, v2, v3, v4, a0, a1, a2, a3, a4, a5, a6, a7, a8, a9, hA, hs, hn⟩ := hcs i r hr
 refine ⟨rb, 0, rfl, v0, v1, v2, v3, v4, ?_, ?_, ?_, ?_, ?_, ?_, ?_, ?_, ?_, ?_, AtX.to _ hA, hs, hn⟩ <;> rw [hk.cell, Nat.zero_add] <;> assumption
theorem RowR.of {w0 w : World} {q rb : Nat} {rs : List Rl} {cs : Array Value} (hb : Below w0.heap.size w0 w) (hq : w0.heap.size ≤ q) (hl : w0.heap.size ≤ rb) (hk : Bk w rb 38 cs) (hc : RowC w0 rs cs) : RowR w q rb rs := ⟨cs, hk, fun i r hr => by
 obtain ⟨v0, v1, v2, v3, v4, a0, a1, a2, a3, a4, a5, a6, a7, a8, a9, hA, hs, hn⟩ := hc i r hr
 exact ⟨v0, v1, v2, v3, v4, a0, a1, a2, a3, a4, a5, a6, a7, a8, a9, AtX.keep (fun _ h => h) (Stay.below hb) _ (AtX.of (fun k hk => by show k ≠ rb ∧ k ≠ q; omega) _ hA), hs, hn⟩⟩
theorem RowR.oth {w : World} {q rb : Nat} {rs : List Rl} (h : RowR w q rb rs) (hne : rb ≠ q) (o : Nat) (u : Value) : RowR (w.setCell ⟨q, o, none⟩ u) q rb rs := by
 obtain ⟨cs, hk, hcs⟩ := h
 refine ⟨cs, hk.other _ _ hne, fun i r hr => ?_⟩
 obtain ⟨v0, v1, v2, v3, v4, a0, a1, a2, a3, a4, a5, a6, a7, a8, a9, hA, hs, hn⟩ := hcs i r hr
 exact ⟨v0, v1, v2, v3, v4, a0, a1, a2, a3, a4, a5, a6, a7, a8, a9, hA.set _ _ (by simp), hs, hn⟩
/-- The rules, the first p of which have nothing but what they name. -/
def nmS (rs : List Rl) (p : Nat) : List Rl := (nmR rs).take p ++ rs.drop p
theorem nmS_zero (rs : List Rl) : nmS rs 0 = rs := by simp [nmS]
theorem nmS_all (rs : List Rl) : nmS rs rs.length = nmR rs := by
 unfold nmS
 rw [List.drop_length, List.append_nil, List.take_of_length_le (by simp [nmR])]
theorem nmS_len (rs : List Rl) (p : Nat) : (nmS rs p).length = rs.length := by simp [nmS, nmR]; omega
theorem nmS_at {rs : List Rl} {p : Nat} {r : Rl} (h : rs[p]? = some r) : (nmS rs p)[p]? = some r := by
 have hp := (List.getElem?_eq_some_iff.1 h).1
 unfold nmS
 rw [List.getElem?_append_right (by simp [nmR]; omega), List.getElem?_drop]
 simp only [List.length_take, nmR, List.length_map]
 rw [show p + (p - min p rs.length) = p by omega]
 exact h
theorem nmS_put {rs : List Rl} {p : Nat} {r : Rl} (h : rs[p]? = some r) : (nmS rs p).set p { r with body := allT r.body } = nmS rs (p + 1) := by
 have hp := (List.getElem?_eq_some_iff.1 h).1
 apply List.ext_getElem?
 intro q
 have hl := nmS_len rs p
 have hln : (nmR rs).length = rs.length := by simp [nmR]
 by_cases hq : q = p
 · subst hq
   rw [List.getElem?_set_self (by omega)]
   unfold nmS
   rw [List.getElem?_append_left (by simp [nmR]; omega), List.getElem?_take_of_lt (by omega)]
   unfold nmR
   rw [List.getElem?_map, h]
   rfl
 · rw [List.getElem?_set_ne (by omega)]
   unfold nmS
   by_cases hlt : q < p
   · rw [List.getElem?_append_left (by rw [List.length_take]; omega), List.getElem?_append_left (by rw [List.length_take]; omega), List.getElem?_take_of_lt hlt, List.getElem?_take_of_lt (by omega)]
   · rw [List.getElem?_append_right (by rw [List.length_take]; omega), List.getElem?_append_right (by rw [List.length_take]; omega), List.length_take, List.length_take, List.getElem?_drop, List.getElem?_drop]
     congr 1
     omega
/-- Nodes that name, cell by cell. -/
def flatK : List ByteArray → List Value
 | [] => []
 | n :: l => [.int .u8 6, .string n, .string ⟨#[]⟩, .slice none 0 0, .slice none 0 0] ++ flatK l
theorem flatK_len : ∀ l : List ByteArray, (flatK l).length = l.length * 5
 | [] => rfl
 | n :: l => by simp only [flatK, List.length_append, flatK_len l, List.length_cons, List.length_nil]; omega
theorem flatK_snoc (n : ByteArray) : ∀ l : List ByteArray, flatK (l ++ [n]) = flatK l ++ [.int .u8 6, .string n, .string ⟨#[]⟩, .slice none 0 0, .slice none 0 0]
 | [] => rfl
 | m :: l => by simp only [List.cons_append, flatK, flatK_snoc n l, List.append_assoc]
theorem flatK_at : ∀ (l : List ByteArray) (p : Nat) (n : ByteArray), l[p]? = some n → (flatK l)[p * 5]? = some (.int .u8 6) ∧ (flatK l)[p * 5 + 1]? = some (.string n) ∧ (flatK l)[p * 5 + 2]? = some (.string ⟨#[]⟩) ∧ (flatK l)[p * 5 + 3]? = some (.slice none 0 0) ∧ (flatK l)[p * 5 + 4]? = some (.slice none 0 0)
 | [], p, n, h => by simp at h
 | m :: l, 0, n, h => by
  obtain rfl : m = n := by simpa using h
  exact ⟨rfl, rfl, rfl, rfl, rfl⟩
 | m :: l, p + 1, n, h => by
  have := flatK_at l p n (by simpa using h)
  simp only [flatK]
  rw [show (p + 1) * 5 = p * 5 + 5 by omega, show p * 5 + 5 + 1 = p * 5 + 1 + 5 by omega, show p * 5 + 5 + 2 = p * 5 + 2 + 5 by omega, show p * 5 + 5 + 3 = p * 5 + 3 + 5 by omega, show p * 5 + 5 + 4 = p * 5 + 4 + 5 by omega]
  simpa using this
theorem set5_list {xs : List Value} {m : Nat} (hm : xs.length = m) (a0 a1 a2 a3 a4 u0 u1 u2 u3 u4 : Value) : (((((xs ++ [a0, a1, a2, a3, a4]).set m u0).set (m + 1) u1).set (m + 2) u2).set (m + 3) u3).set (m + 4) u4 = xs ++ [u0, u1, u2, u3, u4] := by
 subst hm
 induction xs with
 | nil => rfl
 | cons x xs ih =>
  simp only [List.cons_append, List.length_cons, List.set_cons_succ, show xs.length + 1 + 1 = (xs.length + 1) + 1 from rfl, show xs.length + 1 + 2 = (xs.length + 2) + 1 from rfl, show xs.length + 1 + 3 = (xs.length + 3) + 1 from rfl, show xs.length + 1 + 4 = (xs.length + 4) + 1 from rfl]
  rw [ih]
/-- The box AB has a node whose Subs are gathered: one for each name. -/
def Gn (base AB : Nat) (l : List ByteArray) (v : Value) (X : World) : Prop := Bk X AB 34 #[.int .u8 0, .string ⟨#[]⟩, .string ⟨#[]⟩, .slice none 0 0, v] ∧ (l = [] → v = .slice none 0 0) ∧ X.ownsRow base 34 5 v l.length (flatK l)
/-- What is gathered elsewhere is turned, and single nodes are left. -/
def Ch (AB : Nat) (X w : World) : Prop := Below AB X w ∧ ∀ (k : Nat) (o : Obj), X.heap[k]? = some o → k ≠ AB → (∀ cs, o = .cells cs 34 (0, 0) → cs.size = 5) → w.heap[k]? = some o
theorem Ch.refl (AB : Nat) (X : World) : Ch AB X X := ⟨Below.refl _ _, fun _ _ h _ _ => h⟩
theorem Ch.below {AB : Nat} {X w w' : World} (h : Ch AB X w) (hAB : AB ≤ w.heap.size) (hb : Below w.heap.size w w') : Ch AB X w' :=
 ⟨h.1.trans (hb.mono hAB), fun k o hk hne hs => by have := h.2 k o hk hne hs; rw [hb.block k (Array.getElem?_eq_some_iff.1 this).1]; exact this⟩
theorem Ch.set {AB : Nat} {X w : World} (h : Ch AB X w) {b : Nat} (hl : AB ≤ b) (hb : b = AB ∨ ∀ o, X.heap[b]? = some o → ∃ cs, o = .cells cs 34 (0, 0) ∧ cs.size ≠ 5) (j : Nat) (u : Value) : Ch AB X (w.setCell ⟨b, j, none⟩ u) :=
 ⟨h.1.setCell (p := ⟨b, j, none⟩) hl u, fun k o hk hne hs => by
  have hkb : k ≠ b := by
   rintro rfl
   rcases hb with rfl | hb
   · exact hne rfl
   · obtain ⟨cs, rfl, h5⟩ := hb o hk
     exact h5 (hs cs rfl)
  rw [Below.heap_setCell _ _ _ _ hkb]
  exact h.2 k o hk hne hs⟩
theorem Ch.kp {n₀ B AB : Nat} {X w : World} (h : Ch AB X w) (hn : n₀ ≤ AB) (hB : AB < B) : KpC n₀ B X w := ⟨h.1.mono hn, fun b cs t hb hk hc => h.2 b _ hc (by omega) fun cs' e => by
 injection e with e1 e2 _
 subst e1
 rcases hk with ⟨_, h5⟩ | rfl
 · exact h5
 · exact absurd e2 (by decide)⟩
theorem Ch.keeps {B AB : Nat} {X w : World} (h : Ch AB X w) (hB : AB < B) : KeepsFrom B X w := ⟨h.1.size, fun k o hk ho hc => h.2 k o ho (by omega) fun cs e => by subst e; simp [Obj.isCells] at hc⟩
theorem Ch.bk {AB : Nat} {X w : World} (h : Ch AB X w) {b : Nat} {t : TypeId} {cs : Array Value} (hk : Bk X b t cs) (hne : b ≠ AB) (hs : t = 34 → cs.size = 5) : Bk w b t cs := h.2 b _ hk hne fun cs' e => by
 injection e with e1 e2 _
 subst e1
 exact hs e2
theorem infoNodeG : (Tryd.prog.info? 34).map (fun i => (i.zero, i.size, i.bytes)) = some (some (.agg #[.int .u8 0, .string ⟨#[]⟩, .string ⟨#[]⟩, .slice none 0 0, .slice none 0 0]), 5, 88) := by kernel_rfl
/-- The place of one more is made. -/
theorem gn_append {base AB n : Nat} {l : List ByteArray} {v : Value} {X w9 : World} (ty : TypeId) (h : Gn base AB l v X) (hab : AB < base) (hbx : base ≤ X.heap.size) (hl : l.length ≤ 1000000) (hn : l.length = n) (hb : Below X.heap.size X w9) (z : Nat)
 (hz : ∀ j u, [Value.int .u8 0, .string ⟨#[]⟩, .string ⟨#[]⟩, .slice none 0 0, .slice none 0 0][j]? = some u → w9.cell? ((⟨z, 0, none⟩ : Addr).add j) = some u) :
 ∃ g cap w11, (Builtin.append_ #[32, 32] ty #[v, .slice (some ⟨z, 0, none⟩) 1 1]).run Tryd.prog w9 = .ok (.slice (some ⟨g, 0, none⟩) (n + 1) cap) w11 ∧
  w11.ownsRow base 34 5 (.slice (some ⟨g, 0, none⟩) (n + 1) cap) (n + 1) (flatK l ++ [.int .u8 0, .string ⟨#[]⟩, .string ⟨#[]⟩, .slice none 0 0, .slice none 0 0]) ∧ Bk w11 AB 34 #[.int .u8 0, .string ⟨#[]⟩, .string ⟨#[]⟩, .slice none 0 0, v] ∧
  Ch AB X w11 ∧ (AB < g ∧ g < w11.heap.size ∧ ∀ o, X.heap[g]? = some o → ∃ cs, o = .cells cs 34 (0, 0) ∧ cs.size ≠ 5) := by
 subst hn
 obtain ⟨i0, hi, hz0, hz1, hz2⟩ := info_parts infoNodeG
 obtain ⟨hk, he, how⟩ := h
 have hk9 := hk.below hb hk.lt
 have h9 : w9.ownsRow base 34 5 v l.length (flatK l) := by
  refine ⟨how.1, ?_⟩
  rcases how.2 with h5 | ⟨g, c, cur, q1, q2, q3, q4⟩
  · exact .inl h5
  · refine .inr ⟨g, c, cur, q1, q2, ?_, q4⟩
    rw [hb.block g (Array.getElem?_eq_some_iff.1 q3).1]
    exact q3
 have hs9 := hb.size
 have fin : ∀ (v' : Value) (w11 : World) (row : Option Nat), w11.ownsRow base 34 5 v' (l.length + 1) (flatK l ++ [.int .u8 0, .string ⟨#[]⟩, .string ⟨#[]⟩, .slice none 0 0, .slice none 0 0]) → w9.grownBy w11 row → (∀ g, row = some g → AB < g ∧ ∀ o, X.heap[g]? = some o → ∃ cs, o = .cells cs 34 (0, 0) ∧ cs.size ≠ 5) → Bk w11 AB 34 #[.int .u8 0, .string ⟨#[]⟩, .string ⟨#[]⟩, .slice none 0 0, v] ∧ Ch AB X w11 := by
  intro v' w11 row _ hg hrow
  have hbl : ∀ k o, w9.heap[k]? = some o → row ≠ some k → w11.heap[k]? = some o := fun k o hk hne => by rw [hg.block k (Array.getElem?_eq_some_iff.1 hk).1 (fun e => hne e.symm)]; exact hk
  refine ⟨hbl _ _ hk9 (fun e => by have := (hrow _ e).1; omega), (hb.mono (by have := hk.lt; omega)).grown hg (by have := hk.lt; omega) (fun k e => Nat.le_of_lt (hrow k e).1), fun k o ho hne hs => ?_⟩
  refine hbl k o (by rw [hb.block k (Array.getElem?_eq_some_iff.1 ho).1]; exact ho) fun e => ?_
  obtain ⟨cs, rfl, h5⟩ := (hrow k e).2 o ho
  exact h5 (hs cs rfl)
 have new : ∀ (v' : Value) (w11 : World), w11.ownsRow w9.heap.size 34 5 v' (l.length + 1) (flatK l ++ [.int .u8 0, .string ⟨#[]⟩, .string ⟨#[]⟩, .slice none 0 0, .slice none 0 0]) → w9.grownBy w11 none → (Builtin.append_ #[32, 32] ty #[v, .slice (some ⟨z, 0, none⟩) 1 1]).run Tryd.prog w9 = .ok v' w11 → ∃ g cap w11, (Builtin.append_ #[32, 32] ty #[v, .slice (some ⟨z, 0, none⟩) 1 1]).run Tryd.prog w9 = .ok (.slice (some ⟨g, 0, none⟩) (l.length + 1) cap) w11 ∧
  w11.ownsRow base 34 5 (.slice (some ⟨g, 0, none⟩) (l.length + 1) cap) (l.length + 1) (flatK l ++ [.int .u8 0, .string ⟨#[]⟩, .string ⟨#[]⟩, .slice none 0 0, .slice none 0 0]) ∧ Bk w11 AB 34 #[.int .u8 0, .string ⟨#[]⟩, .string ⟨#[]⟩, .slice none 0 0, v] ∧
  Ch AB X w11 ∧ (AB < g ∧ g < w11.heap.size ∧ ∀ o, X.heap[g]? = some o → ∃ cs, o = .cells cs 34 (0, 0) ∧ cs.size ≠ 5) := by
  intro v' w11 ho hg hrun
  have ho' := own_mono ho (show base ≤ w9.heap.size by omega)
  obtain ⟨f1, f2⟩ := fin v' w11 none ho' hg (fun g e => by cases e)
  rcases ho.2 with ⟨_, h0⟩ | ⟨g, c, cur, rfl, q2, q3, q4⟩
  · omega
  · exact ⟨g, c, w11, hrun, ho', f1, f2, by omega, (Array.getElem?_eq_some_iff.1 q3).1, fun o ho => by have := (Array.getElem?_eq_some_iff.1 ho).1; omega⟩
 rcases h9.2 with ⟨rfl, h0⟩ | ⟨g, cap, cur, rfl, q2, q3, q4, q5, q6, q7⟩
 · have hx : flatK l = [] := List.eq_nil_of_length_eq_zero (by rw [flatK_len, h0])
   obtain ⟨v', w', hr, h2, h3, _⟩ := run_append_own (P := Tryd.prog) w9 w9.heap.size 32 ty 34 i0 _ 5 88 Tryd.underlying32 hi hz0 hz1 hz2 rfl (by decide) _ 0 [] (World.ownsRow_nil w9 _ 34 5) ⟨z, 0, none⟩ 1 1 _ rfl hz (by simp [Value.oneCell']) (by decide) (by decide) (Nat.le_refl _)
   refine new v' w' ?_ h3 hr
   rw [hx, h0]
   exact h2
 · by_cases hroom : l.length + 1 ≤ cap
   · obtain ⟨w', hr, h2, h3⟩ := run_append_fits (P := Tryd.prog) w9 base 32 ty 34 i0 5 Tryd.underlying32 hi hz1 g l.length cap (flatK l) h9 ⟨z, 0, none⟩ 1 1 _ rfl hz (by simp [Value.oneCell']) hroom
     have hpos : 0 < l.length := by
      rcases Nat.eq_zero_or_pos l.length with h | h
      · have := he (List.eq_nil_of_length_eq_zero h); cases this
      · exact h
     have hrow : ∀ g', some g = some g' → AB < g' ∧ ∀ o, X.heap[g']? = some o → ∃ cs, o = .cells cs 34 (0, 0) ∧ cs.size ≠ 5 := by
      rintro g' e
      cases e
      refine ⟨by omega, fun o ho => ⟨cur, ?_, by omega⟩⟩
      rw [hb.block g (Array.getElem?_eq_some_iff.1 ho).1, ho] at q3
      exact Option.some.inj q3
     obtain ⟨f1, f2⟩ := fin _ w' (some g) h2 h3 hrow
     exact ⟨g, cap, w', hr, h2, f1, f2, by omega, (h2.lt g rfl).2, (hrow g rfl).2⟩
   · obtain ⟨v', w', hr, h2, h3⟩ := run_append_arg_grows (P := Tryd.prog) w9 32 ty 34 i0 _ 5 88 Tryd.underlying32 hi hz0 hz1 hz2 rfl (by decide) ⟨g, 0, none⟩ l.length cap (flatK l) h9.1 (h9.cells rfl) ⟨z, 0, none⟩ 1 1 _ rfl hz (by omega) (by unfold maxLen; omega) (by omega)
     exact new v' w' h2 h3 hr
/-- One more is gathered, in whatever order the two stores come. -/
theorem gn_more {base AB n g cap : Nat} {l : List ByteArray} {v : Value} {X w11 : World} (nm : ByteArray) (hn : l.length = n) (hab : AB < base) (how : w11.ownsRow base 34 5 (.slice (some ⟨g, 0, none⟩) (n + 1) cap) (n + 1) (flatK l ++ [.int .u8 0, .string ⟨#[]⟩, .string ⟨#[]⟩, .slice none 0 0, .slice none 0 0])) (hk : Bk w11 AB 34 #[.int .u8 0, .string ⟨#[]⟩, .string ⟨#[]⟩, .slice none 0 0, v])
 (hc : Ch AB X w11) (hg : AB < g ∧ g < w11.heap.size ∧ ∀ o, X.heap[g]? = some o → ∃ cs, o = .cells cs 34 (0, 0) ∧ cs.size ≠ 5) (W' : World)
 (hW : W' = (set5 w11 g (n * 5) (.int .u8 6) (.string nm) (.string ⟨#[]⟩) (.slice none 0 0) (.slice none 0 0)).setCell ⟨AB, 4, none⟩ (.slice (some ⟨g, 0, none⟩) (n + 1) cap) ∨ W' = set5 (w11.setCell ⟨AB, 4, none⟩ (.slice (some ⟨g, 0, none⟩) (n + 1) cap)) g (n * 5) (.int .u8 6) (.string nm) (.string ⟨#[]⟩) (.slice none 0 0) (.slice none 0 0)) :
 Gn base AB (l ++ [nm]) (.slice (some ⟨g, 0, none⟩) (n + 1) cap) W' ∧ Ch AB X W' := by
 subst hn
 have hne : AB ≠ g := by omega
 have hln : (l ++ [nm]).length = l.length + 1 := by simp
 have hfl := set5_list (flatK_len l) (.int .u8 0) (.string ⟨#[]⟩) (.string ⟨#[]⟩) (.slice none 0 0) (.slice none 0 0) (.int .u8 6) (.string nm) (.string ⟨#[]⟩) (.slice none 0 0) (.slice none 0 0)
 unfold Gn
 rw [hln, flatK_snoc, ← hfl]
 have c5 : ∀ {w : World}, Ch AB X w → Ch AB X (set5 w g (l.length * 5) (.int .u8 6) (.string nm) (.string ⟨#[]⟩) (.slice none 0 0) (.slice none 0 0)) := fun h => ((((h.set (by omega) (.inr hg.2.2) _ _).set (by omega) (.inr hg.2.2) _ _).set (by omega) (.inr hg.2.2) _ _).set (by omega) (.inr hg.2.2) _ _).set (by omega) (.inr hg.2.2) _ _
 rcases hW with rfl | rfl
 · refine ⟨⟨?_, fun e => by simp at e, ?_⟩, (c5 hc).set (Nat.le_refl _) (.inl rfl) _ _⟩
   · have := (((((hk.other ⟨g, l.length * 5, none⟩ (.int .u8 6) hne).other ⟨g, l.length * 5 + 1, none⟩ (.string nm) hne).other ⟨g, l.length * 5 + 2, none⟩ (.string ⟨#[]⟩) hne).other ⟨g, l.length * 5 + 3, none⟩ (.slice none 0 0) hne).other ⟨g, l.length * 5 + 4, none⟩ (.slice none 0 0) hne).set 4 (.slice (some ⟨g, 0, none⟩) (l.length + 1) cap)
     exact this
   · exact ownsRow_setCell_below (((((how.stored _ _).1.stored _ _).1.stored _ _).1.stored _ _).1.stored _ _).1 hab _
 · refine ⟨⟨?_, fun e => by simp at e, ?_⟩, c5 (hc.set (Nat.le_refl _) (.inl rfl) _ _)⟩
   · have := (((((hk.set 4 (.slice (some ⟨g, 0, none⟩) (l.length + 1) cap)).other ⟨g, l.length * 5, none⟩ (.int .u8 6) hne).other ⟨g, l.length * 5 + 1, none⟩ (.string nm) hne).other ⟨g, l.length * 5 + 2, none⟩ (.string ⟨#[]⟩) hne).other ⟨g, l.length * 5 + 3, none⟩ (.slice none 0 0) hne).other ⟨g, l.length * 5 + 4, none⟩ (.slice none 0 0) hne
     exact this
   · exact ((((((ownsRow_setCell_below how (a := ⟨AB, 4, none⟩) hab _).stored _ _).1).stored _ _).1.stored _ _).1.stored _ _).1.stored _ _ |>.1
/-- What has been gathered, as a node. -/
theorem gn_at {base AB : Nat} {l : List ByteArray} {v : Value} {X : World} {P : Nat → Prop} (h : Gn base AB l v X) (hP : ∀ k, base ≤ k → P k) (hs : ∀ n ∈ l, n.size ≤ 140737488351232) (hl : l.length ≤ 1000000) : AtX P X (.mk 0 ⟨#[]⟩ ⟨#[]⟩ [] (l.map fun n => .mk 6 n ⟨#[]⟩ [] [])) (.agg #[.int .u8 0, .string ⟨#[]⟩, .string ⟨#[]⟩, .slice none 0 0, v]) := by
 obtain ⟨_, _, how⟩ := h
 unfold AtX
 have leaf : ∀ n : ByteArray, n.size ≤ 140737488351232 → AtX P X (.mk 6 n ⟨#[]⟩ [] []) (.agg #[.int .u8 6, .string n, .string ⟨#[]⟩, .slice none 0 0, .slice none 0 0]) := fun n hn => by
  unfold AtX
  exact ⟨none, 0, none, 0, rfl, by decide, hn, by decide, by simp, by simp, trivial, by unfold AtLX; trivial⟩
 rcases how.2 with ⟨rfl, h0⟩ | ⟨g, cap, cur, rfl, q2, q3, q4, q5, q6, q7⟩
 · have : l = [] := List.eq_nil_of_length_eq_zero h0
   subst this
   exact ⟨none, 0, none, 0, rfl, by decide, by decide, by decide, by simp, by simp, trivial, by unfold AtLX; trivial⟩
 · refine ⟨none, 0, some ⟨g, 0, none⟩, cap, by simp, by decide, by decide, by decide, by simp, by simp; omega, trivial, ?_⟩
   have hcell : ∀ j u, (flatK l)[j]? = some u → X.cell? ⟨g, j, none⟩ = some u := fun j u hj => by
    have hk : Bk X g 34 cur := q3
    rw [hk.cell]
    rw [← q7, List.getElem?_take] at hj
    split at hj
    · simpa using hj
    · cases hj
   have key : ∀ (m : List ByteArray) (k : Nat), (∀ p n, m[p]? = some n → l[k + p]? = some n) → AtLX P X (m.map fun n => .mk 6 n ⟨#[]⟩ [] []) (some ⟨g, k * 5, none⟩) := by
    intro m
    induction m with
    | nil => intro k _; unfold List.map AtLX; trivial
    | cons n m ih =>
     intro k hm
     have hn := hm 0 n rfl
     obtain ⟨a0, a1, a2, a3, a4⟩ := flatK_at l k n (by simpa using hn)
     rw [List.map_cons]
     unfold AtLX
     refine ⟨g, k * 5, _, _, _, _, _, rfl, hP g q2, hcell _ _ a0, hcell _ _ a1, hcell _ _ a2, hcell _ _ a3, hcell _ _ a4, leaf n (hs n (List.mem_of_getElem? hn)), ?_⟩
     rw [show k * 5 + 5 = (k + 1) * 5 by omega]
     exact ih (k + 1) fun p n hp => by rw [show k + 1 + p = k + (p + 1) by omega]; exact hm (p + 1) n (by simpa using hp)
   simpa using key l 0 (fun p n hp => by simpa using hp)
/-- It stays through what an iterator turns. -/
theorem Gn.from {base AB B : Nat} {β : Type} {l : β → List ByteArray} : OwnFrom B (fun (x : β) W => ∃ v, Gn base AB (l x) v W) := fun s W W' row hs hg hr => by
 obtain ⟨v, h1, h2, h3⟩ := hs
 refine ⟨v, h1.kept hg (fun r e => (hr r e).2), h2, own_grownP h3 hg fun b hb e => ?_⟩
 obtain ⟨o, ho, hc⟩ := (hr _ e).2
 rcases h3.2 with ⟨h4, _⟩ | ⟨g, c, cur, h4, _, h5, _⟩
 · rw [h4] at hb; cases hb
 · rw [h4] at hb
   simp [Value.ownBlock] at hb
   subst hb
   rw [h5] at ho
   cases ho
   simp [Obj.isCells] at hc
theorem Gn.below {base AB : Nat} {l : List ByteArray} {v : Value} {X X' : World} (h : Gn base AB l v X) (hb : Below X.heap.size X X') : Gn base AB l v X' := by
 obtain ⟨h1, h2, h3⟩ := h
 refine ⟨h1.below hb h1.lt, h2, h3.1, ?_⟩
 rcases h3.2 with h5 | ⟨g, c, cur, q1, q2, q3, q4⟩
 · exact .inl h5
 · refine .inr ⟨g, c, cur, q1, q2, ?_, q4⟩
   rw [hb.block g (Array.getElem?_eq_some_iff.1 q3).1]
   exact q3
end Ck
end Go.Proofs.YtiinkhmgemoamaaDoor
