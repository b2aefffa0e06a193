/- A copy of the rules, one body of which is turned: what lies where. -/
import Derived.Test.YtmcpemohemeecaaDoorNuB
import Derived.Test.YtmcpemohemeecaaDoorNuI
import Derived.Test.YtmcpemohemeecaaDoorNuH
import Derived.Test.YtmcpemohemeecaaDoorNuR
namespace Go.Proofs.YtmcpemohemeecaaDoor
open Go Go.RowKit Nu
set_option maxRecDepth 100000

theorem RuL_row {W : World} {g : Nat} {cs : Array Value} {rs : List Nu.Rl} (hk : Bk W g 38 cs) (h : RowC W rs cs) : RuL W rs (some ⟨g, 0, none⟩) := fun i r hr => by
  obtain ⟨v0, v1, v2, v3, v4, c0, c1, c2, c3, c4, c5, c6, c7, c8, c9, hA, hs, hn⟩ := h i r hr
  have k := fun (j : Nat) (v : Value) (hc : cs[j]? = some v) => (show W.cell? ⟨g, j, none⟩ = some v by rw [hk.cell]; exact hc)
  refine ⟨g, 0, rfl, v0, v1, v2, v3, v4, ?_, ?_, ?_, ?_, ?_, ?_, ?_, ?_, ?_, ?_, hA, hs, hn⟩ <;> rw [Nat.zero_add]
  · exact k _ _ c0
  · exact k _ _ c1
  · exact k _ _ c2
  · exact k _ _ c3
  · exact k _ _ c4
  · exact k _ _ c5
  · exact k _ _ c6
  · exact k _ _ c7
  · exact k _ _ c8
  · exact k _ _ c9
theorem RowC.below {W W' : World} (hb : Below W.heap.size W W') {rs : List Nu.Rl} {cs : Array Value} (h : RowC W rs cs) : RowC W' rs cs := fun i r hr => by
  obtain ⟨v0, v1, v2, v3, v4, c0, c1, c2, c3, c4, c5, c6, c7, c8, c9, hA, hs, hn⟩ := h i r hr
  exact ⟨v0, v1, v2, v3, v4, c0, c1, c2, c3, c4, c5, c6, c7, c8, c9, Nd.At.below hb _ hA, hs, hn⟩
/-- A node's five cells set anew. -/
def set5 (cs : Array Value) (p : Nat) (u0 u1 u2 u3 u4 : Value) : Array Value := ((((cs.setIfInBounds p u0).setIfInBounds (p + 1) u1).setIfInBounds (p + 2) u2).setIfInBounds (p + 3) u3).setIfInBounds (p + 4) u4
theorem set5_far {cs : Array Value} {p j : Nat} {u0 u1 u2 u3 u4 : Value} (h : j < p ∨ p + 4 < j) : (set5 cs p u0 u1 u2 u3 u4)[j]? = cs[j]? := by
  unfold set5
  rw [Array.getElem?_setIfInBounds_ne (by omega), Array.getElem?_setIfInBounds_ne (by omega), Array.getElem?_setIfInBounds_ne (by omega), Array.getElem?_setIfInBounds_ne (by omega), Array.getElem?_setIfInBounds_ne (by omega)]
theorem set5_at {cs : Array Value} {p : Nat} {u0 u1 u2 u3 u4 : Value} (h : p + 4 < cs.size) : (set5 cs p u0 u1 u2 u3 u4)[p]? = some u0 ∧ (set5 cs p u0 u1 u2 u3 u4)[p + 1]? = some u1 ∧ (set5 cs p u0 u1 u2 u3 u4)[p + 2]? = some u2 ∧ (set5 cs p u0 u1 u2 u3 u4)[p + 3]? = some u3 ∧ (set5 cs p u0 u1 u2 u3 u4)[p + 4]? = some u4 := by
  have h0 : p < cs.size := by omega
  have h1 : p + 1 < cs.size := by omega
  have h2 : p + 2 < cs.size := by omega
  have h3 : p + 3 < cs.size := by omega
  unfold set5
  refine ⟨?_, ?_, ?_, ?_, ?_⟩ <;> simp [h, h0, h1, h2, h3]
theorem set5_size {cs : Array Value} {p : Nat} {u0 u1 u2 u3 u4 : Value} : (set5 cs p u0 u1 u2 u3 u4).size = cs.size := by
  unfold set5; simp
theorem RowC.turn {W : World} {rs : List Nu.Rl} {cs : Array Value} (h : RowC W rs cs) {i : Nat} {r : Nu.Rl} (hr : rs[i]? = some r) {b : Nd.T} {u0 u1 u2 u3 u4 : Value} (hA : Nd.At W b (.agg #[u0, u1, u2, u3, u4])) :
    RowC W (Nu.turn rs i b) (set5 cs (i * 10 + 2) u0 u1 u2 u3 u4) := fun k q hq => by
  obtain ⟨v0, v1, v2, v3, v4, c0, c1, c2, c3, c4, c5, c6, c7, c8, c9, hA0, hs, hn⟩ := h i r hr
  have hsz := (Array.getElem?_eq_some_iff.1 c9).1
  by_cases hik : i = k
  · subst hik
    rw [turn_at rs hr b] at hq
    injection hq with hq
    subst hq
    obtain ⟨d0, d1, d2, d3, d4⟩ := set5_at (cs := cs) (p := i * 10 + 2) (u0 := u0) (u1 := u1) (u2 := u2) (u3 := u3) (u4 := u4) (by omega)
    refine ⟨u0, u1, u2, u3, u4, ?_, ?_, d0, ?_, ?_, ?_, ?_, ?_, ?_, ?_, hA, hs, hn⟩
    · rw [set5_far (by omega)]; exact c0
    · rw [set5_far (by omega)]; exact c1
    · exact d1
    · exact d2
    · exact d3
    · exact d4
    · rw [set5_far (by omega)]; exact c7
    · rw [set5_far (by omega)]; exact c8
    · rw [set5_far (by omega)]; exact c9
  · rw [turn_other rs i k b hik] at hq
    obtain ⟨v0, v1, v2, v3, v4, c0, c1, c2, c3, c4, c5, c6, c7, c8, c9, hA0, hs, hn⟩ := h k q hq
    refine ⟨v0, v1, v2, v3, v4, ?_, ?_, ?_, ?_, ?_, ?_, ?_, ?_, ?_, ?_, hA0, hs, hn⟩ <;> rw [set5_far (by omega)] <;> assumption
theorem turn_turn (rs : List Nu.Rl) {i : Nat} {r : Nu.Rl} (hr : rs[i]? = some r) (a b : Nd.T) : Nu.turn (Nu.turn rs i a) i b = Nu.turn rs i b := by
  have h1 : Nu.turn (Nu.turn rs i a) i b = (Nu.turn rs i a).set i { r with body := b } := by
    show (match (Nu.turn rs i a)[i]? with | some r => (Nu.turn rs i a).set i { r with body := b } | none => Nu.turn rs i a) = _
    rw [turn_at rs hr a]
  have h2 : ∀ c, Nu.turn rs i c = rs.set i { r with body := c } := fun c => by
    show (match rs[i]? with | some r => rs.set i { r with body := c } | none => rs) = _
    rw [hr]
  rw [h1, h2, h2]
  simp
theorem turn_small {rs : List Nu.Rl} {i : Nat} {r : Nu.Rl} (hr : rs[i]? = some r) {b : Nd.T} {D N : Nat} (h : ∀ r ∈ rs, Nd.deep r.body ≤ D ∧ Nd.count r.body ≤ N) (hb : Nd.deep b ≤ D ∧ Nd.count b ≤ N) : ∀ q ∈ Nu.turn rs i b, Nd.deep q.body ≤ D ∧ Nd.count q.body ≤ N := fun q hq => by
  have h2 : Nu.turn rs i b = rs.set i { r with body := b } := by
    show (match rs[i]? with | some r => rs.set i { r with body := b } | none => rs) = _
    rw [hr]
  rw [h2] at hq
  rcases List.mem_or_eq_of_mem_set hq with h1 | rfl
  · exact h q h1
  · exact hb
/-- An empty alternative more. -/
def moreT (t : Nd.T) : Nd.T := .mk 0 ⟨#[]⟩ ⟨#[]⟩ [] [t, .mk 1 ⟨#[]⟩ ⟨#[]⟩ [] []]
/-- A token ahead. -/
def lessT (t : Nd.T) : Nd.T := .mk 1 ⟨#[]⟩ ⟨#[]⟩ [] [.mk 9 ⟨#[]⟩ ⟨#[]⟩ [(65, 65)] [], t]
theorem thr_more (rs : List Nu.Rl) (s : Int) (e : List Bool) (t : Nd.T) : thr rs s e (moreT t) = true := by simp [moreT, thr, thrA, thrO]
theorem thr_less (rs : List Nu.Rl) (s : Int) (e : List Bool) (t : Nd.T) : thr rs s e (lessT t) = false := by simp [lessT, thr, thrA]
theorem rch_less (rs : List Nu.Rl) (s : Int) (e : List Bool) (t : Nd.T) : rch rs s e (lessT t) = [] := by simp [lessT, thr, rch, rchA]
theorem more_small {t : Nd.T} {D N : Nat} (h : Nd.deep t + 1 ≤ D ∧ Nd.count t + 2 ≤ N) (h1 : 2 ≤ D) : Nd.deep (moreT t) ≤ D ∧ Nd.count (moreT t) ≤ N := by
  simp only [moreT, Nd.deep, Nd.deepL, Nd.count, Nd.countL]; omega
theorem less_small {t : Nd.T} {D N : Nat} (h : Nd.deep t + 1 ≤ D ∧ Nd.count t + 2 ≤ N) (h1 : 2 ≤ D) : Nd.deep (lessT t) ≤ D ∧ Nd.count (lessT t) ≤ N := by
  simp only [lessT, Nd.deep, Nd.deepL, Nd.count, Nd.countL]; omega
theorem more_at {W : World} {g : Nat} {t : Nd.T} {v0 v1 v2 v3 v4 : Value} (hA : Nd.At W t (.agg #[v0, v1, v2, v3, v4])) (hk : Bk W g 34 #[v0, v1, v2, v3, v4, .int .u8 1, .string ⟨#[]⟩, .string ⟨#[]⟩, .slice none 0 0, .slice none 0 0]) :
    Nd.At W (moreT t) (.agg #[.int .u8 0, .string ⟨#[]⟩, .string ⟨#[]⟩, .slice none 0 0, .slice (some ⟨g, 0, none⟩) 2 2]) := by
  unfold moreT Nd.At
  refine ⟨none, 0, some ⟨g, 0, none⟩, 2, rfl, by omega, by simp [ByteArray.size], by simp [ByteArray.size], ⟨by simp, by simp⟩, ⟨by simp, by simp⟩, trivial, ?_⟩
  unfold Nd.AtL
  refine ⟨g, 0, v0, v1, v2, v3, v4, rfl, hk.cell 0, hk.cell 1, hk.cell 2, hk.cell 3, hk.cell 4, hA, ?_⟩
  unfold Nd.AtL
  refine ⟨g, 5, _, _, _, _, _, rfl, hk.cell 5, hk.cell 6, hk.cell 7, hk.cell 8, hk.cell 9, ?_, by unfold Nd.AtL; trivial⟩
  unfold Nd.At
  exact ⟨none, 0, none, 0, rfl, by omega, by simp [ByteArray.size], by simp [ByteArray.size], ⟨by simp, by simp⟩, ⟨by simp, by simp⟩, trivial, by unfold Nd.AtL; trivial⟩
theorem less_at {W : World} {g s : Nat} {t : Nd.T} {v0 v1 v2 v3 v4 : Value} (hA : Nd.At W t (.agg #[v0, v1, v2, v3, v4])) (hs : Bk W s 58 #[.int .i32 65, .int .i32 65])
    (hk : Bk W g 34 #[.int .u8 9, .string ⟨#[]⟩, .string ⟨#[]⟩, .slice (some ⟨s, 0, none⟩) 1 1, .slice none 0 0, v0, v1, v2, v3, v4]) :
    Nd.At W (lessT t) (.agg #[.int .u8 1, .string ⟨#[]⟩, .string ⟨#[]⟩, .slice none 0 0, .slice (some ⟨g, 0, none⟩) 2 2]) := by
  unfold lessT Nd.At
  refine ⟨none, 0, some ⟨g, 0, none⟩, 2, rfl, by omega, by simp [ByteArray.size], by simp [ByteArray.size], ⟨by simp, by simp⟩, ⟨by simp, by simp⟩, trivial, ?_⟩
  unfold Nd.AtL
  refine ⟨g, 0, _, _, _, _, _, rfl, hk.cell 0, hk.cell 1, hk.cell 2, hk.cell 3, hk.cell 4, ?_, ?_⟩
  · unfold Nd.At
    refine ⟨some ⟨s, 0, none⟩, 1, none, 0, rfl, by omega, by simp [ByteArray.size], by simp [ByteArray.size], ⟨by simp, by simp⟩, ⟨by simp, by simp⟩, ?_, by unfold Nd.AtL; trivial⟩
    exact ⟨s, 0, rfl, hs.cell 0, hs.cell 1, trivial⟩
  unfold Nd.AtL
  exact ⟨g, 5, _, _, _, _, _, rfl, hk.cell 5, hk.cell 6, hk.cell 7, hk.cell 8, hk.cell 9, hA, by unfold Nd.AtL; trivial⟩
/-- Rules, as the cells that they are. -/
theorem row_read {w0 : World} {rs : List Nu.Rl} {b o : Nat} (hR0 : RuL w0 rs (some ⟨b, o, none⟩)) : ∃ xs : List Value, xs.length = rs.length * 10 ∧ (∀ (j : Nat) (u : Value), xs[j]? = some u → w0.cell? ⟨b, o + j, none⟩ = some u) ∧ (∀ u ∈ xs, u.oneCell' = true) ∧ (∀ cs : Array Value, (∀ (j : Nat) (u : Value), xs[j]? = some u → cs[j]? = some u) → RowC w0 rs cs) := by
  refine ⟨rowOf w0 b o (rs.length * 10), rowOf_len _ _ _ _, fun j u h => ?_, fun u h => ?_, fun cs hc i r' hr => ?_⟩
  · have hj : j < rs.length * 10 := by have := (List.getElem?_eq_some_iff.1 h).1; rw [rowOf_len] at this; exact this
    obtain ⟨v, hv, _⟩ := row_some hR0 j hj
    rw [rowOf_get hj hv] at h
    injection h with h
    subst h
    exact hv
  · obtain ⟨j, hj, rfl⟩ := List.getElem_of_mem h
    rw [rowOf_len] at hj
    obtain ⟨v, hv, h1⟩ := row_some hR0 j hj
    have := rowOf_get hj hv
    rw [List.getElem?_eq_getElem (by rw [rowOf_len]; exact hj)] at this
    injection this with this
    rw [this]; exact h1
  · have hi := (List.getElem?_eq_some_iff.1 hr).1
    obtain ⟨b', o', he, v0, v1, v2, v3, v4, a0, a1, a2, a3, a4, a5, a6, a7, a8, a9, hA, h1, h2⟩ := hR0 i r' hr
    injection he with he
    injection he with e1 e2
    subst e1
    subst e2
    have k := fun (m : Nat) (v : Value) (hm : m < 10) (hv : w0.cell? ⟨b, o + (i * 10 + m), none⟩ = some v) => hc (i * 10 + m) v (rowOf_get (by omega) hv)
    exact ⟨v0, v1, v2, v3, v4, k 0 _ (by omega) a0, k 1 _ (by omega) a1, k 2 _ (by omega) a2, k 3 _ (by omega) a3, k 4 _ (by omega) a4, k 5 _ (by omega) a5, k 6 _ (by omega) a6, k 7 _ (by omega) a7, k 8 _ (by omega) a8, k 9 _ (by omega) a9, hA, h1, h2⟩
theorem nil_row (W : World) (base : Nat) : W.ownsRow base 38 10 (.slice none 0 0) 0 [] := ⟨rfl, .inl ⟨rfl, rfl⟩⟩
theorem row_got {W w5 : World} {base RN : Nat} {v' : Value} {rs : List Nu.Rl} {xs : List Value} (hown : w5.ownsRow base 38 10 v' (0 + RN) ([] ++ xs)) (hpos : 0 < RN) (hx2 : ∀ cs : Array Value, (∀ (j : Nat) (u : Value), xs[j]? = some u → cs[j]? = some u) → RowC W rs cs) :
    ∃ g cap cur, v' = .slice (some ⟨g, 0, none⟩) RN cap ∧ base ≤ g ∧ Bk w5 g 38 cur ∧ RN ≤ cap ∧ RowC W rs cur := by
  rw [Nat.zero_add, List.nil_append] at hown
  rcases hown.2 with ⟨_, h0⟩ | ⟨g, cap, cur, rfl, hgb, hcur, hcap, _, _, htk⟩
  · omega
  · refine ⟨g, cap, cur, rfl, hgb, hcur, hcap, hx2 cur fun j u hj => ?_⟩
    rw [← htk, List.getElem?_take] at hj
    split at hj
    · simpa using hj
    · cases hj
/-- A node's five cells set. -/
def put5 (W : World) (g p : Nat) (u0 u1 u2 u3 u4 : Value) : World := ((((W.setCell ⟨g, p, none⟩ u0).setCell ⟨g, p + 1, none⟩ u1).setCell ⟨g, p + 2, none⟩ u2).setCell ⟨g, p + 3, none⟩ u3).setCell ⟨g, p + 4, none⟩ u4
theorem put5_size (W : World) (g p : Nat) (u0 u1 u2 u3 u4 : Value) : (put5 W g p u0 u1 u2 u3 u4).heap.size = W.heap.size := by unfold put5; simp
theorem put5_below {w W : World} {g p : Nat} {u0 u1 u2 u3 u4 : Value} (h : Below w.heap.size w W) (hg : w.heap.size ≤ g) : Below w.heap.size w (put5 W g p u0 u1 u2 u3 u4) :=
  ((((h.setCell hg u0).setCell hg u1).setCell hg u2).setCell hg u3).setCell hg u4
theorem put5_self {W : World} {g p : Nat} {t : TypeId} {cs : Array Value} {u0 u1 u2 u3 u4 : Value} (h : Bk W g t cs) : Bk (put5 W g p u0 u1 u2 u3 u4) g t (set5 cs p u0 u1 u2 u3 u4) :=
  ((((h.set p u0).set (p + 1) u1).set (p + 2) u2).set (p + 3) u3).set (p + 4) u4
theorem put5_other {W : World} {g p x : Nat} {t : TypeId} {cs : Array Value} {u0 u1 u2 u3 u4 : Value} (hx : x ≠ g) (h : Bk W x t cs) : Bk (put5 W g p u0 u1 u2 u3 u4) x t cs :=
  ((((h.other ⟨g, p, none⟩ u0 hx).other ⟨g, p + 1, none⟩ u1 hx).other ⟨g, p + 2, none⟩ u2 hx).other ⟨g, p + 3, none⟩ u3 hx).other ⟨g, p + 4, none⟩ u4 hx
theorem put_more {w W W' : World} {g p : Nat} {t : TypeId} {cur : Array Value} {u0 u1 u2 u3 u4 : Value} {tn : TypeId} {ob : Array Value} (hW : ((put5 W g p u0 u1 u2 u3 u4).alloc (.cells ob tn)).drew = W') (hB : Below w.heap.size w W) (hg : w.heap.size ≤ g) (hk : Bk W g t cur) :
    Below w.heap.size w W' ∧ Bk W' g t (set5 cur p u0 u1 u2 u3 u4) ∧ Bk W' W.heap.size tn ob ∧ (∀ (x : Nat) (tx : TypeId) (cs : Array Value), x ≠ g → Bk W x tx cs → Bk W' x tx cs) := by
  subst hW
  have hs := put5_size W g p u0 u1 u2 u3 u4
  have h1 := put5_below (p := p) (u0 := u0) (u1 := u1) (u2 := u2) (u3 := u3) (u4 := u4) hB hg
  have h2 : Bk (put5 W g p u0 u1 u2 u3 u4) g t (set5 cur p u0 u1 u2 u3 u4) := put5_self hk
  have h3 : ∀ (x : Nat) (tx : TypeId) (cs : Array Value), x ≠ g → Bk W x tx cs → Bk (put5 W g p u0 u1 u2 u3 u4) x tx cs := fun x tx cs hx h => put5_other hx h
  generalize put5 W g p u0 u1 u2 u3 u4 = P at *
  refine ⟨(h1.alloc h1.size _).drew, h2.alloc _, ?_, fun x tx cs hx h => (h3 x tx cs hx h).alloc _⟩
  have := Bk.made P tn ob
  rw [hs] at this
  exact this
theorem put_less {w W W' : World} {g p : Nat} {t : TypeId} {cur : Array Value} {u0 u1 u2 u3 u4 : Value} {tn ts : TypeId} {os ob : Array Value} (hW : (((put5 W g p u0 u1 u2 u3 u4).alloc (.cells os ts)).alloc (.cells ob tn)).drew = W') (hB : Below w.heap.size w W) (hg : w.heap.size ≤ g) (hk : Bk W g t cur) :
    Below w.heap.size w W' ∧ Bk W' g t (set5 cur p u0 u1 u2 u3 u4) ∧ Bk W' W.heap.size ts os ∧ Bk W' (W.heap.size + 1) tn ob ∧ (∀ (x : Nat) (tx : TypeId) (cs : Array Value), x ≠ g → Bk W x tx cs → Bk W' x tx cs) := by
  subst hW
  have hs := put5_size W g p u0 u1 u2 u3 u4
  have h1 := put5_below (p := p) (u0 := u0) (u1 := u1) (u2 := u2) (u3 := u3) (u4 := u4) hB hg
  have h2 : Bk (put5 W g p u0 u1 u2 u3 u4) g t (set5 cur p u0 u1 u2 u3 u4) := put5_self hk
  have h3 : ∀ (x : Nat) (tx : TypeId) (cs : Array Value), x ≠ g → Bk W x tx cs → Bk (put5 W g p u0 u1 u2 u3 u4) x tx cs := fun x tx cs hx h => put5_other hx h
  generalize put5 W g p u0 u1 u2 u3 u4 = P at *
  have h4 : Below w.heap.size w (P.alloc (.cells os ts)) := h1.alloc h1.size _
  refine ⟨(h4.alloc h4.size _).drew, (h2.alloc _).alloc _, ?_, ?_, fun x tx cs hx h => ((h3 x tx cs hx h).alloc _).alloc _⟩
  · have := (Bk.made P ts os).alloc (.cells ob tn)
    rw [hs] at this
    exact this
  · have := Bk.made (P.alloc (.cells os ts)) tn ob
    rw [World.size_alloc, hs] at this
    exact this
theorem set5_set5 {cs : Array Value} {p : Nat} {u0 u1 u2 u3 u4 v0 v1 v2 v3 v4 : Value} (h : p + 4 < cs.size) : set5 (set5 cs p u0 u1 u2 u3 u4) p v0 v1 v2 v3 v4 = set5 cs p v0 v1 v2 v3 v4 := by
  apply Array.ext_getElem?
  intro j
  by_cases hj : j < p ∨ p + 4 < j
  · rw [set5_far hj, set5_far hj, set5_far hj]
  · obtain ⟨a0, a1, a2, a3, a4⟩ := set5_at (cs := set5 cs p u0 u1 u2 u3 u4) (p := p) (u0 := v0) (u1 := v1) (u2 := v2) (u3 := v3) (u4 := v4) (by rw [set5_size]; exact h)
    obtain ⟨b0, b1, b2, b3, b4⟩ := set5_at (cs := cs) (p := p) (u0 := v0) (u1 := v1) (u2 := v2) (u3 := v3) (u4 := v4) h
    rcases (show j = p ∨ j = p + 1 ∨ j = p + 2 ∨ j = p + 3 ∨ j = p + 4 by omega) with rfl | rfl | rfl | rfl | rfl
    · rw [a0, b0]
    · rw [a1, b1]
    · rw [a2, b2]
    · rw [a3, b3]
    · rw [a4, b4]
theorem rea_length (rs : List Nu.Rl) : (rea rs).length = rs.length := by simp [rea, stp]
theorem rea_row_len {rs : List Nu.Rl} {i : Nat} {row : List Bool} (h : (rea rs)[i]? = some row) : row.length = rs.length := by
  have hi : i < rs.length := by have := (List.getElem?_eq_some_iff.1 h).1; rw [rea_length] at this; exact this
  have h1 := rea_at rs hi
  rw [List.getD_eq_getElem?_getD, h] at h1
  have h2 : row = spr (stp rs) rs.length ((stp rs).getD i []) (List.replicate rs.length false) := h1
  rw [h2, spr_len]
  simp
theorem reaAt_row {rs : List Nu.Rl} {i : Nat} {row : List Bool} (h : (rea rs)[i]? = some row) (k : Nat) : reaAt rs i k = row.getD k false := by
  unfold reaAt
  have : (rea rs).getD i [] = row := by rw [List.getD_eq_getElem?_getD, h]; rfl
  rw [this]
end Go.Proofs.YtmcpemohemeecaaDoor
