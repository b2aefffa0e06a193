/- The contract of nodes.anew and Copy. -/
import Derived.Test.YthfkodimafmmgaaGreatDoorNdQ
import Derived.Test.YthfkodimafmmgaaGreatDoorNdY
namespace Go.Proofs.YthfkodimafmmgaaGreatDoor
open Go Go.RowKit
set_option maxRecDepth 100000

theorem Bk.set_same {w : World} {b : Nat} {t : TypeId} {cs : Array Value} (h : Bk w b t cs) (i : Nat) (v : Value) (hv : cs[i]? = some v) : Bk (w.setCell ⟨b, i, none⟩ v) b t cs := by
  have h1 := h.set i v
  have : cs.setIfInBounds i v = cs := by
    apply Array.ext_getElem?
    intro j
    rw [Array.getElem?_setIfInBounds]
    split
    · rename_i hij
      subst hij
      rw [hv]
      have := (Array.getElem?_eq_some_iff.1 hv).1
      simp [this]
    · rfl
  rwa [this] at h1
namespace Nd
theorem From.set {n : Nat} {w w' : World} (h : From n w w') (a : Addr) (v : Value) (ha : a.block < n ∨ w.heap.size ≤ a.block) : From n w (w'.setCell a v) := fun k hk hl => by
  rw [Below.heap_setCell _ _ _ _ (by omega)]; exact h k hk hl
theorem From.bel {n : Nat} {w w' w'' : World} (h : From n w w') (hs : w.heap.size ≤ w'.heap.size) (hb : Below w'.heap.size w' w'') : From n w w'' := fun k hk hl => (hb.block k (by omega)).trans (h k hk hl)
def put5 (cur : Array Value) (i : Nat) (u0 u1 u2 u3 u4 : Value) : Array Value := ((((cur.setIfInBounds (i * 5) u0).setIfInBounds (i * 5 + 1) u1).setIfInBounds (i * 5 + 2) u2).setIfInBounds (i * 5 + 3) u3).setIfInBounds (i * 5 + 4) u4
theorem put5_other (cur : Array Value) (i j r : Nat) (u0 u1 u2 u3 u4 : Value) (hij : i ≠ j) (hr : r < 5) : (put5 cur i u0 u1 u2 u3 u4)[j * 5 + r]? = cur[j * 5 + r]? := by
  unfold put5
  rw [Array.getElem?_setIfInBounds_ne (by omega), Array.getElem?_setIfInBounds_ne (by omega), Array.getElem?_setIfInBounds_ne (by omega), Array.getElem?_setIfInBounds_ne (by omega), Array.getElem?_setIfInBounds_ne (by omega)]
theorem put5_same (cur : Array Value) (i : Nat) (u0 u1 u2 u3 u4 : Value) (h : i * 5 + 4 < cur.size) : (put5 cur i u0 u1 u2 u3 u4)[i * 5]? = some u0 ∧ (put5 cur i u0 u1 u2 u3 u4)[i * 5 + 1]? = some u1 ∧ (put5 cur i u0 u1 u2 u3 u4)[i * 5 + 2]? = some u2 ∧ (put5 cur i u0 u1 u2 u3 u4)[i * 5 + 3]? = some u3 ∧ (put5 cur i u0 u1 u2 u3 u4)[i * 5 + 4]? = some u4 := by
  unfold put5
  refine ⟨?_, ?_, ?_, ?_, ?_⟩ <;> simp [Array.getElem?_setIfInBounds] <;> omega
/-- The row's first i nodes are new; the others are as they were. -/
def Rows5 (n : Nat) (w wr : World) (sb : List T) (ad : Addr) (cur : Array Value) (i : Nat) : Prop :=
  (∀ j t, j < i → sb[j]? = some t → ∃ v0 v1 v2 v3 v4, cur[j * 5]? = some v0 ∧ cur[j * 5 + 1]? = some v1 ∧ cur[j * 5 + 2]? = some v2 ∧ cur[j * 5 + 3]? = some v3 ∧ cur[j * 5 + 4]? = some v4 ∧ AtF n wr t (.agg #[v0, v1, v2, v3, v4])) ∧
  (∀ j t, i ≤ j → sb[j]? = some t → ∀ r, r < 5 → cur[j * 5 + r]? = some (cellD w ad.block (ad.off + j * 5 + r)))
theorem Rows5.start {w wr : World} {sb : List T} {ad : Addr} {cur : Array Value} {n : Nat} (h : cur.toList.take (sb.length * 5) = cellsN w ad.block sb ad.off) : Rows5 n w wr sb ad cur 0 := by
  refine ⟨fun j t hj => by omega, fun j t _ ht r hr => ?_⟩
  have hj : j < sb.length := (List.getElem?_eq_some_iff.1 ht).1
  obtain ⟨h0, h1, h2, h3, h4⟩ := cellsN_at w ad.block sb ad.off j t ht
  rw [← h] at h0 h1 h2 h3 h4
  rw [List.getElem?_take_of_lt (by omega), Array.getElem?_toList] at h0 h1 h2 h3 h4
  match r, hr with
  | 0, _ => exact h0
  | 1, _ => exact h1
  | 2, _ => exact h2
  | 3, _ => exact h3
  | 4, _ => exact h4
theorem Rows5.step {n : Nat} {w wr w' : World} {sb : List T} {ad : Addr} {cur : Array Value} {i : Nat} {t : T} {u0 u1 u2 u3 u4 : Value} (h : Rows5 n w wr sb ad cur i) (ht : sb[i]? = some t) (hF : From n wr w') (hA : AtF n w' t (.agg #[u0, u1, u2, u3, u4])) : Rows5 n w w' sb ad (put5 cur i u0 u1 u2 u3 u4) (i + 1) := by
  have hsz : i * 5 + 4 < cur.size := (Array.getElem?_eq_some_iff.1 (h.2 i t (Nat.le_refl _) ht 4 (by omega))).1
  refine ⟨fun j s hj hs => ?_, fun j s hj hs r hr => ?_⟩
  · by_cases e : i = j
    · subst e
      rw [ht] at hs
      obtain rfl := Option.some.inj hs
      obtain ⟨a0, a1, a2, a3, a4⟩ := put5_same cur i u0 u1 u2 u3 u4 hsz
      exact ⟨u0, u1, u2, u3, u4, a0, a1, a2, a3, a4, hA⟩
    · obtain ⟨v0, v1, v2, v3, v4, a0, a1, a2, a3, a4, hB⟩ := h.1 j s (by omega) hs
      have p0 := put5_other cur i j 0 u0 u1 u2 u3 u4 e (by omega)
      rw [Nat.add_zero] at p0
      exact ⟨v0, v1, v2, v3, v4, p0.trans a0, (put5_other cur i j 1 u0 u1 u2 u3 u4 e (by omega)).trans a1, (put5_other cur i j 2 u0 u1 u2 u3 u4 e (by omega)).trans a2, (put5_other cur i j 3 u0 u1 u2 u3 u4 e (by omega)).trans a3, (put5_other cur i j 4 u0 u1 u2 u3 u4 e (by omega)).trans a4, AtF.keep (Nat.le_refl _) hF s hB⟩
  · rw [put5_other cur i j r _ _ _ _ _ (by omega) hr]
    exact h.2 j s (by omega) hs r hr
theorem Rows5.done {n g S : Nat} {w wr : World} {sb : List T} {ad : Addr} {cur : Array Value} {tt : TypeId} (h : Rows5 n w wr sb ad cur sb.length) (hb : Bk wr g tt cur) (hn : S ≤ n) (hg : S ≤ g) : AtLF S wr sb (some ⟨g, 0, none⟩) := by
  refine AtLF.of_cells hg (fun j => hb.free j) sb 0 fun i t ht => ?_
  obtain ⟨v0, v1, v2, v3, v4, a0, a1, a2, a3, a4, hA⟩ := h.1 i t (List.getElem?_eq_some_iff.1 ht).1 ht
  exact ⟨v0, v1, v2, v3, v4, by rw [hb.cell, Nat.zero_add]; exact a0, by rw [hb.cell, Nat.zero_add]; exact a1, by rw [hb.cell, Nat.zero_add]; exact a2, by rw [hb.cell, Nat.zero_add]; exact a3, by rw [hb.cell, Nat.zero_add]; exact a4, AtF.keep hn (From.refl _ _) t hA⟩
end Nd
def AnewOk (t : Nd.T) : Prop := ∀ (v : Value) (w : World), Nd.At w t v → Nd.full t ≤ 1099511627 →
  Calls Tryz.prog 27 #[v] w fun e w' => ∃ v', e = .returned v' ∧ Nd.AtF w.heap.size w' t v' ∧ Below w.heap.size w w'
end Go.Proofs.YthfkodimafmmgaaGreatDoor
