/- Nodes that lie in blocks from n on. -/
import Derived.Test.YthfkodimafmmgaaGreatDoorNdM
namespace Go.Proofs.YthfkodimafmmgaaGreatDoor.Nd
open Go Go.RowKit

def RgF (n : Nat) (w : World) : List (Int × Int) → Option Addr → Prop
  | [], _ => True
  | p :: r, a => ∃ b o, a = some ⟨b, o, none⟩ ∧ n ≤ b ∧ (∀ j, w.frozen? ⟨b, j, none⟩ = false) ∧ w.cell? ⟨b, o, none⟩ = some (.int .i32 p.1) ∧ w.cell? ⟨b, o + 1, none⟩ = some (.int .i32 p.2) ∧ RgF n w r (some ⟨b, o + 2, none⟩)
mutual
def AtF (n : Nat) (w : World) : T → Value → Prop
  | .mk k nm tx st sb, v => ∃ sa sc ba bc, v = .agg #[.int .u8 k, .string nm, .string tx, .slice sa st.length sc, .slice ba sb.length bc] ∧ (0 ≤ k ∧ k < 256) ∧ nm.size ≤ 140737488351232 ∧ tx.size ≤ 140737488351232 ∧
      (st.length ≤ sc ∧ st.length ≤ 140737488351232) ∧ (sb.length ≤ bc ∧ sb.length ≤ 140737488351232) ∧ RgF n w st sa ∧ AtLF n w sb ba
def AtLF (n : Nat) (w : World) : List T → Option Addr → Prop
  | [], _ => True
  | t :: r, a => ∃ b o v0 v1 v2 v3 v4, a = some ⟨b, o, none⟩ ∧ n ≤ b ∧ (∀ j, w.frozen? ⟨b, j, none⟩ = false) ∧ w.cell? ⟨b, o, none⟩ = some v0 ∧ w.cell? ⟨b, o + 1, none⟩ = some v1 ∧ w.cell? ⟨b, o + 2, none⟩ = some v2 ∧ w.cell? ⟨b, o + 3, none⟩ = some v3 ∧ w.cell? ⟨b, o + 4, none⟩ = some v4 ∧
      AtF n w t (.agg #[v0, v1, v2, v3, v4]) ∧ AtLF n w r (some ⟨b, o + 5, none⟩)
end
/-- The blocks from n on lie as they lay. -/
def From (n : Nat) (w w' : World) : Prop := ∀ k, n ≤ k → k < w.heap.size → w'.heap[k]? = w.heap[k]?
theorem From.cell {n : Nat} {w w' : World} (h : From n w w') {b o : Nat} {v : Value} (hn : n ≤ b) (hc : w.cell? ⟨b, o, none⟩ = some v) : w'.cell? ⟨b, o, none⟩ = some v := by
  have hl : b < w.heap.size := World.block_lt_of_cell? _ _ hc
  have := h b hn hl
  simp only [World.cell?] at hc ⊢
  rw [this]; exact hc
theorem From.free {n : Nat} {w w' : World} (h : From n w w') {b o : Nat} {v : Value} (hn : n ≤ b) (hc : w.cell? ⟨b, o, none⟩ = some v) (hz : ∀ j, w.frozen? ⟨b, j, none⟩ = false) : ∀ j, w'.frozen? ⟨b, j, none⟩ = false := fun j => by
  have hl : b < w.heap.size := World.block_lt_of_cell? _ _ hc
  have := h b hn hl
  have hj := hz j
  simp only [World.frozen?] at hj ⊢
  rw [this]; exact hj
theorem RgF.to {n : Nat} {w : World} : ∀ {st : List (Int × Int)} {a : Option Addr}, RgF n w st a → RgAt w st a
  | [], _, _ => trivial
  | _ :: _, _, ⟨b, o, ha, _, _, h0, h1, hr⟩ => ⟨b, o, ha, h0, h1, hr.to⟩
theorem RgF.keep {n m : Nat} {w w' : World} (hm : m ≤ n) (h : From n w w') : ∀ {st : List (Int × Int)} {a : Option Addr}, RgF n w st a → RgF m w' st a
  | [], _, _ => trivial
  | _ :: _, _, ⟨b, o, ha, hn, hz, h0, h1, hr⟩ => ⟨b, o, ha, Nat.le_trans hm hn, h.free hn h0 hz, h.cell hn h0, h.cell hn h1, hr.keep hm h⟩
mutual
theorem AtF.to {n : Nat} {w : World} : ∀ (t : T) {v : Value}, AtF n w t v → At w t v
  | .mk _ _ _ _ sb, _, ⟨sa, sc, ba, bc, hv, hk, h1, h2, h3, h4, h5, h6⟩ => ⟨sa, sc, ba, bc, hv, hk, h1, h2, h3, h4, h5.to, AtLF.to sb h6⟩
theorem AtLF.to {n : Nat} {w : World} : ∀ (r : List T) {a : Option Addr}, AtLF n w r a → AtL w r a
  | [], _, _ => trivial
  | t :: r, _, ⟨b, o, v0, v1, v2, v3, v4, ha, _, _, h0, h1, h2, h3, h4, h5, h6⟩ => ⟨b, o, v0, v1, v2, v3, v4, ha, h0, h1, h2, h3, h4, AtF.to t h5, AtLF.to r h6⟩
end
mutual
theorem AtF.keep {n m : Nat} {w w' : World} (hm : m ≤ n) (h : From n w w') : ∀ (t : T) {v : Value}, AtF n w t v → AtF m w' t v
  | .mk _ _ _ _ sb, _, ⟨sa, sc, ba, bc, hv, hk, h1, h2, h3, h4, h5, h6⟩ => ⟨sa, sc, ba, bc, hv, hk, h1, h2, h3, h4, h5.keep hm h, AtLF.keep hm h sb h6⟩
theorem AtLF.keep {n m : Nat} {w w' : World} (hm : m ≤ n) (h : From n w w') : ∀ (r : List T) {a : Option Addr}, AtLF n w r a → AtLF m w' r a
  | [], _, _ => trivial
  | t :: r, _, ⟨b, o, v0, v1, v2, v3, v4, ha, hn, hz, h0, h1, h2, h3, h4, h5, h6⟩ => ⟨b, o, v0, v1, v2, v3, v4, ha, Nat.le_trans hm hn, h.free hn h0 hz, h.cell hn h0, h.cell hn h1, h.cell hn h2, h.cell hn h3, h.cell hn h4, AtF.keep hm h t h5, AtLF.keep hm h r h6⟩
end
theorem From.refl (n : Nat) (w : World) : From n w w := fun _ _ _ => rfl
theorem From.below {n : Nat} {w w' : World} (h : Below w.heap.size w w') : From n w w' := fun k _ hk => h.block k hk
theorem From.setCell {n : Nat} (w : World) (a : Addr) (v : Value) (h : a.block < n) : From n w (w.setCell a v) := fun k hk _ => Below.heap_setCell _ _ _ _ (by omega)
theorem From.trans {n : Nat} {w w' w'' : World} (h : From n w w') (hs : w.heap.size ≤ w'.heap.size) (k : From n w' w'') : From n w w'' := fun i hi hl => (k i hi (Nat.lt_of_lt_of_le hl hs)).trans (h i hi hl)
theorem RgF.of_cells {n : Nat} {w : World} {g : Nat} (hg : n ≤ g) (hz : ∀ j, w.frozen? ⟨g, j, none⟩ = false) : ∀ (st : List (Int × Int)) (o : Nat), (∀ i p, st[i]? = some p → w.cell? ⟨g, o + i * 2, none⟩ = some (.int .i32 p.1) ∧ w.cell? ⟨g, o + i * 2 + 1, none⟩ = some (.int .i32 p.2)) → RgF n w st (some ⟨g, o, none⟩)
  | [], _, _ => trivial
  | p :: r, o, h => by
    obtain ⟨h0, h1⟩ := h 0 p rfl
    refine ⟨g, o, rfl, hg, hz, by simpa using h0, by simpa using h1, RgF.of_cells hg hz r (o + 2) fun i q hq => ?_⟩
    have := h (i + 1) q (by simpa using hq)
    rw [show o + (i + 1) * 2 = o + 2 + i * 2 by omega] at this
    exact this
theorem AtLF.of_cells {n : Nat} {w : World} {g : Nat} (hg : n ≤ g) (hz : ∀ j, w.frozen? ⟨g, j, none⟩ = false) : ∀ (r : List T) (o : Nat), (∀ i t, r[i]? = some t → ∃ v0 v1 v2 v3 v4, w.cell? ⟨g, o + i * 5, none⟩ = some v0 ∧ w.cell? ⟨g, o + i * 5 + 1, none⟩ = some v1 ∧ w.cell? ⟨g, o + i * 5 + 2, none⟩ = some v2 ∧ w.cell? ⟨g, o + i * 5 + 3, none⟩ = some v3 ∧ w.cell? ⟨g, o + i * 5 + 4, none⟩ = some v4 ∧ AtF n w t (.agg #[v0, v1, v2, v3, v4])) → AtLF n w r (some ⟨g, o, none⟩)
  | [], _, _ => by unfold AtLF; trivial
  | t :: r, o, h => by
    obtain ⟨v0, v1, v2, v3, v4, h0, h1, h2, h3, h4, h5⟩ := h 0 t rfl
    unfold AtLF
    refine ⟨g, o, v0, v1, v2, v3, v4, rfl, hg, hz, by simpa using h0, by simpa using h1, by simpa using h2, by simpa using h3, by simpa using h4, h5, AtLF.of_cells hg hz r (o + 5) fun i q hq => ?_⟩
    have := h (i + 1) q (by simpa using hq)
    rw [show o + (i + 1) * 5 = o + 5 + i * 5 by omega] at this
    exact this
end Go.Proofs.YthfkodimafmmgaaGreatDoor.Nd
