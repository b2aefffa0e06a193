/- What is read at the type of a node is one: the opening of a node that is handed in. -/
import Derived.Test.YtmcpemohemeecaaDoorNdM
import Derived.Test.YtmcpemohemeecaaDoorChecked
import Derived.ProofKit
import Derived.OpenShut
import Derived.ChangeSlices
import Derived.ChangeArms
namespace Go.Proofs.YtmcpemohemeecaaDoor
open Go Go.RowKit

/-- Cells that are there lie at a plain address. -/
theorem cells_spot {w : World} {a : Addr} {n : Nat} {cs : List Value} (h : w.cells? 0 a n = some cs) (hn : 0 < n) : ∃ b o, a = ⟨b, o, none⟩ := by
  obtain ⟨_, hl, hc⟩ := World.cells?_some h
  obtain ⟨b, o, s⟩ := a
  have h0 := hc 0 hn
  rw [List.getElem?_eq_getElem (by omega)] at h0
  have hs : s = none := by simpa [Addr.add] using World.cell?_spot h0
  subst hs
  exact ⟨b, o, rfl⟩
theorem cells_plain {w : World} {b o i n : Nat} {cs : List Value} (h : w.cells? 0 ((⟨b, o, none⟩ : Addr).add i) n = some cs) : cs.length = n ∧ ∀ j, j < n → w.cell? ⟨b, o + i + j, none⟩ = cs[j]? := by
  obtain ⟨_, hl, hc⟩ := World.cells?_some h
  refine ⟨hl, fun j hj => ?_⟩
  have := hc j hj
  rw [Go.WideShapes.add_plain, Go.WideShapes.add_plain] at this
  exact this

theorem two_cells {α : Type} {l : List α} (h : l.length = 2) : ∃ a b, l = [a, b] := by
  match l, h with
  | [a, b], _ => exact ⟨a, b, rfl⟩
theorem five_cells {α : Type} {l : List α} (h : l.length = 5) : ∃ a b c d e, l = [a, b, c, d, e] := by
  match l, h with
  | [a, b, c, d, e], _ => exact ⟨a, b, c, d, e, rfl⟩
theorem agg_five {v a b c d e : Value} (h : v.cells.toList = [a, b, c, d, e]) : v = .agg #[a, b, c, d, e] := by
  cases v <;> simp [Value.cells] at h
  rename_i cs
  obtain ⟨l⟩ := cs
  simp at h
  rw [h]
theorem RgAt_of {w : World} : ∀ (len b o : Nat), (∀ i, i < len → ∃ p : Int × Int, w.cell? ⟨b, o + i * 2, none⟩ = some (.int .i32 p.1) ∧ w.cell? ⟨b, o + i * 2 + 1, none⟩ = some (.int .i32 p.2)) →
    ∃ st : List (Int × Int), st.length = len ∧ Nd.RgAt w st (some ⟨b, o, none⟩)
  | 0, _, _, _ => ⟨[], rfl, trivial⟩
  | len + 1, b, o, h => by
    obtain ⟨p, h0, h1⟩ := h 0 (by omega)
    obtain ⟨st, hl, hr⟩ := RgAt_of len b (o + 2) fun i hi => by
      obtain ⟨q, g0, g1⟩ := h (i + 1) (by omega)
      exact ⟨q, by rw [show o + 2 + i * 2 = o + (i + 1) * 2 by omega]; exact g0, by rw [show o + 2 + i * 2 + 1 = o + (i + 1) * 2 + 1 by omega]; exact g1⟩
    exact ⟨p :: st, by simp [hl], b, o, rfl, by simpa using h0, by simpa using h1, hr⟩
theorem AtL_of {w : World} : ∀ (len b o : Nat), (∀ i, i < len → ∃ (t : Nd.T) (v0 v1 v2 v3 v4 : Value), w.cell? ⟨b, o + i * 5, none⟩ = some v0 ∧ w.cell? ⟨b, o + i * 5 + 1, none⟩ = some v1 ∧ w.cell? ⟨b, o + i * 5 + 2, none⟩ = some v2 ∧ w.cell? ⟨b, o + i * 5 + 3, none⟩ = some v3 ∧ w.cell? ⟨b, o + i * 5 + 4, none⟩ = some v4 ∧ Nd.At w t (.agg #[v0, v1, v2, v3, v4])) →
    ∃ ts : List Nd.T, ts.length = len ∧ Nd.AtL w ts (some ⟨b, o, none⟩)
  | 0, _, _, _ => ⟨[], rfl, by unfold Nd.AtL; trivial⟩
  | len + 1, b, o, h => by
    obtain ⟨t, v0, v1, v2, v3, v4, h0, h1, h2, h3, h4, h5⟩ := h 0 (by omega)
    obtain ⟨ts, hl, hr⟩ := AtL_of len b (o + 5) fun i hi => by
      obtain ⟨u, u0, u1, u2, u3, u4, g0, g1, g2, g3, g4, g5⟩ := h (i + 1) (by omega)
      have e : o + 5 + i * 5 = o + (i + 1) * 5 := by omega
      exact ⟨u, u0, u1, u2, u3, u4, by rw [e]; exact g0, by rw [e]; exact g1, by rw [e]; exact g2, by rw [e]; exact g3, by rw [e]; exact g4, g5⟩
    refine ⟨t :: ts, by simp [hl], ?_⟩
    unfold Nd.AtL
    exact ⟨b, o, v0, v1, v2, v3, v4, rfl, by simpa using h0, by simpa using h1, by simpa using h2, by simpa using h3, by simpa using h4, h5, hr⟩

section
variable {H : Type} {enc : TypeId × Value → H} {W : World}
theorem bytes_range : Tryd.prog.bytesOf 58 = 8 := by kernel_rfl
theorem bytes_node : 1 ≤ Tryd.prog.bytesOf 34 := by decide +kernel
theorem cells_range : Tryd.prog.cellsOf 58 = 2 := by kernel_rfl
theorem cells_i32 : Tryd.prog.cellsOf 21 = 1 := by kernel_rfl
theorem cells_kind : Tryd.prog.cellsOf 30 = 1 := by kernel_rfl
theorem cells_str : Tryd.prog.cellsOf 9 = 1 := by kernel_rfl
theorem cells_rngs : Tryd.prog.cellsOf 31 = 1 := by kernel_rfl
theorem cells_nds : Tryd.prog.cellsOf 32 = 1 := by kernel_rfl
theorem cells_node : Tryd.prog.cellsOf 34 = 5 := by kernel_rfl
theorem weightsAll_mem {P : Program} {e : TypeId} {x : Nat} {d : DataW H} : ∀ {l : List (DataW H)}, d ∈ l → x ∈ d.weights P e → x ∈ DataW.weightsAll P e l
  | [], h, _ => by simp at h
  | c :: l, h, hx => by
    simp only [DataW.weightsAll, List.mem_append]
    rcases List.mem_cons.1 h with rfl | h
    · exact Or.inl hx
    · exact Or.inr (weightsAll_mem h hx)
/-- What is read as ranges. -/
theorem open_ranges {fuel : Nat} {v : Value} {d : DataW H} {p : List MemPlace} (h : DataW.trod enc Tryd.prog W 0 (fun _ => true) true fuel 31 [v] = some (d, p)) (hw : ∀ x ∈ d.weights Tryd.prog 31, x ≤ reachBytes) :
    ∃ (a : Option Addr) (st : List (Int × Int)) (c : Nat), v = .slice a st.length c ∧ (st.length ≤ c ∧ st.length ≤ 140737488351232) ∧ Nd.RgAt W st a := by
  rcases DataW.trod_slice Tryd.underlying31 h with ⟨hv, _⟩ | ⟨a, len, cap, elems, rest, n, _, hv, hx, _, hlc, _, hel, hcell, hrest, _⟩
  · simp only [List.cons.injEq, and_true] at hv
    exact ⟨none, [], 0, by simpa using hv, ⟨Nat.le_refl _, by simp⟩, trivial⟩
  · simp only [List.cons.injEq, and_true] at hv
    simp only [Prod.mk.injEq] at hx
    obtain ⟨rfl, _⟩ := hx
    have hlw : len ≤ 140737488351232 := by
      have := hw ((elems.length + rest.length) * 8) (by simp [DataW.weights, Tryd.underlying31, bytes_range])
      unfold reachBytes at this
      omega
    by_cases h0 : len = 0
    · subst h0
      exact ⟨some a, [], cap, by simpa using hv, ⟨by simp, by simp⟩, trivial⟩
    obtain ⟨b, o, rfl⟩ : ∃ b o, a = ⟨b, o, none⟩ := by
      have key := hcell 0 (by omega)
      rw [List.getElem?_eq_getElem (by omega)] at key
      obtain ⟨cs', h1, _⟩ := Option.bind_eq_some_iff.1 key
      rw [Nat.zero_mul] at h1
      exact cells_spot (a := a) (by simpa [Addr.add] using h1) (by rw [cells_range]; omega)
    have hone : ∀ i, i < len → ∃ q : Int × Int, W.cell? ⟨b, o + i * 2, none⟩ = some (.int .i32 q.1) ∧ W.cell? ⟨b, o + i * 2 + 1, none⟩ = some (.int .i32 q.2) := by
      intro i hi
      have key := hcell i hi
      rw [List.getElem?_eq_getElem (by omega), cells_range] at key
      obtain ⟨cs', h1, h2⟩ := Option.bind_eq_some_iff.1 key
      obtain ⟨hl2, hc⟩ := cells_plain h1
      obtain ⟨xs, m, _, _, _, hxl, hf⟩ := DataW.trod_struct Tryd.underlying58 h2
      obtain ⟨c0, c1, rfl⟩ := two_cells hl2
      obtain ⟨y0, y1, rfl⟩ := two_cells hxl
      have f0 := hf 0 _ rfl
      have f1 := hf 1 _ rfl
      simp [cells_i32] at f0 f1
      obtain ⟨z0, e0, _, _⟩ := DataW.trod_int (x := y0) Tryd.underlying21 f0
      obtain ⟨z1, e1, _, _⟩ := DataW.trod_int (x := y1) Tryd.underlying21 f1
      simp only [List.cons.injEq, and_true] at e0 e1
      subst e0
      subst e1
      exact ⟨(z0, z1), hc 0 (by omega), hc 1 (by omega)⟩
    obtain ⟨st, hl, hr⟩ := RgAt_of (w := W) len b o hone
    subst hl
    exact ⟨some ⟨b, o, none⟩, st, cap, by simpa using hv, ⟨hlc, hlw⟩, hr⟩
/-- What is read as a node is one. -/
theorem open_node : ∀ (fuel : Nat) (cs : List Value) (d : DataW H) (p : List MemPlace), DataW.trod enc Tryd.prog W 0 (fun _ => true) true fuel 34 cs = some (d, p) → (∀ x ∈ d.weights Tryd.prog 34, x ≤ reachBytes) →
    ∃ (t : Nd.T) (v0 v1 v2 v3 v4 : Value), cs = [v0, v1, v2, v3, v4] ∧ Nd.At W t (.agg #[v0, v1, v2, v3, v4]) := by
  intro fuel
  induction fuel using Nat.strongRecOn with
  | _ fuel ih =>
    intro cs d p h hw
    obtain ⟨xs, n, hn, hx, hl, hxl, hf⟩ := DataW.trod_struct Tryd.underlying34 h
    rw [cells_node] at hl
    obtain ⟨v0, v1, v2, v3, v4, rfl⟩ := five_cells hl
    obtain ⟨y0, y1, y2, y3, y4, rfl⟩ := five_cells hxl
    have f0 := hf 0 _ rfl
    have f1 := hf 1 _ rfl
    have f2 := hf 2 _ rfl
    have f3 := hf 3 _ rfl
    have f4 := hf 4 _ rfl
    simp [cells_kind, cells_str, cells_rngs, cells_nds] at f0 f1 f2 f3 f4
    obtain ⟨k, e0, _, wk⟩ := DataW.trod_int (x := y0) Tryd.underlying30 f0
    obtain ⟨nm, e1, r1, _⟩ := DataW.trod_string (x := y1) Tryd.underlying9 f1
    obtain ⟨tx, e2, r2, _⟩ := DataW.trod_string (x := y2) Tryd.underlying9 f2
    simp only [List.cons.injEq, and_true] at e0 e1 e2
    simp only [Prod.mk.injEq] at hx
    obtain ⟨rfl, _⟩ := hx
    have hw1 : nm.size ≤ 140737488351232 := hw nm.size (by rw [r1]; simp [DataW.weights, Tryd.underlying34, DataW.weightsEach])
    have hw2 : tx.size ≤ 140737488351232 := hw tx.size (by rw [r2]; simp [DataW.weights, Tryd.underlying34, DataW.weightsEach])
    obtain ⟨sa, st, sc, rfl, hst, hsr⟩ := open_ranges (d := y3.1) (p := y3.2) f3 fun x hx => hw x (by simp [DataW.weights, Tryd.underlying34, DataW.weightsEach, hx])
    have hw4 : ∀ x ∈ y4.1.weights Tryd.prog 32, x ≤ reachBytes := fun x hx => hw x (by simp [DataW.weights, Tryd.underlying34, DataW.weightsEach, hx])
    have hk := bounds_u8 wk
    have hsub : ∃ (a : Option Addr) (ts : List Nd.T) (c : Nat), v4 = .slice a ts.length c ∧ (ts.length ≤ c ∧ ts.length ≤ 140737488351232) ∧ Nd.AtL W ts a := by
      rcases DataW.trod_slice Tryd.underlying32 f4 with ⟨hv, _⟩ | ⟨a, len, cap, elems, rest, m, hm, hv, hx, _, hlc, _, hel, hcell, hrest, _⟩
      · simp only [List.cons.injEq, and_true] at hv
        exact ⟨none, [], 0, by simpa using hv, ⟨Nat.le_refl _, by simp⟩, by unfold Nd.AtL; trivial⟩
      · simp only [List.cons.injEq, and_true] at hv
        have hx1 : y4.1 = .slice (elems.map (·.1)) (rest.map (·.1)) := by rw [hx]
        have hlw : len ≤ 140737488351232 := by
          have := hw4 ((elems.length + rest.length) * Tryd.prog.bytesOf 34) (by rw [hx1]; simp [DataW.weights, Tryd.underlying32])
          have := Nat.mul_le_mul_left (elems.length + rest.length) bytes_node
          unfold reachBytes at *
          omega
        by_cases h0 : len = 0
        · subst h0
          exact ⟨some a, [], cap, by simpa using hv, ⟨by simp, by simp⟩, by unfold Nd.AtL; trivial⟩
        obtain ⟨b, o, rfl⟩ : ∃ b o, a = ⟨b, o, none⟩ := by
          have key := hcell 0 (by omega)
          rw [List.getElem?_eq_getElem (by omega)] at key
          obtain ⟨cs', h1, _⟩ := Option.bind_eq_some_iff.1 key
          rw [Nat.zero_mul] at h1
          exact cells_spot (a := a) (by simpa [Addr.add] using h1) (by rw [cells_node]; omega)
        obtain ⟨ts, hl, hr⟩ := AtL_of (w := W) len b o fun i hi => by
          have key := hcell i hi
          rw [List.getElem?_eq_getElem (by omega), cells_node] at key
          obtain ⟨cs', h1, h2⟩ := Option.bind_eq_some_iff.1 key
          obtain ⟨_, hc⟩ := cells_plain h1
          obtain ⟨t, u0, u1, u2, u3, u4, rfl, hA⟩ := ih m (by omega) cs' (elems[i]'(by omega)).1 (elems[i]'(by omega)).2 h2 fun x hx => hw4 x (by
            rw [hx1]
            simp only [DataW.weights, Tryd.underlying32, List.mem_cons, List.mem_append]
            exact Or.inr (Or.inl (weightsAll_mem (List.mem_map_of_mem (List.getElem_mem _)) hx)))
          exact ⟨t, u0, u1, u2, u3, u4, hc 0 (by omega), hc 1 (by omega), hc 2 (by omega), hc 3 (by omega), hc 4 (by omega), hA⟩
        subst hl
        exact ⟨some ⟨b, o, none⟩, ts, cap, by simpa using hv, ⟨hlc, hlw⟩, hr⟩
    obtain ⟨ba, ts, bc, rfl, hts, htr⟩ := hsub
    refine ⟨.mk k nm tx st ts, _, _, _, _, _, rfl, ?_⟩
    unfold Nd.At
    subst e0
    subst e1
    subst e2
    exact ⟨sa, sc, ba, bc, rfl, by omega, hw1, hw2, hst, hts, hsr, htr⟩
end
end Go.Proofs.YtmcpemohemeecaaDoor
