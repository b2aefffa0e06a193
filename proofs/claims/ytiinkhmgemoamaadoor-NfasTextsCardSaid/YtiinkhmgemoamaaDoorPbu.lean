/- What is read at the type of a node is one: the opening of a node that is handed in. -/
import Derived.Test.YtiinkhmgemoamaaDoorPaa
import Derived.Test.YtiinkhmgemoamaaDoorChecked
import Derived.ProofKit
import Derived.OpenShut
import Derived.ChangeSlices
import Derived.ChangeArms
import Derived.Test.YtiinkhmgemoamaaDoorPai
import Derived.Test.YtiinkhmgemoamaaDoorPbo
import Derived.Test.YtiinkhmgemoamaaDoorRows
import Derived.Test.YtiinkhmgemoamaaDoorCards
import Derived.Test.YtiinkhmgemoamaaDoorTie
import Derived.PinnedBridge
import Derived.Lib.LaidU8
import Derived.Lib.LaidTab
import Derived.LaidMore
import Derived.Stop.Joined
import Derived.Lay
import Derived.SizedLaws
import Derived.Carry
namespace Go.Proofs.YtiinkhmgemoamaaDoor
open Go Go.RowKit

/-- Cells that are there lie at a plain address. -/
theorem cells_spot {w : World} {a : Addr} {n : Nat} {cs : List Value} (h : w.cells? 0 a n = some cs) (hn : 0 < n) : ∃ b o, a = ⟨b, o, none⟩ := by
 obtain ⟨_, hl, hc⟩ := World.cells?_some h
 obtain ⟨b, o, s⟩ := a
 have h0 := hc 0 hn
 rw [List.getElem?_eq_getElem (by omega)] at h0
 have hs : s = none := by simpa [Addr.add] using World.cell?_spot h0
 subst hs
 exact ⟨b, o, rfl⟩
theorem cells_plain {w : World} {b o i n : Nat} {cs : List Value} (h : w.cells? 0 ((⟨b, o, none⟩ : Addr).add i) n = some cs) : cs.length = n ∧ ∀ j, j < n → w.cell? ⟨b, o + i + j, none⟩ = cs[j]? := by
 obtain ⟨_, hl, hc⟩ := World.cells?_some h
 refine ⟨hl, fun j hj => ?_⟩
 have := hc j hj
 rw [Go.WideShapes.add_plain, Go.WideShapes.add_plain] at this
 exact this

theorem two_cells {α : Type} {l : List α} (h : l.length = 2) : ∃ a b, l = [a, b] := by
 match l, h with
 | [a, b], _ => exact ⟨a, b, rfl⟩
theorem five_cells {α : Type} {l : List α} (h : l.length = 5) : ∃ a b c d e, l = [a, b, c, d, e] := by
 match l, h with
 | [a, b, c, d, e], _ => exact ⟨a, b, c, d, e, rfl⟩
theorem RgAt_of {w : World} : ∀ (len b o : Nat), (∀ i, i < len → ∃ p : Int × Int, w.cell? ⟨b, o + i * 2, none⟩ = some (.int .i32 p.1) ∧ w.cell? ⟨b, o + i * 2 + 1, none⟩ = some (.int .i32 p.2)) →
 ∃ st : List (Int × Int), st.length = len ∧ Nd.RgAt w st (some ⟨b, o, none⟩)
 | 0, _, _, _ => ⟨[], rfl, trivial⟩
 | len + 1, b, o, h => by
  obtain ⟨p, h0, h1⟩ := h 0 (by omega)
  obtain ⟨st, hl, hr⟩ := RgAt_of len b (o + 2) fun i hi => by
   obtain ⟨q, g0, g1⟩ := h (i + 1) (by omega)
   exact ⟨q, by rw [show o + 2 + i * 2 = o + (i + 1) * 2 by omega]; exact g0, by rw [show o + 2 + i * 2 + 1 = o + (i + 1) * 2 + 1 by omega]; exact g1⟩
  exact ⟨p :: st, by simp [hl], b, o, rfl, by simpa using h0, by simpa using h1, hr⟩
theorem AtL_of {w : World} : ∀ (len b o : Nat), (∀ i, i < len → ∃ (t : Nd.T) (v0 v1 v2 v3 v4 : Value), w.cell? ⟨b, o + i * 5, none⟩ = some v0 ∧ w.cell? ⟨b, o + i * 5 + 1, none⟩ = some v1 ∧ w.cell? ⟨b, o + i * 5 + 2, none⟩ = some v2 ∧ w.cell? ⟨b, o + i * 5 + 3, none⟩ = some v3 ∧ w.cell? ⟨b, o + i * 5 + 4, none⟩ = some v4 ∧ Nd.At w t (.agg #[v0, v1, v2, v3, v4])) →
 ∃ ts : List Nd.T, ts.length = len ∧ Nd.AtL w ts (some ⟨b, o, none⟩)
 | 0, _, _, _ => ⟨[], rfl, by unfold Nd.AtL; trivial⟩
 | len + 1, b, o, h => by
  obtain ⟨t, v0, v1, v2, v3, v4, h0, h1, h2, h3, h4, h5⟩ := h 0 (by omega)
  obtain ⟨ts, hl, hr⟩ := AtL_of len b (o + 5) fun i hi => by
   obtain ⟨u, u0, u1, u2, u3, u4, g0, g1, g2, g3, g4, g5⟩ := h (i + 1) (by omega)
   have e : o + 5 + i * 5 = o + (i + 1) * 5 := by omega
   exact ⟨u, u0, u1, u2, u3, u4, by rw [e]; exact g0, by rw [e]; exact g1, by rw [e]; exact g2, by rw [e]; exact g3, by rw [e]; exact g4, g5⟩
  refine ⟨t :: ts, by simp [hl], ?_⟩
  unfold Nd.AtL
  exact ⟨b, o, v0, v1, v2, v3, v4, rfl, by simpa using h0, by simpa using h1, by simpa using h2, by simpa using h3, by simpa using h4, h5, hr⟩

section
variable {H : Type} {enc : TypeId × Value → H} {W : World}
theorem bytes_range : Tryd.prog.bytesOf 58 = 8 := by kernel_rfl
theorem bytes_node : 1 ≤ Tryd.prog.bytesOf 34 := by decide +kernel
theorem cells_range : Tryd.prog.cellsOf 58 = 2 := by kernel_rfl
theorem cells_i32 : Tryd.prog.cellsOf 21 = 1 := by kernel_rfl
theorem cells_kind : Tryd.prog.cellsOf 30 = 1 := by kernel_rfl
theorem cells_str : Tryd.prog.cellsOf 9 = 1 := by kernel_rfl
theorem cells_rngs : Tryd.prog.cellsOf 31 = 1 := by kernel_rfl
theorem cells_nds : Tryd.prog.cellsOf 32 = 1 := by kernel_rfl
theorem cells_node : Tryd.prog.cellsOf 34 = 5 := by kernel_rfl
theorem weightsAll_mem {P : Program} {e : TypeId} {x : Nat} {d : DataW H} : ∀ {l : List (DataW H)}, d ∈ l → x ∈ d.weights P e → x ∈ DataW.weightsAll P e l
 | [], h, _ => by simp at h
 | c :: l, h, hx => by
  simp only [DataW.weightsAll, List.mem_append]
  rcases List.mem_cons.1 h with rfl | h
  · exact Or.inl hx
  · exact Or.inr (weightsAll_mem h hx)
/-- What is read as ranges. -/
theorem open_ranges {fuel : Nat} {v : Value} {d : DataW H} {p : List MemPlace} (h : DataW.trod enc Tryd.prog W 0 (fun _ => true) true fuel 31 [v] = some (d, p)) (hw : ∀ x ∈ d.weights Tryd.prog 31, x ≤ reachBytes) :
 ∃ (a : Option Addr) (st : List (Int × Int)) (c : Nat), v = .slice a st.length c ∧ (st.length ≤ c ∧ st.length ≤ 140737488351232) ∧ Nd.RgAt W st a := by
 rcases DataW.trod_slice Tryd.underlying31 h with ⟨hv, _⟩ | ⟨a, len, cap, elems, rest, n, _, hv, hx, _, hlc, _, hel, hcell, hrest, _⟩
 · simp only [List.cons.injEq, and_true] at hv
   exact ⟨none, [], 0, by simpa using hv, ⟨Nat.le_refl _, by simp⟩, trivial⟩
 · simp only [List.cons.injEq, and_true] at hv
   simp only [Prod.mk.injEq] at hx
   obtain ⟨rfl, _⟩ := hx
   have hlw : len ≤ 140737488351232 := by
    have := hw ((elems.length + rest.length) * 8) (by simp [DataW.weights, Tryd.underlying31, bytes_range])
    unfold reachBytes at this
    omega
   by_cases h0 : len = 0
   · subst h0
     exact ⟨some a, [], cap, by simpa using hv, ⟨by simp, by simp⟩, trivial⟩
   obtain ⟨b, o, rfl⟩ : ∃ b o, a = ⟨b, o, none⟩ := by
    have key := hcell 0 (by omega)
    rw [List.getElem?_eq_getElem (by omega)] at key
    obtain ⟨cs', h1, _⟩ := Option.bind_eq_some_iff.1 key
    rw [Nat.zero_mul] at h1
    exact cells_spot (a := a) (by simpa [Addr.add] using h1) (by rw [cells_range]; omega)
   have hone : ∀ i, i < len → ∃ q : Int × Int, W.cell? ⟨b, o + i * 2, none⟩ = some (.int .i32 q.1) ∧ W.cell? ⟨b, o + i * 2 + 1, none⟩ = some (.int .i32 q.2) := by
    intro i hi
    have key := hcell i hi
    rw [List.getElem?_eq_getElem (by omega), cells_range] at key
    obtain ⟨cs', h1, h2⟩ := Option.bind_eq_some_iff.1 key
    obtain ⟨hl2, hc⟩ := cells_plain h1
    obtain ⟨xs, m, _, _, _, hxl, hf⟩ := DataW.trod_struct Tryd.underlying58 h2
    obtain ⟨c0, c1, rfl⟩ := two_cells hl2
    obtain ⟨y0, y1, rfl⟩ := two_cells hxl
    have f0 := hf 0 _ rfl
    have f1 := hf 1 _ rfl
    simp [cells_i32] at f0 f1
    obtain ⟨z0, e0, _, _⟩ := DataW.trod_int (x := y0) Tryd.underlying21 f0
    obtain ⟨z1, e1, _, _⟩ := DataW.trod_int (x := y1) Tryd.underlying21 f1
    simp only [List.cons.injEq, and_true] at e0 e1
    subst e0
    subst e1
    exact ⟨(z0, z1), hc 0 (by omega), hc 1 (by omega)⟩
   obtain ⟨st, hl, hr⟩ := RgAt_of (w := W) len b o hone
   subst hl
   exact ⟨some ⟨b, o, none⟩, st, cap, by simpa using hv, ⟨hlc, hlw⟩, hr⟩
/-- What is read as a node is one. -/
theorem open_node : ∀ (fuel : Nat) (cs : List Value) (d : DataW H) (p : List MemPlace), DataW.trod enc Tryd.prog W 0 (fun _ => true) true fuel 34 cs = some (d, p) → (∀ x ∈ d.weights Tryd.prog 34, x ≤ reachBytes) →
 ∃ (t : Nd.T) (v0 v1 v2 v3 v4 : Value), cs = [v0, v1, v2, v3, v4] ∧ Nd.At W t (.agg #[v0, v1, v2, v3, v4]) := by
 intro fuel
 induction fuel using Nat.strongRecOn with
 | _ fuel ih =>
  intro cs d p h hw
  obtain ⟨xs, n, hn, hx, hl, hxl, hf⟩ := DataW.trod_struct Tryd.underlying34 h
  rw [cells_node] at hl
  obtain ⟨v0, v1, v2, v3, v4, rfl⟩ := five_cells hl
  obtain ⟨y0, y1, y2, y3, y4, rfl⟩ := five_cells hxl
  have f0 := hf 0 _ rfl
  have f1 := hf 1 _ rfl
  have f2 := hf 2 _ rfl
  have f3 := hf 3 _ rfl
  have f4 := hf 4 _ rfl
  simp [cells_kind, cells_str, cells_rngs, cells_nds] at f0 f1 f2 f3 f4
  obtain ⟨k, e0, _, wk⟩ := DataW.trod_int (x := y0) Tryd.underlying30 f0
  obtain ⟨nm, e1, r1, _⟩ := DataW.trod_string (x := y1) Tryd.underlying9 f1
  obtain ⟨tx, e2, r2, _⟩ := DataW.trod_string (x := y2) Tryd.underlying9 f2
  simp only [List.cons.injEq, and_true] at e0 e1 e2
  simp only [Prod.mk.injEq] at hx
  obtain ⟨rfl, _⟩ := hx
  have hw1 : nm.size ≤ 140737488351232 := hw nm.size (by rw [r1]; simp [DataW.weights, Tryd.underlying34, DataW.weightsEach])
  have hw2 : tx.size ≤ 140737488351232 := hw tx.size (by rw [r2]; simp [DataW.weights, Tryd.underlying34, DataW.weightsEach])
  obtain ⟨sa, st, sc, rfl, hst, hsr⟩ := open_ranges (d := y3.1) (p := y3.2) f3 fun x hx => hw x (by simp [DataW.weights, Tryd.underlying34, DataW.weightsEach, hx])
  have hw4 : ∀ x ∈ y4.1.weights Tryd.prog 32, x ≤ reachBytes := fun x hx => hw x (by simp [DataW.weights, Tryd.underlying34, DataW.weightsEach, hx])
  have hk := bounds_u8 wk
  have hsub : ∃ (a : Option Addr) (ts : List Nd.T) (c : Nat), v4 = .slice a ts.length c ∧ (ts.length ≤ c ∧ ts.length ≤ 140737488351232) ∧ Nd.AtL W ts a := by
   rcases DataW.trod_slice Tryd.underlying32 f4 with ⟨hv, _⟩ | ⟨a, len, cap, elems, rest, m, hm, hv, hx, _, hlc, _, hel, hcell, hrest, _⟩
   · simp only [List.cons.injEq, and_true] at hv
     exact ⟨none, [], 0, by simpa using hv, ⟨Nat.le_refl _, by simp⟩, by unfold Nd.AtL; trivial⟩
   · simp only [List.cons.injEq, and_true] at hv
     have hx1 : y4.1 = .slice (elems.map (·.1)) (rest.map (·.1)) := by rw [hx]
     have hlw : len ≤ 140737488351232 := by
      have := hw4 ((elems.length + rest.length) * Tryd.prog.bytesOf 34) (by rw [hx1]; simp [DataW.weights, Tryd.underlying32])
      have := Nat.mul_le_mul_left (elems.length + rest.length) bytes_node
      unfold reachBytes at *
      omega
     by_cases h0 : len = 0
     · subst h0
       exact ⟨some a, [], cap, by simpa using hv, ⟨by simp, by simp⟩, by unfold Nd.AtL; trivial⟩
     obtain ⟨b, o, rfl⟩ : ∃ b o, a = ⟨b, o, none⟩ := by
      have key := hcell 0 (by omega)
      rw [List.getElem?_eq_getElem (by omega)] at key
      obtain ⟨cs', h1, _⟩ := Option.bind_eq_some_iff.1 key
      rw [Nat.zero_mul] at h1
      exact cells_spot (a := a) (by simpa [Addr.add] using h1) (by rw [cells_node]; omega)
     obtain ⟨ts, hl, hr⟩ := AtL_of (w := W) len b o fun i hi => by
      have key := hcell i hi
      rw [List.getElem?_eq_getElem (by omega), cells_node] at key
      obtain ⟨cs', h1, h2⟩ := Option.bind_eq_some_iff.1 key
      obtain ⟨_, hc⟩ := cells_plain h1
      obtain ⟨t, u0, u1, u2, u3, u4, rfl, hA⟩ := ih m (by omega) cs' (elems[i]'(by omega)).1 (elems[i]'(by omega)).2 h2 fun x hx => hw4 x (by
       rw [hx1]
       simp only [DataW.weights, Tryd.underlying32, List.mem_cons, List.mem_append]
       exact Or.inr (Or.inl (weightsAll_mem (List.mem_map_of_mem (List.getElem_mem _)) hx)))
      exact ⟨t, u0, u1, u2, u3, u4, hc 0 (by omega), hc 1 (by omega), hc 2 (by omega), hc 3 (by omega), hc 4 (by omega), hA⟩
     subst hl
     exact ⟨some ⟨b, o, none⟩, ts, cap, by simpa using hv, ⟨hlc, hlw⟩, hr⟩
  obtain ⟨ba, ts, bc, rfl, hts, htr⟩ := hsub
  refine ⟨.mk k nm tx st ts, _, _, _, _, _, rfl, ?_⟩
  unfold Nd.At
  subst e0
  subst e1
  subst e2
  exact ⟨sa, sc, ba, bc, rfl, by omega, hw1, hw2, hst, hts, hsr, htr⟩
end
end Go.Proofs.YtiinkhmgemoamaaDoor
namespace Go.Proofs.YtiinkhmgemoamaaDoor
open Go Go.RowKit Nu

theorem four_cells {α : Type} {l : List α} (h : l.length = 4) : ∃ a b c d, l = [a, b, c, d] := by
 match l, h with
 | [a, b, c, d], _ => exact ⟨a, b, c, d, rfl⟩
theorem three_cells {α : Type} {l : List α} (h : l.length = 3) : ∃ a b c, l = [a, b, c] := by
 match l, h with
 | [a, b, c], _ => exact ⟨a, b, c, rfl⟩
theorem ten_cells {α : Type} {l : List α} (h : l.length = 10) : ∃ a b c d e f g i j k, l = [a, b, c, d, e, f, g, i, j, k] := by
 match l, h with
 | [a, b, c, d, e, f, g, i, j, k], _ => exact ⟨a, b, c, d, e, f, g, i, j, k, rfl⟩
theorem RuL_of {w : World} : ∀ (len b o : Nat), (∀ i, i < len → ∃ r : Nu.Rl, RuC w r b (o + i * 10)) → ∃ rs : List Nu.Rl, rs.length = len ∧ RuL w rs (some ⟨b, o, none⟩)
 | 0, _, _, _ => ⟨[], rfl, fun i r h => by simp at h⟩
 | len + 1, b, o, h => by
  obtain ⟨rs, hl, hr⟩ := RuL_of len b o fun i hi => h i (by omega)
  obtain ⟨r, hrc⟩ := h len (by omega)
  refine ⟨rs ++ [r], by simp [hl], fun i q hq => ?_⟩
  by_cases hi : i < rs.length
  · rw [List.getElem?_append_left hi] at hq
    exact hr i q hq
  · rw [List.getElem?_append_right (by omega)] at hq
    have h0 : i - rs.length = 0 := by
     rcases Nat.eq_zero_or_pos (i - rs.length) with h | h
     · exact h
     · rw [List.getElem?_eq_none (by simp; omega)] at hq; cases hq
    rw [h0] at hq
    injection hq with hq
    subst hq
    obtain rfl : i = len := by omega
    exact ⟨b, o, rfl, hrc⟩
section
variable {H : Type} {enc : TypeId × Value → H} {W : World}
theorem bytes_rule : 1 ≤ Tryd.prog.bytesOf 38 := by decide +kernel
theorem cells_sort : Tryd.prog.cellsOf 29 = 1 := by kernel_rfl
theorem cells_int : Tryd.prog.cellsOf 3 = 1 := by kernel_rfl
theorem cells_pos : Tryd.prog.cellsOf 36 = 3 := by kernel_rfl
theorem cells_opts : Tryd.prog.cellsOf 23 = 2 := by kernel_rfl
theorem cells_rule : Tryd.prog.cellsOf 38 = 10 := by kernel_rfl
theorem cells_rules : Tryd.prog.cellsOf 24 = 1 := by kernel_rfl
theorem cells_gram : Tryd.prog.cellsOf 26 = 4 := by kernel_rfl
/-- What is read as a rule is one. -/
theorem open_rule (fuel : Nat) (cs : List Value) (d : DataW H) (p : List MemPlace) (h : DataW.trod enc Tryd.prog W 0 (fun _ => true) true fuel 38 cs = some (d, p)) (hw : ∀ x ∈ d.weights Tryd.prog 38, x ≤ reachBytes) :
 ∃ (r : Nu.Rl) (v0 v1 v2 v3 v4 : Value), cs = [.string r.name, .int .u8 r.sort, v0, v1, v2, v3, v4, .int .i64 r.p0, .int .i64 r.p1, .int .i64 r.p2] ∧ Nd.At W r.body (.agg #[v0, v1, v2, v3, v4]) ∧ (0 ≤ r.sort ∧ r.sort < 256) ∧ r.name.size ≤ 140737488351232 := by
 obtain ⟨xs, n, hn, hx, hl, hxl, hf⟩ := DataW.trod_struct Tryd.underlying38 h
 rw [cells_rule] at hl
 obtain ⟨c0, c1, c2, c3, c4, c5, c6, c7, c8, c9, rfl⟩ := ten_cells hl
 obtain ⟨y0, y1, y2, y3, rfl⟩ := four_cells hxl
 have f0 := hf 0 _ rfl
 have f1 := hf 1 _ rfl
 have f2 := hf 2 _ rfl
 have f3 := hf 3 _ rfl
 simp [cells_sort, cells_str, cells_node, cells_pos] at f0 f1 f2 f3
 simp only [Prod.mk.injEq] at hx
 obtain ⟨rfl, _⟩ := hx
 obtain ⟨nm, e0, r0, _⟩ := DataW.trod_string (x := y0) Tryd.underlying9 f0
 obtain ⟨s, e1, _, ws⟩ := DataW.trod_int (x := y1) Tryd.underlying29 f1
 have hw0 : nm.size ≤ 140737488351232 := hw nm.size (by rw [r0]; simp [DataW.weights, Tryd.underlying38, DataW.weightsEach])
 obtain ⟨t, v0, v1, v2, v3, v4, e2, hA⟩ := open_node _ _ y2.1 y2.2 f2 fun x hx => hw x (by simp [DataW.weights, Tryd.underlying38, DataW.weightsEach, hx])
 obtain ⟨zs, m, _, _, hzl, hzz, hg⟩ := DataW.trod_struct Tryd.underlying36 f3
 obtain ⟨z0, z1, z2, rfl⟩ := three_cells hzz
 have g0 := hg 0 _ rfl
 have g1 := hg 1 _ rfl
 have g2 := hg 2 _ rfl
 simp [cells_int] at g0 g1 g2
 obtain ⟨p0, q0, _, _⟩ := DataW.trod_int (x := z0) Tryd.underlying3 g0
 obtain ⟨p1, q1, _, _⟩ := DataW.trod_int (x := z1) Tryd.underlying3 g1
 obtain ⟨p2, q2, _, _⟩ := DataW.trod_int (x := z2) Tryd.underlying3 g2
 simp only [List.cons.injEq, and_true] at e0 e1 e2 q0 q1 q2
 have hs := bounds_u8 ws
 obtain ⟨rfl, rfl, rfl, rfl, rfl⟩ := e2
 subst e0
 subst e1
 subst q0
 subst q1
 subst q2
 exact ⟨⟨nm, s, t, p0, p1, p2⟩, _, _, _, _, _, rfl, hA, (show 0 ≤ s ∧ s < 256 by omega), hw0⟩
/-- What is read as rules. -/
theorem open_rules {fuel : Nat} {v : Value} {d : DataW H} {p : List MemPlace} (h : DataW.trod enc Tryd.prog W 0 (fun _ => true) true fuel 24 [v] = some (d, p)) (hw : ∀ x ∈ d.weights Tryd.prog 24, x ≤ reachBytes) :
 ∃ (a : Option Addr) (rs : List Nu.Rl) (c : Nat), v = .slice a rs.length c ∧ (rs.length ≤ c ∧ rs.length ≤ 140737488351232) ∧ RuL W rs a := by
 rcases DataW.trod_slice Tryd.underlying24 h with ⟨hv, _⟩ | ⟨a, len, cap, elems, rest, m, hm, hv, hx, _, hlc, _, hel, hcell, hrest, _⟩
 · simp only [List.cons.injEq, and_true] at hv
   exact ⟨none, [], 0, by simpa using hv, ⟨Nat.le_refl _, by simp⟩, fun i r hr => by simp at hr⟩
 · simp only [List.cons.injEq, and_true] at hv
   have hx1 : d = .slice (elems.map (·.1)) (rest.map (·.1)) := congrArg Prod.fst hx
   have hlw : len ≤ 140737488351232 := by
    have := hw ((elems.length + rest.length) * Tryd.prog.bytesOf 38) (by rw [hx1]; simp [DataW.weights, Tryd.underlying24])
    have := Nat.mul_le_mul_left (elems.length + rest.length) bytes_rule
    unfold reachBytes at *
    omega
   by_cases h0 : len = 0
   · subst h0
     exact ⟨some a, [], cap, by simpa using hv, ⟨by simp, by simp⟩, fun i r hr => by simp at hr⟩
   obtain ⟨b, o, rfl⟩ : ∃ b o, a = ⟨b, o, none⟩ := by
    have key := hcell 0 (by omega)
    rw [List.getElem?_eq_getElem (by omega)] at key
    obtain ⟨cs', h1, _⟩ := Option.bind_eq_some_iff.1 key
    rw [Nat.zero_mul] at h1
    exact cells_spot (a := a) (by simpa [Addr.add] using h1) (by rw [cells_rule]; omega)
   obtain ⟨rs, hl, hr⟩ := RuL_of (w := W) len b o fun i hi => by
    have key := hcell i hi
    rw [List.getElem?_eq_getElem (by omega), cells_rule] at key
    obtain ⟨cs', h1, h2⟩ := Option.bind_eq_some_iff.1 key
    obtain ⟨_, hc⟩ := cells_plain h1
    obtain ⟨r, u0, u1, u2, u3, u4, rfl, hA, hs, hn⟩ := open_rule m cs' (elems[i]'(by omega)).1 (elems[i]'(by omega)).2 h2 fun x hx => hw x (by
     rw [hx1]
     simp only [DataW.weights, Tryd.underlying24, List.mem_cons, List.mem_append]
     exact Or.inr (Or.inl (weightsAll_mem (List.mem_map_of_mem (List.getElem_mem _)) hx)))
    exact ⟨r, u0, u1, u2, u3, u4, hc 0 (by omega), hc 1 (by omega), hc 2 (by omega), hc 3 (by omega), hc 4 (by omega), hc 5 (by omega), hc 6 (by omega), hc 7 (by omega), hc 8 (by omega), hc 9 (by omega), hA, hs, hn⟩
   subst hl
   exact ⟨some ⟨b, o, none⟩, rs, cap, by simpa using hv, ⟨hlc, hlw⟩, hr⟩
/-- What is read as a grammar is one. -/
theorem open_gram (fuel : Nat) (cs : List Value) (d : DataW H) (p : List MemPlace) (h : DataW.trod enc Tryd.prog W 0 (fun _ => true) true fuel 26 cs = some (d, p)) (hw : ∀ x ∈ d.weights Tryd.prog 26, x ≤ reachBytes) :
 ∃ (nm : ByteArray) (o1 o2 : Int) (rs : List Nu.Rl) (ra : Option Addr) (rc : Nat), cs = [.string nm, .int .i64 o1, .int .i64 o2, .slice ra rs.length rc] ∧ GrV W nm o1 o2 rs (.agg #[.string nm, .int .i64 o1, .int .i64 o2, .slice ra rs.length rc]) := by
 obtain ⟨xs, n, hn, hx, hl, hxl, hf⟩ := DataW.trod_struct Tryd.underlying26 h
 rw [cells_gram] at hl
 obtain ⟨c0, c1, c2, c3, rfl⟩ := four_cells hl
 obtain ⟨y0, y1, y2, rfl⟩ := three_cells hxl
 have f0 := hf 0 _ rfl
 have f1 := hf 1 _ rfl
 have f2 := hf 2 _ rfl
 simp [cells_str, cells_opts, cells_rules] at f0 f1 f2
 simp only [Prod.mk.injEq] at hx
 obtain ⟨rfl, _⟩ := hx
 obtain ⟨nm, e0, r0, _⟩ := DataW.trod_string (x := y0) Tryd.underlying9 f0
 have hw0 : nm.size ≤ 140737488351232 := hw nm.size (by rw [r0]; simp [DataW.weights, Tryd.underlying26, DataW.weightsEach])
 obtain ⟨zs, m, _, _, _, hzz, hg⟩ := DataW.trod_struct Tryd.underlying23 f1
 obtain ⟨z0, z1, rfl⟩ := two_cells hzz
 have g0 := hg 0 _ rfl
 have g1 := hg 1 _ rfl
 simp [cells_int] at g0 g1
 obtain ⟨o1, q0, _, _⟩ := DataW.trod_int (x := z0) Tryd.underlying3 g0
 obtain ⟨o2, q1, _, _⟩ := DataW.trod_int (x := z1) Tryd.underlying3 g1
 obtain ⟨ra, rs, rc, e2, hl2, hR⟩ := open_rules (d := y2.1) (p := y2.2) f2 fun x hx => hw x (by simp [DataW.weights, Tryd.underlying26, DataW.weightsEach, hx])
 simp only [List.cons.injEq, and_true] at e0 q0 q1
 subst e0
 subst q0
 subst q1
 subst e2
 exact ⟨nm, o1, o2, rs, ra, rc, rfl, ra, rc, rfl, hw0, hl2, hR⟩
end
end Go.Proofs.YtiinkhmgemoamaaDoor
namespace Go.Proofs.YtiinkhmgemoamaaDoor
open Go Go.RowKit Go.ChangeShapes Go.WideShapes Go.ChangeAt Go.WideMaps Go.WideElems
open Go.ChangeMaps (setBlock shut_map_nil open_string shut_string keptBut_setBlock frozen?_setBlock heap_setBlock_same)

abbrev laidL : List (String × DataW Unit) := [("math/bits.deBruijn64tab", Rows.laid_math_bits_deBruijn64tab)]
theorem gBruijn : Tryd.prog.globalNamed "math/bits.deBruijn64tab" = some 0 := by kernel_rfl
theorem yBruijn : (Tryd.prog.globals[0]?).map (·.type) = some 125 := by kernel_rfl
theorem bruijn_eq : (Rows.laid_math_bits_deBruijn64tab : DataW Unit) = Lib.tabData .u8 (Lib.deBruijn64tab.map fun (n : Nat) => (n : Int)) := by rfl
theorem tab_of_laid {W : World} (hL : laidMetH Tryd.prog laidL W) : Nf.Tab W := by
 rw [MakeChecks.laidMetH_plain _ _ _ (by kernel_rfl)] at hL
 have rB := Lib.laidMet.reads hL (n := "math/bits.deBruijn64tab") (d := Rows.laid_math_bits_deBruijn64tab) (by simp [laidL])
 rw [bruijn_eq] at rB
 obtain ⟨g3, t3, c3, f3, p3, hg3, ht3, hv3, hd3⟩ := rB
 obtain rfl := Option.some.inj (gBruijn.symm.trans hg3)
 obtain rfl := Option.some.inj (yBruijn.symm.trans ht3)
 have hcs := Lib.cells_of_tab Tryd.underlying125 Tryd.underlying5 (by kernel_rfl) (by kernel_rfl) hd3
 intro j hj
 have := World.var?_cell hg3 hv3 j
 rw [this, ← Array.getElem?_toList, hcs]
 have hl : Lib.deBruijn64tab.length = 64 := by rfl
 rw [List.getElem?_map, List.getElem?_map, List.getD_eq_getElem?_getD, List.getElem?_eq_getElem (by omega)]
 rfl
theorem agg_four8 {v a b c d : Value} (h : v.cells.toList = [a, b, c, d]) : v = .agg #[a, b, c, d] := by
 cases v <;> simp [Value.cells] at h
 rename_i cs
 obtain ⟨l⟩ := cs
 simp_all
end Go.Proofs.YtiinkhmgemoamaaDoor
