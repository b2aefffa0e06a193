/- What is read at the type of a grammar is one: the opening of a grammar that is handed in. -/
import Derived.Test.YthlfahghoinocaaNdo
import Derived.Test.YthlfahghoinocaaNuB
namespace Go.Proofs.Ythlfahghoinocaa
open Go Go.RowKit Nu

theorem four_cells {α : Type} {l : List α} (h : l.length = 4) : ∃ a b c d, l = [a, b, c, d] := by
  match l, h with
  | [a, b, c, d], _ => exact ⟨a, b, c, d, rfl⟩
theorem three_cells {α : Type} {l : List α} (h : l.length = 3) : ∃ a b c, l = [a, b, c] := by
  match l, h with
  | [a, b, c], _ => exact ⟨a, b, c, rfl⟩
theorem ten_cells {α : Type} {l : List α} (h : l.length = 10) : ∃ a b c d e f g i j k, l = [a, b, c, d, e, f, g, i, j, k] := by
  match l, h with
  | [a, b, c, d, e, f, g, i, j, k], _ => exact ⟨a, b, c, d, e, f, g, i, j, k, rfl⟩
theorem RuL_of {w : World} : ∀ (len b o : Nat), (∀ i, i < len → ∃ r : Nu.Rl, RuC w r b (o + i * 10)) → ∃ rs : List Nu.Rl, rs.length = len ∧ RuL w rs (some ⟨b, o, none⟩)
  | 0, _, _, _ => ⟨[], rfl, fun i r h => by simp at h⟩
  | len + 1, b, o, h => by
    obtain ⟨rs, hl, hr⟩ := RuL_of len b o fun i hi => h i (by omega)
    obtain ⟨r, hrc⟩ := h len (by omega)
    refine ⟨rs ++ [r], by simp [hl], fun i q hq => ?_⟩
    by_cases hi : i < rs.length
    · rw [List.getElem?_append_left hi] at hq
      exact hr i q hq
    · rw [List.getElem?_append_right (by omega)] at hq
      have h0 : i - rs.length = 0 := by
        rcases Nat.eq_zero_or_pos (i - rs.length) with h | h
        · exact h
        · rw [List.getElem?_eq_none (by simp; omega)] at hq; cases hq
      rw [h0] at hq
      injection hq with hq
      subst hq
      obtain rfl : i = len := by omega
      exact ⟨b, o, rfl, hrc⟩
section
variable {H : Type} {enc : TypeId × Value → H} {W : World}
theorem bytes_rule : 1 ≤ Try.prog.bytesOf 44 := by decide +kernel
theorem cells_sort : Try.prog.cellsOf 35 = 1 := by kernel_rfl
theorem cells_int : Try.prog.cellsOf 3 = 1 := by kernel_rfl
theorem cells_pos : Try.prog.cellsOf 42 = 3 := by kernel_rfl
theorem cells_opts : Try.prog.cellsOf 23 = 2 := by kernel_rfl
theorem cells_rule : Try.prog.cellsOf 44 = 10 := by kernel_rfl
theorem cells_rules : Try.prog.cellsOf 24 = 1 := by kernel_rfl
theorem cells_gram : Try.prog.cellsOf 26 = 4 := by kernel_rfl
/-- What is read as a rule is one. -/
theorem open_rule (fuel : Nat) (cs : List Value) (d : DataW H) (p : List MemPlace) (h : DataW.trod enc Try.prog W 0 (fun _ => true) true fuel 44 cs = some (d, p)) (hw : ∀ x ∈ d.weights Try.prog 44, x ≤ reachBytes) :
    ∃ (r : Nu.Rl) (v0 v1 v2 v3 v4 : Value), cs = [.string r.name, .int .u8 r.sort, v0, v1, v2, v3, v4, .int .i64 r.p0, .int .i64 r.p1, .int .i64 r.p2] ∧ Nd.At W r.body (.agg #[v0, v1, v2, v3, v4]) ∧ (0 ≤ r.sort ∧ r.sort < 256) ∧ r.name.size ≤ 140737488351232 := by
  obtain ⟨xs, n, hn, hx, hl, hxl, hf⟩ := DataW.trod_struct Try.underlying44 h
  rw [cells_rule] at hl
  obtain ⟨c0, c1, c2, c3, c4, c5, c6, c7, c8, c9, rfl⟩ := ten_cells hl
  obtain ⟨y0, y1, y2, y3, rfl⟩ := four_cells hxl
  have f0 := hf 0 _ rfl
  have f1 := hf 1 _ rfl
  have f2 := hf 2 _ rfl
  have f3 := hf 3 _ rfl
  simp [cells_sort, cells_str, cells_node, cells_pos] at f0 f1 f2 f3
  simp only [Prod.mk.injEq] at hx
  obtain ⟨rfl, _⟩ := hx
  obtain ⟨nm, e0, r0, _⟩ := DataW.trod_string (x := y0) Try.underlying9 f0
  obtain ⟨s, e1, _, ws⟩ := DataW.trod_int (x := y1) Try.underlying35 f1
  have hw0 : nm.size ≤ 140737488351232 := hw nm.size (by rw [r0]; simp [DataW.weights, Try.underlying44, DataW.weightsEach])
  obtain ⟨t, v0, v1, v2, v3, v4, e2, hA⟩ := open_node _ _ y2.1 y2.2 f2 fun x hx => hw x (by simp [DataW.weights, Try.underlying44, DataW.weightsEach, hx])
  obtain ⟨zs, m, _, _, hzl, hzz, hg⟩ := DataW.trod_struct Try.underlying42 f3
  obtain ⟨z0, z1, z2, rfl⟩ := three_cells hzz
  have g0 := hg 0 _ rfl
  have g1 := hg 1 _ rfl
  have g2 := hg 2 _ rfl
  simp [cells_int] at g0 g1 g2
  obtain ⟨p0, q0, _, _⟩ := DataW.trod_int (x := z0) Try.underlying3 g0
  obtain ⟨p1, q1, _, _⟩ := DataW.trod_int (x := z1) Try.underlying3 g1
  obtain ⟨p2, q2, _, _⟩ := DataW.trod_int (x := z2) Try.underlying3 g2
  simp only [List.cons.injEq, and_true] at e0 e1 e2 q0 q1 q2
  have hs := bounds_u8 ws
  obtain ⟨rfl, rfl, rfl, rfl, rfl⟩ := e2
  subst e0
  subst e1
  subst q0
  subst q1
  subst q2
  exact ⟨⟨nm, s, t, p0, p1, p2⟩, _, _, _, _, _, rfl, hA, (show 0 ≤ s ∧ s < 256 by omega), hw0⟩
/-- What is read as rules. -/
theorem open_rules {fuel : Nat} {v : Value} {d : DataW H} {p : List MemPlace} (h : DataW.trod enc Try.prog W 0 (fun _ => true) true fuel 24 [v] = some (d, p)) (hw : ∀ x ∈ d.weights Try.prog 24, x ≤ reachBytes) :
    ∃ (a : Option Addr) (rs : List Nu.Rl) (c : Nat), v = .slice a rs.length c ∧ (rs.length ≤ c ∧ rs.length ≤ 140737488351232) ∧ RuL W rs a := by
  rcases DataW.trod_slice Try.underlying24 h with ⟨hv, _⟩ | ⟨a, len, cap, elems, rest, m, hm, hv, hx, _, hlc, _, hel, hcell, hrest, _⟩
  · simp only [List.cons.injEq, and_true] at hv
    exact ⟨none, [], 0, by simpa using hv, ⟨Nat.le_refl _, by simp⟩, fun i r hr => by simp at hr⟩
  · simp only [List.cons.injEq, and_true] at hv
    have hx1 : d = .slice (elems.map (·.1)) (rest.map (·.1)) := congrArg Prod.fst hx
    have hlw : len ≤ 140737488351232 := by
      have := hw ((elems.length + rest.length) * Try.prog.bytesOf 44) (by rw [hx1]; simp [DataW.weights, Try.underlying24])
      have := Nat.mul_le_mul_left (elems.length + rest.length) bytes_rule
      unfold reachBytes at *
      omega
    by_cases h0 : len = 0
    · subst h0
      exact ⟨some a, [], cap, by simpa using hv, ⟨by simp, by simp⟩, fun i r hr => by simp at hr⟩
    obtain ⟨b, o, rfl⟩ : ∃ b o, a = ⟨b, o, none⟩ := by
      have key := hcell 0 (by omega)
      rw [List.getElem?_eq_getElem (by omega)] at key
      obtain ⟨cs', h1, _⟩ := Option.bind_eq_some_iff.1 key
      rw [Nat.zero_mul] at h1
      exact cells_spot (a := a) (by simpa [Addr.add] using h1) (by rw [cells_rule]; omega)
    obtain ⟨rs, hl, hr⟩ := RuL_of (w := W) len b o fun i hi => by
      have key := hcell i hi
      rw [List.getElem?_eq_getElem (by omega), cells_rule] at key
      obtain ⟨cs', h1, h2⟩ := Option.bind_eq_some_iff.1 key
      obtain ⟨_, hc⟩ := cells_plain h1
      obtain ⟨r, u0, u1, u2, u3, u4, rfl, hA, hs, hn⟩ := open_rule m cs' (elems[i]'(by omega)).1 (elems[i]'(by omega)).2 h2 fun x hx => hw x (by
        rw [hx1]
        simp only [DataW.weights, Try.underlying24, List.mem_cons, List.mem_append]
        exact Or.inr (Or.inl (weightsAll_mem (List.mem_map_of_mem (List.getElem_mem _)) hx)))
      exact ⟨r, u0, u1, u2, u3, u4, hc 0 (by omega), hc 1 (by omega), hc 2 (by omega), hc 3 (by omega), hc 4 (by omega), hc 5 (by omega), hc 6 (by omega), hc 7 (by omega), hc 8 (by omega), hc 9 (by omega), hA, hs, hn⟩
    subst hl
    exact ⟨some ⟨b, o, none⟩, rs, cap, by simpa using hv, ⟨hlc, hlw⟩, hr⟩
/-- What is read as a grammar is one. -/
theorem open_gram (fuel : Nat) (cs : List Value) (d : DataW H) (p : List MemPlace) (h : DataW.trod enc Try.prog W 0 (fun _ => true) true fuel 26 cs = some (d, p)) (hw : ∀ x ∈ d.weights Try.prog 26, x ≤ reachBytes) :
    ∃ (nm : ByteArray) (o1 o2 : Int) (rs : List Nu.Rl) (ra : Option Addr) (rc : Nat), cs = [.string nm, .int .i64 o1, .int .i64 o2, .slice ra rs.length rc] ∧ GrV W nm o1 o2 rs (.agg #[.string nm, .int .i64 o1, .int .i64 o2, .slice ra rs.length rc]) := by
  obtain ⟨xs, n, hn, hx, hl, hxl, hf⟩ := DataW.trod_struct Try.underlying26 h
  rw [cells_gram] at hl
  obtain ⟨c0, c1, c2, c3, rfl⟩ := four_cells hl
  obtain ⟨y0, y1, y2, rfl⟩ := three_cells hxl
  have f0 := hf 0 _ rfl
  have f1 := hf 1 _ rfl
  have f2 := hf 2 _ rfl
  simp [cells_str, cells_opts, cells_rules] at f0 f1 f2
  simp only [Prod.mk.injEq] at hx
  obtain ⟨rfl, _⟩ := hx
  obtain ⟨nm, e0, r0, _⟩ := DataW.trod_string (x := y0) Try.underlying9 f0
  have hw0 : nm.size ≤ 140737488351232 := hw nm.size (by rw [r0]; simp [DataW.weights, Try.underlying26, DataW.weightsEach])
  obtain ⟨zs, m, _, _, _, hzz, hg⟩ := DataW.trod_struct Try.underlying23 f1
  obtain ⟨z0, z1, rfl⟩ := two_cells hzz
  have g0 := hg 0 _ rfl
  have g1 := hg 1 _ rfl
  simp [cells_int] at g0 g1
  obtain ⟨o1, q0, _, _⟩ := DataW.trod_int (x := z0) Try.underlying3 g0
  obtain ⟨o2, q1, _, _⟩ := DataW.trod_int (x := z1) Try.underlying3 g1
  obtain ⟨ra, rs, rc, e2, hl2, hR⟩ := open_rules (d := y2.1) (p := y2.2) f2 fun x hx => hw x (by simp [DataW.weights, Try.underlying26, DataW.weightsEach, hx])
  simp only [List.cons.injEq, and_true] at e0 q0 q1
  subst e0
  subst q0
  subst q1
  subst e2
  exact ⟨nm, o1, o2, rs, ra, rc, rfl, ra, rc, rfl, hw0, hl2, hR⟩
end
end Go.Proofs.Ythlfahghoinocaa
