/- Lexers: what is read at the type of a table, and of a list of booleans, is one. -/
import Derived.Test.YtagbpkabfjnplaaDoorLxQ
import Derived.Test.YtagbpkabfjnplaaDoorRnO
import Derived.SizedLaws
namespace Go.Proofs.YtagbpkabfjnplaaDoor
open Go Go.RowKit Rn Lx
set_option maxRecDepth 100000

namespace Lx
theorem choose_row {α : Type} {C : Nat → α → Prop} : ∀ (len : Nat), (∀ i, i < len → ∃ x, C i x) → ∃ l : List α, l.length = len ∧ ∀ i x, l[i]? = some x → C i x
  | 0, _ => ⟨[], rfl, fun i x h => by simp at h⟩
  | len + 1, h => by
    obtain ⟨l, hl, hr⟩ := choose_row len fun i hi => h i (by omega)
    obtain ⟨y, hy⟩ := h len (by omega)
    refine ⟨l ++ [y], by simp [hl], fun i x hx => ?_⟩
    rw [List.getElem?_append] at hx
    split at hx
    · exact hr i x hx
    · next hge =>
      have h0 : i = len := by
        have := (List.getElem?_eq_some_iff.1 hx).1
        simp at this
        omega
      subst h0
      rw [hl, Nat.sub_self] at hx
      injection hx with hx
      subst hx
      exact hy
theorem weights_mem {H : Type} {P : Program} {e : TypeId} {x : Nat} {d : DataW H} : ∀ {l : List (DataW H)}, d ∈ l → x ∈ d.weights P e → x ∈ DataW.weightsAll P e l
  | [], h, _ => by simp at h
  | c :: l, h, hx => by
    simp only [DataW.weightsAll, List.mem_append]
    rcases List.mem_cons.1 h with rfl | h
    · exact Or.inl hx
    · exact Or.inr (weights_mem h hx)
section
variable {H : Type} {enc : TypeId × Value → H} {W : World}
/-- What is read as a list of one-celled elements. -/
theorem open_row {α : Type} {E : α → Value} {Pr : α → Prop} {t e : TypeId} {fuel : Nat} {v : Value} {d : DataW H} {p : List MemPlace} (ht : Tryd.prog.underlying t = some (.slice e)) (hc : Tryd.prog.cellsOf e = 1) (hby : 1 ≤ Tryd.prog.bytesOf e)
    (h : DataW.trod enc Tryd.prog W 0 (fun _ => true) true fuel t [v] = some (d, p)) (hw : ∀ x ∈ d.weights Tryd.prog t, x ≤ reachBytes)
    (hel : ∀ (m : Nat) (cs : List Value) (d' : DataW H) (p' : List MemPlace), DataW.trod enc Tryd.prog W 0 (fun _ => true) true m e cs = some (d', p') → (∀ x ∈ d'.weights Tryd.prog e, x ≤ reachBytes) → ∃ x : α, cs = [E x] ∧ Pr x) :
    ∃ (a : Option Addr) (l : List α) (c : Nat), v = .slice a l.length c ∧ l.length ≤ c ∧ l.length ≤ 140737488351232 ∧ (∀ i x, l[i]? = some x → ∃ b o, a = some ⟨b, o, none⟩ ∧ W.cell? ⟨b, o + i, none⟩ = some (E x)) ∧ ∀ x ∈ l, Pr x := by
  rcases DataW.trod_slice ht h with ⟨hv, _⟩ | ⟨a, len, cap, elems, rest, m, hm, hv, hx, _, hlc, _, hle, hcell, hrest, _⟩
  · simp only [List.cons.injEq, and_true] at hv
    exact ⟨none, [], 0, by simpa using hv, Nat.le_refl _, by simp, fun i r hr => by simp at hr, fun x hx => by simp at hx⟩
  · simp only [List.cons.injEq, and_true] at hv
    have hx1 : d = .slice (elems.map (·.1)) (rest.map (·.1)) := congrArg Prod.fst hx
    have hlw : len ≤ 140737488351232 := by
      have := hw ((elems.length + rest.length) * Tryd.prog.bytesOf e) (by rw [hx1]; simp [DataW.weights, ht])
      have := Nat.mul_le_mul_left (elems.length + rest.length) hby
      unfold reachBytes at *
      omega
    by_cases h0 : len = 0
    · subst h0
      exact ⟨some a, [], cap, by simpa using hv, by simp, by simp, fun i r hr => by simp at hr, fun x hx => by simp at hx⟩
    obtain ⟨b, o, rfl⟩ : ∃ b o, a = ⟨b, o, none⟩ := by
      have key := hcell 0 (by omega)
      rw [List.getElem?_eq_getElem (by omega)] at key
      obtain ⟨cs', h1, _⟩ := Option.bind_eq_some_iff.1 key
      rw [Nat.zero_mul] at h1
      exact cells_spotRn (a := a) (by simpa [Addr.add] using h1) (by rw [hc]; omega)
    obtain ⟨l, hl, hr⟩ := choose_row (C := fun i (x : α) => W.cell? ⟨b, o + i, none⟩ = some (E x) ∧ Pr x) len fun i hi => by
      have key := hcell i hi
      rw [List.getElem?_eq_getElem (by omega), hc, Nat.mul_one] at key
      obtain ⟨cs', h1, h2⟩ := Option.bind_eq_some_iff.1 key
      obtain ⟨_, hcc⟩ := cells_plainRn h1
      obtain ⟨x, rfl, hp⟩ := hel m cs' (elems[i]'(by omega)).1 (elems[i]'(by omega)).2 h2 fun x hx => hw x (by
        rw [hx1]
        simp only [DataW.weights, ht, List.mem_cons, List.mem_append]
        exact Or.inr (Or.inl (weights_mem (List.mem_map_of_mem (List.getElem_mem _)) hx)))
      exact ⟨x, hcc 0 (by omega), hp⟩
    subst hl
    exact ⟨some ⟨b, o, none⟩, l, cap, by simpa using hv, hlc, hlw, fun i x hx => ⟨b, o, rfl, (hr i x hx).1⟩, fun x hx => by
      obtain ⟨i, hi, rfl⟩ := List.getElem_of_mem hx
      exact (hr i _ (List.getElem?_eq_getElem hi)).2⟩
theorem open_zs {fuel : Nat} {v : Value} {d : DataW H} {p : List MemPlace} (h : DataW.trod enc Tryd.prog W 0 (fun _ => true) true fuel 23 [v] = some (d, p)) (hw : ∀ x ∈ d.weights Tryd.prog 23, x ≤ reachBytes) :
    ∃ l : List Int, ZV W v l ∧ l.length ≤ 140737488351232 ∧ (∀ x ∈ l, -9223372036854775808 ≤ x ∧ x ≤ 9223372036854775807) ∧ ∃ a c, v = .slice a l.length c := by
  obtain ⟨a, l, c, h1, h2, h3, h4, h5⟩ := open_row (E := Value.int .i64) (Pr := fun x => -9223372036854775808 ≤ x ∧ x ≤ 9223372036854775807) Tryd.underlying23 (by kernel_rfl) (by decide +kernel) h hw fun m cs d' p' ht _ => by
    obtain ⟨z, e, _, wz⟩ := DataW.trod_int (x := (d', p')) Tryd.underlying3 ht
    refine ⟨z, e, ?_⟩
    simp [Lit.wf] at wz
    exact (by first | exact wz | (have := wz; simp [IntKind.min, IntKind.max] at this; omega) | skip)
  exact ⟨l, ⟨a, c, h1, h2, h4⟩, h3, h5, a, c, h1⟩
theorem open_bs {fuel : Nat} {v : Value} {d : DataW H} {p : List MemPlace} (h : DataW.trod enc Tryd.prog W 0 (fun _ => true) true fuel 27 [v] = some (d, p)) (hw : ∀ x ∈ d.weights Tryd.prog 27, x ≤ reachBytes) :
    ∃ l : List Bool, BV W v l ∧ l.length ≤ 140737488351232 := by
  obtain ⟨a, l, c, h1, h2, h3, h4, _⟩ := open_row (E := Value.bool) (Pr := fun _ => True) Tryd.underlying27 (by kernel_rfl) (by decide +kernel) h hw fun m cs d' p' ht _ => by
    obtain ⟨z, e, _⟩ := DataW.trod_bool (x := (d', p')) Tryd.underlying4 ht
    exact ⟨z, e, trivial⟩
  exact ⟨l, ⟨a, c, h1, h2, h4⟩, h3⟩
theorem open_zzs {fuel : Nat} {v : Value} {d : DataW H} {p : List MemPlace} (h : DataW.trod enc Tryd.prog W 0 (fun _ => true) true fuel 24 [v] = some (d, p)) (hw : ∀ x ∈ d.weights Tryd.prog 24, x ≤ reachBytes) :
    ∃ ls : List (List Int), ZZV W v ls ∧ ls.length ≤ 140737488351232 ∧ ∀ l ∈ ls, l.length ≤ 140737488351232 := by
  obtain ⟨a, l, c, h1, h2, h3, h4, h5⟩ := open_row (E := fun q : List Int × Option Addr × Nat => Value.slice q.2.1 q.1.length q.2.2) (Pr := fun q => ZV W (.slice q.2.1 q.1.length q.2.2) q.1 ∧ q.1.length ≤ 140737488351232) Tryd.underlying24 (by kernel_rfl) (by decide +kernel) h hw fun m cs d' p' ht hw' => by
    obtain ⟨z, rfl⟩ : ∃ z, cs = [z] := by
      rcases DataW.trod_slice (x := (d', p')) Tryd.underlying23 ht with ⟨e, _⟩ | ⟨a, len, cap, _, _, _, _, e, _⟩
      · exact ⟨_, e⟩
      · exact ⟨_, e⟩
    obtain ⟨l, hz, hl, _, a, c, rfl⟩ := open_zs ht hw'
    exact ⟨(l, a, c), rfl, hz, hl⟩
  refine ⟨l.map (·.1), ⟨a, c, by rw [List.length_map]; exact h1, by rw [List.length_map]; exact h2, fun i k hk => ?_⟩, by rw [List.length_map]; exact h3, fun k hk => ?_⟩
  · rw [List.getElem?_map] at hk
    cases e : l[i]? with
    | none => rw [e] at hk; cases hk
    | some q =>
      rw [e] at hk
      injection hk with hk
      subst hk
      obtain ⟨b, o, h6, h7⟩ := h4 i q e
      exact ⟨b, o, q.2.1, q.2.2, h6, h7, (h5 q (List.mem_of_getElem? e)).1⟩
  · obtain ⟨q, hq, rfl⟩ := List.mem_map.1 hk
    exact (h5 q hq).2
theorem cells_tb : Tryd.prog.cellsOf 26 = 4 := by kernel_rfl
theorem cells_ints : Tryd.prog.cellsOf 23 = 1 := by kernel_rfl
theorem cells_intss : Tryd.prog.cellsOf 24 = 1 := by kernel_rfl
theorem four_of {α : Type} {l : List α} (h : l.length = 4) : ∃ a b c d, l = [a, b, c, d] := by
  match l, h with
  | [a, b, c, d], _ => exact ⟨a, b, c, d, rfl⟩
/-- What is read as a table. -/
theorem open_tb (fuel : Nat) (cs : List Value) (d : DataW H) (p : List MemPlace) (h : DataW.trod enc Tryd.prog W 0 (fun _ => true) true fuel 26 cs = some (d, p)) (hw : ∀ x ∈ d.weights Tryd.prog 26, x ≤ reachBytes) :
    ∃ (t : Tb) (rv cv nv ev : Value), cs = [rv, cv, nv, ev] ∧ TL W rv cv nv ev t ∧ Lg t ∧ I32 t.rs := by
  obtain ⟨xs, n, hn, hx, hl, hxl, hf⟩ := DataW.trod_struct Tryd.underlying26 h
  rw [cells_tb] at hl
  obtain ⟨c0, c1, c2, c3, rfl⟩ := four_of hl
  obtain ⟨y0, y1, y2, y3, rfl⟩ := four_of hxl
  have f0 := hf 0 _ rfl
  have f1 := hf 1 _ rfl
  have f2 := hf 2 _ rfl
  have f3 := hf 3 _ rfl
  simp [cells_rgs, cells_ints, cells_intss] at f0 f1 f2 f3
  simp only [Prod.mk.injEq] at hx
  obtain ⟨rfl, _⟩ := hx
  obtain ⟨rs, r1, r2, r3⟩ := open_rgs (d := y0.1) (p := y0.2) f0 fun x hx => hw x (by simp [DataW.weights, Tryd.underlying26, DataW.weightsEach, hx])
  obtain ⟨zs, z1, z2, _⟩ := open_zs (d := y1.1) (p := y1.2) f1 fun x hx => hw x (by simp [DataW.weights, Tryd.underlying26, DataW.weightsEach, hx])
  obtain ⟨ns, n1, n2, n3⟩ := open_zzs (d := y2.1) (p := y2.2) f2 fun x hx => hw x (by simp [DataW.weights, Tryd.underlying26, DataW.weightsEach, hx])
  obtain ⟨es, e1, e2, _⟩ := open_zs (d := y3.1) (p := y3.2) f3 fun x hx => hw x (by simp [DataW.weights, Tryd.underlying26, DataW.weightsEach, hx])
  exact ⟨⟨rs, zs, ns, es⟩, c0, c1, c2, c3, rfl, ⟨r1, z1, n1, e1⟩, ⟨r3, z2, n2, e2, n3⟩, r2⟩
theorem agg_four {v a b c d : Value} (h : v.cells.toList = [a, b, c, d]) : v = .agg #[a, b, c, d] := by
  cases v <;> simp [Value.cells] at h
  rename_i cs
  obtain ⟨l⟩ := cs
  simp at h
  rw [h]
end
end Lx
end Go.Proofs.YtagbpkabfjnplaaDoor
