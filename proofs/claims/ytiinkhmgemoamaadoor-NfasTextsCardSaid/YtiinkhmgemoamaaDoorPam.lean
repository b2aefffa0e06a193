/- The contracts of slices.Clone of rules, and of slices.Backward's function: a row of rules, from its end on. -/
import Derived.Test.YtiinkhmgemoamaaDoorPal
import Derived.Maps.AppendAt
import Derived.OwnWalk
import Derived.Deep.OwnRows
import Derived.Lib.BufferMore
namespace Go.Proofs.YtiinkhmgemoamaaDoor
open Go Go.RowKit Nu
set_option maxRecDepth 100000

theorem infoRule : (Tryd.prog.info? 38).map (fun i => (i.zero, i.size, i.bytes)) = some (some (.agg #[.string ⟨#[]⟩, .int .u8 0, .int .u8 0, .string ⟨#[]⟩, .string ⟨#[]⟩, .slice none 0 0, .slice none 0 0, .int .i64 0, .int .i64 0, .int .i64 0]), 10, 136) := by kernel_rfl
/-- The cells of rules. -/
def rowOf (w : World) (b o n : Nat) : List Value := (List.range n).map fun j => (w.cell? ⟨b, o + j, none⟩).getD undef
theorem rowOf_len (w : World) (b o n : Nat) : (rowOf w b o n).length = n := by simp [rowOf]
theorem row_some {w : World} {rs : List Nu.Rl} {b o : Nat} (h : RuL w rs (some ⟨b, o, none⟩)) (j : Nat) (hj : j < rs.length * 10) : ∃ v : Value, w.cell? ⟨b, o + j, none⟩ = some v ∧ v.oneCell' = true := by
 obtain ⟨r, hr⟩ : ∃ r, rs[j / 10]? = some r := ⟨_, List.getElem?_eq_getElem (by omega)⟩
 obtain ⟨b', o', he, v0, v1, v2, v3, v4, a0, a1, a2, a3, a4, a5, a6, a7, a8, a9, hA, _⟩ := h (j / 10) r hr
 injection he with he
 injection he with e1 e2
 subst e1
 subst e2
 obtain ⟨sa1, sc1, ba1, bc1, rfl, rfl, rfl, rfl, rfl⟩ := hA.five
 have hj2 : j = j / 10 * 10 + j % 10 := by omega
 have h10 : j % 10 < 10 := Nat.mod_lt _ (by omega)
 generalize j / 10 = q at *
 generalize j % 10 = m at *
 subst hj2
 rcases (show m = 0 ∨ m = 1 ∨ m = 2 ∨ m = 3 ∨ m = 4 ∨ m = 5 ∨ m = 6 ∨ m = 7 ∨ m = 8 ∨ m = 9 by omega) with rfl | rfl | rfl | rfl | rfl | rfl | rfl | rfl | rfl | rfl
 · exact ⟨_, by rw [← Nat.add_assoc]; exact a0, rfl⟩
 · exact ⟨_, by rw [← Nat.add_assoc]; exact a1, rfl⟩
 · exact ⟨_, by rw [← Nat.add_assoc]; exact a2, rfl⟩
 · exact ⟨_, by rw [← Nat.add_assoc]; exact a3, rfl⟩
 · exact ⟨_, by rw [← Nat.add_assoc]; exact a4, rfl⟩
 · exact ⟨_, by rw [← Nat.add_assoc]; exact a5, rfl⟩
 · exact ⟨_, by rw [← Nat.add_assoc]; exact a6, rfl⟩
 · exact ⟨_, by rw [← Nat.add_assoc]; exact a7, rfl⟩
 · exact ⟨_, by rw [← Nat.add_assoc]; exact a8, rfl⟩
 · exact ⟨_, by rw [← Nat.add_assoc]; exact a9, rfl⟩
theorem rowOf_get {w : World} {b o n j : Nat} {v : Value} (hj : j < n) (h : w.cell? ⟨b, o + j, none⟩ = some v) : (rowOf w b o n)[j]? = some v := by
 unfold rowOf
 rw [List.getElem?_map, List.getElem?_range hj]
 simp [h]
theorem RuL.nil (w : World) (a : Option Addr) : RuL w [] a := fun i r h => by simp at h
set_option maxHeartbeats 2000000 in
theorem Clone_any (w0 : World) (rs : List Nu.Rl) (ra : Option Addr) (rc : Nat) (w : World) (hR0 : RuL w0 rs ra) (hbw : Below w0.heap.size w0 w) (hpos : 0 < w.heap.size) (hrc : rs.length ≤ rc ∧ rs.length ≤ 1000) :
 Calls Tryd.prog 56 #[.slice ra rs.length rc] w fun e w' => (∃ ra' rc', e = .returned (.slice ra' rs.length rc') ∧ RowK w0 w' rs ra' ∧ rs.length ≤ rc') ∧ Below w.heap.size w w' := by
 have hR := hR0.below hbw
 cases ra with
 | none =>
  obtain rfl : rs = [] := by
   cases rs with
   | nil => rfl
   | cons r l => obtain ⟨b, o, he, _⟩ := hR 0 r rfl; cases he
  rw [show ([] : List Nu.Rl).length = 0 from rfl]
  have hnil : ∀ W, (binOp .eql 24 (.slice none 0 rc) (.slice none 0 0)).run Tryd.prog W = .ok (.bool true) W := fun W => Lib.run_eql_slice_nil_nil W _ _ Tryd.underlying24
  go_enter Tryd.func56, Tryd.ntmps56
  go_wp2_with fail
  go_ret
  exact ⟨⟨none, 0, rfl, .inl ⟨rfl, hpos⟩, Nat.le_refl _⟩, Below.refl _ _⟩
 | some ad =>
  obtain ⟨i0, hi, hz0, hz1, hz2⟩ := info_parts infoRule
  obtain ⟨xs, hxl, hxg, hx1, hx2⟩ : ∃ xs : List Value, xs.length = rs.length * 10 ∧ (∀ j u, xs[j]? = some u → w.cell? (ad.add j) = some u) ∧ (∀ u ∈ xs, u.oneCell' = true) ∧ (∀ cs : Array Value, (∀ j u, xs[j]? = some u → cs[j]? = some u) → RowC w0 rs cs) := by
   cases rs with
   | nil => exact ⟨[], rfl, fun j u h => by simp at h, fun u h => by simp at h, fun cs _ i r h => by simp at h⟩
   | cons r l =>
    obtain ⟨b, o, he, _⟩ := hR 0 r rfl
    injection he with he
    subst he
    refine ⟨rowOf w b o ((r :: l).length * 10), rowOf_len _ _ _ _, fun j u h => ?_, fun u h => ?_, fun cs hc i r' hr => ?_⟩
    · have hj : j < (r :: l).length * 10 := by have := (List.getElem?_eq_some_iff.1 h).1; rw [rowOf_len] at this; exact this
      obtain ⟨v, hv, _⟩ := row_some hR j hj
      rw [rowOf_get hj hv] at h
      injection h with h
      subst h
      rw [Go.WideShapes.add_plain]
      exact hv
    · obtain ⟨j, hj, rfl⟩ := List.getElem_of_mem h
      rw [rowOf_len] at hj
      obtain ⟨v, hv, h1⟩ := row_some hR j hj
      have := rowOf_get hj hv
      rw [List.getElem?_eq_getElem (by rw [rowOf_len]; exact hj)] at this
      injection this with this
      rw [this]; exact h1
    · have hi := (List.getElem?_eq_some_iff.1 hr).1
      obtain ⟨b', o', he, v0, v1, v2, v3, v4, a0, a1, a2, a3, a4, a5, a6, a7, a8, a9, hA, h1, h2⟩ := hR0 i r' hr
      injection he with he
      injection he with e1 e2
      subst e1
      subst e2
      have k := fun (m : Nat) (v : Value) (hm : m < 10) (hv : w0.cell? ⟨b, o + (i * 10 + m), none⟩ = some v) => hc (i * 10 + m) v (rowOf_get (by omega) (Nd.cell_keeps hbw hv))
      exact ⟨v0, v1, v2, v3, v4, k 0 _ (by omega) a0, k 1 _ (by omega) a1, k 2 _ (by omega) a2, k 3 _ (by omega) a3, k 4 _ (by omega) a4, k 5 _ (by omega) a5, k 6 _ (by omega) a6, k 7 _ (by omega) a7, k 8 _ (by omega) a8, k 9 _ (by omega) a9, hA, h1, h2⟩
  obtain ⟨RN, hRN⟩ : ∃ k, rs.length = k := ⟨_, rfl⟩
  rw [hRN] at hrc hxl ⊢
  have own0 : (w.alloc (.cells #[] 38)).ownsRow w.heap.size 38 10 (.slice (some ⟨w.heap.size, 0, none⟩) 0 0) 0 [] := by
   refine ⟨rfl, .inr ⟨w.heap.size, 0, #[], rfl, Nat.le_refl _, ?_, Nat.le_refl _, Nat.zero_le _, rfl, rfl⟩⟩
   show (w.heap.push _)[w.heap.size]? = _
   simp
  have hb0 : ∀ ob, Below w.heap.size w (w.alloc ob) := fun ob => (Below.refl _ w).alloc (Nat.le_refl _) ob
  have hxg2 : ∀ j u, xs[j]? = some u → (w.alloc (.cells #[] 38)).cell? (ad.add j) = some u := fun j u h => by
   have h0 := hxg j u h
   rw [(hb0 _).cell (World.block_lt_of_cell? _ _ h0)]
   exact h0
  have hnil2 : ∀ W, (binOp .eql 24 (.slice (some ad) RN rc) (.slice none 0 0)).run Tryd.prog W = .ok (.bool false) W := fun W => Lib.run_eql_slice_some_nil W _ _ _ Tryd.underlying24
  go_enter Tryd.func56, Tryd.ntmps56
  go_wp2_with (at_builtin; refine wpList_append_own _ rfl _ _ 24 rfl w.heap.size 38 i0 (.agg #[.string ⟨#[]⟩, .int .u8 0, .int .u8 0, .string ⟨#[]⟩, .string ⟨#[]⟩, .slice none 0 0, .slice none 0 0, .int .i64 0, .int .i64 0, .int .i64 0]) 10 136 Tryd.underlying24 hi hz0 hz1 hz2 rfl (by decide) _ 0 _ rfl own0 ad RN rc xs rfl hxl hxg2 hx1 (by unfold maxLen; omega) (by omega) (by simp) ?_; intro v' w2 hown hg hnil)
  go_ret
  have hB2 : Below w.heap.size w w2 := (hb0 _).grown hg (by simp) (fun k e => by cases e; exact Nat.le_refl _)
  rw [Nat.zero_add, List.nil_append] at hown
  rcases hown.2 with ⟨rfl, h0⟩ | ⟨g, cap, cur, rfl, hgb, hcur, hcap, _, _, htk⟩
  · subst h0
    obtain rfl : rs = [] := List.eq_nil_of_length_eq_zero hRN
    exact ⟨⟨none, 0, rfl, .inl ⟨rfl, Nat.lt_of_lt_of_le hpos hB2.size⟩, Nat.le_refl _⟩, hB2⟩
  · refine ⟨⟨some ⟨g, 0, none⟩, cap, rfl, .inr ⟨g, cur, rfl, Nat.le_trans hbw.size hgb, hcur, hx2 cur fun j u hj => ?_⟩, hcap⟩, hB2⟩
    rw [← htk, List.getElem?_take] at hj
    split at hj
    · simpa using hj
    · cases hj
end Go.Proofs.YtiinkhmgemoamaaDoor
