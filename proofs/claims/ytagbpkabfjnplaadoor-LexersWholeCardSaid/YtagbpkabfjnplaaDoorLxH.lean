/- Lexers: the contracts of slices.Clone of numbers, booleans and ranges: rows in new memory. -/
import Derived.Test.YtagbpkabfjnplaaDoorLxF
import Derived.Maps.AppendAt
import Derived.OwnWalk
import Derived.Deep.OwnRows
import Derived.Lib.BufferMore
namespace Go.Proofs.YtagbpkabfjnplaaDoor
open Go Go.RowKit Rn Lx
set_option maxRecDepth 100000

namespace Lx
theorem infoOf {P : Program} {t : TypeId} {z : Value} {s b : Nat} (h : (P.info? t).map (fun i => (i.zero, i.size, i.bytes)) = some (some z, s, b)) : ∃ i, P.info? t = some i ∧ i.zero = some z ∧ i.size = s ∧ i.bytes = b := by
  cases e : P.info? t with
  | none => rw [e] at h; cases h
  | some i =>
    rw [e] at h
    simp only [Option.map_some, Option.some.injEq, Prod.mk.injEq] at h
    exact ⟨i, rfl, h.1, h.2.1, h.2.2⟩
/-- v is a row of new memory, from B on, that begins with the cells xs. -/
def OwnV (w : World) (t : TypeId) (B : Nat) (v : Value) (n : Nat) (xs : List Value) : Prop :=
  (v = .slice none 0 0 ∧ n = 0 ∧ xs = []) ∨ ∃ g cap cur, v = .slice (some ⟨g, 0, none⟩) n cap ∧ B ≤ g ∧ Bk w g t cur ∧ n ≤ cap ∧ ∀ (j : Nat) (u : Value), xs[j]? = some u → cur[j]? = some u
theorem OwnV.below {w w' : World} {t : TypeId} {B n : Nat} {v : Value} {xs : List Value} (h : OwnV w t B v n xs) (hb : Below w.heap.size w w') : OwnV w' t B v n xs := by
  rcases h with h | ⟨g, cap, cur, h1, h2, h3, h4⟩
  · exact .inl h
  · exact .inr ⟨g, cap, cur, h1, h2, h3.below hb h3.lt, h4⟩
theorem OwnV.mono {w : World} {t : TypeId} {B C n : Nat} {v : Value} {xs : List Value} (h : OwnV w t B v n xs) (hC : C ≤ B) : OwnV w t C v n xs := by
  rcases h with h | ⟨g, cap, cur, h1, h2, h3, h4⟩
  · exact .inl h
  · exact .inr ⟨g, cap, cur, h1, by omega, h3, h4⟩
/-- All blocks but those of another type, or below B, may change. -/
theorem OwnV.kept {w w' : World} {t : TypeId} {B n : Nat} {v : Value} {xs : List Value} (h : OwnV w t B v n xs) (hk : ∀ g cur, B ≤ g → Bk w g t cur → Bk w' g t cur) : OwnV w' t B v n xs := by
  rcases h with h | ⟨g, cap, cur, h1, h2, h3, h4⟩
  · exact .inl h
  · exact .inr ⟨g, cap, cur, h1, h2, hk g cur h2 h3, h4⟩
theorem OwnV.cells {w : World} {t : TypeId} {B n : Nat} {v : Value} {xs : List Value} (h : OwnV w t B v n xs) : ∃ a c, v = .slice a n c ∧ n ≤ c ∧ ∀ j u, xs[j]? = some u → ∃ g, a = some ⟨g, 0, none⟩ ∧ w.cell? ⟨g, 0 + j, none⟩ = some u := by
  rcases h with ⟨rfl, rfl, rfl⟩ | ⟨g, cap, cur, rfl, h2, h3, h4, h5⟩
  · exact ⟨none, 0, rfl, Nat.le_refl _, fun j u h => by simp at h⟩
  · exact ⟨_, cap, rfl, h4, fun j u hj => ⟨g, rfl, by rw [h3.cell, Nat.zero_add]; exact h5 j u hj⟩⟩
theorem OwnV.zv {w : World} {t : TypeId} {B : Nat} {v : Value} {l : List Int} (h : OwnV w t B v l.length (l.map (Value.int .i64))) : ZV w v l := by
  obtain ⟨a, c, h1, h2, h3⟩ := h.cells
  refine ⟨a, c, h1, h2, fun i x hx => ?_⟩
  obtain ⟨g, e, h4⟩ := h3 i (.int .i64 x) (by rw [List.getElem?_map, hx]; rfl)
  exact ⟨g, 0, e, h4⟩
theorem OwnV.bv {w : World} {t : TypeId} {B : Nat} {v : Value} {l : List Bool} (h : OwnV w t B v l.length (l.map Value.bool)) : BV w v l := by
  obtain ⟨a, c, h1, h2, h3⟩ := h.cells
  refine ⟨a, c, h1, h2, fun i x hx => ?_⟩
  obtain ⟨g, e, h4⟩ := h3 i (.bool x) (by rw [List.getElem?_map, hx]; rfl)
  exact ⟨g, 0, e, h4⟩
theorem OwnV.rl {w : World} {t : TypeId} {B : Nat} {v : Value} {l : List (Int × Int)} (h : OwnV w t B v l.length (rgV l)) : RL w v l := by
  rcases h with ⟨rfl, h0, _⟩ | ⟨g, cap, cur, rfl, h2, h3, h4, h5⟩
  · obtain rfl : l = [] := List.eq_nil_of_length_eq_zero h0
    exact RL.nil w
  · refine ⟨_, cap, rfl, h4, RgAt_row l 0 fun i p hp => ?_⟩
    obtain ⟨x, y⟩ := rgV_get l i p hp
    rw [h3.cell, h3.cell, Nat.zero_add]
    exact ⟨h5 _ _ x, h5 _ _ y⟩
theorem infoIntL : (Tryd.prog.info? 3).map (fun i => (i.zero, i.size, i.bytes)) = some (some (.int .i64 0), 1, 8) := by kernel_rfl
theorem infoRangeL : (Tryd.prog.info? 63).map (fun i => (i.zero, i.size, i.bytes)) = some (some (.agg #[.int .i32 0, .int .i32 0]), 2, 8) := by kernel_rfl
theorem map_at {α : Type} {f : α → Value} {l : List α} {j : Nat} {u : Value} (h : (l.map f)[j]? = some u) : ∃ x, l[j]? = some x ∧ u = f x := by
  rw [List.getElem?_map] at h
  cases e : l[j]? with
  | none => rw [e] at h; cases h
  | some x => rw [e] at h; injection h with h; exact ⟨x, rfl, h.symm⟩
theorem rgV_at {l : List (Int × Int)} {j : Nat} {u : Value} (h : (rgV l)[j]? = some u) : ∃ i p, l[i]? = some p ∧ ((j = i * 2 ∧ u = .int .i32 p.1) ∨ (j = i * 2 + 1 ∧ u = .int .i32 p.2)) := by
  have hj := (List.getElem?_eq_some_iff.1 h).1
  rw [rgV_len] at hj
  obtain ⟨p, hp⟩ : ∃ p, l[j / 2]? = some p := ⟨_, List.getElem?_eq_getElem (by omega)⟩
  obtain ⟨a, b⟩ := rgV_get l (j / 2) p hp
  refine ⟨j / 2, p, hp, ?_⟩
  rcases (show j = j / 2 * 2 ∨ j = j / 2 * 2 + 1 by omega) with e | e
  · rw [← e, h] at a; injection a with a; exact .inl ⟨e, a⟩
  · rw [← e, h] at b; injection b with b; exact .inr ⟨e, b⟩
end Lx
set_option maxHeartbeats 2000000 in
theorem CloneI_any (l : List Int) (v : Value) (w : World) (hv : ZV w v l) (hl : l.length ≤ 1000000) :
    Calls Tryd.prog 50 #[v] w fun e w' => (∃ a' c', e = .returned (.slice a' l.length c') ∧ OwnV w' 3 w.heap.size (.slice a' l.length c') l.length (l.map (Value.int .i64))) ∧ Below w.heap.size w w' := by
  obtain ⟨a, c, rfl, hlc, hc⟩ := hv
  cases a with
  | none =>
    obtain rfl : l = [] := by
      cases l with
      | nil => rfl
      | cons x l => obtain ⟨b, o, he, _⟩ := hc 0 x rfl; cases he
    rw [show ([] : List Int).length = 0 from rfl]
    have hnil : ∀ W, (binOp .eql 23 (.slice none 0 c) (.slice none 0 0)).run Tryd.prog W = .ok (.bool true) W := fun W => Lib.run_eql_slice_nil_nil W _ _ Tryd.underlying23
    clear hc
    go_enter Tryd.func50, Tryd.ntmps50
    go_wp2_with fail
    go_ret
    exact ⟨⟨none, 0, rfl, .inl ⟨rfl, rfl, rfl⟩⟩, Below.refl _ _⟩
  | some ad =>
    obtain ⟨i0, hi, hz0, hz1, hz2⟩ := infoOf infoIntL
    have hxl : (l.map (Value.int .i64)).length = l.length * 1 := by simp
    have hxg : ∀ j u, (l.map (Value.int .i64))[j]? = some u → w.cell? (ad.add j) = some u := fun j u h => by
      obtain ⟨x, hx, rfl⟩ := map_at h
      obtain ⟨b, o, he, h2⟩ := hc j x hx
      injection he with he
      subst he
      rw [Go.WideShapes.add_plain]
      exact h2
    have hx1 : ∀ u ∈ l.map (Value.int .i64), u.oneCell' = true := fun u h => by
      obtain ⟨x, _, rfl⟩ := List.mem_map.1 h
      rfl
    obtain ⟨RN, hRN⟩ : ∃ k, l.length = k := ⟨_, rfl⟩
    obtain ⟨xs, hxs⟩ : ∃ xs, l.map (Value.int .i64) = xs := ⟨_, rfl⟩
    have HXS := Lib.hid hxs
    have HRN := Lib.hid hRN
    rw [hxs] at hxl hxg hx1
    rw [hRN] at hxl hl hlc ⊢
    have own0 : (w.alloc (.cells #[] 3)).ownsRow w.heap.size 3 1 (.slice (some ⟨w.heap.size, 0, none⟩) 0 0) 0 [] := by
      refine ⟨rfl, .inr ⟨w.heap.size, 0, #[], rfl, Nat.le_refl _, ?_, Nat.le_refl _, Nat.zero_le _, rfl, rfl⟩⟩
      show (w.heap.push _)[w.heap.size]? = _
      simp
    have hb0 : ∀ ob, Below w.heap.size w (w.alloc ob) := fun ob => (Below.refl _ w).alloc (Nat.le_refl _) ob
    have hxg2 : ∀ j u, xs[j]? = some u → (w.alloc (.cells #[] 3)).cell? (ad.add j) = some u := fun j u h => by
      have h0 := hxg j u h
      rw [(hb0 _).cell (World.block_lt_of_cell? _ _ h0)]
      exact h0
    have hnil2 : ∀ W, (binOp .eql 23 (.slice (some ad) RN c) (.slice none 0 0)).run Tryd.prog W = .ok (.bool false) W := fun W => Lib.run_eql_slice_some_nil W _ _ _ Tryd.underlying23
    clear hc hxs hRN hxg
    go_enter Tryd.func50, Tryd.ntmps50
    go_wp2_with (at_builtin; refine wpList_append_own _ rfl _ _ 23 rfl w.heap.size 3 i0 (.int .i64 0) 1 8 Tryd.underlying23 hi hz0 hz1 hz2 rfl (by decide) _ 0 _ rfl own0 ad RN c xs rfl hxl hxg2 hx1 (by unfold maxLen; omega) (by omega) (by simp) ?_; intro v' w2 hown hg hnil)
    go_ret
    have hB2 : Below w.heap.size w w2 := (hb0 _).grown hg (by simp) (fun k e => by cases e; exact Nat.le_refl _)
    rw [Nat.zero_add, List.nil_append] at hown
    rcases hown.2 with ⟨rfl, h0⟩ | ⟨g, cap, cur, rfl, hgb, hcur, hcap, _, hsz, htk⟩
    · subst h0
      obtain rfl : l = [] := List.eq_nil_of_length_eq_zero HRN.out
      exact ⟨⟨none, 0, rfl, .inl ⟨rfl, rfl, rfl⟩⟩, hB2⟩
    · refine ⟨⟨some ⟨g, 0, none⟩, cap, rfl, .inr ⟨g, cap, cur, rfl, hgb, hcur, hcap, ?_⟩⟩, hB2⟩
      rw [HXS.out]
      intro j u hj
      rw [← htk, List.getElem?_take] at hj
      split at hj
      · simpa using hj
      · cases hj
set_option maxHeartbeats 2000000 in
theorem CloneB_any (l : List Bool) (v : Value) (w : World) (hv : BV w v l) (hl : l.length ≤ 1000000) :
    Calls Tryd.prog 28 #[v] w fun e w' => (∃ a' c', e = .returned (.slice a' l.length c') ∧ OwnV w' 4 w.heap.size (.slice a' l.length c') l.length (l.map Value.bool)) ∧ Below w.heap.size w w' := by
  obtain ⟨a, c, rfl, hlc, hc⟩ := hv
  cases a with
  | none =>
    obtain rfl : l = [] := by
      cases l with
      | nil => rfl
      | cons x l => obtain ⟨b, o, he, _⟩ := hc 0 x rfl; cases he
    rw [show ([] : List Bool).length = 0 from rfl]
    have hnil : ∀ W, (binOp .eql 27 (.slice none 0 c) (.slice none 0 0)).run Tryd.prog W = .ok (.bool true) W := fun W => Lib.run_eql_slice_nil_nil W _ _ Tryd.underlying27
    clear hc
    go_enter Tryd.func28, Tryd.ntmps28
    go_wp2_with fail
    go_ret
    exact ⟨⟨none, 0, rfl, .inl ⟨rfl, rfl, rfl⟩⟩, Below.refl _ _⟩
  | some ad =>
    obtain ⟨i0, hi, hz0, hz1, hz2⟩ := infoOf infoBo
    have hxl : (l.map Value.bool).length = l.length * 1 := by simp
    have hxg : ∀ j u, (l.map Value.bool)[j]? = some u → w.cell? (ad.add j) = some u := fun j u h => by
      obtain ⟨x, hx, rfl⟩ := map_at h
      obtain ⟨b, o, he, h2⟩ := hc j x hx
      injection he with he
      subst he
      rw [Go.WideShapes.add_plain]
      exact h2
    have hx1 : ∀ u ∈ l.map Value.bool, u.oneCell' = true := fun u h => by
      obtain ⟨x, _, rfl⟩ := List.mem_map.1 h
      rfl
    obtain ⟨RN, hRN⟩ : ∃ k, l.length = k := ⟨_, rfl⟩
    obtain ⟨xs, hxs⟩ : ∃ xs, l.map Value.bool = xs := ⟨_, rfl⟩
    have HXS := Lib.hid hxs
    have HRN := Lib.hid hRN
    rw [hxs] at hxl hxg hx1
    rw [hRN] at hxl hl hlc ⊢
    have own0 : (w.alloc (.cells #[] 4)).ownsRow w.heap.size 4 1 (.slice (some ⟨w.heap.size, 0, none⟩) 0 0) 0 [] := by
      refine ⟨rfl, .inr ⟨w.heap.size, 0, #[], rfl, Nat.le_refl _, ?_, Nat.le_refl _, Nat.zero_le _, rfl, rfl⟩⟩
      show (w.heap.push _)[w.heap.size]? = _
      simp
    have hb0 : ∀ ob, Below w.heap.size w (w.alloc ob) := fun ob => (Below.refl _ w).alloc (Nat.le_refl _) ob
    have hxg2 : ∀ j u, xs[j]? = some u → (w.alloc (.cells #[] 4)).cell? (ad.add j) = some u := fun j u h => by
      have h0 := hxg j u h
      rw [(hb0 _).cell (World.block_lt_of_cell? _ _ h0)]
      exact h0
    have hnil2 : ∀ W, (binOp .eql 27 (.slice (some ad) RN c) (.slice none 0 0)).run Tryd.prog W = .ok (.bool false) W := fun W => Lib.run_eql_slice_some_nil W _ _ _ Tryd.underlying27
    clear hc hxs hRN hxg
    go_enter Tryd.func28, Tryd.ntmps28
    go_wp2_with (at_builtin; refine wpList_append_own _ rfl _ _ 27 rfl w.heap.size 4 i0 (.bool false) 1 1 Tryd.underlying27 hi hz0 hz1 hz2 rfl (by decide) _ 0 _ rfl own0 ad RN c xs rfl hxl hxg2 hx1 (by unfold maxLen; omega) (by omega) (by simp) ?_; intro v' w2 hown hg hnil)
    go_ret
    have hB2 : Below w.heap.size w w2 := (hb0 _).grown hg (by simp) (fun k e => by cases e; exact Nat.le_refl _)
    rw [Nat.zero_add, List.nil_append] at hown
    rcases hown.2 with ⟨rfl, h0⟩ | ⟨g, cap, cur, rfl, hgb, hcur, hcap, _, hsz, htk⟩
    · subst h0
      obtain rfl : l = [] := List.eq_nil_of_length_eq_zero HRN.out
      exact ⟨⟨none, 0, rfl, .inl ⟨rfl, rfl, rfl⟩⟩, hB2⟩
    · refine ⟨⟨some ⟨g, 0, none⟩, cap, rfl, .inr ⟨g, cap, cur, rfl, hgb, hcur, hcap, ?_⟩⟩, hB2⟩
      rw [HXS.out]
      intro j u hj
      rw [← htk, List.getElem?_take] at hj
      split at hj
      · simpa using hj
      · cases hj
set_option maxHeartbeats 2000000 in
theorem CloneR_any (l : List (Int × Int)) (v : Value) (w : World) (hv : RL w v l) (hl : l.length ≤ 1000000) :
    Calls Tryd.prog 49 #[v] w fun e w' => (∃ a' c', e = .returned (.slice a' l.length c') ∧ OwnV w' 63 w.heap.size (.slice a' l.length c') l.length (rgV l)) ∧ Below w.heap.size w w' := by
  obtain ⟨a, c, rfl, hlc, hc⟩ := hv
  cases a with
  | none =>
    obtain rfl : l = [] := by
      cases l with
      | nil => rfl
      | cons x l => obtain ⟨g, o, he, _⟩ := Nd.RgAt.get hc 0 x rfl; cases he
    rw [show ([] : List (Int × Int)).length = 0 from rfl]
    have hnil : ∀ W, (binOp .eql 22 (.slice none 0 c) (.slice none 0 0)).run Tryd.prog W = .ok (.bool true) W := fun W => Lib.run_eql_slice_nil_nil W _ _ Tryd.underlying22
    clear hc
    go_enter Tryd.func49, Tryd.ntmps49
    go_wp2_with fail
    go_ret
    exact ⟨⟨none, 0, rfl, .inl ⟨rfl, rfl, rfl⟩⟩, Below.refl _ _⟩
  | some ad =>
    obtain ⟨i0, hi, hz0, hz1, hz2⟩ := infoOf infoRangeL
    have hxl : (rgV l).length = l.length * 2 := by exact rgV_len l
    have hxg : ∀ j u, (rgV l)[j]? = some u → w.cell? (ad.add j) = some u := fun j u h => by
      obtain ⟨i, p, hp, hj⟩ := rgV_at h
      obtain ⟨g, o, he, h1, h2⟩ := Nd.RgAt.get hc i p hp
      injection he with he
      subst he
      rw [Go.WideShapes.add_plain]
      rcases hj with ⟨rfl, rfl⟩ | ⟨rfl, rfl⟩
      · exact h1
      · exact h2
    have hx1 : ∀ u ∈ rgV l, u.oneCell' = true := fun u h => by
      obtain ⟨j, hj, rfl⟩ := List.getElem_of_mem h
      obtain ⟨i, p, _, h2⟩ := rgV_at (List.getElem?_eq_getElem hj)
      rcases h2 with ⟨_, e⟩ | ⟨_, e⟩ <;> rw [e] <;> rfl
    obtain ⟨RN, hRN⟩ : ∃ k, l.length = k := ⟨_, rfl⟩
    obtain ⟨xs, hxs⟩ : ∃ xs, rgV l = xs := ⟨_, rfl⟩
    have HXS := Lib.hid hxs
    have HRN := Lib.hid hRN
    rw [hxs] at hxl hxg hx1
    rw [hRN] at hxl hl hlc ⊢
    have own0 : (w.alloc (.cells #[] 63)).ownsRow w.heap.size 63 2 (.slice (some ⟨w.heap.size, 0, none⟩) 0 0) 0 [] := by
      refine ⟨rfl, .inr ⟨w.heap.size, 0, #[], rfl, Nat.le_refl _, ?_, Nat.le_refl _, Nat.zero_le _, rfl, rfl⟩⟩
      show (w.heap.push _)[w.heap.size]? = _
      simp
    have hb0 : ∀ ob, Below w.heap.size w (w.alloc ob) := fun ob => (Below.refl _ w).alloc (Nat.le_refl _) ob
    have hxg2 : ∀ j u, xs[j]? = some u → (w.alloc (.cells #[] 63)).cell? (ad.add j) = some u := fun j u h => by
      have h0 := hxg j u h
      rw [(hb0 _).cell (World.block_lt_of_cell? _ _ h0)]
      exact h0
    have hnil2 : ∀ W, (binOp .eql 22 (.slice (some ad) RN c) (.slice none 0 0)).run Tryd.prog W = .ok (.bool false) W := fun W => Lib.run_eql_slice_some_nil W _ _ _ Tryd.underlying22
    clear hc hxs hRN hxg
    go_enter Tryd.func49, Tryd.ntmps49
    go_wp2_with (at_builtin; refine wpList_append_own _ rfl _ _ 22 rfl w.heap.size 63 i0 (.agg #[.int .i32 0, .int .i32 0]) 2 8 Tryd.underlying22 hi hz0 hz1 hz2 rfl (by decide) _ 0 _ rfl own0 ad RN c xs rfl hxl hxg2 hx1 (by unfold maxLen; omega) (by omega) (by simp) ?_; intro v' w2 hown hg hnil)
    go_ret
    have hB2 : Below w.heap.size w w2 := (hb0 _).grown hg (by simp) (fun k e => by cases e; exact Nat.le_refl _)
    rw [Nat.zero_add, List.nil_append] at hown
    rcases hown.2 with ⟨rfl, h0⟩ | ⟨g, cap, cur, rfl, hgb, hcur, hcap, _, hsz, htk⟩
    · subst h0
      obtain rfl : l = [] := List.eq_nil_of_length_eq_zero HRN.out
      exact ⟨⟨none, 0, rfl, .inl ⟨rfl, rfl, rfl⟩⟩, hB2⟩
    · refine ⟨⟨some ⟨g, 0, none⟩, cap, rfl, .inr ⟨g, cap, cur, rfl, hgb, hcur, hcap, ?_⟩⟩, hB2⟩
      rw [HXS.out]
      intro j u hj
      rw [← htk, List.getElem?_take] at hj
      split at hj
      · simpa using hj
      · cases hj
end Go.Proofs.YtagbpkabfjnplaaDoor
