/- Contracts of SameSet and like, where the two are the same. -/
import Derived.Test.YtokpknjmcegkaaaDoorScP
namespace Go.Proofs.YtokpknjmcegkaaaDoor
open Go Go.RowKit Ru
set_option maxRecDepth 100000

/-- v reads as the ranges st. -/
def ReadSet (w : World) (v : Value) (st : List (Nat × Nat)) : Prop := ∃ a cap, v = .slice a st.length cap ∧
  ∀ i p, st[i]? = some p → ∃ g o, a = some ⟨g, o, none⟩ ∧ w.cell? ⟨g, o + i * 2, none⟩ = some (.int .i32 p.1) ∧ w.cell? ⟨g, o + i * 2 + 1, none⟩ = some (.int .i32 p.2)
set_option maxHeartbeats 1000000 in
theorem SameSet_yes (st : List (Nat × Nat)) (u v : Value) (w : World) (hst : st.length ≤ 1000000) (hu : ReadSet w u st) (hv : ReadSet w v st) :
    Calls Tryd.prog 15 #[u, v] w fun e w' => e = .returned (.bool true) ∧ ∃ n, w' = w.drewN n := by
  obtain ⟨a, c, rfl, ha3⟩ := hu
  obtain ⟨b, d, rfl, hb3⟩ := hv
  obtain ⟨N, hN⟩ : ∃ N, st.length = N := ⟨_, rfl⟩
  have HN := Lib.hid hN
  rw [hN] at hst ⊢
  have HA := Lib.hid ha3
  have HB := Lib.hid hb3
  have n1 : (N : Int) ≤ 9223372036854775807 := by omega
  clear hN ha3 hb3
  go_enter Tryd.func15, Tryd.ntmps15
  go_wp2_with fail
  go_loopw [5] (fun i wr => ∃ k n : Nat, k ≤ N ∧ i = .int .i64 k ∧ wr = w.drewN n) (fun i _ => N - (intOf i).toNat)
  case atStart => exact ⟨0, 0, Nat.zero_le _, rfl, rfl⟩
  case round =>
    obtain ⟨k, n, hk, rfl, rfl⟩ := hrel
    by_cases hlt : k < N
    · have hp : ∃ p, st[k]? = some p := ⟨st[k]'(by have := HN.out; omega), List.getElem?_eq_getElem _⟩
      obtain ⟨p, hp⟩ := hp
      obtain ⟨g1, o1, rfl, x1, x2⟩ := HA.out k p hp
      obtain ⟨g2, o2, rfl, y1, y2⟩ := HB.out k p hp
      have d0 : decide (k < N) = true := by rw [decide_eq_true_iff]; exact hlt
      have a0 : (k : Int) < (N : Int) := by omega
      clear hp
      go_wp2_with fail
      go_quiet (fail)
      go_wp2_with fail
      exact ⟨⟨k + 1, n + nq, by omega, by go_num, rfl⟩, by simp [intOf]; omega⟩
    · have d0 : decide (k < N) = false := by rw [decide_eq_false_iff_not]; exact hlt
      go_wp2_with fail
      go_ret
      exact ⟨rfl, n, rfl⟩
theorem Words.cells {w : World} {B : Nat} {v : Value} {l : List UInt8} {ds : List Sc.W} (h : Words w B v l ds) (hn : 0 < ds.length) : ∃ g cap, v = .slice (some ⟨g, 0, none⟩) ds.length cap ∧ ds.length ≤ cap ∧ B ≤ g ∧ g < w.heap.size ∧
    ∀ (i : Nat) d, ds[i]? = some d → ∃ sv, SetAt w B sv d.set ∧ w.cell? ⟨g, i * 6, none⟩ = some (.int .u8 d.kind) ∧ w.cell? ⟨g, i * 6 + 1, none⟩ = some (.string ⟨d.text.toArray⟩) ∧ w.cell? ⟨g, i * 6 + 2, none⟩ = some sv ∧ w.cell? ⟨g, i * 6 + 3, none⟩ = some (.int .i64 d.pos) ∧
      w.cell? ⟨g, i * 6 + 4, none⟩ = some (.int .i64 (place (l.take d.pos)).1) ∧ w.cell? ⟨g, i * 6 + 5, none⟩ = some (.int .i64 (place (l.take d.pos)).2) := by
  obtain ⟨svs, h1, h2, h3⟩ := h
  obtain ⟨g, cap, rfl, hc⟩ := h2.some_ hn
  have hl := h2.lt rfl
  refine ⟨g, cap, rfl, hc, hl.1, hl.2, fun i d hd => ?_⟩
  have hi : i < ds.length := (List.getElem?_eq_some_iff.1 hd).1
  have hsv : svs[i]? = some (svs[i]'(by omega)) := List.getElem?_eq_getElem (by omega)
  refine ⟨_, h3 i _ d hsv hd, ?_⟩
  have key : ∀ j, j < 6 → w.cell? ⟨g, i * 6 + j, none⟩ = (wcells l (svs[i]'(by omega)) d)[j]? := fun j hj => by
    rw [h2.cell (i * 6 + j) (by omega), wordsCells_at l svs ds i j _ d h1 hsv hd hj]
  exact ⟨key 0 (by omega), key 1 (by omega), key 2 (by omega), key 3 (by omega), key 4 (by omega), key 5 (by omega)⟩
theorem SetAt.read {w : World} {B : Nat} {v : Value} {st : List (Nat × Nat)} (h : SetAt w B v st) : ReadSet w v st := by
  obtain ⟨a, cap, hv, hc⟩ := Row.form h
  subst hv
  refine ⟨a, cap, rfl, fun i p hp => ?_⟩
  have hi : i < st.length := (List.getElem?_eq_some_iff.1 hp).1
  obtain ⟨g, cap', hv, _⟩ := Row.some_ h (by omega)
  injection hv with hv hv2 hv3
  subst hv hv3
  have hg : ∀ (st : List (Nat × Nat)) i p, st[i]? = some p → (setCells st)[i * 2]? = some (.int .i32 p.1) ∧ (setCells st)[i * 2 + 1]? = some (.int .i32 p.2) := by
    intro st
    induction st with
    | nil => intro i p hp; simp at hp
    | cons q st ih =>
      intro i p hp
      cases i with
      | zero => simp at hp; subst hp; exact ⟨rfl, rfl⟩
      | succ i =>
        have := ih i p (by simpa using hp)
        unfold setCells at this ⊢
        simp only [List.flatMap_cons]
        rw [List.getElem?_append_right (by simp; omega), List.getElem?_append_right (by simp; omega)]
        simp only [List.length_cons, List.length_nil]
        rw [show (i + 1) * 2 - (0 + 1 + 1) = i * 2 by omega, show (i + 1) * 2 + 1 - (0 + 1 + 1) = i * 2 + 1 by omega]
        exact this
  have := hg st i p hp
  refine ⟨g, 0, rfl, ?_, ?_⟩
  · rw [Nat.zero_add, Row.cell h _ (by omega), this.1]
  · rw [Nat.zero_add, Row.cell h _ (by omega), this.2]
end Go.Proofs.YtokpknjmcegkaaaDoor
