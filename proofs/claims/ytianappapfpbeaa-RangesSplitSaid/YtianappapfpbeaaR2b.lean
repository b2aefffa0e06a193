/- The law's book: its pages stand by themselves. -/
import Derived.Test.YtianappapfpbeaaR2a
import Derived.Handy
namespace Go.Proofs.Ytianappapfpbeaa
open Go Go.RowKit Rn
set_option maxRecDepth 100000

namespace Rn
theorem PS.below {w w' : World} {num : Int} {v : Value} {ph : Nat} (h : PS w num v ph) (hb : Below w.heap.size w w') : PS w' num v ph := by
  rcases h with h | ⟨g, n, cap, cur, h1, h2, h3, h4, h5⟩
  · exact .inl h
  · refine .inr ⟨g, n, cap, cur, h1, h2, h3, ?_, h5⟩
    rw [hb.block g (Array.getElem?_eq_some_iff.1 h4).1]
    exact h4
theorem PS.of_twv {w : World} {B : Nat} {v : Value} {l : List (Int × Int)} (h : TwV w B v l) (num : Int) : PS w num v 0 := by
  obtain ⟨g, cap, cur, h1, h2, h3, h4, h5, h6, h7⟩ := h
  exact .inr ⟨g, _, cap, cur, h1, by omega, h5, h3, h6, fun h => by omega, fun h => by omega⟩
/-- A page, all of whose row is given. -/
theorem writeRn_any (num : Int) (v : Value) (w : World) (h : PS w num v 0) :
    Calls Try.prog 81 #[.agg #[v, .int .i32 num, .int .i32 0, .int .i32 0, .int .i32 num]] w fun e w' => e = .returned (.tuple #[]) ∧ PS w' num v 1 ∧ w.grownBy w' v.ownBlock := by
  rcases h with rfl | ⟨g, n, cap, cur, rfl, h1, h2, h3, h4, _⟩
  · refine (writeRn_nil num w).mono ?_
    rintro e w' ⟨rfl, hb⟩
    exact ⟨rfl, .inl rfl, grown_of _ hb⟩
  · refine (writeRn_some num g n cap cur w h1 h2 h3 h4).mono ?_
    rintro e w' ⟨rfl, ⟨cur', k1, k2, k3, _⟩, hg, _⟩
    exact ⟨rfl, .inr ⟨g, n, cap, cur', rfl, h1, h2, k1, by omega, fun _ j hj => k3 j (Nat.zero_le _) hj, fun h => by omega⟩, hg⟩
theorem behindRn_any (num : Int) (v : Value) (w : World) (h : PS w num v 1) :
    Calls Try.prog 82 #[.agg #[v, .int .i32 num, .int .i32 0, .int .i32 0, .int .i32 num]] w fun e w' => e = .returned (.tuple #[]) ∧ PS w' num v 2 ∧ w.grownBy w' v.ownBlock := by
  rcases h with rfl | ⟨g, n, cap, cur, rfl, h1, h2, h3, h4, h5, _⟩
  · refine (behindRn_nil num w).mono ?_
    rintro e w' ⟨rfl, hb⟩
    exact ⟨rfl, .inl rfl, grown_of _ hb⟩
  · refine (behindRn_some num g n cap cur w h1 h2 h3 h4).mono ?_
    rintro e w' ⟨rfl, ⟨cur', k1, k2, k3, k4⟩, hg, _⟩
    have hold : ∀ i, i < n * 2 → cur'[i]? = cur[i]? := fun i hi => by
      rcases k4 i (by omega) with h | ⟨c0, h, k⟩
      · rw [h3] at h
        injection h with h
        injection h with h
        rw [h]
      · rw [h3] at h
        injection h with h
        injection h with h
        rw [k, h]
    refine ⟨rfl, .inr ⟨g, n, cap, cur', rfl, h1, h2, k1, by omega, fun _ j hj => ?_, fun _ j a b => k3 j a b⟩, hg⟩
    rw [hold _ (by omega), hold _ (by omega)]
    exact h5 (Nat.le_refl _) j hj
theorem standsRn_any (num : Int) (v : Value) (w : World) (h : PS w num v 2) :
    Calls Try.prog 80 #[.agg #[v, .int .i32 num, .int .i32 0, .int .i32 0, .int .i32 num]] w fun e w' => e = .returned (.bool true) ∧ Below w.heap.size w w' := by
  rcases h with rfl | ⟨g, n, cap, cur, rfl, h1, h2, h3, h4, h5, h6⟩
  · exact standsRn_nil num w
  · exact standsRn_some num g n cap cur w h1 h2 h3 h4 (h5 (by omega)) (h6 (Nat.le_refl _))
/-- The pages before the i-th are one step further. -/
structure ApS (w wr : World) (B bk : Nat) (vs : List Value) (ph i : Nat) : Prop where
  book : BkS wr bk vs
  below : Below B w wr
  page : ∀ (j : Nat) (v : Value), vs[j]? = some v → PS wr ((j : Int) + 1) v (if j < i then ph + 1 else ph)
/-- No two pages share, and none is the book. -/
structure ApD (B bk : Nat) (vs : List Value) : Prop where
  lies : ∀ (j : Nat) (v : Value) (k : Nat), vs[j]? = some v → v.ownBlock = some k → B ≤ k ∧ k < bk
  apart : ∀ (i j : Nat) (v u : Value) (k : Nat), i ≠ j → vs[i]? = some v → vs[j]? = some u → v.ownBlock = some k → u.ownBlock ≠ some k
theorem ApS.step {w wr w' : World} {B bk : Nat} {vs : List Value} {ph i : Nat} (h : ApS w wr B bk vs ph i) (hD : ApD B bk vs) (hB : B ≤ bk) {v : Value} (hv : vs[i]? = some v) (hP : PS w' ((i : Int) + 1) v (ph + 1)) (hg : wr.grownBy w' v.ownBlock) : ApS w w' B bk vs ph (i + 1) := by
  refine ⟨h.book.grown hg fun k hk => (hD.lies i v k hv hk).2, h.below.grown hg (by have := h.book.lt; omega) fun k hk => (hD.lies i v k hv hk).1, fun j u hu => ?_⟩
  by_cases e : j = i
  · subst e
    obtain rfl : v = u := by rw [hv] at hu; exact Option.some.inj hu
    rw [if_pos (by omega)]
    exact hP
  · have := h.page j u hu
    have hk := this.kept hg fun k hk => hD.apart j i u v k e hu hv hk
    by_cases k : j < i
    · rw [if_pos k] at hk
      rw [if_pos (by omega)]
      exact hk
    · rw [if_neg k] at hk
      rw [if_neg (by omega)]
      exact hk
theorem ApS.next {w wr : World} {B bk : Nat} {vs : List Value} {ph : Nat} (h : ApS w wr B bk vs ph vs.length) : ApS w wr B bk vs (ph + 1) 0 := by
  refine ⟨h.book, h.below, fun j v hv => ?_⟩
  have := h.page j v hv
  rw [if_pos (List.getElem?_eq_some_iff.1 hv).1] at this
  rw [if_neg (by omega)]
  exact this
theorem ApS.far {w wr w' : World} {B bk : Nat} {vs : List Value} {ph i : Nat} (h : ApS w wr B bk vs ph i) (hB : B ≤ bk) (hb : Below wr.heap.size wr w') : ApS w w' B bk vs ph i := by
  refine ⟨h.book.below hb, h.below.trans (hb.mono (by have := h.book.lt; omega)), fun j v hv => (h.page j v hv).below hb⟩
end Rn
set_option maxHeartbeats 4000000 in
theorem ApartRn_any (B bk : Nat) (vs : List Value) (w : World) (h : BkS w bk vs) (hn : vs.length ≤ 120) (hD : ApD B bk vs) (hB : B ≤ bk) (hP : ∀ (j : Nat) (v : Value), vs[j]? = some v → PS w ((j : Int) + 1) v 0) :
    Calls Try.prog 17 #[.pointer (some ⟨bk, 0, none⟩)] w fun e w' => e = .returned (.bool true) ∧ Below B w w' := by
  have HS0 := Lib.hid (show ApS w w B bk vs 0 0 from ⟨h, Below.refl _ _, fun j v hv => by rw [if_neg (by omega)]; exact hP j v hv⟩)
  obtain ⟨A, c, ⟨h1, _⟩, _⟩ := h.read
  have HN0 := Lib.hid (show ∀ wr ph i, ApS w wr B bk vs ph i → i = vs.length → ApS w wr B bk vs (ph + 1) 0 from fun wr ph i k e => by subst e; exact k.next)
  have HRd := Lib.hid (show ∀ wr ph i, ApS w wr B bk vs ph i → ∃ A c, wr.cell? ⟨bk, 0, none⟩ = some (.slice A vs.length c) ∧ ∀ j, j < vs.length → ∃ g v, A = some ⟨g, 0, none⟩ ∧ vs[j]? = some v ∧ wr.cell? ⟨g, j, none⟩ = some (.iface 55 (.agg #[v, .int .i32 ((j : Int) + 1), .int .i32 0, .int .i32 0, .int .i32 ((j : Int) + 1)])) from fun wr ph i k => by
    obtain ⟨A, c, ⟨k1, _⟩, k2⟩ := k.book.read
    refine ⟨A, c, k1, fun j hj => ?_⟩
    obtain ⟨g, e, k3⟩ := k2 j _ (List.getElem?_eq_getElem hj)
    refine ⟨g, _, e, List.getElem?_eq_getElem hj, ?_⟩
    rw [k3]
    unfold pageV rowV
    simp)
  have HD := Lib.hid hD
  obtain ⟨N, hN⟩ : ∃ x, vs.length = x := ⟨_, rfl⟩
  rw [hN] at h1 hn HRd HN0
  have n1 : (N : Int) ≤ 120 := by omega
  have d9 : decide ((120 : Int) < (N : Int)) = false := by rw [decide_eq_false_iff_not]; omega
  clear h hD hP hN
  go_enter Try.func17, Try.ntmps17
  go_wp2_with fail
  go_loopw [3] (fun i wr => ∃ p : Nat, p ≤ N ∧ i = .int .i64 p ∧ Hid (ApS w wr B bk vs 0 p)) (fun i _ => N - (intOf i).toNat)
  case atStart => exact ⟨0, Nat.zero_le _, rfl, HS0⟩
  case round =>
    obtain ⟨p, hp, rfl, hG⟩ := hrel
    obtain ⟨A2, c2, y1, y2⟩ := HRd.out _ _ _ hG.out
    by_cases hlt : p < N
    · have d0 : decide (p < N) = true := by rw [decide_eq_true_iff]; exact hlt
      have a0 : (p : Int) < (N : Int) := by omega
      obtain ⟨g, v, rfl, hv, y3⟩ := y2 p hlt
      have hP := hG.out.page p v hv
      rw [if_neg (by omega)] at hP
      have hC := Lib.hid (writeRn_any _ _ _ hP)
      have HST := Lib.hid (show ∀ w', PS w' ((p : Int) + 1) v 1 → wr.grownBy w' v.ownBlock → ApS w w' B bk vs 0 (p + 1) from fun w' k1 k2 => hG.out.step HD.out hB hv k1 k2)
      clear hP hG y2 hv
      go_wp2_with (go_at_call 81; refine hC.out.mono ?_; rintro e w' ⟨rfl, hp1, hg1⟩; have HX := Lib.hid (HST.out w' hp1 hg1); clear hp1 hg1)
      exact ⟨⟨p + 1, by omega, by go_num, HX⟩, by simp [intOf]; omega⟩
    · have d0 : decide (p < N) = false := by rw [decide_eq_false_iff_not]; exact hlt
      have HS1 := Lib.hid (HN0.out _ _ _ hG.out (by omega))
      clear hG y2
      go_wp2_with fail
      go_loopw [4] (fun i wr => ∃ p : Nat, p ≤ N ∧ i = .int .i64 p ∧ Hid (ApS w wr B bk vs 1 p)) (fun i _ => N - (intOf i).toNat)
      case atStart => exact ⟨0, Nat.zero_le _, rfl, HS1⟩
      case round =>
        obtain ⟨q, hq, rfl, hG⟩ := hrel
        obtain ⟨A3, c3, z1, z2⟩ := HRd.out _ _ _ hG.out
        by_cases hlq : q < N
        · have d1 : decide (q < N) = true := by rw [decide_eq_true_iff]; exact hlq
          have a1 : (q : Int) < (N : Int) := by omega
          obtain ⟨g, v, rfl, hv, z3⟩ := z2 q hlq
          have hP := hG.out.page q v hv
          rw [if_neg (by omega)] at hP
          have hC := Lib.hid (behindRn_any _ _ _ hP)
          have HST := Lib.hid (fun w' k1 k2 => hG.out.step (w' := w') HD.out hB hv k1 k2)
          clear hP hG z2 hv
          go_wp2_with (go_at_call 82; refine hC.out.mono ?_; rintro e w' ⟨rfl, hp1, hg1⟩; have HX := Lib.hid (HST.out w' hp1 hg1); clear hp1 hg1)
          exact ⟨⟨q + 1, by omega, by go_num, HX⟩, by simp [intOf]; omega⟩
        · have d1 : decide (q < N) = false := by rw [decide_eq_false_iff_not]; exact hlq
          have HS2 := Lib.hid (HN0.out _ _ _ hG.out (by omega))
          clear hG z2
          go_wp2_with fail
          go_loopw [5] (fun i wr => ∃ p : Nat, p ≤ N ∧ i = .int .i64 p ∧ Hid (ApS w wr B bk vs 2 0)) (fun i _ => N - (intOf i).toNat)
          case atStart => exact ⟨0, Nat.zero_le _, rfl, HS2⟩
          case round =>
            obtain ⟨r, hr, rfl, hG⟩ := hrel
            obtain ⟨A4, c4, x1, x2⟩ := HRd.out _ _ _ hG.out
            by_cases hlr : r < N
            · have d2 : decide (r < N) = true := by rw [decide_eq_true_iff]; exact hlr
              have a2 : (r : Int) < (N : Int) := by omega
              obtain ⟨g, v, rfl, hv, x3⟩ := x2 r hlr
              have hP := hG.out.page r v hv
              rw [if_neg (by omega)] at hP
              have hC := Lib.hid (standsRn_any _ _ _ hP)
              have HST := Lib.hid (fun w' k => hG.out.far (w' := w') hB k)
              clear hP hG x2 hv
              go_wp2_with (go_at_call 80; refine hC.out.mono ?_; rintro e w' ⟨rfl, hb1⟩; have HX := Lib.hid (HST.out w' hb1); clear hb1)
              exact ⟨⟨r + 1, by omega, by go_num, HX⟩, by simp [intOf]; omega⟩
            · have d2 : decide (r < N) = false := by rw [decide_eq_false_iff_not]; exact hlr
              have HB := Lib.hid hG.out.below
              clear hG x2
              go_wp2_with fail
              go_ret
              exact ⟨rfl, HB.out⟩
end Go.Proofs.Ytianappapfpbeaa
