/- The law's examples. -/
import Derived.Test.YtianappapfpbeaaRnF
import Derived.Test.YtianappapfpbeaaRnJ
namespace Go.Proofs.Ytianappapfpbeaa
open Go Go.RowKit Rn
set_option maxRecDepth 100000

theorem r_any (a b : Int) (w : World) : Calls Try.prog 25 #[.int .i32 a, .int .i32 b] w fun e w' => e = .returned (.agg #[.int .i32 a, .int .i32 b]) ∧ Below w.heap.size w w' := by
  go_enter Try.func25, Try.ntmps25
  go_wp2_with fail
  have KB := Bk.made w 42 #[.int .i32 a, .int .i32 b]
  refine bodyPost_ret (v := .agg #[.int .i32 a, .int .i32 b]) ?_ rfl ?_
  · have z0 := KB.cell 0
    have z1 := KB.cell 1
    simp only [List.getElem?_toArray, List.getElem?_cons_zero, List.getElem?_cons_succ] at z0 z1
    simp [results, Try.results25, go_sem, z0, z1]
  · exact ⟨rfl, (Below.refl _ w).alloc (Nat.le_refl _) _⟩
namespace Rn
/-- A slice of ranges as it is built. -/
theorem RL_lit (w : World) (l : List (Int × Int)) : RL (w.alloc (.cells (rgV l).toArray 42)) (.slice (some ⟨w.heap.size, 0, none⟩) l.length l.length) l := by
  refine ⟨_, l.length, rfl, Nat.le_refl _, RgAt_row l 0 fun i p hp => ?_⟩
  obtain ⟨a, b⟩ := rgV_get l i p hp
  rw [(Bk.made w _ _).cell, (Bk.made w _ _).cell, Nat.zero_add]
  exact ⟨by simpa using a, by simpa using b⟩
theorem lives_1 : Runs false (hasB [(5, 7), (1, 2), (3, 3), (9, 8)]) lowest [(1, 3), (5, 7)] := by
  simp only [Runs, hasB, lowest]
  refine ⟨by decide, by decide, ?_, by decide, ?_, by decide, by decide, by decide, ?_, by decide, ?_, by decide, ?_⟩ <;> (intro y h1; try intro h2) <;> simp <;> omega
theorem lives_2 : Runs false (fun y => hasB [(1, 9)] y && !hasB [(3, 4)] y) lowest [(1, 2), (5, 9)] := by
  simp only [Runs, hasB, lowest]
  refine ⟨by decide, by decide, ?_, by decide, ?_, by decide, by decide, by decide, ?_, by decide, ?_, by decide, ?_⟩ <;> (intro y h1; try intro h2) <;> simp <;> omega
theorem lives_3 : Runs (noSig [[(1, 5)], [(4, 9)]]) (sig [[(1, 5)], [(4, 9)]]) lowest [(1, 3), (4, 5), (6, 9)] := by
  simp only [Runs, noSig, sig, hasB, lowest]
  refine ⟨by decide, by decide, ?_, by decide, ?_, by decide, by decide, by decide, ?_, by decide, ?_, by decide, by decide, by decide, ?_, by decide, ?_, by decide, ?_⟩ <;> (intro y h1; try intro h2) <;> simp <;> omega
theorem lives_4 : Runs (noSig [[(1, 2), (3, 4)]]) (sig [[(1, 2), (3, 4)]]) lowest [(1, 4)] := by
  simp only [Runs, noSig, sig, hasB, lowest]
  refine ⟨by decide, by decide, ?_, by decide, ?_, by decide, ?_⟩ <;> (intro y h1; try intro h2) <;> simp <;> omega
theorem I32_lit {l : List (Int × Int)} (h : l.all (fun r => decide (-2147483648 ≤ r.1 ∧ r.1 ≤ 2147483647) && decide (-2147483648 ≤ r.2 ∧ r.2 ≤ 2147483647)) = true) : I32 l := fun r hr => by
  have := List.all_eq_true.1 h r hr
  simpa using this
end Rn
set_option maxHeartbeats 4000000 in
theorem livesRn_true (w : World) : Calls Try.prog 7 #[] w fun e w' => e = .returned (.bool true) ∧ Below w.heap.size w w' := by
  go_enter Try.func7, Try.ntmps7
  have HB := Lib.hid (Below.refl w.heap.size w)
  go_wp2_with fail
  refine (r_any 5 7 _).mono ?_
  rintro e w1 ⟨rfl, hb⟩
  replace HB := Lib.hid (HB.out.trans (hb.mono HB.out.size))
  clear hb
  go_wp2_with fail
  refine (r_any 1 2 _).mono ?_
  rintro e w2 ⟨rfl, hb⟩
  replace HB := Lib.hid (HB.out.trans (hb.mono HB.out.size))
  clear hb
  go_wp2_with fail
  refine (r_any 3 3 _).mono ?_
  rintro e w3 ⟨rfl, hb⟩
  replace HB := Lib.hid (HB.out.trans (hb.mono HB.out.size))
  clear hb
  go_wp2_with fail
  refine (r_any 9 8 _).mono ?_
  rintro e w4 ⟨rfl, hb⟩
  replace HB := Lib.hid (HB.out.trans (hb.mono HB.out.size))
  clear hb
  go_wp2_with fail
  refine (NeatRn_any [(5, 7), (1, 2), (3, 3), (9, 8)] _ _ (RL_lit w4 [(5, 7), (1, 2), (3, 3), (9, 8)]) (by decide) (I32_lit (by decide))).mono ?_
  rintro e w5 ⟨va, la, rfl, ho, hr, hi, hn, hb⟩
  replace hb := ((Below.refl _ w4).alloc (Nat.le_refl _) _).trans (hb.mono (by rw [World.size_alloc]; exact Nat.le_succ _))
  replace HB := Lib.hid (HB.out.trans (hb.mono HB.out.size))
  obtain rfl := Runs.unique _ _ _ hr lives_1
  have ra := Lib.hid ho.rl
  clear ho hr hi hn
  clear hb
  go_wp2_with fail
  refine (r_any 1 9 _).mono ?_
  rintro e w6 ⟨rfl, hb⟩
  replace HB := Lib.hid (HB.out.trans (hb.mono HB.out.size))
  replace ra := Lib.hid (ra.out.below hb)
  clear hb
  have rx := Lib.hid (RL_lit w6 [(1, 9)])
  go_wp2_with fail
  refine (r_any 3 4 _).mono ?_
  rintro e w7 ⟨rfl, hb⟩
  replace rx := Lib.hid (rx.out.below hb)
  replace hb := ((Below.refl _ w6).alloc (Nat.le_refl _) _).trans (hb.mono (by rw [World.size_alloc]; exact Nat.le_succ _))
  replace HB := Lib.hid (HB.out.trans (hb.mono HB.out.size))
  replace ra := Lib.hid (ra.out.below hb)
  clear hb
  replace rx := Lib.hid (rx.out.below ((Below.refl _ w7).alloc (Nat.le_refl _) (.cells (rgV [(3, 4)]).toArray 42)))
  go_wp2_with fail
  refine (MinusRn_any [(1, 9)] [(3, 4)] _ _ _ rx.out (RL_lit w7 [(3, 4)]) (by decide) (by decide) (I32_lit (by decide)) (I32_lit (by decide))).mono ?_
  rintro e w8 ⟨vb, lb, rfl, ho, hr, hi, hn, hb⟩
  replace hb := ((Below.refl _ w7).alloc (Nat.le_refl _) _).trans (hb.mono (by rw [World.size_alloc]; exact Nat.le_succ _))
  replace HB := Lib.hid (HB.out.trans (hb.mono HB.out.size))
  replace ra := Lib.hid (ra.out.below hb)
  obtain rfl := Runs.unique _ _ _ hr lives_2
  have rb := Lib.hid ho.rl
  clear ho hr hi hn rx
  clear hb
  go_wp2_with fail
  refine (r_any 1 5 _).mono ?_
  rintro e w9 ⟨rfl, hb⟩
  replace HB := Lib.hid (HB.out.trans (hb.mono HB.out.size))
  replace ra := Lib.hid (ra.out.below hb)
  replace rb := Lib.hid (rb.out.below hb)
  clear hb
  have rx := Lib.hid (RL_lit w9 [(1, 5)])
  go_wp2_with fail
  refine (r_any 4 9 _).mono ?_
  rintro e w10 ⟨rfl, hb⟩
  replace rx := Lib.hid (rx.out.below hb)
  replace hb := ((Below.refl _ w9).alloc (Nat.le_refl _) _).trans (hb.mono (by rw [World.size_alloc]; exact Nat.le_succ _))
  replace HB := Lib.hid (HB.out.trans (hb.mono HB.out.size))
  replace ra := Lib.hid (ra.out.below hb)
  replace rb := Lib.hid (rb.out.below hb)
  clear hb
  replace rx := Lib.hid (rx.out.below ((Below.refl _ w10).alloc (Nat.le_refl _) (.cells (rgV [(4, 9)]).toArray 42)))
  have ry := Lib.hid (RLL_two (t := 22) rx.out (RL_lit w10 [(4, 9)]))
  rw [World.size_alloc] at ry
  go_wp2_with fail
  refine (SplitRn_any [[(1, 5)], [(4, 9)]] _ _ ry.out (by decide) (by decide) (fun l hl => by simp at hl; rcases hl with rfl | rfl <;> exact I32_lit (by decide))).mono ?_
  rintro e w11 ⟨vc, lc, rfl, ho, hr, hi, hn, hb⟩
  replace hb := (((Below.refl _ w10).alloc (Nat.le_refl _) _).alloc (by simp) _).trans (hb.mono (by rw [World.size_alloc, World.size_alloc]; omega))
  replace HB := Lib.hid (HB.out.trans (hb.mono HB.out.size))
  replace ra := Lib.hid (ra.out.below hb)
  replace rb := Lib.hid (rb.out.below hb)
  obtain rfl := Runs.unique _ _ _ hr lives_3
  have rc := Lib.hid ho.rl
  clear ho hr hi hn hb rx ry
  go_wp2_with fail
  refine (r_any 1 2 _).mono ?_
  rintro e w12 ⟨rfl, hb⟩
  replace HB := Lib.hid (HB.out.trans (hb.mono HB.out.size))
  replace ra := Lib.hid (ra.out.below hb)
  replace rb := Lib.hid (rb.out.below hb)
  replace rc := Lib.hid (rc.out.below hb)
  clear hb
  go_wp2_with fail
  refine (r_any 3 4 _).mono ?_
  rintro e w13 ⟨rfl, hb⟩
  replace HB := Lib.hid (HB.out.trans (hb.mono HB.out.size))
  replace ra := Lib.hid (ra.out.below hb)
  replace rb := Lib.hid (rb.out.below hb)
  replace rc := Lib.hid (rc.out.below hb)
  clear hb
  have ry := Lib.hid (RLL_one (t := 22) (RL_lit w13 [(1, 2), (3, 4)]))
  rw [World.size_alloc] at ry
  go_wp2_with fail
  refine (SplitRn_any [[(1, 2), (3, 4)]] _ _ ry.out (by decide) (by decide) (fun l hl => by simp at hl; subst hl; exact I32_lit (by decide))).mono ?_
  rintro e w14 ⟨vd, ld, rfl, ho, hr, hi, hn, hb⟩
  replace hb := (((Below.refl _ w13).alloc (Nat.le_refl _) _).alloc (by simp) _).trans (hb.mono (by rw [World.size_alloc, World.size_alloc]; omega))
  replace HB := Lib.hid (HB.out.trans (hb.mono HB.out.size))
  replace ra := Lib.hid (ra.out.below hb)
  replace rb := Lib.hid (rb.out.below hb)
  replace rc := Lib.hid (rc.out.below hb)
  obtain rfl := Runs.unique _ _ _ hr lives_4
  have rd := Lib.hid ho.rl
  clear ho hr hi hn hb ry
  go_wp2_with fail
  refine (r_any 1 3 _).mono ?_
  rintro e w15 ⟨rfl, hb⟩
  replace HB := Lib.hid (HB.out.trans (hb.mono HB.out.size))
  replace ra := Lib.hid (ra.out.below hb)
  replace rb := Lib.hid (rb.out.below hb)
  replace rc := Lib.hid (rc.out.below hb)
  replace rd := Lib.hid (rd.out.below hb)
  clear hb
  go_wp2_with fail
  refine (r_any 5 7 _).mono ?_
  rintro e w16 ⟨rfl, hb⟩
  replace HB := Lib.hid (HB.out.trans (hb.mono HB.out.size))
  replace ra := Lib.hid (ra.out.below hb)
  replace rb := Lib.hid (rb.out.below hb)
  replace rc := Lib.hid (rc.out.below hb)
  replace rd := Lib.hid (rd.out.below hb)
  clear hb
  go_wp2_with fail
  refine (SameRn_any [(1, 3), (5, 7)] [(1, 3), (5, 7)] _ _ _ (ra.out.below ((Below.refl _ w16).alloc (Nat.le_refl _) _)) (RL_lit w16 [(1, 3), (5, 7)]) (by decide) (by decide)).mono ?_
  rintro e w17 ⟨rfl, hb⟩
  replace hb := ((Below.refl _ w16).alloc (Nat.le_refl _) _).trans (hb.mono (by rw [World.size_alloc]; exact Nat.le_succ _))
  replace HB := Lib.hid (HB.out.trans (hb.mono HB.out.size))
  replace ra := Lib.hid (ra.out.below hb)
  replace rb := Lib.hid (rb.out.below hb)
  replace rc := Lib.hid (rc.out.below hb)
  replace rd := Lib.hid (rd.out.below hb)
  clear hb
  simp only [decide_true]
  go_wp2_with fail
  refine (r_any 1 2 _).mono ?_
  rintro e w18 ⟨rfl, hb⟩
  replace HB := Lib.hid (HB.out.trans (hb.mono HB.out.size))
  replace ra := Lib.hid (ra.out.below hb)
  replace rb := Lib.hid (rb.out.below hb)
  replace rc := Lib.hid (rc.out.below hb)
  replace rd := Lib.hid (rd.out.below hb)
  clear hb
  go_wp2_with fail
  refine (r_any 5 9 _).mono ?_
  rintro e w19 ⟨rfl, hb⟩
  replace HB := Lib.hid (HB.out.trans (hb.mono HB.out.size))
  replace ra := Lib.hid (ra.out.below hb)
  replace rb := Lib.hid (rb.out.below hb)
  replace rc := Lib.hid (rc.out.below hb)
  replace rd := Lib.hid (rd.out.below hb)
  clear hb
  go_wp2_with fail
  refine (SameRn_any [(1, 2), (5, 9)] [(1, 2), (5, 9)] _ _ _ (rb.out.below ((Below.refl _ w19).alloc (Nat.le_refl _) _)) (RL_lit w19 [(1, 2), (5, 9)]) (by decide) (by decide)).mono ?_
  rintro e w20 ⟨rfl, hb⟩
  replace hb := ((Below.refl _ w19).alloc (Nat.le_refl _) _).trans (hb.mono (by rw [World.size_alloc]; exact Nat.le_succ _))
  replace HB := Lib.hid (HB.out.trans (hb.mono HB.out.size))
  replace ra := Lib.hid (ra.out.below hb)
  replace rb := Lib.hid (rb.out.below hb)
  replace rc := Lib.hid (rc.out.below hb)
  replace rd := Lib.hid (rd.out.below hb)
  clear hb
  simp only [decide_true]
  go_wp2_with fail
  refine (r_any 1 3 _).mono ?_
  rintro e w21 ⟨rfl, hb⟩
  replace HB := Lib.hid (HB.out.trans (hb.mono HB.out.size))
  replace ra := Lib.hid (ra.out.below hb)
  replace rb := Lib.hid (rb.out.below hb)
  replace rc := Lib.hid (rc.out.below hb)
  replace rd := Lib.hid (rd.out.below hb)
  clear hb
  go_wp2_with fail
  refine (r_any 4 5 _).mono ?_
  rintro e w22 ⟨rfl, hb⟩
  replace HB := Lib.hid (HB.out.trans (hb.mono HB.out.size))
  replace ra := Lib.hid (ra.out.below hb)
  replace rb := Lib.hid (rb.out.below hb)
  replace rc := Lib.hid (rc.out.below hb)
  replace rd := Lib.hid (rd.out.below hb)
  clear hb
  go_wp2_with fail
  refine (r_any 6 9 _).mono ?_
  rintro e w23 ⟨rfl, hb⟩
  replace HB := Lib.hid (HB.out.trans (hb.mono HB.out.size))
  replace ra := Lib.hid (ra.out.below hb)
  replace rb := Lib.hid (rb.out.below hb)
  replace rc := Lib.hid (rc.out.below hb)
  replace rd := Lib.hid (rd.out.below hb)
  clear hb
  go_wp2_with fail
  refine (SameRn_any [(1, 3), (4, 5), (6, 9)] [(1, 3), (4, 5), (6, 9)] _ _ _ (rc.out.below ((Below.refl _ w23).alloc (Nat.le_refl _) _)) (RL_lit w23 [(1, 3), (4, 5), (6, 9)]) (by decide) (by decide)).mono ?_
  rintro e w24 ⟨rfl, hb⟩
  replace hb := ((Below.refl _ w23).alloc (Nat.le_refl _) _).trans (hb.mono (by rw [World.size_alloc]; exact Nat.le_succ _))
  replace HB := Lib.hid (HB.out.trans (hb.mono HB.out.size))
  replace ra := Lib.hid (ra.out.below hb)
  replace rb := Lib.hid (rb.out.below hb)
  replace rc := Lib.hid (rc.out.below hb)
  replace rd := Lib.hid (rd.out.below hb)
  clear hb
  simp only [decide_true]
  go_wp2_with fail
  refine (r_any 1 4 _).mono ?_
  rintro e w25 ⟨rfl, hb⟩
  replace HB := Lib.hid (HB.out.trans (hb.mono HB.out.size))
  replace ra := Lib.hid (ra.out.below hb)
  replace rb := Lib.hid (rb.out.below hb)
  replace rc := Lib.hid (rc.out.below hb)
  replace rd := Lib.hid (rd.out.below hb)
  clear hb
  go_wp2_with fail
  refine (SameRn_any [(1, 4)] [(1, 4)] _ _ _ (rd.out.below ((Below.refl _ w25).alloc (Nat.le_refl _) _)) (RL_lit w25 [(1, 4)]) (by decide) (by decide)).mono ?_
  rintro e w26 ⟨rfl, hb⟩
  replace hb := ((Below.refl _ w25).alloc (Nat.le_refl _) _).trans (hb.mono (by rw [World.size_alloc]; exact Nat.le_succ _))
  replace HB := Lib.hid (HB.out.trans (hb.mono HB.out.size))
  replace ra := Lib.hid (ra.out.below hb)
  replace rb := Lib.hid (rb.out.below hb)
  replace rc := Lib.hid (rc.out.below hb)
  replace rd := Lib.hid (rd.out.below hb)
  clear hb
  simp only [decide_true]
  go_wp2_with fail
  go_ret
  exact ⟨rfl, HB.out⟩
end Go.Proofs.Ytianappapfpbeaa
