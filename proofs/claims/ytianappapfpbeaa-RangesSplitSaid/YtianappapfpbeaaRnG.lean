/- The contracts of ranges.paired, Minus, Both. -/
import Derived.Test.YtianappapfpbeaaRnE
namespace Go.Proofs.Ytianappapfpbeaa
open Go Go.RowKit Rn
set_option maxRecDepth 100000

namespace Rn
theorem own_monoRn {w : World} {base base' : Nat} {e : TypeId} {size : Nat} {v : Value} {n : Nat} {xs : List Value} (h : w.ownsRow base' e size v n xs) (hb : base ≤ base') : w.ownsRow base e size v n xs := by
  refine ⟨h.1, ?_⟩
  rcases h.2 with h1 | ⟨g, c, cur, h1, h2, h3⟩
  · exact .inl h1
  · exact .inr ⟨g, c, cur, h1, by omega, h3⟩
theorem endsLL_single (e : Int) (l : List (Int × Int)) : endsLL e [l] = endsL e l := by simp [endsLL]
/-- A neat list holds just what it should, whatever the number. -/
theorem Runs.all {l m : List (Int × Int)} (h : Runs false (hasB l) lowest m) (hl : I32 l) (hm : I32 m) (y : Int) : hasB m y = hasB l y := by
  by_cases hy : lowest ≤ y
  · exact h.same y hy
  · have e1 : hasB m y = false := by
      rw [← Bool.not_eq_true]
      intro k
      have := hasB_in hm k
      unfold lowest at hy
      omega
    have e2 : hasB l y = false := by
      rw [← Bool.not_eq_true]
      intro k
      have := hasB_in hl k
      unfold lowest at hy
      omega
    rw [e1, e2]
/-- Two neat lists' ends: 1 for what the first one holds, 2 for the second one. -/
theorem upto_pair {la lb na nb : List (Int × Int)} (ha : Runs false (hasB la) lowest na) (hb : Runs false (hasB lb) lowest nb) (h1 : I32 la) (h2 : I32 lb) (h3 : I32 na) (h4 : I32 nb) (y : Int) :
    upto y (endsL 1 na ++ endsL 2 nb) = (if hasB la y then 1 else 0) + (if hasB lb y then 2 else 0) := by
  rw [upto_append, upto_ends, upto_ends, neat_cnt na ha.neat y, neat_cnt nb hb.neat y, ha.all h1 h3, hb.all h2 h4]
  cases hasB la y <;> cases hasB lb y <;> rfl
theorem pair_in {na nb : List (Int × Int)} (h3 : I32 na) (h4 : I32 nb) : ∀ p ∈ endsL 1 na ++ endsL 2 nb, (lowest ≤ p.1 ∧ p.1 ≤ 2147483648) ∧ (-10 ≤ p.2 ∧ p.2 ≤ 10) := fun p hp => by
  rcases List.mem_append.1 hp with hp | hp
  · exact ⟨ends_in h3 p hp, ends_more (by omega) p hp⟩
  · exact ⟨ends_in h4 p hp, ends_more (by omega) p hp⟩
theorem pair_over {la lb na nb : List (Int × Int)} (ha : Runs false (hasB la) lowest na) (hb : Runs false (hasB lb) lowest nb) (h1 : I32 la) (h2 : I32 lb) (h3 : I32 na) (h4 : I32 nb) {y : Int} (hy : ∀ p ∈ endsL 1 na ++ endsL 2 nb, p.1 ≤ y) : hasB la y = false ∧ hasB lb y = false :=
  ⟨by rw [← ha.all h1 h3]; exact ends_over fun p hp => hy p (List.mem_append_left _ hp), by rw [← hb.all h2 h4]; exact ends_over fun p hp => hy p (List.mem_append_right _ hp)⟩
end Rn
set_option maxHeartbeats 4000000 in
theorem paired_any (la lb : List (Int × Int)) (va vb : Value) (w : World) (ha : RL w va la) (hb : RL w vb lb) (hla : la.length ≤ 100000) (hlb : lb.length ≤ 100000) (h1 : I32 la) (h2 : I32 lb) :
    Calls Try.prog 30 #[va, vb] w fun e w' => ∃ v na nb, e = .returned v ∧ Runs false (hasB la) lowest na ∧ Runs false (hasB lb) lowest nb ∧ I32 na ∧ I32 nb ∧ (endsL 1 na ++ endsL 2 nb).length ≤ 4 * la.length + 4 * lb.length ∧ Gath w (endsL 1 na ++ endsL 2 nb) v w' := by
  obtain ⟨i0, hi, hz0, hz1, hz2⟩ := info_partsRn infoEnd
  have hN1 := Lib.hid (NeatRn_any la va w ha (by omega) h1)
  have hN2 := Lib.hid (fun (wx : World) (hx : Below w.heap.size w wx) => NeatRn_any lb vb wx (hb.below hx) (by omega) h2)
  have HLA := Lib.hid hla
  have HLB := Lib.hid hlb
  have HH2 := Lib.hid h2
  clear hla hlb
  obtain ⟨a1, c1, rfl, hc1, hR1⟩ := ha
  obtain ⟨a2, c2, rfl, hc2, hR2⟩ := hb
  clear hR1 hR2
  generalize hLA : la.length = LA at *
  generalize hLB : lb.length = LB at *
  clear hLA hLB
  go_enter Try.func30, Try.ntmps30
  go_wp2_with fail
  refine hN1.out.mono ?_
  rintro e w1 ⟨v1, na, rfl, ho1, hr1, hi1, hn1, hb1⟩
  have hE1 := Lib.hid (ends_any 1 [na] _ (w1.alloc (.cells #[v1] 22)) (by omega) (RLL_one ho1.rl) (by have := HLA.out; simp [total]; omega) (by simp) (by simpa using hi1))
  have HR1 := Lib.hid hr1
  have HI1 := Lib.hid hi1
  have HB1 := Lib.hid (show Below w.heap.size w (w1.alloc (.cells #[v1] 22)) from hb1.alloc hb1.size _)
  obtain ⟨A1, C1, hv1, _, _⟩ := ho1.rl
  subst hv1
  have HL1 := Lib.hid (show (endsL 1 na).length ≤ 4 * LA from by have := endsL_len 1 na; omega)
  clear ho1 hr1 hi1 hn1 hb1
  generalize hNA : na.length = NA at *
  clear hNA
  go_wp2_with fail
  refine hE1.out.mono ?_
  rintro e w2 ⟨g1, rfl, hg1⟩
  rw [endsLL_single] at hg1
  have HG1 := Lib.hid hg1
  have hB2 : Below w.heap.size w w2 := HB1.out.trans (hg1.2.mono HB1.out.size)
  have hC2 := Lib.hid (hN2.out w2 hB2)
  have HB2 := Lib.hid hB2
  clear hg1 hB2
  go_wp2_with fail
  refine hC2.out.mono ?_
  rintro e w3 ⟨v2, nb, rfl, ho2, hr2, hi2, hn2, hb2⟩
  have hE2 := Lib.hid (ends_any 2 [nb] _ (w3.alloc (.cells #[v2] 22)) (by omega) (RLL_one ho2.rl) (by have := HLB.out; simp [total]; omega) (by simp) (by simpa using hi2))
  have HR2 := Lib.hid hr2
  have HI2 := Lib.hid hi2
  have HB3 := Lib.hid (show Below w2.heap.size w2 (w3.alloc (.cells #[v2] 22)) from hb2.alloc hb2.size _)
  have HL2 := Lib.hid (show (endsL 2 nb).length ≤ 4 * LB from by have := endsL_len 2 nb; omega)
  obtain ⟨A2, C2, hv2, _, _⟩ := ho2.rl
  subst hv2
  clear ho2 hr2 hi2 hn2 hb2
  generalize hNBL : nb.length = NB at *
  clear hNBL
  go_wp2_with fail
  refine hE2.out.mono ?_
  rintro e w4 ⟨g2, rfl, hg2⟩
  rw [endsLL_single] at hg2
  have hB4 : Below w2.heap.size w2 w4 := HB3.out.trans (hg2.2.mono HB3.out.size)
  have hB5 : Below w.heap.size w w4 := HB2.out.trans (hB4.mono HB2.out.size)
  have hrow1 : w4.ownsRow w.heap.size 65 2 g1 (endsL 1 na).length (endV (endsL 1 na)) := own_monoRn (own_below HG1.out.1 hB4) HB1.out.size
  have hl1 := HL1.out
  have hl2 := HL2.out
  have HEnd := Lib.hid (fun (v' : Value) (w' : World) (h : Gath w (endsL 1 na ++ endsL 2 nb) v' w') => show ∃ v na nb, Ending.returned v' = .returned v ∧ Runs false (hasB la) lowest na ∧ Runs false (hasB lb) lowest nb ∧ I32 na ∧ I32 nb ∧ (endsL 1 na ++ endsL 2 nb).length ≤ 4 * LA + 4 * LB ∧ Gath w (endsL 1 na ++ endsL 2 nb) v w' from ⟨v', na, nb, rfl, HR1.out, HR2.out, HI1.out, HI2.out, by rw [List.length_append]; omega, h⟩)
  have hla := HLA.out
  have hlb := HLB.out
  rcases hg2.1.2 with ⟨h0, hn0⟩ | ⟨b, cap, cur, h0, hbb, _, _, _, _, _⟩
  · have he : endsL 2 nb = [] := List.eq_nil_of_length_eq_zero hn0
    have HGF : Hid (Gath w (endsL 1 na ++ endsL 2 nb) g1 w4) := Lib.hid (by rw [he, List.append_nil]; exact ⟨hrow1, hB5⟩)
    subst h0
    clear hg2 hB4 hB5 hn0 he
    go_wp2_with (at_builtin; refine wpList_append_own_none rfl _ _ 46 rfl w.heap.size 65 i0 2 Try.underlying46 hi _ _ _ rfl hrow1 rfl ?_)
    go_ret
    exact HEnd.out _ _ HGF.out
  · have hcell := hg2.1.cells (g := b) (by rw [h0]; rfl)
    have HCell := Lib.hid hcell
    have HCL := Lib.hid (endV_len (endsL 2 nb))
    have HGR := Lib.hid (fun (v' : Value) (w' : World) (ho : w'.ownsRow w.heap.size 65 2 v' ((endsL 1 na).length + (endsL 2 nb).length) (endV (endsL 1 na) ++ endV (endsL 2 nb))) (hg : w4.grownBy w' g1.ownBlock) => show Gath w (endsL 1 na ++ endsL 2 nb) v' w' from ⟨by rw [List.length_append, endV_append]; exact ho, hB5.grown hg hB5.size (fun k hk => (hrow1.lt k hk).1)⟩)
    have hone := Lib.hid (endV_one (endsL 2 nb))
    subst h0
    have hs5 := hB5.size
    clear hg2 hB4 hB5 hcell hbb
    generalize hL2 : (endsL 2 nb).length = L2 at *
    clear hL2
    go_wp2_with (at_builtin; refine wpList_append_own _ rfl _ _ 46 rfl w.heap.size 65 i0 (.agg #[.int .i64 0, .int .i64 0]) 2 16 Try.underlying46 hi hz0 hz1 hz2 rfl (by decide) _ _ _ rfl hrow1 ⟨b, 0, none⟩ L2 cap (endV (endsL 2 nb)) rfl HCL.out HCell.out hone.out (by unfold maxLen; omega) (by omega) hs5 ?_; intro v' w5 hown5 hg5 _)
    go_ret
    exact HEnd.out _ _ (HGR.out _ _ hown5 hg5)
set_option maxHeartbeats 1000000 in
theorem MinusRn_any (la lb : List (Int × Int)) (va vb : Value) (w : World) (ha : RL w va la) (hb : RL w vb lb) (hla : la.length ≤ 100000) (hlb : lb.length ≤ 100000) (h1 : I32 la) (h2 : I32 lb) :
    Calls Try.prog 11 #[va, vb] w (Made false (fun y => hasB la y && !hasB lb y) (4 * la.length + 4 * lb.length) w) := by
  have hP := Lib.hid (paired_any la lb va vb w ha hb hla hlb h1 h2)
  have hS := Lib.hid (fun (d : List (Int × Int)) (v' : Value) (w1 : World) (h : Gath w d v' w1) (hl : d.length ≤ 10000000) (hin : ∀ p ∈ d, (lowest ≤ p.1 ∧ p.1 ≤ 2147483648) ∧ (-10 ≤ p.2 ∧ p.2 ≤ 10)) => stretchB_any _ enterM (fun o => decide (o = 1)) Minus1_any d v' w.heap.size w1 h.1 hl hin)
  have HI1 := Lib.hid h1
  have HI2 := Lib.hid h2
  have HLA := Lib.hid hla
  have HLB := Lib.hid hlb
  obtain ⟨a1, c1, rfl, hc1, hR1⟩ := ha
  obtain ⟨a2, c2, rfl, hc2, hR2⟩ := hb
  clear hR1 hR2 h1 h2 hla hlb
  generalize hLA : la.length = LA at *
  generalize hLB : lb.length = LB at *
  go_enter Try.func11, Try.ntmps11
  go_wp2_with fail
  refine hP.out.mono ?_
  rintro e w1 ⟨v1, na, nb, rfl, hr1, hr2, hi1, hi2, hn, hG⟩
  have hin := pair_in hi1 hi2
  have hC := Lib.hid (hS.out _ _ _ hG (by have := HLA.out; have := HLB.out; omega) hin)
  have HF := Lib.hid (fun d (hp : (endsL 1 na ++ endsL 2 nb).Perm d) (hu : Up d) => emit_bool (c := fun o => decide (o = 1)) (σ := fun y => hasB la y && !hasB lb y) hp hu (fun p h => (hin p h).1) (by decide) (fun y => by
    rw [upto_pair hr1 hr2 HI1.out HI2.out hi1 hi2]
    cases hasB la y <;> cases hasB lb y <;> rfl) (fun y hy => by
    have := (pair_over hr1 hr2 HI1.out HI2.out hi1 hi2 hy).1
    rw [this]; rfl) (fun y hy => hasB_in HI1.out (by revert hy; cases hasB la y <;> simp)))
  have HG := Lib.hid hG
  have HN := Lib.hid hn
  clear hr1 hr2 hi1 hi2 hn hG hin
  go_wp2_with fail
  refine hC.out.mono ?_
  rintro e w2 ⟨d, v2, w3, hp, hu, rfl, ho, hg, hb⟩
  go_wp2_with fail
  go_ret
  obtain ⟨r1, r2, r3⟩ := HF.out d hp hu
  have hb1 := HG.out.2
  have hb3 : Below w.heap.size w w3 := hb1.grown hg hb1.size (fun k hk => (HG.out.1.lt k hk).1)
  exact ⟨_, _, rfl, ho.mono hb1.size, r1, r2, Nat.le_trans r3 HN.out, hb3.trans (hb.mono hb3.size)⟩
set_option maxHeartbeats 1000000 in
theorem BothRn_any (la lb : List (Int × Int)) (va vb : Value) (w : World) (ha : RL w va la) (hb : RL w vb lb) (hla : la.length ≤ 100000) (hlb : lb.length ≤ 100000) (h1 : I32 la) (h2 : I32 lb) :
    Calls Try.prog 12 #[va, vb] w (Made false (fun y => hasB la y && hasB lb y) (4 * la.length + 4 * lb.length) w) := by
  have hP := Lib.hid (paired_any la lb va vb w ha hb hla hlb h1 h2)
  have hS := Lib.hid (fun (d : List (Int × Int)) (v' : Value) (w1 : World) (h : Gath w d v' w1) (hl : d.length ≤ 10000000) (hin : ∀ p ∈ d, (lowest ≤ p.1 ∧ p.1 ≤ 2147483648) ∧ (-10 ≤ p.2 ∧ p.2 ≤ 10)) => stretchB_any _ enterO (fun o => decide (o = 3)) Both1_any d v' w.heap.size w1 h.1 hl hin)
  have HI1 := Lib.hid h1
  have HI2 := Lib.hid h2
  have HLA := Lib.hid hla
  have HLB := Lib.hid hlb
  obtain ⟨a1, c1, rfl, hc1, hR1⟩ := ha
  obtain ⟨a2, c2, rfl, hc2, hR2⟩ := hb
  clear hR1 hR2 h1 h2 hla hlb
  generalize hLA : la.length = LA at *
  generalize hLB : lb.length = LB at *
  go_enter Try.func12, Try.ntmps12
  go_wp2_with fail
  refine hP.out.mono ?_
  rintro e w1 ⟨v1, na, nb, rfl, hr1, hr2, hi1, hi2, hn, hG⟩
  have hin := pair_in hi1 hi2
  have hC := Lib.hid (hS.out _ _ _ hG (by have := HLA.out; have := HLB.out; omega) hin)
  have HF := Lib.hid (fun d (hp : (endsL 1 na ++ endsL 2 nb).Perm d) (hu : Up d) => emit_bool (c := fun o => decide (o = 3)) (σ := fun y => hasB la y && hasB lb y) hp hu (fun p h => (hin p h).1) (by decide) (fun y => by
    rw [upto_pair hr1 hr2 HI1.out HI2.out hi1 hi2]
    cases hasB la y <;> cases hasB lb y <;> rfl) (fun y hy => by
    have := (pair_over hr1 hr2 HI1.out HI2.out hi1 hi2 hy).1
    rw [this]; rfl) (fun y hy => hasB_in HI1.out (by revert hy; cases hasB la y <;> simp)))
  have HG := Lib.hid hG
  have HN := Lib.hid hn
  clear hr1 hr2 hi1 hi2 hn hG hin
  go_wp2_with fail
  refine hC.out.mono ?_
  rintro e w2 ⟨d, v2, w3, hp, hu, rfl, ho, hg, hb⟩
  go_wp2_with fail
  go_ret
  obtain ⟨r1, r2, r3⟩ := HF.out d hp hu
  have hb1 := HG.out.2
  have hb3 : Below w.heap.size w w3 := hb1.grown hg hb1.size (fun k hk => (HG.out.1.lt k hk).1)
  exact ⟨_, _, rfl, ho.mono hb1.size, r1, r2, Nat.le_trans r3 HN.out, hb3.trans (hb.mono hb3.size)⟩
end Go.Proofs.Ytianappapfpbeaa
