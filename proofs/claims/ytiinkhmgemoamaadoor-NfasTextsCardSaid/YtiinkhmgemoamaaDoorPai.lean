/- The contracts of the two tests of how great a grammar is. -/
import Derived.Test.YtiinkhmgemoamaaDoorPad
namespace Go.Proofs.YtiinkhmgemoamaaDoor
open Go Go.RowKit Nu
set_option maxRecDepth 100000

set_option maxHeartbeats 2000000 in
theorem Great4_any (nm : ByteArray) (o1 o2 : Int) (rs : List Nu.Rl) (v : Value) (w : World) (hG : GrV w nm o1 o2 rs v) :
 Calls Tryd.prog 13 #[v] w fun e w' => e = .returned (.bool (g4 nm rs)) ∧ Below w.heap.size w w' := by
 obtain ⟨ra, rc, rfl, hnm, hrc, hR⟩ := hG
 obtain ⟨RN, hRN⟩ : ∃ k, rs.length = k := ⟨_, rfl⟩
 have HRN := Lib.hid hRN
 have e : g4 nm rs = (decide (80 < RN) || (rs.any (fun r => decide (3000 < Nd.wt 0 r.body) || decide (200 < r.name.size)) || decide (200 < nm.size))) := by unfold g4; rw [hRN]
 rw [e]
 rw [hRN] at hrc ⊢
 have n1 : (RN : Int) ≤ 9223372036854775807 := by omega
 clear hRN e
 obtain ⟨NS, hNS⟩ : ∃ k, nm.size = k := ⟨_, rfl⟩
 have q0 : decide (80 < RN) = decide (80 < (RN : Int)) := by
  by_cases h : 80 < RN
  · rw [decide_eq_true h, decide_eq_true (by omega)]
  · rw [decide_eq_false h, decide_eq_false (by omega)]
 have q1 : decide (200 < nm.size) = decide (200 < (nm.size : Int)) := by
  by_cases h : 200 < nm.size
  · rw [decide_eq_true h, decide_eq_true (by omega)]
  · rw [decide_eq_false h, decide_eq_false (by omega)]
 clear hNS
 by_cases h80 : 80 < RN
 · have d0 : decide (80 < (RN : Int)) = true := by rw [decide_eq_true_iff]; omega
   have d1 : 80 < (RN : Int) := by omega
   rw [q0, d0, Bool.true_or]
   clear q0 q1
   go_enter Tryd.func13, Tryd.ntmps13
   go_wp2_with fail
   go_ret
   exact ⟨rfl, (Below.refl _ w).alloc (Nat.le_refl _) _⟩
 · have d0 : decide (80 < (RN : Int)) = false := by rw [decide_eq_false_iff_not]; omega
   have d1 : ¬ 80 < (RN : Int) := by omega
   rw [q0, d0, Bool.false_or, q1]
   clear q0 q1
   obtain ⟨TT, hTT⟩ : ∃ k, (rs.any (fun r => decide (3000 < Nd.wt 0 r.body) || decide (200 < r.name.size)) || decide (200 < (nm.size : Int))) = k := ⟨_, rfl⟩
   have HTT := Lib.hid hTT
   rw [hTT]
   clear hTT
   go_enter Tryd.func13, Tryd.ntmps13
   go_wp2_with fail
   go_loopw [3] (fun i wr => ∃ p : Nat, p ≤ RN ∧ i = .int .i64 p ∧ Hid (((rs.drop p).any (fun r => decide (3000 < Nd.wt 0 r.body) || decide (200 < r.name.size)) || decide (200 < (nm.size : Int))) = TT) ∧ Bk wr w.heap.size 26 #[.string nm, .int .i64 o1, .int .i64 o2, .slice ra RN rc] ∧ Below w.heap.size w wr) (fun i _ => RN - (intOf i).toNat)
   case atStart => exact ⟨0, Nat.zero_le _, rfl, by rw [List.drop_zero]; exact HTT, Bk.made w 26 _, (Below.refl _ w).alloc (Nat.le_refl _) _⟩
   case round =>
    obtain ⟨p, hp, rfl, hT, hK, hB⟩ := hrel
    have c0 := hK.cell 0
    have c3 := hK.cell 3
    simp at c0 c3
    by_cases hlt : p < RN
    · have d2 : decide (p < RN) = true := by rw [decide_eq_true_iff]; exact hlt
      have p0 : (p : Int) < (RN : Int) := by omega
      obtain ⟨r, hr⟩ : ∃ r, rs[p]? = some r := ⟨_, List.getElem?_eq_getElem (by rw [HRN.out]; exact hlt)⟩
      obtain ⟨g, o, rfl, v0, v1, v2, v3, v4, a0, a1, a2, a3, a4, a5, a6, a7, a8, a9, hAs, _, hns⟩ := hR p r hr
      have e0 := Nd.cell_keeps hB a0
      have e2 := Nd.cell_keeps hB a2
      have e3 := Nd.cell_keeps hB a3
      have e4 := Nd.cell_keeps hB a4
      have e5 := Nd.cell_keeps hB a5
      have e6 := Nd.cell_keeps hB a6
      have hst : ((decide (3000 < Nd.wt 0 r.body) || decide (200 < r.name.size)) || ((rs.drop (p + 1)).any (fun r => decide (3000 < Nd.wt 0 r.body) || decide (200 < r.name.size)) || decide (200 < (nm.size : Int)))) = TT := by
       rw [← hT.out, Nd.drop_some hr, List.any_cons]; simp only [Bool.or_assoc]
      have hC := Great_any r.body _ wr (hAs.below hB)
      have q1 : decide (200 < r.name.size) = decide (200 < (r.name.size : Int)) := by
       by_cases h : 200 < r.name.size
       · rw [decide_eq_true h, decide_eq_true (by omega)]
       · rw [decide_eq_false h, decide_eq_false (by omega)]
      rw [q1] at hst
      obtain ⟨x, hx⟩ : ∃ x, decide (3000 < Nd.wt 0 r.body) = x := ⟨_, rfl⟩
      obtain ⟨y, hy⟩ : ∃ y, decide (200 < (r.name.size : Int)) = y := ⟨_, rfl⟩
      rw [hx, hy] at hst
      rw [hx] at hC
      have HST := Lib.hid hst
      obtain ⟨sa1, sc1, ba1, bc1, rfl, rfl, rfl, rfl, rfl⟩ := hAs.five
      generalize r.body.kind = sk at *
      generalize r.body.name = sn at *
      generalize r.body.text = sx at *
      generalize r.body.set.length = sl at *
      generalize r.body.subs.length = sm at *
      generalize r.name = rn at *
      replace hC := Lib.hid hC
      clear a0 a1 a2 a3 a4 a5 a6 a7 a8 a9 hAs hr hst hx q1 hT
      cases x
      · cases y
        · have y1 : ¬ 200 < (rn.size : Int) := of_decide_eq_false hy
          go_wp2_with (go_at_call 27; refine hC.out.mono ?_; rintro e w' ⟨rfl, hb⟩; have c3' := (hK.below hb hK.lt).cell 3; simp at c3'; have e0' := Nd.cell_keeps hb e0)
          refine ⟨⟨p + 1, by omega, by go_num, by have := HST.out; simp only [Bool.false_or] at this; exact Lib.hid this, hK.below hb hK.lt, hB.trans (hb.mono hB.size)⟩, by simp [intOf]; omega⟩
        · have y1 : 200 < (rn.size : Int) := of_decide_eq_true hy
          go_wp2_with (go_at_call 27; refine hC.out.mono ?_; rintro e w' ⟨rfl, hb⟩; have c3' := (hK.below hb hK.lt).cell 3; simp at c3'; have e0' := Nd.cell_keeps hb e0)
          go_ret
          exact ⟨by have := HST.out; simp only [Bool.true_or, Bool.or_true] at this; rw [← this]; rfl, hB.trans (hb.mono hB.size)⟩
      · clear hy
        go_wp2_with (go_at_call 27; refine hC.out.mono ?_; rintro e w' ⟨rfl, hb⟩)
        go_ret
        exact ⟨by have := HST.out; simp only [Bool.true_or] at this; rw [← this]; rfl, hB.trans (hb.mono hB.size)⟩
    · have d2 : decide (p < RN) = false := by rw [decide_eq_false_iff_not]; exact hlt
      have hfin : decide (200 < (nm.size : Int)) = TT := by
       rw [← hT.out, List.drop_eq_nil_of_le (by rw [HRN.out]; omega)]
       simp only [List.any_nil, Bool.false_or]
      have HF := Lib.hid hfin
      clear hfin hT
      go_wp2_with fail
      go_ret
      exact ⟨by rw [← HF.out]; rfl, hB⟩
theorem Nu.GrV.below {w w' : World} (hb : Below w.heap.size w w') {nm : ByteArray} {o1 o2 : Int} {rs : List Nu.Rl} {v : Value} : GrV w nm o1 o2 rs v → GrV w' nm o1 o2 rs v
 | ⟨ra, rc, hv, h1, h2, h3⟩ => ⟨ra, rc, hv, h1, h2, h3.below hb⟩
set_option maxHeartbeats 2000000 in
theorem Great5_any (nm : ByteArray) (o1 o2 : Int) (rs : List Nu.Rl) (v : Value) (w : World) (hG : GrV w nm o1 o2 rs v) :
 Calls Tryd.prog 5 #[v] w fun e w' => e = .returned (.bool (g5 nm rs)) ∧ Below w.heap.size w w' := by
 have hC0 := fun o => Great4_any nm o1 o2 rs v (w.alloc o) (hG.below ((Below.refl _ w).alloc (Nat.le_refl _) o))
 obtain ⟨ra, rc, rfl, hnm, hrc, hR⟩ := hG
 obtain ⟨RN, hRN⟩ : ∃ k, rs.length = k := ⟨_, rfl⟩
 have HRN := Lib.hid hRN
 obtain ⟨g, hg⟩ : ∃ g, g4 nm rs = g := ⟨_, rfl⟩
 have hsm : g = false → ∀ r ∈ rs, Nd.count r.body ≤ 3000 := by
  intro h0 r hr
  rw [h0] at hg
  simp only [g4, Bool.or_eq_false_iff, decide_eq_false_iff_not, List.any_eq_false] at hg
  have := hg.2.1 r hr
  simp only [Bool.or_eq_true, decide_eq_true_iff, not_or] at this
  have := (Nd.wt_small r.body 0 (by omega)).2
  omega
 have e : g5 nm rs = ((g || decide (20 < RN)) || decide (500 < sum rs)) := by unfold g5; rw [hRN, hg]
 rw [e]
 rw [hg, hRN] at hC0
 rw [hRN] at hrc ⊢
 have n1 : (RN : Int) ≤ 9223372036854775807 := by omega
 clear hRN e hg
 have q0 : decide (20 < RN) = decide (20 < (RN : Int)) := by
  by_cases h : 20 < RN
  · rw [decide_eq_true h, decide_eq_true (by omega)]
  · rw [decide_eq_false h, decide_eq_false (by omega)]
 rw [q0]
 clear q0
 have HC0 := Lib.hid hC0
 clear hC0
 cases g
 · have hsm2 := hsm rfl
   clear hsm
   rw [Bool.false_or]
   by_cases h20 : 20 < RN
   · have d0 : decide (20 < (RN : Int)) = true := by rw [decide_eq_true_iff]; omega
     have d1 : 20 < (RN : Int) := by omega
     rw [d0, Bool.true_or]
     go_enter Tryd.func5, Tryd.ntmps5
     have hk := Bk.made w 26 #[.string nm, .int .i64 o1, .int .i64 o2, .slice ra RN rc]
     go_wp2_with (go_at_call 13; refine (HC0.out _).mono ?_; rintro e w' ⟨rfl, hb⟩; have hk2 := hk.below hb hk.lt; have c3 := hk2.cell 3; simp at c3)
     go_ret
     exact ⟨rfl, ((Below.refl _ w).alloc (Nat.le_refl _) _).trans (hb.mono (by simp))⟩
   · have d0 : decide (20 < (RN : Int)) = false := by rw [decide_eq_false_iff_not]; omega
     have d1 : ¬ 20 < (RN : Int) := by omega
     rw [d0, Bool.false_or]
     have hsmall : ∀ (l : List Nu.Rl), (∀ r ∈ l, Nd.count r.body ≤ 3000) → sum l ≤ 3000 * l.length := by
      intro l hl
      induction l with
      | nil => simp [sum]
      | cons q l ihl =>
       have h1 := hl q (by simp)
       have h2 := ihl (fun r hr => hl r (by simp [hr]))
       simp only [sum, List.length_cons]; omega
     have hs20 := hsmall rs hsm2
     rw [HRN.out] at hs20
     obtain ⟨TT, hTT⟩ : ∃ k, sum rs = k := ⟨_, rfl⟩
     have HTT := Lib.hid (show 0 + sum rs = TT by omega)
     rw [hTT] at hs20 ⊢
     have q1 : decide (500 < TT) = decide (500 < (TT : Int)) := by
      by_cases h : 500 < TT
      · rw [decide_eq_true h, decide_eq_true (by omega)]
      · rw [decide_eq_false h, decide_eq_false (by omega)]
     rw [q1]
     clear hTT q1 hsmall
     go_enter Tryd.func5, Tryd.ntmps5
     have hk := Bk.made w 26 #[.string nm, .int .i64 o1, .int .i64 o2, .slice ra RN rc]
     go_wp2_with (go_at_call 13; refine (HC0.out _).mono ?_; rintro e w' ⟨rfl, hb⟩; have hk2 := hk.below hb hk.lt; have c3 := hk2.cell 3; simp at c3)
     have hB0 : Below w.heap.size w w' := ((Below.refl _ w).alloc (Nat.le_refl _) _).trans (hb.mono (by simp))
     clear hk hb c3
     go_loopw [3, 4] (fun a i wr => ∃ p acc : Nat, p ≤ RN ∧ i = .int .i64 p ∧ a = .int .i64 acc ∧ Hid (acc + sum (rs.drop p) = TT) ∧ Bk wr w.heap.size 26 #[.string nm, .int .i64 o1, .int .i64 o2, .slice ra RN rc] ∧ Below w.heap.size w wr) (fun _ i _ => RN - (intOf i).toNat)
     case atStart => exact ⟨0, 0, Nat.zero_le _, rfl, rfl, by rw [List.drop_zero]; exact HTT, hk2, hB0⟩
     case round =>
      clear hk2 hB0
      obtain ⟨p, acc, hp, rfl, rfl, hT, hK, hB⟩ := hrel
      have c3 := hK.cell 3
      simp at c3
      have haT : acc ≤ TT := by have := hT.out; omega
      obtain ⟨A, hA⟩ : ∃ A : Int, (acc : Int) = A := ⟨_, rfl⟩
      rw [hA]
      by_cases hlt : p < RN
      · have d2 : decide (p < RN) = true := by rw [decide_eq_true_iff]; exact hlt
        have p0 : (p : Int) < (RN : Int) := by omega
        obtain ⟨r, hr⟩ : ∃ r, rs[p]? = some r := ⟨_, List.getElem?_eq_getElem (by rw [HRN.out]; exact hlt)⟩
        obtain ⟨g, o, rfl, v0, v1, v2, v3, v4, a0, a1, a2, a3, a4, a5, a6, a7, a8, a9, hAs, _, hns⟩ := hR p r hr
        have e2 := Nd.cell_keeps hB a2
        have e3 := Nd.cell_keeps hB a3
        have e4 := Nd.cell_keeps hB a4
        have e5 := Nd.cell_keeps hB a5
        have e6 := Nd.cell_keeps hB a6
        have hst : acc + Nd.count r.body + sum (rs.drop (p + 1)) = TT := by
         rw [← hT.out, Nd.drop_some hr]
         simp only [sum]
         omega
        have hC := many_any r.body _ wr (hAs.below hB) (by omega)
        obtain ⟨CW, hCW⟩ : ∃ A : Int, (Nd.count r.body : Int) = A := ⟨_, rfl⟩
        rw [hCW] at hC
        have hA2 : ((acc + Nd.count r.body : Nat) : Int) = A + CW := by omega
        have HA2 := Lib.hid hA2
        have HST := Lib.hid hst
        have w4 : IntKind.i64.wrap (A + CW) = A + CW := IntWalk.i64_in _ (by omega)
        obtain ⟨CN, hCN⟩ : ∃ A, Nd.count r.body = A := ⟨_, rfl⟩
        rw [hCN] at HST HA2
        obtain ⟨sa1, sc1, ba1, bc1, rfl, rfl, rfl, rfl, rfl⟩ := hAs.five
        generalize r.body.kind = sk at *
        generalize r.body.name = sn at *
        generalize r.body.text = sx at *
        generalize r.body.set.length = sl at *
        generalize r.body.subs.length = sm at *
        replace hC := Lib.hid hC
        clear a0 a1 a2 a3 a4 a5 a6 a7 a8 a9 hAs hr hst hCW hA hA2 haT hT hsm2 HC0 hs20 hCN
        go_wp2_with (go_at_call 14; refine hC.out.mono ?_; rintro e w' ⟨rfl, hb⟩)
        refine ⟨⟨p + 1, acc + CN, by omega, by go_num, by rw [HA2.out], HST, hK.below hb hK.lt, hB.trans (hb.mono hB.size)⟩, by simp [intOf]; omega⟩
      · have d2 : decide (p < RN) = false := by rw [decide_eq_false_iff_not]; exact hlt
        have hfin : acc = TT := by
         rw [← hT.out, List.drop_eq_nil_of_le (by rw [HRN.out]; omega)]
         simp only [sum]; omega
        have HF := Lib.hid (show A = (TT : Int) by omega)
        clear hT hfin hA haT hsm2 HC0 hs20
        go_wp2_with fail
        go_ret
        exact ⟨by rw [← HF.out]; rfl, hB⟩
 · clear hsm
   rw [Bool.true_or, Bool.true_or]
   go_enter Tryd.func5, Tryd.ntmps5
   go_wp2_with (go_at_call 13; refine (HC0.out _).mono ?_; rintro e w' ⟨rfl, hb⟩)
   go_ret
   exact ⟨rfl, ((Below.refl _ w).alloc (Nat.le_refl _) _).trans (hb.mono (by simp))⟩
end Go.Proofs.YtiinkhmgemoamaaDoor
