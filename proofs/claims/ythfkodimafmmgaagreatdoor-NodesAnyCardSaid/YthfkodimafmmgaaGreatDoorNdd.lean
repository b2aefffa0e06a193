/- The chapter's own Same. -/
import Derived.Test.YthfkodimafmmgaaGreatDoorNdc
import Derived.Test.YthfkodimafmmgaaGreatDoorNdS
import Derived.Deep.RegionHeld3
import Derived.Deep.RegionWith
import Derived.Deep.DeepCutAuto
namespace Go.Proofs.YthfkodimafmmgaaGreatDoor
open Go Go.RowKit Ru
set_option maxRecDepth 100000

def RefSameOk (t : Nd.T) : Prop := ∀ (u : Nd.T) (v v2 : Value) (w : World), Nd.At w t v → Nd.At w u v2 →
  Calls Tryz.prog 13 #[v, v2] w fun e w' => e = .returned (.bool (Nd.sameB t u)) ∧ Below w.heap.size w w'
set_option maxHeartbeats 4000000 in
theorem refSame_any (t : Nd.T) : RefSameOk t := by
  induction t using Nd.T.ind with | _ k nm tx st sb ih => ?_
  rintro ⟨k', nm', tx', st', sb'⟩ v v2 w hA hA'
  have hL := hA.subs
  have hL' := hA'.subs
  unfold Nd.At at hA hA'
  obtain ⟨sa, sc, ba, bc, rfl, _, _, _, hsc, hbc, hR, _⟩ := hA
  obtain ⟨sa', sc', ba', bc', rfl, _, _, _, hsc', hbc', hR', _⟩ := hA'
  have e0 : Nd.subsA (.agg #[.int .u8 k, .string nm, .string tx, .slice sa st.length sc, .slice ba sb.length bc]) = ba := rfl
  have e1 : Nd.subsA (.agg #[.int .u8 k', .string nm', .string tx', .slice sa' st'.length sc', .slice ba' sb'.length bc']) = ba' := rfl
  rw [e0] at hL
  rw [e1] at hL'
  have hS : Nd.sameB (.mk k nm tx st sb) (.mk k' nm' tx' st' sb') = ((k == k') && ((nm.toList == nm'.toList) && ((tx.toList == tx'.toList) && (decide (st = st') && Nd.sameL sb sb')))) := by simp only [Nd.sameB]
  rw [hS]
  obtain ⟨LS, hLS⟩ : ∃ b, Nd.sameL sb sb' = b := ⟨_, rfl⟩
  obtain ⟨DS, hDS⟩ : ∃ b, decide (st = st') = b := ⟨_, rfl⟩
  have HLS := Lib.hid hLS
  have HDS := Lib.hid hDS
  rw [hLS, hDS]
  obtain ⟨SL, hSL⟩ : ∃ n, st.length = n := ⟨_, rfl⟩
  obtain ⟨SL', hSL'⟩ : ∃ n, st'.length = n := ⟨_, rfl⟩
  obtain ⟨SN, hSN⟩ : ∃ n, sb.length = n := ⟨_, rfl⟩
  obtain ⟨SN', hSN'⟩ : ∃ n, sb'.length = n := ⟨_, rfl⟩
  have HSL := Lib.hid hSL
  have HSL' := Lib.hid hSL'
  have HSN := Lib.hid hSN
  have HSN' := Lib.hid hSN'
  rw [hSL] at hsc ⊢
  rw [hSL'] at hsc' ⊢
  rw [hSN] at hbc ⊢
  rw [hSN'] at hbc' ⊢
  generalize hbn : (nm.toList == nm'.toList) = BN at *
  generalize hbx : (tx.toList == tx'.toList) = BX at *
  generalize hbk : (k == k') = BK at *
  have HB := Lib.hid (((Below.refl _ w).alloc (Nat.le_refl _) (.cells #[.int .u8 k, .string nm, .string tx, .slice sa SL sc, .slice ba SN bc] 26)).alloc (by rw [World.size_alloc]; omega) (.cells #[.int .u8 k', .string nm', .string tx', .slice sa' SL' sc', .slice ba' SN' bc'] 26))
  have HK1 := Lib.hid ((Bk.made w 26 #[.int .u8 k, .string nm, .string tx, .slice sa SL sc, .slice ba SN bc]).alloc (.cells #[.int .u8 k', .string nm', .string tx', .slice sa' SL' sc', .slice ba' SN' bc'] 26))
  have HK2 := Lib.hid (show Bk ((w.alloc (.cells #[.int .u8 k, .string nm, .string tx, .slice sa SL sc, .slice ba SN bc] 26)).alloc (.cells #[.int .u8 k', .string nm', .string tx', .slice sa' SL' sc', .slice ba' SN' bc'] 26)) (w.heap.size + 1) 26 _ from by
    have := Bk.made (w.alloc (.cells #[.int .u8 k, .string nm, .string tx, .slice sa SL sc, .slice ba SN bc] 26)) 26 #[.int .u8 k', .string nm', .string tx', .slice sa' SL' sc', .slice ba' SN' bc']
    rwa [World.size_alloc] at this)
  have HR := Lib.hid hR
  have HR' := Lib.hid hR'
  have HL := Lib.hid hL
  have HL' := Lib.hid hL'
  clear hL hL' hR hR' hS e0 e1 hLS hDS hSL hSL' hSN hSN'
  cases BK with
  | false =>
    have q0 : (k != k') = true := by simp only [bne, hbk]; rfl
    go_enter Tryz.func13, Tryz.ntmps13
    go_wp2_with fail
    go_ret
    exact ⟨rfl, HB.out⟩
  | true =>
    have q0 : (k != k') = false := by simp only [bne, hbk]; rfl
    cases BN with
    | false =>
      have hq : ¬ nm.toList = nm'.toList := by simpa using hbn
      have q1 : (nm.toList != nm'.toList) = true := by simp only [bne, hbn]; rfl
      go_enter Tryz.func13, Tryz.ntmps13
      go_wp2_with fail
      go_ret
      exact ⟨rfl, HB.out⟩
    | true =>
      have q1 : (nm.toList != nm'.toList) = false := by simp only [bne, hbn]; rfl
      cases BX with
      | false =>
        have hq : ¬ tx.toList = tx'.toList := by simpa using hbx
        have q2 : (tx.toList != tx'.toList) = true := by simp only [bne, hbx]; rfl
        go_enter Tryz.func13, Tryz.ntmps13
        go_wp2_with fail
        go_ret
        exact ⟨rfl, HB.out⟩
      | true =>
        have q2 : (tx.toList != tx'.toList) = false := by simp only [bne, hbx]; rfl
        by_cases hne : SL = SL'
        · subst hne
          by_cases hnn : SN = SN'
          · subst hnn
            have n1 : (SN : Int) ≤ 9223372036854775807 := by omega
            have n2 : (SL : Int) ≤ 9223372036854775807 := by omega
            have q3 : ((SL : Int) != (SL : Int)) = false := by simp
            have q4 : ((SN : Int) != (SN : Int)) = false := by simp
            have hq1 : nm.toList = nm'.toList := by simpa using hbn
            have hq2 : tx.toList = tx'.toList := by simpa using hbx
            clear hbn hbx hbk
            go_enter Tryz.func13, Tryz.ntmps13
            go_wp2_with fail
            go_loopw [5] (fun i wr => ∃ p : Nat, p ≤ SL ∧ i = .int .i64 p ∧ Hid (st.take p = st'.take p) ∧ Bk wr w.heap.size 26 #[.int .u8 k, .string nm, .string tx, .slice sa SL sc, .slice ba SN bc] ∧ Bk wr (w.heap.size + 1) 26 #[.int .u8 k', .string nm', .string tx', .slice sa' SL sc', .slice ba' SN bc'] ∧ Below w.heap.size w wr) (fun i _ => SL - (intOf i).toNat)
            case atStart => exact ⟨0, Nat.zero_le _, rfl, Lib.hid (by simp), HK1.out, HK2.out, HB.out⟩
            case round =>
              obtain ⟨p, hp, rfl, hT, hK1, hK2, hB⟩ := hrel
              have c3 := hK1.cell 3
              have c4 := hK1.cell 4
              have d3 := hK2.cell 3
              have d4 := hK2.cell 4
              simp at c3 c4 d3 d4
              by_cases hlt : p < SL
              · obtain ⟨pp, hp1⟩ : ∃ x, st[p]? = some x := ⟨_, List.getElem?_eq_getElem (by rw [HSL.out]; exact hlt)⟩
                obtain ⟨qq, hq1⟩ : ∃ x, st'[p]? = some x := ⟨_, List.getElem?_eq_getElem (by rw [HSL'.out]; exact hlt)⟩
                obtain ⟨g1, o1, rfl, x1, x2⟩ := HR.out.get p pp hp1
                obtain ⟨g2, o2, rfl, y1, y2⟩ := HR'.out.get p qq hq1
                obtain ⟨pa, pb⟩ := pp
                obtain ⟨qa, qb⟩ := qq
                dsimp only at x1 x2 y1 y2
                replace x1 := Nd.cell_keeps hB x1
                replace x2 := Nd.cell_keeps hB x2
                replace y1 := Nd.cell_keeps hB y1
                replace y2 := Nd.cell_keeps hB y2
                have d0 : decide (p < SL) = true := by rw [decide_eq_true_iff]; exact hlt
                have a0 : (p : Int) < (SL : Int) := by omega
                have hgetne : (pa, pb) ≠ (qa, qb) → DS = false := by
                  intro h
                  rw [← HDS.out]
                  refine decide_eq_false (fun e => ?_)
                  rw [e, hq1] at hp1
                  exact h (Option.some.inj hp1).symm
                have hstep : (pa, pb) = (qa, qb) → st.take (p + 1) = st'.take (p + 1) := by
                  intro h
                  rw [List.take_add_one, List.take_add_one, hp1, hq1, hT.out, h]
                have HG := Lib.hid hgetne
                have HSt := Lib.hid hstep
                have HKP := Lib.hid (fun n => And.intro (hK1.below (below_drewN (Below.refl wr.heap.size wr) n) hK1.lt) (And.intro (hK2.below (below_drewN (Below.refl wr.heap.size wr) n) hK2.lt) (hB.trans ((below_drewN (Below.refl wr.heap.size wr) n).mono hB.size))))
                clear hgetne hstep hp1 hq1 hT
                by_cases hac : pa = qa
                · by_cases hbd : pb = qb
                  · subst hac hbd
                    have HT := Lib.hid (HSt.out rfl)
                    go_wp2_with fail
                    go_quiet (fail)
                    go_wp2_with fail
                    exact ⟨⟨p + 1, by omega, by go_num, HT, (HKP.out _).1, (HKP.out _).2.1, (HKP.out _).2.2⟩, by simp [intOf]; omega⟩
                  · have HF := Lib.hid (HG.out (fun e => hbd (Prod.mk.inj e).2))
                    have q0 : (pb == qb) = false := by rw [beq_eq_false_iff_ne]; exact hbd
                    have q0' : (pb != qb) = true := by rw [bne_iff_ne]; exact hbd
                    subst hac
                    go_wp2_with fail
                    go_quiet (fail)
                    go_wp2_with fail
                    go_ret
                    exact ⟨by rw [HF.out]; rfl, (HKP.out _).2.2⟩
                · have HF := Lib.hid (HG.out (fun e => hac (Prod.mk.inj e).1))
                  have q0 : (pa == qa) = false := by rw [beq_eq_false_iff_ne]; exact hac
                  have q0' : (pa != qa) = true := by rw [bne_iff_ne]; exact hac
                  go_wp2_with fail
                  go_quiet (fail)
                  go_wp2_with fail
                  go_ret
                  exact ⟨by rw [HF.out]; rfl, (HKP.out _).2.2⟩
              · have d0 : decide (p < SL) = false := by rw [decide_eq_false_iff_not]; exact hlt
                have HD := Lib.hid (show DS = true from by
                  have := hT.out
                  rw [List.take_of_length_le (by rw [HSL.out]; omega), List.take_of_length_le (by rw [HSL'.out]; omega)] at this
                  rw [← HDS.out]
                  exact decide_eq_true this)
                clear hT
                go_wp2_with fail
                go_loopw [6] (fun i wr => ∃ p : Nat, p ≤ SN ∧ i = .int .i64 p ∧ Hid (Nd.sameL (sb.drop p) (sb'.drop p) = LS) ∧ Bk wr w.heap.size 26 #[.int .u8 k, .string nm, .string tx, .slice sa SL sc, .slice ba SN bc] ∧ Bk wr (w.heap.size + 1) 26 #[.int .u8 k', .string nm', .string tx', .slice sa' SL sc', .slice ba' SN bc'] ∧ Below w.heap.size w wr) (fun i _ => SN - (intOf i).toNat)
                case atStart => exact ⟨0, Nat.zero_le _, rfl, Lib.hid (by rw [List.drop_zero, List.drop_zero]; exact HLS.out), hK1, hK2, hB⟩
                case round =>
                  clear c3 c4 d3 d4 hK1 hK2 hB
                  obtain ⟨j, hj, rfl, hT, hK1, hK2, hB⟩ := hrel
                  have c4 := hK1.cell 4
                  have d4 := hK2.cell 4
                  simp at c4 d4
                  by_cases hlj : j < SN
                  · obtain ⟨s, hs⟩ : ∃ s, sb[j]? = some s := ⟨_, List.getElem?_eq_getElem (by rw [HSN.out]; exact hlj)⟩
                    obtain ⟨u, hu⟩ : ∃ s, sb'[j]? = some s := ⟨_, List.getElem?_eq_getElem (by rw [HSN'.out]; exact hlj)⟩
                    obtain ⟨g, o, v0, v1, v2, v3, v4, rfl, h0, h1, h2, h3, h4, _, hAs⟩ := HL.out.val j s hs
                    obtain ⟨g2, o2, u0, u1, u2, u3, u4, rfl, i0, i1, i2, i3, i4, _, hAu⟩ := HL'.out.val j u hu
                    replace h0 := Nd.cell_keeps hB h0
                    replace h1 := Nd.cell_keeps hB h1
                    replace h2 := Nd.cell_keeps hB h2
                    replace h3 := Nd.cell_keeps hB h3
                    replace h4 := Nd.cell_keeps hB h4
                    replace i0 := Nd.cell_keeps hB i0
                    replace i1 := Nd.cell_keeps hB i1
                    replace i2 := Nd.cell_keeps hB i2
                    replace i3 := Nd.cell_keeps hB i3
                    replace i4 := Nd.cell_keeps hB i4
                    have dj : decide (j < SN) = true := by rw [decide_eq_true_iff]; exact hlj
                    have a0 : (j : Int) < (SN : Int) := by omega
                    have hst2 := hT.out
                    rw [Nd.sameL_step sb sb' j s u hs hu] at hst2
                    have C := fun (wx : World) (h : Below wr.heap.size wr wx) => (ih s (List.mem_of_getElem? hs) u _ _ wx ((hAs.below hB).below h) ((hAu.below hB).below h)).mono (R' := fun e w' => e = .returned (.bool (Nd.sameB s u)) ∧ Below wr.heap.size wr w') fun e w' q => ⟨q.1, h.trans (q.2.mono h.size)⟩
                    obtain ⟨sa1, sc1, ba1, bc1, rfl, rfl, rfl, rfl, rfl⟩ := hAs.five
                    obtain ⟨sa2, sc2, ba2, bc2, rfl, rfl, rfl, rfl, rfl⟩ := hAu.five
                    generalize s.kind = sk at *
                    generalize s.name = sn at *
                    generalize s.text = sx at *
                    generalize s.set.length = sl at *
                    generalize s.subs.length = sm at *
                    generalize u.kind = uk at *
                    generalize u.name = un at *
                    generalize u.text = ux at *
                    generalize u.set.length = ul at *
                    generalize u.subs.length = um at *
                    have HKP := Lib.hid (fun w3 (b : Below wr.heap.size wr w3) => And.intro (hK1.below b hK1.lt) (And.intro (hK2.below b hK2.lt) (hB.trans (b.mono hB.size))))
                    replace C := Lib.hid C
                    clear hAs hAu hs hu hT
                    cases hsb : Nd.sameB s u with
                    | true =>
                      rw [hsb] at C hst2
                      have HT := Lib.hid hst2
                      clear hst2 hsb
                      go_upto_region 11 with fail
                      go_region_held3 (fun w' => w'.cell? ⟨w.heap.size, 4, none⟩ = some (.slice (some ⟨g, o, none⟩) SN bc) ∧ w'.cell? ⟨w.heap.size + 1, 4, none⟩ = some (.slice (some ⟨g2, o2, none⟩) SN bc') ∧ w'.cell? ⟨g, o + j * 5, none⟩ = some (.int .u8 sk) ∧ w'.cell? ⟨g, o + j * 5 + 1, none⟩ = some (.string sn) ∧ w'.cell? ⟨g, o + j * 5 + 2, none⟩ = some (.string sx) ∧ w'.cell? ⟨g, o + j * 5 + 3, none⟩ = some (.slice sa1 sl sc1) ∧ w'.cell? ⟨g, o + j * 5 + 4, none⟩ = some (.slice ba1 sm bc1) ∧ w'.cell? ⟨g2, o2 + j * 5, none⟩ = some (.int .u8 uk) ∧ w'.cell? ⟨g2, o2 + j * 5 + 1, none⟩ = some (.string un) ∧ w'.cell? ⟨g2, o2 + j * 5 + 2, none⟩ = some (.string ux) ∧ w'.cell? ⟨g2, o2 + j * 5 + 3, none⟩ = some (.slice sa2 ul sc2) ∧ w'.cell? ⟨g2, o2 + j * 5 + 4, none⟩ = some (.slice ba2 um bc2)) (go_keep)
                        (first | (go_at_call 13; refine (C.out _ (by exact ⟨rfl, rfl, rfl, Nat.le_refl _, fun _ _ => rfl⟩)).mono ?_; rintro e w3 ⟨rfl, b3⟩; have k0 : w3.cell? ⟨w.heap.size, 4, none⟩ = some (.slice (some ⟨g, o, none⟩) SN bc) := Nd.cell_keeps b3 c4; have k1 : w3.cell? ⟨w.heap.size + 1, 4, none⟩ = some (.slice (some ⟨g2, o2, none⟩) SN bc') := Nd.cell_keeps b3 d4; have k2 : w3.cell? ⟨g, o + j * 5, none⟩ = some (.int .u8 sk) := Nd.cell_keeps b3 h0; have k3 : w3.cell? ⟨g, o + j * 5 + 1, none⟩ = some (.string sn) := Nd.cell_keeps b3 h1; have k4 : w3.cell? ⟨g, o + j * 5 + 2, none⟩ = some (.string sx) := Nd.cell_keeps b3 h2; have k5 : w3.cell? ⟨g, o + j * 5 + 3, none⟩ = some (.slice sa1 sl sc1) := Nd.cell_keeps b3 h3; have k6 : w3.cell? ⟨g, o + j * 5 + 4, none⟩ = some (.slice ba1 sm bc1) := Nd.cell_keeps b3 h4; have k7 : w3.cell? ⟨g2, o2 + j * 5, none⟩ = some (.int .u8 uk) := Nd.cell_keeps b3 i0; have k8 : w3.cell? ⟨g2, o2 + j * 5 + 1, none⟩ = some (.string un) := Nd.cell_keeps b3 i1; have k9 : w3.cell? ⟨g2, o2 + j * 5 + 2, none⟩ = some (.string ux) := Nd.cell_keeps b3 i2; have k10 : w3.cell? ⟨g2, o2 + j * 5 + 3, none⟩ = some (.slice sa2 ul sc2) := Nd.cell_keeps b3 i3; have k11 : w3.cell? ⟨g2, o2 + j * 5 + 4, none⟩ = some (.slice ba2 um bc2) := Nd.cell_keeps b3 i4))
                      have HB6 := Lib.hid (HKP.out _ b3)
                      clear c4 d4 h0 h1 h2 h3 h4 i0 i1 i2 i3 i4 k0 k1 k2 k3 k4 k5 k6 k7 k8 k9 k10 k11 b3
                      go_wp2_with fail
                      exact ⟨⟨j + 1, by omega, by go_num, HT, HB6.out.1, HB6.out.2.1, HB6.out.2.2⟩, by simp [intOf]; omega⟩
                    | false =>
                      rw [hsb, Bool.false_and] at hst2
                      rw [hsb] at C
                      have HT := Lib.hid hst2
                      clear hst2 hsb
                      go_upto_region 11 with fail
                      go_region_held3 (fun w' => w'.cell? ⟨w.heap.size, 4, none⟩ = some (.slice (some ⟨g, o, none⟩) SN bc) ∧ w'.cell? ⟨w.heap.size + 1, 4, none⟩ = some (.slice (some ⟨g2, o2, none⟩) SN bc') ∧ w'.cell? ⟨g, o + j * 5, none⟩ = some (.int .u8 sk) ∧ w'.cell? ⟨g, o + j * 5 + 1, none⟩ = some (.string sn) ∧ w'.cell? ⟨g, o + j * 5 + 2, none⟩ = some (.string sx) ∧ w'.cell? ⟨g, o + j * 5 + 3, none⟩ = some (.slice sa1 sl sc1) ∧ w'.cell? ⟨g, o + j * 5 + 4, none⟩ = some (.slice ba1 sm bc1) ∧ w'.cell? ⟨g2, o2 + j * 5, none⟩ = some (.int .u8 uk) ∧ w'.cell? ⟨g2, o2 + j * 5 + 1, none⟩ = some (.string un) ∧ w'.cell? ⟨g2, o2 + j * 5 + 2, none⟩ = some (.string ux) ∧ w'.cell? ⟨g2, o2 + j * 5 + 3, none⟩ = some (.slice sa2 ul sc2) ∧ w'.cell? ⟨g2, o2 + j * 5 + 4, none⟩ = some (.slice ba2 um bc2)) (go_keep)
                        (first | (go_at_call 13; refine (C.out _ (by exact ⟨rfl, rfl, rfl, Nat.le_refl _, fun _ _ => rfl⟩)).mono ?_; rintro e w3 ⟨rfl, b3⟩; have k0 : w3.cell? ⟨w.heap.size, 4, none⟩ = some (.slice (some ⟨g, o, none⟩) SN bc) := Nd.cell_keeps b3 c4; have k1 : w3.cell? ⟨w.heap.size + 1, 4, none⟩ = some (.slice (some ⟨g2, o2, none⟩) SN bc') := Nd.cell_keeps b3 d4; have k2 : w3.cell? ⟨g, o + j * 5, none⟩ = some (.int .u8 sk) := Nd.cell_keeps b3 h0; have k3 : w3.cell? ⟨g, o + j * 5 + 1, none⟩ = some (.string sn) := Nd.cell_keeps b3 h1; have k4 : w3.cell? ⟨g, o + j * 5 + 2, none⟩ = some (.string sx) := Nd.cell_keeps b3 h2; have k5 : w3.cell? ⟨g, o + j * 5 + 3, none⟩ = some (.slice sa1 sl sc1) := Nd.cell_keeps b3 h3; have k6 : w3.cell? ⟨g, o + j * 5 + 4, none⟩ = some (.slice ba1 sm bc1) := Nd.cell_keeps b3 h4; have k7 : w3.cell? ⟨g2, o2 + j * 5, none⟩ = some (.int .u8 uk) := Nd.cell_keeps b3 i0; have k8 : w3.cell? ⟨g2, o2 + j * 5 + 1, none⟩ = some (.string un) := Nd.cell_keeps b3 i1; have k9 : w3.cell? ⟨g2, o2 + j * 5 + 2, none⟩ = some (.string ux) := Nd.cell_keeps b3 i2; have k10 : w3.cell? ⟨g2, o2 + j * 5 + 3, none⟩ = some (.slice sa2 ul sc2) := Nd.cell_keeps b3 i3; have k11 : w3.cell? ⟨g2, o2 + j * 5 + 4, none⟩ = some (.slice ba2 um bc2) := Nd.cell_keeps b3 i4))
                      have HB6 := Lib.hid (HKP.out _ b3)
                      clear c4 d4 h0 h1 h2 h3 h4 i0 i1 i2 i3 i4 k0 k1 k2 k3 k4 k5 k6 k7 k8 k9 k10 k11 b3
                      go_wp2_with fail
                      go_ret
                      exact ⟨by rw [← HT.out, HD.out]; rfl, HB6.out.2.2⟩
                  · have dj : decide (j < SN) = false := by rw [decide_eq_false_iff_not]; exact hlj
                    have HF := Lib.hid (show true = LS by
                      have := hT.out
                      rw [List.drop_eq_nil_of_le (by rw [HSN.out]; omega), List.drop_eq_nil_of_le (by rw [HSN'.out]; omega)] at this
                      rw [← this]; simp only [Nd.sameL])
                    clear hT
                    go_wp2_with fail
                    go_ret
                    exact ⟨by rw [← HF.out, HD.out]; rfl, hB⟩
          · have q4 : ((SN : Int) != (SN' : Int)) = true := by rw [bne_iff_ne]; omega
            have q3 : ((SL : Int) != (SL : Int)) = false := by simp
            have HF := Lib.hid (show LS = false from by
              cases h : LS with
              | false => rfl
              | true => exact absurd ((HSN.out.symm.trans (Nd.sameL_len sb sb' (HLS.out.trans h))).trans HSN'.out) hnn)
            go_enter Tryz.func13, Tryz.ntmps13
            go_wp2_with fail
            go_ret
            exact ⟨by rw [HF.out, Bool.and_false]; rfl, HB.out⟩
        · have q3 : ((SL : Int) != (SL' : Int)) = true := by rw [bne_iff_ne]; omega
          have HF := Lib.hid (show DS = false from by
            rw [← HDS.out]
            exact decide_eq_false (fun e => hne (by rw [← HSL.out, ← HSL'.out, e])))
          go_enter Tryz.func13, Tryz.ntmps13
          go_wp2_with fail
          go_ret
          exact ⟨by rw [HF.out]; rfl, HB.out⟩
end Go.Proofs.YthfkodimafmmgaaGreatDoor
