/- The chapter's own here: rows and sets; whatever the node. -/
import Derived.Test.YthfkodimafmmgaaGreatDoorNdf
namespace Go.Proofs.YthfkodimafmmgaaGreatDoor
open Go Go.RowKit Ru
set_option maxRecDepth 100000

set_option maxHeartbeats 4000000 in
theorem refh_seq (nm tx : ByteArray) (sa ba : Option Addr) (SL sc SN bc : Nat) (tok : Bool) (w : World) (_hsl : SL ≤ 140737488351232) (hsn : SN ≤ 140737488351232) (sb : List Nd.T) (hsb : sb.length = SN) (hR : Nd.AtL w sb ba) :
    Calls Tryz.prog 23 #[.agg #[.int .u8 1, .string nm, .string tx, .slice sa SL sc, .slice ba SN bc], .bool tok] w fun e w' => e = .returned (.bool (nm.toList.isEmpty && tx.toList.isEmpty && decide (SL = 0) && (decide (SN = 0) || (decide (2 ≤ SN) && !(sb.drop 1).any Nd.looksB)))) ∧ Below w.heap.size w w' := by
  have HB := Lib.hid (show Below w.heap.size w (w.alloc (.cells #[.int .u8 1, .string nm, .string tx, .slice sa SL sc, .slice ba SN bc] 26)) from (Below.refl _ w).alloc (Nat.le_refl _) _)
  obtain ⟨R, hRR⟩ : ∃ b, (decide (SN = 0) || (decide (2 ≤ SN) && !(sb.drop 1).any Nd.looksB)) = b := ⟨_, rfl⟩
  have HRR := Lib.hid hRR
  rw [hRR]
  have HL := Lib.hid hR
  have HN := Lib.hid hsb
  have HBk := Lib.hid (Bk.made w 26 #[.int .u8 1, .string nm, .string tx, .slice sa SL sc, .slice ba SN bc])
  have n1 : (SN : Int) ≤ 9223372036854775807 := by omega
  clear hRR hR hsb
  rcases emp nm with ⟨n1, n2⟩ | ⟨n1, n2⟩ <;> rcases emp tx with ⟨x1, x2⟩ | ⟨x1, x2⟩ <;> rcases zer SL with ⟨s1, s2, s3, s4⟩ | ⟨s1, s2, s3, s4⟩
  all_goals rw [n1, x1, s1]
  case inl.inl.inl =>
    go_enter Tryz.func23, Tryz.ntmps23
    go_wp2_with fail
    go_loopw [7] (fun i wr => ∃ p : Nat, 1 ≤ p ∧ (p = 1 ∨ p ≤ SN) ∧ i = .int .i64 p ∧ Hid ((sb.drop p).any Nd.looksB = (sb.drop 1).any Nd.looksB) ∧ Bk wr w.heap.size 26 #[.int .u8 1, .string nm, .string tx, .slice sa SL sc, .slice ba SN bc] ∧ Below w.heap.size w wr) (fun i _ => SN + 1 - (intOf i).toNat)
    case atStart => exact ⟨1, Nat.le_refl _, .inl rfl, rfl, Lib.hid rfl, HBk.out, HB.out⟩
    case round =>
      obtain ⟨p, hp1, hp, rfl, hT, hK, hB⟩ := hrel
      have c4 := hK.cell 4
      simp at c4
      have hpb : p ≤ 140737488351232 + 1 := by omega
      by_cases hlt : p < SN
      · have d0 : decide (p < SN) = true := by rw [decide_eq_true_iff]; exact hlt
        have a0 : (p : Int) < (SN : Int) := by omega
        obtain ⟨s, hs⟩ : ∃ s, sb[p]? = some s := ⟨_, List.getElem?_eq_getElem (by rw [HN.out]; exact hlt)⟩
        obtain ⟨g, o, v0, v1, v2, v3, v4, rfl, h0, _, _, _, _, _, hAs⟩ := HL.out.val p s hs
        replace h0 := Nd.cell_keeps hB h0
        have hst := hT.out
        rw [Nd.drop_some hs, List.any_cons] at hst
        obtain ⟨_, _, _, _, rfl, rfl, rfl, rfl, rfl⟩ := hAs.five
        obtain ⟨kk, hkk⟩ : ∃ kk, s.kind = kk := ⟨_, rfl⟩
        have hlk : Nd.looksB s = decide (kk = 7) := by unfold Nd.looksB; rw [hkk]
        rw [hkk] at h0
        rw [hlk] at hst
        clear hs hAs hlk hkk
        by_cases h7 : kk = 7
        · have q0 : (kk == 7) = true := by rw [beq_iff_eq]; exact h7
          rw [decide_eq_true h7, Bool.true_or] at hst
          have HF := Lib.hid (show R = false from by
            rw [← HRR.out, ← hst, decide_eq_false (by omega), decide_eq_true (p := 2 ≤ SN) (by omega)]
            rfl)
          clear hst hT h7
          go_wp2_with fail
          go_ret
          exact ⟨by rw [HF.out]; rfl, hB⟩
        · have q0 : (kk == 7) = false := by rw [beq_eq_false_iff_ne]; exact h7
          rw [decide_eq_false h7, Bool.false_or] at hst
          have HT := Lib.hid hst
          clear hst hT h7
          go_wp2_with fail
          exact ⟨⟨p + 1, by omega, .inr (by omega), by go_num, HT, hK, hB⟩, by simp [intOf]; omega⟩
      · have d0 : decide (p < SN) = false := by rw [decide_eq_false_iff_not]; exact hlt
        have hnone := hT.out
        rw [List.drop_eq_nil_of_le (by rw [HN.out]; omega)] at hnone
        rcases one' SN with ⟨o1, o2⟩ | ⟨o1, o2⟩
        · have o3 : ((SN : Int) != 1) = false := by simp only [bne, o2]; rfl
          have HF := Lib.hid (show R = false from by
            rw [← HRR.out, ← hnone, decide_eq_false (by have := of_decide_eq_true o1; omega), decide_eq_false (p := 2 ≤ SN) (by have := of_decide_eq_true o1; omega)]
            rfl)
          clear hT hnone
          go_wp2_with fail
          go_ret
          exact ⟨by rw [HF.out]; rfl, hB⟩
        · have o3 : ((SN : Int) != 1) = true := by simp only [bne, o2]; rfl
          have HF := Lib.hid (show R = true from by
            rw [← HRR.out, ← hnone]
            by_cases hz : SN = 0
            · rw [decide_eq_true hz]; rfl
            · rw [decide_eq_false hz, decide_eq_true (p := 2 ≤ SN) (by have := of_decide_eq_false o1; omega)]; rfl)
          clear hT hnone
          go_wp2_with fail
          go_ret
          exact ⟨by rw [HF.out]; rfl, hB⟩
  all_goals
    go_enter Tryz.func23, Tryz.ntmps23
    go_wp2_with fail
    go_ret
    exact ⟨rfl, HB.out⟩
set_option maxHeartbeats 4000000 in
theorem refh_set (nm tx : ByteArray) (sa ba : Option Addr) (SL sc SN bc : Nat) (tok : Bool) (w : World) (hsl : SL ≤ 140737488351232) (_hsn : SN ≤ 140737488351232) (st : List (Int × Int)) (hst : st.length = SL) (hR : Nd.RgAt w st sa) :
    Calls Tryz.prog 23 #[.agg #[.int .u8 9, .string nm, .string tx, .slice sa SL sc, .slice ba SN bc], .bool tok] w fun e w' => e = .returned (.bool (nm.toList.isEmpty && tx.toList.isEmpty && (decide (0 < SL) && !st.any Nd.wrongB && tok) && decide (SN = 0))) ∧ Below w.heap.size w w' := by
  have HB := Lib.hid (show Below w.heap.size w (w.alloc (.cells #[.int .u8 9, .string nm, .string tx, .slice sa SL sc, .slice ba SN bc] 26)) from (Below.refl _ w).alloc (Nat.le_refl _) _)
  obtain ⟨R, hRR⟩ : ∃ b, ((decide (0 < SL) && !st.any Nd.wrongB && tok) && decide (SN = 0)) = b := ⟨_, rfl⟩
  have HRR := Lib.hid hRR
  have hpost : (nm.toList.isEmpty && tx.toList.isEmpty && (decide (0 < SL) && !st.any Nd.wrongB && tok) && decide (SN = 0)) = (nm.toList.isEmpty && tx.toList.isEmpty && R) := by rw [← hRR, Bool.and_assoc (nm.toList.isEmpty && tx.toList.isEmpty)]
  rw [hpost]
  have HL := Lib.hid hR
  have HN := Lib.hid hst
  have HBk := Lib.hid (Bk.made w 26 #[.int .u8 9, .string nm, .string tx, .slice sa SL sc, .slice ba SN bc])
  have n1 : (SL : Int) ≤ 9223372036854775807 := by omega
  clear hRR hR hst hpost
  rcases emp nm with ⟨n1, n2⟩ | ⟨n1, n2⟩ <;> rcases emp tx with ⟨x1, x2⟩ | ⟨x1, x2⟩
  all_goals rw [n1, x1]
  case inl.inl =>
    go_enter Tryz.func23, Tryz.ntmps23
    go_wp2_with fail
    go_loopw [8] (fun i wr => ∃ p : Nat, p ≤ SL ∧ i = .int .i64 p ∧ Hid ((st.drop p).any Nd.wrongB = st.any Nd.wrongB) ∧ Bk wr w.heap.size 26 #[.int .u8 9, .string nm, .string tx, .slice sa SL sc, .slice ba SN bc] ∧ Below w.heap.size w wr) (fun i _ => SL - (intOf i).toNat)
    case atStart => exact ⟨0, Nat.zero_le _, rfl, Lib.hid rfl, HBk.out, HB.out⟩
    case round =>
      obtain ⟨p, hp, rfl, hT, hK, hB⟩ := hrel
      have c3 := hK.cell 3
      simp at c3
      by_cases hlt : p < SL
      · have d0 : decide (p < SL) = true := by rw [decide_eq_true_iff]; exact hlt
        have a0 : (p : Int) < (SL : Int) := by omega
        obtain ⟨s, hs⟩ : ∃ s, st[p]? = some s := ⟨_, List.getElem?_eq_getElem (by rw [HN.out]; exact hlt)⟩
        obtain ⟨g, o, rfl, h0, h1⟩ := HL.out.get p s hs
        replace h0 := Nd.cell_keeps hB h0
        replace h1 := Nd.cell_keeps hB h1
        have hst := hT.out
        rw [Nd.drop_some hs, List.any_cons] at hst
        obtain ⟨x, y⟩ := s
        dsimp only at h0 h1
        have hBx := (Below.refl wr.heap.size wr).alloc (Nat.le_refl _) (.cells #[.int .i32 x, .int .i32 y] 44)
        have HKX := Lib.hid (hK.below hBx hK.lt)
        have HBX := Lib.hid (hB.trans (hBx.mono hB.size))
        have hbad : Nd.wrongB (x, y) = true → R = false := by
          intro h
          rw [h, Bool.true_or] at hst
          rw [← HRR.out, ← hst]
          simp
        have hgo : Nd.wrongB (x, y) = false → (st.drop (p + 1)).any Nd.wrongB = st.any Nd.wrongB := by
          intro h
          rw [h, Bool.false_or] at hst
          exact hst
        have HBAD := Lib.hid hbad
        have HGO := Lib.hid hgo
        clear hs hst hT hBx hbad hgo
        by_cases hlo : y < x
        · have e0 : decide (y < x) = true := decide_eq_true hlo
          have HF := Lib.hid (HBAD.out (by unfold Nd.wrongB; rw [e0]; rfl))
          go_wp2_with fail
          go_ret
          exact ⟨by rw [HF.out]; rfl, HBX.out⟩
        have e0 : decide (y < x) = false := decide_eq_false hlo
        cases hx : Go.validRune x with
        | false =>
          have HF := Lib.hid (HBAD.out (by unfold Nd.wrongB; rw [e0]; simp only [hx]; rfl))
          have CX := Lib.hid (fun wx => refIs_no x wx hx)
          go_wp2_with (go_at_call 40; refine (CX.out _).mono ?_; rintro e w' ⟨rfl, rfl⟩)
          go_ret
          exact ⟨by rw [HF.out]; rfl, HBX.out⟩
        | true =>
          have CX := Lib.hid (fun wx => refIs_yes x wx hx)
          cases hy : Go.validRune y with
          | false =>
            have HF := Lib.hid (HBAD.out (by unfold Nd.wrongB; rw [e0]; simp only [hx, hy]; rfl))
            have CY := Lib.hid (fun wx => refIs_no y wx hy)
            go_wp2_with fail
            refine (CX.out _).mono ?_
            rintro e w' ⟨rfl, rfl⟩
            go_wp2_with fail
            refine (CY.out _).mono ?_
            rintro e w' ⟨rfl, rfl⟩
            go_wp2_with fail
            go_ret
            exact ⟨by rw [HF.out]; rfl, HBX.out⟩
          | true =>
            have HT := Lib.hid (HGO.out (by unfold Nd.wrongB; rw [e0]; simp only [hx, hy]; rfl))
            have CY := Lib.hid (fun wx => refIs_yes y wx hy)
            go_wp2_with fail
            refine (CX.out _).mono ?_
            rintro e w' ⟨rfl, rfl⟩
            go_wp2_with fail
            refine (CY.out _).mono ?_
            rintro e w' ⟨rfl, rfl⟩
            go_wp2_with fail
            exact ⟨⟨p + 1, by omega, by go_num, HT, HKX.out, HBX.out⟩, by simp [intOf]; omega⟩
      · have d0 : decide (p < SL) = false := by rw [decide_eq_false_iff_not]; exact hlt
        have hnone := hT.out
        rw [List.drop_eq_nil_of_le (by rw [HN.out]; omega)] at hnone
        have hR' : (decide (0 < SL) && tok && decide (SN = 0)) = R := by
          rw [← HRR.out, ← hnone]
          cases tok <;> simp
        have HR' := Lib.hid hR'
        clear hT hnone hR'
        rcases zer SL with ⟨s1, s2, s3, s4⟩ | ⟨s1, s2, s3, s4⟩ <;> rcases zer SN with ⟨o1, o2, o3, o4⟩ | ⟨o1, o2, o3, o4⟩ <;> cases tok
        all_goals
          rw [s4, o1] at HR'
          have HF := Lib.hid HR'.out.symm
          go_wp2_with fail
          go_ret
          exact ⟨by rw [HF.out]; rfl, hB⟩
  all_goals
    go_enter Tryz.func23, Tryz.ntmps23
    go_wp2_with fail
    go_ret
    exact ⟨rfl, HB.out⟩
theorem refHere_any (t : Nd.T) (v : Value) (tok : Bool) (w : World) (hA : Nd.At w t v) :
    Calls Tryz.prog 23 #[v, .bool tok] w fun e w' => e = .returned (.bool (Nd.fitsB t tok)) ∧ Below w.heap.size w w' := by
  obtain ⟨sa, sc, ba, bc, rfl, _, hnm, htx, hsc, hbc, hR, hL⟩ := hA.form
  have hsl : t.set.length ≤ 140737488351232 := by omega
  have hsn : t.subs.length ≤ 140737488351232 := by omega
  unfold Nd.fitsB
  by_cases k0 : t.kind = 0
  · rw [if_pos k0, k0]
    exact refh_alts _ _ _ _ _ _ _ _ tok w hsl hsn
  rw [if_neg k0]
  by_cases k1 : t.kind = 1
  · rw [if_pos k1, k1]
    exact refh_seq _ _ _ _ _ _ _ _ tok w hsl hsn t.subs rfl hL
  rw [if_neg k1]
  by_cases k2 : t.kind = 2 ∨ t.kind = 3 ∨ t.kind = 4
  · rw [if_pos k2]
    exact refh_one _ _ _ _ _ _ _ _ tok w _ k2 hsl hsn
  rw [if_neg k2]
  by_cases k7 : t.kind = 7
  · rw [if_pos k7, k7]
    exact refh_pred _ _ _ _ _ _ _ _ tok w hsl hsn
  rw [if_neg k7]
  by_cases k5 : t.kind = 5
  · rw [if_pos k5, k5]
    exact refh_ref _ _ _ _ _ _ _ _ tok w hnm hsl hsn
  rw [if_neg k5]
  by_cases k6 : t.kind = 6
  · rw [if_pos k6, k6]
    exact refh_tok _ _ _ _ _ _ _ _ tok w hnm hsl hsn
  rw [if_neg k6]
  by_cases k8 : t.kind = 8
  · rw [if_pos k8, k8]
    exact refh_lit _ _ _ _ _ _ _ _ tok w htx hsl hsn
  rw [if_neg k8]
  by_cases k9 : t.kind = 9
  · rw [if_pos k9, k9]
    exact refh_set _ _ _ _ _ _ _ _ tok w hsl hsn t.set rfl hR
  rw [if_neg k9]
  exact refh_none _ _ _ _ _ _ _ _ tok w _ k0 k1 (fun h => k2 (.inl h)) (fun h => k2 (.inr (.inl h))) (fun h => k2 (.inr (.inr h))) k5 k6 k7 k8 k9 hsl hsn
end Go.Proofs.YthfkodimafmmgaaGreatDoor
