/- The contract of nodes.fits: rows, references, tokens, texts, sets; whatever the node. -/
import Derived.Test.YthfkodimafmmgaaGreatDoorNdI
namespace Go.Proofs.YthfkodimafmmgaaGreatDoor
open Go Go.RowKit Ru
set_option maxRecDepth 100000

set_option maxHeartbeats 2000000 in
theorem fits_tok (nm tx : ByteArray) (sa ba : Option Addr) (SL sc SN bc : Nat) (tok : Bool) (w : World) (hnm : nm.size ≤ 140737488351232) (_hsl : SL ≤ 140737488351232) (_hsn : SN ≤ 140737488351232) :
    Calls Tryz.prog 22 #[.agg #[.int .u8 6, .string nm, .string tx, .slice sa SL sc, .slice ba SN bc], .bool tok] w fun e w' => e = .returned (.bool (Nd.nameP Nd.bigL nm.data.toList && tx.toList.isEmpty && decide (SL = 0) && decide (SN = 0))) ∧ Below w.heap.size w w' := by
  obtain ⟨bt, hbt⟩ : ∃ b, tx.toList.isEmpty = b := ⟨_, rfl⟩
  obtain ⟨bs, hbs⟩ : ∃ b, decide (SL = 0) = b := ⟨_, rfl⟩
  obtain ⟨bb, hbb⟩ : ∃ b, decide (SN = 0) = b := ⟨_, rfl⟩
  have z1 : ((SL : Int) == 0) = bs := by rw [beq_zero]; exact hbs
  have z2 : ((SN : Int) == 0) = bb := by rw [beq_zero]; exact hbb
  rw [hbt, hbs, hbb]
  have CN := fun wx => named_any nm ⟨Nd.bigL.toArray⟩ wx hnm
  rw [show (⟨Nd.bigL.toArray⟩ : ByteArray).data.toList = Nd.bigL from rfl] at CN
  generalize Nd.nameP Nd.bigL nm.data.toList = np at *
  unfold Nd.bigL at CN
  replace CN := Lib.hid CN
  have hB : Below w.heap.size w (w.alloc (.cells #[.int .u8 6, .string nm, .string tx, .slice sa SL sc, .slice ba SN bc] 26)) := (Below.refl _ w).alloc (Nat.le_refl _) _
  go_enter Tryz.func22, Tryz.ntmps22
  go_wp2_with fail
  go_quiet (fail)
  go_wp2_with fail
  refine (CN.out _).mono ?_
  rintro e w' ⟨rfl, hb⟩
  go_upto_region 22 with fail
  cases np <;> cases bt <;> cases bs <;> cases bb
  all_goals
    go_wp2_with fail
    go_ret
    exact ⟨rfl, (below_drewN hB _).trans (hb.mono (by simp))⟩
set_option maxHeartbeats 2000000 in
theorem fits_ref (nm tx : ByteArray) (sa ba : Option Addr) (SL sc SN bc : Nat) (tok : Bool) (w : World) (hnm : nm.size ≤ 140737488351232) (_hsl : SL ≤ 140737488351232) (_hsn : SN ≤ 140737488351232) :
    Calls Tryz.prog 22 #[.agg #[.int .u8 5, .string nm, .string tx, .slice sa SL sc, .slice ba SN bc], .bool tok] w fun e w' => e = .returned (.bool ((Nd.nameP Nd.smallL nm.data.toList && !tok) && tx.toList.isEmpty && decide (SL = 0) && decide (SN = 0))) ∧ Below w.heap.size w w' := by
  obtain ⟨bt, hbt⟩ : ∃ b, tx.toList.isEmpty = b := ⟨_, rfl⟩
  obtain ⟨bs, hbs⟩ : ∃ b, decide (SL = 0) = b := ⟨_, rfl⟩
  obtain ⟨bb, hbb⟩ : ∃ b, decide (SN = 0) = b := ⟨_, rfl⟩
  have z1 : ((SL : Int) == 0) = bs := by rw [beq_zero]; exact hbs
  have z2 : ((SN : Int) == 0) = bb := by rw [beq_zero]; exact hbb
  rw [hbt, hbs, hbb]
  have CN := fun wx => named_any nm ⟨Nd.smallL.toArray⟩ wx hnm
  rw [show (⟨Nd.smallL.toArray⟩ : ByteArray).data.toList = Nd.smallL from rfl] at CN
  generalize Nd.nameP Nd.smallL nm.data.toList = np at *
  unfold Nd.smallL at CN
  replace CN := Lib.hid CN
  have hB : Below w.heap.size w (w.alloc (.cells #[.int .u8 5, .string nm, .string tx, .slice sa SL sc, .slice ba SN bc] 26)) := (Below.refl _ w).alloc (Nat.le_refl _) _
  cases np
  all_goals
    go_enter Tryz.func22, Tryz.ntmps22
    go_wp2_with fail
    go_quiet (fail)
    go_wp2_with fail
    refine (CN.out _).mono ?_
    rintro e w' ⟨rfl, hb⟩
    go_upto_region 22 with fail
    cases tok <;> cases bt <;> cases bs <;> cases bb
    all_goals
      go_wp2_with fail
      go_ret
      exact ⟨rfl, (below_drewN hB _).trans (hb.mono (by simp))⟩
set_option maxHeartbeats 2000000 in
theorem fits_lit (nm tx : ByteArray) (sa ba : Option Addr) (SL sc SN bc : Nat) (tok : Bool) (w : World) (_hsl : SL ≤ 140737488351232) (_hsn : SN ≤ 140737488351232) (htx : tx.size ≤ 140737488351232) (hE : Env w) :
    Calls Tryz.prog 22 #[.agg #[.int .u8 8, .string nm, .string tx, .slice sa SL sc, .slice ba SN bc], .bool tok] w fun e w' => e = .returned (.bool (nm.toList.isEmpty && (!tx.toList.isEmpty && decide (bad tx.data.toList < 0) && tok) && decide (SL = 0) && decide (SN = 0))) ∧ Below w.heap.size w w' := by
  obtain ⟨bn, hbn⟩ : ∃ b, nm.toList.isEmpty = b := ⟨_, rfl⟩
  obtain ⟨bs, hbs⟩ : ∃ b, decide (SL = 0) = b := ⟨_, rfl⟩
  obtain ⟨bb, hbb⟩ : ∃ b, decide (SN = 0) = b := ⟨_, rfl⟩
  have z1 : ((SL : Int) == 0) = bs := by rw [beq_zero]; exact hbs
  have z2 : ((SN : Int) == 0) = bb := by rw [beq_zero]; exact hbb
  rw [hbn, hbs, hbb]
  have hB : Below w.heap.size w (w.alloc (.cells #[.int .u8 8, .string nm, .string tx, .slice sa SL sc, .slice ba SN bc] 26)) := (Below.refl _ w).alloc (Nat.le_refl _) _
  by_cases h0 : tx.size = 0
  · obtain ⟨e1, e2⟩ := isEmpty_ tx h0
    rw [e1]
    go_enter Tryz.func22, Tryz.ntmps22
    go_wp2_with fail
    go_quiet (fail)
    go_upto_region 22 with fail
    cases bn <;> cases bs <;> cases bb
    all_goals
      go_wp2_with fail
      go_ret
      exact ⟨rfl, below_drewN hB _⟩
  · obtain ⟨e1, e2⟩ := notEmpty tx (by omega)
    rw [e1]
    have CB := fun (wx : World) (h : Below w.heap.size w wx) => Bad_any tx wx (by omega) (hE.below h)
    obtain ⟨BD, hBD⟩ : ∃ b : Int, bad tx.data.toList = b := ⟨_, rfl⟩
    rw [hBD] at CB ⊢
    obtain ⟨bd, hbd⟩ : ∃ b, decide (BD < 0) = b := ⟨_, rfl⟩
    rw [hbd]
    replace CB := Lib.hid CB
    cases bd
    all_goals
      go_enter Tryz.func22, Tryz.ntmps22
      go_wp2_with fail
      go_quiet (fail)
      go_wp2_with fail
      refine (CB.out _ (below_drewN hB _)).mono ?_
      rintro e w' ⟨rfl, hb⟩
      go_upto_region 22 with fail
      cases tok <;> cases bn <;> cases bs <;> cases bb
      all_goals
        go_wp2_with fail
        go_ret
        exact ⟨rfl, (below_drewN hB _).trans (hb.mono (by simp))⟩
set_option maxHeartbeats 2000000 in
theorem fits_set (nm tx : ByteArray) (sa ba : Option Addr) (SL sc SN bc : Nat) (tok : Bool) (w : World) (hsl : SL ≤ 140737488351232) (_hsn : SN ≤ 140737488351232) (st : List (Int × Int)) (hst : st.length = SL) (hR : Nd.RgAt w st sa) :
    Calls Tryz.prog 22 #[.agg #[.int .u8 9, .string nm, .string tx, .slice sa SL sc, .slice ba SN bc], .bool tok] w fun e w' => e = .returned (.bool (nm.toList.isEmpty && tx.toList.isEmpty && (decide (0 < SL) && !st.any Nd.wrongB && tok) && decide (SN = 0))) ∧ Below w.heap.size w w' := by
  obtain ⟨bn, hbn⟩ : ∃ b, nm.toList.isEmpty = b := ⟨_, rfl⟩
  obtain ⟨bt, hbt⟩ : ∃ b, tx.toList.isEmpty = b := ⟨_, rfl⟩
  obtain ⟨bb, hbb⟩ : ∃ b, decide (SN = 0) = b := ⟨_, rfl⟩
  have z2 : ((SN : Int) == 0) = bb := by rw [beq_zero]; exact hbb
  rw [hbn, hbt, hbb]
  have hB : Below w.heap.size w (w.alloc (.cells #[.int .u8 9, .string nm, .string tx, .slice sa SL sc, .slice ba SN bc] 26)) := (Below.refl _ w).alloc (Nat.le_refl _) _
  by_cases h0 : 0 < SL
  · have d0 : decide ((0 : Int) < (SL : Int)) = true := by rw [decide_eq_true_iff]; omega
    have d1 : decide (0 < SL) = true := by rw [decide_eq_true_iff]; omega
    rw [d1]
    have CC := fun (wx : World) (h : Below w.heap.size w wx) => ContainsR_any st sa sc wx (by omega) (hR.below h)
    rw [hst] at CC
    generalize st.any Nd.wrongB = aw at *
    replace CC := Lib.hid CC
    clear hR
    cases aw
    all_goals
      go_enter Tryz.func22, Tryz.ntmps22
      go_wp2_with fail
      go_quiet (fail)
      go_wp2_with fail
      refine (CC.out _ (below_drewN hB _)).mono ?_
      rintro e w' ⟨rfl, hb⟩
      go_upto_region 22 with fail
      cases tok <;> cases bn <;> cases bt <;> cases bb
      all_goals
        go_wp2_with fail
        go_ret
        exact ⟨rfl, (below_drewN hB _).trans (hb.mono (by simp))⟩
  · have d0 : decide ((0 : Int) < (SL : Int)) = false := by rw [decide_eq_false_iff_not]; omega
    have d1 : decide (0 < SL) = false := by rw [decide_eq_false_iff_not]; omega
    rw [d1]
    clear hR
    go_enter Tryz.func22, Tryz.ntmps22
    go_wp2_with fail
    go_quiet (fail)
    go_upto_region 22 with fail
    cases bn <;> cases bt <;> cases bb
    all_goals
      go_wp2_with fail
      go_ret
      exact ⟨rfl, below_drewN hB _⟩
set_option maxHeartbeats 2000000 in
theorem fits_seq (nm tx : ByteArray) (sa ba : Option Addr) (SL sc SN bc : Nat) (tok : Bool) (w : World) (_hsl : SL ≤ 140737488351232) (hsn : SN ≤ 140737488351232) (sb : List Nd.T) (hsb : sb.length = SN) (hR : Nd.AtL w sb ba) (hbc : SN ≤ bc) :
    Calls Tryz.prog 22 #[.agg #[.int .u8 1, .string nm, .string tx, .slice sa SL sc, .slice ba SN bc], .bool tok] w fun e w' => e = .returned (.bool (nm.toList.isEmpty && tx.toList.isEmpty && decide (SL = 0) && (decide (SN = 0) || (decide (2 ≤ SN) && !(sb.drop 1).any Nd.looksB)))) ∧ Below w.heap.size w w' := by
  obtain ⟨bn, hbn⟩ : ∃ b, nm.toList.isEmpty = b := ⟨_, rfl⟩
  obtain ⟨bt, hbt⟩ : ∃ b, tx.toList.isEmpty = b := ⟨_, rfl⟩
  obtain ⟨bs, hbs⟩ : ∃ b, decide (SL = 0) = b := ⟨_, rfl⟩
  have z1 : ((SL : Int) == 0) = bs := by rw [beq_zero]; exact hbs
  rw [hbn, hbt, hbs]
  have hB : Below w.heap.size w (w.alloc (.cells #[.int .u8 1, .string nm, .string tx, .slice sa SL sc, .slice ba SN bc] 26)) := (Below.refl _ w).alloc (Nat.le_refl _) _
  by_cases h0 : SN = 0
  · subst h0
    clear hR
    go_enter Tryz.func22, Tryz.ntmps22
    go_wp2_with fail
    go_quiet (fail)
    go_upto_region 22 with fail
    cases bn <;> cases bt <;> cases bs
    all_goals
      go_wp2_with fail
      go_ret
      exact ⟨rfl, below_drewN hB _⟩
  · have d0 : ((SN : Int) == 0) = false := by rw [beq_zero]; exact decide_eq_false h0
    rw [decide_eq_false h0]
    by_cases h2 : 2 ≤ SN
    · have d1 : decide ((2 : Int) ≤ (SN : Int)) = true := by rw [decide_eq_true_iff]; omega
      have d2 : decide (2 ≤ SN) = true := by rw [decide_eq_true_iff]; omega
      have d3 : (1 : Int) ≤ (SN : Int) := by omega
      rw [d2]
      obtain ⟨s0, hs0⟩ : ∃ s, sb[0]? = some s := ⟨_, List.getElem?_eq_getElem (by omega)⟩
      obtain ⟨g, o, _, _, _, _, _, rfl, _⟩ := hR.val 0 s0 hs0
      have hR1 : Nd.AtL w (sb.drop 1) (some ⟨g, o + 5, none⟩) := by
        cases sb with
        | nil => simp at hs0
        | cons t r => exact hR.here.2
      have CC := fun (wx : World) (h : Below w.heap.size w wx) => ContainsN_any (sb.drop 1) (some ⟨g, o + 5, none⟩) (bc - 1) wx (by simp; omega) (hR1.below h _)
      rw [List.length_drop, hsb] at CC
      generalize (sb.drop 1).any Nd.looksB = aw at *
      replace CC := Lib.hid CC
      clear hR hR1 hs0
      cases aw
      all_goals
        go_enter Tryz.func22, Tryz.ntmps22
        go_wp2_with fail
        go_quiet (fail)
        go_wp2_with fail
        refine (CC.out _ (below_drewN hB _)).mono ?_
        rintro e w' ⟨rfl, hb⟩
        go_upto_region 22 with fail
        cases bn <;> cases bt <;> cases bs
        all_goals
          go_wp2_with fail
          go_ret
          exact ⟨rfl, (below_drewN hB _).trans (hb.mono (by simp))⟩
    · have d1 : decide ((2 : Int) ≤ (SN : Int)) = false := by rw [decide_eq_false_iff_not]; omega
      have d2 : decide (2 ≤ SN) = false := by rw [decide_eq_false_iff_not]; omega
      rw [d2]
      clear hR
      go_enter Tryz.func22, Tryz.ntmps22
      go_wp2_with fail
      go_quiet (fail)
      go_upto_region 22 with fail
      cases bn <;> cases bt <;> cases bs
      all_goals
        go_wp2_with fail
        go_ret
        exact ⟨rfl, below_drewN hB _⟩
theorem fits_any (t : Nd.T) (v : Value) (tok : Bool) (w : World) (hE : Env w) (hA : Nd.At w t v) :
    Calls Tryz.prog 22 #[v, .bool tok] w fun e w' => e = .returned (.bool (Nd.fitsB t tok)) ∧ Below w.heap.size w w' := by
  obtain ⟨sa, sc, ba, bc, rfl, _, hnm, htx, hsc, hbc, hR, hL⟩ := hA.form
  have hsl : t.set.length ≤ 140737488351232 := by omega
  have hsn : t.subs.length ≤ 140737488351232 := by omega
  unfold Nd.fitsB
  by_cases k0 : t.kind = 0
  · rw [if_pos k0, k0]
    exact fits_alts _ _ _ _ _ _ _ _ tok w hsl hsn
  rw [if_neg k0]
  by_cases k1 : t.kind = 1
  · rw [if_pos k1, k1]
    exact fits_seq _ _ _ _ _ _ _ _ tok w hsl hsn t.subs rfl hL hbc.1
  rw [if_neg k1]
  by_cases k2 : t.kind = 2 ∨ t.kind = 3 ∨ t.kind = 4
  · rw [if_pos k2]
    exact fits_one _ _ _ _ _ _ _ _ tok w hsl hsn _ k2
  rw [if_neg k2]
  by_cases k7 : t.kind = 7
  · rw [if_pos k7, k7]
    exact fits_pred _ _ _ _ _ _ _ _ tok w hsl hsn
  rw [if_neg k7]
  by_cases k5 : t.kind = 5
  · rw [if_pos k5, k5]
    exact fits_ref _ _ _ _ _ _ _ _ tok w hnm hsl hsn
  rw [if_neg k5]
  by_cases k6 : t.kind = 6
  · rw [if_pos k6, k6]
    exact fits_tok _ _ _ _ _ _ _ _ tok w hnm hsl hsn
  rw [if_neg k6]
  by_cases k8 : t.kind = 8
  · rw [if_pos k8, k8]
    exact fits_lit _ _ _ _ _ _ _ _ tok w hsl hsn htx hE
  rw [if_neg k8]
  by_cases k9 : t.kind = 9
  · rw [if_pos k9, k9]
    exact fits_set _ _ _ _ _ _ _ _ tok w hsl hsn t.set rfl hR
  rw [if_neg k9]
  exact fits_none _ _ _ _ _ _ _ _ tok w hsl hsn _ k0 k1 (fun h => k2 (.inl h)) (fun h => k2 (.inr (.inl h))) (fun h => k2 (.inr (.inr h))) k5 k6 k7 k8 k9
end Go.Proofs.YthfkodimafmmgaaGreatDoor
