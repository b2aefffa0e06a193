/- The contract of nodes.fits: is a node as its kind asks, whatever its Subs are by themselves? -/
import Derived.Test.YthfkodimafmmgaaDoorNdG
import Derived.Deep.QuietTactic
import Derived.BigQuiet
import Derived.Deep.Cut
namespace Go.Proofs.YthfkodimafmmgaaDoor
open Go Go.RowKit Ru
set_option maxRecDepth 100000

namespace Nd
/-- Is a node as its kind asks? -/
def fitsB (t : T) (tok : Bool) : Bool :=
  if t.kind = 0 then t.name.toList.isEmpty && t.text.toList.isEmpty && decide (t.set.length = 0) && (decide (2 ≤ t.subs.length) && decide (t.subs.length ≤ 32))
  else if t.kind = 1 then t.name.toList.isEmpty && t.text.toList.isEmpty && decide (t.set.length = 0) && (decide (t.subs.length = 0) || (decide (2 ≤ t.subs.length) && !(t.subs.drop 1).any looksB))
  else if t.kind = 2 ∨ t.kind = 3 ∨ t.kind = 4 then t.name.toList.isEmpty && t.text.toList.isEmpty && decide (t.set.length = 0) && decide (t.subs.length = 1)
  else if t.kind = 7 then t.name.toList.isEmpty && t.text.toList.isEmpty && decide (t.set.length = 0) && (decide (t.subs.length = 1) && !tok)
  else if t.kind = 5 then (nameP smallL t.name.data.toList && !tok) && t.text.toList.isEmpty && decide (t.set.length = 0) && decide (t.subs.length = 0)
  else if t.kind = 6 then nameP bigL t.name.data.toList && t.text.toList.isEmpty && decide (t.set.length = 0) && decide (t.subs.length = 0)
  else if t.kind = 8 then t.name.toList.isEmpty && (!t.text.toList.isEmpty && decide (bad t.text.data.toList < 0) && tok) && decide (t.set.length = 0) && decide (t.subs.length = 0)
  else if t.kind = 9 then t.name.toList.isEmpty && t.text.toList.isEmpty && (decide (0 < t.set.length) && !t.set.any wrongB && tok) && decide (t.subs.length = 0)
  else false
end Nd
theorem beq_zero (n : Nat) : ((n : Int) == 0) = decide (n = 0) := by
  by_cases h : n = 0
  · subst h; rfl
  · rw [decide_eq_false h]; simpa using h
theorem beq_one (n : Nat) : ((n : Int) == 1) = decide (n = 1) := by
  by_cases h : n = 1
  · subst h; rfl
  · rw [decide_eq_false h]; simp; omega
set_option maxHeartbeats 2000000 in
theorem fits_one (nm tx : ByteArray) (sa ba : Option Addr) (SL sc SN bc : Nat) (tok : Bool) (w : World) (_hsl : SL ≤ 140737488351232) (_hsn : SN ≤ 140737488351232) (kd : Int) (hk : kd = 2 ∨ kd = 3 ∨ kd = 4) :
    Calls Tryd.prog 13 #[.agg #[.int .u8 kd, .string nm, .string tx, .slice sa SL sc, .slice ba SN bc], .bool tok] w fun e w' => e = .returned (.bool (nm.toList.isEmpty && tx.toList.isEmpty && decide (SL = 0) && decide (SN = 1))) ∧ Below w.heap.size w w' := by
  obtain ⟨bn, hbn⟩ : ∃ b, nm.toList.isEmpty = b := ⟨_, rfl⟩
  obtain ⟨bt, hbt⟩ : ∃ b, tx.toList.isEmpty = b := ⟨_, rfl⟩
  obtain ⟨bs, hbs⟩ : ∃ b, decide (SL = 0) = b := ⟨_, rfl⟩
  have z1 : ((SL : Int) == 0) = bs := by rw [beq_zero]; exact hbs
  rw [hbn, hbt, hbs]
  obtain ⟨bb, hbb⟩ : ∃ b, decide (SN = 1) = b := ⟨_, rfl⟩
  have z2 : ((SN : Int) == 1) = bb := by rw [beq_one]; exact hbb
  rw [hbb]
  have hB : Below w.heap.size w (w.alloc (.cells #[.int .u8 kd, .string nm, .string tx, .slice sa SL sc, .slice ba SN bc] 26)) := (Below.refl _ w).alloc (Nat.le_refl _) _
  rcases hk with rfl | rfl | rfl
  all_goals
    go_enter Tryd.func13, Tryd.ntmps13
    go_wp2_with fail
    go_quiet (fail)
    go_upto_region 22 with fail
    cases bn <;> cases bt <;> cases bs <;> cases bb
    all_goals
      go_wp2_with fail
      go_ret
      exact ⟨rfl, below_drewN hB _⟩
set_option maxHeartbeats 2000000 in
theorem fits_alts (nm tx : ByteArray) (sa ba : Option Addr) (SL sc SN bc : Nat) (tok : Bool) (w : World) (_hsl : SL ≤ 140737488351232) (hsn : SN ≤ 140737488351232) :
    Calls Tryd.prog 13 #[.agg #[.int .u8 0, .string nm, .string tx, .slice sa SL sc, .slice ba SN bc], .bool tok] w fun e w' => e = .returned (.bool (nm.toList.isEmpty && tx.toList.isEmpty && decide (SL = 0) && (decide (2 ≤ SN) && decide (SN ≤ 32)))) ∧ Below w.heap.size w w' := by
  obtain ⟨bn, hbn⟩ : ∃ b, nm.toList.isEmpty = b := ⟨_, rfl⟩
  obtain ⟨bt, hbt⟩ : ∃ b, tx.toList.isEmpty = b := ⟨_, rfl⟩
  obtain ⟨bs, hbs⟩ : ∃ b, decide (SL = 0) = b := ⟨_, rfl⟩
  have z1 : ((SL : Int) == 0) = bs := by rw [beq_zero]; exact hbs
  rw [hbn, hbt, hbs]
  have hB : Below w.heap.size w (w.alloc (.cells #[.int .u8 0, .string nm, .string tx, .slice sa SL sc, .slice ba SN bc] 26)) := (Below.refl _ w).alloc (Nat.le_refl _) _
  by_cases h2 : 2 ≤ SN
  · have d0 : decide ((2 : Int) ≤ (SN : Int)) = true := by rw [decide_eq_true_iff]; omega
    have d1 : decide (2 ≤ SN) = true := by rw [decide_eq_true_iff]; omega
    rw [d1]
    obtain ⟨bb, hbb⟩ : ∃ b, decide (SN ≤ 32) = b := ⟨_, rfl⟩
    have d2 : decide ((SN : Int) ≤ 32) = bb := by rw [← hbb]; by_cases h : SN ≤ 32 <;> simp [h] <;> omega
    rw [hbb]
    go_enter Tryd.func13, Tryd.ntmps13
    go_wp2_with fail
    go_quiet (fail)
    go_upto_region 22 with fail
    cases bn <;> cases bt <;> cases bs <;> cases bb
    all_goals
      go_wp2_with fail
      go_ret
      exact ⟨rfl, below_drewN hB _⟩
  · have d0 : decide ((2 : Int) ≤ (SN : Int)) = false := by rw [decide_eq_false_iff_not]; omega
    have d1 : decide (2 ≤ SN) = false := by rw [decide_eq_false_iff_not]; omega
    rw [d1]
    go_enter Tryd.func13, Tryd.ntmps13
    go_wp2_with fail
    go_quiet (fail)
    go_upto_region 22 with fail
    cases bn <;> cases bt <;> cases bs
    all_goals
      go_wp2_with fail
      go_ret
      exact ⟨rfl, below_drewN hB _⟩
set_option maxHeartbeats 2000000 in
theorem fits_pred (nm tx : ByteArray) (sa ba : Option Addr) (SL sc SN bc : Nat) (tok : Bool) (w : World) (_hsl : SL ≤ 140737488351232) (hsn : SN ≤ 140737488351232) :
    Calls Tryd.prog 13 #[.agg #[.int .u8 7, .string nm, .string tx, .slice sa SL sc, .slice ba SN bc], .bool tok] w fun e w' => e = .returned (.bool (nm.toList.isEmpty && tx.toList.isEmpty && decide (SL = 0) && (decide (SN = 1) && !tok))) ∧ Below w.heap.size w w' := by
  obtain ⟨bn, hbn⟩ : ∃ b, nm.toList.isEmpty = b := ⟨_, rfl⟩
  obtain ⟨bt, hbt⟩ : ∃ b, tx.toList.isEmpty = b := ⟨_, rfl⟩
  obtain ⟨bs, hbs⟩ : ∃ b, decide (SL = 0) = b := ⟨_, rfl⟩
  have z1 : ((SL : Int) == 0) = bs := by rw [beq_zero]; exact hbs
  rw [hbn, hbt, hbs]
  have hB : Below w.heap.size w (w.alloc (.cells #[.int .u8 7, .string nm, .string tx, .slice sa SL sc, .slice ba SN bc] 26)) := (Below.refl _ w).alloc (Nat.le_refl _) _
  by_cases h1 : SN = 1
  · subst h1
    go_enter Tryd.func13, Tryd.ntmps13
    go_wp2_with fail
    go_quiet (fail)
    go_upto_region 22 with fail
    cases bn <;> cases bt <;> cases bs <;> cases tok
    all_goals
      go_wp2_with fail
      go_ret
      exact ⟨rfl, below_drewN hB _⟩
  · have d0 : ((SN : Int) == 1) = false := by rw [beq_one]; exact decide_eq_false h1
    rw [decide_eq_false h1]
    go_enter Tryd.func13, Tryd.ntmps13
    go_wp2_with fail
    go_quiet (fail)
    go_upto_region 22 with fail
    cases bn <;> cases bt <;> cases bs
    all_goals
      go_wp2_with fail
      go_ret
      exact ⟨rfl, below_drewN hB _⟩
set_option maxHeartbeats 2000000 in
theorem fits_none (nm tx : ByteArray) (sa ba : Option Addr) (SL sc SN bc : Nat) (tok : Bool) (w : World) (_hsl : SL ≤ 140737488351232) (_hsn : SN ≤ 140737488351232) (kd : Int) (h0 : kd ≠ 0) (h1 : kd ≠ 1) (h2 : kd ≠ 2) (h3 : kd ≠ 3) (h4 : kd ≠ 4) (h5 : kd ≠ 5) (h6 : kd ≠ 6) (h7 : kd ≠ 7) (h8 : kd ≠ 8) (h9 : kd ≠ 9) :
    Calls Tryd.prog 13 #[.agg #[.int .u8 kd, .string nm, .string tx, .slice sa SL sc, .slice ba SN bc], .bool tok] w fun e w' => e = .returned (.bool (false)) ∧ Below w.heap.size w w' := by
  have hB : Below w.heap.size w (w.alloc (.cells #[.int .u8 kd, .string nm, .string tx, .slice sa SL sc, .slice ba SN bc] 26)) := (Below.refl _ w).alloc (Nat.le_refl _) _
  have q0 : (kd == 0) = false := by rw [beq_eq_false_iff_ne]; exact h0
  have q1 : (kd == 1) = false := by rw [beq_eq_false_iff_ne]; exact h1
  have q2 : (kd == 2) = false := by rw [beq_eq_false_iff_ne]; exact h2
  have q3 : (kd == 3) = false := by rw [beq_eq_false_iff_ne]; exact h3
  have q4 : (kd == 4) = false := by rw [beq_eq_false_iff_ne]; exact h4
  have q5 : (kd == 5) = false := by rw [beq_eq_false_iff_ne]; exact h5
  have q6 : (kd == 6) = false := by rw [beq_eq_false_iff_ne]; exact h6
  have q7 : (kd == 7) = false := by rw [beq_eq_false_iff_ne]; exact h7
  have q8 : (kd == 8) = false := by rw [beq_eq_false_iff_ne]; exact h8
  have q9 : (kd == 9) = false := by rw [beq_eq_false_iff_ne]; exact h9
  go_enter Tryd.func13, Tryd.ntmps13
  go_wp2_with fail
  go_quiet (fail)
  go_wp2_with fail
  go_ret
  exact ⟨rfl, below_drewN hB _⟩
end Go.Proofs.YthfkodimafmmgaaDoor
