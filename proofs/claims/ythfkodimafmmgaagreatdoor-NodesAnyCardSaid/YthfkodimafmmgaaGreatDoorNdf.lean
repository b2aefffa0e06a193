/- The chapter's own here: is a node as its kind asks? -/
import Derived.Test.YthfkodimafmmgaaGreatDoorNde
import Derived.Test.YthfkodimafmmgaaGreatDoorNdJ
namespace Go.Proofs.YthfkodimafmmgaaGreatDoor
open Go Go.RowKit Ru
set_option maxRecDepth 100000

theorem emp (x : ByteArray) : (x.toList.isEmpty = true ∧ x.toList = []) ∨ (x.toList.isEmpty = false ∧ ¬ x.toList = []) := by
  rcases Nat.eq_zero_or_pos x.size with h | h
  · exact .inl (isEmpty_ x h)
  · exact .inr (notEmpty x h)
theorem zer (n : Nat) : (decide (n = 0) = true ∧ decide ((0 : Int) < (n : Int)) = false ∧ ((n : Int) == 0) = true ∧ decide (0 < n) = false) ∨ (decide (n = 0) = false ∧ decide ((0 : Int) < (n : Int)) = true ∧ ((n : Int) == 0) = false ∧ decide (0 < n) = true) := by
  rcases Nat.eq_zero_or_pos n with h | h
  · exact .inl ⟨decide_eq_true h, decide_eq_false (by omega), by rw [beq_zero]; exact decide_eq_true h, decide_eq_false (by omega)⟩
  · exact .inr ⟨decide_eq_false (by omega), decide_eq_true (by omega), by rw [beq_zero]; exact decide_eq_false (by omega), decide_eq_true h⟩
theorem one' (n : Nat) : (decide (n = 1) = true ∧ ((n : Int) == 1) = true) ∨ (decide (n = 1) = false ∧ ((n : Int) == 1) = false) := by
  by_cases h : n = 1
  · exact .inl ⟨decide_eq_true h, by rw [beq_one]; exact decide_eq_true h⟩
  · exact .inr ⟨decide_eq_false h, by rw [beq_one]; exact decide_eq_false h⟩
set_option maxHeartbeats 2000000 in
theorem refh_alts (nm tx : ByteArray) (sa ba : Option Addr) (SL sc SN bc : Nat) (tok : Bool) (w : World) (_hsl : SL ≤ 140737488351232) (_hsn : SN ≤ 140737488351232) :
    Calls Tryz.prog 23 #[.agg #[.int .u8 0, .string nm, .string tx, .slice sa SL sc, .slice ba SN bc], .bool tok] w fun e w' => e = .returned (.bool (nm.toList.isEmpty && tx.toList.isEmpty && decide (SL = 0) && (decide (2 ≤ SN) && decide (SN ≤ 32)))) ∧ Below w.heap.size w w' := by
  have hB : Below w.heap.size w (w.alloc (.cells #[.int .u8 0, .string nm, .string tx, .slice sa SL sc, .slice ba SN bc] 26)) := (Below.refl _ w).alloc (Nat.le_refl _) _
  obtain ⟨a2, h2⟩ : ∃ b, decide (2 ≤ SN) = b := ⟨_, rfl⟩
  obtain ⟨a32, h32⟩ : ∃ b, decide (SN ≤ 32) = b := ⟨_, rfl⟩
  have i2 : decide ((2 : Int) ≤ (SN : Int)) = a2 := by rw [← h2]; by_cases h : 2 ≤ SN; (rw [decide_eq_true h, decide_eq_true (by omega)]); (rw [decide_eq_false h, decide_eq_false (by omega)])
  have i32 : decide ((SN : Int) ≤ 32) = a32 := by rw [← h32]; by_cases h : SN ≤ 32; (rw [decide_eq_true h, decide_eq_true (by omega)]); (rw [decide_eq_false h, decide_eq_false (by omega)])
  rw [h2, h32]
  rcases emp nm with ⟨n1, n2⟩ | ⟨n1, n2⟩ <;> rcases emp tx with ⟨x1, x2⟩ | ⟨x1, x2⟩ <;> rcases zer SL with ⟨s1, s2, s3, s4⟩ | ⟨s1, s2, s3, s4⟩
  all_goals
    rw [n1, x1, s1]
    cases a2 <;> cases a32
  all_goals
    go_enter Tryz.func23, Tryz.ntmps23
    go_wp2_with fail
    go_ret
    exact ⟨rfl, hB⟩
set_option maxHeartbeats 2000000 in
theorem refh_one (nm tx : ByteArray) (sa ba : Option Addr) (SL sc SN bc : Nat) (tok : Bool) (w : World) (kd : Int) (hk : kd = 2 ∨ kd = 3 ∨ kd = 4) (_hsl : SL ≤ 140737488351232) (_hsn : SN ≤ 140737488351232) :
    Calls Tryz.prog 23 #[.agg #[.int .u8 kd, .string nm, .string tx, .slice sa SL sc, .slice ba SN bc], .bool tok] w fun e w' => e = .returned (.bool (nm.toList.isEmpty && tx.toList.isEmpty && decide (SL = 0) && decide (SN = 1))) ∧ Below w.heap.size w w' := by
  have hB : Below w.heap.size w (w.alloc (.cells #[.int .u8 kd, .string nm, .string tx, .slice sa SL sc, .slice ba SN bc] 26)) := (Below.refl _ w).alloc (Nat.le_refl _) _
  rcases emp nm with ⟨n1, n2⟩ | ⟨n1, n2⟩ <;> rcases emp tx with ⟨x1, x2⟩ | ⟨x1, x2⟩ <;> rcases zer SL with ⟨s1, s2, s3, s4⟩ | ⟨s1, s2, s3, s4⟩ <;> rcases one' SN with ⟨o1, o2⟩ | ⟨o1, o2⟩
  all_goals
    rw [n1, x1, s1, o1]
    rcases hk with rfl | rfl | rfl
  all_goals
    go_enter Tryz.func23, Tryz.ntmps23
    go_wp2_with fail
    go_ret
    exact ⟨rfl, hB⟩
set_option maxHeartbeats 2000000 in
theorem refh_pred (nm tx : ByteArray) (sa ba : Option Addr) (SL sc SN bc : Nat) (tok : Bool) (w : World) (_hsl : SL ≤ 140737488351232) (_hsn : SN ≤ 140737488351232) :
    Calls Tryz.prog 23 #[.agg #[.int .u8 7, .string nm, .string tx, .slice sa SL sc, .slice ba SN bc], .bool tok] w fun e w' => e = .returned (.bool (nm.toList.isEmpty && tx.toList.isEmpty && decide (SL = 0) && (decide (SN = 1) && !tok))) ∧ Below w.heap.size w w' := by
  have hB : Below w.heap.size w (w.alloc (.cells #[.int .u8 7, .string nm, .string tx, .slice sa SL sc, .slice ba SN bc] 26)) := (Below.refl _ w).alloc (Nat.le_refl _) _
  rcases emp nm with ⟨n1, n2⟩ | ⟨n1, n2⟩ <;> rcases emp tx with ⟨x1, x2⟩ | ⟨x1, x2⟩ <;> rcases zer SL with ⟨s1, s2, s3, s4⟩ | ⟨s1, s2, s3, s4⟩ <;> rcases one' SN with ⟨o1, o2⟩ | ⟨o1, o2⟩
  all_goals
    rw [n1, x1, s1, o1]
    cases tok
  all_goals
    go_enter Tryz.func23, Tryz.ntmps23
    go_wp2_with fail
    go_ret
    exact ⟨rfl, hB⟩
set_option maxHeartbeats 2000000 in
theorem refh_ref (nm tx : ByteArray) (sa ba : Option Addr) (SL sc SN bc : Nat) (tok : Bool) (w : World) (hnm : nm.size ≤ 140737488351232) (_hsl : SL ≤ 140737488351232) (_hsn : SN ≤ 140737488351232) :
    Calls Tryz.prog 23 #[.agg #[.int .u8 5, .string nm, .string tx, .slice sa SL sc, .slice ba SN bc], .bool tok] w fun e w' => e = .returned (.bool ((Nd.nameP Nd.smallL nm.data.toList && !tok) && tx.toList.isEmpty && decide (SL = 0) && decide (SN = 0))) ∧ Below w.heap.size w w' := by
  have hB : Below w.heap.size w (w.alloc (.cells #[.int .u8 5, .string nm, .string tx, .slice sa SL sc, .slice ba SN bc] 26)) := (Below.refl _ w).alloc (Nat.le_refl _) _
  have CN := Lib.hid (fun wx => refName_any nm false wx hnm)
  rw [show Nd.letF false = Nd.smallL from rfl] at CN
  generalize Nd.nameP Nd.smallL nm.data.toList = np at *
  rcases emp tx with ⟨x1, x2⟩ | ⟨x1, x2⟩ <;> rcases zer SL with ⟨s1, s2, s3, s4⟩ | ⟨s1, s2, s3, s4⟩ <;> rcases zer SN with ⟨o1, o2, o3, o4⟩ | ⟨o1, o2, o3, o4⟩
  all_goals
    rw [x1, s1, o1]
    cases np <;> cases tok
  all_goals
    go_enter Tryz.func23, Tryz.ntmps23
    go_wp2_with (go_at_call 38; refine (CN.out _).mono ?_; rintro e w' ⟨rfl, rfl⟩)
    go_ret
    exact ⟨rfl, hB⟩
set_option maxHeartbeats 2000000 in
theorem refh_tok (nm tx : ByteArray) (sa ba : Option Addr) (SL sc SN bc : Nat) (tok : Bool) (w : World) (hnm : nm.size ≤ 140737488351232) (_hsl : SL ≤ 140737488351232) (_hsn : SN ≤ 140737488351232) :
    Calls Tryz.prog 23 #[.agg #[.int .u8 6, .string nm, .string tx, .slice sa SL sc, .slice ba SN bc], .bool tok] w fun e w' => e = .returned (.bool (Nd.nameP Nd.bigL nm.data.toList && tx.toList.isEmpty && decide (SL = 0) && decide (SN = 0))) ∧ Below w.heap.size w w' := by
  have hB : Below w.heap.size w (w.alloc (.cells #[.int .u8 6, .string nm, .string tx, .slice sa SL sc, .slice ba SN bc] 26)) := (Below.refl _ w).alloc (Nat.le_refl _) _
  have CN := Lib.hid (fun wx => refName_any nm true wx hnm)
  rw [show Nd.letF true = Nd.bigL from rfl] at CN
  generalize Nd.nameP Nd.bigL nm.data.toList = np at *
  rcases emp tx with ⟨x1, x2⟩ | ⟨x1, x2⟩ <;> rcases zer SL with ⟨s1, s2, s3, s4⟩ | ⟨s1, s2, s3, s4⟩ <;> rcases zer SN with ⟨o1, o2, o3, o4⟩ | ⟨o1, o2, o3, o4⟩
  all_goals
    rw [x1, s1, o1]
    cases np
  all_goals
    go_enter Tryz.func23, Tryz.ntmps23
    go_wp2_with (go_at_call 38; refine (CN.out _).mono ?_; rintro e w' ⟨rfl, rfl⟩)
    go_ret
    exact ⟨rfl, hB⟩
set_option maxHeartbeats 2000000 in
theorem refh_lit (nm tx : ByteArray) (sa ba : Option Addr) (SL sc SN bc : Nat) (tok : Bool) (w : World) (htx : tx.size ≤ 140737488351232) (_hsl : SL ≤ 140737488351232) (_hsn : SN ≤ 140737488351232) :
    Calls Tryz.prog 23 #[.agg #[.int .u8 8, .string nm, .string tx, .slice sa SL sc, .slice ba SN bc], .bool tok] w fun e w' => e = .returned (.bool (nm.toList.isEmpty && (!tx.toList.isEmpty && decide (bad tx.data.toList < 0) && tok) && decide (SL = 0) && decide (SN = 0))) ∧ Below w.heap.size w w' := by
  have hB : Below w.heap.size w (w.alloc (.cells #[.int .u8 8, .string nm, .string tx, .slice sa SL sc, .slice ba SN bc] 26)) := (Below.refl _ w).alloc (Nat.le_refl _) _
  have CB := Lib.hid (fun (wx : World) (h : Below w.heap.size w wx) => (refBad_any tx wx (by omega)).mono (R' := fun e w' => e = .returned (.int .i64 (bad tx.data.toList)) ∧ Below w.heap.size w w') fun e w' q => ⟨q.1, h.trans (q.2.mono h.size)⟩)
  obtain ⟨BD, hBD⟩ : ∃ b : Int, bad tx.data.toList = b := ⟨_, rfl⟩
  rw [hBD] at CB ⊢
  obtain ⟨bd, hbd⟩ : ∃ b, decide (BD < 0) = b := ⟨_, rfl⟩
  rw [hbd]
  have HB := Lib.hid hB
  clear hB hBD
  rcases emp nm with ⟨n1, n2⟩ | ⟨n1, n2⟩ <;> rcases emp tx with ⟨x1, x2⟩ | ⟨x1, x2⟩ <;> rcases zer SL with ⟨s1, s2, s3, s4⟩ | ⟨s1, s2, s3, s4⟩ <;> rcases zer SN with ⟨o1, o2, o3, o4⟩ | ⟨o1, o2, o3, o4⟩
  all_goals
    rw [n1, x1, s1, o1]
    cases bd <;> cases tok
  all_goals
    go_enter Tryz.func23, Tryz.ntmps23
    go_wp2_with (go_at_call 39; refine (CB.out _ HB.out).mono ?_; rintro e w' ⟨rfl, hb⟩)
    go_ret
    exact ⟨rfl, by first | exact HB.out | exact hb⟩
set_option maxHeartbeats 2000000 in
theorem refh_none (nm tx : ByteArray) (sa ba : Option Addr) (SL sc SN bc : Nat) (tok : Bool) (w : World) (kd : Int) (h0 : kd ≠ 0) (h1 : kd ≠ 1) (h2 : kd ≠ 2) (h3 : kd ≠ 3) (h4 : kd ≠ 4) (h5 : kd ≠ 5) (h6 : kd ≠ 6) (h7 : kd ≠ 7) (h8 : kd ≠ 8) (h9 : kd ≠ 9) (_hsl : SL ≤ 140737488351232) (_hsn : SN ≤ 140737488351232) :
    Calls Tryz.prog 23 #[.agg #[.int .u8 kd, .string nm, .string tx, .slice sa SL sc, .slice ba SN bc], .bool tok] w fun e w' => e = .returned (.bool (false)) ∧ Below w.heap.size w w' := by
  have hB : Below w.heap.size w (w.alloc (.cells #[.int .u8 kd, .string nm, .string tx, .slice sa SL sc, .slice ba SN bc] 26)) := (Below.refl _ w).alloc (Nat.le_refl _) _
  have q0 : (kd == 0) = false := by rw [beq_eq_false_iff_ne]; exact h0
  have q1 : (kd == 1) = false := by rw [beq_eq_false_iff_ne]; exact h1
  have q2 : (kd == 2) = false := by rw [beq_eq_false_iff_ne]; exact h2
  have q3 : (kd == 3) = false := by rw [beq_eq_false_iff_ne]; exact h3
  have q4 : (kd == 4) = false := by rw [beq_eq_false_iff_ne]; exact h4
  have q5 : (kd == 5) = false := by rw [beq_eq_false_iff_ne]; exact h5
  have q6 : (kd == 6) = false := by rw [beq_eq_false_iff_ne]; exact h6
  have q7 : (kd == 7) = false := by rw [beq_eq_false_iff_ne]; exact h7
  have q8 : (kd == 8) = false := by rw [beq_eq_false_iff_ne]; exact h8
  have q9 : (kd == 9) = false := by rw [beq_eq_false_iff_ne]; exact h9
  have r8 : (kd != 8) = true := by rw [bne_iff_ne]; exact h8
  have r9 : (kd != 9) = true := by rw [bne_iff_ne]; exact h9
  rcases emp nm with ⟨n1, n2⟩ | ⟨n1, n2⟩ <;> rcases emp tx with ⟨x1, x2⟩ | ⟨x1, x2⟩ <;> rcases zer SL with ⟨s1, s2, s3, s4⟩ | ⟨s1, s2, s3, s4⟩
  all_goals
    go_enter Tryz.func23, Tryz.ntmps23
    go_wp2_with fail
    go_ret
    exact ⟨rfl, hB⟩
end Go.Proofs.YthfkodimafmmgaaGreatDoor
