/- The walk of RunesJoin. -/
import Derived.Test.YtlggamjchfkimaaDoorPlW
namespace Go.Proofs.YtlggamjchfkimaaDoor
open Go Go.RowKit Ru

theorem place_join (a x : List UInt8) (ha : bad a = -1) : place (a ++ x) = ((place a).1 + (place x).1 - 1, if (place x).1 = 1 then (place a).2 + (place x).2 - 1 else (place x).2) := by
  have h := pl_app a.length a x 0 1 1 (Nat.le_refl _) ha
  have hp := pl_le a.length a 1 1 (by omega)
  unfold place
  rw [List.length_append, h, pl_from _ _ _ _ (by omega) (by omega)]
theorem bad_cases (l : List UInt8) : bad l = -1 ∨ 0 ≤ bad l := by
  rcases bd_range l.length l 0 with h | ⟨h, _⟩
  · exact Or.inl h
  · exact Or.inr h
theorem Bad_neg (s : ByteArray) (hs : s.size ≤ 2000) (h : bad s.data.toList = -1) : ∀ w, Env w → Calls Tryd.prog 16 #[.string s] w fun e w' => e = .returned (.int .i64 (-1)) ∧ Below w.heap.size w w' := fun w hE =>
  (Bad_any s w (by omega) hE).mono fun e w' ⟨he, hb⟩ => ⟨by rw [he, h], hb⟩

set_option maxHeartbeats 400000 in
theorem Join_long (a b : ByteArray) (x : Int) (w : World) (hE : Env w) (h : 2000 < (a.size : Int)) : Calls Tryd.prog 6 #[.string a, .string b, .int .u16 x] w fun e w' => e = .returned (.bool true) ∧ Below w.heap.size w w' := by
  have HE := Lib.hid hE
  clear hE
  go_enter Tryd.func6, Tryd.ntmps6
  go_wp2_with (go_at_call 12; refine (lives_true _ HE.out).mono ?_; rintro e w1 ⟨rfl, b1⟩)
  go_ret
  exact ⟨rfl, b1⟩
set_option maxHeartbeats 400000 in
theorem Join_long2 (a b : ByteArray) (x : Int) (w : World) (hE : Env w) (h : a.size ≤ 2000) (h2 : 2000 < (b.size : Int)) : Calls Tryd.prog 6 #[.string a, .string b, .int .u16 x] w fun e w' => e = .returned (.bool true) ∧ Below w.heap.size w w' := by
  have HE := Lib.hid hE
  have d1 : decide ((2000 : Int) < (a.size : Int)) = false := by rw [decide_eq_false_iff_not]; omega
  clear hE h
  go_enter Tryd.func6, Tryd.ntmps6
  go_wp2_with (go_at_call 12; refine (lives_true _ HE.out).mono ?_; rintro e w1 ⟨rfl, b1⟩)
  go_ret
  exact ⟨rfl, b1⟩
set_option maxHeartbeats 400000 in
theorem Join_bad (a b : ByteArray) (x : Int) (w : World) (hE : Env w) (ha : a.size ≤ 2000) (hb : b.size ≤ 2000) (h : 0 ≤ bad a.data.toList) : Calls Tryd.prog 6 #[.string a, .string b, .int .u16 x] w fun e w' => e = .returned (.bool true) ∧ Below w.heap.size w w' := by
  have HE := Lib.hid hE
  have d1 : decide ((2000 : Int) < (a.size : Int)) = false := by rw [decide_eq_false_iff_not]; omega
  have d2 : decide ((2000 : Int) < (b.size : Int)) = false := by rw [decide_eq_false_iff_not]; omega
  have C := Lib.hid (fun w hE => Bad_any a w (by omega) hE)
  generalize bad a.data.toList = Z at *
  clear hE
  go_enter Tryd.func6, Tryd.ntmps6
  go_wp2_with (first | (go_at_call 16; refine (C.out _ HE.out).mono ?_; rintro e w1 ⟨rfl, b1⟩) | (go_at_call 12; refine (lives_true _ (HE.out.below b1)).mono ?_; rintro e w2 ⟨rfl, b2⟩))
  go_ret
  exact ⟨rfl, b1.trans (b2.mono b1.size)⟩
set_option maxHeartbeats 400000 in
theorem Join_bad2 (a b : ByteArray) (x : Int) (w : World) (hE : Env w) (ha : a.size ≤ 2000) (hb : b.size ≤ 2000) (h : bad a.data.toList = -1) (h2 : 0 ≤ bad b.data.toList) : Calls Tryd.prog 6 #[.string a, .string b, .int .u16 x] w fun e w' => e = .returned (.bool true) ∧ Below w.heap.size w w' := by
  have HE := Lib.hid hE
  have d1 : decide ((2000 : Int) < (a.size : Int)) = false := by rw [decide_eq_false_iff_not]; omega
  have d2 : decide ((2000 : Int) < (b.size : Int)) = false := by rw [decide_eq_false_iff_not]; omega
  have C1 := Lib.hid (Bad_neg a ha h)
  have C2 := Lib.hid (fun w hE => Bad_any b w (by omega) hE)
  generalize bad b.data.toList = Z at *
  clear hE h
  go_enter Tryd.func6, Tryd.ntmps6
  go_wp2_with fail
  refine (C1.out _ HE.out).mono ?_
  rintro e w1 ⟨rfl, b1⟩
  have E1 := Lib.hid (HE.out.below b1)
  go_wp2_with fail
  refine (C2.out _ E1.out).mono ?_
  rintro e w2 ⟨rfl, b2⟩
  have E2 := Lib.hid (E1.out.below b2)
  go_wp2_with fail
  refine (lives_true _ E2.out).mono ?_
  rintro e w3 ⟨rfl, b3⟩
  go_wp2_with fail
  go_ret
  exact ⟨rfl, b1.trans ((b2.trans (b3.mono b2.size)).mono b1.size)⟩
set_option maxHeartbeats 2000000 in
theorem Join_main (a b : ByteArray) (x : Int) (w : World) (hE : Env w) (hx0 : 0 ≤ x) (hx1 : x ≤ 65535) (ha : a.size ≤ 2000) (hb : b.size ≤ 2000) (h : bad a.data.toList = -1) (h2 : bad b.data.toList = -1) : Calls Tryd.prog 6 #[.string a, .string b, .int .u16 x] w fun e w' => e = .returned (.bool true) ∧ Below w.heap.size w w' := by
  have HE := Lib.hid hE
  have d1 : decide ((2000 : Int) < (a.size : Int)) = false := by rw [decide_eq_false_iff_not]; omega
  have d2 : decide ((2000 : Int) < (b.size : Int)) = false := by rw [decide_eq_false_iff_not]; omega
  have C1 := Lib.hid (Bad_neg a ha h)
  have C2 := Lib.hid (Bad_neg b hb h2)
  obtain ⟨I, hI⟩ : ∃ I : Int, x % ((b.size : Int) + 1) = I := ⟨_, rfl⟩
  have hI0 : 0 ≤ I := by rw [← hI]; exact Int.emod_nonneg _ (by omega)
  have hI1 : I ≤ (b.size : Int) := by have := Int.emod_lt_of_pos x (show (0 : Int) < (b.size : Int) + 1 by omega); omega
  obtain ⟨i, hi⟩ := Int.eq_ofNat_of_zero_le hI0
  have hib : i ≤ b.size := by omega
  have eA : a.data.toList.take a.size = a.data.toList := List.take_of_length_le (by rw [← Lib.size_eq]; exact Nat.le_refl _)
  have habl : (a ++ b).data.toList = a.data.toList ++ b.data.toList := by rw [ByteArray.data_append, Array.toList_append]
  have habs : (a ++ b).size = a.size + b.size := ByteArray.size_append
  have eAB : (a ++ b).data.toList.take (a.size + i) = a.data.toList ++ b.data.toList.take i := by
    rw [habl, List.take_append, List.take_of_length_le (by rw [← Lib.size_eq]; omega), ← Lib.size_eq]
    congr 2
    omega
  have hj := place_join a.data.toList (b.data.toList.take i) h
  have ple := place_le a.data.toList
  have ple2 := place_le (b.data.toList.take i)
  have hlen : (b.data.toList.take i).length ≤ 2000 := by rw [List.length_take]; omega
  rw [← Lib.size_eq] at ple
  have K1 := fun w => Place_any a (a.size : Int) w (by omega) a.size (by omega)
  have K2 := fun w => Place_any b (i : Int) w (by omega) i (by omega)
  have K3 := fun w => Place_any (a ++ b) ((a.size : Int) + (i : Int)) w (by omega) (a.size + i) (by omega)
  rw [eA] at K1
  rw [eAB, hj] at K3
  dsimp only at K3
  obtain ⟨EL, hEL⟩ : ∃ EL : Int, EL = ((place a.data.toList).1 : Int) := ⟨_, rfl⟩
  obtain ⟨EC, hEC⟩ : ∃ EC : Int, EC = ((place a.data.toList).2 : Int) := ⟨_, rfl⟩
  obtain ⟨PL, hPL⟩ : ∃ PL : Int, PL = ((place (b.data.toList.take i)).1 : Int) := ⟨_, rfl⟩
  obtain ⟨PC, hPC⟩ : ∃ PC : Int, PC = ((place (b.data.toList.take i)).2 : Int) := ⟨_, rfl⟩
  have e1 : (((place a.data.toList).1 + (place (b.data.toList.take i)).1 - 1 : Nat) : Int) = EL + PL - 1 := by omega
  have e2 : (((if (place (b.data.toList.take i)).1 = 1 then (place a.data.toList).2 + (place (b.data.toList.take i)).2 - 1 else (place (b.data.toList.take i)).2) : Nat) : Int) = if PL = 1 then EC + PC - 1 else PC := by
    by_cases k : (place (b.data.toList.take i)).1 = 1
    · rw [if_pos k, if_pos (by omega)]; omega
    · rw [if_neg k, if_neg (by omega)]; omega
  have e3 : ((a.size + i : Nat) : Int) = (a.size : Int) + (i : Int) := by omega
  rw [e1, e2, e3] at K3
  rw [← hEL, ← hEC] at K1
  rw [← hPL, ← hPC] at K2
  have hi2 : (i : Int) = I := hi.symm
  rw [hi2] at K2 K3
  have bE0 : 1 ≤ EL := by omega
  have bE1 : EL ≤ 3000 := by omega
  have bE2 : 1 ≤ EC := by omega
  have bE3 : EC ≤ 3000 := by omega
  have bP0 : 1 ≤ PL := by omega
  have bP1 : PL ≤ 3000 := by omega
  have bP2 : 1 ≤ PC := by omega
  have bP3 : PC ≤ 3000 := by omega
  have hadd : ∀ wx, (Op.stringOp .add a b).run Tryd.prog wx = .ok (.string (a ++ b)) wx := fun wx => run_string_add_sum wx _ _ (by omega)
  generalize (a ++ b) = ab at *
  have P1 := Lib.hid K1
  have P2 := Lib.hid K2
  have hza : (a.size : Int) ≤ 2000 := by omega
  have hzb : (b.size : Int) ≤ 2000 := by omega
  clear hE h h2 K1 K2 hj ple ple2 hlen e1 e2 e3 hEL hEC hPL hPC hi hi2 hib eA eAB habl habs ha hb
  by_cases k : PL = 1
  · subst k
    rw [if_pos rfl, show EL + 1 - 1 = EL from by omega] at K3
    have P3 := Lib.hid K3
    clear K3
    go_enter Tryd.func6, Tryd.ntmps6
    go_wp2_with fail
    refine (C1.out _ HE.out).mono ?_
    rintro e w1 ⟨rfl, b1⟩
    have E1 := Lib.hid (HE.out.below b1)
    go_wp2_with fail
    refine (C2.out _ E1.out).mono ?_
    rintro e w2 ⟨rfl, b2⟩
    have E2 := Lib.hid (E1.out.below b2)
    go_wp2_with fail
    refine (P1.out _).mono ?_
    rintro e w3 ⟨rfl, b3⟩
    go_wp2_with fail
    refine (P2.out _).mono ?_
    rintro e w4 ⟨rfl, b4⟩
    have T1 := Lib.hid ((Three.made w3 30 (.int .i64 a.size) (.int .i64 EL) (.int .i64 EC)).below b4)
    have c0 := T1.out.cell0
    have c1 := T1.out.cell1
    have c2 := T1.out.cell2
    have z4 : w3.heap.size < w4.heap.size := T1.out.lt
    go_wp2_with fail
    have hb4 := b1.trans ((b2.trans ((b3.trans ((((Below.refl _ w3).alloc (Nat.le_refl _) (.cells #[.int .i64 a.size, .int .i64 EL, .int .i64 EC] 30)).trans (b4.mono (by simp))).mono b3.size)).mono b2.size)).mono b1.size)
    have z0 : w.heap.size ≤ w4.heap.size := hb4.size
    have T5 := Three.made (w4.alloc (.cells #[.int .i64 I, .int .i64 1, .int .i64 PC] 30)) 30 (.int .i64 ((a.size : Int) + I)) (.int .i64 (EL)) (.int .i64 (EC + PC - 1))
    have b5 := (hb4.alloc z0 (.cells #[.int .i64 I, .int .i64 1, .int .i64 PC] 30)).alloc (by simp; omega) (.cells #[.int .i64 ((a.size : Int) + I), .int .i64 (EL), .int .i64 (EC + PC - 1)] 30)
    have e5 : (w4.alloc (.cells #[.int .i64 I, .int .i64 1, .int .i64 PC] 30)).heap.size = w4.heap.size + 1 := by simp
    rw [e5] at T5
    generalize (w4.alloc (.cells #[.int .i64 I, .int .i64 1, .int .i64 PC] 30)).alloc (.cells #[.int .i64 ((a.size : Int) + I), .int .i64 (EL), .int .i64 (EC + PC - 1)] 30) = W5 at *
    have k0 := T5.cell0
    have k1 := T5.cell1
    have k2 := T5.cell2
    have HT := Lib.hid T5
    have l1 : IntKind.i64.wrap ((a.size : Int) + I) = (a.size : Int) + I := IntWalk.i64_in _ (by omega)
    clear T5 e5
    go_region_with (first | (go_at_call 15; refine (P3.out _).mono ?_; rintro e w6 ⟨rfl, b6⟩; have b7 : Below W5.heap.size W5 w6 := ⟨b6.os, b6.tape, b6.output, b6.size, b6.block⟩; have g0 := (HT.out.below b7).cell0; have g1 := (HT.out.below b7).cell1; have g2 := (HT.out.below b7).cell2; have hbw := b5.trans (b7.mono b5.size); clear b6 b7) | (go_at_call 12; refine (lives_true _ ?_).mono ?_; exact HE.out.below hbw; rintro e w8 ⟨rfl, b8⟩))
    all_goals
      go_wp2
      go_ret
      exact ⟨rfl, hbw.trans (b8.mono hbw.size)⟩
  · rw [if_neg k] at K3
    have P3 := Lib.hid K3
    have k2 : (PL == 1) = false := by rw [beq_eq_false_iff_ne]; exact k
    clear K3 k
    go_enter Tryd.func6, Tryd.ntmps6
    go_wp2_with fail
    refine (C1.out _ HE.out).mono ?_
    rintro e w1 ⟨rfl, b1⟩
    have E1 := Lib.hid (HE.out.below b1)
    go_wp2_with fail
    refine (C2.out _ E1.out).mono ?_
    rintro e w2 ⟨rfl, b2⟩
    have E2 := Lib.hid (E1.out.below b2)
    go_wp2_with fail
    refine (P1.out _).mono ?_
    rintro e w3 ⟨rfl, b3⟩
    go_wp2_with fail
    refine (P2.out _).mono ?_
    rintro e w4 ⟨rfl, b4⟩
    have T1 := Lib.hid ((Three.made w3 30 (.int .i64 a.size) (.int .i64 EL) (.int .i64 EC)).below b4)
    have c0 := T1.out.cell0
    have c1 := T1.out.cell1
    have c2 := T1.out.cell2
    have z4 : w3.heap.size < w4.heap.size := T1.out.lt
    go_wp2_with fail
    have hb4 := b1.trans ((b2.trans ((b3.trans ((((Below.refl _ w3).alloc (Nat.le_refl _) (.cells #[.int .i64 a.size, .int .i64 EL, .int .i64 EC] 30)).trans (b4.mono (by simp))).mono b3.size)).mono b2.size)).mono b1.size)
    have z0 : w.heap.size ≤ w4.heap.size := hb4.size
    have T5 := Three.made (w4.alloc (.cells #[.int .i64 I, .int .i64 PL, .int .i64 PC] 30)) 30 (.int .i64 ((a.size : Int) + I)) (.int .i64 (EL + PL - 1)) (.int .i64 (PC))
    have b5 := (hb4.alloc z0 (.cells #[.int .i64 I, .int .i64 PL, .int .i64 PC] 30)).alloc (by simp; omega) (.cells #[.int .i64 ((a.size : Int) + I), .int .i64 (EL + PL - 1), .int .i64 (PC)] 30)
    have e5 : (w4.alloc (.cells #[.int .i64 I, .int .i64 PL, .int .i64 PC] 30)).heap.size = w4.heap.size + 1 := by simp
    rw [e5] at T5
    generalize (w4.alloc (.cells #[.int .i64 I, .int .i64 PL, .int .i64 PC] 30)).alloc (.cells #[.int .i64 ((a.size : Int) + I), .int .i64 (EL + PL - 1), .int .i64 (PC)] 30) = W5 at *
    have k0 := T5.cell0
    have k1 := T5.cell1
    have k2 := T5.cell2
    have HT := Lib.hid T5
    have l1 : IntKind.i64.wrap ((a.size : Int) + I) = (a.size : Int) + I := IntWalk.i64_in _ (by omega)
    clear T5 e5
    go_region_with (first | (go_at_call 15; refine (P3.out _).mono ?_; rintro e w6 ⟨rfl, b6⟩; have b7 : Below W5.heap.size W5 w6 := ⟨b6.os, b6.tape, b6.output, b6.size, b6.block⟩; have g0 := (HT.out.below b7).cell0; have g1 := (HT.out.below b7).cell1; have g2 := (HT.out.below b7).cell2; have hbw := b5.trans (b7.mono b5.size); clear b6 b7) | (go_at_call 12; refine (lives_true _ ?_).mono ?_; exact HE.out.below hbw; rintro e w8 ⟨rfl, b8⟩))
    all_goals
      go_wp2
      go_ret
      exact ⟨rfl, hbw.trans (b8.mono hbw.size)⟩
theorem Join_any (a b : ByteArray) (x : Int) (w : World) (hE : Env w) (hx0 : 0 ≤ x) (hx1 : x ≤ 65535) : Calls Tryd.prog 6 #[.string a, .string b, .int .u16 x] w fun e w' => e = .returned (.bool true) ∧ Below w.heap.size w w' := by
  by_cases ha : a.size ≤ 2000
  · by_cases hb : b.size ≤ 2000
    · rcases bad_cases a.data.toList with h | h
      · rcases bad_cases b.data.toList with h2 | h2
        · exact Join_main a b x w hE hx0 hx1 ha hb h h2
        · exact Join_bad2 a b x w hE ha hb h h2
      · exact Join_bad a b x w hE ha hb h
    · exact Join_long2 a b x w hE ha (by omega)
  · exact Join_long a b x w hE (by omega)
end Go.Proofs.YtlggamjchfkimaaDoor
