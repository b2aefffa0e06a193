/- The walk of RunesBack. -/
import Derived.Test.YtlggamjchfkimaaDoorRuR
import Derived.Test.YtlggamjchfkimaaDoorWhW
namespace Go.Proofs.YtlggamjchfkimaaDoor
open Go Go.RowKit Ru

set_option maxHeartbeats 400000 in
theorem Back_long1 (r q : Int) (a b : ByteArray) (w : World) (hE : Env w) (h : 1000 < (a.size : Int)) : Calls Tryd.prog 4 #[.agg #[.int .i32 r, .int .i32 q], .string a, .string b] w fun e w' => e = .returned (.bool true) ∧ Below w.heap.size w w' := by
  have B0 : Below w.heap.size w (w.alloc (.cells #[.int .i32 r, .int .i32 q] 25)) := (Below.refl _ w).alloc (Nat.le_refl _) _
  have HE := Lib.hid (hE.below B0)
  have HB := Lib.hid B0
  clear hE B0
  have d1 : decide (1000 < (a.size : Int)) = true := by rw [decide_eq_true_eq]; exact h
  go_enter Tryd.func4, Tryd.ntmps4
  go_wp2_with fail
  refine (lives_true _ HE.out).mono ?_
  rintro e w1 ⟨rfl, b1⟩
  go_wp2_with fail
  go_ret
  exact ⟨rfl, HB.out.trans (b1.mono HB.out.size)⟩
set_option maxHeartbeats 400000 in
theorem Back_long2 (r q : Int) (a b : ByteArray) (w : World) (hE : Env w) (h1 : (a.size : Int) ≤ 1000) (h : 1000 < (b.size : Int)) : Calls Tryd.prog 4 #[.agg #[.int .i32 r, .int .i32 q], .string a, .string b] w fun e w' => e = .returned (.bool true) ∧ Below w.heap.size w w' := by
  have B0 : Below w.heap.size w (w.alloc (.cells #[.int .i32 r, .int .i32 q] 25)) := (Below.refl _ w).alloc (Nat.le_refl _) _
  have HE := Lib.hid (hE.below B0)
  have HB := Lib.hid B0
  clear hE B0
  have d1 : decide (1000 < (a.size : Int)) = false := by rw [decide_eq_false_iff_not]; omega
  have d2 : decide (1000 < (b.size : Int)) = true := by rw [decide_eq_true_eq]; exact h
  go_enter Tryd.func4, Tryd.ntmps4
  go_wp2_with fail
  refine (lives_true _ HE.out).mono ?_
  rintro e w1 ⟨rfl, b1⟩
  go_wp2_with fail
  go_ret
  exact ⟨rfl, HB.out.trans (b1.mono HB.out.size)⟩
set_option maxHeartbeats 800000 in
theorem Back_no (r q : Int) (a b : ByteArray) (w : World) (hE : Env w) (h1 : (a.size : Int) ≤ 1000) (h2 : (b.size : Int) ≤ 1000) (hv : Go.validRune r = false) : Calls Tryd.prog 4 #[.agg #[.int .i32 r, .int .i32 q], .string a, .string b] w fun e w' => e = .returned (.bool true) ∧ Below w.heap.size w w' := by
  have B0 : Below w.heap.size w (w.alloc (.cells #[.int .i32 r, .int .i32 q] 25)) := (Below.refl _ w).alloc (Nat.le_refl _) _
  have HE := Lib.hid (hE.below B0)
  have HB := Lib.hid B0
  clear hE B0
  have CE := Lib.hid (show ∀ w, Calls Tryd.prog 8 #[.int .i32 r] w fun e w' => e = .returned (.string ⟨#[]⟩) ∧ w = w' from fun w => (Encode_any r w).mono fun e w' ⟨he, hb⟩ => ⟨by rw [he, encB_no hv], hb⟩)
  have CT := Lib.hid (show ∀ w, Env w → Calls Tryd.prog 10 #[.int .i32 r] w fun e w' => e = .returned (.string ⟨#[]⟩) ∧ Below w.heap.size w w' from fun w hE => (Text_any r w hE.brj hE.size.2.2.1).mono fun e w' ⟨he, hb⟩ => ⟨by rw [he]; unfold textB; rw [text_no hv], hb⟩)
  have d1 : decide (1000 < (a.size : Int)) = false := by rw [decide_eq_false_iff_not]; omega
  have d2 : decide (1000 < (b.size : Int)) = false := by rw [decide_eq_false_iff_not]; omega
  rw [valid_not] at hv
  rcases hv with hv | hv | hv
  · have g1 : decide (0 ≤ r) = false := by rw [decide_eq_false_iff_not]; omega
    have g3 : decide (57343 < r) = false := by rw [decide_eq_false_iff_not]; omega
    clear hv
    go_enter Tryd.func4, Tryd.ntmps4
    go_wp2_with fail
    refine (CE.out _).mono ?_
    rintro e w0 ⟨rfl, rfl⟩
    go_wp2_with fail
    refine (CT.out _ HE.out).mono ?_
    rintro e w1 ⟨rfl, b1⟩
    have E1 := Lib.hid (HE.out.below b1)
    go_wp2_with fail
    refine (lives_true _ E1.out).mono ?_
    rintro e w2 ⟨rfl, b2⟩
    go_wp2_with fail
    go_ret
    exact ⟨rfl, HB.out.trans ((b1.trans (b2.mono b1.size)).mono HB.out.size)⟩
  · have g1 : decide (0 ≤ r) = true := by rw [decide_eq_true_eq]; omega
    have g2 : decide (r < 55296) = false := by rw [decide_eq_false_iff_not]; omega
    have g3 : decide (57343 < r) = false := by rw [decide_eq_false_iff_not]; omega
    clear hv
    go_enter Tryd.func4, Tryd.ntmps4
    go_wp2_with fail
    refine (CE.out _).mono ?_
    rintro e w0 ⟨rfl, rfl⟩
    go_wp2_with fail
    refine (CT.out _ HE.out).mono ?_
    rintro e w1 ⟨rfl, b1⟩
    have E1 := Lib.hid (HE.out.below b1)
    go_wp2_with fail
    refine (lives_true _ E1.out).mono ?_
    rintro e w2 ⟨rfl, b2⟩
    go_wp2_with fail
    go_ret
    exact ⟨rfl, HB.out.trans ((b1.trans (b2.mono b1.size)).mono HB.out.size)⟩
  · have g1 : decide (0 ≤ r) = true := by rw [decide_eq_true_eq]; omega
    have g2 : decide (r < 55296) = false := by rw [decide_eq_false_iff_not]; omega
    have g3 : decide (57343 < r) = true := by rw [decide_eq_true_eq]; omega
    have g4 : decide (r ≤ 1114111) = false := by rw [decide_eq_false_iff_not]; omega
    clear hv
    go_enter Tryd.func4, Tryd.ntmps4
    go_wp2_with fail
    refine (CE.out _).mono ?_
    rintro e w0 ⟨rfl, rfl⟩
    go_wp2_with fail
    refine (CT.out _ HE.out).mono ?_
    rintro e w1 ⟨rfl, b1⟩
    have E1 := Lib.hid (HE.out.below b1)
    go_wp2_with fail
    refine (lives_true _ E1.out).mono ?_
    rintro e w2 ⟨rfl, b2⟩
    go_wp2_with fail
    go_ret
    exact ⟨rfl, HB.out.trans ((b1.trans (b2.mono b1.size)).mono HB.out.size)⟩
end Go.Proofs.YtlggamjchfkimaaDoor
