/- The walk of RunesBack at a rune. -/
import Derived.Test.YtlggamjchfkimaaDoorBaW
namespace Go.Proofs.YtlggamjchfkimaaDoor
open Go Go.RowKit Ru

theorem drop_mid (a z b : ByteArray) : ((a ++ z) ++ b).data.toList.drop a.size = z.data.toList ++ b.data.toList := by
  rw [ByteArray.data_append, Array.toList_append, ByteArray.data_append, Array.toList_append, List.append_assoc, Lib.size_eq, List.drop_left]
/-- What the calls of RunesBack hand back at a rune. -/
structure Backs (r q : Int) (a b Z T Q : ByteArray) : Prop where
  enc : ∀ w, Calls Tryd.prog 8 #[.int .i32 r] w fun e w' => e = .returned (.string Z) ∧ w = w'
  txt : ∀ w, Env w → Calls Tryd.prog 10 #[.int .i32 r] w fun e w' => e = .returned (.string T) ∧ Below w.heap.size w w'
  txq : ∀ w, Env w → Calls Tryd.prog 10 #[.int .i32 q] w fun e w' => e = .returned (.string Q) ∧ Below w.heap.size w w'
  dec : ∀ w, Env w → Calls Tryd.prog 13 #[.string ((a ++ Z) ++ b), .int .i64 a.size] w fun e w' => e = .returned (.tuple #[.int .i32 r, .int .i64 Z.size, .bool true]) ∧ Below w.heap.size w w'
  esc : T ≠ Z → ∀ w, Env w → Calls Tryd.prog 14 #[.string ((a ++ T) ++ b), .int .i64 a.size] w fun e w' => e = .returned (.tuple #[.int .i32 r, .int .i64 T.size, .bool true]) ∧ Below w.heap.size w w'
  zs : 1 ≤ Z.size ∧ Z.size ≤ 4
  ts : 1 ≤ T.size ∧ T.size ≤ 10
  qt : Q.toList = T.toList ↔ q = r
  tz : T = Z → 32 ≤ r ∧ r ≤ 126
theorem backs (r q : Int) (a b : ByteArray) (ha : (a.size : Int) ≤ 1000) (hb : (b.size : Int) ≤ 1000) (hv : Go.validRune r = true) : Backs r q a b (encB r) (textB r) (textB q) := by
  have h0 : 0 ≤ r := by rw [valid_iff] at hv; omega
  have hsz : ∀ x y : ByteArray, (x ++ y).size = x.size + y.size := fun x y => ByteArray.size_append
  have hz : (encB r).size = (encL r).length := Lib.size_eq _
  have ht : (textB r).size = (text r).length := rfl
  have hl := encL_len r hv
  have htl := text_len r
  have htn : 1 ≤ (text r).length := by
    have := text_ne r hv
    cases h : text r with
    | nil => exact absurd h this
    | cons c l => simp
  have hne : textB r ≠ encB r → text r ≠ encL r := fun h hh => h (by
    have : (textB r).data.toList = (encB r).data.toList := hh
    generalize textB r = x at *; generalize encB r = y at *
    cases x; cases y; simp only [ByteArray.mk.injEq] at *; exact Array.toList_inj.1 this)
  refine ⟨fun w => Encode_any r w, fun w hE => Text_any r w hE.brj hE.size.2.2.1, fun w hE => Text_any q w hE.brj hE.size.2.2.1, fun w hE => ?_, fun hn w hE => ?_, by omega, by omega, ?_, fun e => ?_⟩
  · refine (Decode_in _ a.size w (by rw [hsz, hsz]; omega) (by rw [hsz, hsz]; omega) hE).mono fun e w' ⟨he, hb⟩ => ⟨?_, hb⟩
    rw [he, drop_mid, show (encB r).data.toList = encL r from rfl, decode_enc_app r _ hv, decT_ok (by rw [← (decode_enc r hv).1]; exact (decode_enc r hv).2.2)]
    simp only [hz, Int.toNat_of_nonneg h0]
  · refine (Escape_in _ a.size w (by rw [hsz, hsz]; omega) (by rw [hsz, hsz]; omega) hE).mono fun e w' ⟨he, hb⟩ => ⟨?_, hb⟩
    rw [he, drop_mid, show (textB r).data.toList = text r from rfl, escL_text r _ hv (hne hn)]
    simp only [escT, ht, Int.toNat_of_nonneg h0]
  · rw [ByteArray.toList_eq, ByteArray.toList_eq]
    exact text_inj q r hv
  · have : text r = encL r := by
      have := congrArg (fun x : ByteArray => x.data.toList) e
      exact this
    have := (text_is_enc r hv).1 this
    exact ⟨this.1, this.2.1⟩
theorem notEmpty (x : ByteArray) (h : 1 ≤ x.size) : x.toList.isEmpty = false ∧ ¬ x.toList = [] := by
  rw [ByteArray.toList_eq]
  rw [Lib.size_eq] at h
  cases hx : x.data.toList with
  | nil => rw [hx] at h; simp at h
  | cons c l => simp
set_option maxHeartbeats 800000 in
theorem Back_yes (r q : Int) (a b Z T Q : ByteArray) (w : World) (hE : Env w) (h1 : (a.size : Int) ≤ 1000) (h2 : (b.size : Int) ≤ 1000) (hv : Go.validRune r = true) (hK : Backs r q a b Z T Q) : Calls Tryd.prog 4 #[.agg #[.int .i32 r, .int .i32 q], .string a, .string b] w fun e w' => e = .returned (.bool true) ∧ Below w.heap.size w w' := by
  have B0 : Below w.heap.size w (w.alloc (.cells #[.int .i32 r, .int .i32 q] 25)) := (Below.refl _ w).alloc (Nat.le_refl _) _
  have HE := Lib.hid (hE.below B0)
  have HB := Lib.hid B0
  have HK := Lib.hid hK
  clear hE B0
  have d1 : decide (1000 < (a.size : Int)) = false := by rw [decide_eq_false_iff_not]; omega
  have d2 : decide (1000 < (b.size : Int)) = false := by rw [decide_eq_false_iff_not]; omega
  obtain ⟨hz1, hz2⟩ := hK.zs
  obtain ⟨ht1, ht2⟩ := hK.ts
  obtain ⟨z1, z2⟩ := notEmpty Z hz1
  obtain ⟨t1, t2⟩ := notEmpty T ht1
  have hqt := Lib.hid hK.qt
  have htz := Lib.hid hK.tz
  clear hK
  have hsz : ∀ x y : ByteArray, (x ++ y).size = x.size + y.size := fun x y => ByteArray.size_append
  have a1 : ∀ wx, (Op.stringOp .add a Z).run Tryd.prog wx = .ok (.string (a ++ Z)) wx := fun wx => run_string_add_sum wx _ _ (by omega)
  have a2 : ∀ wx, (Op.stringOp .add (a ++ Z) b).run Tryd.prog wx = .ok (.string ((a ++ Z) ++ b)) wx := fun wx => run_string_add_sum wx _ _ (by rw [hsz]; omega)
  have a3 : ∀ wx, (Op.stringOp .add a T).run Tryd.prog wx = .ok (.string (a ++ T)) wx := fun wx => run_string_add_sum wx _ _ (by omega)
  have a4 : ∀ wx, (Op.stringOp .add (a ++ T) b).run Tryd.prog wx = .ok (.string ((a ++ T) ++ b)) wx := fun wx => run_string_add_sum wx _ _ (by rw [hsz]; omega)
  clear hsz
  obtain ⟨A, hA⟩ : ∃ A : Bool, (Q.toList == T.toList) = A ∧ (q == r) = A := by
    by_cases h : q = r
    · exact ⟨true, by rw [beq_iff_eq]; exact hqt.out.2 h, by rw [beq_iff_eq]; exact h⟩
    · exact ⟨false, by rw [beq_eq_false_iff_ne]; exact fun hh => h (hqt.out.1 hh), by rw [beq_eq_false_iff_ne]; exact h⟩
  obtain ⟨e1, e2⟩ := hA
  clear hqt
  rw [valid_iff] at hv
  by_cases hT : T = Z
  · obtain ⟨k1, k2⟩ := htz.out hT
    have f1 : (T.toList == Z.toList) = true := by rw [hT, beq_self_eq_true]
    have f2 : decide (32 ≤ r) = true := by rw [decide_eq_true_eq]; exact k1
    have f3 : decide (r ≤ 126) = true := by rw [decide_eq_true_eq]; exact k2
    clear hT htz
    have g1 : decide (0 ≤ r) = true := by rw [decide_eq_true_eq]; omega
    have g2 : decide (r < 55296) = true := by rw [decide_eq_true_eq]; omega
    clear hv
    go_enter Tryd.func4, Tryd.ntmps4
    go_wp2_with fail
    refine (HK.out.enc _).mono ?_
    rintro e w0 ⟨rfl, rfl⟩
    go_wp2_with fail
    refine (HK.out.txt _ HE.out).mono ?_
    rintro e w1 ⟨rfl, b1⟩
    have E1 := Lib.hid (HE.out.below b1)
    go_wp2_with fail
    refine (HK.out.dec _ E1.out).mono ?_
    rintro e w2 ⟨rfl, b2⟩
    have E2 := Lib.hid (E1.out.below b2)
    go_wp2_with (go_at_call 10; refine (HK.out.txq _ E2.out).mono ?_; rintro e w3 ⟨rfl, b3⟩)
    have E3 := Lib.hid (E2.out.below b3)
    go_wp2_with fail
    refine (lives_true _ E3.out).mono ?_
    rintro e w4 ⟨rfl, b4⟩
    go_wp2_with fail
    go_ret
    exact ⟨rfl, HB.out.trans ((b1.trans ((b2.trans ((b3.trans (b4.mono b3.size)).mono b2.size)).mono b1.size)).mono HB.out.size)⟩
  have f1 : (T.toList == Z.toList) = false := by
    rw [beq_eq_false_iff_ne, ByteArray.toList_eq, ByteArray.toList_eq]
    exact fun h => hT (Go.WideShapes.bytes_inj h)
  have HX := Lib.hid (HK.out.esc hT)
  clear hT htz
  rcases hv with hv | hv
  · have g1 : decide (0 ≤ r) = true := by rw [decide_eq_true_eq]; omega
    have g2 : decide (r < 55296) = true := by rw [decide_eq_true_eq]; omega
    clear hv
    go_enter Tryd.func4, Tryd.ntmps4
    go_wp2_with fail
    refine (HK.out.enc _).mono ?_
    rintro e w0 ⟨rfl, rfl⟩
    go_wp2_with fail
    refine (HK.out.txt _ HE.out).mono ?_
    rintro e w1 ⟨rfl, b1⟩
    have E1 := Lib.hid (HE.out.below b1)
    go_wp2_with fail
    refine (HK.out.dec _ E1.out).mono ?_
    rintro e w2 ⟨rfl, b2⟩
    have E2 := Lib.hid (E1.out.below b2)
    go_wp2_with (go_at_call 10; refine (HK.out.txq _ E2.out).mono ?_; rintro e w3 ⟨rfl, b3⟩)
    have E3 := Lib.hid (E2.out.below b3)
    go_wp2_with fail
    refine (HX.out _ E3.out).mono ?_
    rintro e w4 ⟨rfl, b4⟩
    have E4 := Lib.hid (E3.out.below b4)
    go_wp2_with fail
    refine (lives_true _ E4.out).mono ?_
    rintro e w5 ⟨rfl, b5⟩
    go_wp2_with fail
    go_ret
    exact ⟨rfl, HB.out.trans ((b1.trans ((b2.trans ((b3.trans ((b4.trans (b5.mono b4.size)).mono b3.size)).mono b2.size)).mono b1.size)).mono HB.out.size)⟩
  · have g1 : decide (0 ≤ r) = true := by rw [decide_eq_true_eq]; omega
    have g2 : decide (r < 55296) = false := by rw [decide_eq_false_iff_not]; omega
    have g3 : decide (57343 < r) = true := by rw [decide_eq_true_eq]; omega
    have g4 : decide (r ≤ 1114111) = true := by rw [decide_eq_true_eq]; omega
    clear hv
    go_enter Tryd.func4, Tryd.ntmps4
    go_wp2_with fail
    refine (HK.out.enc _).mono ?_
    rintro e w0 ⟨rfl, rfl⟩
    go_wp2_with fail
    refine (HK.out.txt _ HE.out).mono ?_
    rintro e w1 ⟨rfl, b1⟩
    have E1 := Lib.hid (HE.out.below b1)
    go_wp2_with fail
    refine (HK.out.dec _ E1.out).mono ?_
    rintro e w2 ⟨rfl, b2⟩
    have E2 := Lib.hid (E1.out.below b2)
    go_wp2_with (go_at_call 10; refine (HK.out.txq _ E2.out).mono ?_; rintro e w3 ⟨rfl, b3⟩)
    have E3 := Lib.hid (E2.out.below b3)
    go_wp2_with fail
    refine (HX.out _ E3.out).mono ?_
    rintro e w4 ⟨rfl, b4⟩
    have E4 := Lib.hid (E3.out.below b4)
    go_wp2_with fail
    refine (lives_true _ E4.out).mono ?_
    rintro e w5 ⟨rfl, b5⟩
    go_wp2_with fail
    go_ret
    exact ⟨rfl, HB.out.trans ((b1.trans ((b2.trans ((b3.trans ((b4.trans (b5.mono b4.size)).mono b3.size)).mono b2.size)).mono b1.size)).mono HB.out.size)⟩

theorem Back_any (r q : Int) (a b : ByteArray) (w : World) (hE : Env w) : Calls Tryd.prog 4 #[.agg #[.int .i32 r, .int .i32 q], .string a, .string b] w fun e w' => e = .returned (.bool true) ∧ Below w.heap.size w w' := by
  by_cases h1 : 1000 < (a.size : Int)
  · exact Back_long1 r q a b w hE h1
  by_cases h2 : 1000 < (b.size : Int)
  · exact Back_long2 r q a b w hE (by omega) h2
  cases hv : Go.validRune r
  · exact Back_no r q a b w hE (by omega) (by omega) hv
  · exact Back_yes r q a b _ _ _ w hE (by omega) (by omega) hv (backs r q a b (by omega) (by omega) hv)
end Go.Proofs.YtlggamjchfkimaaDoor
