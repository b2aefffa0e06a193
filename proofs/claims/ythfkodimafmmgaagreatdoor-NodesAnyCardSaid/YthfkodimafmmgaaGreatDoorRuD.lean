/- The document's own Text: a rune's text, whatever the number. -/
import Derived.Test.YthfkodimafmmgaaGreatDoorRuC
namespace Go.Proofs.YthfkodimafmmgaaGreatDoor
open Go Go.RowKit Ru

set_option maxHeartbeats 400000 in
theorem refOwn_no (c : Int) (w : World) (h1 : (c == 92) = false) (h2 : (c == 39) = false) (h3 : (c == 93) = false) (h4 : (c == 91) = false) (h5 : (c == 45) = false) :
    Calls Tryz.prog 61 #[.int .u8 c] w fun e w' => e = .returned (.bool false) ∧ w = w' := by
  go_enter Tryz.func61, Tryz.ntmps61
  go_wp2
  go_ret
  exact ⟨rfl, rfl⟩
set_option maxHeartbeats 400000 in
theorem refText_no (r : Int) (w : World) (h : Go.validRune r = false) :
    Calls Tryz.prog 44 #[.int .i32 r] w fun e w' => e = .returned (.string (textB r)) ∧ Below w.heap.size w w' := by
  have H := Lib.hid h
  have he := Lib.hid (show textB r = ⟨#[]⟩ by unfold textB; rw [text_no h])
  clear h
  go_enter Tryz.func44, Tryz.ntmps44
  go_wp2_with (go_at_call 40; refine (refIs_no _ _ H.out).mono ?_; rintro e w' ⟨rfl, rfl⟩)
  go_ret
  exact ⟨ret_str he.out.symm, Below.refl _ _⟩
theorem refOwn_yes (c : Int) (w : World) (h : c = 92 ∨ c = 39 ∨ c = 93 ∨ c = 45 ∨ c = 91) :
    Calls Tryz.prog 61 #[.int .u8 c] w fun e w' => e = .returned (.bool true) ∧ w = w' := by
  rcases h with rfl | rfl | rfl | rfl | rfl
  all_goals
    go_enter Tryz.func61, Tryz.ntmps61
    go_wp2
    go_ret
    exact ⟨rfl, rfl⟩
theorem add_small (a b : ByteArray) (ha : a.size ≤ 1000) (hb : b.size ≤ 1000) : ∀ wx, (Op.stringOp .add a b).run Tryz.prog wx = .ok (.string (a ++ b)) wx :=
  fun wx => run_string_add_sum wx _ _ (by omega)
theorem encB_size (r : Int) : (encB r).size ≤ 4 := by
  cases h : Go.validRune r
  · rw [encB_no h]; decide
  · have hv := (valid_iff r).1 h
    by_cases a : r < 128; · rw [enc_1 (by omega) a]; exact Nat.le_of_ble_eq_true rfl
    by_cases b : r < 2048; · rw [enc_2 (by omega) b]; exact Nat.le_of_ble_eq_true rfl
    by_cases c : r < 65536; · rw [enc_3 h (by omega) c]; exact Nat.le_of_ble_eq_true rfl
    rw [enc_4 (by omega) (by omega)]; exact Nat.le_of_ble_eq_true rfl
theorem encB_ascii {r : Int} (h0 : 0 ≤ r) (h1 : r < 128) : encB r = ⟨#[UInt8.ofNat r.toNat]⟩ := by
  rw [encB_yes ((valid_iff r).2 (by omega)), encode_1 h0 h1]
set_option maxHeartbeats 400000 in
theorem refText_own (r : Int) (w : World) (h : r = 92 ∨ r = 39 ∨ r = 93 ∨ r = 45 ∨ r = 91) :
    Calls Tryz.prog 44 #[.int .i32 r] w fun e w' => e = .returned (.string (textB r)) ∧ Below w.heap.size w w' := by
  have H := Lib.hid ((valid_iff r).2 (by omega))
  have HO := Lib.hid (fun w => refOwn_yes r w h)
  have he := Lib.hid (show (⟨#[92]⟩ : ByteArray) ++ encB r = textB r by
    rcases h with rfl | rfl | rfl | rfl | rfl <;> decide)
  have hadd := add_small ⟨#[92]⟩ (encB r) (by decide) (by have := encB_size r; omega)
  have t1 : (r == 10) = false := by rw [beq_eq_false_iff_ne]; omega
  have t2 : (r == 13) = false := by rw [beq_eq_false_iff_ne]; omega
  have t3 : (r == 9) = false := by rw [beq_eq_false_iff_ne]; omega
  have h0 : 0 ≤ r := by omega
  have h1 : r < 128 := by omega
  clear h
  go_enter Tryz.func44, Tryz.ntmps44
  go_wp2_with (first | (go_at_call 40; refine (refIs_yes _ _ H.out).mono ?_; rintro e w' ⟨rfl, rfl⟩) | (go_at_call 61; refine (HO.out _).mono ?_; rintro e w' ⟨rfl, rfl⟩) | (go_at_call 62; refine (refEncode_any _ _).mono ?_; rintro e w' ⟨rfl, hb⟩))
  go_ret
  exact ⟨ret_str he.out, hb⟩
set_option maxHeartbeats 400000 in
theorem refText_self (r : Int) (w : World) (h0 : 32 ≤ r) (h1 : r ≤ 126) (hs : sign r = 0) (n1 : (r == 92) = false) (n2 : (r == 39) = false) (n3 : (r == 93) = false) (n4 : (r == 45) = false) (n5 : (r == 91) = false) :
    Calls Tryz.prog 44 #[.int .i32 r] w fun e w' => e = .returned (.string (textB r)) ∧ Below w.heap.size w w' := by
  have H := Lib.hid ((valid_iff r).2 (by omega))
  have HO := Lib.hid (fun w => refOwn_no r w n1 n2 n3 n5 n4)
  have he := Lib.hid (show encB r = textB r by
    unfold textB
    rw [text_self h0 h1 hs, encB_ascii (by omega) (by omega)])
  have t1 : (r == 10) = false := by rw [beq_eq_false_iff_ne]; omega
  have t2 : (r == 13) = false := by rw [beq_eq_false_iff_ne]; omega
  have t3 : (r == 9) = false := by rw [beq_eq_false_iff_ne]; omega
  clear n1 n2 n3 n4 n5 hs
  go_enter Tryz.func44, Tryz.ntmps44
  go_wp2_with (first | (go_at_call 40; refine (refIs_yes _ _ H.out).mono ?_; rintro e w' ⟨rfl, rfl⟩) | (go_at_call 61; refine (HO.out _).mono ?_; rintro e w' ⟨rfl, rfl⟩) | (go_at_call 62; refine (refEncode_any _ _).mono ?_; rintro e w' ⟨rfl, hb⟩))
  go_ret
  exact ⟨ret_str he.out, hb⟩
set_option maxHeartbeats 400000 in
theorem refText_num (r : Int) (w : World) (h : Go.validRune r = true) (h1 : r < 32 ∨ 126 < r) (hs : sign r = 0) (m1 : (r == 10) = false) (m2 : (r == 13) = false) (m3 : (r == 9) = false) (n1 : (r == 92) = false) (n2 : (r == 39) = false) (n3 : (r == 93) = false) (n4 : (r == 45) = false) (n5 : (r == 91) = false) :
    Calls Tryz.prog 44 #[.int .i32 r] w fun e w' => e = .returned (.string (textB r)) ∧ Below w.heap.size w w' := by
  have hv := (valid_iff r).1 h
  have hr0 : 0 ≤ r := by omega
  have hr1 : r ≤ 1114111 := by omega
  have H := Lib.hid h
  have HO := Lib.hid (fun w => refOwn_no r w n1 n2 n3 n5 n4)
  have hx := fun w => refHex_any 5 r.toNat w (by omega) (by omega)
  simp only [Int.toNat_of_nonneg hr0] at hx
  have HX := Lib.hid hx
  have hl := hexL_length_le 5 r.toNat (by omega)
  have e1 : (⟨#[92, 117, 123]⟩ : ByteArray) ++ ⟨(hexL r.toNat).toArray⟩ = ⟨([92, 117, 123] ++ hexL r.toNat).toArray⟩ := app_mk [92, 117, 123] _
  have he := Lib.hid (show (⟨#[92, 117, 123]⟩ : ByteArray) ++ ⟨(hexL r.toNat).toArray⟩ ++ ⟨#[125]⟩ = textB r by
    unfold textB
    rw [text_num h h1 hs, e1]
    exact app_mk _ [125])
  have hsz : (⟨(hexL r.toNat).toArray⟩ : ByteArray).size ≤ 6 := by
    show (hexL r.toNat).toArray.size ≤ 6
    rw [List.size_toArray]; omega
  have hadd := add_small ⟨#[92, 117, 123]⟩ ⟨(hexL r.toNat).toArray⟩ (by decide) (by omega)
  have hadd2 := add_small (⟨#[92, 117, 123]⟩ ++ ⟨(hexL r.toNat).toArray⟩) ⟨#[125]⟩ (by rw [ByteArray.size_append]; have : (⟨#[92, 117, 123]⟩ : ByteArray).size = 3 := rfl; omega) (by decide)
  clear h hv n1 n2 n3 n4 n5 hs hl e1 hsz hx
  generalize (⟨(hexL r.toNat).toArray⟩ : ByteArray) = X at *
  by_cases k : r < 128
  · rcases h1 with h1 | h1
    all_goals
      go_enter Tryz.func44, Tryz.ntmps44
      go_wp2_with (first | (go_at_call 40; refine (refIs_yes _ _ H.out).mono ?_; rintro e w' ⟨rfl, rfl⟩) | (go_at_call 61; refine (HO.out _).mono ?_; rintro e w' ⟨rfl, rfl⟩) | (go_at_call 63; refine (HX.out _).mono ?_; rintro e w' ⟨rfl, m, rfl⟩))
      go_ret
      exact ⟨ret_str he.out, below_drewN (Below.refl _ _) _⟩
  · have h2 : 126 < r := by omega
    clear h1
    go_enter Tryz.func44, Tryz.ntmps44
    go_wp2_with (first | (go_at_call 40; refine (refIs_yes _ _ H.out).mono ?_; rintro e w' ⟨rfl, rfl⟩) | (go_at_call 63; refine (HX.out _).mono ?_; rintro e w' ⟨rfl, m, rfl⟩))
    go_ret
    exact ⟨ret_str he.out, below_drewN (Below.refl _ _) _⟩
theorem refText_c10 (w : World) :
    Calls Tryz.prog 44 #[.int .i32 10] w fun e w' => e = .returned (.string (textB 10)) ∧ Below w.heap.size w w' := by
  have H := Lib.hid ((valid_iff 10).2 (by omega))
  have he := Lib.hid (show (⟨#[92, 110]⟩ : ByteArray) = textB 10 by decide)
  go_enter Tryz.func44, Tryz.ntmps44
  go_wp2_with (go_at_call 40; refine (refIs_yes _ _ H.out).mono ?_; rintro e w' ⟨rfl, rfl⟩)
  go_ret
  exact ⟨ret_str he.out, Below.refl _ _⟩
theorem refText_c13 (w : World) :
    Calls Tryz.prog 44 #[.int .i32 13] w fun e w' => e = .returned (.string (textB 13)) ∧ Below w.heap.size w w' := by
  have H := Lib.hid ((valid_iff 13).2 (by omega))
  have he := Lib.hid (show (⟨#[92, 114]⟩ : ByteArray) = textB 13 by decide)
  go_enter Tryz.func44, Tryz.ntmps44
  go_wp2_with (go_at_call 40; refine (refIs_yes _ _ H.out).mono ?_; rintro e w' ⟨rfl, rfl⟩)
  go_ret
  exact ⟨ret_str he.out, Below.refl _ _⟩
theorem refText_c9 (w : World) :
    Calls Tryz.prog 44 #[.int .i32 9] w fun e w' => e = .returned (.string (textB 9)) ∧ Below w.heap.size w w' := by
  have H := Lib.hid ((valid_iff 9).2 (by omega))
  have he := Lib.hid (show (⟨#[92, 116]⟩ : ByteArray) = textB 9 by decide)
  go_enter Tryz.func44, Tryz.ntmps44
  go_wp2_with (go_at_call 40; refine (refIs_yes _ _ H.out).mono ?_; rintro e w' ⟨rfl, rfl⟩)
  go_ret
  exact ⟨ret_str he.out, Below.refl _ _⟩
theorem refText_any (r : Int) (w : World) :
    Calls Tryz.prog 44 #[.int .i32 r] w fun e w' => e = .returned (.string (textB r)) ∧ Below w.heap.size w w' := by
  cases h : Go.validRune r
  · exact refText_no r w h
  · rcases sign_cases r with e | e | e | e | e | e | e | e | ⟨hs, d1, d2, d3, d4, d5, d6, d7, d8⟩
    · subst e; exact refText_c10 w
    · subst e; exact refText_c13 w
    · subst e; exact refText_c9 w
    · exact refText_own r w (by omega)
    · exact refText_own r w (by omega)
    · exact refText_own r w (by omega)
    · exact refText_own r w (by omega)
    · exact refText_own r w (by omega)
    · have z : ∀ a b : Int, a ≠ b → (a == b) = false := fun a b e => by rw [beq_eq_false_iff_ne]; exact e
      by_cases hr : 32 ≤ r ∧ r ≤ 126
      · exact refText_self r w hr.1 hr.2 hs (z _ _ d4) (z _ _ d5) (z _ _ d6) (z _ _ d7) (z _ _ d8)
      · exact refText_num r w h (by omega) hs (z _ _ d1) (z _ _ d2) (z _ _ d3) (z _ _ d4) (z _ _ d5) (z _ _ d6) (z _ _ d7) (z _ _ d8)
end Go.Proofs.YthfkodimafmmgaaGreatDoor
