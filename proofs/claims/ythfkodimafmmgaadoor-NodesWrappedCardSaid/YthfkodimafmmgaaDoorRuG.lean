/- runes.Text: a rune's text, whatever the number. -/
import Derived.Test.YthfkodimafmmgaaDoorRuF
namespace Go.Proofs.YthfkodimafmmgaaDoor
open Go Go.RowKit Ru
set_option maxRecDepth 100000

theorem sign_index : ∀ n : Fin 128, sign (n.val : Int) = 0 → Lib.indexByte meant.data.toList (UInt8.ofNat n.val) = -1 := by decide +kernel
theorem IndexRune_none (r : Int) (w : World) (h : Go.validRune r = true) (hs : sign r = 0) :
    Calls Tryd.prog 64 #[.string meant, .int .i32 r] w fun e w' => e = .returned (.int .i64 (-1)) ∧ Below w.heap.size w w' := by
  have hv := (valid_iff r).1 h
  have dr : ∀ e w', (e = Ending.returned (.int .i64 (-1)) ∧ ∃ m, w' = w.drewN m) → e = Ending.returned (.int .i64 (-1)) ∧ Below w.heap.size w w' := by
    rintro e w' ⟨he, m, rfl⟩
    exact ⟨he, below_drewN (Below.refl _ _) _⟩
  by_cases a : r < 128
  · refine (Tryd.strings_IndexRune_ascii meant r w (by omega) a).mono ?_
    rintro e w' ⟨he, rfl⟩
    have k := sign_index ⟨r.toNat, by omega⟩ (by rw [show ((r.toNat : Nat) : Int) = r from by omega]; exact hs)
    refine ⟨?_, Below.refl _ _⟩
    rw [he]
    have : r.toNat.toUInt8 = UInt8.ofNat r.toNat := rfl
    rw [this, k]
  · by_cases e : r = 65533
    · subst e; exact IndexRune_e w
    · by_cases b : r < 2048
      · exact (IndexRune_2 r w h e (by omega) b).mono dr
      · by_cases c : r < 65536
        · exact (IndexRune_3 r w h e (by omega) c).mono dr
        · exact (IndexRune_4 r w h e (by omega) (by omega)).mono dr

theorem Text_no (r : Int) (w : World) (h : Go.validRune r = false) :
    Calls Tryd.prog 49 #[.int .i32 r] w fun e w' => e = .returned (.string (textB r)) ∧ Below w.heap.size w w' := by
  have H := Lib.hid h
  have he := Lib.hid (show textB r = ⟨#[]⟩ by unfold textB; rw [text_no h])
  clear h
  go_enter Tryd.func49, Tryd.ntmps49
  go_wp2_with (go_at_call 63; refine (validRune_no _ _ H.out).mono ?_; rintro e w' ⟨rfl, rfl⟩)
  go_ret
  exact ⟨ret_str he.out.symm, Below.refl _ _⟩
set_option maxHeartbeats 400000 in
theorem Text_sign (r : Int) (k : Nat) (w : World) (hk : k < 8) (h0 : 0 ≤ r) (h1 : r < 128) (hix : Lib.indexByte meant.data.toList r.toNat.toUInt8 = k) (hsg : (⟨#[110, 114, 116, 92, 39, 93, 45, 91]⟩ : ByteArray).extract k (k + 1) = ⟨#[sign r]⟩) (hs : sign r ≠ 0) :
    Calls Tryd.prog 49 #[.int .i32 r] w fun e w' => e = .returned (.string (textB r)) ∧ Below w.heap.size w w' := by
  have hv : Go.validRune r = true := (valid_iff r).2 (by omega)
  have H := Lib.hid hv
  have he := Lib.hid (show (⟨#[92]⟩ : ByteArray) ++ ⟨#[sign r]⟩ = textB r by unfold textB; rw [text_sign hv hs]; rfl)
  have C := Lib.hid (show ∀ w, Calls Tryd.prog 64 #[.string meant, .int .i32 r] w fun e w' => e = .returned (.int .i64 (k : Int)) ∧ w = w' from fun w => (Tryd.strings_IndexRune_ascii meant r w h0 h1).mono fun e w' ⟨he, hw⟩ => ⟨by rw [he, hix], hw.symm⟩)
  have hadd := add_small ⟨#[92]⟩ ⟨#[sign r]⟩ (by decide) (by show 1 ≤ 1000; omega)
  have hsl : ∀ wx, (Instr.slice 9 (.string ⟨#[110, 114, 116, 92, 39, 93, 45, 91]⟩) (some (.int .i64 (k : Int))) (some (.int .i64 ((k : Int) + 1))) none).run Tryd.prog wx = .ok (.string ⟨#[sign r]⟩) wx := fun wx => by
    have h := run_slice_string (P := Tryd.prog) (w := wx) 9 ⟨#[110, 114, 116, 92, 39, 93, 45, 91]⟩ .i64 .i64 (k : Int) ((k : Int) + 1) Tryd.underlying9 (by omega) (by omega) (by show _ ≤ ((8 : Nat) : Int); omega)
    rw [show ((k : Int)).toNat = k from by omega, show ((k : Int) + 1).toNat = k + 1 from by omega, hsg] at h
    exact h
  clear hv hix hsg hs
  go_enter Tryd.func49, Tryd.ntmps49
  go_wp2_with (first | (go_at_call 63; refine (validRune_yes _ _ H.out).mono ?_; rintro e w' ⟨rfl, rfl⟩) | (go_at_call 64; refine (C.out _).mono ?_; rintro e w' ⟨rfl, rfl⟩))
  go_ret
  exact ⟨ret_str he.out, Below.refl _ _⟩
set_option maxHeartbeats 400000 in
theorem Text_self (r : Int) (w : World) (h0 : 32 ≤ r) (h1 : r ≤ 126) (hs : sign r = 0) :
    Calls Tryd.prog 49 #[.int .i32 r] w fun e w' => e = .returned (.string (textB r)) ∧ Below w.heap.size w w' := by
  have hv : Go.validRune r = true := (valid_iff r).2 (by omega)
  have H := Lib.hid hv
  have C := Lib.hid (fun w => IndexRune_none r w hv hs)
  have he := Lib.hid (show Utf8.encode r = textB r by unfold textB; rw [text_self h0 h1 hs, encode_1 (by omega) (by omega)])
  clear hv hs
  go_enter Tryd.func49, Tryd.ntmps49
  go_wp2_with (first | (go_at_call 63; refine (validRune_yes _ _ H.out).mono ?_; rintro e w' ⟨rfl, rfl⟩) | (go_at_call 64; refine (C.out _).mono ?_; rintro e w' ⟨rfl, hb⟩))
  go_ret
  exact ⟨ret_str he.out, hb⟩
set_option maxHeartbeats 400000 in
theorem Text_num (r : Int) (w : World) (h : Go.validRune r = true) (h1 : r < 32 ∨ 126 < r) (hs : sign r = 0) (hbr : w.cell? ⟨5, 15, none⟩ = some (.int .u8 4)) (hB : 5 < w.heap.size) :
    Calls Tryd.prog 49 #[.int .i32 r] w fun e w' => e = .returned (.string (textB r)) ∧ Below w.heap.size w w' := by
  have hv := (valid_iff r).1 h
  have hr0 : 0 ≤ r := by omega
  have hr1 : r ≤ 1114111 := by omega
  have H := Lib.hid h
  have C := Lib.hid (fun w => IndexRune_none r w h hs)
  have HX := Lib.hid (fun w hb hB => FormatInt_16 r w hr0 (by omega) hb hB)
  have hl := hexL_length_le 5 r.toNat (by omega)
  have e1 : (⟨#[92, 117, 123]⟩ : ByteArray) ++ ⟨(hexL r.toNat).toArray⟩ = ⟨([92, 117, 123] ++ hexL r.toNat).toArray⟩ := app_mk [92, 117, 123] _
  have he := Lib.hid (show (⟨#[92, 117, 123]⟩ : ByteArray) ++ ⟨(hexL r.toNat).toArray⟩ ++ ⟨#[125]⟩ = textB r by
    unfold textB
    rw [text_num h h1 hs, e1]
    exact app_mk _ [125])
  have hsz : (⟨(hexL r.toNat).toArray⟩ : ByteArray).size ≤ 6 := by
    show (hexL r.toNat).toArray.size ≤ 6
    rw [List.size_toArray]; omega
  have hadd := add_small ⟨#[92, 117, 123]⟩ ⟨(hexL r.toNat).toArray⟩ (by decide) (by omega)
  have hadd2 := add_small (⟨#[92, 117, 123]⟩ ++ ⟨(hexL r.toNat).toArray⟩) ⟨#[125]⟩ (by rw [ByteArray.size_append]; have : (⟨#[92, 117, 123]⟩ : ByteArray).size = 3 := rfl; omega) (by decide)
  clear h hv hs hl e1 hsz
  generalize (⟨(hexL r.toNat).toArray⟩ : ByteArray) = X at *
  rcases h1 with h1 | h1
  all_goals
    go_enter Tryd.func49, Tryd.ntmps49
    go_wp2_with (first | (go_at_call 63; refine (validRune_yes _ _ H.out).mono ?_; rintro e w' ⟨rfl, rfl⟩) | (go_at_call 64; refine (C.out _).mono ?_; rintro e w1 ⟨rfl, hb⟩) | (go_at_call 65; refine (HX.out _ (by rw [hb.cell (p := ⟨5, 15, none⟩) hB]; exact hbr) (Nat.lt_of_lt_of_le hB hb.size)).mono ?_; rintro e w' ⟨rfl, hb2⟩))
    go_ret
    exact ⟨ret_str he.out, hb.trans (hb2.mono hb.size)⟩
theorem Text_any (r : Int) (w : World) (hbr : w.cell? ⟨5, 15, none⟩ = some (.int .u8 4)) (hB : 5 < w.heap.size) :
    Calls Tryd.prog 49 #[.int .i32 r] w fun e w' => e = .returned (.string (textB r)) ∧ Below w.heap.size w w' := by
  cases h : Go.validRune r
  · exact Text_no r w h
  · rcases sign_cases r with e | e | e | e | e | e | e | e | ⟨hs, d1, d2, d3, d4, d5, d6, d7, d8⟩
    · subst e; exact Text_sign _ 0 w (by decide) (by decide) (by decide) (by decide) (by decide) (by decide)
    · subst e; exact Text_sign _ 1 w (by decide) (by decide) (by decide) (by decide) (by decide) (by decide)
    · subst e; exact Text_sign _ 2 w (by decide) (by decide) (by decide) (by decide) (by decide) (by decide)
    · subst e; exact Text_sign _ 3 w (by decide) (by decide) (by decide) (by decide) (by decide) (by decide)
    · subst e; exact Text_sign _ 4 w (by decide) (by decide) (by decide) (by decide) (by decide) (by decide)
    · subst e; exact Text_sign _ 5 w (by decide) (by decide) (by decide) (by decide) (by decide) (by decide)
    · subst e; exact Text_sign _ 6 w (by decide) (by decide) (by decide) (by decide) (by decide) (by decide)
    · subst e; exact Text_sign _ 7 w (by decide) (by decide) (by decide) (by decide) (by decide) (by decide)
    · by_cases hr : 32 ≤ r ∧ r ≤ 126
      · exact Text_self r w hr.1 hr.2 hs
      · exact Text_num r w h (by omega) hs hbr hB
end Go.Proofs.YthfkodimafmmgaaDoor
