/- Contracts of the document's own answers for runes: Is, Encode, own, hex, Text. -/
import Derived.Test.YthfkodimafmmgaaGreatDoorRuA
import Derived.Below
namespace Go.Proofs.YthfkodimafmmgaaGreatDoor
open Go Go.RowKit Ru

set_option maxRecDepth 100000 in
set_option maxHeartbeats 400000 in
theorem refIs_yes (r : Int) (w : World) (h : Go.validRune r = true) :
    Calls Tryz.prog 40 #[.int .i32 r] w fun e w' => e = .returned (.bool true) ∧ w = w' := by
  rcases (valid_iff r).1 h with ⟨h0, h1⟩ | ⟨h0, h1⟩
  · clear h
    go_enter Tryz.func40, Tryz.ntmps40
    go_wp2
    go_ret
    exact ⟨rfl, rfl⟩
  · clear h
    have h2 : ¬ r < 55296 := by omega
    go_enter Tryz.func40, Tryz.ntmps40
    go_wp2
    go_ret
    exact ⟨rfl, rfl⟩
set_option maxRecDepth 100000 in
set_option maxHeartbeats 400000 in
theorem refIs_no (r : Int) (w : World) (h : Go.validRune r = false) :
    Calls Tryz.prog 40 #[.int .i32 r] w fun e w' => e = .returned (.bool false) ∧ w = w' := by
  have hr := (valid_not r).1 h
  clear h
  by_cases a : 0 ≤ r
  · by_cases b : 57344 ≤ r
    · have h0 : 1114111 < r := by omega
      clear hr
      have d1 : decide (r < 55296) = false := by simp; omega
      have d2 : decide (r ≤ 1114111) = false := by simp; omega
      go_enter Tryz.func40, Tryz.ntmps40
      go_wp2
      go_ret
      exact ⟨rfl, rfl⟩
    · have h0 : 55296 ≤ r := by omega
      clear hr
      have d1 : decide (r < 55296) = false := by simp; omega
      go_enter Tryz.func40, Tryz.ntmps40
      go_wp2
      go_ret
      exact ⟨rfl, rfl⟩
  · clear hr
    go_enter Tryz.func40, Tryz.ntmps40
    go_wp2
    go_ret
    exact ⟨rfl, rfl⟩

/-- 'string' of a row of bytes that was laid just now. -/
theorem conv_row (w : World) (xs : List Int) (c : Array Value) (n : Nat) (hc : c = (xs.map (Value.int .u8)).toArray) (hn : xs.length = n) :
    (convert 46 9 (.slice (some ⟨w.heap.size, 0, none⟩) n n)).run Tryz.prog (w.alloc (.cells c 5)) = .ok (.string (strOfNums xs)) (w.alloc (.cells c 5)) := by
  refine run_convert_bytes_arg _ 46 5 Tryz.underlying46 Tryz.underlying5 w.heap.size 0 n n xs hn ?_ 9 Tryz.underlying9
  intro i hi
  rw [Nat.zero_add, World.cell?_alloc_new, hc]
  simp [List.getD, List.getElem?_eq_getElem (show i < xs.length by omega)]

set_option maxRecDepth 100000 in
set_option maxHeartbeats 400000 in
theorem refEncode_no (r : Int) (w : World) (h : Go.validRune r = false) :
    Calls Tryz.prog 62 #[.int .i32 r] w fun e w' => e = .returned (.string (encB r)) ∧ Below w.heap.size w w' := by
  have H := Lib.hid h
  have he := Lib.hid (encB_no h)
  clear h
  go_enter Tryz.func62, Tryz.ntmps62
  go_wp2_with (go_at_call 40; refine (refIs_no _ _ H.out).mono ?_; rintro e w' ⟨rfl, rfl⟩)
  go_ret
  exact ⟨by rw [he.out]; rfl, Below.refl _ _⟩
set_option maxRecDepth 100000 in
set_option maxHeartbeats 400000 in
theorem refEncode_1 (r : Int) (w : World) (h0 : 0 ≤ r) (h1 : r < 128) :
    Calls Tryz.prog 62 #[.int .i32 r] w fun e w' => e = .returned (.string (encB r)) ∧ Below w.heap.size w w' := by
  have H := Lib.hid ((valid_iff r).2 (by omega))
  have he := Lib.hid (enc_1 h0 h1)
  have k := conv_row w [r] #[.int .u8 r] 1 rfl rfl
  go_enter Tryz.func62, Tryz.ntmps62
  go_wp2_with (go_at_call 40; refine (refIs_yes _ _ H.out).mono ?_; rintro e w' ⟨rfl, rfl⟩)
  go_ret
  exact ⟨by rw [he.out]; rfl, (Below.refl _ _).alloc (Nat.le_refl _) _⟩
set_option maxRecDepth 100000 in
set_option maxHeartbeats 400000 in
theorem refEncode_2 (r : Int) (w : World) (h0 : 128 ≤ r) (h1 : r < 2048) :
    Calls Tryz.prog 62 #[.int .i32 r] w fun e w' => e = .returned (.string (encB r)) ∧ Below w.heap.size w w' := by
  have H := Lib.hid ((valid_iff r).2 (by omega))
  have he := Lib.hid (enc_2 h0 h1)
  have k := conv_row w [192 + r / 64, 128 + r % 64] #[.int .u8 (192 + r / 64), .int .u8 (128 + r % 64)] 2 rfl rfl
  go_enter Tryz.func62, Tryz.ntmps62
  go_wp2_with (go_at_call 40; refine (refIs_yes _ _ H.out).mono ?_; rintro e w' ⟨rfl, rfl⟩)
  go_ret
  exact ⟨by rw [he.out]; rfl, (Below.refl _ _).alloc (Nat.le_refl _) _⟩
set_option maxRecDepth 100000 in
set_option maxHeartbeats 400000 in
theorem refEncode_3 (r : Int) (w : World) (hv : Go.validRune r = true) (h0 : 2048 ≤ r) (h1 : r < 65536) :
    Calls Tryz.prog 62 #[.int .i32 r] w fun e w' => e = .returned (.string (encB r)) ∧ Below w.heap.size w w' := by
  have he := Lib.hid (enc_3 hv h0 h1)
  have H := Lib.hid hv
  clear hv
  have k := conv_row w [224 + r / 4096, 128 + r / 64 % 64, 128 + r % 64] #[.int .u8 (224 + r / 4096), .int .u8 (128 + r / 64 % 64), .int .u8 (128 + r % 64)] 3 rfl rfl
  go_enter Tryz.func62, Tryz.ntmps62
  go_wp2_with (go_at_call 40; refine (refIs_yes _ _ H.out).mono ?_; rintro e w' ⟨rfl, rfl⟩)
  go_ret
  exact ⟨by rw [he.out]; rfl, (Below.refl _ _).alloc (Nat.le_refl _) _⟩
set_option maxRecDepth 100000 in
set_option maxHeartbeats 400000 in
theorem refEncode_4 (r : Int) (w : World) (h0 : 65536 ≤ r) (h1 : r ≤ 1114111) :
    Calls Tryz.prog 62 #[.int .i32 r] w fun e w' => e = .returned (.string (encB r)) ∧ Below w.heap.size w w' := by
  have H := Lib.hid ((valid_iff r).2 (by omega))
  have he := Lib.hid (enc_4 h0 h1)
  have k := conv_row w [240 + r / 262144, 128 + r / 4096 % 64, 128 + r / 64 % 64, 128 + r % 64] #[.int .u8 (240 + r / 262144), .int .u8 (128 + r / 4096 % 64), .int .u8 (128 + r / 64 % 64), .int .u8 (128 + r % 64)] 4 rfl rfl
  go_enter Tryz.func62, Tryz.ntmps62
  go_wp2_with (go_at_call 40; refine (refIs_yes _ _ H.out).mono ?_; rintro e w' ⟨rfl, rfl⟩)
  go_ret
  exact ⟨by rw [he.out]; rfl, (Below.refl _ _).alloc (Nat.le_refl _) _⟩
theorem refEncode_any (r : Int) (w : World) :
    Calls Tryz.prog 62 #[.int .i32 r] w fun e w' => e = .returned (.string (encB r)) ∧ Below w.heap.size w w' := by
  cases h : Go.validRune r
  · exact refEncode_no r w h
  · have hv := (valid_iff r).1 h
    by_cases a : r < 128; · exact refEncode_1 r w (by omega) a
    by_cases b : r < 2048; · exact refEncode_2 r w (by omega) b
    by_cases c : r < 65536; · exact refEncode_3 r w h (by omega) c
    exact refEncode_4 r w (by omega) (by omega)
end Go.Proofs.YthfkodimafmmgaaGreatDoor
