/- strconv.FormatInt at base 16, of a number that isn't below 0 (small ones). -/
import Derived.Test.YthfkodimafmmgaaDoorRuE
import Derived.Laws.BitsAllLaws
namespace Go.Proofs.YthfkodimafmmgaaDoor
open Go Go.RowKit Ru
set_option maxRecDepth 100000

set_option maxHeartbeats 400000 in
theorem pow2_16 (w : World) : Calls Tryd.prog 82 #[.int .i64 16] w fun e w' => e = .returned (.bool true) ∧ w = w' := by
  go_enter Tryd.func82, Tryd.ntmps82
  go_wp2
  go_ret
  exact ⟨rfl, rfl⟩
theorem tz_facts : ∃ N A B : Int, IntKind.u64.wrap (-16) = N ∧ bits BinOp.and IntKind.u64 16 N = A ∧ IntKind.u64.wrap (A * 285870213051353865) = B ∧ B / 288230376151711744 = 15 :=
  ⟨_, _, _, rfl, rfl, rfl, by kernel_rfl⟩
set_option maxHeartbeats 400000 in
theorem tz_16 (w : World) (hb : w.cell? ⟨5, 15, none⟩ = some (.int .u8 4)) : Calls Tryd.prog 83 #[.int .u64 16] w fun e w' => e = .returned (.int .i64 4) ∧ w = w' := by
  obtain ⟨N, A, B, e1, e2, e3, e4⟩ := tz_facts
  go_enter Tryd.func83, Tryd.ntmps83
  go_wp2
  go_ret
  exact ⟨rfl, rfl⟩
abbrev digs36 : ByteArray := ⟨#[48, 49, 50, 51, 52, 53, 54, 55, 56, 57, 97, 98, 99, 100, 101, 102, 103, 104, 105, 106, 107, 108, 109, 110, 111, 112, 113, 114, 115, 116, 117, 118, 119, 120, 121, 122]⟩
theorem digs36_key : ∀ k : Fin 16, digs36[k.val]'(by have := k.isLt; show k.val < 36; omega) = hexd k.val := by decide
theorem digs36_at (n : Int) (h0 : 0 ≤ n) (h : n < 16) : ∀ wx, (Instr.index 9 (.string digs36) (.int .u64 n)).run Tryd.prog wx = .ok (.int .u8 ((hexd n.toNat).toNat : Int)) wx := by
  intro wx
  rw [run_index_string (P := Tryd.prog) (w := wx) 9 digs36 .u64 n Tryd.underlying9, dif_pos ⟨h0, by show n < ((36 : Nat) : Int); omega⟩]
  have := digs36_key ⟨n.toNat, by omega⟩
  dsimp only at this
  rw [this]
theorem and_15 (x : Int) (h0 : 0 ≤ x) (h1 : x < 4294967296) : bits BinOp.and IntKind.u64 x 15 = x % 16 := by
  rw [u64_and x 15 h0 (by omega) (by omega) (by omega)]
  have := Nat.and_two_pow_sub_one_eq_mod x.toNat 4
  have e : ((15 : Int)).toNat = 2 ^ 4 - 1 := rfl
  rw [e, this]
  omega
/-- The row of digits: from place p on the bytes l. -/
structure Digs (C : Array Value) (p : Nat) (l : List UInt8) : Prop where
  size : C.size = 65
  len : l.length + p = 65
  cell : ∀ j, (h : j < l.length) → C[p + j]? = some (.int .u8 (l[j].toNat : Int))
theorem Digs.zero : Digs Tryd.zeroCells112 65 [] := ⟨by kernel_rfl, rfl, fun j h => by simp at h⟩
theorem Digs.push {C : Array Value} {q : Nat} {l : List UInt8} (h : Digs C (q + 1) l) (c : UInt8) : Digs (C.setIfInBounds q (.int .u8 (c.toNat : Int))) q (c :: l) := by
  have hs := h.size
  have hl := h.len
  refine ⟨by rw [Array.size_setIfInBounds]; exact hs, by simp only [List.length_cons]; omega, fun j hj => ?_⟩
  cases j with
  | zero => rw [Nat.add_zero, Array.getElem?_setIfInBounds_self_of_lt (by omega)]; rfl
  | succ j =>
    rw [Array.getElem?_setIfInBounds_ne (by omega)]
    have := h.cell j (by simpa using hj)
    rw [show q + (j + 1) = q + 1 + j from by omega, this]
    rfl
theorem slice_from (b q : Nat) (hq : q < 65) : ∀ wx, (Instr.sliceAt 112 (.pointer (some ⟨b, 0, none⟩)) (some (.int .i64 q)) none none).run Tryd.prog wx = .ok (.slice (some ⟨b, q, none⟩) (65 - q) (65 - q)) wx := by
  intro wx
  have e65 : Tryd.prog.arrayLen 112 = 65 := by kernel_rfl
  have h := run_sliceAt_array_l (P := Tryd.prog) (w := wx) 112 ⟨b, 0, none⟩ (by kernel_rfl) .i64 (q : Int) (by omega) (by rw [e65]; omega)
  have hs : (sizeOf (Tryd.prog.elem 112)).run Tryd.prog wx = .ok 1 wx := by kernel_rfl
  rw [h, hs, e65]
  have hne : ¬ 65 = q := by omega
  simp [Result.andThen, slicedAt, Addr.add, hne]
  exact fun h => h.symm
theorem Digs.conv {C : Array Value} {q : Nat} {l : List UInt8} (h : Digs C q l) (w : World) :
    (convert 42 9 (.slice (some ⟨w.heap.size, q, none⟩) (65 - q) (65 - q))).run Tryd.prog (w.alloc (.cells C 112)) = .ok (.string ⟨l.toArray⟩) (w.alloc (.cells C 112)) := by
  have e : 65 - q = l.length := by have := h.len; omega
  rw [e]
  refine run_convert_bytes_back _ 42 9 5 _ _ l Tryd.underlying42 Tryd.underlying5 Tryd.underlying9 ?_
  intro j hj
  have ea : (⟨w.heap.size, q, none⟩ : Addr).add j = ⟨w.heap.size, q + j, none⟩ := by unfold Addr.add; split <;> simp_all
  rw [ea, World.cell?_alloc_new, h.cell j hj]
theorem ret_pair {v : Value} {a b : ByteArray} (h : a = b) : Ending.returned (.tuple #[v, .string a]) = .returned (.tuple #[v, .string b]) := by rw [h]
set_option maxHeartbeats 1000000 in
theorem formatBits_16 (n : Nat) (w : World) (hn : n ≤ 16777215) (hb : w.cell? ⟨5, 15, none⟩ = some (.int .u8 4)) (hB : 5 < w.heap.size) :
    Calls Tryd.prog 78 #[.slice none 0 0, .int .u64 n, .int .i64 16, .bool false, .bool false] w fun e w' => e = .returned (.tuple #[.slice none 0 0, .string ⟨(hexL n).toArray⟩]) ∧ Below w.heap.size w w' := by
  go_enter Tryd.func78, Tryd.ntmps78
  go_wp2_with (first | (go_at_call 82; refine (pow2_16 _).mono ?_; rintro e w' ⟨rfl, rfl⟩) | (go_at_call 83; refine (tz_16 _ (by go_simp)).mono ?_; rintro e w' ⟨rfl, rfl⟩))
  go_loopw [1, 13] (fun u i wr => ∃ (p a : Nat) (C : Array Value) (l : List UInt8), u = .int .u64 a ∧ i = .int .i64 p ∧ 60 ≤ p ∧ p ≤ 65 ∧ Hid (a < 16 ^ (p - 59)) ∧ Hid (hexL n = hexL a ++ l) ∧ Digs C p l ∧ wr = w.alloc (.cells C 112)) (fun u _ _ => (intOf u).toNat)
  case atStart => exact ⟨65, n, _, [], rfl, rfl, by omega, by omega, Lib.hid (by omega), Lib.hid (by simp), Digs.zero, rfl⟩
  case round =>
    obtain ⟨p, a, C, l, rfl, rfl, hp0, hp1, ha, hl, hD, rfl⟩ := hrel
    by_cases h16 : 16 ≤ a
    · have ha' := ha.out
      have hp : 61 ≤ p := by
        rcases Nat.lt_or_ge 60 p with h | h
        · omega
        · obtain rfl : p = 60 := by omega
          simp at ha'
          omega
      obtain ⟨q, rfl⟩ : ∃ q, p = q + 1 := ⟨p - 1, by omega⟩
      have hsz := hD.size
      obtain ⟨old, hold⟩ : ∃ old, C[q]? = some old := ⟨_, Array.getElem?_eq_getElem (by omega)⟩
      have hal : a < 4294967296 := by
        have : 16 ^ (q + 1 - 59) ≤ 16 ^ 6 := Nat.pow_le_pow_right (by omega) (by omega)
        omega
      have hix := digs36_at ((a : Int) % 16) (by omega) (by omega)
      have e1 : ((a : Int) % 16).toNat = a % 16 := by omega
      rw [e1] at hix
      have hand := and_15 a (by omega) (by omega)
      have hD2 := hD.push (hexd (a % 16))
      have HA := Lib.hid (show a / 16 < 16 ^ (q - 59) by
        rw [Nat.div_lt_iff_lt_mul (by omega)]
        have : q + 1 - 59 = q - 59 + 1 := by omega
        rw [this, Nat.pow_succ] at ha'
        exact ha')
      have HL := Lib.hid (show hexL n = hexL (a / 16) ++ (hexd (a % 16) :: l) by rw [hl.out, hexL_high (by omega)]; simp)
      clear e1 ha' ha hl hD
      go_wp2
      refine ⟨⟨q, a / 16, _, _, rfl, rfl, by omega, by omega, HA, HL, hD2, rfl⟩, ?_⟩
      simp [intOf]
      omega
    · have hsz := hD.size
      obtain ⟨q, rfl⟩ : ∃ q, p = q + 1 := ⟨p - 1, by omega⟩
      obtain ⟨old, hold⟩ : ∃ old, C[q]? = some old := ⟨_, Array.getElem?_eq_getElem (by omega)⟩
      have hix := digs36_at (a : Int) (by omega) (by omega)
      rw [Int.toNat_natCast] at hix
      have hD2 := hD.push (hexd a)
      have HL := Lib.hid (show hexL n = hexd a :: l by rw [hl.out, hexL_low (by omega)]; rfl)
      clear ha hl hD
      have hsl := slice_from w.heap.size q (by omega)
      have hcv := hD2.conv w
      clear hD2
      go_wp2
      go_ret2
      exact ⟨ret_pair (by rw [HL.out]), (Below.refl _ _).alloc (Nat.le_refl _) _⟩
theorem hex16_small (n : Nat) (w : World) (hn : n ≤ 16777215) (hb : w.cell? ⟨5, 15, none⟩ = some (.int .u8 4)) (hB : 5 < w.heap.size) :
    Calls Tryd.prog 73 #[.int .i64 n, .int .i64 16] w fun e w' => e = .returned (.string ⟨(hexL n).toArray⟩) ∧ Below w.heap.size w w' := by
  have C := formatBits_16 n w hn hb hB
  have t1 : decide ((n : Int) < 0) = false := by rw [decide_eq_false_iff_not]; omega
  go_enter Tryd.func73, Tryd.ntmps73
  go_wp2_with (go_at_call 78; refine C.mono ?_; rintro e w' ⟨rfl, hb⟩)
  go_ret
  exact ⟨rfl, hb⟩
theorem FormatInt_16 (r : Int) (w : World) (h0 : 0 ≤ r) (h1 : r ≤ 16777215) (hb : w.cell? ⟨5, 15, none⟩ = some (.int .u8 4)) (hB : 5 < w.heap.size) :
    Calls Tryd.prog 65 #[.int .i64 r, .int .i64 16] w fun e w' => e = .returned (.string ⟨(hexL r.toNat).toArray⟩) ∧ Below w.heap.size w w' := by
  have C := Lib.hid (hex16_small r.toNat w (by omega) hb hB)
  rw [Int.toNat_of_nonneg h0] at C
  go_enter Tryd.func65, Tryd.ntmps65
  go_wp2_with (go_at_call 73; refine C.out.mono ?_; rintro e w' ⟨rfl, hb⟩)
  go_ret
  exact ⟨rfl, hb⟩
end Go.Proofs.YthfkodimafmmgaaDoor
