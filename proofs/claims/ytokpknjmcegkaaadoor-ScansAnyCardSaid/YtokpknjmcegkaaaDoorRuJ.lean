/- internal/strconv.ParseUint at base 16, 32 bits, of few bytes. -/
import Derived.Test.YtokpknjmcegkaaaDoorRuI
import Derived.Lib.ConvBytes
import Derived.Lib.AtoiErrMem
import Derived.Laws.Closers25b
namespace Go.Proofs.YtokpknjmcegkaaaDoor
open Go Go.RowKit Ru
set_option maxRecDepth 100000

/-- The value of a digit of 16, small or big. -/
def hexv (c : UInt8) : Option Nat := if 48 ≤ c.toNat ∧ c.toNat ≤ 57 then some (c.toNat - 48) else if 97 ≤ c.toNat ∧ c.toNat ≤ 102 then some (c.toNat - 87) else if 65 ≤ c.toNat ∧ c.toNat ≤ 70 then some (c.toNat - 55) else none
theorem hexv_cases (c : UInt8) :
    (48 ≤ c.toNat ∧ c.toNat ≤ 57 ∧ hexv c = some (c.toNat - 48)) ∨
    ((57 < c.toNat ∧ c.toNat ≠ 95) ∧ 97 ≤ bits .or .u8 (c.toNat : Int) 32 ∧ bits .or .u8 (c.toNat : Int) 32 ≤ 102 ∧ hexv c = some (bits .or .u8 (c.toNat : Int) 32 - 87).toNat) ∨
    ((57 < c.toNat ∧ c.toNat ≠ 95) ∧ 103 ≤ bits .or .u8 (c.toNat : Int) 32 ∧ bits .or .u8 (c.toNat : Int) 32 ≤ 122 ∧ hexv c = none) ∨
    (¬ (48 ≤ c.toNat ∧ c.toNat ≤ 57) ∧ (bits .or .u8 (c.toNat : Int) 32 < 97 ∨ 122 < bits .or .u8 (c.toNat : Int) 32) ∧ hexv c = none) := by
  have key : ∀ k : Fin 256,
      (48 ≤ (UInt8.ofNat k.val).toNat ∧ (UInt8.ofNat k.val).toNat ≤ 57 ∧ hexv (UInt8.ofNat k.val) = some ((UInt8.ofNat k.val).toNat - 48)) ∨
      ((57 < (UInt8.ofNat k.val).toNat ∧ (UInt8.ofNat k.val).toNat ≠ 95) ∧ 97 ≤ bits .or .u8 ((UInt8.ofNat k.val).toNat : Int) 32 ∧ bits .or .u8 ((UInt8.ofNat k.val).toNat : Int) 32 ≤ 102 ∧ hexv (UInt8.ofNat k.val) = some (bits .or .u8 ((UInt8.ofNat k.val).toNat : Int) 32 - 87).toNat) ∨
      ((57 < (UInt8.ofNat k.val).toNat ∧ (UInt8.ofNat k.val).toNat ≠ 95) ∧ 103 ≤ bits .or .u8 ((UInt8.ofNat k.val).toNat : Int) 32 ∧ bits .or .u8 ((UInt8.ofNat k.val).toNat : Int) 32 ≤ 122 ∧ hexv (UInt8.ofNat k.val) = none) ∨
      (¬ (48 ≤ (UInt8.ofNat k.val).toNat ∧ (UInt8.ofNat k.val).toNat ≤ 57) ∧ (bits .or .u8 ((UInt8.ofNat k.val).toNat : Int) 32 < 97 ∨ 122 < bits .or .u8 ((UInt8.ofNat k.val).toNat : Int) 32) ∧ hexv (UInt8.ofNat k.val) = none) := by decide +kernel
  have h := key ⟨c.toNat, c.toNat_lt⟩
  dsimp only at h
  rw [UInt8.ofNat_toNat] at h
  exact h
theorem hexv_lt (c : UInt8) (d : Nat) (h : hexv c = some d) : d < 16 := by
  unfold hexv at h
  split at h
  · simp at h; omega
  · split at h
    · simp at h; omega
    · split at h
      · simp at h; omega
      · simp at h
/-- The number that all of l is in digits of 16, behind acc. -/
def hexN : Nat → List UInt8 → Option Nat
  | acc, [] => some acc
  | acc, c :: l => match hexv c with | some d => hexN (16 * acc + d) l | none => none
theorem hexN_some {acc d : Nat} {c : UInt8} {l : List UInt8} (h : hexv c = some d) : hexN acc (c :: l) = hexN (16 * acc + d) l := by simp [hexN, h]
theorem hexN_none {acc : Nat} {c : UInt8} {l : List UInt8} (h : hexv c = none) : hexN acc (c :: l) = none := by simp [hexN, h]
/-- What ParseUint answers. -/
def numT : Option Nat → Value
  | some n => .tuple #[.int .u64 n, .nilIface]
  | none => .tuple #[.int .u64 0, .iface 129 (.int .i64 2)]

theorem lower_any (c v : Int) (h : bits .or .u8 c 32 = v) (w : World) : Calls Tryd.prog 92 #[.int .u8 c] w fun e w' => e = .returned (.int .u8 v) ∧ w = w' :=
  (Tryd.internal_strconv_lower c w).mono fun e w' ⟨he, hw⟩ => ⟨by rw [he, h], hw.symm⟩

set_option maxRecDepth 100000 in
theorem hex_empty (w : World) : Calls Tryd.prog 90 #[.string ⟨#[]⟩, .int .i64 16, .int .i64 32] w fun e w' => e = .returned (numT none) ∧ Below w.heap.size w w' := by
  go_enter Tryd.func90, Tryd.ntmps90
  go_wp2
  go_ret2
  exact ⟨rfl, Below.refl _ _⟩
set_option maxHeartbeats 4000000 in
set_option maxRecDepth 100000 in
theorem hex_some (t : ByteArray) (hne : t.size ≠ 0) (hmax : t.size ≤ 7) (w : World) :
    Calls Tryd.prog 90 #[.string t, .int .i64 16, .int .i64 32] w fun e w' => e = .returned (numT (hexN 0 t.data.toList)) ∧ Below w.heap.size w w' := by
  have hemp : t.toList.isEmpty = false := by
    rw [← decide_eq_emptyBytes]
    exact decide_eq_false (fun h => hne (by rw [h]; rfl))
  have hcv := Lib.run_convert_string_bytes (P := Tryd.prog) w 9 42 5 t (u := .string) Tryd.underlying9 Tryd.underlying42 Tryd.underlying5
  have hB : ∀ j, j < t.size → (Lib.bytesWorld w 5 t).cell? ⟨w.heap.size, j, none⟩ = some (.int .u8 (t.data.toList.getD j 0).toNat) := fun j hj => Lib.bytesWorld_cell w 5 t j hj
  have hbb := Lib.bytesWorld_below w 5 t
  obtain ⟨W1, hW1⟩ : ∃ W1, W1 = Lib.bytesWorld w 5 t := ⟨_, rfl⟩
  rw [← hW1] at hcv hB hbb
  clear hW1
  obtain ⟨bs, hL⟩ : ∃ bs, bs = t.data.toList := ⟨_, rfl⟩
  have hLn : bs.length = t.size := by rw [hL, Lib.size_eq]
  rw [← hL] at hB ⊢
  have hmv : IntKind.u64.wrap (IntKind.u64.wrap 4294967296 - 1) = 4294967295 := by
    rw [IntKind.wrap_u64, IntKind.wrap_u64]
    decide
  clear hL
  go_enter Tryd.func90, Tryd.ntmps90
  go_wp2
  go_loop [12, 13, 101] (fun vu vn vi => ∃ (k acc : Nat) (a : Int), vu = .bool false ∧ vn = .int .u64 a ∧ vi = .int .i64 k ∧ k ≤ t.size ∧ Hid (a = (acc : Int) ∧ acc < 16 ^ k ∧ hexN 0 bs = hexN acc (bs.drop k)))
    (fun _ _ vi => t.size - (intOf vi).toNat)
  case atStart => exact ⟨0, 0, 0, rfl, rfl, rfl, by omega, rfl, by decide, rfl⟩
  case round =>
    obtain ⟨k, acc, a, rfl, rfl, rfl, hk, hh⟩ := hrel
    obtain ⟨ha, hacc, hdec⟩ := hh.out
    clear hh
    by_cases hkn : k < t.size
    · have hpow : 16 ^ k ≤ 16 ^ 6 := Nat.pow_le_pow_right (by omega) (by omega)
      have a0 : 0 ≤ a := by omega
      have a1 : a ≤ 16777215 := by omega
      have hc := hB k hkn
      have hdrop : bs.drop k = bs[k]'(by omega) :: bs.drop (k + 1) := List.drop_eq_getElem_cons (by omega)
      have hget : bs.getD k 0 = bs[k]'(by omega) := by simp [List.getD, List.getElem?_eq_getElem (show k < bs.length by omega)]
      rw [hdrop] at hdec
      rw [hget] at hc
      generalize bs[k]'(by omega) = c at hc hdec
      have hcase := hexv_cases c
      have hc256 : c.toNat < 256 := c.toNat_lt
      obtain ⟨ci, hci⟩ : ∃ ci : Int, ci = (c.toNat : Int) := ⟨_, rfl⟩
      rw [← hci] at hc hcase
      have hv0 := bits_lo_u8 .or ci 32
      have hv1 := bits_hi_u8 .or ci 32
      obtain ⟨v, hv⟩ : ∃ v, bits .or .u8 ci 32 = v := ⟨_, rfl⟩
      have HLW := Lib.hid (lower_any ci v hv)
      rw [hv] at hcase hv0 hv1
      clear hB hdrop hget hv
      rcases hcase with ⟨h1, h2, h3⟩ | ⟨h1, h2, h3, h4⟩ | ⟨h1, h2, h3, h4⟩ | ⟨h1, h2, h3⟩
      · have HN := Lib.hid (show a * 16 + (ci - 48) = ((16 * acc + (c.toNat - 48) : Nat) : Int) ∧ 16 * acc + (c.toNat - 48) < 16 ^ (k + 1) ∧ hexN 0 bs = hexN (16 * acc + (c.toNat - 48)) (bs.drop (k + 1)) from
          ⟨by omega, by rw [Nat.pow_succ]; omega, by rw [hdec, hexN_some h3]⟩)
        have c0 : 48 ≤ ci := by omega
        have c1 : ci ≤ 57 := by omega
        clear hdec ha hacc hpow h3 hci h1 h2
        go_wp2
        refine ⟨⟨k + 1, 16 * acc + (c.toNat - 48), a * 16 + (ci - 48), rfl, rfl, (by first | rfl | (congr 1; omega)), by omega, HN⟩, by simp [intOf]; omega⟩
      · have HN := Lib.hid (show a * 16 + (v - 97 + 10) = ((16 * acc + (v - 87).toNat : Nat) : Int) ∧ 16 * acc + (v - 87).toNat < 16 ^ (k + 1) ∧ hexN 0 bs = hexN (16 * acc + (v - 87).toNat) (bs.drop (k + 1)) from
          ⟨by omega, by rw [Nat.pow_succ]; omega, by rw [hdec, hexN_some h4]⟩)
        have hc2 : 57 < ci := by omega
        have hc3 : (ci == 95) = false := by rw [beq_eq_false_iff_ne]; omega
        clear hdec ha hacc hpow h4 hci h1
        all_goals
          go_wp2_with (go_at_call 92; refine (HLW.out _).mono ?_; rintro e w' ⟨rfl, rfl⟩)
          refine ⟨⟨k + 1, 16 * acc + (v - 87).toNat, a * 16 + (v - 97 + 10), rfl, rfl, (by first | rfl | (congr 1; omega)), by omega, HN⟩, by simp [intOf]; omega⟩
      · have HF := Lib.hid (show hexN 0 bs = none by rw [hdec, hexN_none h4])
        have hc2 : 57 < ci := by omega
        have hc3 : (ci == 95) = false := by rw [beq_eq_false_iff_ne]; omega
        clear hdec ha hacc hpow h4 hci h1
        all_goals
          go_wp2_with (go_at_call 92; refine (HLW.out _).mono ?_; rintro e w' ⟨rfl, rfl⟩)
          go_ret2
          exact ⟨ret_eq (by rw [HF.out]; rfl), hbb⟩
      · have HF := Lib.hid (show hexN 0 bs = none by rw [hdec, hexN_none h3])
        by_cases h95 : ci = 95
        · subst h95
          have HLW2 := Lib.hid (lower_any 95 127 (by decide +kernel))
          clear hdec ha hacc hpow h3 hci h1 h2 HLW hv0 hv1
          go_wp2_with (go_at_call 92; refine (HLW2.out _).mono ?_; rintro e w' ⟨rfl, rfl⟩)
          go_ret2
          exact ⟨ret_eq (by rw [HF.out]; rfl), hbb⟩
        have hc3 : (ci == 95) = false := by rw [beq_eq_false_iff_ne]; omega
        have hc2 : ci < 48 ∨ 57 < ci := by omega
        clear hdec ha hacc hpow h3 hci h1 h95
        rcases hc2 with hc2 | hc2
        · have g1 : decide (48 ≤ ci) = false := by rw [decide_eq_false_iff_not]; omega
          rcases h2 with h2 | h2
          · have g2 : decide (97 ≤ v) = false := by rw [decide_eq_false_iff_not]; omega
            go_wp2_with (go_at_call 92; refine (HLW.out _).mono ?_; rintro e w' ⟨rfl, rfl⟩)
            go_ret2
            exact ⟨ret_eq (by rw [HF.out]; rfl), hbb⟩
          · have g2 : 97 ≤ v := by omega
            go_wp2_with (go_at_call 92; refine (HLW.out _).mono ?_; rintro e w' ⟨rfl, rfl⟩)
            go_ret2
            exact ⟨ret_eq (by rw [HF.out]; rfl), hbb⟩
        · have g1 : decide (ci ≤ 57) = false := by rw [decide_eq_false_iff_not]; omega
          have g3 : 48 ≤ ci := by omega
          rcases h2 with h2 | h2
          · have g2 : decide (97 ≤ v) = false := by rw [decide_eq_false_iff_not]; omega
            go_wp2_with (go_at_call 92; refine (HLW.out _).mono ?_; rintro e w' ⟨rfl, rfl⟩)
            go_ret2
            exact ⟨ret_eq (by rw [HF.out]; rfl), hbb⟩
          · have g2 : 97 ≤ v := by omega
            have g4 : decide (v ≤ 122) = false := by rw [decide_eq_false_iff_not]; omega
            go_wp2_with (go_at_call 92; refine (HLW.out _).mono ?_; rintro e w' ⟨rfl, rfl⟩)
            go_ret2
            exact ⟨ret_eq (by rw [HF.out]; rfl), hbb⟩
    · have HF := Lib.hid (show hexN 0 bs = some acc by rw [hdec, List.drop_eq_nil_of_le (by omega)]; rfl)
      subst ha
      clear hdec hacc
      go_wp2
      go_ret2
      exact ⟨ret_eq (by rw [HF.out]; rfl), hbb⟩
end Go.Proofs.YtokpknjmcegkaaaDoor
