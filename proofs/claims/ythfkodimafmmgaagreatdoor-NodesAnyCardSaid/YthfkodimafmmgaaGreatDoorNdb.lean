/- The chapter's Decode: the first number of bytes that are the bytes of what they make; its Bad. -/
import Derived.Test.YthfkodimafmmgaaGreatDoorNdF
import Derived.Test.YthfkodimafmmgaaGreatDoorRuD
import Derived.Test.YthfkodimafmmgaaGreatDoorRuN
import Derived.Test.YthfkodimafmmgaaGreatDoorRuQ
import Derived.Deep.RegionHeld3
import Derived.Deep.RegionWith
import Derived.Deep.DeepCutAuto
namespace Go.Proofs.YthfkodimafmmgaaGreatDoor
open Go Go.RowKit Ru
set_option maxRecDepth 100000


namespace Sc
theorem decode_valid (l : List UInt8) (h : Lib.decodeL l ≠ (65533, 1)) : Go.validRune ((Lib.decodeL l).1 : Int) = true := by
  rw [Lib.decodeL_N] at h ⊢
  rw [valid_iff]
  have b0 := (l.getD 0 0).toNat_lt
  rcases Lib.decodeN_shape l.length (l.getD 0 0).toNat (l.getD 1 0).toNat (l.getD 2 0).toNat (l.getD 3 0).toNat with ⟨c, e⟩ | ⟨c1, c2, c3, cv, e⟩ | ⟨c1, c2, c3, c4, cv, cs, e⟩ | ⟨c1, c2, c3, c4, c5, cv, cw, e⟩ | e
  · rw [e]; dsimp only; omega
  · rw [e]; dsimp only; omega
  · rw [e]; dsimp only; omega
  · rw [e]; dsimp only; omega
  · exact absurd e h
theorem getD_drop (l : List UInt8) (k i : Nat) : (l.drop k).getD i 0 = l.getD (k + i) 0 := by simp [List.getD, List.getElem?_drop]
end Sc
theorem byte_at (u : ByteArray) (i : Nat) (h : i < u.size) (c : Int) (hc : c = ((u.data.toList.getD i 0).toNat : Int)) (wx : World) : (Instr.index 9 (.string u) (.int .i64 i)).run Tryz.prog wx = .ok (.int .u8 c) wx := by
  rw [hc]
  exact index_at u i h wx
/-- What the first i of m bytes make. -/
def cN (m : Nat) (b : Nat → Nat) : Nat → Nat
  | 0 => 0
  | i + 1 => if i = 0 then (if 1 < m then b 0 % 2 ^ (7 - m) else b 0) else 64 * cN m b i + b i % 64
theorem cN_1 (b : Nat → Nat) : cN 1 b 1 = b 0 := rfl
theorem cN_2 (b : Nat → Nat) : cN 2 b 2 = 64 * (b 0 % 32) + b 1 % 64 := rfl
theorem cN_3 (b : Nat → Nat) : cN 3 b 3 = 64 * (64 * (b 0 % 16) + b 1 % 64) + b 2 % 64 := rfl
theorem cN_4 (b : Nat → Nat) : cN 4 b 4 = 64 * (64 * (64 * (b 0 % 8) + b 1 % 64) + b 2 % 64) + b 3 % 64 := rfl
theorem cN_bound (m : Nat) (b : Nat → Nat) (hb : b 0 < 256) : ∀ i, i ≤ 4 → cN m b i < 256 * 64 ^ i
  | 0, _ => by simp [cN]
  | i + 1, h => by
    have ih := cN_bound m b hb i (by omega)
    have h0 : cN m b (i + 1) = if i = 0 then (if 1 < m then b 0 % 2 ^ (7 - m) else b 0) else 64 * cN m b i + b i % 64 := rfl
    rw [h0, Nat.pow_succ]
    have h1 : b 0 % 2 ^ (7 - m) ≤ b 0 := Nat.mod_le _ _
    have hp : 0 < 64 ^ i := Nat.pos_of_ne_zero (by simp)
    split
    · split <;> omega
    · omega
theorem take_1 {l : List UInt8} (h : 0 < l.length) : l.take 1 = [l.getD 0 0] := by
  match l, h with
  | a :: r, _ => rfl
def byteAt (l : List UInt8) (i : Nat) : Nat := (l.getD i 0).toNat
/-- Where the bytes are those of a number, it is decoded. -/
theorem dec_of_enc {l : List UInt8} {n m : Nat} (hm : 1 ≤ m) (hl : m ≤ l.length) (h : encL (n : Int) = l.take m) : Lib.decodeL l = (n, m) ∧ Lib.decodeL l ≠ (65533, 1) := by
  have hlen : (encL (n : Int)).length = m := by rw [h, List.length_take]; omega
  have hv : Go.validRune (n : Int) = true := by
    cases hv : Go.validRune (n : Int) with
    | true => rfl
    | false =>
      rw [encL_no hv] at hlen
      simp at hlen
      omega
  have e : l = encL (n : Int) ++ l.drop m := by rw [h, List.take_append_drop]
  have h1 := decode_enc_app (n : Int) (l.drop m) hv
  rw [← e, hlen, Int.toNat_natCast] at h1
  have h2 := (decode_enc (n : Int) hv).2.2
  have h3 := (decode_enc (n : Int) hv).1
  rw [hlen, Int.toNat_natCast] at h3
  exact ⟨h1, by rw [h1, ← h3]; exact h2⟩
theorem take_2 {l : List UInt8} (h : 1 < l.length) : l.take 2 = [l.getD 0 0, l.getD 1 0] := by
  match l, h with
  | [_], h => simp at h
  | a :: b :: r, _ => rfl
theorem take_3 {l : List UInt8} (h : 2 < l.length) : l.take 3 = [l.getD 0 0, l.getD 1 0, l.getD 2 0] := by
  match l, h with
  | [_], h => simp at h
  | [_, _], h => simp at h
  | a :: b :: c :: r, _ => rfl
theorem take_4 {l : List UInt8} (h : 3 < l.length) : l.take 4 = [l.getD 0 0, l.getD 1 0, l.getD 2 0, l.getD 3 0] := by
  match l, h with
  | [_], h => simp at h
  | [_, _], h => simp at h
  | [_, _, _], h => simp at h
  | a :: b :: c :: d :: r, _ => rfl
theorem byte_as {c : UInt8} {n : Nat} (h : n = c.toNat) : UInt8.ofNat n = c := by rw [h, UInt8.ofNat_toNat]
theorem enc_of_dec {l : List UInt8} (hl : l ≠ []) (h : Lib.decodeL l ≠ (65533, 1)) : encL ((Lib.decodeL l).1 : Int) = l.take (Lib.decodeL l).2 ∧ cN (Lib.decodeL l).2 (byteAt l) (Lib.decodeL l).2 = (Lib.decodeL l).1 ∧ (Lib.decodeL l).2 ≤ 4 := by
  have hv := Sc.decode_valid l h
  rw [Lib.decodeL_N] at h hv ⊢
  have b0 := (l.getD 0 0).toNat_lt
  have b1 := (l.getD 1 0).toNat_lt
  have b2 := (l.getD 2 0).toNat_lt
  have b3 := (l.getD 3 0).toNat_lt
  have hp := List.length_pos_iff.2 hl
  rcases Lib.decodeN_shape l.length (l.getD 0 0).toNat (l.getD 1 0).toNat (l.getD 2 0).toNat (l.getD 3 0).toNat with ⟨c, e⟩ | ⟨c1, c2, c3, cv, e⟩ | ⟨c1, c2, c3, c4, cv, cs, e⟩ | ⟨c1, c2, c3, c4, c5, cv, cw, e⟩ | e
  · rw [e] at hv ⊢
    dsimp only at hv ⊢
    refine ⟨?_, rfl, by omega⟩
    rw [take_1 hp]
    unfold encL
    rw [encB_yes hv, encode_1 (by omega) (by omega)]
    simp only [Int.toNat_natCast, UInt8.ofNat_toNat]
  · rw [e] at hv ⊢
    dsimp only at hv ⊢
    refine ⟨?_, by rw [cN_2]; unfold byteAt; omega, by omega⟩
    rw [take_2 c2]
    unfold encL
    rw [encB_yes hv, encode_2 (by omega) (by omega)]
    simp only [Int.toNat_natCast]
    rw [byte_as (c := l.getD 0 0) (by omega), byte_as (c := l.getD 1 0) (by omega)]
  · rw [e] at hv ⊢
    dsimp only at hv ⊢
    refine ⟨?_, by rw [cN_3]; unfold byteAt; omega, by omega⟩
    rw [take_3 c2]
    unfold encL
    rw [encB_yes hv, encode_3 hv (by omega) (by omega)]
    simp only [Int.toNat_natCast]
    rw [byte_as (c := l.getD 0 0) (by omega), byte_as (c := l.getD 1 0) (by omega), byte_as (c := l.getD 2 0) (by omega)]
  · rw [e] at hv ⊢
    dsimp only at hv ⊢
    refine ⟨?_, by rw [cN_4]; unfold byteAt; omega, by omega⟩
    rw [take_4 c2]
    unfold encL
    rw [encB_yes hv, encode_4 (by omega) (by omega)]
    simp only [Int.toNat_natCast]
    rw [byte_as (c := l.getD 0 0) (by omega), byte_as (c := l.getD 1 0) (by omega), byte_as (c := l.getD 2 0) (by omega), byte_as (c := l.getD 3 0) (by omega)]
  · exact absurd e h
theorem refDecode_out (s : ByteArray) (k : Nat) (w : World) (h : s.size ≤ k) (_hk : k ≤ 140737488355328) :
    Calls Tryz.prog 60 #[.string s, .int .i64 k] w fun e w' => e = .returned (.tuple #[.int .i32 0, .int .i64 0, .bool false]) ∧ w = w' := by
  have d0 : decide ((s.size : Int) ≤ (k : Int)) = true := by rw [decide_eq_true_iff]; omega
  have d1 : decide (s.size ≤ k) = true := by rw [decide_eq_true_iff]; omega
  go_enter Tryz.func60, Tryz.ntmps60
  go_wp2
  go_ret3
  exact ⟨rfl, rfl⟩
/-- m bytes at k are the bytes of what they make. -/
def Fits (s : ByteArray) (k m : Nat) : Prop := k + m ≤ s.size ∧ encL ((cN m (byteAt (s.data.toList.drop k)) m : Nat) : Int) = (s.data.toList.drop k).take m
theorem dec_bad {s : ByteArray} {k m : Nat} (hk : k < s.size) (_hm : 1 ≤ m) (hx : ¬ (m ≤ 4 ∧ k + m ≤ s.size)) (h : ∀ j, 1 ≤ j → j < m → ¬ Fits s k j) : Lib.decodeL (s.data.toList.drop k) = (65533, 1) := by
  apply Classical.byContradiction
  intro hd
  have hne : s.data.toList.drop k ≠ [] := by
    intro e
    have := congrArg List.length e
    rw [List.length_drop, ← Lib.size_eq] at this
    simp at this
    omega
  obtain ⟨h1, h2, h3⟩ := enc_of_dec hne hd
  have h4 := Lib.decodeL_le _ hne
  have h5 := Lib.decodeL_width (s.data.toList.drop k)
  rw [List.length_drop, ← Lib.size_eq] at h4
  exact h _ h5 (by omega) ⟨by omega, by rw [h2]; exact h1⟩
end Go.Proofs.YthfkodimafmmgaaGreatDoor
namespace Go.Proofs.YthfkodimafmmgaaGreatDoor
open Go Go.RowKit Ru
set_option maxRecDepth 100000

set_option maxHeartbeats 4000000 in
theorem refDecode_in (s : ByteArray) (k : Nat) (w : World) (hs : s.size ≤ 140737488355328) (hk : k < s.size) :
    Calls Tryz.prog 60 #[.string s, .int .i64 k] w fun e w' => e = .returned (decT (Lib.decodeL (s.data.toList.drop k))) ∧ Below w.heap.size w w' := by
  have d0 : decide ((s.size : Int) ≤ (k : Int)) = false := by rw [decide_eq_false_iff_not]; omega
  have d1 : decide (s.size ≤ k) = false := by rw [decide_eq_false_iff_not]; omega
  go_enter Tryz.func60, Tryz.ntmps60
  go_wp2_with fail
  go_loopw [7] (fun a wr => ∃ m : Nat, 1 ≤ m ∧ m ≤ 5 ∧ a = .int .i64 m ∧ Below w.heap.size w wr ∧ Hid (∀ j, 1 ≤ j → j < m → ¬ Fits s k j)) (fun a _ => 5 - (intOf a).toNat)
  case atStart => exact ⟨1, by omega, by omega, rfl, Below.refl _ _, fun j h1 h2 => by omega⟩
  case round =>
    obtain ⟨m, hm1, hm5, rfl, hb, hno⟩ := hrel
    by_cases hin : m ≤ 4 ∧ k + m ≤ s.size
    · have t0 : decide ((m : Int) ≤ 4) = true := by rw [decide_eq_true_iff]; omega
      have t1 : decide ((k : Int) + (m : Int) ≤ (s.size : Int)) = true := by rw [decide_eq_true_iff]; omega
      have t2 : decide (m ≤ 4) = true := by rw [decide_eq_true_iff]; omega
      have t3 : (k : Int) + (m : Int) ≤ (s.size : Int) := by omega
      have t4 : decide (k + m ≤ s.size) = true := by rw [decide_eq_true_iff]; omega
      have hbyte : ∀ i, i < m → (s.data.toList.getD (k + i) 0).toNat = byteAt (s.data.toList.drop k) i := fun i _ => by unfold byteAt; rw [Sc.getD_drop]
      have hb255 : ∀ i, byteAt (s.data.toList.drop k) i < 256 := fun i => UInt8.toNat_lt _
      have hbd := cN_bound m (byteAt (s.data.toList.drop k)) (hb255 0)
      have HBY := Lib.hid hbyte
      have H255 := Lib.hid hb255
      have HBD := Lib.hid hbd
      have HNO := Lib.hid hno
      have HB := Lib.hid hb
      have HIN := Lib.hid hin
      obtain ⟨B, hB⟩ : ∃ B, byteAt (s.data.toList.drop k) = B := ⟨_, rfl⟩
      have HBE := Lib.hid hB
      rw [hB] at HBY H255 HBD
      have hm4 := hin.1
      clear hbyte hb255 hbd hno hb hin hB hm5
      go_wp2_with fail
      go_loopw [8, 9] (fun n a wx => ∃ i : Nat, i ≤ m ∧ n = .int .i64 (cN m B i : Nat) ∧ a = .int .i64 i ∧ wx = wr) (fun _ a _ => m - (intOf a).toNat)
      case atStart => exact ⟨0, Nat.zero_le _, rfl, rfl, rfl⟩
      case round =>
        obtain ⟨i, him, rfl, rfl, rfl⟩ := hrel
        by_cases hlt : i < m
        · have u0 : decide (i < m) = true := by rw [decide_eq_true_iff]; exact hlt
          have hix0 := fun wx => byte_at s (k + i) (by have := HIN.out.2; omega) (B i : Nat) (by rw [HBY.out i hlt]) wx
          have hix : ∀ wx, (Instr.index 9 (.string s) (.int .i64 ((k : Int) + (i : Int)))).run Tryz.prog wx = .ok (.int .u8 (B i : Nat)) wx := fun wx => by have := hix0 wx; rwa [Int.natCast_add] at this
          have hbi := H255.out i
          obtain ⟨c, hc⟩ : ∃ c : Int, ((B i : Nat) : Int) = c := ⟨_, rfl⟩
          have hstep : cN m B (i + 1) = if i = 0 then (if 1 < m then B 0 % 2 ^ (7 - m) else B 0) else 64 * cN m B i + B i % 64 := rfl
          by_cases hi0 : i = 0
          · subst hi0
            rw [if_pos rfl] at hstep
            have q0 : 0 ≤ c ∧ c < 256 := by omega
            have hm : m = 1 ∨ m = 2 ∨ m = 3 ∨ m = 4 := by omega
            rw [hc] at hix
            clear hix0
            obtain ⟨X, hX⟩ : ∃ X : Int, ((cN m B (0 + 1) : Nat) : Int) = X := ⟨_, rfl⟩
            have HX := Lib.hid hX
            simp only [Int.natCast_zero, Int.add_zero] at hix
            rcases hm with rfl | rfl | rfl | rfl
            · have e : X = c := by rw [← hX, hstep, if_neg (by omega)]; exact hc
              subst e
              clear hstep hc hX
              go_wp2_with fail
              exact ⟨⟨1, by omega, by rw [← HX.out], rfl, by first | trivial | rfl⟩, by simp [intOf]⟩
            · have e : c.tmod 32 = X := by rw [← hX, hstep, if_pos (by omega), Int.tmod_eq_emod_of_nonneg q0.1, ← hc]; omega
              clear hstep hc hX
              go_wp2_with fail
              exact ⟨⟨1, by omega, by rw [← HX.out], rfl, by first | trivial | rfl⟩, by simp [intOf]⟩
            · have e : c.tmod 16 = X := by rw [← hX, hstep, if_pos (by omega), Int.tmod_eq_emod_of_nonneg q0.1, ← hc]; omega
              clear hstep hc hX
              go_wp2_with fail
              exact ⟨⟨1, by omega, by rw [← HX.out], rfl, by first | trivial | rfl⟩, by simp [intOf]⟩
            · have e : c.tmod 8 = X := by rw [← hX, hstep, if_pos (by omega), Int.tmod_eq_emod_of_nonneg q0.1, ← hc]; omega
              clear hstep hc hX
              go_wp2_with fail
              exact ⟨⟨1, by omega, by rw [← HX.out], rfl, by first | trivial | rfl⟩, by simp [intOf]⟩
          · rw [if_neg hi0] at hstep
            have hbn := HBD.out i (by omega)
            have hp : 64 ^ i ≤ 64 ^ 3 := Nat.pow_le_pow_right (by omega) (by omega)
            obtain ⟨X, hX⟩ : ∃ X : Int, ((cN m B (i + 1) : Nat) : Int) = X := ⟨_, rfl⟩
            have HX := Lib.hid hX
            have hn1 : cN m B i < 67108864 := by omega
            have e1 : c.tmod 64 = ((B i % 64 : Nat) : Int) := by rw [Int.tmod_eq_emod_of_nonneg (by omega)]; omega
            obtain ⟨D, hD⟩ : ∃ X : Int, ((B i % 64 : Nat) : Int) = X := ⟨_, rfl⟩
            rw [hD] at e1
            obtain ⟨Ni, hNi⟩ : ∃ X : Int, ((cN m B i : Nat) : Int) = X := ⟨_, rfl⟩
            have e2 : IntKind.i64.wrap (64 * Ni) = 64 * Ni := IntWalk.i64_in _ (by omega)
            have e3 : IntKind.i64.wrap (64 * Ni + D) = X := by rw [IntWalk.i64_in _ (by omega), ← hX, hstep]; omega
            have W0 : wrap64 c = c := by unfold wrap64; omega
            have W1 : wrap64 (64 * Ni) = 64 * Ni := by unfold wrap64; omega
            have HW := Lib.hid (show wrap64 (wrap64 (64 * Ni) + (wrap64 c).tmod 64) = X by rw [W0, W1, e1, ← hX, hstep]; unfold wrap64; omega)
            have ti : ((i : Int) == 0) = false := by rw [beq_eq_false_iff_ne]; omega
            have ti2 : (i == 0) = false := by rw [beq_eq_false_iff_ne]; exact hi0
            rw [hc] at hix
            rw [hNi]
            clear hstep hc hX hix0 hbn hp hn1 hD hNi hbi W0 W1 e1 e2 e3
            go_wp2_with fail
            exact ⟨⟨i + 1, by omega, by rw [HX.out, ← HW.out], by go_num, by first | trivial | rfl⟩, by simp [intOf]; omega⟩
        · have hie : i = m := by omega
          subst hie
          have hin := HIN.out
          have hN : cN i B i ≤ 67108864 := by
            have hm : i = 1 ∨ i = 2 ∨ i = 3 ∨ i = 4 := by omega
            have b0 := H255.out 0
            have b1 := H255.out 1
            have b2 := H255.out 2
            have b3 := H255.out 3
            rcases hm with rfl | rfl | rfl | rfl
            · rw [cN_1]; omega
            · rw [cN_2]; omega
            · rw [cN_3]; omega
            · rw [cN_4]; omega
          obtain ⟨NN, hNN⟩ : ∃ X : Nat, cN i B i = X := ⟨_, rfl⟩
          rw [hNN] at hN ⊢
          have u0 : decide (i < i) = false := by simp
          obtain ⟨Z, hZ⟩ : ∃ Z : Int, (NN : Int) = Z := ⟨_, rfl⟩
          have e1 : IntKind.i32.wrap Z = Z := IntWalk.i32_in _ (by omega)
          have CE := Lib.hid (fun w' => refEncode_any Z w')
          obtain ⟨EB, hEB⟩ : ∃ b : ByteArray, encB Z = b := ⟨_, rfl⟩
          rw [hEB] at CE
          have hext : (s.extract k (k + i)).toList = (s.data.toList.drop k).take i := by
            rw [ByteArray.toList_eq, Lib.extract_data, Nat.add_sub_cancel_left]
          have henc : EB.toList = encL Z := by rw [← hEB, ByteArray.toList_eq]; rfl
          obtain ⟨EX, hEX⟩ : ∃ b : ByteArray, s.extract k (k + i) = b := ⟨_, rfl⟩
          rw [hEX] at hext
          have v1 : IntKind.i64.wrap ((k : Int) + (i : Int)) = (k : Int) + (i : Int) := IntWalk.i64_in _ (by omega)
          have v2 : ((k : Int) + (i : Int)).toNat = k + i := by omega
          have v3 : (k : Int) ≤ (k : Int) + (i : Int) := by omega
          rw [hZ]
          by_cases hf : Fits s k i
          · have hfe := hf.2
            rw [HBE.out, hNN, hZ] at hfe
            have t5 : (EB.toList == EX.toList) = true := by rw [beq_iff_eq, henc, hext]; exact hfe
            have hd := dec_of_enc (l := s.data.toList.drop k) (n := NN) hm1 (by rw [List.length_drop, ← Lib.size_eq]; omega) (by rw [hZ]; exact hfe)
            have HF := Lib.hid (show decT (Lib.decodeL (s.data.toList.drop k)) = .tuple #[.int .i32 Z, .int .i64 i, .bool true] by rw [decT_ok hd.2, hd.1, ← hZ])
            clear hf hfe hd henc hext hEB hNN hZ hN hin HBE HBY H255 HBD HIN HNO hlt him
            go_upto_region 16 with fail
            go_region_held3 (fun _ => True) (trivial) (first | (go_at_call 62; refine (CE.out _).mono ?_; rintro e w2 ⟨rfl, b2⟩))
            have HB6 := Lib.hid (HB.out.trans (show Below w.heap.size wr w2 from (show Below wr.heap.size wr w2 from ⟨b2.os, b2.tape, b2.output, b2.size, b2.block⟩).mono HB.out.size))
            clear b2
            go_wp2_with fail
            go_ret3
            exact ⟨ret_eq HF.out.symm, HB6.out⟩
          · have hfe : encL Z ≠ (s.data.toList.drop k).take i := by
              intro e
              refine hf ⟨hin.2, ?_⟩
              rw [HBE.out, hNN, hZ]
              exact e
            have t5 : (EB.toList == EX.toList) = false := by rw [beq_eq_false_iff_ne, henc, hext]; exact hfe
            have HNX := Lib.hid (show ∀ j, 1 ≤ j → j < i + 1 → ¬ Fits s k j by
              intro j h1 h2
              by_cases hj : j = i
              · subst hj; exact hf
              · exact HNO.out j h1 (by omega))
            clear hf hfe henc hext hEB hNN hZ hN HBE HBY H255 HBD HIN HNO hlt him
            go_upto_region 16 with fail
            go_region_held3 (fun _ => True) (trivial) (first | (go_at_call 62; refine (CE.out _).mono ?_; rintro e w2 ⟨rfl, b2⟩))
            have HB6 := Lib.hid (HB.out.trans (show Below w.heap.size wr w2 from (show Below wr.heap.size wr w2 from ⟨b2.os, b2.tape, b2.output, b2.size, b2.block⟩).mono HB.out.size))
            clear b2
            go_wp2_with fail
            exact ⟨⟨i + 1, by omega, by omega, by go_num, HB6.out, HNX⟩, by simp [intOf]; omega⟩
    · have HD := Lib.hid (dec_bad hk hm1 hin hno.out)
      have HB := Lib.hid hb
      clear hb hno
      rcases (show (4 < m) ∨ (m ≤ 4 ∧ s.size < k + m) by omega) with h5 | ⟨h5, h6⟩
      · have t0 : decide ((m : Int) ≤ 4) = false := by rw [decide_eq_false_iff_not]; omega
        have t2 : decide (m ≤ 4) = false := by rw [decide_eq_false_iff_not]; omega
        clear hin
        go_wp2_with fail
        go_ret3
        exact ⟨ret_eq (decT_bad HD.out).symm, HB.out⟩
      · have t0 : decide ((m : Int) ≤ 4) = true := by rw [decide_eq_true_iff]; omega
        have t2 : decide (m ≤ 4) = true := by rw [decide_eq_true_iff]; omega
        have t1 : decide ((k : Int) + (m : Int) ≤ (s.size : Int)) = false := by rw [decide_eq_false_iff_not]; omega
        have t3 : ¬ (k : Int) + (m : Int) ≤ (s.size : Int) := by omega
        have t4 : decide (k + m ≤ s.size) = false := by rw [decide_eq_false_iff_not]; omega
        clear hin
        go_wp2_with fail
        go_ret3
        exact ⟨ret_eq (decT_bad HD.out).symm, HB.out⟩
end Go.Proofs.YthfkodimafmmgaaGreatDoor
namespace Go.Proofs.YthfkodimafmmgaaGreatDoor
open Go Go.RowKit Ru
set_option maxRecDepth 100000

set_option maxHeartbeats 400000 in
theorem refBad_any (s : ByteArray) (w : World) (hs : s.size ≤ 140737488355328) :
    Calls Tryz.prog 39 #[.string s] w fun e w' => e = .returned (.int .i64 (bad s.data.toList)) ∧ Below w.heap.size w w' := by
  go_enter Tryz.func39, Tryz.ntmps39
  go_wp2
  go_loopw [3] (fun a wr => ∃ k : Nat, k ≤ s.size ∧ a = .int .i64 k ∧ Below w.heap.size w wr ∧ Hid (bd (s.size - k) (s.data.toList.drop k) k = bad s.data.toList)) (fun a _ => s.size - (intOf a).toNat)
  case atStart => exact ⟨0, Nat.zero_le _, rfl, Below.refl _ _, by unfold bad; rw [← Lib.size_eq]; rfl⟩
  case round =>
    obtain ⟨k, hk, rfl, hb, hbad⟩ := hrel
    by_cases hlt : k < s.size
    · have C := Lib.hid (refDecode_in s k wr hs hlt)
      have hne : s.data.toList.drop k ≠ [] := by
        intro e
        have := congrArg List.length e
        rw [List.length_drop, ← Lib.size_eq] at this
        simp at this
        omega
      have hl : (s.data.toList.drop k).length = s.size - k := by rw [List.length_drop, ← Lib.size_eq]
      have hstep := bd_step (s.size - k) (s.data.toList.drop k) k hne (by omega)
      by_cases hd : Lib.decodeL (s.data.toList.drop k) = (65533, 1)
      · have HF := Lib.hid (show (k : Int) = bad s.data.toList by rw [← hbad.out, hstep, if_pos hd])
        rw [decT_bad hd] at C
        clear hstep hl hne hd hbad
        go_wp2_with (go_at_call 60; refine C.out.mono ?_; rintro e w' ⟨rfl, hb2⟩)
        go_ret
        exact ⟨ret_int HF.out, hb.trans (hb2.mono hb.size)⟩
      · have hw := Lib.decodeL_width (s.data.toList.drop k)
        have hle := Lib.decodeL_le (s.data.toList.drop k) hne
        rw [hl] at hle
        rw [if_neg hd, List.drop_drop] at hstep
        have hfu := bd_fuel (s.size - k) (s.size - (k + (Lib.decodeL (s.data.toList.drop k)).2)) (s.data.toList.drop (k + (Lib.decodeL (s.data.toList.drop k)).2)) (k + (Lib.decodeL (s.data.toList.drop k)).2) (by rw [List.length_drop, ← Lib.size_eq]; omega) (by rw [List.length_drop, ← Lib.size_eq]; omega)
        have HF := Lib.hid (show bd (s.size - (k + (Lib.decodeL (s.data.toList.drop k)).2)) (s.data.toList.drop (k + (Lib.decodeL (s.data.toList.drop k)).2)) (k + (Lib.decodeL (s.data.toList.drop k)).2) = bad s.data.toList by rw [← hbad.out, hstep, hfu])
        rw [decT_ok hd] at C
        clear hstep hl hne hd hbad hfu
        generalize Lib.decodeL (s.data.toList.drop k) = d at *
        obtain ⟨r, n⟩ := d
        dsimp only at *
        go_wp2_with (go_at_call 60; refine C.out.mono ?_; rintro e w' ⟨rfl, hb2⟩)
        refine ⟨⟨k + n, by omega, rfl, hb.trans (hb2.mono hb.size), HF⟩, ?_⟩
        simp [intOf]
        omega
    · have HF := Lib.hid (show (-1 : Int) = bad s.data.toList by
        rw [← hbad.out, List.drop_eq_nil_of_le (by rw [← Lib.size_eq]; omega), bd_nil])
      clear hbad
      go_wp2
      go_ret
      exact ⟨ret_int HF.out, hb⟩
end Go.Proofs.YthfkodimafmmgaaGreatDoor
