/- Contracts of the document's own hex, own and Text. -/
import Derived.Test.YthfkodimafmmgaaGreatDoorRuB
import Derived.Deep.QuietTactic
import Derived.BigQuiet
import Derived.IntWalk
import Derived.WalkSmall
namespace Go.Proofs.YthfkodimafmmgaaGreatDoor
open Go Go.RowKit Ru

abbrev digs : ByteArray := ⟨#[48, 49, 50, 51, 52, 53, 54, 55, 56, 57, 97, 98, 99, 100, 101, 102]⟩
theorem digs_at (n : Nat) (h : n < 16) : digs.extract n (n + 1) = ⟨#[hexd n]⟩ := by
  have : ∀ k : Fin 16, digs.extract k.val (k.val + 1) = ⟨#[hexd k.val]⟩ := by decide
  exact this ⟨n, h⟩
theorem app_mk (a b : List UInt8) : (⟨a.toArray⟩ : ByteArray) ++ ⟨b.toArray⟩ = ⟨(a ++ b).toArray⟩ := by
  apply ByteArray.ext
  simp

theorem ret_str {a b : ByteArray} (h : a = b) : Ending.returned (.string a) = .returned (.string b) := by rw [h]

set_option maxHeartbeats 400000 in
theorem refHex_any (k : Nat) : ∀ (n : Nat) (w : World), n < 16 ^ (k + 1) → n ≤ 16777215 →
    Calls Tryz.prog 63 #[.int .i64 n] w fun e w' => e = .returned (.string ⟨(hexL n).toArray⟩) ∧ ∃ m, w' = w.drewN m := by
  induction k with
  | zero =>
    intro n w h _
    have h1 : n < 16 := by simpa using h
    have hd := Lib.hid (digs_at n h1)
    have hl := Lib.hid (hexL_low h1)
    clear h
    go_enter Tryz.func63, Tryz.ntmps63
    go_wp2_with fail
    go_ret
    exact ⟨ret_str (by rw [hl.out]; exact hd.out), 0, rfl⟩
  | succ k ih =>
    intro n w h hb
    by_cases h1 : n < 16
    · have hd := Lib.hid (digs_at n h1)
      have hl := Lib.hid (hexL_low h1)
      clear h
      go_enter Tryz.func63, Tryz.ntmps63
      go_wp2_with fail
      go_ret
      exact ⟨ret_str (by rw [hl.out]; exact hd.out), 0, rfl⟩
    · have hd := Lib.hid (digs_at (n % 16) (Nat.mod_lt _ (by omega)))
      have hl := Lib.hid (hexL_high h1)
      have hq : n / 16 < 16 ^ (k + 1) := by
        rw [Nat.div_lt_iff_lt_mul (by omega)]
        rw [Nat.pow_succ] at h
        exact h
      have IH0 := fun w => ih (n / 16) w hq (by omega)
      have e : ((n / 16 : Nat) : Int) = (n : Int) / 16 := by omega
      simp only [e] at IH0
      have IH := Lib.hid IH0
      clear IH0 e
      have hb2 : (n : Int) ≤ 16777215 := by omega
      clear h ih hq hb
      go_enter Tryz.func63, Tryz.ntmps63
      go_wp2_with fail
      have l1 : IntKind.i64.wrap ((n : Int) / 16) = (n : Int) / 16 := IntWalk.i64_in _ (by omega)
      have l2 : IntKind.i64.wrap ((n : Int) % 16 + 1) = (n : Int) % 16 + 1 := IntWalk.i64_in _ (by omega)
      have l3 : ((n : Int) % 16 + 1).toNat = n % 16 + 1 := by omega
      have l4 : ((n : Int) % 16).toNat = n % 16 := by omega
      have l5 : 0 ≤ (n : Int) % 16 := by omega
      have l6 : (n : Int) % 16 + 1 ≤ 16 := by omega
      have l0 : (n : Int).tmod 16 = (n : Int) % 16 := Int.tmod_eq_emod_of_nonneg (by omega)
      have hsl : ∀ wx, (Instr.slice 9 (.string ⟨#[48, 49, 50, 51, 52, 53, 54, 55, 56, 57, 97, 98, 99, 100, 101, 102]⟩) (some (.int .i64 ((n : Int) % 16))) (some (.int .i64 ((n : Int) % 16 + 1))) none).run Tryz.prog wx = .ok (.string (digs.extract (n % 16) (n % 16 + 1))) wx := fun wx => by
        have h := run_slice_string (P := Tryz.prog) (w := wx) 9 digs .i64 .i64 ((n : Int) % 16) ((n : Int) % 16 + 1) Tryz.underlying9 l5 (by omega) (by show _ ≤ ((16 : Nat) : Int); omega)
        rw [l3, l4] at h
        exact h
      have hadd : ∀ wx, (Op.stringOp .add ⟨(hexL (n / 16)).toArray⟩ (digs.extract (n % 16) (n % 16 + 1))).run Tryz.prog wx = .ok (.string (⟨(hexL (n / 16)).toArray⟩ ++ digs.extract (n % 16) (n % 16 + 1))) wx := fun wx =>
        run_string_add_sum wx _ _ (by
          have h1 := hexL_length_le 5 (n / 16) (by omega)
          rw [hd.out]
          show (hexL (n / 16)).toArray.size + 1 ≤ _
          rw [List.size_toArray]
          omega)
      clear l3 l4 l5 l6
      go_quiet ((go_at_call 63; exact Calls.quiet_of (IH.out _)))
      go_wp2_with fail
      go_ret
      exact ⟨ret_str (by rw [hl.out, ← app_mk, ← hd.out]), _, rfl⟩
end Go.Proofs.YthfkodimafmmgaaGreatDoor
