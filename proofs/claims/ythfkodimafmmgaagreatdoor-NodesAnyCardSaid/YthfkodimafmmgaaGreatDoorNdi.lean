/- The chapter's own in: brackets round a node's text, where its kind asks for them. -/
import Derived.Test.YthfkodimafmmgaaGreatDoorNdh
namespace Go.Proofs.YthfkodimafmmgaaGreatDoor
open Go Go.RowKit Ru
set_option maxRecDepth 100000

namespace Nd
/-- Has a text of kind kk brackets round it within one of kind k? -/
def wrK (k kk : Int) (pos : Bool) : Bool :=
  if k = 0 then decide (kk = 0)
  else if k = 1 then decide (kk = 0) || (decide (kk = 1) && pos)
  else if k = 2 ∨ k = 3 ∨ k = 4 then
    if kk = 5 ∨ kk = 6 ∨ kk = 8 ∨ kk = 9 then false
    else if kk = 1 then pos else true
  else false
theorem wrK_two {k kk : Int} {pos : Bool} (hk : k = 0 ∨ k = 1) (h0 : kk ≠ 0) (h1 : kk ≠ 1) : wrK k kk pos = false := by
  rcases hk with rfl | rfl <;> simp [wrK, h0, h1]
theorem wrK_three {k kk : Int} {pos : Bool} (hk : k = 2 ∨ k = 3 ∨ k = 4) (h1 : kk ≠ 1) (h5 : kk ≠ 5) (h6 : kk ≠ 6) (h8 : kk ≠ 8) (h9 : kk ≠ 9) : wrK k kk pos = true := by
  rcases hk with rfl | rfl | rfl <;> simp [wrK, h1, h5, h6, h8, h9]
theorem wrapped_wrK (k : Int) (t : T) : wrappedB k t = wrK k t.kind (decide (0 < t.subs.length)) := rfl
end Nd
theorem str_add (a b : ByteArray) (ha : a.size ≤ 1000000) (hb : b.size ≤ 1000000) : ∀ wx, (Op.stringOp .add a b).run Tryz.prog wx = .ok (.string (a ++ b)) wx :=
  fun wx => run_string_add_sum wx _ _ (by omega)
theorem kind_cases (kk : Int) : kk = 0 ∨ kk = 1 ∨ kk = 5 ∨ kk = 6 ∨ kk = 8 ∨ kk = 9 ∨ (kk ≠ 0 ∧ kk ≠ 1 ∧ kk ≠ 5 ∧ kk ≠ 6 ∧ kk ≠ 8 ∧ kk ≠ 9) := by omega
set_option maxHeartbeats 8000000 in
theorem in_of (nm tx : ByteArray) (sa ba : Option Addr) (SL sc SN bc : Nat) (kk k : Int) (TX Z : ByteArray) (w : World) (hk : k = 0 ∨ k = 1 ∨ k = 2 ∨ k = 3 ∨ k = 4) (hx : TX.size ≤ 900000) (_hsn : SN ≤ 140737488351232)
    (hCT : ∀ wx, Below w.heap.size w wx → Calls Tryz.prog 26 #[.agg #[.int .u8 kk, .string nm, .string tx, .slice sa SL sc, .slice ba SN bc]] wx fun e w' => e = .returned (.string TX) ∧ Below wx.heap.size wx w')
    (hZ1 : Nd.wrK k kk (decide (0 < SN)) = true → ⟨#[40]⟩ ++ TX ++ ⟨#[41]⟩ = Z) (hZ0 : Nd.wrK k kk (decide (0 < SN)) = false → TX = Z) :
    Calls Tryz.prog 43 #[.agg #[.int .u8 kk, .string nm, .string tx, .slice sa SL sc, .slice ba SN bc], .int .u8 k] w fun e w' => e = .returned (.string Z) ∧ Below w.heap.size w w' := by
  have HB := Lib.hid (show Below w.heap.size w (w.alloc (.cells #[.int .u8 kk, .string nm, .string tx, .slice sa SL sc, .slice ba SN bc] 26)) from (Below.refl _ w).alloc (Nat.le_refl _) _)
  have CT := Lib.hid (hCT _ HB.out)
  have a1 := str_add ⟨#[40]⟩ TX (by decide) (by omega)
  have a2 := str_add (⟨#[40]⟩ ++ TX) ⟨#[41]⟩ (by rw [ByteArray.size_append]; have : (⟨#[40]⟩ : ByteArray).size = 1 := rfl; omega) (by decide)
  clear hCT
  rcases hk with rfl | rfl | rfl | rfl | rfl <;> rcases kind_cases kk with rfl | rfl | rfl | rfl | rfl | rfl | ⟨k0, k1, k5, k6, k8, k9⟩ <;> rcases zer SN with ⟨o1, o2, o3, o4⟩ | ⟨o1, o2, o3, o4⟩
  all_goals
    rw [o4] at hZ1 hZ0
    first
    | (have hz := hZ1 rfl; clear hZ1 hZ0)
    | (have hz := hZ0 rfl; clear hZ1 hZ0)
    | (have hz := hZ0 (Nd.wrK_two (by decide) (by assumption) (by assumption)); clear hZ1 hZ0)
    | (have hz := hZ1 (Nd.wrK_three (by decide) (by assumption) (by assumption) (by assumption) (by assumption) (by assumption)); clear hZ1 hZ0)
    first
    | (have q0 : (kk == 0) = false := by rw [beq_eq_false_iff_ne]; exact k0
       have q1 : (kk == 1) = false := by rw [beq_eq_false_iff_ne]; exact k1
       have r1 : (kk != 1) = true := by rw [bne_iff_ne]; exact k1
       have r5 : (kk != 5) = true := by rw [bne_iff_ne]; exact k5
       have r6 : (kk != 6) = true := by rw [bne_iff_ne]; exact k6
       have r8 : (kk != 8) = true := by rw [bne_iff_ne]; exact k8
       have r9 : (kk != 9) = true := by rw [bne_iff_ne]; exact k9)
    | skip
    have HZ := Lib.hid hz
    clear hz
    go_enter Tryz.func43, Tryz.ntmps43
    go_wp2_with fail
    refine CT.out.mono ?_
    rintro e w' ⟨rfl, hb⟩
    go_wp2_with fail
    go_ret
    exact ⟨ret_str HZ.out, HB.out.trans (hb.mono HB.out.size)⟩
end Go.Proofs.YthfkodimafmmgaaGreatDoor
