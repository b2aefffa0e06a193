/- The chapter's examples: lives answers true. -/
import Derived.Test.YtlggamjchfkimaaDoorRuK
namespace Go.Proofs.YtlggamjchfkimaaDoor
open Go Go.RowKit Ru

theorem hexL_233 : hexL 233 = [101, 57] := by
  rw [hexL_high (by omega), hexL_low (by omega)]
  decide
theorem textB_233 : textB 233 = ⟨#[92, 117, 123, 101, 57, 125]⟩ := by
  unfold textB
  rw [text_num (by decide) (by omega) (by decide)]
  have e : ((233 : Int)).toNat = 233 := rfl
  rw [e, hexL_233]
  rfl
theorem lives_d1 (w : World) (hE : Env w) : Calls Tryd.prog 13 #[.string ⟨#[97, 195, 169]⟩, .int .i64 1] w fun e w' => e = .returned (.tuple #[.int .i32 233, .int .i64 2, .bool true]) ∧ Below w.heap.size w w' := by
  refine (Decode_in ⟨#[97, 195, 169]⟩ 1 w (by decide) (by decide) hE).mono fun e w' ⟨he, hb⟩ => ⟨?_, hb⟩
  have h : Lib.decodeL ((⟨#[97, 195, 169]⟩ : ByteArray).data.toList.drop 1) = (233, 2) := by decide +kernel
  rw [he, h]; rfl
theorem lives_d2 (w : World) (hE : Env w) : Calls Tryd.prog 13 #[.string ⟨#[192, 128]⟩, .int .i64 0] w fun e w' => e = .returned (.tuple #[.int .i32 0, .int .i64 1, .bool false]) ∧ Below w.heap.size w w' := by
  refine (Decode_in ⟨#[192, 128]⟩ 0 w (by decide) (by decide) hE).mono fun e w' ⟨he, hb⟩ => ⟨?_, hb⟩
  have h : Lib.decodeL ((⟨#[192, 128]⟩ : ByteArray).data.toList.drop 0) = (65533, 1) := by decide +kernel
  rw [he, h]; rfl
theorem lives_e (w : World) (hE : Env w) : Calls Tryd.prog 14 #[.string ⟨#[92, 117, 123, 101, 57, 125]⟩, .int .i64 0] w fun e w' => e = .returned (.tuple #[.int .i32 233, .int .i64 6, .bool true]) ∧ Below w.heap.size w w' := by
  refine (Escape_in ⟨#[92, 117, 123, 101, 57, 125]⟩ 0 w (by decide) (by decide) hE).mono fun e w' ⟨he, hb⟩ => ⟨?_, hb⟩
  have h : escL ((⟨#[92, 117, 123, 101, 57, 125]⟩ : ByteArray).data.toList.drop 0) = some (233, 6) := by decide +kernel
  rw [he, h]; rfl
theorem lives_p (w : World) : Calls Tryd.prog 15 #[.string ⟨#[97, 10, 195, 169, 98]⟩, .int .i64 4] w fun e w' => e = .returned (.agg #[.int .i64 4, .int .i64 2, .int .i64 2]) ∧ Below w.heap.size w w' := by
  refine (Place_any ⟨#[97, 10, 195, 169, 98]⟩ 4 w (by decide) 4 (by decide)).mono fun e w' ⟨he, hb⟩ => ⟨?_, hb⟩
  have h : place ((⟨#[97, 10, 195, 169, 98]⟩ : ByteArray).data.toList.take 4) = (2, 2) := by decide +kernel
  rw [he, h]; rfl
theorem lives_t (w : World) (hE : Env w) : Calls Tryd.prog 10 #[.int .i32 233] w fun e w' => e = .returned (.string ⟨#[92, 117, 123, 101, 57, 125]⟩) ∧ Below w.heap.size w w' := by
  refine (Text_any 233 w hE.brj hE.size.2.2.1).mono fun e w' ⟨he, hb⟩ => ⟨?_, hb⟩
  rw [he, textB_233]
set_option maxHeartbeats 1000000 in
theorem lives_true (w : World) (hE : Env w) : Calls Tryd.prog 12 #[] w fun e w' => e = .returned (.bool true) ∧ Below w.heap.size w w' := by
  have HE := Lib.hid hE
  clear hE
  go_enter Tryd.func12, Tryd.ntmps12
  go_wp2_with fail
  refine (lives_d1 _ HE.out).mono ?_
  rintro e w1 ⟨rfl, b1⟩
  have E1 := Lib.hid (HE.out.below b1)
  go_wp2_with fail
  refine (lives_d2 _ E1.out).mono ?_
  rintro e w2 ⟨rfl, b2⟩
  have E2 := Lib.hid (E1.out.below b2)
  go_wp2_with fail
  refine (lives_e _ E2.out).mono ?_
  rintro e w3 ⟨rfl, b3⟩
  have E3 := Lib.hid (E2.out.below b3)
  go_wp2_with fail
  refine (lives_p _).mono ?_
  rintro e w4 ⟨rfl, b4⟩
  have E4 := Lib.hid (E3.out.below b4)
  go_wp2_with fail
  refine (lives_t _ E4.out).mono ?_
  rintro e w5 ⟨rfl, b5⟩
  go_wp2_with fail
  go_ret
  exact ⟨rfl, b1.trans ((b2.trans ((b3.trans ((b4.trans (b5.mono b4.size)).mono b3.size)).mono b2.size)).mono b1.size)⟩
end Go.Proofs.YtlggamjchfkimaaDoor
