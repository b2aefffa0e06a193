/- The walk of RunesWhole. -/
import Derived.Test.YtlggamjchfkimaaDoorPlW
import Derived.Test.YtlggamjchfkimaaDoorRuQ
namespace Go.Proofs.YtlggamjchfkimaaDoor
open Go Go.RowKit Ru

/-- What the loop has gathered behind k numbers: the bytes s, the bytes t with one more byte, and where that stands. -/
def Gath (zs : List Int) (at' k : Nat) (S T : List UInt8) (B : Int) : Prop :=
  S = encs (zs.take k) ∧ ((k ≤ at' ∧ T = encs (zs.take k) ∧ B = -1) ∨ (at' < k ∧ T = encs (zs.take at') ++ 255 :: encs ((zs.take k).drop at') ∧ B = (encs (zs.take at')).length))
theorem Gath.zero (zs : List Int) (at' : Nat) : Gath zs at' 0 [] [] (-1) := ⟨rfl, Or.inl ⟨Nat.zero_le _, rfl, rfl⟩⟩
theorem Gath.step {zs : List Int} {at' k : Nat} {S T : List UInt8} {B : Int} (h : Gath zs at' k S T B) (hk : k < zs.length) (hne : k ≠ at') : Gath zs at' (k + 1) (S ++ encL (zs.getD k 0)) (T ++ encL (zs.getD k 0)) B := by
  have hg : zs.take (k + 1) = zs.take k ++ [zs.getD k 0] := by
    rw [List.take_succ_eq_append_getElem hk]
    simp [List.getD, List.getElem?_eq_getElem hk]
  have he : encs [zs.getD k 0] = encL (zs.getD k 0) := by simp [encs]
  obtain ⟨h1, h2⟩ := h
  refine ⟨by rw [h1, hg, encs_app, he], ?_⟩
  rcases h2 with ⟨a, b, c⟩ | ⟨a, b, c⟩
  · exact Or.inl ⟨by omega, by rw [b, hg, encs_app, he], c⟩
  · refine Or.inr ⟨by omega, ?_, c⟩
    rw [b, hg, List.drop_append_of_le_length (by rw [List.length_take]; omega), encs_app, he]
    simp
theorem Gath.mark {zs : List Int} {at' : Nat} {S T : List UInt8} {B : Int} (h : Gath zs at' at' S T B) (hk : at' < zs.length) : Gath zs at' (at' + 1) (S ++ encL (zs.getD at' 0)) ((T ++ [255]) ++ encL (zs.getD at' 0)) T.length := by
  have hg : zs.take (at' + 1) = zs.take at' ++ [zs.getD at' 0] := by
    rw [List.take_succ_eq_append_getElem hk]
    simp [List.getD, List.getElem?_eq_getElem hk]
  have he : encs [zs.getD at' 0] = encL (zs.getD at' 0) := by simp [encs]
  obtain ⟨h1, h2⟩ := h
  refine ⟨by rw [h1, hg, encs_app, he], ?_⟩
  rcases h2 with ⟨_, b, _⟩ | ⟨a, _, _⟩
  · refine Or.inr ⟨by omega, ?_, by rw [b]⟩
    have hd : (zs.take (at' + 1)).drop at' = [zs.getD at' 0] := by
      rw [hg]
      have hl : (zs.take at').length = at' := by rw [List.length_take]; omega
      exact List.drop_left' hl
    rw [hd, he, b]
    simp
  · omega
theorem Gath.bad {zs : List Int} {at' k : Nat} {S T : List UInt8} {B : Int} (h : Gath zs at' k S T B) : bad S = -1 ∧ bad T = B := by
  obtain ⟨h1, h2⟩ := h
  refine ⟨by rw [h1]; exact bad_encs _, ?_⟩
  rcases h2 with ⟨_, b, c⟩ | ⟨_, b, c⟩
  · rw [b, c]; exact bad_encs _
  · rw [b, c]; exact bad_at _ _

set_option maxHeartbeats 400000 in
theorem Whole_none (a : Option Addr) (cap : Nat) (x : Int) (w : World) (hE : Env w) (_hx0 : 0 ≤ x) (_hx1 : x ≤ 255) : Calls Tryd.prog 7 #[.slice a 0 cap, .int .u8 x] w fun e w' => e = .returned (.bool true) ∧ Below w.heap.size w w' := by
  have HE := Lib.hid hE
  have C := Lib.hid (show ∀ w, Env w → Calls Tryd.prog 16 #[.string ⟨#[]⟩] w fun e w' => e = .returned (.int .i64 (-1)) ∧ Below w.heap.size w w' from fun w hE => Bad_any ⟨#[]⟩ w (by decide) hE)
  clear hE
  go_enter Tryd.func7, Tryd.ntmps7
  go_wp2_with fail
  refine wp_loop_rounds 1 ?_
  rw [rounds_succ]
  go_wp2_with fail
  refine (C.out _ HE.out).mono ?_
  rintro e w1 ⟨rfl, b1⟩
  have E1 := Lib.hid (HE.out.below b1)
  go_wp2_with fail
  refine (C.out _ E1.out).mono ?_
  rintro e w2 ⟨rfl, b2⟩
  have E2 := Lib.hid (E1.out.below b2)
  go_wp2_with fail
  refine (lives_true _ E2.out).mono ?_
  rintro e w3 ⟨rfl, b3⟩
  go_wp2_with fail
  go_ret
  exact ⟨rfl, b1.trans ((b2.trans (b3.mono b2.size)).mono b1.size)⟩
set_option maxHeartbeats 400000 in
theorem Whole_long (a : Option Addr) (len cap : Nat) (x : Int) (w : World) (hE : Env w) (h : 200 < (len : Int)) : Calls Tryd.prog 7 #[.slice a len cap, .int .u8 x] w fun e w' => e = .returned (.bool true) ∧ Below w.heap.size w w' := by
  have HE := Lib.hid hE
  clear hE
  go_enter Tryd.func7, Tryd.ntmps7
  go_wp2_with (go_at_call 12; refine (lives_true _ HE.out).mono ?_; rintro e w1 ⟨rfl, b1⟩)
  go_ret
  exact ⟨rfl, b1⟩
set_option maxHeartbeats 2000000 in
theorem Whole_some (b off len cap : Nat) (zs : List Int) (x : Int) (w : World) (hE : Env w) (hl : len ≤ 200) (hz : len ≤ zs.length) (_hcap : len ≤ cap) (hx0 : 0 ≤ x) (hx1 : x ≤ 255)
    (hc : ∀ j, j < len → w.cell? ⟨b, off + j, none⟩ = some (.int .i32 (zs.getD j 0))) :
    Calls Tryd.prog 7 #[.slice (some ⟨b, off, none⟩) len cap, .int .u8 x] w fun e w' => e = .returned (.bool true) ∧ Below w.heap.size w w' := by
  have HE := Lib.hid hE
  have HC := Lib.hid hc
  have hl2 : (len : Int) ≤ 200 := by omega
  have d1 : decide ((200 : Int) < (len : Int)) = false := by rw [decide_eq_false_iff_not]; omega
  clear hE hc
  go_enter Tryd.func7, Tryd.ntmps7
  go_wp2_with fail
  go_loop [5, 6, 7, 8] (fun vs vt vb vi => ∃ (k : Nat) (S T : ByteArray) (B : Int), vs = .string S ∧ vt = .string T ∧ vb = .int .i64 B ∧ vi = .int .i64 k ∧ k ≤ len ∧ S.size ≤ 4 * k ∧ T.size ≤ 5 * k ∧ Hid (Gath zs x.toNat k S.data.toList T.data.toList B)) (fun _ _ _ vi => len - (intOf vi).toNat)
  case atStart => exact ⟨0, ⟨#[]⟩, ⟨#[]⟩, -1, rfl, rfl, rfl, rfl, Nat.zero_le _, by decide, by decide, Gath.zero _ _⟩
  case round =>
    obtain ⟨k, S, T, B, rfl, rfl, rfl, rfl, hk, hS, hT, hG⟩ := hrel
    by_cases hlt : k < len
    · have hck := HC.out k hlt
      have hbl : ∀ r, (encB r).data.toList = encL r := fun r => rfl
      obtain ⟨z, hz1⟩ : ∃ z, z = zs.getD k 0 := ⟨_, rfl⟩
      rw [← hz1] at hck
      have hE4 := encB_size z
      have CE := Lib.hid (fun w => Encode_any z w)
      obtain ⟨Z, hZ⟩ : ∃ Z, Z = encB z := ⟨_, rfl⟩
      rw [← hZ] at hE4 CE
      have hZl : Z.data.toList = encL (zs.getD k 0) := by rw [hZ, hz1]; rfl
      have happ : ∀ a b : ByteArray, (a ++ b).data.toList = a.data.toList ++ b.data.toList := fun a b => by rw [ByteArray.data_append, Array.toList_append]
      have hsz : ∀ a b : ByteArray, (a ++ b).size = a.size + b.size := fun a b => ByteArray.size_append
      by_cases hat : (k : Int) = x
      · have t1 : ((k : Int) == x) = true := by rw [beq_iff_eq]; exact hat
        have hkx : x.toNat = k := by omega
        have hG2 := hG.out
        rw [hkx] at hG2
        have hG3 := hG2.mark (show k < zs.length by omega)
        rw [← hZl] at hG3
        have hTl : (T.data.toList.length : Int) = (T.size : Int) := by rw [← Lib.size_eq]
        rw [hTl] at hG3
        have a1 : ∀ wx, (Op.stringOp .add S Z).run Tryd.prog wx = .ok (.string (S ++ Z)) wx := fun wx => run_string_add_sum wx _ _ (by omega)
        have a2 : ∀ wx, (Op.stringOp .add T ⟨#[255]⟩).run Tryd.prog wx = .ok (.string (T ++ ⟨#[255]⟩)) wx := fun wx => run_string_add_sum wx _ _ (by show _ + 1 ≤ _; omega)
        have a3 : ∀ wx, (Op.stringOp .add (T ++ ⟨#[255]⟩) Z).run Tryd.prog wx = .ok (.string (T ++ ⟨#[255]⟩ ++ Z)) wx := fun wx => run_string_add_sum wx _ _ (by rw [hsz]; show _ + 1 + _ ≤ _; omega)
        have s1 : (S ++ Z).size ≤ 4 * (k + 1) := by rw [hsz]; omega
        have s2 : (T ++ ⟨#[255]⟩ ++ Z).size ≤ 5 * (k + 1) := by rw [hsz, hsz]; show T.size + 1 + Z.size ≤ _; omega
        have HG := Lib.hid (show Gath zs x.toNat (k + 1) (S ++ Z).data.toList (T ++ ⟨#[255]⟩ ++ Z).data.toList (T.size : Int) by
          rw [hkx, happ, happ, happ]; exact hG3)
        have HS1 := Lib.hid s1
        have HS2 := Lib.hid s2
        clear s1 s2 hG3 hG2 hG hTl hkx hat hsz happ hZl hz1 hZ hbl
        go_wp2_with (go_at_call 8; refine (CE.out _).mono ?_; rintro e w' ⟨rfl, rfl⟩)
        exact ⟨⟨k + 1, S ++ Z, T ++ ⟨#[255]⟩ ++ Z, T.size, rfl, rfl, rfl, by go_num, by omega, HS1.out, HS2.out, HG⟩, by simp [intOf]; omega⟩
      · have t1 : ((k : Int) == x) = false := by rw [beq_eq_false_iff_ne]; exact hat
        have hG3 := hG.out.step (show k < zs.length by omega) (show k ≠ x.toNat by omega)
        rw [← hZl] at hG3
        have a1 : ∀ wx, (Op.stringOp .add S Z).run Tryd.prog wx = .ok (.string (S ++ Z)) wx := fun wx => run_string_add_sum wx _ _ (by omega)
        have a2 : ∀ wx, (Op.stringOp .add T Z).run Tryd.prog wx = .ok (.string (T ++ Z)) wx := fun wx => run_string_add_sum wx _ _ (by omega)
        have s1 : (S ++ Z).size ≤ 4 * (k + 1) := by rw [hsz]; omega
        have s2 : (T ++ Z).size ≤ 5 * (k + 1) := by rw [hsz]; omega
        have HG := Lib.hid (show Gath zs x.toNat (k + 1) (S ++ Z).data.toList (T ++ Z).data.toList B by
          rw [happ, happ]; exact hG3)
        have HS1 := Lib.hid s1
        have HS2 := Lib.hid s2
        clear s1 s2 hG3 hG hat hsz happ hZl hz1 hZ hbl
        go_wp2_with (go_at_call 8; refine (CE.out _).mono ?_; rintro e w' ⟨rfl, rfl⟩)
        exact ⟨⟨k + 1, S ++ Z, T ++ Z, B, rfl, rfl, rfl, by go_num, by omega, HS1.out, HS2.out, HG⟩, by simp [intOf]; omega⟩
    · obtain ⟨g1, g2⟩ := hG.out.bad
      have CS := Lib.hid (show ∀ w, Env w → Calls Tryd.prog 16 #[.string S] w fun e w' => e = .returned (.int .i64 (-1)) ∧ Below w.heap.size w w' from fun w hE => (Bad_any S w (by omega) hE).mono fun e w' ⟨he, hb⟩ => ⟨by rw [he, g1], hb⟩)
      have CT := Lib.hid (show ∀ w, Env w → Calls Tryd.prog 16 #[.string T] w fun e w' => e = .returned (.int .i64 B) ∧ Below w.heap.size w w' from fun w hE => (Bad_any T w (by omega) hE).mono fun e w' ⟨he, hb⟩ => ⟨by rw [he, g2], hb⟩)
      clear hG g1 g2 HC
      go_wp2_with fail
      refine (CS.out _ HE.out).mono ?_
      rintro e w1 ⟨rfl, b1⟩
      have E1 := Lib.hid (HE.out.below b1)
      go_wp2_with fail
      refine (CT.out _ E1.out).mono ?_
      rintro e w2 ⟨rfl, b2⟩
      have E2 := Lib.hid (E1.out.below b2)
      go_wp2_with fail
      refine (lives_true _ E2.out).mono ?_
      rintro e w3 ⟨rfl, b3⟩
      go_wp2_with fail
      go_ret
      exact ⟨rfl, b1.trans ((b2.trans (b3.mono b2.size)).mono b1.size)⟩
end Go.Proofs.YtlggamjchfkimaaDoor
