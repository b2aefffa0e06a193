/- The contracts of nodes.literal and ranges: runes' texts into a Builder. -/
import Derived.Test.YthfkodimafmmgaaGreatDoorNdN
namespace Go.Proofs.YthfkodimafmmgaaGreatDoor
open Go Go.RowKit Ru
set_option maxRecDepth 100000

namespace Nd
/-- The texts of a text's runes; what belongs to none has no text. -/
def lit (l : List UInt8) : List UInt8 :=
  if _h : l = [] then [] else (if Lib.decodeL l = (65533, 1) then [] else Ru.text (Lib.decodeL l).1) ++ lit (l.drop (Lib.decodeL l).2)
termination_by l.length
decreasing_by
  have h1 := Lib.decodeL_width l
  have h2 : 0 < l.length := List.length_pos_iff.2 _h
  simp only [List.length_drop]
  omega
theorem lit_nil : lit [] = [] := by rw [lit]; simp
theorem lit_step {l : List UInt8} (h : l ≠ []) : lit l = (if Lib.decodeL l = (65533, 1) then [] else Ru.text (Lib.decodeL l).1) ++ lit (l.drop (Lib.decodeL l).2) := by rw [lit]; simp [h]
theorem text_len (r : Int) : (Ru.text r).length ≤ 12 := by
  cases hv : Go.validRune r with
  | false => rw [Ru.text_no hv]; simp
  | true =>
    have h2 := (Ru.valid_iff r).1 hv
    by_cases hs : Ru.sign r = 0
    · by_cases h3 : 32 ≤ r ∧ r ≤ 126
      · rw [Ru.text_self h3.1 h3.2 hs]; simp
      · rw [Ru.text_num hv (by omega) hs]
        have := Ru.hexL_length_le 5 r.toNat (by omega)
        simp
        omega
    · rw [Ru.text_sign hv hs]; simp
theorem lit_len (l : List UInt8) : (lit l).length ≤ 12 * l.length := by
  induction h : l.length using Nat.strongRecOn generalizing l with
  | _ n ih =>
    subst h
    by_cases hl : l = []
    · subst hl; simp [lit_nil]
    · rw [lit_step hl, List.length_append]
      have h1 := Lib.decodeL_width l
      have h2 : 0 < l.length := List.length_pos_iff.2 hl
      have h3 := ih (l.drop (Lib.decodeL l).2).length (by simp only [List.length_drop]; omega) _ rfl
      simp only [List.length_drop] at h3
      have h4 : (if Lib.decodeL l = (65533, 1) then [] else Ru.text (Lib.decodeL l).1).length ≤ 12 := by
        split
        · simp
        · exact text_len _
      have h5 := Lib.decodeL_le l hl
      omega
/-- The texts of ranges. -/
def rgT : List (Int × Int) → List UInt8
  | [] => []
  | p :: r => Ru.text p.1 ++ (if p.2 = p.1 then [] else 45 :: Ru.text p.2) ++ rgT r
theorem rgT_len : ∀ (st : List (Int × Int)), (rgT st).length ≤ 25 * st.length
  | [] => by simp [rgT]
  | p :: r => by
    have h1 := rgT_len r
    have h2 := text_len p.1
    have h3 := text_len p.2
    simp only [rgT, List.length_append, List.length_cons]
    split
    · simp; omega
    · simp; omega
end Nd
theorem env_at {w0 w w' : World} {B b : Nat} (hE : Env w0) (h0 : Below w0.heap.size w0 w) (hB : w0.heap.size ≤ B) (hk : Kept B b w w') : Env w' := hE.below (h0.trans (hk.1.mono hB))
theorem tB_list (r : Int) : (textB r).data.toList = text r := rfl
theorem tB_len (r : Int) : (textB r).size ≤ 1099511627776 := by
  have h : (textB r).size = (text r).length := Lib.size_eq _
  have := Nd.text_len r
  omega
set_option maxHeartbeats 1000000 in
theorem literal_any (s : ByteArray) (w0 w : World) (B b : Nat) (l : List UInt8) (hE : Env w0) (h0 : Below w0.heap.size w0 w) (hB0 : w0.heap.size ≤ B) (hBw : B ≤ w.heap.size) (hs : s.size ≤ 1099511627) (hl : l.length ≤ 549755813888) (hb : Bd B b l w) :
    Calls Tryz.prog 52 #[.pointer (some ⟨b, 0, none⟩), .string s] w (Puts B b l (Nd.lit s.data.toList) w) := by
  have HE := Lib.hid hE
  have H0 := Lib.hid h0
  have HB := Lib.hid hb
  obtain ⟨LL, hLL⟩ : ∃ LL, Nd.lit s.data.toList = LL := ⟨_, rfl⟩
  have HLL := Lib.hid hLL
  rw [hLL]
  clear hE h0 hb hLL
  go_enter Tryz.func52, Tryz.ntmps52
  go_wp2_with fail
  go_loopw [4] (fun a wr => ∃ (p : Nat) (dn : List UInt8), p ≤ s.size ∧ a = .int .i64 p ∧ Hid (dn ++ Nd.lit (s.data.toList.drop p) = LL) ∧ dn.length ≤ 12 * p ∧ Bd B b (l ++ dn) wr ∧ Kept B b w wr) (fun a _ => s.size - (intOf a).toNat)
  case atStart => exact ⟨0, [], Nat.zero_le _, rfl, Lib.hid (by rw [List.drop_zero, List.nil_append]; exact HLL.out), by simp, by rw [List.append_nil]; exact HB.out, Kept.refl _ _ _⟩
  case round =>
    obtain ⟨p, dn, hp, rfl, hd, hdl, hbd, hk⟩ := hrel
    have HBD := Lib.hid hbd
    have HK := Lib.hid hk
    have hws := hk.1.size
    clear hbd hk
    by_cases hlt : p < s.size
    · have hE1 := env_at HE.out H0.out hB0 HK.out
      have C := Decode_in s p _ (by omega) hlt hE1
      have hne : s.data.toList.drop p ≠ [] := by
        intro e
        have := congrArg List.length e
        rw [List.length_drop, ← Lib.size_eq] at this
        simp at this
        omega
      have hll : (s.data.toList.drop p).length = s.size - p := by rw [List.length_drop, ← Lib.size_eq]
      have hwd := Lib.decodeL_width (s.data.toList.drop p)
      have hle := Lib.decodeL_le (s.data.toList.drop p) hne
      have hstep := Nd.lit_step hne
      rw [List.drop_drop] at hstep
      rw [hll] at hle
      have hd2 := hd.out
      rw [hstep] at hd2
      by_cases hbad : Lib.decodeL (s.data.toList.drop p) = (65533, 1)
      · rw [decT_bad hbad] at C
        rw [if_pos hbad, hbad, List.nil_append] at hd2
        have HD := Lib.hid hd2
        replace C := Lib.hid C
        clear hd hd2 hstep hne hll hwd hle hbad hE1
        go_wp2_with fail
        refine C.out.mono ?_
        rintro e w' ⟨rfl, hb2⟩
        go_wp2_with fail
        exact ⟨⟨p + 1, dn, by omega, by go_num, HD, by omega, builder_below HBD.out hb2, HK.out.trans (Kept.of_below hb2 (by omega))⟩, by simp [intOf]; omega⟩
      · rw [decT_ok hbad] at C
        rw [if_neg hbad, ← List.append_assoc] at hd2
        have HD := Lib.hid hd2
        have CT := fun (wx : World) (h : Below wx.heap.size wx wx → Env wx) => Text_any ((Lib.decodeL (s.data.toList.drop p)).1 : Int) wx (h (Below.refl _ _)).brj (by first | exact (h (Below.refl _ _)).size.2.2 | exact (h (Below.refl _ _)).size.2.2.1)
        have htl := Nd.text_len ((Lib.decodeL (s.data.toList.drop p)).1 : Int)
        have hts := tB_len ((Lib.decodeL (s.data.toList.drop p)).1 : Int)
        have htd : (textB ((Lib.decodeL (s.data.toList.drop p)).1 : Int)).data.toList = text ((Lib.decodeL (s.data.toList.drop p)).1 : Int) := tB_list _
        have CP := fun (wx : World) (h : Bd B b (l ++ dn) wx) (h2 : B ≤ wx.heap.size) => putText B b (l ++ dn) (textB ((Lib.decodeL (s.data.toList.drop p)).1 : Int)) wx h (by simp; omega) hts h2
        rw [htd] at CP
        generalize Lib.decodeL (s.data.toList.drop p) = d at *
        obtain ⟨r, z⟩ := d
        dsimp only at *
        generalize text (r : Int) = TX at *
        generalize textB (r : Int) = TB at *
        replace C := Lib.hid C
        replace CT := Lib.hid CT
        replace CP := Lib.hid CP
        obtain ⟨R, hR⟩ : ∃ R : Int, (r : Int) = R := ⟨_, rfl⟩
        rw [hR] at C CT
        clear hd hd2 hstep hne hll hbad hts htd hR
        go_wp2_with fail
        refine C.out.mono ?_
        rintro e w1 ⟨rfl, hb2⟩
        have hs1 := hb2.size
        go_wp2_with fail
        refine (CT.out _ (fun _ => hE1.below hb2)).mono ?_
        rintro e w2 ⟨rfl, hb3⟩
        have hs2 := hb3.size
        go_wp2_with fail
        refine (CP.out _ (builder_below (builder_below HBD.out hb2) hb3) (by omega)).mono ?_
        rintro e w3 ⟨⟨_, rfl⟩, hb4, hk4⟩
        go_wp2_with fail
        exact ⟨⟨p + z, dn ++ TX, by omega, by go_num, HD, by simp; omega, by rw [← List.append_assoc]; exact hb4, ((HK.out.trans (Kept.of_below hb2 (by omega))).trans (Kept.of_below hb3 (by omega))).trans hk4⟩, by simp [intOf]; omega⟩
    · have hfin : dn = LL := by
        have := hd.out
        rw [List.drop_eq_nil_of_le (by rw [← Lib.size_eq]; omega), Nd.lit_nil, List.append_nil] at this
        exact this
      subst hfin
      clear hd
      go_wp2_with fail
      go_end0
      exact ⟨⟨_, rfl⟩, HBD.out, HK.out⟩
set_option maxHeartbeats 1000000 in
theorem ranges_any (st : List (Int × Int)) (a : Option Addr) (cap : Nat) (w0 w : World) (B b : Nat) (l : List UInt8) (hE : Env w0) (h0 : Below w0.heap.size w0 w) (hB0 : w0.heap.size ≤ B) (hBw : B ≤ w.heap.size) (hR : Nd.RgAt w0 st a) (hst : st.length ≤ 1099511627) (hl : l.length ≤ 549755813888) (hb : Bd B b l w) (hbl : b < w.heap.size) :
    Calls Tryz.prog 53 #[.pointer (some ⟨b, 0, none⟩), .slice a st.length cap] w (Puts B b l (Nd.rgT st) w) := by
  have HE := Lib.hid hE
  have H0 := Lib.hid h0
  have HB := Lib.hid hb
  have HR := Lib.hid hR
  obtain ⟨LL, hLL⟩ : ∃ LL, Nd.rgT st = LL := ⟨_, rfl⟩
  have HLL := Lib.hid hLL
  obtain ⟨N, hN⟩ : ∃ N, st.length = N := ⟨_, rfl⟩
  have HN := Lib.hid hN
  rw [hN] at hst ⊢
  rw [hLL]
  have n1 : (N : Int) ≤ 9223372036854775807 := by omega
  clear hE h0 hb hR hLL hN
  go_enter Tryz.func53, Tryz.ntmps53
  go_wp2_with fail
  go_loopw [8] (fun i wr => ∃ (p : Nat) (dn : List UInt8), p ≤ N ∧ i = .int .i64 p ∧ Hid (dn ++ Nd.rgT (st.drop p) = LL) ∧ dn.length ≤ 25 * p ∧ Bd B b (l ++ dn) wr ∧ Kept B b w wr) (fun i _ => N - (intOf i).toNat)
  case atStart => exact ⟨0, [], Nat.zero_le _, rfl, Lib.hid (by rw [List.drop_zero, List.nil_append]; exact HLL.out), by simp, by rw [List.append_nil]; exact HB.out, Kept.refl _ _ _⟩
  case round =>
    obtain ⟨k, dn, hk, rfl, hd, hdl, hbd, hkp⟩ := hrel
    have HBD := Lib.hid hbd
    have HK := Lib.hid hkp
    have hws := hkp.1.size
    have hwz : w.heap.size ≤ wr.heap.size := hkp.1.size
    clear hbd hkp
    by_cases hlt : k < N
    · obtain ⟨p, hp⟩ : ∃ p, st[k]? = some p := ⟨_, List.getElem?_eq_getElem (by rw [HN.out]; exact hlt)⟩
      obtain ⟨g, o, rfl, x1, x2⟩ := HR.out.get k p hp
      have hbw := H0.out.trans (HK.out.1.mono hB0)
      have y1 := Nd.cell_keeps hbw x1
      have y2 := Nd.cell_keeps hbw x2
      have d0 : decide (k < N) = true := by rw [decide_eq_true_iff]; exact hlt
      have a0 : (k : Int) < (N : Int) := by omega
      have hE1 := env_at HE.out H0.out hB0 HK.out
      have hd2 := hd.out
      rw [Nd.drop_some hp] at hd2
      obtain ⟨pa, pb⟩ := p
      dsimp only at y1 y2
      simp only [Nd.rgT] at hd2
      have HW1 := Lib.hid (Bk.made wr 44 #[.int .i32 pa, .int .i32 pb])
      have hne : wr.heap.size ≠ b := by omega
      have HK1 := Lib.hid (HK.out.trans (Kept.alloc wr (by omega) (.cells #[.int .i32 pa, .int .i32 pb] 44)))
      have HB1 := Lib.hid (builder_below HBD.out ((Below.refl _ wr).alloc (Nat.le_refl _) (.cells #[.int .i32 pa, .int .i32 pb] 44)))
      have HE1 := Lib.hid (env_at HE.out H0.out hB0 HK1.out)
      have CT := fun (r : Int) (wx : World) (h : Env wx) => Text_any r wx h.brj (by first | exact h.size.2.2 | exact h.size.2.2.1)
      have hta := Nd.text_len pa
      have htb := Nd.text_len pb
      have hsa := tB_len pa
      have hsb := tB_len pb
      have hla := tB_list pa
      have hlb := tB_list pb
      have CP := fun (dd : List UInt8) (s : ByteArray) (wx : World) (h : Bd B b dd wx) (hd : dd.length ≤ 1099511627776) (hs : s.size ≤ 1099511627776) (h2 : B ≤ wx.heap.size) => putText B b dd s wx h hd hs h2
      have C1 := fun (dd : List UInt8) (wx : World) (h : Bd B b dd wx) (hd : dd.length ≤ 1099511627776) (h2 : B ≤ wx.heap.size) => putByte B b dd 45 45 rfl wx h hd h2
      generalize hta1 : text pa = TA at *
      generalize htb1 : text pb = TB at *
      have CTa := fun (wx : World) (h : Env wx) => CT pa wx h
      have CTb := fun (wx : World) (h : Env wx) => CT pb wx h
      generalize textB pa = SA at *
      generalize textB pb = SB at *
      replace CTa := Lib.hid CTa
      replace CTb := Lib.hid CTb
      replace CP := Lib.hid CP
      replace C1 := Lib.hid C1
      clear x1 x2 hp hd CT hta1 htb1
      by_cases hab : pb = pa
      · rw [if_pos hab, List.append_nil, ← List.append_assoc] at hd2
        have HD := Lib.hid hd2
        subst hab
        clear hd2
        go_wp2_with fail
        refine (CTa.out _ HE1.out).mono ?_
        rintro e w2 ⟨rfl, hb2⟩
        have hs2 := hb2.size
        rw [World.size_alloc] at hs2
        have HB2 := Lib.hid (builder_below HB1.out hb2)
        have HK2 := Lib.hid (HK1.out.trans (Kept.of_below hb2 (by rw [World.size_alloc]; omega)))
        have HW2 := Lib.hid (HW1.out.below hb2 HW1.out.lt)
        clear hb2
        go_wp2_with fail
        refine (CP.out (l ++ dn) SA _ HB2.out (by simp; omega) hsa (by omega)).mono ?_
        rintro e w3 ⟨⟨_, rfl⟩, hb3, hk3⟩
        rw [hla] at hb3
        have HW3 := Lib.hid (hk3.bk HW2.out hne (by decide))
        have e0 := HW3.out.cell 0
        have e1 := HW3.out.cell 1
        simp at e0 e1
        have HB3 := Lib.hid hb3
        have HK3 := Lib.hid (HK2.out.trans hk3)
        clear hb3 hk3
        go_wp2_with fail
        exact ⟨⟨k + 1, dn ++ TA, by omega, by go_num, HD, by simp; omega, by rw [← List.append_assoc]; exact HB3.out, HK3.out⟩, by simp [intOf]; omega⟩
      · rw [if_neg hab] at hd2
        have hd3 : (dn ++ TA ++ [45] ++ TB) ++ Nd.rgT (st.drop (k + 1)) = LL := by rw [← hd2]; simp
        have HD := Lib.hid hd3
        have q0 : (pb == pa) = false := by rw [beq_eq_false_iff_ne]; exact hab
        have q1 : (pb != pa) = true := by rw [bne_iff_ne]; exact hab
        clear hd2 hd3
        go_wp2_with fail
        refine (CTa.out _ HE1.out).mono ?_
        rintro e w2 ⟨rfl, hb2⟩
        have hs2 := hb2.size
        rw [World.size_alloc] at hs2
        have HB2 := Lib.hid (builder_below HB1.out hb2)
        have HK2 := Lib.hid (HK1.out.trans (Kept.of_below hb2 (by rw [World.size_alloc]; omega)))
        have HW2 := Lib.hid (HW1.out.below hb2 HW1.out.lt)
        clear hb2
        go_wp2_with fail
        refine (CP.out (l ++ dn) SA _ HB2.out (by simp; omega) hsa (by omega)).mono ?_
        rintro e w3 ⟨⟨_, rfl⟩, hb3, hk3⟩
        rw [hla] at hb3
        have HW3 := Lib.hid (hk3.bk HW2.out hne (by decide))
        have e0 := HW3.out.cell 0
        have e1 := HW3.out.cell 1
        simp at e0 e1
        have HB3 := Lib.hid hb3
        have HK3 := Lib.hid (HK2.out.trans hk3)
        have hs3 := hk3.1.size
        clear hb3 hk3
        go_wp2_with fail
        refine (C1.out (l ++ dn ++ TA) _ HB3.out (by simp; omega) (by omega)).mono ?_
        rintro e w4 ⟨⟨_, rfl⟩, hb4, hk4⟩
        have HW4 := Lib.hid (hk4.bk HW3.out hne (by decide))
        have e2 := HW4.out.cell 1
        simp at e2
        have HB4 := Lib.hid hb4
        have HK4 := Lib.hid (HK3.out.trans hk4)
        have HE4 := Lib.hid (env_at HE.out H0.out hB0 HK4.out)
        have hs4 := hk4.1.size
        clear hb4 hk4
        go_wp2_with fail
        refine (CTb.out _ HE4.out).mono ?_
        rintro e w5 ⟨rfl, hb5⟩
        have hs5 := hb5.size
        have HB5 := Lib.hid (builder_below HB4.out hb5)
        have HK5 := Lib.hid (HK4.out.trans (Kept.of_below hb5 (by omega)))
        clear hb5
        go_wp2_with fail
        refine (CP.out (l ++ dn ++ TA ++ [45]) SB _ HB5.out (by simp; omega) hsb (by omega)).mono ?_
        rintro e w6 ⟨⟨_, rfl⟩, hb6, hk6⟩
        rw [hlb] at hb6
        have HB6 := Lib.hid hb6
        have HK6 := Lib.hid (HK5.out.trans hk6)
        clear hb6 hk6
        go_wp2_with fail
        exact ⟨⟨k + 1, dn ++ TA ++ [45] ++ TB, by omega, by go_num, HD, by simp; omega, by simpa using HB6.out, HK6.out⟩, by simp [intOf]; omega⟩
    · have d0 : decide (k < N) = false := by rw [decide_eq_false_iff_not]; exact hlt
      have hfin : dn = LL := by
        have := hd.out
        rw [List.drop_eq_nil_of_le (by rw [HN.out]; omega)] at this
        simpa [Nd.rgT] using this
      subst hfin
      clear hd
      go_wp2_with fail
      go_end0
      exact ⟨⟨_, rfl⟩, HBD.out, HK.out⟩
end Go.Proofs.YthfkodimafmmgaaGreatDoor
