/- The contract of Scan: texts of whole runes. -/
import Derived.Test.YtokpknjmcegkaaaDoorScO
namespace Go.Proofs.YtokpknjmcegkaaaDoor
open Go Go.RowKit Ru
set_option maxRecDepth 100000

theorem Tryd.infoWord : (Tryd.prog.info? 38).map (fun i => (i.zero, i.size, i.bytes)) = some (some (.agg #[.int .u8 0, .string ⟨#[]⟩, .slice none 0 0, .int .i64 0, .int .i64 0, .int .i64 0]), 6, 72) := by kernel_rfl
theorem gb_trans {a b c : World} {row : Option Nat} (h : a.grownBy b row) (k : b.grownBy c row) : a.grownBy c row :=
  ⟨k.os.trans h.os, k.tape.trans h.tape, k.output.trans h.output, Nat.le_trans h.size k.size, fun i hi hr => (k.block i (Nat.lt_of_lt_of_le hi h.size) hr).trans (h.block i hi hr)⟩
/-- What holds at the head of a round of Scan's loop. -/
def Round (s : ByteArray) (w : World) (bS bL : Nat) (v a : Value) (wr : World) : Prop := ∃ (k q : Nat) (ds : List Sc.W) (svs : List Value), a = .int .i64 k ∧ q ≤ k ∧ Far s k ds ∧ Mem s w bS bL v svs ds wr q
set_option maxHeartbeats 8000000 in
theorem Scan_good (s : ByteArray) (w : World) (hs : s.size ≤ 65536) (hE : EnvS w) (hG : Sc.Good s.data.toList) :
    Calls Tryd.prog 8 #[.string s] w (Told s w) := by
  have HE := Lib.hid hE
  have HG := Lib.hid hG
  obtain ⟨i0, hi, hz0, hz1, hz2⟩ := info_parts Tryd.infoWord
  have B := fun w hE => Bad_any s w (by omega) hE
  unfold Sc.Good at hG
  rw [hG] at B
  replace B := Lib.hid B
  have CP := Lib.hid (fun w => places_any s w hs)
  have h0 : ¬ 65536 < s.size := by omega
  have d0 : decide ((65536 : Int) < (s.size : Int)) = false := by rw [decide_eq_false_iff_not]; omega
  have HF0 : Hid (Far s 0 []) := Lib.hid ⟨Nat.zero_le _, Nat.le_refl _, by
    rw [Sc.SR.app_nil, List.drop_zero]
    unfold Sc.scanL
    rw [if_neg (by rw [← Lib.size_eq]; omega), if_neg (by rw [hG]; omega)], Sc.At.zero hG⟩
  clear hG hE
  go_enter Tryd.func8, Tryd.ntmps8
  go_wp2_with fail
  refine (B.out _ (HE.out.alloc _).env).mono ?_
  rintro e w1 ⟨rfl, b1⟩
  have HB1 := Lib.hid b1
  clear b1
  go_wp2_with fail
  refine (CP.out _).mono ?_
  rintro e w2 ⟨⟨bS, bL, rfl, hbS, hbL, hPl⟩, b2⟩
  have b12 := HB1.out.trans (b2.mono HB1.out.size)
  have hz1' := HB1.out.size
  simp at hz1'
  have sS : w.heap.size < bS := by omega
  have sL : w.heap.size < bL := by omega
  have HM : Hid (Mem s w bS bL (.slice none 0 0) [] [] w2 0) := Lib.hid ⟨(Bk.made w 28 #[.int .i64 0, .int .i64 0, .int .i64 0, .int .i64 0]).below b12 (by simp), hPl, rfl, World.ownsRow_nil _ _ _ _, fun i sv d h => by simp at h, ((Below.refl _ w).alloc (Nat.le_refl _) _).trans (b12.mono (by simp))⟩
  clear b2 b12 hPl hbS hbL hz1' HB1
  go_wp2_with fail
  go_loopw [5, 7] (fun v a wr => Round s w bS bL v a wr) (fun _ a _ => s.size + 1 - (intOf a).toNat)
  case atStart => exact ⟨0, 0, [], [], rfl, Nat.le_refl _, HF0.out, HM.out⟩
  case round =>
    obtain ⟨k, q, ds, svs, rfl, hq, hF, hM⟩ := hrel
    have hk := hF.1
    have GP := gap_any s k wr hs hk (HE.out.below hM.2.2.2.2.2)
    have hgl := Sc.gapL_le _ (s.data.toList.drop k) (Nat.le_refl _)
    rw [List.length_drop, ← Lib.size_eq] at hgl
    have hAt := hF.gap HG.out
    obtain ⟨P, hP⟩ : ∃ P, k + (Sc.gapL (s.data.toList.drop k)).1 = P := ⟨_, rfl⟩
    have hF1 := hF.fail
    have hF2 := hF.done
    have hF3 := fun e => hF.err (e := e)
    have hF4 := fun kd t st z => hF.step (kd := kd) (t := t) (st := st) (z := z) HG.out
    rw [hP] at GP hAt hF1 hF2 hF3 hF4
    obtain ⟨O, hO⟩ : ∃ O, (Sc.gapL (s.data.toList.drop k)).2 = O := ⟨_, rfl⟩
    rw [hO] at GP hF1 hF2 hF3 hF4
    replace GP := Lib.hid GP
    replace hF1 := Lib.hid hF1
    replace hF2 := Lib.hid hF2
    replace hF3 := Lib.hid hF3
    replace hF4 := Lib.hid hF4
    have HA := Lib.hid hAt
    have hqP : q ≤ P := by omega
    have hPs : P ≤ s.size := by omega
    have hds := hF.2.1
    have HM1 := Lib.hid hM
    have hkP : k ≤ P := by omega
    clear hF hM hAt hP hO HM HF0 hgl
    have TD := fun wx (h : Pl s wx bS bL q) => told_any s bS bL q P wx hs h hqP hPs HA.out.2.1
    unfold posV at TD
    obtain ⟨L, hL⟩ : ∃ L : Int, ((place (s.data.toList.take P)).1 : Int) = L := ⟨_, rfl⟩
    obtain ⟨CC, hC⟩ : ∃ C : Int, ((place (s.data.toList.take P)).2 : Int) = C := ⟨_, rfl⟩
    rw [hL, hC] at TD
    replace TD := Lib.hid TD
    have HL := Lib.hid hL
    have HC := Lib.hid hC
    clear hL hC
    cases O with
    | false =>
      go_wp2_with fail
      refine GP.out.mono ?_
      rintro e w3 ⟨rfl, b3⟩
      have HM2 := Lib.hid (HM1.out.below b3)
      have E3 := Lib.hid (HE.out.below HM2.out.2.2.2.2.2)
      clear b3
      go_wp2_with fail
      refine (TD.out _ HM2.out.2.1).mono ?_
      rintro e w4 ⟨rfl, hg, hPl⟩
      have HM3 := Lib.hid (HM2.out.told sL hg hPl)
      clear hg hPl
      have K := Lib.hid (HM3.out.1)
      have f0 := K.out.free 0
      have f1 := K.out.free 1
      have f2 := K.out.free 2
      have f3 := K.out.free 3
      have c0 := K.out.cell 0
      have c1 := K.out.cell 1
      have c2 := K.out.cell 2
      have c3 := K.out.cell 3
      simp at c0 c1 c2 c3
      go_wp2_with fail
      have G := Lib.hid ((((K.out.set 0 (.int .i64 4)).set 1 (.int .i64 P)).set 2 (.int .i64 L)).set 3 (.int .i64 CC))
      refine bodyPost_ret (v := .tuple #[.slice none 0 0, .agg #[.int .i64 4, .int .i64 P, .int .i64 L, .int .i64 CC]]) ?_ rfl ?_
      · have y0 := G.out.cell 0
        have y1 := G.out.cell 1
        have y2 := G.out.cell 2
        have y3 := G.out.cell 3
        clear c0 c1 c2 c3 f0 f1 f2 f3
        simp at y0 y1 y2 y3
        simp [results, Tryd.results8, go_sem, y0, y1, y2, y3]
      · refine .inl ⟨4, P, hF1.out trivial, hPs, by rw [HL.out, HC.out]; rfl, ?_⟩
        exact (((((HM3.out.2.2.2.2.2).setCell (by simp) _).setCell (by simp) _).setCell (by simp) _).setCell (by simp) _)
    | true =>
      by_cases hend : P = s.size
      · have t1 : (P == s.size) = true := by rw [beq_iff_eq]; exact hend
        have t2 : ((P : Int) == (s.size : Int)) = true := by rw [beq_iff_eq]; omega
        have HD := Lib.hid (hF2.out rfl hend)
        rcases HM1.out.2.2.2.1.2 with ⟨hv, hn0⟩ | ⟨g, cap, cur, hv, _, _, hcap, hcap9, _⟩
        · subst hv
          go_wp2_with fail
          refine GP.out.mono ?_
          rintro e w3 ⟨rfl, b3⟩
          have HM2 := Lib.hid (HM1.out.below b3)
          have E3 := Lib.hid (HE.out.below HM2.out.2.2.2.2.2)
          clear b3
          go_wp2_with fail
          refine (Clip_Word_nil _).mono ?_
          rintro e w' ⟨rfl, rfl⟩
          have K := Lib.hid (HM2.out.1)
          have f0 := K.out.free 0
          have f1 := K.out.free 1
          have f2 := K.out.free 2
          have f3 := K.out.free 3
          have c0 := K.out.cell 0
          have c1 := K.out.cell 1
          have c2 := K.out.cell 2
          have c3 := K.out.cell 3
          simp at c0 c1 c2 c3
          go_wp2_with fail
          have G := Lib.hid ((((K.out.set 0 (.int .i64 0)).set 1 (.int .i64 0)).set 2 (.int .i64 0)).set 3 (.int .i64 0))
          refine bodyPost_ret (v := .tuple #[.slice none 0 0, .agg #[.int .i64 0, .int .i64 0, .int .i64 0, .int .i64 0]]) ?_ rfl ?_
          · have y0 := G.out.cell 0
            have y1 := G.out.cell 1
            have y2 := G.out.cell 2
            have y3 := G.out.cell 3
            clear c0 c1 c2 c3 f0 f1 f2 f3
            simp at y0 y1 y2 y3
            simp [results, Tryd.results8, go_sem, y0, y1, y2, y3]
          · refine .inr ⟨ds, .slice none 0 0, HD.out, rfl, ⟨svs, HM2.out.2.2.1, ?_, fun i sv d k1 k2 => ?_⟩, ?_⟩
            · exact (((((Row.of_own HM2.out.2.2.2.1).far (by simp) _).far (by simp) _).far (by simp) _).far (by simp) _)
            · exact ((((Row.far (HM2.out.2.2.2.2.1 i sv d k1 k2) (by simp) _).far (by simp) _).far (by simp) _).far (by simp) _)
            · exact (((((HM2.out.2.2.2.2.2).setCell (by simp) _).setCell (by simp) _).setCell (by simp) _).setCell (by simp) _)
        · subst hv
          have hcap8 : cap ≤ 9223372036854775807 := by unfold maxLen at hcap9; omega
          obtain ⟨N, hN⟩ : ∃ N, ds.length = N := ⟨_, rfl⟩
          rw [hN] at hcap
          rw [hN]
          have HN := Lib.hid hN
          clear hN
          go_wp2_with fail
          refine GP.out.mono ?_
          rintro e w3 ⟨rfl, b3⟩
          have HM2 := Lib.hid (HM1.out.below b3)
          have E3 := Lib.hid (HE.out.below HM2.out.2.2.2.2.2)
          clear b3
          go_wp2_with fail
          refine (Clip_Word_some _ _ _ hcap hcap8 _).mono ?_
          rintro e w' ⟨rfl, rfl⟩
          have K := Lib.hid (HM2.out.1)
          have f0 := K.out.free 0
          have f1 := K.out.free 1
          have f2 := K.out.free 2
          have f3 := K.out.free 3
          have c0 := K.out.cell 0
          have c1 := K.out.cell 1
          have c2 := K.out.cell 2
          have c3 := K.out.cell 3
          simp at c0 c1 c2 c3
          go_wp2_with fail
          have G := Lib.hid ((((K.out.set 0 (.int .i64 0)).set 1 (.int .i64 0)).set 2 (.int .i64 0)).set 3 (.int .i64 0))
          refine bodyPost_ret (v := .tuple #[.slice (some ⟨g, 0, none⟩) N N, .agg #[.int .i64 0, .int .i64 0, .int .i64 0, .int .i64 0]]) ?_ rfl ?_
          · have y0 := G.out.cell 0
            have y1 := G.out.cell 1
            have y2 := G.out.cell 2
            have y3 := G.out.cell 3
            clear c0 c1 c2 c3 f0 f1 f2 f3
            simp at y0 y1 y2 y3
            simp [results, Tryd.results8, go_sem, y0, y1, y2, y3]
          · refine .inr ⟨ds, .slice (some ⟨g, 0, none⟩) N N, HD.out, rfl, ⟨svs, HM2.out.2.2.1, ?_, fun i sv d k1 k2 => ?_⟩, ?_⟩
            · have R0 := Row.of_own HM2.out.2.2.2.1
              rw [HN.out] at R0 ⊢
              exact ((((R0.clip.far (by simp) _).far (by simp) _).far (by simp) _).far (by simp) _)
            · exact ((((Row.far (HM2.out.2.2.2.2.1 i sv d k1 k2) (by simp) _).far (by simp) _).far (by simp) _).far (by simp) _)
            · exact (((((HM2.out.2.2.2.2.2).setCell (by simp) _).setCell (by simp) _).setCell (by simp) _).setCell (by simp) _)
      · have hPl : P < s.size := by omega
        have t1 : (P == s.size) = false := by rw [beq_eq_false_iff_ne]; exact hend
        have t2 : ((P : Int) == (s.size : Int)) = false := by rw [beq_eq_false_iff_ne]; omega
        have a0 : (P : Int) ≤ (s.size : Int) := by omega
        obtain ⟨u, hu⟩ : ∃ u, s.extract P s.size = u := ⟨_, rfl⟩
        have hul : u.data.toList = s.data.toList.drop P := by rw [← hu]; exact Lib.extract_to_end s P
        have hus : u.size = s.size - P := by rw [← hu, ByteArray.size_extract]; omega
        have CW := fun wx h => word_any u wx (by omega) (by omega) h
        rw [hul] at CW
        clear hus hul hend
        cases hw : Sc.wordR (s.data.toList.drop P) with
        | err e0 =>
          have HD := Lib.hid (hF3.out e0 rfl hPl hw)
          have he := wordR_err hw
          rw [hw] at CW
          have CW2 : ∀ wx, EnvS wx → Calls Tryd.prog 19 #[.string u] wx fun e w' => e = .returned (.tuple #[.agg #[.int .u8 0, .string ⟨#[]⟩, .slice none 0 0, .int .i64 0, .int .i64 0, .int .i64 0], .int .i64 0, .int .i64 e0]) ∧ Below wx.heap.size wx w' := fun wx h => (CW wx h).mono fun e w' ⟨sv, h1, _, h3⟩ => ⟨h1, h3⟩
          replace CW2 := Lib.hid CW2
          have t3 : ((e0 : Int) != 0) = true := by rw [bne_iff_ne]; omega
          clear CW hw he
          go_wp2_with fail
          refine GP.out.mono ?_
          rintro e w3 ⟨rfl, b3⟩
          have HM2 := Lib.hid (HM1.out.below b3)
          have E3 := Lib.hid (HE.out.below HM2.out.2.2.2.2.2)
          clear b3
          go_wp2_with fail
          refine (CW2.out _ E3.out).mono ?_
          rintro e w4 ⟨rfl, b4⟩
          have HM3 := Lib.hid (HM2.out.below b4)
          clear b4
          go_wp2_with fail
          refine (TD.out _ (HM3.out.2.1.below ((Below.refl _ _).alloc (Nat.le_refl _) _))).mono ?_
          rintro e w5 ⟨rfl, hg, hPl5⟩
          have HM4 := Lib.hid ((HM3.out.below ((Below.refl _ _).alloc (Nat.le_refl _) _)).told sL hg hPl5)
          clear hg hPl5
          have K := Lib.hid (HM4.out.1)
          have f0 := K.out.free 0
          have f1 := K.out.free 1
          have f2 := K.out.free 2
          have f3 := K.out.free 3
          have c0 := K.out.cell 0
          have c1 := K.out.cell 1
          have c2 := K.out.cell 2
          have c3 := K.out.cell 3
          simp at c0 c1 c2 c3
          go_wp2_with fail
          have G := Lib.hid ((((K.out.set 0 (.int .i64 e0)).set 1 (.int .i64 P)).set 2 (.int .i64 L)).set 3 (.int .i64 CC))
          refine bodyPost_ret (v := .tuple #[.slice none 0 0, .agg #[.int .i64 e0, .int .i64 P, .int .i64 L, .int .i64 CC]]) ?_ rfl ?_
          · have y0 := G.out.cell 0
            have y1 := G.out.cell 1
            have y2 := G.out.cell 2
            have y3 := G.out.cell 3
            clear c0 c1 c2 c3 f0 f1 f2 f3
            simp at y0 y1 y2 y3
            simp [results, Tryd.results8, go_sem, y0, y1, y2, y3]
          · refine .inl ⟨e0, P, HD.out, hPs, by rw [HL.out, HC.out], ?_⟩
            exact (((((HM4.out.2.2.2.2.2).setCell (by simp) _).setCell (by simp) _).setCell (by simp) _).setCell (by simp) _)
        | ok kd t st z =>
          have HD := Lib.hid (hF4.out kd t st z rfl hPl hw)
          have hz := Sc.wordR_ok hw
          rw [List.length_drop, ← Lib.size_eq] at hz
          have zz1 := hz.1
          have zz2 := hz.2.1
          rw [hw] at CW
          obtain ⟨T, hT⟩ : ∃ T : ByteArray, (⟨t.toArray⟩ : ByteArray) = T := ⟨_, rfl⟩
          have HT := Lib.hid hT
          have CW2 : ∀ wx, EnvS wx → Calls Tryd.prog 19 #[.string u] wx fun e w' => ∃ A N cap, e = .returned (.tuple #[.agg #[.int .u8 kd, .string T, .slice A N cap, .int .i64 0, .int .i64 0, .int .i64 0], .int .i64 z, .int .i64 0]) ∧ SetAt w' wx.heap.size (.slice A N cap) st ∧ Below wx.heap.size wx w' := fun wx h => (CW wx h).mono fun e w' ⟨sv, h1, h2, h3⟩ => by
            obtain ⟨A, cap, hsv, _⟩ := Row.form h2
            refine ⟨A, (wrSet (Sc.WR.ok kd t st z)).length, cap, ?_, ?_, h3⟩
            · rw [h1, hsv, ← hT]; rfl
            · rw [← hsv]; exact h2
          replace CW2 := Lib.hid CW2
          clear CW hw hz hT
          go_wp2_with fail
          refine GP.out.mono ?_
          rintro e w3 ⟨rfl, b3⟩
          have HM2 := Lib.hid (HM1.out.below b3)
          have E3 := Lib.hid (HE.out.below HM2.out.2.2.2.2.2)
          clear b3
          go_wp2_with fail
          refine (CW2.out _ E3.out).mono ?_
          rintro e w4 ⟨A, N, cap, rfl, hset, b4⟩
          have HM3 := Lib.hid (HM2.out.below b4)
          have hs3 : w.heap.size + 1 ≤ w3.heap.size := HM2.out.1.lt
          have HSET := Lib.hid (hset.mono hs3)
          have lS : bS < w4.heap.size := HM3.out.2.1.2.2.2.1.lt
          have lL : bL < w4.heap.size := HM3.out.2.1.2.2.2.2.lt
          clear b4 hset hs3
          go_wp2_with fail
          refine (TD.out _ (HM3.out.2.1.below ((Below.refl _ _).alloc (Nat.le_refl _) _))).mono ?_
          rintro e w5 ⟨rfl, hg, hPl5⟩
          have K := Lib.hid ((Bk.made w4 38 #[.int .u8 kd, .string T, .slice A N cap, .int .i64 0, .int .i64 0, .int .i64 0]).grown hg (by intro e; injection e with e; omega))
          have HGB := Lib.hid (gb_trans (gb_of ((Below.refl _ w4).alloc (Nat.le_refl _) _)) hg)
          have HPL := Lib.hid hPl5
          have kl := K.out.lt
          clear hg hPl5
          have c0 := K.out.cell 0
          have c1 := K.out.cell 1
          have c2 := K.out.cell 2
          have c3 := K.out.cell 3
          have c4 := K.out.cell 4
          have c5 := K.out.cell 5
          have f0 := K.out.free 0
          have f1 := K.out.free 1
          have f2 := K.out.free 2
          have f3 := K.out.free 3
          have f4 := K.out.free 4
          have f5 := K.out.free 5
          simp at c0 c1 c2 c3 c4 c5
          have G5 : w4.grownBy (((w5.setCell ⟨w4.heap.size, 3, none⟩ (.int .i64 P)).setCell ⟨w4.heap.size, 4, none⟩ (.int .i64 L)).setCell ⟨w4.heap.size, 5, none⟩ (.int .i64 CC)) (some bL) := gb_set (gb_set (gb_set HGB.out _ _ (Or.inl (Nat.le_refl _))) _ _ (Or.inl (Nat.le_refl _))) _ _ (Or.inl (Nat.le_refl _))
          have P5 : Pl s (((w5.setCell ⟨w4.heap.size, 3, none⟩ (.int .i64 P)).setCell ⟨w4.heap.size, 4, none⟩ (.int .i64 L)).setCell ⟨w4.heap.size, 5, none⟩ (.int .i64 CC)) bS bL P := ((HPL.out.far (a := ⟨w4.heap.size, 3, none⟩) (by simp; omega) (by simp; omega) _).far (a := ⟨w4.heap.size, 4, none⟩) (by simp; omega) (by simp; omega) _).far (a := ⟨w4.heap.size, 5, none⟩) (by simp; omega) (by simp; omega) _
          have HM5 := Lib.hid ((HM3.out.told sL G5 P5).below ((Below.refl _ _).alloc (Nat.le_refl _) (.cells #[.int .u8 kd, .string T, .slice A N cap, .int .i64 P, .int .i64 L, .int .i64 CC] 38)))
          have HS5 := Lib.hid (SetAt.below (Row.grown HSET.out G5 (fun b hb => by
            injection hb with hb
            subst hb
            exact ⟨_, _, HM3.out.2.1.2.2.2.2, by decide⟩)) ((Below.refl _ _).alloc (Nat.le_refl _) (.cells #[.int .u8 kd, .string T, .slice A N cap, .int .i64 P, .int .i64 L, .int .i64 CC] 38)))
          have cn := cells_new (((w5.setCell ⟨w4.heap.size, 3, none⟩ (.int .i64 P)).setCell ⟨w4.heap.size, 4, none⟩ (.int .i64 L)).setCell ⟨w4.heap.size, 5, none⟩ (.int .i64 CC)) [.int .u8 kd, .string T, .slice A N cap, .int .i64 P, .int .i64 L, .int .i64 CC] 38
          have e5 : (((w5.setCell ⟨w4.heap.size, 3, none⟩ (.int .i64 P)).setCell ⟨w4.heap.size, 4, none⟩ (.int .i64 L)).setCell ⟨w4.heap.size, 5, none⟩ (.int .i64 CC)).heap.size = w5.heap.size := by simp [World.setCell]
          rw [e5] at cn
          have HCN := Lib.hid cn
          have sw5 : w.heap.size + 1 ≤ w5.heap.size := by have := HM3.out.1.lt; omega
          clear cn G5 P5 e5
          go_wp2_with (at_builtin; refine wpList_append_own _ rfl _ _ 23 rfl (w.heap.size + 1) 38 i0 (.agg #[.int .u8 0, .string ⟨#[]⟩, .slice none 0 0, .int .i64 0, .int .i64 0, .int .i64 0]) 6 72 Tryd.underlying23 hi hz0 hz1 hz2 rfl (by decide) _ _ _ rfl HM5.out.2.2.2.1 ⟨w5.heap.size, 0, none⟩ 1 1 [.int .u8 kd, .string T, .slice A N cap, .int .i64 P, .int .i64 L, .int .i64 CC] rfl rfl HCN.out (fun x hx => by simp at hx; rcases hx with rfl | rfl | rfl | rfl | rfl | rfl <;> rfl) (by unfold maxLen; omega) (by omega) (by simp; omega) ?_; intro v' w7 hown7 hg7 _)
          have hw7 : wcells s.data.toList (.slice A N cap) ⟨kd, t, st, P⟩ = [.int .u8 kd, .string T, .slice A N cap, .int .i64 P, .int .i64 L, .int .i64 CC] := by unfold wcells; dsimp only; rw [HT.out, HL.out, HC.out]
          have HM7 := Lib.hid (HM5.out.push (d := ⟨kd, t, st, P⟩) HS5.out (by rw [hw7]; exact hown7) hg7)
          clear hown7 hg7 hw7
          exact ⟨⟨P + z, P, ds ++ [⟨kd, t, st, P⟩], svs ++ [.slice A N cap], by go_num, by omega, HD.out, HM7.out⟩, by simp [intOf]; omega⟩

theorem Scan_any (s : ByteArray) (w : World) (hs : s.size ≤ 140737488355328) (hE : EnvS w) : Calls Tryd.prog 8 #[.string s] w (Told s w) := by
  by_cases h : 65536 < s.size
  · exact Scan_long s w hs h
  · rcases bd_range s.data.toList.length s.data.toList 0 with h1 | ⟨h1, _⟩
    · exact Scan_good s w (by omega) hE h1
    · exact Scan_bad s w (by omega) hE (bad s.data.toList).toNat (by unfold bad at *; omega)
end Go.Proofs.YtokpknjmcegkaaaDoor
