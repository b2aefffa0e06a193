/- The chapter's Scan: texts of whole runes. -/
import Derived.Test.YtokpknjmcegkaaaDoorSaA
import Derived.Deep.CutBlock
namespace Go.Proofs.YtokpknjmcegkaaaDoor
open Go Go.RowKit Ru
set_option maxRecDepth 100000

theorem Tryd.infoRWord : (Tryd.prog.info? 60).map (fun i => (i.zero, i.size, i.bytes)) = some (some (.agg #[.int .i64 0, .string ⟨#[]⟩, .slice none 0 0, .int .i64 0, .int .i64 0, .int .i64 0]), 6, 72) := by kernel_rfl
def RoundR (s : ByteArray) (w : World) (v a : Value) (wr : World) : Prop := ∃ (k : Nat) (ds : List Sc.W) (svs : List Value), a = .int .i64 k ∧ Far s k ds ∧ MemR s w v svs ds wr

/-- What the switch leaves: no word, or one, its block, its set. -/
def SwR (w w4 : World) (m : List UInt8) (P : Nat) (L CC : Int) (x : Value) (wx : World) : Prop :=
  (x = .int .i64 (-1) ∧ Sc.wordR m = .err 4 ∧ ∃ a b c, Bk wx w4.heap.size 60 #[a, b, c, .int .i64 P, .int .i64 L, .int .i64 CC] ∧ Below w4.heap.size w4 wx) ∨
  (∃ (kd : Nat) (t : List UInt8) (st : List (Nat × Nat)) (z : Nat) (T : ByteArray) (sv : Value), x = .int .i64 ((P + z : Nat) : Int) ∧ Sc.wordR m = .ok kd t st z ∧ (⟨t.toArray⟩ : ByteArray) = T ∧
    Bk wx w4.heap.size 60 #[.int .i64 kd, .string T, sv, .int .i64 P, .int .i64 L, .int .i64 CC] ∧ SetAt wx (w.heap.size + 1) sv st ∧ Below w4.heap.size w4 wx)
theorem SwR.no {w w4 wx : World} {m : List UInt8} {P : Nat} {L CC : Int} {a b c : Value} (hw : Sc.wordR m = .err 4) (hK : Bk wx w4.heap.size 60 #[a, b, c, .int .i64 P, .int .i64 L, .int .i64 CC]) (hB : Below w4.heap.size w4 wx) : SwR w w4 m P L CC (.int .i64 (-1)) wx := .inl ⟨rfl, hw, a, b, c, hK, hB⟩
theorem SwR.yes {w w4 wx : World} {m : List UInt8} {P : Nat} {L CC : Int} {x : Value} {kd : Nat} {t : List UInt8} {st : List (Nat × Nat)} {z : Nat} {T : ByteArray} {sv : Value} (hw : Sc.wordR m = .ok kd t st z) (hx : x = .int .i64 ((P + z : Nat) : Int)) (ht : (⟨t.toArray⟩ : ByteArray) = T)
    (hK : Bk wx w4.heap.size 60 #[.int .i64 kd, .string T, sv, .int .i64 P, .int .i64 L, .int .i64 CC]) (hS : SetAt wx (w.heap.size + 1) sv st) (hB : Below w4.heap.size w4 wx) : SwR w w4 m P L CC x wx := .inr ⟨kd, t, st, z, T, sv, hx, hw, ht, hK, hS, hB⟩
set_option maxHeartbeats 16000000 in
theorem RScan_good (s : ByteArray) (w : World) (hs : s.size ≤ 65536) (hG : Sc.Good s.data.toList) :
    Calls Tryd.prog 9 #[.string s] w (ToldR s w) := by
  have HG := Lib.hid hG
  obtain ⟨i0, hi, hz0, hz1, hz2⟩ := info_parts Tryd.infoRWord
  have CB := fun w' => refBad_any s w' (by omega)
  unfold Sc.Good at hG
  rw [hG] at CB
  replace CB := Lib.hid CB
  have h0 : ¬ 65536 < s.size := by omega
  have d0 : decide ((65536 : Int) < (s.size : Int)) = false := by rw [decide_eq_false_iff_not]; omega
  have HF0 : Hid (Far s 0 []) := Lib.hid ⟨Nat.zero_le _, Nat.le_refl _, by
    rw [Sc.SR.app_nil, List.drop_zero]
    unfold Sc.scanL
    rw [if_neg (by rw [← Lib.size_eq]; omega), if_neg (by rw [hG]; omega)], Sc.At.zero hG⟩
  clear hG
  go_enter Tryd.func9, Tryd.ntmps9
  go_wp2_with fail
  refine (CB.out _).mono ?_
  rintro e w1 ⟨rfl, b1⟩
  have HM : Hid (MemR s w (.slice none 0 0) [] [] w1) := Lib.hid ⟨(Bk.made w 26 #[.int .i64 0, .int .i64 0, .int .i64 0]).below b1 (by simp), rfl, World.ownsRow_nil _ _ _ _, fun i sv d h => by simp at h, ((Below.refl _ w).alloc (Nat.le_refl _) (.cells #[.int .i64 0, .int .i64 0, .int .i64 0] 26)).trans (b1.mono (by simp))⟩
  clear b1 CB
  go_wp2_with fail
  go_loopw [6, 7] (fun v a wr => RoundR s w v a wr) (fun _ a _ => s.size + 1 - (intOf a).toNat)
  case atStart => exact ⟨0, [], [], rfl, HF0.out, HM.out⟩
  case round =>
    obtain ⟨k, ds, svs, rfl, hF, hM⟩ := hrel
    have hk := hF.1
    have CG := fun w' => told2Gap_any s k w' (by omega) hk
    have hgl := Sc.gapL_le _ (s.data.toList.drop k) (Nat.le_refl _)
    rw [List.length_drop, ← Lib.size_eq] at hgl
    have hAt := hF.gap HG.out
    have hgi : gapI (s.data.toList.drop k) k = if (Sc.gapL (s.data.toList.drop k)).2 = true then ((k + (Sc.gapL (s.data.toList.drop k)).1 : Nat) : Int) else -1 - ((k + (Sc.gapL (s.data.toList.drop k)).1 : Nat) : Int) := rfl
    obtain ⟨P, hP⟩ : ∃ P, k + (Sc.gapL (s.data.toList.drop k)).1 = P := ⟨_, rfl⟩
    have hF1 := hF.fail
    have hF2 := hF.done
    have hF3 := fun e => hF.err (e := e)
    have hF4 := fun kd t st z => hF.step (kd := kd) (t := t) (st := st) (z := z) HG.out
    rw [hP] at hAt hF1 hF2 hF3 hF4 hgi
    obtain ⟨O, hO⟩ : ∃ O, (Sc.gapL (s.data.toList.drop k)).2 = O := ⟨_, rfl⟩
    rw [hO] at hF1 hF2 hF3 hF4 hgi
    replace hF1 := Lib.hid hF1
    replace hF2 := Lib.hid hF2
    replace hF3 := Lib.hid hF3
    replace hF4 := Lib.hid hF4
    have hPs : P ≤ s.size := by omega
    have hds := hF.2.1
    have HM1 := Lib.hid hM
    have hkP : k ≤ P := by omega
    have CP := fun w' => refPlace_any s P w' (by omega) hPs hAt.2.1
    have hpl := plc_le (s.data.toList.take P)
    rw [List.length_take, ← Lib.size_eq] at hpl
    obtain ⟨L, hL⟩ : ∃ L : Int, ((place (s.data.toList.take P)).1 : Int) = L := ⟨_, rfl⟩
    obtain ⟨CC, hC⟩ : ∃ C : Int, ((place (s.data.toList.take P)).2 : Int) = C := ⟨_, rfl⟩
    rw [hL, hC] at CP
    replace CP := Lib.hid CP
    have HL := Lib.hid hL
    have HC := Lib.hid hC
    clear hF hM hAt hP hO HM HF0 hgl hL hC hpl
    cases O with
    | false =>
      rw [if_neg (by simp)] at hgi
      obtain ⟨GI, hGI⟩ : ∃ G, gapI (s.data.toList.drop k) k = G := ⟨_, rfl⟩
      rw [hGI] at hgi CG
      replace CG := Lib.hid CG
      have e0 : decide (GI < 0) = true := by rw [decide_eq_true_iff]; omega
      have e1 : GI < 0 := by omega
      have e2 : IntKind.i64.wrap (-1 - GI) = (P : Int) := by rw [IntWalk.i64_in _ (by omega)]; omega
      clear hgi hGI
      go_wp2_with fail
      refine (CG.out _).mono ?_
      rintro e w' ⟨rfl, rfl⟩
      go_wp2_with fail
      refine (CP.out _).mono ?_
      rintro e w2 ⟨rfl, b2⟩
      have HM2 := Lib.hid (HM1.out.below b2)
      clear b2
      have K2 := Lib.hid HM2.out.1
      have c0 := K2.out.cell 0
      have c1 := K2.out.cell 1
      have c2 := K2.out.cell 2
      have f0 := K2.out.free 0
      have f1 := K2.out.free 1
      have f2 := K2.out.free 2
      simp at c0 c1 c2
      have G := Lib.hid (((K2.out.set 0 (.int .i64 P)).set 1 (.int .i64 L)).set 2 (.int .i64 CC))
      go_wp2_with fail
      refine bodyPost_ret (v := .tuple #[.slice none 0 0, .int .i64 4, .agg #[.int .i64 P, .int .i64 L, .int .i64 CC]]) ?_ rfl ?_
      · have y0 := G.out.cell 0
        have y1 := G.out.cell 1
        have y2 := G.out.cell 2
        clear c0 c1 c2 f0 f1 f2
        simp at y0 y1 y2
        simp [results, Tryd.results9, go_sem, y0, y1, y2]
      · refine .inl ⟨4, P, hF1.out trivial, hPs, by rw [HL.out, HC.out]; rfl, ?_⟩
        exact ((HM2.out.2.2.2.2.setCell (by simp) _).setCell (by simp) _).setCell (by simp) _
    | true =>
      rw [if_pos rfl] at hgi
      rw [hgi] at CG
      replace CG := Lib.hid CG
      clear hgi
      by_cases hend : P = s.size
      · have t0 : decide ((s.size : Int) ≤ (P : Int)) = true := by rw [decide_eq_true_iff]; omega
        have t1 : decide (s.size ≤ P) = true := by rw [decide_eq_true_iff]; omega
        have HD := Lib.hid (hF2.out rfl hend)
        go_wp2_with fail
        refine (CG.out _).mono ?_
        rintro e w' ⟨rfl, rfl⟩
        have K2 := Lib.hid HM1.out.1
        have c0 := K2.out.cell 0
        have c1 := K2.out.cell 1
        have c2 := K2.out.cell 2
        have f0 := K2.out.free 0
        have f1 := K2.out.free 1
        have f2 := K2.out.free 2
        simp at c0 c1 c2
        have G := Lib.hid (((K2.out.set 0 (.int .i64 0)).set 1 (.int .i64 0)).set 2 (.int .i64 0))
        obtain ⟨A, cap, hv, _⟩ := (Row.of_own HM1.out.2.2.1).form
        have HV := Lib.hid hv
        subst hv
        go_wp2_with fail
        refine bodyPost_ret (v := .tuple #[.slice A ds.length cap, .int .i64 0, .agg #[.int .i64 0, .int .i64 0, .int .i64 0]]) ?_ rfl ?_
        · have y0 := G.out.cell 0
          have y1 := G.out.cell 1
          have y2 := G.out.cell 2
          clear c0 c1 c2 f0 f1 f2
          simp at y0 y1 y2
          simp [results, Tryd.results9, go_sem, y0, y1, y2]
        · refine .inr ⟨ds, .slice A ds.length cap, HD.out, rfl, ⟨svs, HM1.out.2.1, ?_, fun i sv d k1 k2 => ?_⟩, ((HM1.out.2.2.2.2.setCell (by simp) _).setCell (by simp) _).setCell (by simp) _⟩
          · exact (((Row.of_own HM1.out.2.2.1).far (by simp) _).far (by simp) _).far (by simp) _
          · exact (((HM1.out.2.2.2.1 i sv d k1 k2).far (by simp) _).far (by simp) _).far (by simp) _
      · have t0 : decide ((s.size : Int) ≤ (P : Int)) = false := by rw [decide_eq_false_iff_not]; omega
        have t1 : decide (s.size ≤ P) = false := by rw [decide_eq_false_iff_not]; omega
        have hPl : P < s.size := by omega
        obtain ⟨m, hm⟩ : ∃ m, s.data.toList.drop P = m := ⟨_, rfl⟩
        rw [hm] at hF3 hF4
        have hml : m.length = s.size - P := by rw [← hm, List.length_drop, ← Lib.size_eq]
        have hmd : ∀ j, s.data.toList.getD (P + j) 0 = m.getD j 0 := fun j => by rw [← hm, Sc.getD_drop]
        have hix := fun wx => byte_at s P hPl _ rfl wx
        rw [show s.data.toList.getD P 0 = m.getD 0 0 from hmd 0] at hix
        have HML := Lib.hid hml
        have HMD := Lib.hid hmd
        have HMM := Lib.hid hm
        have hb255 := (m.getD 0 0).toNat_lt
        have hwd : Sc.wordR m = if Sc.letterB (m.getD 0 0) = true then Sc.runR 0 64 Sc.folB m else if Sc.digitB (m.getD 0 0) = true then Sc.runR 1 9 Sc.digitB m else if m.getD 0 0 = 39 then Sc.textR m else if m.getD 0 0 = 91 then Sc.setR m else Sc.markR m := rfl
        obtain ⟨c, hc⟩ : ∃ c : Int, ((m.getD 0 0).toNat : Int) = c := ⟨_, rfl⟩
        have hlz := letZ_of (m.getD 0 0)
        have hdz := digZ_of (m.getD 0 0)
        rw [hc] at hix hlz hdz
        have CL0 := fun w' => refLetter_any c w'
        have CD0 := fun w' => refDigit_any c w'
        rw [hlz] at CL0
        rw [hdz] at CD0
        clear hm hml hmd hlz hdz
        obtain ⟨LB, hlet⟩ : ∃ b, Sc.letterB (m.getD 0 0) = b := ⟨_, rfl⟩
        obtain ⟨DB, hdig⟩ : ∃ b, Sc.digitB (m.getD 0 0) = b := ⟨_, rfl⟩
        rw [hlet] at CL0 hwd
        rw [hdig] at CD0 hwd
        have HLET := Lib.hid hlet
        have HDIG := Lib.hid hdig
        have HWD := Lib.hid hwd
        have HCC := Lib.hid hc
        have HB255 := Lib.hid hb255
        replace CL0 := Lib.hid CL0
        replace CD0 := Lib.hid CD0
        clear hlet hdig hwd hc hb255
        go_wp2_with fail
        refine (CG.out _).mono ?_
        rintro e w' ⟨rfl, rfl⟩
        go_wp2_with fail
        refine (CP.out _).mono ?_
        rintro e w4 ⟨rfl, b4⟩
        have HM4 := Lib.hid (HM1.out.below b4)
        have hw4 := HM4.out.1.lt
        have hsz4 := HM4.out.2.2.2.2.size
        clear b4
        go_upto_block 2 with fail
        go_cut [8] (fun x wx => SwR w w4 m P L CC x wx)
        case first =>
          go_wp2_with fail
          refine (CL0.out _).mono ?_
          rintro e w' ⟨rfl, rfl⟩
          cases LB with
          | true =>
            have hwd := HWD.out
            have hlet := HLET.out
            have hdig := HDIG.out
            have hc := HCC.out
            have hb255 := HB255.out
            rw [if_pos rfl] at hwd
            obtain ⟨TW, hTW⟩ : ∃ n, (m.takeWhile Sc.folB).length = n := ⟨_, rfl⟩
            have hle := tw_le (p := Sc.folB) m
            rw [hTW, HML.out] at hle
            have hlt := fun n => tw_lt (p := Sc.folB) m n
            rw [hTW] at hlt
            have HLT := Lib.hid hlt
            have hrun : Sc.wordR m = if 64 < TW then .err 3 else .ok 0 (m.takeWhile Sc.folB) [] TW := by rw [hwd, ← hTW]; rfl
            have HRUN := Lib.hid hrun
            have hTd : s.extract P (P + TW) = ⟨(m.takeWhile Sc.folB).toArray⟩ := by
              have e : ∀ b : ByteArray, b = ⟨b.data.toList.toArray⟩ := fun b => by cases b; simp
              rw [e (s.extract P (P + TW)), Lib.extract_data, Nat.add_sub_cancel_left, HMM.out, ← hTW, tw_take]
            obtain ⟨T, hT⟩ : ∃ T, s.extract P (P + TW) = T := ⟨_, rfl⟩
            rw [hT] at hTd
            have HT := Lib.hid hTd
            clear hwd hTW hlt hrun hTd hb255 hc hlet hdig
            go_upto_block 3 with fail
            go_cut [8] (fun x wx => x = .int .i64 ((P + TW : Nat) : Int) ∧ wx = (w4.alloc (.cells #[.int .i64 0, .string ⟨#[]⟩, .slice none 0 0, .int .i64 P, .int .i64 L, .int .i64 CC] 60)))
            case first =>
              as_aux_lemma =>
                go_wp2_with fail
                go_loopw [8] (fun a wx => ∃ n : Nat, n ≤ TW ∧ a = .int .i64 ((P + n : Nat) : Int) ∧ wx = (w4.alloc (.cells #[.int .i64 0, .string ⟨#[]⟩, .slice none 0 0, .int .i64 P, .int .i64 L, .int .i64 CC] 60))) (fun a _ => s.size - (intOf a).toNat)
                case atStart => exact ⟨0, Nat.zero_le _, rfl, rfl⟩
                case round =>
                  obtain ⟨n, hn, rfl, rfl⟩ := hrel
                  have hml := HML.out
                  obtain ⟨I, hI⟩ : ∃ I : Int, ((P + n : Nat) : Int) = I := ⟨_, rfl⟩
                  by_cases hin : P + n < s.size
                  · have v0 : decide (I < (s.size : Int)) = true := by rw [decide_eq_true_iff]; omega
                    have v1 : I < (s.size : Int) := by omega
                    have ii0 : 0 ≤ I := by omega
                    have hix2 := fun wx => byte_at s (P + n) hin _ rfl wx
                    rw [HMD.out n, hI] at hix2
                    have hb2 := (m.getD n 0).toNat_lt
                    have hfol := HLT.out n hn (by omega)
                    obtain ⟨c2, hc2⟩ : ∃ c : Int, ((m.getD n 0).toNat : Int) = c := ⟨_, rfl⟩
                    have hlz := letZ_of (m.getD n 0)
                    have hdz := digZ_of (m.getD n 0)
                    rw [hc2] at hix2 hlz hdz
                    have CL2 := fun w' => refLetter_any c2 w'
                    have CD2 := fun w' => refDigit_any c2 w'
                    rw [hlz] at CL2
                    rw [hdz] at CD2
                    have hfe : Sc.folB (m.getD n 0) = (Sc.letterB (m.getD n 0) || Sc.digitB (m.getD n 0) || decide ((m.getD n 0).toNat = 95)) := rfl
                    have HI := Lib.hid hI
                    have w3 : IntKind.i64.wrap (I + 1) = I + 1 := IntWalk.i64_in _ (by omega)
                    by_cases hlt2 : n < TW
                    · have hft := hfol.2 hlt2
                      cases hl2 : Sc.letterB (m.getD n 0) with
                      | true =>
                        rw [hl2] at CL2
                        replace CL2 := Lib.hid CL2
                        rw [hI]
                        clear hfol hc2 hlz hdz CD2 hfe hft hl2 hI hb2
                        go_wp2_with fail
                        refine (CL2.out _).mono ?_
                        rintro e w' ⟨rfl, rfl⟩
                        go_wp2_with fail
                        refine ⟨⟨n + 1, by omega, ?_, by first | trivial | rfl⟩, by have := HI.out; simp [intOf]; omega⟩
                        have := HI.out
                        apply congrArg (Value.int IntKind.i64)
                        omega
                      | false =>
                        rw [hl2] at CL2
                        replace CL2 := Lib.hid CL2
                        cases hd2 : Sc.digitB (m.getD n 0) with
                        | true =>
                          rw [hd2] at CD2
                          replace CD2 := Lib.hid CD2
                          rw [hI]
                          clear hfol hc2 hlz hdz hfe hft hl2 hd2 hI hb2
                          go_wp2_with fail
                          refine (CL2.out _).mono ?_
                          rintro e w' ⟨rfl, rfl⟩
                          go_wp2_with fail
                          refine (CD2.out _).mono ?_
                          rintro e w' ⟨rfl, rfl⟩
                          go_wp2_with fail
                          refine ⟨⟨n + 1, by omega, ?_, by first | trivial | rfl⟩, by have := HI.out; simp [intOf]; omega⟩
                          have := HI.out
                          apply congrArg (Value.int IntKind.i64)
                          omega
                        | false =>
                          rw [hd2] at CD2
                          replace CD2 := Lib.hid CD2
                          rw [hfe, hl2, hd2] at hft
                          have h95 : c2 = 95 := by
                            simp only [Bool.false_or, decide_eq_true_eq] at hft
                            omega
                          subst h95
                          rw [hI]
                          clear hfol hc2 hlz hdz hfe hft hl2 hd2 hI hb2
                          go_wp2_with fail
                          refine (CL2.out _).mono ?_
                          rintro e w' ⟨rfl, rfl⟩
                          go_wp2_with fail
                          refine (CD2.out _).mono ?_
                          rintro e w' ⟨rfl, rfl⟩
                          go_wp2_with fail
                          refine ⟨⟨n + 1, by omega, ?_, by first | trivial | rfl⟩, by have := HI.out; simp [intOf]; omega⟩
                          have := HI.out
                          apply congrArg (Value.int IntKind.i64)
                          omega
                    · have hff : Sc.folB (m.getD n 0) = false := by
                        cases hx : Sc.folB (m.getD n 0) with
                        | false => rfl
                        | true => exact absurd (hfol.1 hx) hlt2
                      rw [hfe] at hff
                      simp only [Bool.or_eq_false_iff, decide_eq_false_iff_not] at hff
                      obtain ⟨⟨g1, g2⟩, g3⟩ := hff
                      rw [g1] at CL2
                      rw [g2] at CD2
                      replace CL2 := Lib.hid CL2
                      replace CD2 := Lib.hid CD2
                      have x1 : (c2 == 95) = false := by rw [beq_eq_false_iff_ne]; omega
                      have hnT : TW = n := by omega
                      subst hnT
                      rw [hI]
                      clear hfol hc2 hlz hdz hfe hI hb2 g1 g2 g3
                      go_wp2_with fail
                      refine (CL2.out _).mono ?_
                      rintro e w' ⟨rfl, rfl⟩
                      go_wp2_with fail
                      refine (CD2.out _).mono ?_
                      rintro e w' ⟨rfl, rfl⟩
                      go_wp2_with fail
                      go_meet
                      exact ⟨by rw [HI.out], rfl⟩
                  · have v0 : decide (I < (s.size : Int)) = false := by rw [decide_eq_false_iff_not]; omega
                    have v1 : ¬ I < (s.size : Int) := by omega
                    have hnT : TW = n := by omega
                    subst hnT
                    have HI := Lib.hid hI
                    rw [hI]
                    clear hI
                    go_wp2_with fail
                    go_meet
                    exact ⟨by rw [HI.out], rfl⟩
            case rest =>
              obtain ⟨rfl, rfl⟩ := hcut
              obtain ⟨I, hI⟩ : ∃ I : Int, ((P + TW : Nat) : Int) = I := ⟨_, rfl⟩
              have HI := Lib.hid hI
              have hml := HML.out
              rw [hI]
              clear hI
              have j1 : (P : Int) ≤ I := by have := HI.out; omega
              have j2 : I ≤ (s.size : Int) := by have := HI.out; omega
              have j3 : I.toNat = P + TW := by have := HI.out; omega
              have j4 : s.extract P I.toNat = T := by rw [j3]; exact hT
              have j5 : IntKind.i64.wrap (I - (P : Int)) = (TW : Int) := by have := HI.out; rw [IntWalk.i64_in _ (by omega)]; omega
              have j8 : I - (P : Int) = (TW : Int) := by have := HI.out; omega
              by_cases hbig : 64 < TW
              · have x5 : decide ((64 : Int) < (TW : Int)) = true := by rw [decide_eq_true_iff]; omega
                have x6 : decide (64 < TW) = true := by rw [decide_eq_true_iff]; omega
                have hw := HRUN.out
                rw [if_pos hbig] at hw
                have HE := Lib.hid (hF3.out 3 (by first | trivial | rfl) hPl hw)
                clear hw
                have K5 := HM4.out.1
                have c0 := K5.cell 0
                have c1 := K5.cell 1
                have c2 := K5.cell 2
                have f0 := K5.free 0
                have f1 := K5.free 1
                have f2 := K5.free 2
                simp at c0 c1 c2
                have G := Lib.hid ((((K5.set 0 (.int .i64 P)).set 1 (.int .i64 L)).set 2 (.int .i64 CC)).alloc (.cells #[.int .i64 0, .string T, .slice none 0 0, .int .i64 P, .int .i64 L, .int .i64 CC] 60))
                clear K5
                go_wp2_with fail
                go_region
                go_wp2_with fail
                refine bodyPost_ret (v := .tuple #[.slice none 0 0, .int .i64 3, .agg #[.int .i64 P, .int .i64 L, .int .i64 CC]]) ?_ rfl ?_
                · have y0 := G.out.cell 0
                  have y1 := G.out.cell 1
                  have y2 := G.out.cell 2
                  clear c0 c1 c2 f0 f1 f2
                  simp at y0 y1 y2
                  simp [results, Tryd.results9, go_sem, y0, y1, y2]
                · refine .inl ⟨3, P, HE.out, hPs, by rw [HL.out, HC.out]; rfl, ?_⟩
                  have bz : Below w.heap.size w ((((w4.setCell ⟨w.heap.size, 0, none⟩ (.int .i64 P)).setCell ⟨w.heap.size, 1, none⟩ (.int .i64 L)).setCell ⟨w.heap.size, 2, none⟩ (.int .i64 CC)).alloc (.cells #[.int .i64 0, .string T, .slice none 0 0, .int .i64 P, .int .i64 L, .int .i64 CC] 60)) := ((((HM4.out.2.2.2.2.setCell (by simp) _).setCell (by simp) _).setCell (by simp) _)).alloc (by simp [World.setCell]; omega) _
                  exact ⟨bz.os, bz.tape, bz.output, bz.size, bz.block⟩
              · have x5 : decide ((64 : Int) < (TW : Int)) = false := by rw [decide_eq_false_iff_not]; omega
                have x6 : decide (64 < TW) = false := by rw [decide_eq_false_iff_not]; omega
                have hw := HRUN.out
                rw [if_neg hbig] at hw
                have HSW := Lib.hid (SwR.yes (w := w) (x := .int .i64 I) hw (by rw [HI.out]) HT.out.symm (Bk.made w4 60 #[.int .i64 0, .string T, .slice none 0 0, .int .i64 P, .int .i64 L, .int .i64 CC]) (SetAt.none_ (w4.alloc (.cells #[.int .i64 0, .string T, .slice none 0 0, .int .i64 P, .int .i64 L, .int .i64 CC] 60)) (w.heap.size + 1)) ((Below.refl _ w4).alloc (Nat.le_refl _) (.cells #[.int .i64 0, .string T, .slice none 0 0, .int .i64 P, .int .i64 L, .int .i64 CC] 60)))
                clear hw
                go_wp2_with fail
                go_meet
                exact HSW.out
          | false =>
            go_wp2_with fail
            refine (CD0.out _).mono ?_
            rintro e w' ⟨rfl, rfl⟩
            cases DB with
            | true =>
              have hwd := HWD.out
              have hlet := HLET.out
              have hdig := HDIG.out
              have hc := HCC.out
              have hb255 := HB255.out
              rw [if_neg (by simp), if_pos rfl] at hwd
              obtain ⟨TW, hTW⟩ : ∃ n, (m.takeWhile Sc.digitB).length = n := ⟨_, rfl⟩
              have hle := tw_le (p := Sc.digitB) m
              rw [hTW, HML.out] at hle
              have hlt := fun n => tw_lt (p := Sc.digitB) m n
              rw [hTW] at hlt
              have HLT := Lib.hid hlt
              have hrun : Sc.wordR m = if 9 < TW then .err 3 else .ok 1 (m.takeWhile Sc.digitB) [] TW := by rw [hwd, ← hTW]; rfl
              have HRUN := Lib.hid hrun
              have hTd : s.extract P (P + TW) = ⟨(m.takeWhile Sc.digitB).toArray⟩ := by
                have e : ∀ b : ByteArray, b = ⟨b.data.toList.toArray⟩ := fun b => by cases b; simp
                rw [e (s.extract P (P + TW)), Lib.extract_data, Nat.add_sub_cancel_left, HMM.out, ← hTW, tw_take]
              obtain ⟨T, hT⟩ : ∃ T, s.extract P (P + TW) = T := ⟨_, rfl⟩
              rw [hT] at hTd
              have HT := Lib.hid hTd
              clear hwd hTW hlt hrun hTd hb255 hc hlet hdig
              go_upto_block 5 with fail
              go_cut [8] (fun x wx => x = .int .i64 ((P + TW : Nat) : Int) ∧ wx = (w4.alloc (.cells #[.int .i64 1, .string ⟨#[]⟩, .slice none 0 0, .int .i64 P, .int .i64 L, .int .i64 CC] 60)))
              case first =>
                as_aux_lemma =>
                  go_wp2_with fail
                  go_loopw [8] (fun a wx => ∃ n : Nat, n ≤ TW ∧ a = .int .i64 ((P + n : Nat) : Int) ∧ wx = (w4.alloc (.cells #[.int .i64 1, .string ⟨#[]⟩, .slice none 0 0, .int .i64 P, .int .i64 L, .int .i64 CC] 60))) (fun a _ => s.size - (intOf a).toNat)
                  case atStart => exact ⟨0, Nat.zero_le _, rfl, rfl⟩
                  case round =>
                    obtain ⟨n, hn, rfl, rfl⟩ := hrel
                    have hml := HML.out
                    obtain ⟨I, hI⟩ : ∃ I : Int, ((P + n : Nat) : Int) = I := ⟨_, rfl⟩
                    by_cases hin : P + n < s.size
                    · have v0 : decide (I < (s.size : Int)) = true := by rw [decide_eq_true_iff]; omega
                      have v1 : I < (s.size : Int) := by omega
                      have ii0 : 0 ≤ I := by omega
                      have hix2 := fun wx => byte_at s (P + n) hin _ rfl wx
                      rw [HMD.out n, hI] at hix2
                      have hb2 := (m.getD n 0).toNat_lt
                      have hfol := HLT.out n hn (by omega)
                      obtain ⟨c2, hc2⟩ : ∃ c : Int, ((m.getD n 0).toNat : Int) = c := ⟨_, rfl⟩
                      have hdz := digZ_of (m.getD n 0)
                      rw [hc2] at hix2 hdz
                      have CD2 := fun w' => refDigit_any c2 w'
                      rw [hdz] at CD2
                      have HI := Lib.hid hI
                      have w3 : IntKind.i64.wrap (I + 1) = I + 1 := IntWalk.i64_in _ (by omega)
                      by_cases hlt2 : n < TW
                      · rw [hfol.2 hlt2] at CD2
                        replace CD2 := Lib.hid CD2
                        rw [hI]
                        clear hfol hc2 hdz hI hb2
                        go_wp2_with fail
                        refine (CD2.out _).mono ?_
                        rintro e w' ⟨rfl, rfl⟩
                        go_wp2_with fail
                        refine ⟨⟨n + 1, by omega, ?_, by first | trivial | rfl⟩, by have := HI.out; simp [intOf]; omega⟩
                        have := HI.out
                        apply congrArg (Value.int IntKind.i64)
                        omega
                      · have hff : Sc.digitB (m.getD n 0) = false := by
                          cases hx : Sc.digitB (m.getD n 0) with
                          | false => rfl
                          | true => exact absurd (hfol.1 hx) hlt2
                        rw [hff] at CD2
                        replace CD2 := Lib.hid CD2
                        have hnT : TW = n := by omega
                        subst hnT
                        rw [hI]
                        clear hfol hc2 hdz hI hb2 hff
                        go_wp2_with fail
                        refine (CD2.out _).mono ?_
                        rintro e w' ⟨rfl, rfl⟩
                        go_wp2_with fail
                        go_meet
                        exact ⟨by rw [HI.out], rfl⟩
                    · have v0 : decide (I < (s.size : Int)) = false := by rw [decide_eq_false_iff_not]; omega
                      have v1 : ¬ I < (s.size : Int) := by omega
                      have hnT : TW = n := by omega
                      subst hnT
                      have HI := Lib.hid hI
                      rw [hI]
                      clear hI
                      go_wp2_with fail
                      go_meet
                      exact ⟨by rw [HI.out], rfl⟩
              case rest =>
                obtain ⟨rfl, rfl⟩ := hcut
                obtain ⟨I, hI⟩ : ∃ I : Int, ((P + TW : Nat) : Int) = I := ⟨_, rfl⟩
                have HI := Lib.hid hI
                have hml := HML.out
                rw [hI]
                clear hI
                have j1 : (P : Int) ≤ I := by have := HI.out; omega
                have j2 : I ≤ (s.size : Int) := by have := HI.out; omega
                have j3 : I.toNat = P + TW := by have := HI.out; omega
                have j4 : s.extract P I.toNat = T := by rw [j3]; exact hT
                have j5 : IntKind.i64.wrap (I - (P : Int)) = (TW : Int) := by have := HI.out; rw [IntWalk.i64_in _ (by omega)]; omega
                have j8 : I - (P : Int) = (TW : Int) := by have := HI.out; omega
                by_cases hbig : 9 < TW
                · have x5 : decide ((9 : Int) < (TW : Int)) = true := by rw [decide_eq_true_iff]; omega
                  have x6 : decide (9 < TW) = true := by rw [decide_eq_true_iff]; omega
                  have hw := HRUN.out
                  rw [if_pos hbig] at hw
                  have HE := Lib.hid (hF3.out 3 (by first | trivial | rfl) hPl hw)
                  clear hw
                  have K5 := HM4.out.1
                  have c0 := K5.cell 0
                  have c1 := K5.cell 1
                  have c2 := K5.cell 2
                  have f0 := K5.free 0
                  have f1 := K5.free 1
                  have f2 := K5.free 2
                  simp at c0 c1 c2
                  have G := Lib.hid ((((K5.set 0 (.int .i64 P)).set 1 (.int .i64 L)).set 2 (.int .i64 CC)).alloc (.cells #[.int .i64 1, .string T, .slice none 0 0, .int .i64 P, .int .i64 L, .int .i64 CC] 60))
                  clear K5
                  go_wp2_with fail
                  go_region
                  go_wp2_with fail
                  refine bodyPost_ret (v := .tuple #[.slice none 0 0, .int .i64 3, .agg #[.int .i64 P, .int .i64 L, .int .i64 CC]]) ?_ rfl ?_
                  · have y0 := G.out.cell 0
                    have y1 := G.out.cell 1
                    have y2 := G.out.cell 2
                    clear c0 c1 c2 f0 f1 f2
                    simp at y0 y1 y2
                    simp [results, Tryd.results9, go_sem, y0, y1, y2]
                  · refine .inl ⟨3, P, HE.out, hPs, by rw [HL.out, HC.out]; rfl, ?_⟩
                    have bz : Below w.heap.size w ((((w4.setCell ⟨w.heap.size, 0, none⟩ (.int .i64 P)).setCell ⟨w.heap.size, 1, none⟩ (.int .i64 L)).setCell ⟨w.heap.size, 2, none⟩ (.int .i64 CC)).alloc (.cells #[.int .i64 1, .string T, .slice none 0 0, .int .i64 P, .int .i64 L, .int .i64 CC] 60)) := ((((HM4.out.2.2.2.2.setCell (by simp) _).setCell (by simp) _).setCell (by simp) _)).alloc (by simp [World.setCell]; omega) _
                    exact ⟨bz.os, bz.tape, bz.output, bz.size, bz.block⟩
                · have x5 : decide ((9 : Int) < (TW : Int)) = false := by rw [decide_eq_false_iff_not]; omega
                  have x6 : decide (9 < TW) = false := by rw [decide_eq_false_iff_not]; omega
                  have hw := HRUN.out
                  rw [if_neg hbig] at hw
                  have HSW := Lib.hid (SwR.yes (w := w) (x := .int .i64 I) hw (by rw [HI.out]) HT.out.symm (Bk.made w4 60 #[.int .i64 1, .string T, .slice none 0 0, .int .i64 P, .int .i64 L, .int .i64 CC]) (SetAt.none_ (w4.alloc (.cells #[.int .i64 1, .string T, .slice none 0 0, .int .i64 P, .int .i64 L, .int .i64 CC] 60)) (w.heap.size + 1)) ((Below.refl _ w4).alloc (Nat.le_refl _) (.cells #[.int .i64 1, .string T, .slice none 0 0, .int .i64 P, .int .i64 L, .int .i64 CC] 60)))
                  clear hw
                  go_wp2_with fail
                  go_meet
                  exact HSW.out
            | false =>
              have hwd := HWD.out
              have hlet := HLET.out
              have hdig := HDIG.out
              have hc := HCC.out
              have hb255 := HB255.out
              rw [if_neg (by simp), if_neg (by simp)] at hwd
              by_cases h39 : m.getD 0 0 = 39
              · rw [if_pos h39] at hwd
                as_aux_lemma =>
                  have hcc : c = 39 := by rw [← hc, h39]; rfl
                  subst hcc
                  have CT := fun w' => told2Text_any s P w' (by omega) hPl
                  rw [HMM.out] at CT
                  cases hr : Sc.textR m with
                  | err e4 =>
                    rw [hr] at hwd CT
                    have he4 : e4 = 4 := by
                      unfold Sc.textR at hr
                      split at hr
                      · injection hr with hr; exact hr.symm
                      split at hr
                      · cases hr
                      · injection hr with hr; exact hr.symm
                    subst he4
                    unfold textT at CT
                    dsimp only at CT
                    replace CT := Lib.hid CT
                    have HWD2 := Lib.hid hwd
                    clear hwd hr hb255 hc hlet hdig h39
                    go_wp2_with fail
                    refine (CT.out _).mono ?_
                    rintro e w5 ⟨rfl, b5⟩
                    have K6 := Lib.hid ((Bk.made w4 60 #[.int .i64 2, .string ⟨#[]⟩, .slice none 0 0, .int .i64 P, .int .i64 L, .int .i64 CC]).below b5 (by simp))
                    have r0 := K6.out.cell 0
                    have r1 := K6.out.cell 1
                    have r2 := K6.out.cell 2
                    have r3 := K6.out.cell 3
                    have r4 := K6.out.cell 4
                    have r5 := K6.out.cell 5
                    have rf0 := K6.out.free 0
                    have rf1 := K6.out.free 1
                    have rf2 := K6.out.free 2
                    simp at r0 r1 r2 r3 r4 r5
                    have HSW := Lib.hid (SwR.no (w := w) HWD2.out (K6.out.set 1 (.string ⟨#[]⟩)) ((((Below.refl _ w4).alloc (Nat.le_refl _) (.cells #[.int .i64 2, .string ⟨#[]⟩, .slice none 0 0, .int .i64 P, .int .i64 L, .int .i64 CC] 60)).trans (b5.mono (by simp))).setCell (by simp) _))
                    clear b5
                    go_wp2_with fail
                    go_meet
                    exact HSW.out
                  | ok kd t st z =>
                    rw [hr] at hwd CT
                    obtain ⟨_, _, _, _, h2, _⟩ := Sc.wordR_is hwd
                    have hkd : kd = 2 := by
                      unfold Sc.textR at hr
                      split at hr
                      · cases hr
                      split at hr
                      · injection hr with hr _ _ _; exact hr.symm
                      · cases hr
                    subst hkd
                    have hst := (h2 rfl).1
                    subst hst
                    clear h2
                    obtain ⟨T, hT⟩ : ∃ T : ByteArray, (⟨t.toArray⟩ : ByteArray) = T := ⟨_, rfl⟩
                    have HT := Lib.hid hT
                    have hz := Sc.wordR_ok hwd
                    rw [HML.out] at hz
                    obtain ⟨I, hI⟩ : ∃ I : Int, ((P + z : Nat) : Int) = I := ⟨_, rfl⟩
                    have HI := Lib.hid hI
                    have HWD2 := Lib.hid hwd
                    unfold textT at CT
                    dsimp only at CT
                    rw [hI, hT] at CT
                    replace CT := Lib.hid CT
                    clear hwd hr hb255 hc hlet hdig h39 hI hT hz
                    go_wp2_with fail
                    refine (CT.out _).mono ?_
                    rintro e w5 ⟨rfl, b5⟩
                    have K6 := Lib.hid ((Bk.made w4 60 #[.int .i64 2, .string ⟨#[]⟩, .slice none 0 0, .int .i64 P, .int .i64 L, .int .i64 CC]).below b5 (by simp))
                    have r0 := K6.out.cell 0
                    have r1 := K6.out.cell 1
                    have r2 := K6.out.cell 2
                    have r3 := K6.out.cell 3
                    have r4 := K6.out.cell 4
                    have r5 := K6.out.cell 5
                    have rf0 := K6.out.free 0
                    have rf1 := K6.out.free 1
                    have rf2 := K6.out.free 2
                    simp at r0 r1 r2 r3 r4 r5
                    have HSW := Lib.hid (SwR.yes (w := w) (x := .int .i64 I) HWD2.out (by rw [HI.out]) HT.out (K6.out.set 1 (.string T)) (SetAt.none_ (w5.setCell ⟨w4.heap.size, 1, none⟩ (.string T)) (w.heap.size + 1)) ((((Below.refl _ w4).alloc (Nat.le_refl _) (.cells #[.int .i64 2, .string ⟨#[]⟩, .slice none 0 0, .int .i64 P, .int .i64 L, .int .i64 CC] 60)).trans (b5.mono (by simp))).setCell (by simp) _))
                    clear b5
                    go_wp2_with fail
                    go_meet
                    exact HSW.out
              · rw [if_neg h39] at hwd
                by_cases h91 : m.getD 0 0 = 91
                · rw [if_pos h91] at hwd
                  as_aux_lemma =>
                    have hcc : c = 91 := by rw [← hc, h91]; rfl
                    subst hcc
                    have CT := fun w' => told2Set_any s P w' (by omega) hPl
                    rw [HMM.out] at CT
                    cases hr : Sc.setR m with
                    | err e4 =>
                      rw [hr] at hwd CT
                      have he4 : e4 = 4 := by
                        unfold Sc.setR at hr
                        split at hr
                        · injection hr with hr; exact hr.symm
                        split at hr
                        · cases hr
                        · injection hr with hr; exact hr.symm
                      subst he4
                      unfold TellsSet setT at CT
                      dsimp only at CT
                      replace CT := Lib.hid CT
                      have HWD2 := Lib.hid hwd
                      clear hwd hr hb255 hc hlet hdig h39 h91
                      go_wp2_with fail
                      refine (CT.out _).mono ?_
                      rintro e w5 ⟨sv, rfl, _, b5⟩
                      have K6 := Lib.hid ((Bk.made w4 60 #[.int .i64 3, .string ⟨#[]⟩, .slice none 0 0, .int .i64 P, .int .i64 L, .int .i64 CC]).below b5 (by simp))
                      have r0 := K6.out.cell 0
                      have r1 := K6.out.cell 1
                      have r2 := K6.out.cell 2
                      have r3 := K6.out.cell 3
                      have r4 := K6.out.cell 4
                      have r5 := K6.out.cell 5
                      have rf0 := K6.out.free 0
                      have rf1 := K6.out.free 1
                      have rf2 := K6.out.free 2
                      simp at r0 r1 r2 r3 r4 r5
                      have HSW := Lib.hid (SwR.no (w := w) HWD2.out (K6.out.set 2 (.slice none 0 0)) ((((Below.refl _ w4).alloc (Nat.le_refl _) (.cells #[.int .i64 3, .string ⟨#[]⟩, .slice none 0 0, .int .i64 P, .int .i64 L, .int .i64 CC] 60)).trans (b5.mono (by simp))).setCell (by simp) _))
                      clear b5
                      go_wp2_with fail
                      go_meet
                      exact HSW.out
                    | ok kd t st z =>
                      rw [hr] at hwd CT
                      obtain ⟨_, _, _, _, _, h2⟩ := Sc.wordR_is hwd
                      have hkd : kd = 3 := by
                        unfold Sc.setR at hr
                        split at hr
                        · cases hr
                        split at hr
                        · injection hr with hr _ _ _; exact hr.symm
                        · cases hr
                      subst hkd
                      have hst := (h2 rfl).1
                      subst hst
                      clear h2
                      have hz := Sc.wordR_ok hwd
                      rw [HML.out] at hz
                      obtain ⟨I, hI⟩ : ∃ I : Int, ((P + z : Nat) : Int) = I := ⟨_, rfl⟩
                      have HI := Lib.hid hI
                      have HWD2 := Lib.hid hwd
                      unfold TellsSet setT wrSet at CT
                      dsimp only at CT
                      rw [hI] at CT
                      replace CT := Lib.hid CT
                      clear hwd hr hb255 hc hlet hdig h39 h91 hI hz
                      go_wp2_with fail
                      refine (CT.out _).mono ?_
                      rintro e w5 ⟨sv, rfl, hsv, b5⟩
                      obtain ⟨A, cap, rfl, _⟩ := Row.form hsv
                      have HSV := Lib.hid hsv
                      have K6 := Lib.hid ((Bk.made w4 60 #[.int .i64 3, .string ⟨#[]⟩, .slice none 0 0, .int .i64 P, .int .i64 L, .int .i64 CC]).below b5 (by simp))
                      have r0 := K6.out.cell 0
                      have r1 := K6.out.cell 1
                      have r2 := K6.out.cell 2
                      have r3 := K6.out.cell 3
                      have r4 := K6.out.cell 4
                      have r5 := K6.out.cell 5
                      have rf0 := K6.out.free 0
                      have rf1 := K6.out.free 1
                      have rf2 := K6.out.free 2
                      simp at r0 r1 r2 r3 r4 r5
                      have HSW := Lib.hid (SwR.yes (w := w) (x := .int .i64 I) HWD2.out (by rw [HI.out]) rfl (K6.out.set 2 (.slice A st.length cap)) (show SetAt (w5.setCell ⟨w4.heap.size, 2, none⟩ (.slice A st.length cap)) (w.heap.size + 1) (.slice A st.length cap) st from Row.mono (B' := w.heap.size + 1) (Row.far HSV.out (a := ⟨w4.heap.size, 2, none⟩) (by simp) _) (by simp; omega)) ((((Below.refl _ w4).alloc (Nat.le_refl _) (.cells #[.int .i64 3, .string ⟨#[]⟩, .slice none 0 0, .int .i64 P, .int .i64 L, .int .i64 CC] 60)).trans (b5.mono (by simp))).setCell (by simp) _))
                      clear b5 hsv
                      go_wp2_with fail
                      go_meet
                      exact HSW.out
                · rw [if_neg h91] at hwd
                  as_aux_lemma =>
                    have m39 := ne_byte (b := m.getD 0 0) (n := 39) (by decide) h39
                    have m91 := ne_byte (b := m.getD 0 0) (n := 91) (by decide) h91
                    rw [hc] at m39 m91
                    have y1 : (c == 39) = false := by rw [beq_eq_false_iff_ne]; exact m39
                    have y2 : (c == 91) = false := by rw [beq_eq_false_iff_ne]; exact m91
                    have CB1 := fun w' => begins_any s ⟨#[61, 62]⟩ P w' hPs (by decide) (by omega)
                    have CB2 := fun w' => begins_any s ⟨#[46, 46]⟩ P w' hPs (by decide) (by omega)
                    rw [HMM.out, show (⟨#[61, 62]⟩ : ByteArray).data.toList = [61, 62] from rfl] at CB1
                    rw [HMM.out, show (⟨#[46, 46]⟩ : ByteArray).data.toList = [46, 46] from rfl] at CB2
                    unfold Sc.markR at hwd
                    cases hq1 : Lib.hasPrefix m [61, 62] with
                    | true =>
                      rw [hq1] at CB1
                      replace CB1 := Lib.hid CB1
                      rw [hq1, if_pos rfl] at hwd
                      have hz := Sc.wordR_ok hwd
                      rw [HML.out] at hz
                      have hTd : s.extract P (P + 2) = ⟨(m.take 2).toArray⟩ := by
                        have e : ∀ b : ByteArray, b = ⟨b.data.toList.toArray⟩ := fun b => by cases b; simp
                        rw [e (s.extract P (P + 2)), Lib.extract_data, Nat.add_sub_cancel_left, HMM.out]
                      obtain ⟨T, hT⟩ : ∃ T, s.extract P (P + 2) = T := ⟨_, rfl⟩
                      rw [hT] at hTd
                      obtain ⟨I, hI⟩ : ∃ I : Int, ((P + 2 : Nat) : Int) = I := ⟨_, rfl⟩
                      have j0 : IntKind.i64.wrap ((P : Int) + 2) = I := by rw [IntWalk.i64_in _ (by omega)]; omega
                      have j1 : (P : Int) ≤ I := by omega
                      have j2 : I ≤ (s.size : Int) := by omega
                      have j3 : I.toNat = P + 2 := by omega
                      have j4 : s.extract P I.toNat = T := by rw [j3]; exact hT
                      have j8 : (P : Int) + 2 = I := by omega
                      have HSW := Lib.hid (SwR.yes (w := w) (x := .int .i64 I) hwd (by rw [hI]) hTd.symm (Bk.made w4 60 #[.int .i64 4, .string T, .slice none 0 0, .int .i64 P, .int .i64 L, .int .i64 CC]) (SetAt.none_ (w4.alloc (.cells #[.int .i64 4, .string T, .slice none 0 0, .int .i64 P, .int .i64 L, .int .i64 CC] 60)) (w.heap.size + 1)) ((Below.refl _ w4).alloc (Nat.le_refl _) (.cells #[.int .i64 4, .string T, .slice none 0 0, .int .i64 P, .int .i64 L, .int .i64 CC] 60)))
                      clear hwd hq1 hb255 hc hlet hdig h39 h91 hI hTd hz m39 m91 CB2
                      go_wp2_with fail
                      refine (CB1.out _).mono ?_
                      rintro e w' ⟨rfl, rfl⟩
                      go_wp2_with fail
                      go_meet
                      exact HSW.out
                    | false =>
                      rw [hq1] at CB1
                      replace CB1 := Lib.hid CB1
                      rw [hq1, if_neg (by simp)] at hwd
                      cases hq2 : Lib.hasPrefix m [46, 46] with
                      | true =>
                        rw [hq2] at CB2
                        replace CB2 := Lib.hid CB2
                        rw [hq2, if_pos rfl] at hwd
                        have hz := Sc.wordR_ok hwd
                        rw [HML.out] at hz
                        have hTd : s.extract P (P + 2) = ⟨(m.take 2).toArray⟩ := by
                          have e : ∀ b : ByteArray, b = ⟨b.data.toList.toArray⟩ := fun b => by cases b; simp
                          rw [e (s.extract P (P + 2)), Lib.extract_data, Nat.add_sub_cancel_left, HMM.out]
                        obtain ⟨T, hT⟩ : ∃ T, s.extract P (P + 2) = T := ⟨_, rfl⟩
                        rw [hT] at hTd
                        obtain ⟨I, hI⟩ : ∃ I : Int, ((P + 2 : Nat) : Int) = I := ⟨_, rfl⟩
                        have j0 : IntKind.i64.wrap ((P : Int) + 2) = I := by rw [IntWalk.i64_in _ (by omega)]; omega
                        have j1 : (P : Int) ≤ I := by omega
                        have j2 : I ≤ (s.size : Int) := by omega
                        have j3 : I.toNat = P + 2 := by omega
                        have j4 : s.extract P I.toNat = T := by rw [j3]; exact hT
                        have j8 : (P : Int) + 2 = I := by omega
                        have HSW := Lib.hid (SwR.yes (w := w) (x := .int .i64 I) hwd (by rw [hI]) hTd.symm (Bk.made w4 60 #[.int .i64 4, .string T, .slice none 0 0, .int .i64 P, .int .i64 L, .int .i64 CC]) (SetAt.none_ (w4.alloc (.cells #[.int .i64 4, .string T, .slice none 0 0, .int .i64 P, .int .i64 L, .int .i64 CC] 60)) (w.heap.size + 1)) ((Below.refl _ w4).alloc (Nat.le_refl _) (.cells #[.int .i64 4, .string T, .slice none 0 0, .int .i64 P, .int .i64 L, .int .i64 CC] 60)))
                        clear hwd hq1 hq2 hb255 hc hlet hdig h39 h91 hI hTd hz m39 m91
                        go_wp2_with fail
                        refine (CB1.out _).mono ?_
                        rintro e w' ⟨rfl, rfl⟩
                        go_wp2_with fail
                        refine (CB2.out _).mono ?_
                        rintro e w' ⟨rfl, rfl⟩
                        go_wp2_with fail
                        go_meet
                        exact HSW.out
                      | false =>
                        rw [hq2] at CB2
                        replace CB2 := Lib.hid CB2
                        rw [hq2, if_neg (by simp)] at hwd
                        by_cases hin : m.getD 0 0 ∈ Sc.marksL
                        · rw [if_pos hin] at hwd
                          have hz := Sc.wordR_ok hwd
                          rw [HML.out] at hz
                          have hTd : s.extract P (P + 1) = ⟨(m.take 1).toArray⟩ := by
                            have e : ∀ b : ByteArray, b = ⟨b.data.toList.toArray⟩ := fun b => by cases b; simp
                            rw [e (s.extract P (P + 1)), Lib.extract_data, Nat.add_sub_cancel_left, HMM.out]
                          obtain ⟨T, hT⟩ : ∃ T, s.extract P (P + 1) = T := ⟨_, rfl⟩
                          rw [hT] at hTd
                          obtain ⟨I, hI⟩ : ∃ I : Int, ((P + 1 : Nat) : Int) = I := ⟨_, rfl⟩
                          have j0 : IntKind.i64.wrap ((P : Int) + 1) = I := by rw [IntWalk.i64_in _ (by omega)]; omega
                          have j1 : (P : Int) ≤ I := by omega
                          have j2 : I ≤ (s.size : Int) := by omega
                          have j3 : I.toNat = P + 1 := by omega
                          have j4 : s.extract P I.toNat = T := by rw [j3]; exact hT
                          have j8 : (P : Int) + 1 = I := by omega
                          have HSW := Lib.hid (SwR.yes (w := w) (x := .int .i64 I) hwd (by rw [hI]) hTd.symm (Bk.made w4 60 #[.int .i64 4, .string T, .slice none 0 0, .int .i64 P, .int .i64 L, .int .i64 CC]) (SetAt.none_ (w4.alloc (.cells #[.int .i64 4, .string T, .slice none 0 0, .int .i64 P, .int .i64 L, .int .i64 CC] 60)) (w.heap.size + 1)) ((Below.refl _ w4).alloc (Nat.le_refl _) (.cells #[.int .i64 4, .string T, .slice none 0 0, .int .i64 P, .int .i64 L, .int .i64 CC] 60)))
                          have hcs : c = 58 ∨ c = 59 ∨ c = 124 ∨ c = 40 ∨ c = 41 ∨ c = 63 ∨ c = 42 ∨ c = 43 ∨ c = 61 ∨ c = 123 ∨ c = 125 ∨ c = 46 ∨ c = 126 := by
                            unfold Sc.marksL at hin
                            simp only [List.mem_cons, List.not_mem_nil, or_false] at hin
                            rw [← hc]
                            rcases hin with h | h | h | h | h | h | h | h | h | h | h | h | h <;> (rw [h]; simp)
                          clear hwd hq1 hq2 hb255 hc hlet hdig h39 h91 hI hTd hz m39 m91 hin
                          go_wp2_with fail
                          refine (CB1.out _).mono ?_
                          rintro e w' ⟨rfl, rfl⟩
                          go_wp2_with fail
                          refine (CB2.out _).mono ?_
                          rintro e w' ⟨rfl, rfl⟩
                          go_upto_region 40 with fail
                          go_cut [150] (fun x wx => x = .bool true ∧ wx = (w4.alloc (.cells #[.int .i64 0, .string ⟨#[]⟩, .slice none 0 0, .int .i64 P, .int .i64 L, .int .i64 CC] 60)))
                          case first =>
                            rcases hcs with rfl | rfl | rfl | rfl | rfl | rfl | rfl | rfl | rfl | rfl | rfl | rfl | rfl
                            all_goals
                              as_aux_lemma =>
                                go_wp2_with fail
                                go_meet
                                exact ⟨rfl, rfl⟩
                          case rest =>
                            obtain ⟨rfl, rfl⟩ := hcut
                            clear hcs
                            go_wp2_with fail
                            go_meet
                            exact HSW.out
                        · rw [if_neg hin] at hwd
                          have HSW := Lib.hid (SwR.no (w := w) hwd (Bk.made w4 60 #[.int .i64 0, .string ⟨#[]⟩, .slice none 0 0, .int .i64 P, .int .i64 L, .int .i64 CC]) ((Below.refl _ w4).alloc (Nat.le_refl _) (.cells #[.int .i64 0, .string ⟨#[]⟩, .slice none 0 0, .int .i64 P, .int .i64 L, .int .i64 CC] 60)))
                          have key : ∀ q : Nat, q < 256 → (UInt8.ofNat q) ∈ Sc.marksL → c ≠ (q : Int) := by
                            intro q hq hqm e
                            refine ne_byte (b := m.getD 0 0) hq ?_ (hc.trans e)
                            intro e2
                            rw [e2] at hin
                            exact hin hqm
                          have z58 : (c == 58) = false := by rw [beq_eq_false_iff_ne]; exact key 58 (by decide) (by decide)
                          have z59 : (c == 59) = false := by rw [beq_eq_false_iff_ne]; exact key 59 (by decide) (by decide)
                          have z124 : (c == 124) = false := by rw [beq_eq_false_iff_ne]; exact key 124 (by decide) (by decide)
                          have z40 : (c == 40) = false := by rw [beq_eq_false_iff_ne]; exact key 40 (by decide) (by decide)
                          have z41 : (c == 41) = false := by rw [beq_eq_false_iff_ne]; exact key 41 (by decide) (by decide)
                          have z63 : (c == 63) = false := by rw [beq_eq_false_iff_ne]; exact key 63 (by decide) (by decide)
                          have z42 : (c == 42) = false := by rw [beq_eq_false_iff_ne]; exact key 42 (by decide) (by decide)
                          have z43 : (c == 43) = false := by rw [beq_eq_false_iff_ne]; exact key 43 (by decide) (by decide)
                          have z61 : (c == 61) = false := by rw [beq_eq_false_iff_ne]; exact key 61 (by decide) (by decide)
                          have z123 : (c == 123) = false := by rw [beq_eq_false_iff_ne]; exact key 123 (by decide) (by decide)
                          have z125 : (c == 125) = false := by rw [beq_eq_false_iff_ne]; exact key 125 (by decide) (by decide)
                          have z46 : (c == 46) = false := by rw [beq_eq_false_iff_ne]; exact key 46 (by decide) (by decide)
                          have z126 : (c == 126) = false := by rw [beq_eq_false_iff_ne]; exact key 126 (by decide) (by decide)
                          clear hwd hq1 hq2 hb255 hc hlet hdig h39 h91 m39 m91 hin key
                          go_wp2_with fail
                          refine (CB1.out _).mono ?_
                          rintro e w' ⟨rfl, rfl⟩
                          go_wp2_with fail
                          refine (CB2.out _).mono ?_
                          rintro e w' ⟨rfl, rfl⟩
                          go_wp2_with fail
                          go_meet
                          exact HSW.out
        case rest =>
          rcases hcut with ⟨rfl, hwe, kb, vb, cb, hK, hB⟩ | ⟨kd, t, st, z, T, sv, rfl, hwo, hT, hK, hS, hB⟩
          · have n1 : decide ((-1 : Int) < 0) = true := by decide
            have HE := Lib.hid (hF3.out 4 (by first | trivial | rfl) hPl hwe)
            have r3 := hK.cell 3
            have r4 := hK.cell 4
            have r5 := hK.cell 5
            simp at r3 r4 r5
            have HBZ := Lib.hid hB
            clear hwe hK hB
            have HM5 := Lib.hid (HM4.out.below (HBZ.out))
            have K5 := HM5.out.1
            have c0 := K5.cell 0
            have c1 := K5.cell 1
            have c2 := K5.cell 2
            have f0 := K5.free 0
            have f1 := K5.free 1
            have f2 := K5.free 2
            simp at c0 c1 c2
            have G := Lib.hid (((K5.set 0 (.int .i64 P)).set 1 (.int .i64 L)).set 2 (.int .i64 CC))
            clear K5
            go_wp2_with fail
            go_region
            go_wp2_with fail
            refine bodyPost_ret (v := .tuple #[.slice none 0 0, .int .i64 4, .agg #[.int .i64 P, .int .i64 L, .int .i64 CC]]) ?_ rfl ?_
            · have y0 := G.out.cell 0
              have y1 := G.out.cell 1
              have y2 := G.out.cell 2
              clear c0 c1 c2 f0 f1 f2
              simp at y0 y1 y2
              simp [results, Tryd.results9, go_sem, y0, y1, y2]
            · refine .inl ⟨4, P, HE.out, hPs, by rw [HL.out, HC.out]; rfl, ?_⟩
              have bz : Below w.heap.size w (((wc.setCell ⟨w.heap.size, 0, none⟩ (.int .i64 P)).setCell ⟨w.heap.size, 1, none⟩ (.int .i64 L)).setCell ⟨w.heap.size, 2, none⟩ (.int .i64 CC)) := ((HM5.out.2.2.2.2.setCell (by simp) _).setCell (by simp) _).setCell (by simp) _
              exact ⟨bz.os, bz.tape, bz.output, bz.size, bz.block⟩
          · have hz := Sc.wordR_ok hwo
            rw [HML.out] at hz
            obtain ⟨I, hI⟩ : ∃ I : Int, ((P + z : Nat) : Int) = I := ⟨_, rfl⟩
            have HI := Lib.hid hI
            obtain ⟨KD, hKD⟩ : ∃ K : Int, (kd : Int) = K := ⟨_, rfl⟩
            have j6 : decide (I < 0) = false := by rw [decide_eq_false_iff_not]; omega
            have j7 : ¬ I < 0 := by omega
            have HD := Lib.hid (hF4.out kd t st z (by first | trivial | rfl) hPl hwo)
            have HNX := Lib.hid (show Value.int IntKind.i64 I = Value.int IntKind.i64 ((P + z : Nat) : Int) by rw [HI.out])
            have HMEAS := Lib.hid (show s.size + 1 - (intOf (Value.int IntKind.i64 I)).toNat < s.size + 1 - (intOf (Value.int IntKind.i64 (k : Int))).toNat by have := HI.out; simp [intOf]; omega)
            obtain ⟨A, cap, rfl, _⟩ := Row.form hS
            have HS := Lib.hid hS
            have HRC := Lib.hid (show rcells s.data.toList (.slice A st.length cap) ⟨kd, t, st, P⟩ = [.int .i64 KD, .string T, .slice A st.length cap, .int .i64 P, .int .i64 L, .int .i64 CC] by unfold rcells; dsimp only; rw [hT, HL.out, HC.out, hKD])
            rw [hKD] at hK
            have r0 := hK.cell 0
            have r1 := hK.cell 1
            have r2 := hK.cell 2
            have r3 := hK.cell 3
            have r4 := hK.cell 4
            have r5 := hK.cell 5
            simp at r0 r1 r2 r3 r4 r5
            have HBZ := Lib.hid hB
            rw [hI]
            clear hwo hK hB hS hT hI hKD hz
            have HM5 := Lib.hid (HM4.out.below (HBZ.out))
            have HS5 := Lib.hid (HS.out)
            have HM6 := Lib.hid (HM5.out.below ((Below.refl _ wc).alloc (Nat.le_refl _) (.cells #[.int .i64 KD, .string T, (.slice A st.length cap), .int .i64 P, .int .i64 L, .int .i64 CC] 60)))
            have HS6 := Lib.hid (SetAt.below HS5.out ((Below.refl _ wc).alloc (Nat.le_refl _) (.cells #[.int .i64 KD, .string T, (.slice A st.length cap), .int .i64 P, .int .i64 L, .int .i64 CC] 60)))
            have cn := cells_new wc [.int .i64 KD, .string T, (.slice A st.length cap), .int .i64 P, .int .i64 L, .int .i64 CC] 60
            have HCN := Lib.hid cn
            have hszz := HM5.out.2.2.2.2.size
            have hltz := HM5.out.1.lt
            clear cn
            go_wp2_with (at_builtin; refine wpList_append_own _ rfl _ _ 31 rfl (w.heap.size + 1) 60 i0 (.agg #[.int .i64 0, .string ⟨#[]⟩, .slice none 0 0, .int .i64 0, .int .i64 0, .int .i64 0]) 6 72 Tryd.underlying31 hi hz0 hz1 hz2 rfl (by decide) _ _ _ rfl HM6.out.2.2.1 ⟨wc.heap.size, 0, none⟩ 1 1 [.int .i64 KD, .string T, (.slice A st.length cap), .int .i64 P, .int .i64 L, .int .i64 CC] rfl rfl HCN.out (fun x hx => by simp at hx; rcases hx with rfl | rfl | rfl | rfl | rfl | rfl <;> rfl) (by unfold maxLen; omega) (by omega) (by simp at hltz ⊢; omega) ?_; intro v' w7 hown7 hg7 _)
            have HM7 := Lib.hid (HM6.out.push (d := ⟨kd, t, st, P⟩) HS6.out (by rw [HRC.out]; exact hown7) hg7)
            clear hown7 hg7
            exact ⟨⟨_, _, _, HNX.out, HD.out, HM7.out⟩, HMEAS.out⟩
end Go.Proofs.YtokpknjmcegkaaaDoor
