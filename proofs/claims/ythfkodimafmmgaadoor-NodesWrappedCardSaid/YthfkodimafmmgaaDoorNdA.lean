/- The contract of nodes.anew and Copy. -/
import Derived.Test.YthfkodimafmmgaaDoorNdZ
namespace Go.Proofs.YthfkodimafmmgaaDoor
open Go Go.RowKit
set_option maxRecDepth 100000

/-- What a round of anew leaves. -/
theorem anew_round {w w6 wr w3 : World} {g p n SN : Nat} {W7 : World} {sb : List Nd.T} {ad : Addr} {cu K Z : Array Value} {s : Nd.T} {u0 u1 u2 u3 u4 : Value} {o : Obj} (hs : sb[p]? = some s) (hg2 : w.heap.size + 2 ≤ g) (hg3 : w6.heap.size ≤ g)
    (hK : Bk wr w.heap.size 26 K) (hR : Bk wr (w.heap.size + 1) 26 Z) (hB : Below w.heap.size w wr) (hF : Nd.From (w.heap.size + 2) w6 wr) (hZ : w6.heap.size ≤ wr.heap.size) (hG : Bk wr g 26 cu) (hP : Nd.Rows5 (g + 1) W7 wr sb ad cu p)
    (hb : Below (wr.alloc o).heap.size (wr.alloc o) w3) (hA : Nd.AtF (wr.alloc o).heap.size w3 s (.agg #[u0, u1, u2, u3, u4])) (_hn : n = SN) :
    Bk (((((w3.setCell ⟨g, p * 5, none⟩ u0).setCell ⟨g, p * 5 + 1, none⟩ u1).setCell ⟨g, p * 5 + 2, none⟩ u2).setCell ⟨g, p * 5 + 3, none⟩ u3).setCell ⟨g, p * 5 + 4, none⟩ u4) w.heap.size 26 K ∧
    Bk (((((w3.setCell ⟨g, p * 5, none⟩ u0).setCell ⟨g, p * 5 + 1, none⟩ u1).setCell ⟨g, p * 5 + 2, none⟩ u2).setCell ⟨g, p * 5 + 3, none⟩ u3).setCell ⟨g, p * 5 + 4, none⟩ u4) (w.heap.size + 1) 26 Z ∧
    Below w.heap.size w (((((w3.setCell ⟨g, p * 5, none⟩ u0).setCell ⟨g, p * 5 + 1, none⟩ u1).setCell ⟨g, p * 5 + 2, none⟩ u2).setCell ⟨g, p * 5 + 3, none⟩ u3).setCell ⟨g, p * 5 + 4, none⟩ u4) ∧
    Nd.From (w.heap.size + 2) w6 (((((w3.setCell ⟨g, p * 5, none⟩ u0).setCell ⟨g, p * 5 + 1, none⟩ u1).setCell ⟨g, p * 5 + 2, none⟩ u2).setCell ⟨g, p * 5 + 3, none⟩ u3).setCell ⟨g, p * 5 + 4, none⟩ u4) ∧
    w6.heap.size ≤ (((((w3.setCell ⟨g, p * 5, none⟩ u0).setCell ⟨g, p * 5 + 1, none⟩ u1).setCell ⟨g, p * 5 + 2, none⟩ u2).setCell ⟨g, p * 5 + 3, none⟩ u3).setCell ⟨g, p * 5 + 4, none⟩ u4).heap.size ∧
    Bk (((((w3.setCell ⟨g, p * 5, none⟩ u0).setCell ⟨g, p * 5 + 1, none⟩ u1).setCell ⟨g, p * 5 + 2, none⟩ u2).setCell ⟨g, p * 5 + 3, none⟩ u3).setCell ⟨g, p * 5 + 4, none⟩ u4) g 26 (Nd.put5 cu p u0 u1 u2 u3 u4) ∧
    Hid (Nd.Rows5 (g + 1) W7 (((((w3.setCell ⟨g, p * 5, none⟩ u0).setCell ⟨g, p * 5 + 1, none⟩ u1).setCell ⟨g, p * 5 + 2, none⟩ u2).setCell ⟨g, p * 5 + 3, none⟩ u3).setCell ⟨g, p * 5 + 4, none⟩ u4) sb ad (Nd.put5 cu p u0 u1 u2 u3 u4) (p + 1)) := by
  have hgl := hG.lt
  have hbz := hB.size
  have hz := hb.size
  rw [World.size_alloc] at hz
  have hra : Below wr.heap.size wr (wr.alloc o) := (Below.refl _ wr).alloc (Nat.le_refl _) o
  have h3 : Below wr.heap.size wr w3 := hra.trans (hb.mono hra.size)
  have f1 : Nd.From (g + 1) wr w3 := (Nd.From.refl _ _).bel (Nat.le_refl _) h3
  have f2 : Nd.From (g + 1) w3 (((((w3.setCell ⟨g, p * 5, none⟩ u0).setCell ⟨g, p * 5 + 1, none⟩ u1).setCell ⟨g, p * 5 + 2, none⟩ u2).setCell ⟨g, p * 5 + 3, none⟩ u3).setCell ⟨g, p * 5 + 4, none⟩ u4) :=
    (((((Nd.From.refl _ _).set _ _ (.inl (by simp))).set _ _ (.inl (by simp))).set _ _ (.inl (by simp))).set _ _ (.inl (by simp))).set _ _ (.inl (by simp))
  refine ⟨?_, ?_, ?_, ?_, ?_, ?_, Lib.hid ?_⟩
  · exact (((((hK.below h3 hK.lt).other _ _ (by simp; omega)).other _ _ (by simp; omega)).other _ _ (by simp; omega)).other _ _ (by simp; omega)).other _ _ (by simp; omega)
  · exact (((((hR.below h3 hR.lt).other _ _ (by simp; omega)).other _ _ (by simp; omega)).other _ _ (by simp; omega)).other _ _ (by simp; omega)).other _ _ (by simp; omega)
  · exact (((((hB.trans (h3.mono hbz)).setCell (by simp; omega) _).setCell (by simp; omega) _).setCell (by simp; omega) _).setCell (by simp; omega) _).setCell (by simp; omega) _
  · exact (((((hF.bel hZ h3).set _ _ (.inr (by simp; omega))).set _ _ (.inr (by simp; omega))).set _ _ (.inr (by simp; omega))).set _ _ (.inr (by simp; omega))).set _ _ (.inr (by simp; omega))
  · simp; omega
  · unfold Nd.put5
    exact (((((hG.below h3 hG.lt).set _ _).set _ _).set _ _).set _ _).set _ _
  · refine hP.step hs (f1.trans h3.size f2) ?_
    refine Nd.AtF.keep (n := (wr.alloc o).heap.size) (m := g + 1) (by rw [World.size_alloc]; omega) ?_ s hA
    exact (((((Nd.From.refl _ _).set _ _ (.inl (by rw [World.size_alloc]; simp; omega))).set _ _ (.inl (by rw [World.size_alloc]; simp; omega))).set _ _ (.inl (by rw [World.size_alloc]; simp; omega))).set _ _ (.inl (by rw [World.size_alloc]; simp; omega))).set _ _ (.inl (by rw [World.size_alloc]; simp; omega))
set_option maxHeartbeats 4000000 in
theorem anew_any (t : Nd.T) : AnewOk t := by
  induction t using Nd.T.ind with | _ k nm tx st sb ih => ?_
  intro v w hA hf
  have hff : Nd.full (.mk k nm tx st sb) = 1 + nm.size + tx.size + st.length + Nd.fullL sb := by simp only [Nd.full]
  have hfl : ∀ (b : List Nd.T) (i : Nat) (s : Nd.T), b[i]? = some s → Nd.full s + (b.length - 1) ≤ Nd.fullL b := by
    intro b
    induction b with
    | nil => intro i s h; simp at h
    | cons q r ihr =>
      intro i s h
      have e : Nd.fullL (q :: r) = Nd.full q + Nd.fullL r := by simp only [Nd.fullL]
      have hl : ∀ r : List Nd.T, r.length ≤ Nd.fullL r := by
        intro r
        induction r with
        | nil => simp [Nd.fullL]
        | cons x y hy =>
          have e2 : Nd.fullL (x :: y) = Nd.full x + Nd.fullL y := by simp only [Nd.fullL]
          have := Nd.full_pos x
          simp only [List.length_cons]
          omega
      have hlr := hl r
      have hq := Nd.full_pos q
      cases i with
      | zero =>
        simp only [List.getElem?_cons_zero, Option.some.injEq] at h
        subst h
        simp only [List.length_cons]
        omega
      | succ i =>
        have := ihr i s (by simpa using h)
        have hpos : 0 < r.length := by
          cases r with
          | nil => simp at h
          | cons => simp
        simp only [List.length_cons]
        omega
  have hln : sb.length ≤ Nd.fullL sb := by
    cases hsb : sb with
    | nil => simp
    | cons q r =>
      have := hfl sb 0 q (by rw [hsb]; rfl)
      have hq := Nd.full_pos q
      rw [hsb] at this
      simp only [List.length_cons] at this ⊢
      omega
  rw [hff] at hf
  have hL := hA.subs
  unfold Nd.At at hA
  obtain ⟨sa, sc, ba, bc, rfl, hk, hnm, htx, hsc, hbc, hR, _⟩ := hA
  have e0 : Nd.subsA (.agg #[.int .u8 k, .string nm, .string tx, .slice sa st.length sc, .slice ba sb.length bc]) = ba := rfl
  rw [e0] at hL
  have CN := fun wx => NClone_any nm wx hnm
  have CT := fun wx => NClone_any tx wx htx
  have CR := fun (wx : World) (h : Below w.heap.size w wx) => listR_any st sa sc wx (by omega) (hR.below h)
  have CL := fun (wx : World) (h : Below w.heap.size w wx) => listN_any sb ba bc wx (by omega) (Nd.AtL.below h _ hL)
  obtain ⟨SL, hSL⟩ : ∃ k, st.length = k := ⟨_, rfl⟩
  obtain ⟨SN, hSN⟩ : ∃ k, sb.length = k := ⟨_, rfl⟩
  have HSL := Lib.hid hSL
  have HSN := Lib.hid hSN
  rw [hSL] at CR hsc ⊢
  rw [hSN] at CL hbc hln ⊢
  have n1 : (SN : Int) ≤ 9223372036854775807 := by omega
  have K1 := Lib.hid ((Bk.made w 26 #[.int .u8 k, .string nm, .string tx, .slice sa SL sc, .slice ba SN bc]).alloc (.cells #[.int .u8 0, .string ⟨#[]⟩, .string ⟨#[]⟩, .slice none 0 0, .slice none 0 0] 26))
  have R1 := Lib.hid (show Bk ((w.alloc (.cells #[.int .u8 k, .string nm, .string tx, .slice sa SL sc, .slice ba SN bc] 26)).alloc (.cells #[.int .u8 0, .string ⟨#[]⟩, .string ⟨#[]⟩, .slice none 0 0, .slice none 0 0] 26)) (w.heap.size + 1) 26 _ from by
    have := Bk.made (w.alloc (.cells #[.int .u8 k, .string nm, .string tx, .slice sa SL sc, .slice ba SN bc] 26)) 26 #[.int .u8 0, .string ⟨#[]⟩, .string ⟨#[]⟩, .slice none 0 0, .slice none 0 0]
    rwa [World.size_alloc] at this)
  have B1 := Lib.hid (((Below.refl _ w).alloc (Nat.le_refl _) (.cells #[.int .u8 k, .string nm, .string tx, .slice sa SL sc, .slice ba SN bc] 26)).alloc (by rw [World.size_alloc]; omega) (.cells #[.int .u8 0, .string ⟨#[]⟩, .string ⟨#[]⟩, .slice none 0 0, .slice none 0 0] 26))
  replace CN := Lib.hid CN
  replace CT := Lib.hid CT
  replace CR := Lib.hid CR
  replace CL := Lib.hid CL
  have HL := Lib.hid hL
  have IH := Lib.hid ih
  have HFL := Lib.hid (hfl sb)
  clear ih hfl hL hR hSL hSN hff e0
  go_enter Tryd.func29, Tryd.ntmps29
  go_wp2_with fail
  refine (CN.out _).mono ?_
  rintro e w2 ⟨rfl, hb⟩
  have K2 := Lib.hid (K1.out.below hb K1.out.lt)
  have R2 := Lib.hid (R1.out.below hb R1.out.lt)
  have B2 := Lib.hid (B1.out.trans (hb.mono B1.out.size))
  have a1 := K2.out.cell 1
  have a2 := K2.out.cell 2
  have g1 := K2.out.free 1
  simp at a1 a2
  have K3 := Lib.hid (K2.out.set_same 1 (.string nm) rfl)
  have R3 := Lib.hid (R2.out.other ⟨w.heap.size, 1, none⟩ (.string nm) (by simp))
  have B3 := Lib.hid (B2.out.setCell (p := ⟨w.heap.size, 1, none⟩) (Nat.le_refl _) (.string nm))
  clear hb
  go_wp2_with fail
  refine (CT.out _).mono ?_
  rintro e w4 ⟨rfl, hb⟩
  have K4 := Lib.hid (K3.out.below hb K3.out.lt)
  have R4 := Lib.hid (R3.out.below hb R3.out.lt)
  have B4 := Lib.hid (B3.out.trans (hb.mono B3.out.size))
  have a1 := K4.out.cell 2
  have a2 := K4.out.cell 3
  have g1 := K4.out.free 2
  simp at a1 a2
  have K5 := Lib.hid (K4.out.set_same 2 (.string tx) rfl)
  have R5 := Lib.hid (R4.out.other ⟨w.heap.size, 2, none⟩ (.string tx) (by simp))
  have B5 := Lib.hid (B4.out.setCell (p := ⟨w.heap.size, 2, none⟩) (Nat.le_refl _) (.string tx))
  clear hb
  go_wp2_with fail
  refine (CR.out _ B5.out).mono ?_
  rintro e w6 ⟨a', c', rfl, hac, hRF, hb⟩
  have hz5 := B5.out.size
  have HRF := Lib.hid (Nd.RgF.keep (n := (w4.setCell ⟨w.heap.size, 2, none⟩ (.string tx)).heap.size) (m := w.heap.size + 2) (by have := R5.out.lt; omega) (Nd.From.refl _ _) hRF)
  have K6 := Lib.hid (K5.out.below hb K5.out.lt)
  have R6 := Lib.hid (R5.out.below hb R5.out.lt)
  have B6 := Lib.hid (B5.out.trans (hb.mono B5.out.size))
  have a1 := K6.out.cell 3
  have a2 := K6.out.cell 4
  have g1 := K6.out.free 3
  simp at a1 a2
  have K7 := Lib.hid (show Bk (w6.setCell ⟨w.heap.size, 3, none⟩ (.slice a' SL c')) w.heap.size 26 #[.int .u8 k, .string nm, .string tx, .slice a' SL c', .slice ba SN bc] from K6.out.set 3 (.slice a' SL c'))
  have R7 := Lib.hid (R6.out.other ⟨w.heap.size, 3, none⟩ (.slice a' SL c') (by simp))
  have B7 := Lib.hid (B6.out.setCell (p := ⟨w.heap.size, 3, none⟩) (Nat.le_refl _) (.slice a' SL c'))
  have F7 := Lib.hid ((Nd.From.refl (w.heap.size + 2) w6).set ⟨w.heap.size, 3, none⟩ (.slice a' SL c') (.inl (by simp)))
  have Z7 : w6.heap.size ≤ (w6.setCell ⟨w.heap.size, 3, none⟩ (.slice a' SL c')).heap.size := by simp
  have Z6 := B6.out.size
  clear hb hRF
  go_wp2_with fail
  refine (CL.out _ B7.out).mono ?_
  rintro e w8 ⟨hb, hl⟩
  have K8 := Lib.hid (K7.out.below hb K7.out.lt)
  have R8 := Lib.hid (R7.out.below hb R7.out.lt)
  have B8 := Lib.hid (B7.out.trans (hb.mono B7.out.size))
  have F8 := Lib.hid (F7.out.bel Z7 hb)
  have Z8 : w6.heap.size ≤ w8.heap.size := Nat.le_trans Z7 hb.size
  have a1 := K8.out.cell 4
  have g1 := K8.out.free 4
  simp at a1
  rcases hl with ⟨rfl, hnil⟩ | ⟨g, cp, cur, ad, hba, rfl, hg, hbk, hNc, htk⟩
  · have hS0 : SN = 0 := by rw [← HSN.out, hnil]; rfl
    have K9 := Lib.hid (show Bk (w8.setCell ⟨w.heap.size, 4, none⟩ (.slice none 0 0)) w.heap.size 26 #[.int .u8 k, .string nm, .string tx, .slice a' SL c', .slice none 0 0] from K8.out.set 4 (.slice none 0 0))
    have R9 := Lib.hid (R8.out.other ⟨w.heap.size, 4, none⟩ (.slice none 0 0) (by simp))
    have B9 := Lib.hid (B8.out.setCell (p := ⟨w.heap.size, 4, none⟩) (Nat.le_refl _) (.slice none 0 0))
    have F9 := Lib.hid (F8.out.set ⟨w.heap.size, 4, none⟩ (.slice none 0 0) (.inl (by simp)))
    have Z9 : w6.heap.size ≤ (w8.setCell ⟨w.heap.size, 4, none⟩ (.slice none 0 0)).heap.size := by simpa using Z8
    clear hb
    go_wp2_with fail
    go_loopw [24] (fun i wr => i = .int .i64 0 ∧ Bk wr w.heap.size 26 #[.int .u8 k, .string nm, .string tx, .slice a' SL c', .slice none 0 0] ∧ Bk wr (w.heap.size + 1) 26 #[.int .u8 0, .string ⟨#[]⟩, .string ⟨#[]⟩, .slice none 0 0, .slice none 0 0] ∧ Below w.heap.size w wr ∧ Nd.From (w.heap.size + 2) w6 wr ∧ w6.heap.size ≤ wr.heap.size) (fun _ _ => 0)
    case atStart => exact ⟨rfl, K9.out, R9.out, B9.out, F9.out, Z9⟩
    case round =>
      obtain ⟨rfl, hK, hR, hB, hF, hZ⟩ := hrel
      have a0 := hK.cell 0
      have a1 := hK.cell 1
      have a2 := hK.cell 2
      have a3 := hK.cell 3
      have a4 := hK.cell 4
      have b0 := hR.cell 0
      have b1 := hR.cell 1
      have b2 := hR.cell 2
      have b3 := hR.cell 3
      have b4 := hR.cell 4
      have c0 := hR.free 0
      have c1 := hR.free 1
      have c2 := hR.free 2
      have c3 := hR.free 3
      have c4 := hR.free 4
      simp at a0 a1 a2 a3 a4 b0 b1 b2 b3 b4
      have HR5 := Lib.hid (((((hR.set 0 (.int .u8 k)).set 1 (.string nm)).set 2 (.string tx)).set 3 (.slice a' SL c')).set 4 (.slice none 0 0))
      have HF5 := Lib.hid ((((((Nd.From.refl (w.heap.size + 2) wr).set ⟨w.heap.size + 1, 0, none⟩ (.int .u8 k) (.inl (by simp))).set ⟨w.heap.size + 1, 1, none⟩ (.string nm) (.inl (by simp))).set ⟨w.heap.size + 1, 2, none⟩ (.string tx) (.inl (by simp))).set ⟨w.heap.size + 1, 3, none⟩ (.slice a' SL c') (.inl (by simp))).set ⟨w.heap.size + 1, 4, none⟩ (.slice none 0 0) (.inl (by simp)))
      have HB5 := Lib.hid (((((hB.setCell (p := ⟨w.heap.size + 1, 0, none⟩) (by simp) (.int .u8 k)).setCell (p := ⟨w.heap.size + 1, 1, none⟩) (by simp) (.string nm)).setCell (p := ⟨w.heap.size + 1, 2, none⟩) (by simp) (.string tx)).setCell (p := ⟨w.heap.size + 1, 3, none⟩) (by simp) (.slice a' SL c')).setCell (p := ⟨w.heap.size + 1, 4, none⟩) (by simp) (.slice none 0 0))
      have HFF := Lib.hid (hF.trans hZ HF5.out)
      have HN := Lib.hid hnil
      clear hK hR hF hB hnil
      go_wp2_with fail
      refine bodyPost_ret (v := .agg #[.int .u8 k, .string nm, .string tx, .slice a' SL c', .slice none 0 0]) ?_ rfl ?_
      · have z0 := HR5.out.cell 0
        have z1 := HR5.out.cell 1
        have z2 := HR5.out.cell 2
        have z3 := HR5.out.cell 3
        have z4 := HR5.out.cell 4
        clear a0 a1 a2 a3 a4 b0 b1 b2 b3 b4 c0 c1 c2 c3 c4
        simp at z0 z1 z2 z3 z4
        simp [results, Tryd.results29, go_sem, z0, z1, z2, z3, z4]
      · refine ⟨_, rfl, ?_, HB5.out⟩
        rw [HN.out]
        unfold Nd.AtF
        rw [HSL.out]
        exact ⟨a', c', none, 0, rfl, hk, hnm, htx, ⟨hac, by omega⟩, ⟨by simp, by simp⟩, Nd.RgF.keep (by omega) HFF.out HRF.out, by unfold Nd.AtLF; trivial⟩
  · have K9 := Lib.hid (show Bk (w8.setCell ⟨w.heap.size, 4, none⟩ (.slice (some ⟨g, 0, none⟩) SN cp)) w.heap.size 26 #[.int .u8 k, .string nm, .string tx, .slice a' SL c', .slice (some ⟨g, 0, none⟩) SN cp] from K8.out.set 4 (.slice (some ⟨g, 0, none⟩) SN cp))
    have R9 := Lib.hid (R8.out.other ⟨w.heap.size, 4, none⟩ (.slice (some ⟨g, 0, none⟩) SN cp) (by simp))
    have B9 := Lib.hid (B8.out.setCell (p := ⟨w.heap.size, 4, none⟩) (Nat.le_refl _) (.slice (some ⟨g, 0, none⟩) SN cp))
    have F9 := Lib.hid (F8.out.set ⟨w.heap.size, 4, none⟩ (.slice (some ⟨g, 0, none⟩) SN cp) (.inl (by simp)))
    have hg2 : w.heap.size + 2 ≤ g := by have := R7.out.lt; omega
    have hg3 : w6.heap.size ≤ g := Nat.le_trans Z7 hg
    have G9 := Lib.hid (hbk.other ⟨w.heap.size, 4, none⟩ (.slice (some ⟨g, 0, none⟩) SN cp) (by simp; omega))
    have P9 := Lib.hid (Nd.Rows5.start (n := g + 1) (wr := w8.setCell ⟨w.heap.size, 4, none⟩ (.slice (some ⟨g, 0, none⟩) SN cp)) (show cur.toList.take (sb.length * 5) = Nd.cellsN (w6.setCell ⟨w.heap.size, 3, none⟩ (.slice a' SL c')) ad.block sb ad.off by rw [HSN.out]; exact htk))
    have Z9 : w6.heap.size ≤ (w8.setCell ⟨w.heap.size, 4, none⟩ (.slice (some ⟨g, 0, none⟩) SN cp)).heap.size := by simpa using Z8
    clear hb hbk htk
    go_wp2_with fail
    go_loopw [24] (fun i wr => ∃ (p : Nat) (cu : Array Value), p ≤ SN ∧ i = .int .i64 p ∧ Bk wr w.heap.size 26 #[.int .u8 k, .string nm, .string tx, .slice a' SL c', .slice (some ⟨g, 0, none⟩) SN cp] ∧ Bk wr (w.heap.size + 1) 26 #[.int .u8 0, .string ⟨#[]⟩, .string ⟨#[]⟩, .slice none 0 0, .slice none 0 0] ∧ Below w.heap.size w wr ∧ Nd.From (w.heap.size + 2) w6 wr ∧ w6.heap.size ≤ wr.heap.size ∧ Bk wr g 26 cu ∧
      Hid (Nd.Rows5 (g + 1) (w6.setCell ⟨w.heap.size, 3, none⟩ (.slice a' SL c')) wr sb ad cu p)) (fun i _ => SN - (intOf i).toNat)
    case atStart => exact ⟨0, cur, Nat.zero_le _, rfl, K9.out, R9.out, B9.out, F9.out, Z9, G9.out, P9⟩
    case round =>
      obtain ⟨p, cu, hp, rfl, hK, hR, hB, hF, hZ, hG, hP⟩ := hrel
      by_cases hlt : p < SN
      · have d0 : decide (p < SN) = true := by rw [decide_eq_true_iff]; exact hlt
        have p0 : (p : Int) < (SN : Int) := by omega
        obtain ⟨s, hs⟩ : ∃ s, sb[p]? = some s := ⟨_, List.getElem?_eq_getElem (by rw [HSN.out]; exact hlt)⟩
        obtain ⟨g0, o, v0, v1, v2, v3, v4, hbe, h0, h1, h2, h3, h4, _, hAs⟩ := HL.out.val p s hs
        rw [hba] at hbe
        injection hbe with hbe
        have hold := hP.out.2 p s (Nat.le_refl _) hs
        rw [hbe] at hold
        dsimp only at hold
        have e0 := (hG.cell (p * 5)).trans ((hold 0 (by omega)).trans (congrArg some (Nd.cellD_of (Nd.cell_keeps B7.out h0))))
        have e1 := (hG.cell (p * 5 + 1)).trans ((hold 1 (by omega)).trans (congrArg some (Nd.cellD_of (Nd.cell_keeps B7.out h1))))
        have e2 := (hG.cell (p * 5 + 2)).trans ((hold 2 (by omega)).trans (congrArg some (Nd.cellD_of (Nd.cell_keeps B7.out h2))))
        have e3 := (hG.cell (p * 5 + 3)).trans ((hold 3 (by omega)).trans (congrArg some (Nd.cellD_of (Nd.cell_keeps B7.out h3))))
        have e4 := (hG.cell (p * 5 + 4)).trans ((hold 4 (by omega)).trans (congrArg some (Nd.cellD_of (Nd.cell_keeps B7.out h4))))
        have hfs := HFL.out p s hs
        have hAr := hAs.below hB
        obtain ⟨sa1, sc1, ba1, bc1, rfl, rfl, rfl, rfl, rfl⟩ := hAs.five
        have CA := fun (wx : World) (h : Below (wr.alloc (.cells #[.int .u8 s.kind, .string s.name, .string s.text, .slice sa1 s.set.length sc1, .slice ba1 s.subs.length bc1] 26)).heap.size (wr.alloc (.cells #[.int .u8 s.kind, .string s.name, .string s.text, .slice sa1 s.set.length sc1, .slice ba1 s.subs.length bc1] 26)) wx) => IH.out s (List.mem_of_getElem? hs) _ wx (Nd.At.below h _ (Nd.At.below ((Below.refl _ wr).alloc (Nat.le_refl _) _) _ hAr)) (by omega)
        have HRD := Lib.hid (fun (w3 : World) (u0 u1 u2 u3 u4 : Value) (hb : Below (wr.alloc (.cells #[.int .u8 s.kind, .string s.name, .string s.text, .slice sa1 s.set.length sc1, .slice ba1 s.subs.length bc1] 26)).heap.size (wr.alloc (.cells #[.int .u8 s.kind, .string s.name, .string s.text, .slice sa1 s.set.length sc1, .slice ba1 s.subs.length bc1] 26)) w3) (hA : Nd.AtF (wr.alloc (.cells #[.int .u8 s.kind, .string s.name, .string s.text, .slice sa1 s.set.length sc1, .slice ba1 s.subs.length bc1] 26)).heap.size w3 s (.agg #[u0, u1, u2, u3, u4])) => anew_round (SN := SN) hs hg2 hg3 hK hR hB hF hZ hG hP.out hb hA rfl)
        have HK2 := Lib.hid (hK.alloc (.cells #[.int .u8 s.kind, .string s.name, .string s.text, .slice sa1 s.set.length sc1, .slice ba1 s.subs.length bc1] 26))
        have HG2 := Lib.hid (hG.alloc (.cells #[.int .u8 s.kind, .string s.name, .string s.text, .slice sa1 s.set.length sc1, .slice ba1 s.subs.length bc1] 26))
        have HX2 := Lib.hid (Bk.made wr 26 #[.int .u8 s.kind, .string s.name, .string s.text, .slice sa1 s.set.length sc1, .slice ba1 s.subs.length bc1])
        have hcur := fun (r : Nat) (hr : r < 5) => (show ∃ v, cu[p * 5 + r]? = some v from ⟨_, hold r hr⟩)
        have HCUR := Lib.hid hcur
        have k4 := HK2.out.cell 4
        simp at k4
        generalize s.kind = sk at *
        generalize s.name = sn at *
        generalize s.text = sx at *
        generalize s.set.length = sl at *
        generalize s.subs.length = sm at *
        replace CA := Lib.hid CA
        clear h0 h1 h2 h3 h4 hAs hAr hold hs hbe hcur hK hR hB hF hG hP
        go_wp2_with fail
        go_region_with (
          refine (CA.out _ (by first | exact Below.refl _ _ | exact ⟨rfl, rfl, rfl, Nat.le_refl _, fun _ _ => rfl⟩)).mono ?_
          rintro e w3 ⟨v', rfl, hAF, hb⟩
          have hb3 := Lib.hid (show Below (wr.alloc (.cells #[.int .u8 sk, .string sn, .string sx, .slice sa1 sl sc1, .slice ba1 sm bc1] 26)).heap.size (wr.alloc (.cells #[.int .u8 sk, .string sn, .string sx, .slice sa1 sl sc1, .slice ba1 sm bc1] 26)) w3 from ⟨hb.os, hb.tape, hb.output, hb.size, hb.block⟩)
          obtain ⟨ua, uc, ub, ud, rfl, _⟩ := (Nd.AtF.to _ hAF).form
          have HF3 := Lib.hid (HRD.out w3 _ _ _ _ _ hb3.out hAF)
          generalize s.kind = uk at *
          generalize s.name = un at *
          generalize s.text = ux at *
          generalize s.set.length = ul at *
          generalize s.subs.length = um at *
          have kk4 := (HK2.out.below hb3.out HK2.out.lt).cell 4
          have xx0 := (HX2.out.below hb3.out (by simp)).cell 0
          have xx1 := (HX2.out.below hb3.out (by simp)).cell 1
          have xx2 := (HX2.out.below hb3.out (by simp)).cell 2
          have xx3 := (HX2.out.below hb3.out (by simp)).cell 3
          have xx4 := (HX2.out.below hb3.out (by simp)).cell 4
          simp at kk4 xx0 xx1 xx2 xx3 xx4
          obtain ⟨q0, hq0⟩ := HCUR.out 0 (by omega)
          obtain ⟨q1, hq1⟩ := HCUR.out 1 (by omega)
          obtain ⟨q2, hq2⟩ := HCUR.out 2 (by omega)
          obtain ⟨q3, hq3⟩ := HCUR.out 3 (by omega)
          obtain ⟨q4, hq4⟩ := HCUR.out 4 (by omega)
          have cc0 := ((HG2.out.below hb3.out HG2.out.lt).cell (p * 5)).trans hq0
          have cc1 := ((HG2.out.below hb3.out HG2.out.lt).cell (p * 5 + 1)).trans hq1
          have cc2 := ((HG2.out.below hb3.out HG2.out.lt).cell (p * 5 + 2)).trans hq2
          have cc3 := ((HG2.out.below hb3.out HG2.out.lt).cell (p * 5 + 3)).trans hq3
          have cc4 := ((HG2.out.below hb3.out HG2.out.lt).cell (p * 5 + 4)).trans hq4
          have ff0 := (HG2.out.below hb3.out HG2.out.lt).free (p * 5)
          have ff1 := (HG2.out.below hb3.out HG2.out.lt).free (p * 5 + 1)
          have ff2 := (HG2.out.below hb3.out HG2.out.lt).free (p * 5 + 2)
          have ff3 := (HG2.out.below hb3.out HG2.out.lt).free (p * 5 + 3)
          have ff4 := (HG2.out.below hb3.out HG2.out.lt).free (p * 5 + 4)
          clear hb hAF hq0 hq1 hq2 hq3 hq4)
        all_goals
          obtain ⟨y1, y2, y3, y4, y5, y6, y7⟩ := HF3.out
          go_wp2_with fail
          exact ⟨⟨p + 1, _, by omega, by go_num, y1, y2, y3, y4, y5, y6, y7⟩, by simp [intOf]; omega⟩
      · have d0 : decide (p < SN) = false := by rw [decide_eq_false_iff_not]; exact hlt
        have hpe : p = sb.length := by rw [HSN.out]; omega
        have hP2 := hP.out
        rw [hpe] at hP2
        have HAL := Lib.hid (Nd.Rows5.done (S := w.heap.size + 2) hP2 hG (by omega) hg2)
        have a0 := hK.cell 0
        have a1 := hK.cell 1
        have a2 := hK.cell 2
        have a3 := hK.cell 3
        have a4 := hK.cell 4
        have b0 := hR.cell 0
        have b1 := hR.cell 1
        have b2 := hR.cell 2
        have b3 := hR.cell 3
        have b4 := hR.cell 4
        have c0 := hR.free 0
        have c1 := hR.free 1
        have c2 := hR.free 2
        have c3 := hR.free 3
        have c4 := hR.free 4
        simp at a0 a1 a2 a3 a4 b0 b1 b2 b3 b4
        have HR5 := Lib.hid (((((hR.set 0 (.int .u8 k)).set 1 (.string nm)).set 2 (.string tx)).set 3 (.slice a' SL c')).set 4 (.slice (some ⟨g, 0, none⟩) SN cp))
        have HF5 := Lib.hid ((((((Nd.From.refl (w.heap.size + 2) wr).set ⟨w.heap.size + 1, 0, none⟩ (.int .u8 k) (.inl (by simp))).set ⟨w.heap.size + 1, 1, none⟩ (.string nm) (.inl (by simp))).set ⟨w.heap.size + 1, 2, none⟩ (.string tx) (.inl (by simp))).set ⟨w.heap.size + 1, 3, none⟩ (.slice a' SL c') (.inl (by simp))).set ⟨w.heap.size + 1, 4, none⟩ (.slice (some ⟨g, 0, none⟩) SN cp) (.inl (by simp)))
        have HB5 := Lib.hid (((((hB.setCell (p := ⟨w.heap.size + 1, 0, none⟩) (by simp) (.int .u8 k)).setCell (p := ⟨w.heap.size + 1, 1, none⟩) (by simp) (.string nm)).setCell (p := ⟨w.heap.size + 1, 2, none⟩) (by simp) (.string tx)).setCell (p := ⟨w.heap.size + 1, 3, none⟩) (by simp) (.slice a' SL c')).setCell (p := ⟨w.heap.size + 1, 4, none⟩) (by simp) (.slice (some ⟨g, 0, none⟩) SN cp))
        have HFF := Lib.hid (hF.trans hZ HF5.out)
        clear hP hP2 hG hK hR hF hB
        go_wp2_with fail
        refine bodyPost_ret (v := .agg #[.int .u8 k, .string nm, .string tx, .slice a' SL c', .slice (some ⟨g, 0, none⟩) SN cp]) ?_ rfl ?_
        · have z0 := HR5.out.cell 0
          have z1 := HR5.out.cell 1
          have z2 := HR5.out.cell 2
          have z3 := HR5.out.cell 3
          have z4 := HR5.out.cell 4
          clear a0 a1 a2 a3 a4 b0 b1 b2 b3 b4 c0 c1 c2 c3 c4
          simp at z0 z1 z2 z3 z4
          simp [results, Tryd.results29, go_sem, z0, z1, z2, z3, z4]
        · refine ⟨_, rfl, ?_, HB5.out⟩
          unfold Nd.AtF
          rw [HSL.out, HSN.out]
          exact ⟨a', c', some ⟨g, 0, none⟩, cp, rfl, hk, hnm, htx, ⟨hac, by omega⟩, ⟨hNc, by omega⟩, Nd.RgF.keep (by omega) HFF.out HRF.out, Nd.AtLF.keep (by omega) HF5.out _ HAL.out⟩
set_option maxHeartbeats 1000000 in
theorem Copy_any (t : Nd.T) (v : Value) (w : World) (hA : Nd.At w t v) (hf : Nd.full t ≤ 1099511627) (hE : ∀ wx, Below w.heap.size w wx → Calls Tryd.prog 17 #[v] wx fun e w' => e = .returned (.bool true) ∧ Below wx.heap.size wx w') :
    Calls Tryd.prog 16 #[v] w fun e w' => ∃ v', e = .returned v' ∧ Nd.AtF w.heap.size w' t v' ∧ Below w.heap.size w w' := by
  have CA := fun (wx : World) (h : Below w.heap.size w wx) => anew_any t v wx (hA.below h) hf
  obtain ⟨sa, sc, ba, bc, rfl, _⟩ := hA.form
  generalize t.kind = sk at *
  generalize t.name = sn at *
  generalize t.text = sx at *
  generalize t.set.length = sl at *
  generalize t.subs.length = sm at *
  have HB := Lib.hid (((Below.refl _ w).alloc (Nat.le_refl _) (.cells #[.int .u8 sk, .string sn, .string sx, .slice sa sl sc, .slice ba sm bc] 26)).alloc (by rw [World.size_alloc]; omega) (.cells #[.int .u8 0, .string ⟨#[]⟩, .string ⟨#[]⟩, .slice none 0 0, .slice none 0 0] 26))
  have HK1 := Lib.hid ((Bk.made w 26 #[.int .u8 sk, .string sn, .string sx, .slice sa sl sc, .slice ba sm bc]).alloc (.cells #[.int .u8 0, .string ⟨#[]⟩, .string ⟨#[]⟩, .slice none 0 0, .slice none 0 0] 26))
  have HR1 := Lib.hid (show Bk ((w.alloc (.cells #[.int .u8 sk, .string sn, .string sx, .slice sa sl sc, .slice ba sm bc] 26)).alloc (.cells #[.int .u8 0, .string ⟨#[]⟩, .string ⟨#[]⟩, .slice none 0 0, .slice none 0 0] 26)) (w.heap.size + 1) 26 _ from by
    have := Bk.made (w.alloc (.cells #[.int .u8 sk, .string sn, .string sx, .slice sa sl sc, .slice ba sm bc] 26)) 26 #[.int .u8 0, .string ⟨#[]⟩, .string ⟨#[]⟩, .slice none 0 0, .slice none 0 0]
    rwa [World.size_alloc] at this)
  replace CA := Lib.hid CA
  replace hE := Lib.hid hE
  go_enter Tryd.func16, Tryd.ntmps16
  go_wp2_with fail
  refine (hE.out _ HB.out).mono ?_
  rintro e w3 ⟨rfl, hb⟩
  have HB3 := Lib.hid (HB.out.trans (hb.mono HB.out.size))
  have HR3 := Lib.hid (HR1.out.below hb HR1.out.lt)
  have x0 := (HK1.out.below hb HK1.out.lt).cell 0
  have x1 := (HK1.out.below hb HK1.out.lt).cell 1
  have x2 := (HK1.out.below hb HK1.out.lt).cell 2
  have x3 := (HK1.out.below hb HK1.out.lt).cell 3
  have x4 := (HK1.out.below hb HK1.out.lt).cell 4
  simp at x0 x1 x2 x3 x4
  clear hb
  go_wp2_with fail
  refine (CA.out _ HB3.out).mono ?_
  rintro e w4 ⟨v', rfl, hAF, hb⟩
  have hz3 := HR3.out.lt
  have hz4 := HB3.out.size
  obtain ⟨ua, uc, ub, ud, rfl, _⟩ := (Nd.AtF.to _ hAF).form
  have HAF := Lib.hid hAF
  have HR4 := Lib.hid (HR3.out.below hb HR3.out.lt)
  have HB4 := Lib.hid (HB3.out.trans (hb.mono HB3.out.size))
  clear hAF hb
  obtain ⟨uk, huk⟩ : ∃ x, t.kind = x := ⟨_, rfl⟩
  obtain ⟨un, hun⟩ : ∃ x, t.name = x := ⟨_, rfl⟩
  obtain ⟨ux, hux⟩ : ∃ x, t.text = x := ⟨_, rfl⟩
  obtain ⟨ul, hul⟩ : ∃ x, t.set.length = x := ⟨_, rfl⟩
  obtain ⟨um, hum⟩ : ∃ x, t.subs.length = x := ⟨_, rfl⟩
  rw [huk, hun, hux, hul, hum] at HAF ⊢
  have b0 := HR4.out.cell 0
  have b1 := HR4.out.cell 1
  have b2 := HR4.out.cell 2
  have b3 := HR4.out.cell 3
  have b4 := HR4.out.cell 4
  have c0 := HR4.out.free 0
  have c1 := HR4.out.free 1
  have c2 := HR4.out.free 2
  have c3 := HR4.out.free 3
  have c4 := HR4.out.free 4
  simp at b0 b1 b2 b3 b4
  have HR5 := Lib.hid (((((HR4.out.set 0 (.int .u8 uk)).set 1 (.string un)).set 2 (.string ux)).set 3 (.slice ua ul uc)).set 4 (.slice ub um ud))
  have HF5 := Lib.hid ((((((Nd.From.refl w3.heap.size w4).set ⟨w.heap.size + 1, 0, none⟩ (.int .u8 uk) (.inl hz3)).set ⟨w.heap.size + 1, 1, none⟩ (.string un) (.inl hz3)).set ⟨w.heap.size + 1, 2, none⟩ (.string ux) (.inl hz3)).set ⟨w.heap.size + 1, 3, none⟩ (.slice ua ul uc) (.inl hz3)).set ⟨w.heap.size + 1, 4, none⟩ (.slice ub um ud) (.inl hz3))
  have HB5 := Lib.hid (((((HB4.out.setCell (p := ⟨w.heap.size + 1, 0, none⟩) (by simp) (.int .u8 uk)).setCell (p := ⟨w.heap.size + 1, 1, none⟩) (by simp) (.string un)).setCell (p := ⟨w.heap.size + 1, 2, none⟩) (by simp) (.string ux)).setCell (p := ⟨w.heap.size + 1, 3, none⟩) (by simp) (.slice ua ul uc)).setCell (p := ⟨w.heap.size + 1, 4, none⟩) (by simp) (.slice ub um ud))
  clear huk hun hux hul hum
  go_wp2_with fail
  refine bodyPost_ret (v := .agg #[.int .u8 uk, .string un, .string ux, .slice ua ul uc, .slice ub um ud]) ?_ rfl ?_
  · have z0 := HR5.out.cell 0
    have z1 := HR5.out.cell 1
    have z2 := HR5.out.cell 2
    have z3 := HR5.out.cell 3
    have z4 := HR5.out.cell 4
    clear x0 x1 x2 x3 x4 b0 b1 b2 b3 b4 c0 c1 c2 c3 c4
    simp at z0 z1 z2 z3 z4
    simp [results, Tryd.results16, go_sem, z0, z1, z2, z3, z4]
  · exact ⟨_, rfl, Nd.AtF.keep hz4 HF5.out _ HAF.out, HB5.out⟩
end Go.Proofs.YthfkodimafmmgaaDoor
