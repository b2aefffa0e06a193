/- The contracts of nodes.write and Text: a node's text. -/
import Derived.Test.YthfkodimafmmgaaGreatDoorNdQ
namespace Go.Proofs.YthfkodimafmmgaaGreatDoor
open Go Go.RowKit Ru
set_option maxRecDepth 100000

set_option maxHeartbeats 4000000 in
theorem write_any (t : Nd.T) : WriteOk t := by
  induction t using Nd.T.ind with | _ k nm tx st sb ih => ?_
  intro w0 w v B b l hS hA hl
  have hf : Nd.full (.mk k nm tx st sb) = 1 + nm.size + tx.size + st.length + Nd.fullL sb := by simp only [Nd.full]
  have hT : Nd.txt (.mk k nm tx st sb) = if k = 0 then Nd.joinT 0 [32, 124, 32] true sb else if k = 1 then (if sb.length = 0 then [40, 41] else []) ++ Nd.joinT 1 [32] true sb else if k = 2 then Nd.firstT 2 sb ++ [63] else if k = 3 then Nd.firstT 3 sb ++ [42] else if k = 4 then Nd.firstT 4 sb ++ [43] else if k = 5 ∨ k = 6 then nm.data.toList else if k = 7 then [40] ++ Nd.firstT 7 sb ++ [41, 32, 61, 62] else if k = 8 then [39] ++ Nd.lit tx.data.toList ++ [39] else if k = 9 then [91] ++ Nd.rgT st ++ [93] else [] := by simp only [Nd.txt]
  rw [hT]
  rw [hf] at hl
  have hjl := fun (sep : List UInt8) (h : sep.length ≤ 3) => Nd.joinT_len k sep h true sb
  have hfl := Nd.firstT_len k sb
  have CJ := fun (sep : ByteArray) (hsep : sep.size ≤ 3) (wx : World) (dd : List UInt8) (h : Seat w0 wx B b dd) (hd : dd.length ≤ l.length + 4) => join_of k nm tx st sb ih sep hsep w0 wx v B b dd h hA (by omega)
  have CF := fun (wx : World) (dd : List UInt8) (h : Seat w0 wx B b dd) (hd : dd.length ≤ l.length + 4) => first_of k nm tx st sb ih w0 wx v B b dd h hA (by omega)
  have CB := fun (c : UInt8) (wx : World) (dd : List UInt8) (h : Seat w0 wx B b dd) (hd : dd.length ≤ 1099511627776) => putByte B b dd c _ rfl wx h.bd hd h.hBw
  have CS := fun (s : ByteArray) (wx : World) (dd : List UInt8) (h : Seat w0 wx B b dd) (hd : dd.length ≤ 1099511627776) (hs : s.size ≤ 1099511627776) => putText B b dd s wx h.bd hd hs h.hBw
  have CL := fun (wx : World) (dd : List UInt8) (h : Seat w0 wx B b dd) (hd : dd.length ≤ 549755813888) => literal_any tx w0 wx B b dd h.env h.bel h.hB0 h.hBw (by omega) hd h.bd
  have hll := Nd.lit_len tx.data.toList
  rw [← Lib.size_eq] at hll
  have hrl := Nd.rgT_len st
  unfold Nd.At at hA
  obtain ⟨sa, sc, ba, bc, rfl, hk, _, _, hsc, hbc, hR, _⟩ := hA
  have CR := fun (wx : World) (dd : List UInt8) (h : Seat w0 wx B b dd) (hd : dd.length ≤ 549755813888) => ranges_any st sa sc w0 wx B b dd h.env h.bel h.hB0 h.hBw hR (by omega) hd h.bd h.lt
  obtain ⟨SL, hSL⟩ : ∃ k, st.length = k := ⟨_, rfl⟩
  obtain ⟨SN, hSN⟩ : ∃ k, sb.length = k := ⟨_, rfl⟩
  obtain ⟨FL, hFL⟩ : ∃ k, Nd.fullL sb = k := ⟨_, rfl⟩
  rw [hSL] at hl hrl CJ CF CR ⊢
  rw [hSN] at CJ CF ⊢
  rw [hFL] at hl hjl hfl
  have HS1 := Lib.hid (hS.alloc (.cells #[.int .u8 k, .string nm, .string tx, .slice sa SL sc, .slice ba SN bc] 26))
  have HK1 := Lib.hid (Kept.alloc (b := b) w hS.hBw (.cells #[.int .u8 k, .string nm, .string tx, .slice sa SL sc, .slice ba SN bc] 26))
  have HW1 := Lib.hid (Bk.made w 26 #[.int .u8 k, .string nm, .string tx, .slice sa SL sc, .slice ba SN bc])
  have hwn : w.heap.size ≠ b := by have := hS.lt; omega
  have hns := Lib.size_eq nm
  have z0 : ((SN : Int) == 0) = decide (SN = 0) := beq_zero SN
  replace CJ := Lib.hid CJ
  replace CF := Lib.hid CF
  replace CB := Lib.hid CB
  replace CS := Lib.hid CS
  replace CL := Lib.hid CL
  replace CR := Lib.hid CR
  clear hS hT hf ih hR hSL hSN hFL
  by_cases k0 : k = 0
  · subst k0
    rw [if_pos rfl]
    have hj := hjl [32, 124, 32] (by simp)
    go_enter Tryz.func28, Tryz.ntmps28
    go_wp2_with fail
    refine (CJ.out ⟨#[32, 124, 32]⟩ (by decide) _ l HS1.out (by omega)).mono ?_
    rintro e w2a ⟨⟨_, rfl⟩, hb, hk'⟩
    have HS2 := Lib.hid (HS1.out.step hb hk')
    have HK2 := Lib.hid (HK1.out.trans hk')
    have HW2 := Lib.hid (hk'.bk HW1.out hwn (by decide))
    have p2_0 := HW2.out.cell 0
    have p2_1 := HW2.out.cell 1
    have p2_2 := HW2.out.cell 2
    have p2_3 := HW2.out.cell 3
    have p2_4 := HW2.out.cell 4
    simp at p2_0 p2_1 p2_2 p2_3 p2_4
    clear hb hk'
    go_wp2_with fail
    go_end0
    exact ⟨⟨_, rfl⟩, by simpa using HS2.out.bd, HK2.out⟩
  rw [if_neg k0]
  have q0 : (k == 0) = false := by rw [beq_eq_false_iff_ne]; exact k0
  by_cases k1 : k = 1
  · subst k1
    rw [if_pos rfl]
    have hj := hjl [32] (by simp)
    by_cases hz : SN = 0
    · subst hz
      rw [if_pos rfl]
      go_enter Tryz.func28, Tryz.ntmps28
      go_wp2_with fail
      refine (CS.out ⟨#[40, 41]⟩ _ l HS1.out (by omega) (by decide)).mono ?_
      rintro e w2a ⟨⟨_, rfl⟩, hb, hk'⟩
      have HS2 := Lib.hid (HS1.out.step hb hk')
      have HK2 := Lib.hid (HK1.out.trans hk')
      have HW2 := Lib.hid (hk'.bk HW1.out hwn (by decide))
      have p2_0 := HW2.out.cell 0
      have p2_1 := HW2.out.cell 1
      have p2_2 := HW2.out.cell 2
      have p2_3 := HW2.out.cell 3
      have p2_4 := HW2.out.cell 4
      simp at p2_0 p2_1 p2_2 p2_3 p2_4
      clear hb hk'
      go_wp2_with fail
      refine (CJ.out ⟨#[32]⟩ (by decide) _ (l ++ [40, 41]) HS2.out (by simp)).mono ?_
      rintro e w3a ⟨⟨_, rfl⟩, hb, hk'⟩
      have HS3 := Lib.hid (HS2.out.step hb hk')
      have HK3 := Lib.hid (HK2.out.trans hk')
      have HW3 := Lib.hid (hk'.bk HW2.out hwn (by decide))
      have p3_0 := HW3.out.cell 0
      have p3_1 := HW3.out.cell 1
      have p3_2 := HW3.out.cell 2
      have p3_3 := HW3.out.cell 3
      have p3_4 := HW3.out.cell 4
      simp at p3_0 p3_1 p3_2 p3_3 p3_4
      clear hb hk'
      go_wp2_with fail
      go_end0
      exact ⟨⟨_, rfl⟩, by simpa using HS3.out.bd, HK3.out⟩
    · rw [if_neg hz]
      rw [decide_eq_false hz] at z0
      go_enter Tryz.func28, Tryz.ntmps28
      go_wp2_with fail
      refine (CJ.out ⟨#[32]⟩ (by decide) _ l HS1.out (by omega)).mono ?_
      rintro e w2a ⟨⟨_, rfl⟩, hb, hk'⟩
      have HS2 := Lib.hid (HS1.out.step hb hk')
      have HK2 := Lib.hid (HK1.out.trans hk')
      have HW2 := Lib.hid (hk'.bk HW1.out hwn (by decide))
      have p2_0 := HW2.out.cell 0
      have p2_1 := HW2.out.cell 1
      have p2_2 := HW2.out.cell 2
      have p2_3 := HW2.out.cell 3
      have p2_4 := HW2.out.cell 4
      simp at p2_0 p2_1 p2_2 p2_3 p2_4
      clear hb hk'
      go_wp2_with fail
      go_end0
      exact ⟨⟨_, rfl⟩, by simpa using HS2.out.bd, HK2.out⟩
  rw [if_neg k1]
  have q1 : (k == 1) = false := by rw [beq_eq_false_iff_ne]; exact k1
  by_cases k2 : k = 2
  · subst k2
    rw [if_pos rfl]
    go_enter Tryz.func28, Tryz.ntmps28
    go_wp2_with fail
    refine (CF.out _ l HS1.out (by omega)).mono ?_
    rintro e w2a ⟨⟨_, rfl⟩, hb, hk'⟩
    have HS2 := Lib.hid (HS1.out.step hb hk')
    have HK2 := Lib.hid (HK1.out.trans hk')
    have HW2 := Lib.hid (hk'.bk HW1.out hwn (by decide))
    have p2_0 := HW2.out.cell 0
    have p2_1 := HW2.out.cell 1
    have p2_2 := HW2.out.cell 2
    have p2_3 := HW2.out.cell 3
    have p2_4 := HW2.out.cell 4
    simp at p2_0 p2_1 p2_2 p2_3 p2_4
    clear hb hk'
    go_wp2_with fail
    refine (CB.out 63 _ (l ++ Nd.firstT 2 sb) HS2.out (by simp; omega)).mono ?_
    rintro e w3a ⟨⟨_, rfl⟩, hb, hk'⟩
    have HS3 := Lib.hid (HS2.out.step hb hk')
    have HK3 := Lib.hid (HK2.out.trans hk')
    have HW3 := Lib.hid (hk'.bk HW2.out hwn (by decide))
    have p3_0 := HW3.out.cell 0
    have p3_1 := HW3.out.cell 1
    have p3_2 := HW3.out.cell 2
    have p3_3 := HW3.out.cell 3
    have p3_4 := HW3.out.cell 4
    simp at p3_0 p3_1 p3_2 p3_3 p3_4
    clear hb hk'
    go_wp2_with fail
    go_end0
    exact ⟨⟨_, rfl⟩, by simpa using HS3.out.bd, HK3.out⟩
  rw [if_neg k2]
  have q2 : (k == 2) = false := by rw [beq_eq_false_iff_ne]; exact k2
  by_cases k3 : k = 3
  · subst k3
    rw [if_pos rfl]
    go_enter Tryz.func28, Tryz.ntmps28
    go_wp2_with fail
    refine (CF.out _ l HS1.out (by omega)).mono ?_
    rintro e w2a ⟨⟨_, rfl⟩, hb, hk'⟩
    have HS2 := Lib.hid (HS1.out.step hb hk')
    have HK2 := Lib.hid (HK1.out.trans hk')
    have HW2 := Lib.hid (hk'.bk HW1.out hwn (by decide))
    have p2_0 := HW2.out.cell 0
    have p2_1 := HW2.out.cell 1
    have p2_2 := HW2.out.cell 2
    have p2_3 := HW2.out.cell 3
    have p2_4 := HW2.out.cell 4
    simp at p2_0 p2_1 p2_2 p2_3 p2_4
    clear hb hk'
    go_wp2_with fail
    refine (CB.out 42 _ (l ++ Nd.firstT 3 sb) HS2.out (by simp; omega)).mono ?_
    rintro e w3a ⟨⟨_, rfl⟩, hb, hk'⟩
    have HS3 := Lib.hid (HS2.out.step hb hk')
    have HK3 := Lib.hid (HK2.out.trans hk')
    have HW3 := Lib.hid (hk'.bk HW2.out hwn (by decide))
    have p3_0 := HW3.out.cell 0
    have p3_1 := HW3.out.cell 1
    have p3_2 := HW3.out.cell 2
    have p3_3 := HW3.out.cell 3
    have p3_4 := HW3.out.cell 4
    simp at p3_0 p3_1 p3_2 p3_3 p3_4
    clear hb hk'
    go_wp2_with fail
    go_end0
    exact ⟨⟨_, rfl⟩, by simpa using HS3.out.bd, HK3.out⟩
  rw [if_neg k3]
  have q3 : (k == 3) = false := by rw [beq_eq_false_iff_ne]; exact k3
  by_cases k4 : k = 4
  · subst k4
    rw [if_pos rfl]
    go_enter Tryz.func28, Tryz.ntmps28
    go_wp2_with fail
    refine (CF.out _ l HS1.out (by omega)).mono ?_
    rintro e w2a ⟨⟨_, rfl⟩, hb, hk'⟩
    have HS2 := Lib.hid (HS1.out.step hb hk')
    have HK2 := Lib.hid (HK1.out.trans hk')
    have HW2 := Lib.hid (hk'.bk HW1.out hwn (by decide))
    have p2_0 := HW2.out.cell 0
    have p2_1 := HW2.out.cell 1
    have p2_2 := HW2.out.cell 2
    have p2_3 := HW2.out.cell 3
    have p2_4 := HW2.out.cell 4
    simp at p2_0 p2_1 p2_2 p2_3 p2_4
    clear hb hk'
    go_wp2_with fail
    refine (CB.out 43 _ (l ++ Nd.firstT 4 sb) HS2.out (by simp; omega)).mono ?_
    rintro e w3a ⟨⟨_, rfl⟩, hb, hk'⟩
    have HS3 := Lib.hid (HS2.out.step hb hk')
    have HK3 := Lib.hid (HK2.out.trans hk')
    have HW3 := Lib.hid (hk'.bk HW2.out hwn (by decide))
    have p3_0 := HW3.out.cell 0
    have p3_1 := HW3.out.cell 1
    have p3_2 := HW3.out.cell 2
    have p3_3 := HW3.out.cell 3
    have p3_4 := HW3.out.cell 4
    simp at p3_0 p3_1 p3_2 p3_3 p3_4
    clear hb hk'
    go_wp2_with fail
    go_end0
    exact ⟨⟨_, rfl⟩, by simpa using HS3.out.bd, HK3.out⟩
  rw [if_neg k4]
  have q4 : (k == 4) = false := by rw [beq_eq_false_iff_ne]; exact k4
  by_cases k5 : k = 5 ∨ k = 6
  · rw [if_pos k5]
    rcases k5 with rfl | rfl
    all_goals
      go_enter Tryz.func28, Tryz.ntmps28
      go_wp2_with fail
      refine (CS.out nm _ l HS1.out (by omega) (by omega)).mono ?_
      rintro e w2a ⟨⟨_, rfl⟩, hb, hk'⟩
      have HS2 := Lib.hid (HS1.out.step hb hk')
      have HK2 := Lib.hid (HK1.out.trans hk')
      have HW2 := Lib.hid (hk'.bk HW1.out hwn (by decide))
      have p2_0 := HW2.out.cell 0
      have p2_1 := HW2.out.cell 1
      have p2_2 := HW2.out.cell 2
      have p2_3 := HW2.out.cell 3
      have p2_4 := HW2.out.cell 4
      simp at p2_0 p2_1 p2_2 p2_3 p2_4
      clear hb hk'
      go_wp2_with fail
      go_end0
      exact ⟨⟨_, rfl⟩, by simpa using HS2.out.bd, HK2.out⟩
  rw [if_neg k5]
  have q5 : (k == 5) = false := by rw [beq_eq_false_iff_ne]; exact fun h => k5 (.inl h)
  have q6 : (k == 6) = false := by rw [beq_eq_false_iff_ne]; exact fun h => k5 (.inr h)
  by_cases k7 : k = 7
  · subst k7
    rw [if_pos rfl]
    go_enter Tryz.func28, Tryz.ntmps28
    go_wp2_with fail
    refine (CB.out 40 _ l HS1.out (by omega)).mono ?_
    rintro e w2a ⟨⟨_, rfl⟩, hb, hk'⟩
    have HS2 := Lib.hid (HS1.out.step hb hk')
    have HK2 := Lib.hid (HK1.out.trans hk')
    have HW2 := Lib.hid (hk'.bk HW1.out hwn (by decide))
    have p2_0 := HW2.out.cell 0
    have p2_1 := HW2.out.cell 1
    have p2_2 := HW2.out.cell 2
    have p2_3 := HW2.out.cell 3
    have p2_4 := HW2.out.cell 4
    simp at p2_0 p2_1 p2_2 p2_3 p2_4
    clear hb hk'
    go_wp2_with fail
    refine (CF.out _ (l ++ [40]) HS2.out (by simp)).mono ?_
    rintro e w3a ⟨⟨_, rfl⟩, hb, hk'⟩
    have HS3 := Lib.hid (HS2.out.step hb hk')
    have HK3 := Lib.hid (HK2.out.trans hk')
    have HW3 := Lib.hid (hk'.bk HW2.out hwn (by decide))
    have p3_0 := HW3.out.cell 0
    have p3_1 := HW3.out.cell 1
    have p3_2 := HW3.out.cell 2
    have p3_3 := HW3.out.cell 3
    have p3_4 := HW3.out.cell 4
    simp at p3_0 p3_1 p3_2 p3_3 p3_4
    clear hb hk'
    go_wp2_with fail
    refine (CS.out ⟨#[41, 32, 61, 62]⟩ _ (l ++ [40] ++ Nd.firstT 7 sb) HS3.out (by simp; omega) (by decide)).mono ?_
    rintro e w4a ⟨⟨_, rfl⟩, hb, hk'⟩
    have HS4 := Lib.hid (HS3.out.step hb hk')
    have HK4 := Lib.hid (HK3.out.trans hk')
    have HW4 := Lib.hid (hk'.bk HW3.out hwn (by decide))
    have p4_0 := HW4.out.cell 0
    have p4_1 := HW4.out.cell 1
    have p4_2 := HW4.out.cell 2
    have p4_3 := HW4.out.cell 3
    have p4_4 := HW4.out.cell 4
    simp at p4_0 p4_1 p4_2 p4_3 p4_4
    clear hb hk'
    go_wp2_with fail
    go_end0
    exact ⟨⟨_, rfl⟩, by simpa using HS4.out.bd, HK4.out⟩
  rw [if_neg k7]
  have q7 : (k == 7) = false := by rw [beq_eq_false_iff_ne]; exact k7
  by_cases k8 : k = 8
  · subst k8
    rw [if_pos rfl]
    go_enter Tryz.func28, Tryz.ntmps28
    go_wp2_with fail
    refine (CB.out 39 _ l HS1.out (by omega)).mono ?_
    rintro e w2a ⟨⟨_, rfl⟩, hb, hk'⟩
    have HS2 := Lib.hid (HS1.out.step hb hk')
    have HK2 := Lib.hid (HK1.out.trans hk')
    have HW2 := Lib.hid (hk'.bk HW1.out hwn (by decide))
    have p2_0 := HW2.out.cell 0
    have p2_1 := HW2.out.cell 1
    have p2_2 := HW2.out.cell 2
    have p2_3 := HW2.out.cell 3
    have p2_4 := HW2.out.cell 4
    simp at p2_0 p2_1 p2_2 p2_3 p2_4
    clear hb hk'
    go_wp2_with fail
    refine (CL.out _ (l ++ [39]) HS2.out (by simp; omega)).mono ?_
    rintro e w3a ⟨⟨_, rfl⟩, hb, hk'⟩
    have HS3 := Lib.hid (HS2.out.step hb hk')
    have HK3 := Lib.hid (HK2.out.trans hk')
    have HW3 := Lib.hid (hk'.bk HW2.out hwn (by decide))
    have p3_0 := HW3.out.cell 0
    have p3_1 := HW3.out.cell 1
    have p3_2 := HW3.out.cell 2
    have p3_3 := HW3.out.cell 3
    have p3_4 := HW3.out.cell 4
    simp at p3_0 p3_1 p3_2 p3_3 p3_4
    clear hb hk'
    go_wp2_with fail
    refine (CB.out 39 _ (l ++ [39] ++ Nd.lit tx.data.toList) HS3.out (by simp; omega)).mono ?_
    rintro e w4a ⟨⟨_, rfl⟩, hb, hk'⟩
    have HS4 := Lib.hid (HS3.out.step hb hk')
    have HK4 := Lib.hid (HK3.out.trans hk')
    have HW4 := Lib.hid (hk'.bk HW3.out hwn (by decide))
    have p4_0 := HW4.out.cell 0
    have p4_1 := HW4.out.cell 1
    have p4_2 := HW4.out.cell 2
    have p4_3 := HW4.out.cell 3
    have p4_4 := HW4.out.cell 4
    simp at p4_0 p4_1 p4_2 p4_3 p4_4
    clear hb hk'
    go_wp2_with fail
    go_end0
    exact ⟨⟨_, rfl⟩, by simpa using HS4.out.bd, HK4.out⟩
  rw [if_neg k8]
  have q8 : (k == 8) = false := by rw [beq_eq_false_iff_ne]; exact k8
  by_cases k9 : k = 9
  · subst k9
    rw [if_pos rfl]
    go_enter Tryz.func28, Tryz.ntmps28
    go_wp2_with fail
    refine (CB.out 91 _ l HS1.out (by omega)).mono ?_
    rintro e w2a ⟨⟨_, rfl⟩, hb, hk'⟩
    have HS2 := Lib.hid (HS1.out.step hb hk')
    have HK2 := Lib.hid (HK1.out.trans hk')
    have HW2 := Lib.hid (hk'.bk HW1.out hwn (by decide))
    have p2_0 := HW2.out.cell 0
    have p2_1 := HW2.out.cell 1
    have p2_2 := HW2.out.cell 2
    have p2_3 := HW2.out.cell 3
    have p2_4 := HW2.out.cell 4
    simp at p2_0 p2_1 p2_2 p2_3 p2_4
    clear hb hk'
    go_wp2_with fail
    refine (CR.out _ (l ++ [91]) HS2.out (by simp; omega)).mono ?_
    rintro e w3a ⟨⟨_, rfl⟩, hb, hk'⟩
    have HS3 := Lib.hid (HS2.out.step hb hk')
    have HK3 := Lib.hid (HK2.out.trans hk')
    have HW3 := Lib.hid (hk'.bk HW2.out hwn (by decide))
    have p3_0 := HW3.out.cell 0
    have p3_1 := HW3.out.cell 1
    have p3_2 := HW3.out.cell 2
    have p3_3 := HW3.out.cell 3
    have p3_4 := HW3.out.cell 4
    simp at p3_0 p3_1 p3_2 p3_3 p3_4
    clear hb hk'
    go_wp2_with fail
    refine (CB.out 93 _ (l ++ [91] ++ Nd.rgT st) HS3.out (by simp; omega)).mono ?_
    rintro e w4a ⟨⟨_, rfl⟩, hb, hk'⟩
    have HS4 := Lib.hid (HS3.out.step hb hk')
    have HK4 := Lib.hid (HK3.out.trans hk')
    have HW4 := Lib.hid (hk'.bk HW3.out hwn (by decide))
    have p4_0 := HW4.out.cell 0
    have p4_1 := HW4.out.cell 1
    have p4_2 := HW4.out.cell 2
    have p4_3 := HW4.out.cell 3
    have p4_4 := HW4.out.cell 4
    simp at p4_0 p4_1 p4_2 p4_3 p4_4
    clear hb hk'
    go_wp2_with fail
    go_end0
    exact ⟨⟨_, rfl⟩, by simpa using HS4.out.bd, HK4.out⟩
  rw [if_neg k9]
  have q9 : (k == 9) = false := by rw [beq_eq_false_iff_ne]; exact k9
  go_enter Tryz.func28, Tryz.ntmps28
  go_wp2_with fail
  go_end0
  exact ⟨⟨_, rfl⟩, by simpa using HS1.out.bd, HK1.out⟩
set_option maxHeartbeats 1000000 in
theorem NText_any (t : Nd.T) (v : Value) (w : World) (hE : Env w) (hA : Nd.At w t v) (hd : Nd.deep t ≤ 100000) (hc : Nd.count t ≤ 1099511627776) (hf : 30 * Nd.full t ≤ 1099511627) :
    Calls Tryz.prog 16 #[v] w fun e w' => e = .returned (.string ⟨(Nd.txt t).toArray⟩) ∧ Below w.heap.size w w' := by
  have hC := fun o => ends_any t v (w.alloc o) (hA.below ((Below.refl _ w).alloc (Nat.le_refl _) o)) hd hc
  have CW := fun (wx : World) (B b : Nat) (h : Seat w wx B b []) => write_any t w wx v B b [] h hA (by simpa using hf)
  obtain ⟨TX, hTX⟩ : ∃ x, Nd.txt t = x := ⟨_, rfl⟩
  rw [hTX] at CW ⊢
  obtain ⟨sa, sc, ba, bc, rfl, _⟩ := hA.form
  generalize t.kind = sk at *
  generalize t.name = sn at *
  generalize t.text = sx at *
  generalize t.set.length = sl at *
  generalize t.subs.length = sm at *
  have HB1 := Lib.hid (show Below w.heap.size w (w.alloc (.cells #[.int .u8 sk, .string sn, .string sx, .slice sa sl sc, .slice ba sm bc] 26)) from (Below.refl _ w).alloc (Nat.le_refl _) _)
  have HW1 := Lib.hid (Bk.made w 26 #[.int .u8 sk, .string sn, .string sx, .slice sa sl sc, .slice ba sm bc])
  have HE := Lib.hid hE
  replace hC := Lib.hid hC
  replace CW := Lib.hid CW
  clear hE hTX
  go_enter Tryz.func16, Tryz.ntmps16
  go_wp2_with fail
  refine (hC.out _).mono ?_
  rintro e w2 ⟨rfl, hb2⟩
  have HB2 := Lib.hid (HB1.out.trans (hb2.mono HB1.out.size))
  have HW2 := Lib.hid ((HW1.out.below hb2 HW1.out.lt).alloc (.cells #[.pointer none, .slice none 0 0] 48))
  have hz2 := HB2.out.size
  have hfb := Lib.IsBuilderF.of (Lib.fresh_isBuilder 48 5 w2)
  have HS2 : Hid (Seat w (w2.alloc (.cells #[.pointer none, .slice none 0 0] 48)) w2.heap.size w2.heap.size []) := Lib.hid ⟨HE.out, HB2.out.alloc hz2 _, hz2, by simp, by simp, hfb⟩
  have e0 := HW2.out.cell 0
  have e1 := HW2.out.cell 1
  have e2 := HW2.out.cell 2
  have e3 := HW2.out.cell 3
  have e4 := HW2.out.cell 4
  simp at e0 e1 e2 e3 e4
  clear hb2 hfb
  go_wp2_with fail
  refine (CW.out _ _ _ HS2.out).mono ?_
  rintro e w3 ⟨⟨_, rfl⟩, hb3, hk3⟩
  have hst := Tryz.Builder_String_any_k w2.heap.size w2.heap.size TX w3 (by simpa [Bd] using hb3) (by have := hk3.1.size; rw [World.size_alloc] at this; omega)
  have HST := Lib.hid hst
  have HB3 := Lib.hid (HS2.out.bel.trans (hk3.1.mono hz2))
  clear hst hb3 hk3
  go_wp2_with fail
  refine HST.out.mono ?_
  rintro e w4 ⟨rfl, _, hb4, _⟩
  go_wp2_with fail
  go_ret
  exact ⟨rfl, HB3.out.trans (hb4.mono hz2)⟩
end Go.Proofs.YthfkodimafmmgaaGreatDoor
