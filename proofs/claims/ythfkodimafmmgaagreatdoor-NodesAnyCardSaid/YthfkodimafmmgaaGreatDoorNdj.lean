/- The chapter's own Text: a node's text, where it is plain. -/
import Derived.Test.YthfkodimafmmgaaGreatDoorNdi
import Derived.Lib.TrimUEq
import Derived.Lib.OthersKept
import Derived.Deep.RegionHeld3
import Derived.Deep.RegionWith
import Derived.Deep.DeepCutAuto
namespace Go.Proofs.YthfkodimafmmgaaGreatDoor
open Go Go.RowKit Ru
set_option maxRecDepth 100000

namespace Nd
theorem bd_move : ∀ (f : Nat) (l : List UInt8) (k j : Nat), bd f l k = -1 → bd f l j = -1
  | 0, _, _, _, _ => rfl
  | f + 1, l, k, j, h => by
    unfold bd at h ⊢
    split at h
    · rename_i hl
      rw [if_pos hl]
    · rename_i hl
      rw [if_neg hl]
      split at h
      · omega
      · rename_i hd
        rw [if_neg hd]
        exact bd_move f _ _ _ h
theorem bad_step {l : List UInt8} (hl : l ≠ []) (h : bad l = -1) : Lib.decodeL l ≠ (65533, 1) ∧ bad (l.drop (Lib.decodeL l).2) = -1 := by
  unfold bad at h ⊢
  rw [bd_step _ l 0 hl (Nat.le_refl _)] at h
  by_cases hd : Lib.decodeL l = (65533, 1)
  · rw [if_pos hd] at h; cases h
  · rw [if_neg hd] at h
    refine ⟨hd, ?_⟩
    have e := bd_fuel l.length (l.drop (Lib.decodeL l).2).length (l.drop (Lib.decodeL l).2) (0 + (Lib.decodeL l).2) (by rw [List.length_drop]; omega) (Nat.le_refl _)
    rw [e] at h
    rcases bd_range (l.drop (Lib.decodeL l).2).length (l.drop (Lib.decodeL l).2) 0 with h1 | h1
    · exact h1
    · have := bd_move (l.drop (Lib.decodeL l).2).length (l.drop (Lib.decodeL l).2) (0 + (Lib.decodeL l).2) 0 h
      exact this
end Nd
set_option maxHeartbeats 4000000 in
theorem rtext_alts (nm tx : ByteArray) (sa ba : Option Addr) (SL sc SN bc : Nat) (w : World) (Z : ByteArray) (hsn : SN ≤ 140737488351232) (hn : 1 ≤ SN) (sb : List Nd.T) (hsb : sb.length = SN) (hR : Nd.AtL w sb ba) (hZ : Z.data.toList = Nd.joinT 0 [32, 124, 32] true sb) (hZs : Z.size ≤ 100000)
    (hCI : ∀ s ∈ sb, ∀ (v : Value) (wx : World), Nd.At wx s v → Calls Tryz.prog 43 #[v, .int .u8 0] wx fun e w' => e = .returned (.string ⟨(Nd.subT 0 s).toArray⟩) ∧ Below wx.heap.size wx w') :
    Calls Tryz.prog 26 #[.agg #[.int .u8 0, .string nm, .string tx, .slice sa SL sc, .slice ba SN bc]] w fun e w' => e = .returned (.string Z) ∧ Below w.heap.size w w' := by
  have HB := Lib.hid (show Below w.heap.size w (w.alloc (.cells #[.int .u8 0, .string nm, .string tx, .slice sa SL sc, .slice ba SN bc] 26)) from (Below.refl _ w).alloc (Nat.le_refl _) _)
  have HBk := Lib.hid (Bk.made w 26 #[.int .u8 0, .string nm, .string tx, .slice sa SL sc, .slice ba SN bc])
  have HN := Lib.hid hsb
  have HL := Lib.hid hR
  have HZ := Lib.hid hZ
  have n1 : (SN : Int) ≤ 9223372036854775807 := by omega
  have n0 : ((SN : Int) == 0) = false := by rw [beq_zero]; exact decide_eq_false (by omega)
  have HCI := Lib.hid hCI
  have hzl := Lib.size_eq Z
  have HZL := Lib.hid hzl
  clear hR hZ hsb hCI hzl
  go_enter Tryz.func26, Tryz.ntmps26
  go_wp2_with fail
  go_loopw [3, 4] (fun s i wr => ∃ (p : Nat) (V : ByteArray), p ≤ SN ∧ i = .int .i64 p ∧ s = .string V ∧ Hid (V.data.toList ++ Nd.joinT 0 [32, 124, 32] (decide (p = 0)) (sb.drop p) = Z.data.toList) ∧ Bk wr w.heap.size 26 #[.int .u8 0, .string nm, .string tx, .slice sa SL sc, .slice ba SN bc] ∧ Below w.heap.size w wr) (fun _ i _ => SN - (intOf i).toNat)
  case atStart => exact ⟨0, ⟨#[]⟩, Nat.zero_le _, rfl, rfl, Lib.hid (by rw [HZ.out]; rfl), HBk.out, HB.out⟩
  case round =>
    obtain ⟨p, V, hp, rfl, rfl, hT, hK, hB⟩ := hrel
    have c0 := hK.cell 0
    have c4 := hK.cell 4
    simp at c0 c4
    have hVl : V.size ≤ 100000 := by
      have h1 := congrArg List.length hT.out
      have h2 := Lib.size_eq V
      have h3 := HZL.out
      rw [List.length_append] at h1
      omega
    by_cases hlt : p < SN
    · have d0 : decide (p < SN) = true := by rw [decide_eq_true_iff]; exact hlt
      have a0 : (p : Int) < (SN : Int) := by omega
      obtain ⟨s, hs⟩ : ∃ s, sb[p]? = some s := ⟨_, List.getElem?_eq_getElem (by rw [HN.out]; exact hlt)⟩
      obtain ⟨g, o, v0, v1, v2, v3, v4, rfl, h0, h1, h2, h3, h4, _, hAs⟩ := HL.out.val p s hs
      replace h0 := Nd.cell_keeps hB h0
      replace h1 := Nd.cell_keeps hB h1
      replace h2 := Nd.cell_keeps hB h2
      replace h3 := Nd.cell_keeps hB h3
      replace h4 := Nd.cell_keeps hB h4
      have hst := hT.out
      rw [Nd.drop_some hs, Nd.joinT_cons] at hst
      obtain ⟨SB, hSB⟩ : ∃ b, (⟨(Nd.subT 0 s).toArray⟩ : ByteArray) = b := ⟨_, rfl⟩
      have hSBl : SB.data.toList = Nd.subT 0 s := by rw [← hSB]
      have C := fun (wx : World) (b : Below wr.heap.size wr wx) => (HCI.out s (List.mem_of_getElem? hs) _ wx ((hAs.below hB).below b)).mono (R' := fun e w' => e = .returned (.string SB) ∧ Below wr.heap.size wr w') fun e w' q => ⟨by rw [q.1, hSB], b.trans (q.2.mono b.size)⟩
      rw [← hSBl] at hst
      have hSz : SB.size ≤ 100000 := by
        have h1 := congrArg List.length hst
        have h2 := Lib.size_eq SB
        have h3 := HZL.out
        simp only [List.length_append] at h1
        omega
      have HKP := Lib.hid (fun w3 (b : Below wr.heap.size wr w3) => And.intro (hK.below b hK.lt) (hB.trans (b.mono hB.size)))
      obtain ⟨sa1, sc1, ba1, bc1, rfl, rfl, rfl, rfl, rfl⟩ := hAs.five
      generalize s.kind = sk at *
      generalize s.name = sn at *
      generalize s.text = sx at *
      generalize s.set.length = sl at *
      generalize s.subs.length = sm at *
      replace C := Lib.hid C
      have HST := Lib.hid hst
      clear hs hAs hSB hSBl hst hT
      by_cases h00 : p = 0
      · have z0 : decide ((0 : Int) < (p : Int)) = false := by rw [decide_eq_false_iff_not]; omega
        have z1 : decide (0 < p) = false := by rw [decide_eq_false_iff_not]; omega
        have HT := Lib.hid (show (V ++ SB).data.toList ++ Nd.joinT 0 [32, 124, 32] (decide (p + 1 = 0)) (sb.drop (p + 1)) = Z.data.toList from by
          rw [← HST.out, decide_eq_true h00, decide_eq_false (p := p + 1 = 0) (by omega)]
          simp)
        have a1 := str_add V SB (by omega) (by omega)
        clear h00
        go_upto_region 14 with fail
        go_region_held3 (fun w' => w'.cell? ⟨w.heap.size, 0, none⟩ = some (.int .u8 0) ∧ w'.cell? ⟨w.heap.size, 4, none⟩ = some (.slice (some ⟨g, o, none⟩) SN bc) ∧ w'.cell? ⟨g, o + p * 5, none⟩ = some (.int .u8 sk) ∧ w'.cell? ⟨g, o + p * 5 + 1, none⟩ = some (.string sn) ∧ w'.cell? ⟨g, o + p * 5 + 2, none⟩ = some (.string sx) ∧ w'.cell? ⟨g, o + p * 5 + 3, none⟩ = some (.slice sa1 sl sc1) ∧ w'.cell? ⟨g, o + p * 5 + 4, none⟩ = some (.slice ba1 sm bc1)) (go_keep)
          (first | (go_at_call 43; refine (C.out _ (by exact ⟨rfl, rfl, rfl, Nat.le_refl _, fun _ _ => rfl⟩)).mono ?_; rintro e w3 ⟨rfl, b3⟩; have k0 : w3.cell? ⟨w.heap.size, 0, none⟩ = some (.int .u8 0) := Nd.cell_keeps b3 c0; have k4 : w3.cell? ⟨w.heap.size, 4, none⟩ = some (.slice (some ⟨g, o, none⟩) SN bc) := Nd.cell_keeps b3 c4; have j0 : w3.cell? ⟨g, o + p * 5, none⟩ = some (.int .u8 sk) := Nd.cell_keeps b3 h0; have j1 : w3.cell? ⟨g, o + p * 5 + 1, none⟩ = some (.string sn) := Nd.cell_keeps b3 h1; have j2 : w3.cell? ⟨g, o + p * 5 + 2, none⟩ = some (.string sx) := Nd.cell_keeps b3 h2; have j3 : w3.cell? ⟨g, o + p * 5 + 3, none⟩ = some (.slice sa1 sl sc1) := Nd.cell_keeps b3 h3; have j4 : w3.cell? ⟨g, o + p * 5 + 4, none⟩ = some (.slice ba1 sm bc1) := Nd.cell_keeps b3 h4))
        have HX := Lib.hid (HKP.out _ b3)
        clear c0 c4 h0 h1 h2 h3 h4 k0 k4 j0 j1 j2 j3 j4 b3
        go_wp2_with fail
        exact ⟨⟨p + 1, V ++ SB, by omega, by go_num, rfl, HT, HX.out.1, HX.out.2⟩, by simp [intOf]; omega⟩
      · have z0 : decide ((0 : Int) < (p : Int)) = true := by rw [decide_eq_true_iff]; omega
        have z1 : decide (0 < p) = true := by rw [decide_eq_true_iff]; omega
        have HT := Lib.hid (show (V ++ ⟨#[32, 124, 32]⟩ ++ SB).data.toList ++ Nd.joinT 0 [32, 124, 32] (decide (p + 1 = 0)) (sb.drop (p + 1)) = Z.data.toList from by
          rw [← HST.out, decide_eq_false h00, decide_eq_false (p := p + 1 = 0) (by omega)]
          simp)
        have a1 := str_add V ⟨#[32, 124, 32]⟩ (by omega) (by decide)
        have hz3 : (⟨#[32, 124, 32]⟩ : ByteArray).size ≤ 3 := by decide
        have a2 := str_add (V ++ ⟨#[32, 124, 32]⟩) SB (by rw [ByteArray.size_append]; omega) (by omega)
        clear h00 hz3
        go_upto_region 14 with fail
        go_region_held3 (fun w' => w'.cell? ⟨w.heap.size, 0, none⟩ = some (.int .u8 0) ∧ w'.cell? ⟨w.heap.size, 4, none⟩ = some (.slice (some ⟨g, o, none⟩) SN bc) ∧ w'.cell? ⟨g, o + p * 5, none⟩ = some (.int .u8 sk) ∧ w'.cell? ⟨g, o + p * 5 + 1, none⟩ = some (.string sn) ∧ w'.cell? ⟨g, o + p * 5 + 2, none⟩ = some (.string sx) ∧ w'.cell? ⟨g, o + p * 5 + 3, none⟩ = some (.slice sa1 sl sc1) ∧ w'.cell? ⟨g, o + p * 5 + 4, none⟩ = some (.slice ba1 sm bc1)) (go_keep)
          (first | (go_at_call 43; refine (C.out _ (by exact ⟨rfl, rfl, rfl, Nat.le_refl _, fun _ _ => rfl⟩)).mono ?_; rintro e w3 ⟨rfl, b3⟩; have k0 : w3.cell? ⟨w.heap.size, 0, none⟩ = some (.int .u8 0) := Nd.cell_keeps b3 c0; have k4 : w3.cell? ⟨w.heap.size, 4, none⟩ = some (.slice (some ⟨g, o, none⟩) SN bc) := Nd.cell_keeps b3 c4; have j0 : w3.cell? ⟨g, o + p * 5, none⟩ = some (.int .u8 sk) := Nd.cell_keeps b3 h0; have j1 : w3.cell? ⟨g, o + p * 5 + 1, none⟩ = some (.string sn) := Nd.cell_keeps b3 h1; have j2 : w3.cell? ⟨g, o + p * 5 + 2, none⟩ = some (.string sx) := Nd.cell_keeps b3 h2; have j3 : w3.cell? ⟨g, o + p * 5 + 3, none⟩ = some (.slice sa1 sl sc1) := Nd.cell_keeps b3 h3; have j4 : w3.cell? ⟨g, o + p * 5 + 4, none⟩ = some (.slice ba1 sm bc1) := Nd.cell_keeps b3 h4))
        have HX := Lib.hid (HKP.out _ b3)
        clear c0 c4 h0 h1 h2 h3 h4 k0 k4 j0 j1 j2 j3 j4 b3
        go_wp2_with fail
        exact ⟨⟨p + 1, V ++ ⟨#[32, 124, 32]⟩ ++ SB, by omega, by go_num, rfl, HT, HX.out.1, HX.out.2⟩, by simp [intOf]; omega⟩
    · have d0 : decide (p < SN) = false := by rw [decide_eq_false_iff_not]; exact hlt
      have HF := Lib.hid (show V = Z from by
        have := hT.out
        rw [List.drop_eq_nil_of_le (by rw [HN.out]; omega)] at this
        simp only [Nd.joinT, List.append_nil] at this
        exact ByteArray.ext (Array.toList_inj.1 this))
      clear hT
      go_wp2_with fail
      go_ret
      exact ⟨ret_str HF.out, hB⟩
set_option maxHeartbeats 4000000 in
theorem rtext_seq (nm tx : ByteArray) (sa ba : Option Addr) (SL sc SN bc : Nat) (w : World) (Z : ByteArray) (hsn : SN ≤ 140737488351232) (hn : 1 ≤ SN) (sb : List Nd.T) (hsb : sb.length = SN) (hR : Nd.AtL w sb ba) (hZ : Z.data.toList = Nd.joinT 1 [32] true sb) (hZs : Z.size ≤ 100000)
    (hCI : ∀ s ∈ sb, ∀ (v : Value) (wx : World), Nd.At wx s v → Calls Tryz.prog 43 #[v, .int .u8 1] wx fun e w' => e = .returned (.string ⟨(Nd.subT 1 s).toArray⟩) ∧ Below wx.heap.size wx w') :
    Calls Tryz.prog 26 #[.agg #[.int .u8 1, .string nm, .string tx, .slice sa SL sc, .slice ba SN bc]] w fun e w' => e = .returned (.string Z) ∧ Below w.heap.size w w' := by
  have HB := Lib.hid (show Below w.heap.size w (w.alloc (.cells #[.int .u8 1, .string nm, .string tx, .slice sa SL sc, .slice ba SN bc] 26)) from (Below.refl _ w).alloc (Nat.le_refl _) _)
  have HBk := Lib.hid (Bk.made w 26 #[.int .u8 1, .string nm, .string tx, .slice sa SL sc, .slice ba SN bc])
  have HN := Lib.hid hsb
  have HL := Lib.hid hR
  have HZ := Lib.hid hZ
  have n1 : (SN : Int) ≤ 9223372036854775807 := by omega
  have n0 : ((SN : Int) == 0) = false := by rw [beq_zero]; exact decide_eq_false (by omega)
  have HCI := Lib.hid hCI
  have hzl := Lib.size_eq Z
  have HZL := Lib.hid hzl
  clear hR hZ hsb hCI hzl
  go_enter Tryz.func26, Tryz.ntmps26
  go_wp2_with fail
  go_loopw [3, 4] (fun s i wr => ∃ (p : Nat) (V : ByteArray), p ≤ SN ∧ i = .int .i64 p ∧ s = .string V ∧ Hid (V.data.toList ++ Nd.joinT 1 [32] (decide (p = 0)) (sb.drop p) = Z.data.toList) ∧ Bk wr w.heap.size 26 #[.int .u8 1, .string nm, .string tx, .slice sa SL sc, .slice ba SN bc] ∧ Below w.heap.size w wr) (fun _ i _ => SN - (intOf i).toNat)
  case atStart => exact ⟨0, ⟨#[]⟩, Nat.zero_le _, rfl, rfl, Lib.hid (by rw [HZ.out]; rfl), HBk.out, HB.out⟩
  case round =>
    obtain ⟨p, V, hp, rfl, rfl, hT, hK, hB⟩ := hrel
    have c0 := hK.cell 0
    have c4 := hK.cell 4
    simp at c0 c4
    have hVl : V.size ≤ 100000 := by
      have h1 := congrArg List.length hT.out
      have h2 := Lib.size_eq V
      have h3 := HZL.out
      rw [List.length_append] at h1
      omega
    by_cases hlt : p < SN
    · have d0 : decide (p < SN) = true := by rw [decide_eq_true_iff]; exact hlt
      have a0 : (p : Int) < (SN : Int) := by omega
      obtain ⟨s, hs⟩ : ∃ s, sb[p]? = some s := ⟨_, List.getElem?_eq_getElem (by rw [HN.out]; exact hlt)⟩
      obtain ⟨g, o, v0, v1, v2, v3, v4, rfl, h0, h1, h2, h3, h4, _, hAs⟩ := HL.out.val p s hs
      replace h0 := Nd.cell_keeps hB h0
      replace h1 := Nd.cell_keeps hB h1
      replace h2 := Nd.cell_keeps hB h2
      replace h3 := Nd.cell_keeps hB h3
      replace h4 := Nd.cell_keeps hB h4
      have hst := hT.out
      rw [Nd.drop_some hs, Nd.joinT_cons] at hst
      obtain ⟨SB, hSB⟩ : ∃ b, (⟨(Nd.subT 1 s).toArray⟩ : ByteArray) = b := ⟨_, rfl⟩
      have hSBl : SB.data.toList = Nd.subT 1 s := by rw [← hSB]
      have C := fun (wx : World) (b : Below wr.heap.size wr wx) => (HCI.out s (List.mem_of_getElem? hs) _ wx ((hAs.below hB).below b)).mono (R' := fun e w' => e = .returned (.string SB) ∧ Below wr.heap.size wr w') fun e w' q => ⟨by rw [q.1, hSB], b.trans (q.2.mono b.size)⟩
      rw [← hSBl] at hst
      have hSz : SB.size ≤ 100000 := by
        have h1 := congrArg List.length hst
        have h2 := Lib.size_eq SB
        have h3 := HZL.out
        simp only [List.length_append] at h1
        omega
      have HKP := Lib.hid (fun w3 (b : Below wr.heap.size wr w3) => And.intro (hK.below b hK.lt) (hB.trans (b.mono hB.size)))
      obtain ⟨sa1, sc1, ba1, bc1, rfl, rfl, rfl, rfl, rfl⟩ := hAs.five
      generalize s.kind = sk at *
      generalize s.name = sn at *
      generalize s.text = sx at *
      generalize s.set.length = sl at *
      generalize s.subs.length = sm at *
      replace C := Lib.hid C
      have HST := Lib.hid hst
      clear hs hAs hSB hSBl hst hT
      by_cases h00 : p = 0
      · have z0 : decide ((0 : Int) < (p : Int)) = false := by rw [decide_eq_false_iff_not]; omega
        have z1 : decide (0 < p) = false := by rw [decide_eq_false_iff_not]; omega
        have HT := Lib.hid (show (V ++ SB).data.toList ++ Nd.joinT 1 [32] (decide (p + 1 = 0)) (sb.drop (p + 1)) = Z.data.toList from by
          rw [← HST.out, decide_eq_true h00, decide_eq_false (p := p + 1 = 0) (by omega)]
          simp)
        have a1 := str_add V SB (by omega) (by omega)
        clear h00
        go_upto_region 14 with fail
        go_region_held3 (fun w' => w'.cell? ⟨w.heap.size, 0, none⟩ = some (.int .u8 1) ∧ w'.cell? ⟨w.heap.size, 4, none⟩ = some (.slice (some ⟨g, o, none⟩) SN bc) ∧ w'.cell? ⟨g, o + p * 5, none⟩ = some (.int .u8 sk) ∧ w'.cell? ⟨g, o + p * 5 + 1, none⟩ = some (.string sn) ∧ w'.cell? ⟨g, o + p * 5 + 2, none⟩ = some (.string sx) ∧ w'.cell? ⟨g, o + p * 5 + 3, none⟩ = some (.slice sa1 sl sc1) ∧ w'.cell? ⟨g, o + p * 5 + 4, none⟩ = some (.slice ba1 sm bc1)) (go_keep)
          (first | (go_at_call 43; refine (C.out _ (by exact ⟨rfl, rfl, rfl, Nat.le_refl _, fun _ _ => rfl⟩)).mono ?_; rintro e w3 ⟨rfl, b3⟩; have k0 : w3.cell? ⟨w.heap.size, 0, none⟩ = some (.int .u8 1) := Nd.cell_keeps b3 c0; have k4 : w3.cell? ⟨w.heap.size, 4, none⟩ = some (.slice (some ⟨g, o, none⟩) SN bc) := Nd.cell_keeps b3 c4; have j0 : w3.cell? ⟨g, o + p * 5, none⟩ = some (.int .u8 sk) := Nd.cell_keeps b3 h0; have j1 : w3.cell? ⟨g, o + p * 5 + 1, none⟩ = some (.string sn) := Nd.cell_keeps b3 h1; have j2 : w3.cell? ⟨g, o + p * 5 + 2, none⟩ = some (.string sx) := Nd.cell_keeps b3 h2; have j3 : w3.cell? ⟨g, o + p * 5 + 3, none⟩ = some (.slice sa1 sl sc1) := Nd.cell_keeps b3 h3; have j4 : w3.cell? ⟨g, o + p * 5 + 4, none⟩ = some (.slice ba1 sm bc1) := Nd.cell_keeps b3 h4))
        have HX := Lib.hid (HKP.out _ b3)
        clear c0 c4 h0 h1 h2 h3 h4 k0 k4 j0 j1 j2 j3 j4 b3
        go_wp2_with fail
        exact ⟨⟨p + 1, V ++ SB, by omega, by go_num, rfl, HT, HX.out.1, HX.out.2⟩, by simp [intOf]; omega⟩
      · have z0 : decide ((0 : Int) < (p : Int)) = true := by rw [decide_eq_true_iff]; omega
        have z1 : decide (0 < p) = true := by rw [decide_eq_true_iff]; omega
        have HT := Lib.hid (show (V ++ ⟨#[32]⟩ ++ SB).data.toList ++ Nd.joinT 1 [32] (decide (p + 1 = 0)) (sb.drop (p + 1)) = Z.data.toList from by
          rw [← HST.out, decide_eq_false h00, decide_eq_false (p := p + 1 = 0) (by omega)]
          simp)
        have a1 := str_add V ⟨#[32]⟩ (by omega) (by decide)
        have hz3 : (⟨#[32]⟩ : ByteArray).size ≤ 3 := by decide
        have a2 := str_add (V ++ ⟨#[32]⟩) SB (by rw [ByteArray.size_append]; omega) (by omega)
        clear h00 hz3
        go_upto_region 14 with fail
        go_region_held3 (fun w' => w'.cell? ⟨w.heap.size, 0, none⟩ = some (.int .u8 1) ∧ w'.cell? ⟨w.heap.size, 4, none⟩ = some (.slice (some ⟨g, o, none⟩) SN bc) ∧ w'.cell? ⟨g, o + p * 5, none⟩ = some (.int .u8 sk) ∧ w'.cell? ⟨g, o + p * 5 + 1, none⟩ = some (.string sn) ∧ w'.cell? ⟨g, o + p * 5 + 2, none⟩ = some (.string sx) ∧ w'.cell? ⟨g, o + p * 5 + 3, none⟩ = some (.slice sa1 sl sc1) ∧ w'.cell? ⟨g, o + p * 5 + 4, none⟩ = some (.slice ba1 sm bc1)) (go_keep)
          (first | (go_at_call 43; refine (C.out _ (by exact ⟨rfl, rfl, rfl, Nat.le_refl _, fun _ _ => rfl⟩)).mono ?_; rintro e w3 ⟨rfl, b3⟩; have k0 : w3.cell? ⟨w.heap.size, 0, none⟩ = some (.int .u8 1) := Nd.cell_keeps b3 c0; have k4 : w3.cell? ⟨w.heap.size, 4, none⟩ = some (.slice (some ⟨g, o, none⟩) SN bc) := Nd.cell_keeps b3 c4; have j0 : w3.cell? ⟨g, o + p * 5, none⟩ = some (.int .u8 sk) := Nd.cell_keeps b3 h0; have j1 : w3.cell? ⟨g, o + p * 5 + 1, none⟩ = some (.string sn) := Nd.cell_keeps b3 h1; have j2 : w3.cell? ⟨g, o + p * 5 + 2, none⟩ = some (.string sx) := Nd.cell_keeps b3 h2; have j3 : w3.cell? ⟨g, o + p * 5 + 3, none⟩ = some (.slice sa1 sl sc1) := Nd.cell_keeps b3 h3; have j4 : w3.cell? ⟨g, o + p * 5 + 4, none⟩ = some (.slice ba1 sm bc1) := Nd.cell_keeps b3 h4))
        have HX := Lib.hid (HKP.out _ b3)
        clear c0 c4 h0 h1 h2 h3 h4 k0 k4 j0 j1 j2 j3 j4 b3
        go_wp2_with fail
        exact ⟨⟨p + 1, V ++ ⟨#[32]⟩ ++ SB, by omega, by go_num, rfl, HT, HX.out.1, HX.out.2⟩, by simp [intOf]; omega⟩
    · have d0 : decide (p < SN) = false := by rw [decide_eq_false_iff_not]; exact hlt
      have HF := Lib.hid (show V = Z from by
        have := hT.out
        rw [List.drop_eq_nil_of_le (by rw [HN.out]; omega)] at this
        simp only [Nd.joinT, List.append_nil] at this
        exact ByteArray.ext (Array.toList_inj.1 this))
      clear hT
      go_wp2_with fail
      go_ret
      exact ⟨ret_str HF.out, hB⟩
end Go.Proofs.YthfkodimafmmgaaGreatDoor
