/- The chapter's own Text: what has one Sub, a name, a text, ranges. -/
import Derived.Test.YthfkodimafmmgaaGreatDoorNdj
namespace Go.Proofs.YthfkodimafmmgaaGreatDoor
open Go Go.RowKit Ru
set_option maxRecDepth 100000

set_option maxHeartbeats 4000000 in
theorem rtext_opt (nm tx : ByteArray) (sa ba : Option Addr) (SL sc SN bc : Nat) (w : World) (Z : ByteArray) (hsn : SN = 1) (s : Nd.T) (hR : Nd.AtL w [s] ba) (hZ : ⟨(Nd.subT 2 s).toArray⟩ ++ ⟨#[63]⟩ = Z) (hZs : Z.size ≤ 100000)
    (hCI : ∀ (v : Value) (wx : World), Nd.At wx s v → Calls Tryz.prog 43 #[v, .int .u8 2] wx fun e w' => e = .returned (.string ⟨(Nd.subT 2 s).toArray⟩) ∧ Below wx.heap.size wx w') :
    Calls Tryz.prog 26 #[.agg #[.int .u8 2, .string nm, .string tx, .slice sa SL sc, .slice ba SN bc]] w fun e w' => e = .returned (.string Z) ∧ Below w.heap.size w w' := by
  have HB := Lib.hid (show Below w.heap.size w (w.alloc (.cells #[.int .u8 2, .string nm, .string tx, .slice sa SL sc, .slice ba SN bc] 26)) from (Below.refl _ w).alloc (Nat.le_refl _) _)
  have HBk := Lib.hid (Bk.made w 26 #[.int .u8 2, .string nm, .string tx, .slice sa SL sc, .slice ba SN bc])
  subst hsn
  obtain ⟨g, o, v0, v1, v2, v3, v4, rfl, h0, h1, h2, h3, h4, _, hAs⟩ := hR.val 0 s rfl
  replace h0 := Nd.cell_keeps HB.out h0
  replace h1 := Nd.cell_keeps HB.out h1
  replace h2 := Nd.cell_keeps HB.out h2
  replace h3 := Nd.cell_keeps HB.out h3
  replace h4 := Nd.cell_keeps HB.out h4
  rw [Nat.zero_mul, Nat.add_zero] at h0 h1 h2 h3 h4
  obtain ⟨wb, hwb⟩ : ∃ wb, w.alloc (.cells #[.int .u8 2, .string nm, .string tx, .slice sa SL sc, .slice (some ⟨g, o, none⟩) 1 bc] 26) = wb := ⟨_, rfl⟩
  obtain ⟨SB, hSB⟩ : ∃ b, (⟨(Nd.subT 2 s).toArray⟩ : ByteArray) = b := ⟨_, rfl⟩
  have C := fun (wx : World) (b : Below wb.heap.size wb wx) => (hCI _ wx ((hAs.below HB.out).below (by rw [hwb]; exact b))).mono (R' := fun e w' => e = .returned (.string SB) ∧ Below wb.heap.size wb w') fun e w' q => ⟨by rw [q.1, hSB], b.trans (q.2.mono b.size)⟩
  rw [hSB] at hZ
  have hSz : SB.size ≤ 100000 := by
    have := congrArg ByteArray.size hZ
    rw [ByteArray.size_append] at this
    omega
  have a1 := str_add SB ⟨#[63]⟩ (by omega) (by decide)
  obtain ⟨sa1, sc1, ba1, bc1, rfl, rfl, rfl, rfl, rfl⟩ := hAs.five
  generalize s.kind = sk at *
  generalize s.name = sn at *
  generalize s.text = sx at *
  generalize s.set.length = sl at *
  generalize s.subs.length = sm at *
  have kbk := HBk.out
  rw [hwb] at kbk
  have c0 := kbk.cell 0
  have c4 := kbk.cell 4
  simp at c0 c4
  rw [hwb] at h0 h1 h2 h3 h4
  clear kbk
  replace C := Lib.hid C
  have HZ := Lib.hid hZ
  have HWB := Lib.hid (show Below w.heap.size w wb from by rw [← hwb]; exact HB.out)
  clear hAs hSB hZ hCI hR
  go_enter Tryz.func26, Tryz.ntmps26
  go_upto_region 17 with fail
  try rw [hwb]
  clear hwb
  go_region_held3 (fun w' => w'.cell? ⟨w.heap.size, 0, none⟩ = some (.int .u8 2) ∧ w'.cell? ⟨w.heap.size, 4, none⟩ = some (.slice (some ⟨g, o, none⟩) 1 bc) ∧ w'.cell? ⟨g, o, none⟩ = some (.int .u8 sk) ∧ w'.cell? ⟨g, o + 1, none⟩ = some (.string sn) ∧ w'.cell? ⟨g, o + 2, none⟩ = some (.string sx) ∧ w'.cell? ⟨g, o + 3, none⟩ = some (.slice sa1 sl sc1) ∧ w'.cell? ⟨g, o + 4, none⟩ = some (.slice ba1 sm bc1)) (go_keep)
    (first | (go_at_call 43; refine (C.out _ (by exact ⟨rfl, rfl, rfl, Nat.le_refl _, fun _ _ => rfl⟩)).mono ?_; rintro e w3 ⟨rfl, b3⟩; have k0 : w3.cell? ⟨w.heap.size, 0, none⟩ = some (.int .u8 2) := Nd.cell_keeps b3 c0; have k4 : w3.cell? ⟨w.heap.size, 4, none⟩ = some (.slice (some ⟨g, o, none⟩) 1 bc) := Nd.cell_keeps b3 c4; have j0 : w3.cell? ⟨g, o, none⟩ = some (.int .u8 sk) := Nd.cell_keeps b3 h0; have j1 : w3.cell? ⟨g, o + 1, none⟩ = some (.string sn) := Nd.cell_keeps b3 h1; have j2 : w3.cell? ⟨g, o + 2, none⟩ = some (.string sx) := Nd.cell_keeps b3 h2; have j3 : w3.cell? ⟨g, o + 3, none⟩ = some (.slice sa1 sl sc1) := Nd.cell_keeps b3 h3; have j4 : w3.cell? ⟨g, o + 4, none⟩ = some (.slice ba1 sm bc1) := Nd.cell_keeps b3 h4))
  have HX := Lib.hid (HWB.out.trans (b3.mono HWB.out.size))
  clear c0 c4 h0 h1 h2 h3 h4 k0 k4 j0 j1 j2 j3 j4 b3
  go_wp2_with fail
  go_ret
  exact ⟨ret_str HZ.out, HX.out⟩
set_option maxHeartbeats 4000000 in
theorem rtext_star (nm tx : ByteArray) (sa ba : Option Addr) (SL sc SN bc : Nat) (w : World) (Z : ByteArray) (hsn : SN = 1) (s : Nd.T) (hR : Nd.AtL w [s] ba) (hZ : ⟨(Nd.subT 3 s).toArray⟩ ++ ⟨#[42]⟩ = Z) (hZs : Z.size ≤ 100000)
    (hCI : ∀ (v : Value) (wx : World), Nd.At wx s v → Calls Tryz.prog 43 #[v, .int .u8 3] wx fun e w' => e = .returned (.string ⟨(Nd.subT 3 s).toArray⟩) ∧ Below wx.heap.size wx w') :
    Calls Tryz.prog 26 #[.agg #[.int .u8 3, .string nm, .string tx, .slice sa SL sc, .slice ba SN bc]] w fun e w' => e = .returned (.string Z) ∧ Below w.heap.size w w' := by
  have HB := Lib.hid (show Below w.heap.size w (w.alloc (.cells #[.int .u8 3, .string nm, .string tx, .slice sa SL sc, .slice ba SN bc] 26)) from (Below.refl _ w).alloc (Nat.le_refl _) _)
  have HBk := Lib.hid (Bk.made w 26 #[.int .u8 3, .string nm, .string tx, .slice sa SL sc, .slice ba SN bc])
  subst hsn
  obtain ⟨g, o, v0, v1, v2, v3, v4, rfl, h0, h1, h2, h3, h4, _, hAs⟩ := hR.val 0 s rfl
  replace h0 := Nd.cell_keeps HB.out h0
  replace h1 := Nd.cell_keeps HB.out h1
  replace h2 := Nd.cell_keeps HB.out h2
  replace h3 := Nd.cell_keeps HB.out h3
  replace h4 := Nd.cell_keeps HB.out h4
  rw [Nat.zero_mul, Nat.add_zero] at h0 h1 h2 h3 h4
  obtain ⟨wb, hwb⟩ : ∃ wb, w.alloc (.cells #[.int .u8 3, .string nm, .string tx, .slice sa SL sc, .slice (some ⟨g, o, none⟩) 1 bc] 26) = wb := ⟨_, rfl⟩
  obtain ⟨SB, hSB⟩ : ∃ b, (⟨(Nd.subT 3 s).toArray⟩ : ByteArray) = b := ⟨_, rfl⟩
  have C := fun (wx : World) (b : Below wb.heap.size wb wx) => (hCI _ wx ((hAs.below HB.out).below (by rw [hwb]; exact b))).mono (R' := fun e w' => e = .returned (.string SB) ∧ Below wb.heap.size wb w') fun e w' q => ⟨by rw [q.1, hSB], b.trans (q.2.mono b.size)⟩
  rw [hSB] at hZ
  have hSz : SB.size ≤ 100000 := by
    have := congrArg ByteArray.size hZ
    rw [ByteArray.size_append] at this
    omega
  have a1 := str_add SB ⟨#[42]⟩ (by omega) (by decide)
  obtain ⟨sa1, sc1, ba1, bc1, rfl, rfl, rfl, rfl, rfl⟩ := hAs.five
  generalize s.kind = sk at *
  generalize s.name = sn at *
  generalize s.text = sx at *
  generalize s.set.length = sl at *
  generalize s.subs.length = sm at *
  have kbk := HBk.out
  rw [hwb] at kbk
  have c0 := kbk.cell 0
  have c4 := kbk.cell 4
  simp at c0 c4
  rw [hwb] at h0 h1 h2 h3 h4
  clear kbk
  replace C := Lib.hid C
  have HZ := Lib.hid hZ
  have HWB := Lib.hid (show Below w.heap.size w wb from by rw [← hwb]; exact HB.out)
  clear hAs hSB hZ hCI hR
  go_enter Tryz.func26, Tryz.ntmps26
  go_upto_region 19 with fail
  try rw [hwb]
  clear hwb
  go_region_held3 (fun w' => w'.cell? ⟨w.heap.size, 0, none⟩ = some (.int .u8 3) ∧ w'.cell? ⟨w.heap.size, 4, none⟩ = some (.slice (some ⟨g, o, none⟩) 1 bc) ∧ w'.cell? ⟨g, o, none⟩ = some (.int .u8 sk) ∧ w'.cell? ⟨g, o + 1, none⟩ = some (.string sn) ∧ w'.cell? ⟨g, o + 2, none⟩ = some (.string sx) ∧ w'.cell? ⟨g, o + 3, none⟩ = some (.slice sa1 sl sc1) ∧ w'.cell? ⟨g, o + 4, none⟩ = some (.slice ba1 sm bc1)) (go_keep)
    (first | (go_at_call 43; refine (C.out _ (by exact ⟨rfl, rfl, rfl, Nat.le_refl _, fun _ _ => rfl⟩)).mono ?_; rintro e w3 ⟨rfl, b3⟩; have k0 : w3.cell? ⟨w.heap.size, 0, none⟩ = some (.int .u8 3) := Nd.cell_keeps b3 c0; have k4 : w3.cell? ⟨w.heap.size, 4, none⟩ = some (.slice (some ⟨g, o, none⟩) 1 bc) := Nd.cell_keeps b3 c4; have j0 : w3.cell? ⟨g, o, none⟩ = some (.int .u8 sk) := Nd.cell_keeps b3 h0; have j1 : w3.cell? ⟨g, o + 1, none⟩ = some (.string sn) := Nd.cell_keeps b3 h1; have j2 : w3.cell? ⟨g, o + 2, none⟩ = some (.string sx) := Nd.cell_keeps b3 h2; have j3 : w3.cell? ⟨g, o + 3, none⟩ = some (.slice sa1 sl sc1) := Nd.cell_keeps b3 h3; have j4 : w3.cell? ⟨g, o + 4, none⟩ = some (.slice ba1 sm bc1) := Nd.cell_keeps b3 h4))
  have HX := Lib.hid (HWB.out.trans (b3.mono HWB.out.size))
  clear c0 c4 h0 h1 h2 h3 h4 k0 k4 j0 j1 j2 j3 j4 b3
  go_wp2_with fail
  go_ret
  exact ⟨ret_str HZ.out, HX.out⟩
set_option maxHeartbeats 4000000 in
theorem rtext_plus (nm tx : ByteArray) (sa ba : Option Addr) (SL sc SN bc : Nat) (w : World) (Z : ByteArray) (hsn : SN = 1) (s : Nd.T) (hR : Nd.AtL w [s] ba) (hZ : ⟨(Nd.subT 4 s).toArray⟩ ++ ⟨#[43]⟩ = Z) (hZs : Z.size ≤ 100000)
    (hCI : ∀ (v : Value) (wx : World), Nd.At wx s v → Calls Tryz.prog 43 #[v, .int .u8 4] wx fun e w' => e = .returned (.string ⟨(Nd.subT 4 s).toArray⟩) ∧ Below wx.heap.size wx w') :
    Calls Tryz.prog 26 #[.agg #[.int .u8 4, .string nm, .string tx, .slice sa SL sc, .slice ba SN bc]] w fun e w' => e = .returned (.string Z) ∧ Below w.heap.size w w' := by
  have HB := Lib.hid (show Below w.heap.size w (w.alloc (.cells #[.int .u8 4, .string nm, .string tx, .slice sa SL sc, .slice ba SN bc] 26)) from (Below.refl _ w).alloc (Nat.le_refl _) _)
  have HBk := Lib.hid (Bk.made w 26 #[.int .u8 4, .string nm, .string tx, .slice sa SL sc, .slice ba SN bc])
  subst hsn
  obtain ⟨g, o, v0, v1, v2, v3, v4, rfl, h0, h1, h2, h3, h4, _, hAs⟩ := hR.val 0 s rfl
  replace h0 := Nd.cell_keeps HB.out h0
  replace h1 := Nd.cell_keeps HB.out h1
  replace h2 := Nd.cell_keeps HB.out h2
  replace h3 := Nd.cell_keeps HB.out h3
  replace h4 := Nd.cell_keeps HB.out h4
  rw [Nat.zero_mul, Nat.add_zero] at h0 h1 h2 h3 h4
  obtain ⟨wb, hwb⟩ : ∃ wb, w.alloc (.cells #[.int .u8 4, .string nm, .string tx, .slice sa SL sc, .slice (some ⟨g, o, none⟩) 1 bc] 26) = wb := ⟨_, rfl⟩
  obtain ⟨SB, hSB⟩ : ∃ b, (⟨(Nd.subT 4 s).toArray⟩ : ByteArray) = b := ⟨_, rfl⟩
  have C := fun (wx : World) (b : Below wb.heap.size wb wx) => (hCI _ wx ((hAs.below HB.out).below (by rw [hwb]; exact b))).mono (R' := fun e w' => e = .returned (.string SB) ∧ Below wb.heap.size wb w') fun e w' q => ⟨by rw [q.1, hSB], b.trans (q.2.mono b.size)⟩
  rw [hSB] at hZ
  have hSz : SB.size ≤ 100000 := by
    have := congrArg ByteArray.size hZ
    rw [ByteArray.size_append] at this
    omega
  have a1 := str_add SB ⟨#[43]⟩ (by omega) (by decide)
  obtain ⟨sa1, sc1, ba1, bc1, rfl, rfl, rfl, rfl, rfl⟩ := hAs.five
  generalize s.kind = sk at *
  generalize s.name = sn at *
  generalize s.text = sx at *
  generalize s.set.length = sl at *
  generalize s.subs.length = sm at *
  have kbk := HBk.out
  rw [hwb] at kbk
  have c0 := kbk.cell 0
  have c4 := kbk.cell 4
  simp at c0 c4
  rw [hwb] at h0 h1 h2 h3 h4
  clear kbk
  replace C := Lib.hid C
  have HZ := Lib.hid hZ
  have HWB := Lib.hid (show Below w.heap.size w wb from by rw [← hwb]; exact HB.out)
  clear hAs hSB hZ hCI hR
  go_enter Tryz.func26, Tryz.ntmps26
  go_upto_region 21 with fail
  try rw [hwb]
  clear hwb
  go_region_held3 (fun w' => w'.cell? ⟨w.heap.size, 0, none⟩ = some (.int .u8 4) ∧ w'.cell? ⟨w.heap.size, 4, none⟩ = some (.slice (some ⟨g, o, none⟩) 1 bc) ∧ w'.cell? ⟨g, o, none⟩ = some (.int .u8 sk) ∧ w'.cell? ⟨g, o + 1, none⟩ = some (.string sn) ∧ w'.cell? ⟨g, o + 2, none⟩ = some (.string sx) ∧ w'.cell? ⟨g, o + 3, none⟩ = some (.slice sa1 sl sc1) ∧ w'.cell? ⟨g, o + 4, none⟩ = some (.slice ba1 sm bc1)) (go_keep)
    (first | (go_at_call 43; refine (C.out _ (by exact ⟨rfl, rfl, rfl, Nat.le_refl _, fun _ _ => rfl⟩)).mono ?_; rintro e w3 ⟨rfl, b3⟩; have k0 : w3.cell? ⟨w.heap.size, 0, none⟩ = some (.int .u8 4) := Nd.cell_keeps b3 c0; have k4 : w3.cell? ⟨w.heap.size, 4, none⟩ = some (.slice (some ⟨g, o, none⟩) 1 bc) := Nd.cell_keeps b3 c4; have j0 : w3.cell? ⟨g, o, none⟩ = some (.int .u8 sk) := Nd.cell_keeps b3 h0; have j1 : w3.cell? ⟨g, o + 1, none⟩ = some (.string sn) := Nd.cell_keeps b3 h1; have j2 : w3.cell? ⟨g, o + 2, none⟩ = some (.string sx) := Nd.cell_keeps b3 h2; have j3 : w3.cell? ⟨g, o + 3, none⟩ = some (.slice sa1 sl sc1) := Nd.cell_keeps b3 h3; have j4 : w3.cell? ⟨g, o + 4, none⟩ = some (.slice ba1 sm bc1) := Nd.cell_keeps b3 h4))
  have HX := Lib.hid (HWB.out.trans (b3.mono HWB.out.size))
  clear c0 c4 h0 h1 h2 h3 h4 k0 k4 j0 j1 j2 j3 j4 b3
  go_wp2_with fail
  go_ret
  exact ⟨ret_str HZ.out, HX.out⟩
set_option maxHeartbeats 4000000 in
theorem rtext_ref (nm tx : ByteArray) (sa ba : Option Addr) (SL sc SN bc : Nat) (w : World) (Z : ByteArray) (hZ : nm = Z) :
    Calls Tryz.prog 26 #[.agg #[.int .u8 5, .string nm, .string tx, .slice sa SL sc, .slice ba SN bc]] w fun e w' => e = .returned (.string Z) ∧ Below w.heap.size w w' := by
  have HB := Lib.hid (show Below w.heap.size w (w.alloc (.cells #[.int .u8 5, .string nm, .string tx, .slice sa SL sc, .slice ba SN bc] 26)) from (Below.refl _ w).alloc (Nat.le_refl _) _)
  have HBk := Lib.hid (Bk.made w 26 #[.int .u8 5, .string nm, .string tx, .slice sa SL sc, .slice ba SN bc])
  have HZ := Lib.hid hZ
  clear hZ
  go_enter Tryz.func26, Tryz.ntmps26
  go_wp2_with fail
  go_ret
  exact ⟨ret_str HZ.out, HB.out⟩
set_option maxHeartbeats 4000000 in
theorem rtext_tok (nm tx : ByteArray) (sa ba : Option Addr) (SL sc SN bc : Nat) (w : World) (Z : ByteArray) (hZ : nm = Z) :
    Calls Tryz.prog 26 #[.agg #[.int .u8 6, .string nm, .string tx, .slice sa SL sc, .slice ba SN bc]] w fun e w' => e = .returned (.string Z) ∧ Below w.heap.size w w' := by
  have HB := Lib.hid (show Below w.heap.size w (w.alloc (.cells #[.int .u8 6, .string nm, .string tx, .slice sa SL sc, .slice ba SN bc] 26)) from (Below.refl _ w).alloc (Nat.le_refl _) _)
  have HBk := Lib.hid (Bk.made w 26 #[.int .u8 6, .string nm, .string tx, .slice sa SL sc, .slice ba SN bc])
  have HZ := Lib.hid hZ
  clear hZ
  go_enter Tryz.func26, Tryz.ntmps26
  go_wp2_with fail
  go_ret
  exact ⟨ret_str HZ.out, HB.out⟩
set_option maxHeartbeats 4000000 in
theorem rtext_pred (nm tx : ByteArray) (sa ba : Option Addr) (SL sc SN bc : Nat) (w : World) (Z : ByteArray) (hsn : SN = 1) (s : Nd.T) (hR : Nd.AtL w [s] ba) (TX : ByteArray) (hZ : ⟨#[40]⟩ ++ TX ++ ⟨#[41, 32, 61, 62]⟩ = Z) (hZs : Z.size ≤ 100000)
    (hCT : ∀ (v : Value) (wx : World), Nd.At wx s v → Calls Tryz.prog 26 #[v] wx fun e w' => e = .returned (.string TX) ∧ Below wx.heap.size wx w') :
    Calls Tryz.prog 26 #[.agg #[.int .u8 7, .string nm, .string tx, .slice sa SL sc, .slice ba SN bc]] w fun e w' => e = .returned (.string Z) ∧ Below w.heap.size w w' := by
  have HB := Lib.hid (show Below w.heap.size w (w.alloc (.cells #[.int .u8 7, .string nm, .string tx, .slice sa SL sc, .slice ba SN bc] 26)) from (Below.refl _ w).alloc (Nat.le_refl _) _)
  have HBk := Lib.hid (Bk.made w 26 #[.int .u8 7, .string nm, .string tx, .slice sa SL sc, .slice ba SN bc])
  subst hsn
  obtain ⟨g, o, v0, v1, v2, v3, v4, rfl, h0, h1, h2, h3, h4, _, hAs⟩ := hR.val 0 s rfl
  replace h0 := Nd.cell_keeps HB.out h0
  replace h1 := Nd.cell_keeps HB.out h1
  replace h2 := Nd.cell_keeps HB.out h2
  replace h3 := Nd.cell_keeps HB.out h3
  replace h4 := Nd.cell_keeps HB.out h4
  rw [Nat.zero_mul, Nat.add_zero] at h0 h1 h2 h3 h4
  have C := hCT _ _ (hAs.below HB.out)
  have hSz : TX.size ≤ 100000 := by
    have := congrArg ByteArray.size hZ
    rw [ByteArray.size_append, ByteArray.size_append] at this
    omega
  have a1 := str_add ⟨#[40]⟩ TX (by decide) (by omega)
  have a2 := str_add (⟨#[40]⟩ ++ TX) ⟨#[41, 32, 61, 62]⟩ (by rw [ByteArray.size_append]; have : (⟨#[40]⟩ : ByteArray).size = 1 := rfl; omega) (by decide)
  obtain ⟨sa1, sc1, ba1, bc1, rfl, rfl, rfl, rfl, rfl⟩ := hAs.five
  generalize s.kind = sk at *
  generalize s.name = sn at *
  generalize s.text = sx at *
  generalize s.set.length = sl at *
  generalize s.subs.length = sm at *
  replace C := Lib.hid C
  have HZ := Lib.hid hZ
  clear hAs hZ hCT hR
  go_enter Tryz.func26, Tryz.ntmps26
  go_wp2_with fail
  refine C.out.mono ?_
  rintro e w3 ⟨rfl, b3⟩
  go_wp2_with fail
  go_ret
  exact ⟨ret_str HZ.out, HB.out.trans (b3.mono HB.out.size)⟩
set_option maxHeartbeats 4000000 in
theorem rtext_lit (nm tx : ByteArray) (sa ba : Option Addr) (SL sc SN bc : Nat) (w : World) (Z : ByteArray) (hbad : bad tx.data.toList = -1) (V0 : ByteArray) (hV : V0.data.toList = Nd.lit tx.data.toList) (hZ : ⟨#[39]⟩ ++ V0 ++ ⟨#[39]⟩ = Z) (hZs : Z.size ≤ 100000) (_htx : tx.size ≤ 100000) :
    Calls Tryz.prog 26 #[.agg #[.int .u8 8, .string nm, .string tx, .slice sa SL sc, .slice ba SN bc]] w fun e w' => e = .returned (.string Z) ∧ Below w.heap.size w w' := by
  have HB := Lib.hid (show Below w.heap.size w (w.alloc (.cells #[.int .u8 8, .string nm, .string tx, .slice sa SL sc, .slice ba SN bc] 26)) from (Below.refl _ w).alloc (Nat.le_refl _) _)
  have HBk := Lib.hid (Bk.made w 26 #[.int .u8 8, .string nm, .string tx, .slice sa SL sc, .slice ba SN bc])
  have HV := Lib.hid hV
  have HZ := Lib.hid hZ
  have hV0 : V0.size ≤ 100000 := by
    have := congrArg ByteArray.size hZ
    rw [ByteArray.size_append, ByteArray.size_append] at this
    omega
  have a1 := str_add ⟨#[39]⟩ V0 (by decide) (by omega)
  have a2 := str_add (⟨#[39]⟩ ++ V0) ⟨#[39]⟩ (by rw [ByteArray.size_append]; have : (⟨#[39]⟩ : ByteArray).size = 1 := rfl; omega) (by decide)
  have HBD := Lib.hid hbad
  have hvl := Lib.size_eq V0
  have HVL := Lib.hid hvl
  clear hV hZ hbad hvl
  go_enter Tryz.func26, Tryz.ntmps26
  go_wp2_with fail
  go_loopw [3] (fun s wr => ∃ (p : Nat) (V : ByteArray), p ≤ tx.size ∧ s = .string V ∧ Hid (V.data.toList ++ Nd.lit (tx.data.toList.drop p) = V0.data.toList) ∧ Hid (bad (tx.data.toList.drop p) = -1) ∧ wr.heap[w.heap.size + 1]? = some (.stringIter tx p) ∧ Bk wr w.heap.size 26 #[.int .u8 8, .string nm, .string tx, .slice sa SL sc, .slice ba SN bc] ∧ Below w.heap.size w wr) (fun _ wr => tx.size - wr.iterPos (w.heap.size + 1))
  case atStart =>
    refine ⟨0, ⟨#[]⟩, Nat.zero_le _, rfl, Lib.hid (by rw [HV.out]; simp), Lib.hid HBD.out, ?_, HBk.out.alloc _, HB.out.alloc HB.out.size _⟩
    have := World.iter_heap (w.alloc (.cells #[.int .u8 8, .string nm, .string tx, .slice sa SL sc, .slice ba SN bc] 26)) tx 0
    rw [World.size_alloc] at this
    exact this
  case round =>
    obtain ⟨p, V, hp, rfl, hT, hbd, hit, hK, hB⟩ := hrel
    by_cases hlt : p < tx.size
    · have hne : tx.data.toList.drop p ≠ [] := by
        intro e
        have := congrArg List.length e
        rw [List.length_drop, ← Lib.size_eq] at this
        simp at this
        omega
      have hll : (tx.data.toList.drop p).length = tx.size - p := by rw [List.length_drop, ← Lib.size_eq]
      have hwd := Lib.decodeL_width (tx.data.toList.drop p)
      have hle := Lib.decodeL_le (tx.data.toList.drop p) hne
      rw [hll] at hle
      obtain ⟨hg, hbd2⟩ := Nd.bad_step hne hbd.out
      have hst := hT.out
      rw [Nd.lit_step hne, if_neg hg, List.drop_drop] at hst
      rw [List.drop_drop] at hbd2
      have hnx := fun ty => Lib.run_next_any_at (P := Tryz.prog) wr (w.heap.size + 1) tx p ty hit hlt
      rw [← Lib.decodeL_drop] at hnx
      have CT := fun wx => refText_any ((Lib.decodeL (tx.data.toList.drop p)).1 : Int) wx
      have hts : (textB ((Lib.decodeL (tx.data.toList.drop p)).1 : Int)).data.toList = text ((Lib.decodeL (tx.data.toList.drop p)).1 : Int) := tB_list _
      have htl := Nd.text_len ((Lib.decodeL (tx.data.toList.drop p)).1 : Int)
      have htz := Lib.size_eq (textB ((Lib.decodeL (tx.data.toList.drop p)).1 : Int))
      rw [hts] at htz
      rw [← hts] at hst
      generalize Lib.decodeL (tx.data.toList.drop p) = d at *
      obtain ⟨r, z⟩ := d
      dsimp only at *
      have hit2 := Lib.iterAt_heap wr (w.heap.size + 1) tx p (p + z) hit
      have hb2 : Below w.heap.size w (wr.iterAt (w.heap.size + 1) tx (p + z)) := Lib.below_iterAt hB (by omega) tx (p + z)
      have hK2 : Bk (wr.iterAt (w.heap.size + 1) tx (p + z)) w.heap.size 26 #[.int .u8 8, .string nm, .string tx, .slice sa SL sc, .slice ba SN bc] := by
        have := Lib.iterAt_other wr (w.heap.size + 1) w.heap.size tx (p + z) (by omega)
        unfold Bk at hK ⊢
        rw [this]; exact hK
      have hps : wr.iterPos (w.heap.size + 1) = p := by simp [World.iterPos, hit]
      have hlt2 : w.heap.size + 1 < (wr.iterAt (w.heap.size + 1) tx (p + z)).heap.size := (Array.getElem?_eq_some_iff.1 hit2).1
      generalize text (r : Int) = TXT at *
      generalize textB (r : Int) = TB at *
      have hVl : V.size ≤ 100000 := by
        have h1 := congrArg List.length hst
        have h2 := Lib.size_eq V
        have h3 := HVL.out
        rw [List.length_append] at h1
        omega
      have a3 := str_add V TB (by omega) (by omega)
      have HT := Lib.hid (show (V ++ TB).data.toList ++ Nd.lit (tx.data.toList.drop (p + z)) = V0.data.toList from by rw [← hst]; simp)
      have HBD2 := Lib.hid hbd2
      obtain ⟨R, hR⟩ : ∃ R : Int, (r : Int) = R := ⟨_, rfl⟩
      rw [hR] at CT hnx
      obtain ⟨wi, hwi⟩ : ∃ wi, wr.iterAt (w.heap.size + 1) tx (p + z) = wi := ⟨_, rfl⟩
      rw [hwi] at hnx hit2 hb2 hK2 hlt2
      replace CT := Lib.hid CT
      have HI := Lib.hid (And.intro hit2 (And.intro hb2 (And.intro hK2 (And.intro hlt2 hps))))
      have HPZ := Lib.hid (show p + z ≤ tx.size by omega)
      clear hst hbd2 hT hbd hne hll hle hg hts htl htz hit hit2 hb2 hK2 hps hlt2 hwi hR hK hB
      go_wp2_with fail
      refine (CT.out _).mono ?_
      rintro e w5 ⟨rfl, b5⟩
      obtain ⟨i1, i2, i3, i4, i5⟩ := HI.out
      have i6 : w5.heap[w.heap.size + 1]? = some (.stringIter tx (p + z)) := by rw [b5.block _ i4]; exact i1
      have HI6 := Lib.hid (And.intro i6 (And.intro (i3.below b5 i3.lt) (And.intro (i2.trans (b5.mono i2.size)) (show tx.size - w5.iterPos (w.heap.size + 1) < tx.size - wr.iterPos (w.heap.size + 1) from by
        have : w5.iterPos (w.heap.size + 1) = p + z := by simp [World.iterPos, i6]
        rw [this, i5]; omega))))
      clear i1 i2 i3 i4 i5 i6 b5
      go_wp2_with fail
      exact ⟨⟨p + z, V ++ TB, HPZ.out, rfl, HT, HBD2, HI6.out.1, HI6.out.2.1, HI6.out.2.2.1⟩, HI6.out.2.2.2⟩
    · have hnx := fun ty => Lib.run_next_end_at (P := Tryz.prog) wr (w.heap.size + 1) tx p ty hit hlt
      have hfin : V = V0 := by
        have := hT.out
        rw [List.drop_eq_nil_of_le (by rw [← Lib.size_eq]; omega), Nd.lit_nil, List.append_nil] at this
        exact ByteArray.ext (Array.toList_inj.1 this)
      subst hfin
      clear hT hbd hit hK
      go_wp2_with fail
      go_ret
      exact ⟨ret_str HZ.out, hB⟩
set_option maxHeartbeats 4000000 in
theorem rtext_set (nm tx : ByteArray) (sa ba : Option Addr) (SL sc SN bc : Nat) (w : World) (Z : ByteArray) (hsl : SL ≤ 140737488351232) (st : List (Int × Int)) (hst : st.length = SL) (hR : Nd.RgAt w st sa) (hw : st.any Nd.wrongB = false) (V0 : ByteArray) (hV : V0.data.toList = Nd.rgT st) (hZ : ⟨#[91]⟩ ++ V0 ++ ⟨#[93]⟩ = Z) (hZs : Z.size ≤ 100000) :
    Calls Tryz.prog 26 #[.agg #[.int .u8 9, .string nm, .string tx, .slice sa SL sc, .slice ba SN bc]] w fun e w' => e = .returned (.string Z) ∧ Below w.heap.size w w' := by
  have HB := Lib.hid (show Below w.heap.size w (w.alloc (.cells #[.int .u8 9, .string nm, .string tx, .slice sa SL sc, .slice ba SN bc] 26)) from (Below.refl _ w).alloc (Nat.le_refl _) _)
  have HBk := Lib.hid (Bk.made w 26 #[.int .u8 9, .string nm, .string tx, .slice sa SL sc, .slice ba SN bc])
  have HV := Lib.hid hV
  have HZ := Lib.hid hZ
  have hV0 : V0.size ≤ 100000 := by
    have := congrArg ByteArray.size hZ
    rw [ByteArray.size_append, ByteArray.size_append] at this
    omega
  have a1 := str_add ⟨#[91]⟩ V0 (by decide) (by omega)
  have a2 := str_add (⟨#[91]⟩ ++ V0) ⟨#[93]⟩ (by rw [ByteArray.size_append]; have : (⟨#[91]⟩ : ByteArray).size = 1 := rfl; omega) (by decide)
  have hvl := Lib.size_eq V0
  have HVL := Lib.hid hvl
  have HN := Lib.hid hst
  have HL := Lib.hid hR
  have HW := Lib.hid hw
  have n1 : (SL : Int) ≤ 9223372036854775807 := by omega
  clear hV hZ hvl hst hR hw
  go_enter Tryz.func26, Tryz.ntmps26
  go_wp2_with fail
  go_loopw [3, 7] (fun s i wr => ∃ (p : Nat) (V : ByteArray), p ≤ SL ∧ i = .int .i64 p ∧ s = .string V ∧ Hid (V.data.toList ++ Nd.rgT (st.drop p) = V0.data.toList) ∧ Bk wr w.heap.size 26 #[.int .u8 9, .string nm, .string tx, .slice sa SL sc, .slice ba SN bc] ∧ Below w.heap.size w wr) (fun _ i _ => SL - (intOf i).toNat)
  case atStart => exact ⟨0, ⟨#[]⟩, Nat.zero_le _, rfl, rfl, Lib.hid (by rw [HV.out]; rfl), HBk.out, HB.out⟩
  case round =>
    obtain ⟨p, V, hp, rfl, rfl, hT, hK, hB⟩ := hrel
    have c3 := hK.cell 3
    simp at c3
    by_cases hlt : p < SL
    · have d0 : decide (p < SL) = true := by rw [decide_eq_true_iff]; exact hlt
      have p0 : (p : Int) < (SL : Int) := by omega
      obtain ⟨s, hs⟩ : ∃ s, st[p]? = some s := ⟨_, List.getElem?_eq_getElem (by rw [HN.out]; exact hlt)⟩
      obtain ⟨g, o, rfl, h0, h1⟩ := HL.out.get p s hs
      replace h0 := Nd.cell_keeps hB h0
      replace h1 := Nd.cell_keeps hB h1
      have hst := hT.out
      rw [Nd.drop_some hs] at hst
      have hgood : Nd.wrongB s = false := by
        have := List.any_eq_false.1 HW.out s (List.mem_of_getElem? hs)
        simpa using this
      obtain ⟨x, y⟩ := s
      dsimp only at h0 h1
      have hxy : x ≤ y := by
        unfold Nd.wrongB at hgood
        simp only [Bool.or_eq_false_iff, decide_eq_false_iff_not] at hgood
        omega
      simp only [Nd.rgT] at hst
      have CX := Lib.hid (fun wx => refText_any x wx)
      have CY := Lib.hid (fun wx => refText_any y wx)
      have hx1 : (textB x).data.toList = text x := tB_list _
      have hy1 : (textB y).data.toList = text y := tB_list _
      have hx2 := Lib.size_eq (textB x)
      have hy2 := Lib.size_eq (textB y)
      have hx3 := Nd.text_len x
      have hy3 := Nd.text_len y
      rw [hx1] at hx2
      rw [hy1] at hy2
      rw [← hx1, ← hy1] at hst
      generalize text x = TX1 at *
      generalize text y = TY1 at *
      generalize textB x = XB at *
      generalize textB y = YB at *
      have hVl : V.size ≤ 100000 := by
        have h1 := congrArg List.length hst
        have h2 := Lib.size_eq V
        have h3 := HVL.out
        rw [List.length_append] at h1
        omega
      have a3 := str_add V XB (by omega) (by omega)
      have hVX : (V ++ XB).size ≤ 100100 := by rw [ByteArray.size_append]; omega
      have a4 := str_add (V ++ XB) ⟨#[45]⟩ (by omega) (by decide)
      have a5 := str_add (V ++ XB ++ ⟨#[45]⟩) YB (by rw [ByteArray.size_append]; have : (⟨#[45]⟩ : ByteArray).size = 1 := rfl; omega) (by omega)
      have HKP := Lib.hid (fun w3 (b : Below wr.heap.size wr w3) => And.intro (Nd.cell_keeps b h0) (And.intro (Nd.cell_keeps b h1) (And.intro (hK.below b hK.lt) (hB.trans (b.mono hB.size)))))
      have HC3 := Lib.hid (fun w3 (k : Bk w3 w.heap.size 26 #[.int .u8 9, .string nm, .string tx, .slice (some ⟨g, o, none⟩) SL sc, .slice ba SN bc]) => show w3.cell? ⟨w.heap.size, 3, none⟩ = some (.slice (some ⟨g, o, none⟩) SL sc) from by rw [k.cell]; rfl)
      have HST := Lib.hid hst
      clear hx1 hy1 hx2 hy2 hx3 hy3 hst hT hs hgood hVX hK hB
      go_wp2_with fail
      refine (CX.out _).mono ?_
      rintro e w3 ⟨rfl, b3⟩
      obtain ⟨l0, l1, hK3, hB3⟩ := HKP.out w3 b3
      have l3 := HC3.out w3 hK3
      have HKD := Lib.hid (fun n => And.intro (Nd.cell_keeps (below_drewN (Below.refl w3.heap.size w3) n) l0) (And.intro (Nd.cell_keeps (below_drewN (Below.refl w3.heap.size w3) n) l1) (And.intro (hK3.below (below_drewN (Below.refl w3.heap.size w3) n) hK3.lt) (hB3.trans ((below_drewN (Below.refl w3.heap.size w3) n).mono hB3.size)))))
      clear h0 h1 c3 b3 hK3 hB3
      by_cases he : y = x
      · have d1 : decide (x < y) = false := by rw [decide_eq_false_iff_not]; omega
        have HT := Lib.hid (show (V ++ XB).data.toList ++ Nd.rgT (st.drop (p + 1)) = V0.data.toList from by
          rw [← HST.out, if_pos he]; simp)
        clear he
        go_wp2_with fail
        go_quiet (fail)
        go_wp2_with fail
        exact ⟨⟨p + 1, V ++ XB, by omega, by go_num, rfl, HT, (HKD.out _).2.2.1, (HKD.out _).2.2.2⟩, by simp [intOf]; omega⟩
      · have d1 : decide (x < y) = true := by rw [decide_eq_true_iff]; omega
        have HT := Lib.hid (show (V ++ XB ++ ⟨#[45]⟩ ++ YB).data.toList ++ Nd.rgT (st.drop (p + 1)) = V0.data.toList from by
          rw [← HST.out, if_neg he]; simp)
        clear he
        go_wp2_with fail
        go_quiet (fail)
        go_wp2_with fail
        refine (CY.out _).mono ?_
        rintro e w4 ⟨rfl, b4⟩
        have HX := Lib.hid (And.intro ((HKD.out nq).2.2.1.below b4 (HKD.out nq).2.2.1.lt) ((HKD.out nq).2.2.2.trans (b4.mono (HKD.out nq).2.2.2.size)))
        clear l0 l1 l3 b4
        go_wp2_with fail
        exact ⟨⟨p + 1, V ++ XB ++ ⟨#[45]⟩ ++ YB, by omega, by go_num, rfl, HT, HX.out.1, HX.out.2⟩, by simp [intOf]; omega⟩
    · have d0 : decide (p < SL) = false := by rw [decide_eq_false_iff_not]; exact hlt
      have hfin : V = V0 := by
        have := hT.out
        rw [List.drop_eq_nil_of_le (by rw [HN.out]; omega)] at this
        simp only [Nd.rgT, List.append_nil] at this
        exact ByteArray.ext (Array.toList_inj.1 this)
      subst hfin
      clear hT
      go_wp2_with fail
      go_ret
      exact ⟨ret_str HZ.out, hB⟩
set_option maxHeartbeats 4000000 in
theorem rtext_void (nm tx : ByteArray) (sa ba : Option Addr) (SL sc SN bc : Nat) (w : World) (Z : ByteArray) (hsn : SN = 0) (hZ : ⟨#[40, 41]⟩ = Z) :
    Calls Tryz.prog 26 #[.agg #[.int .u8 1, .string nm, .string tx, .slice sa SL sc, .slice ba SN bc]] w fun e w' => e = .returned (.string Z) ∧ Below w.heap.size w w' := by
  have HB := Lib.hid (show Below w.heap.size w (w.alloc (.cells #[.int .u8 1, .string nm, .string tx, .slice sa SL sc, .slice ba SN bc] 26)) from (Below.refl _ w).alloc (Nat.le_refl _) _)
  have HBk := Lib.hid (Bk.made w 26 #[.int .u8 1, .string nm, .string tx, .slice sa SL sc, .slice ba SN bc])
  subst hsn
  go_enter Tryz.func26, Tryz.ntmps26
  go_wp2_with fail
  go_ret
  exact ⟨ret_str hZ, HB.out⟩
end Go.Proofs.YthfkodimafmmgaaGreatDoor
