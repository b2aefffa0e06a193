/- RangesSplit: all ways. -/
import Derived.Test.YtianappapfpbeaaRnX
import Derived.Test.YtianappapfpbeaaR2c
namespace Go.Proofs.Ytianappapfpbeaa
open Go Go.RowKit Rn
set_option maxRecDepth 100000

namespace Rn
theorem RLL_none (w : World) : RLL w (.slice none 0 0) [] := ⟨none, 0, rfl, Nat.le_refl _, fun i l h => by simp at h⟩
theorem split_none {l : List (Int × Int)} (h : Runs (noSig []) (sig []) lowest l) : l = [] := Runs.unique _ _ _ h (fun _ _ => rfl)
theorem union_none {l : List (Int × Int)} (h : Runs false (anyB []) lowest l) : l = [] := Runs.unique _ _ _ h (fun _ _ => rfl)
end Rn
set_option maxHeartbeats 4000000 in
theorem RangesSplit_lives1 (A B D : Option Addr) (n m o c c' c2 : Nat) (x : Int) (w : World) (h : 40 < n) :
    Calls Try.prog 4 #[.agg #[.slice A n c, .slice B m c', .slice D o c2], .int .i32 x] w fun e w' => e = .returned (.bool true) ∧ Below w.heap.size w w' := by
  have d0 : decide ((40 : Int) < (n : Int)) = true := by rw [decide_eq_true_iff]; omega
  have dx : (40 : Int) < (n : Int) := by omega
  go_enter Try.func4, Try.ntmps4
  go_wp2_with (go_at_call 7; refine (livesRn_true _).mono ?_; rintro e w2 ⟨rfl, hb⟩)
  go_ret
  exact ⟨rfl, ((Below.refl _ w).alloc (Nat.le_refl _) _).trans (hb.mono (by rw [World.size_alloc]; exact Nat.le_succ _))⟩
set_option maxHeartbeats 4000000 in
theorem RangesSplit_lives2 (A B D : Option Addr) (n m o c c' c2 : Nat) (x : Int) (w : World) (h : ¬ 40 < n) (h2 : 40 < m) :
    Calls Try.prog 4 #[.agg #[.slice A n c, .slice B m c', .slice D o c2], .int .i32 x] w fun e w' => e = .returned (.bool true) ∧ Below w.heap.size w w' := by
  have d0 : decide ((40 : Int) < (n : Int)) = false := by rw [decide_eq_false_iff_not]; omega
  have d1 : decide ((40 : Int) < (m : Int)) = true := by rw [decide_eq_true_iff]; omega
  have dx : (40 : Int) < (m : Int) := by omega
  go_enter Try.func4, Try.ntmps4
  go_wp2_with (go_at_call 7; refine (livesRn_true _).mono ?_; rintro e w2 ⟨rfl, hb⟩)
  go_ret
  exact ⟨rfl, ((Below.refl _ w).alloc (Nat.le_refl _) _).trans (hb.mono (by rw [World.size_alloc]; exact Nat.le_succ _))⟩
set_option maxHeartbeats 4000000 in
theorem RangesSplit_lives3 (A B D : Option Addr) (n m o c c' c2 : Nat) (x : Int) (w : World) (h : ¬ 40 < n) (h2 : ¬ 40 < m) (h3 : 40 < o) :
    Calls Try.prog 4 #[.agg #[.slice A n c, .slice B m c', .slice D o c2], .int .i32 x] w fun e w' => e = .returned (.bool true) ∧ Below w.heap.size w w' := by
  have d0 : decide ((40 : Int) < (n : Int)) = false := by rw [decide_eq_false_iff_not]; omega
  have d1 : decide ((40 : Int) < (m : Int)) = false := by rw [decide_eq_false_iff_not]; omega
  have d2 : decide ((40 : Int) < (o : Int)) = true := by rw [decide_eq_true_iff]; omega
  have dx : (40 : Int) < (o : Int) := by omega
  go_enter Try.func4, Try.ntmps4
  go_wp2_with (go_at_call 7; refine (livesRn_true _).mono ?_; rintro e w2 ⟨rfl, hb⟩)
  go_ret
  exact ⟨rfl, ((Below.refl _ w).alloc (Nat.le_refl _) _).trans (hb.mono (by rw [World.size_alloc]; exact Nat.le_succ _))⟩
set_option maxHeartbeats 16000000 in
theorem RangesSplit_main (a b c : List (Int × Int)) (va vb vc : Value) (x : Int) (w : World) (ha : RL w va a) (hb0 : RL w vb b) (hc0 : RL w vc c) (hIa : I32 a) (hIb : I32 b) (hIc : I32 c) (hza : ∀ n c, va = .slice none n c → c = 0) (h1 : ¬ 40 < a.length) (h2 : ¬ 40 < b.length) (h3 : ¬ 40 < c.length) :
    Calls Try.prog 4 #[.agg #[va, vb, vc], .int .i32 x] w fun e w' => e = .returned (.bool true) ∧ Below w.heap.size w w' := by
  have ra := Lib.hid ha
  have rb := Lib.hid hb0
  have rc := Lib.hid hc0
  have HIa := Lib.hid hIa
  have HIb := Lib.hid hIb
  have HIc := Lib.hid hIc
  have HA := Lib.hid (show a.length ≤ 40 by omega)
  have HB4 := Lib.hid (show b.length ≤ 40 by omega)
  have HC4 := Lib.hid (show c.length ≤ 40 by omega)
  have d0 : decide ((40 : Int) < (a.length : Int)) = false := by rw [decide_eq_false_iff_not]; omega
  have d1 : decide ((40 : Int) < (b.length : Int)) = false := by rw [decide_eq_false_iff_not]; omega
  have d2 : decide ((40 : Int) < (c.length : Int)) = false := by rw [decide_eq_false_iff_not]; omega
  obtain ⟨A, cA, hva, _, _⟩ := ha
  obtain ⟨B, cB, hvb, _, _⟩ := hb0
  obtain ⟨D, cD, hvc, _, _⟩ := hc0
  subst hva hvb hvc
  have HZA := Lib.hid hza
  clear hIa hIb hIc h1 h2 h3 hza
  obtain ⟨NA, hNA⟩ : ∃ k, a.length = k := ⟨_, rfl⟩
  obtain ⟨NB, hNB⟩ : ∃ k, b.length = k := ⟨_, rfl⟩
  obtain ⟨ND, hND⟩ : ∃ k, c.length = k := ⟨_, rfl⟩
  rw [hNA] at ra d0 HA HZA ⊢
  rw [hNB] at rb d1 HB4 ⊢
  rw [hND] at rc d2 HC4 ⊢
  have HNA := Lib.hid hNA
  have HNB := Lib.hid hNB
  have HND := Lib.hid hND
  clear hNA hNB hND
  have hbw : Below w.heap.size w (w.alloc (.cells #[.slice A NA cA, .slice B NB cB, .slice D ND cD] 34)) := (Below.refl _ _).alloc (Nat.le_refl _) _
  have kb := Lib.hid (Bk.made w 34 #[.slice A NA cA, .slice B NB cB, .slice D ND cD])
  replace ra := Lib.hid (ra.out.below hbw)
  replace rb := Lib.hid (rb.out.below hbw)
  replace rc := Lib.hid (rc.out.below hbw)
  have HB := Lib.hid hbw
  have HS0 := Lib.hid hbw.size
  clear hbw
  go_enter Try.func4, Try.ntmps4
  go_wp2_with fail
  obtain ⟨bx, hbx⟩ : ∃ k, w.heap.size = k := ⟨_, rfl⟩
  have HBX := Lib.hid hbx
  generalize w.alloc (.cells #[.slice A NA cA, .slice B NB cB, .slice D ND cD] 34) = w0 at *
  refine (TwinRn_any a _ _ ra.out HZA.out (by have := HNA.out; have := HA.out; omega)).mono ?_
  rintro e w1 ⟨vt, rfl, ht, hb⟩
  replace HB := Lib.hid (HB.out.trans (hb.mono HB.out.size))
  replace ra := Lib.hid (ra.out.below hb)
  replace rb := Lib.hid (rb.out.below hb)
  replace rc := Lib.hid (rc.out.below hb)
  replace kb := Lib.hid (kb.out.below hb kb.out.lt)
  have bt := Lib.hid (show ∀ k, vt.ownBlock = some k → w0.heap.size ≤ k ∧ k < w1.heap.size from ht.blk)
  have rt := Lib.hid ht
  obtain ⟨gt, ct, _, hvt, _⟩ := ht
  subst hvt
  have sz1 := Lib.hid hb.size
  clear hb
  have z0 := kb.out.cell 0
  have z1 := kb.out.cell 1
  have z2 := kb.out.cell 2
  simp at z0 z1 z2
  rw [hbx] at z0 z1 z2
  go_wp2_with fail
  clear z0 z1 z2
  refine (SplitRn_any [a, b, c] _ _ (RLL_three rt.out.hld.rl rb.out rc.out) (by have := HNA.out; have := HNB.out; have := HND.out; have := HA.out; have := HB4.out; have := HC4.out; simp only [total]; omega) (by simp) (fun l hl => by simp at hl; rcases hl with rfl | rfl | rfl; exact HIa.out; exact HIb.out; exact HIc.out)).mono ?_
  rintro e w2 ⟨vl, ll, rfl, ho, hr, hi, hn, hb⟩
  replace hb := ((Below.refl _ w1).alloc (Nat.le_refl _) _).trans (hb.mono (by rw [World.size_alloc]; exact Nat.le_succ _))
  replace HB := Lib.hid (HB.out.trans (hb.mono HB.out.size))
  replace ra := Lib.hid (ra.out.below hb)
  replace rb := Lib.hid (rb.out.below hb)
  replace rc := Lib.hid (rc.out.below hb)
  replace kb := Lib.hid (kb.out.below hb kb.out.lt)
  replace rt := Lib.hid (rt.out.below hb)
  have R0 := Lib.hid hr
  have N0 := Lib.hid (show ll.length ≤ 480 from by have := HNA.out; have := HNB.out; have := HND.out; have := HA.out; have := HB4.out; have := HC4.out; simp only [total] at hn; omega)
  have b0 := Lib.hid (show ∀ k, vl.ownBlock = some k → w1.heap.size ≤ k ∧ k < w2.heap.size from fun k hk => by have := ho.blk k hk; rw [World.size_alloc] at this; omega)
  have h0 := Lib.hid ho
  obtain ⟨A0, C0, hv0, _, _⟩ := ho.rl
  subst hv0
  clear ho hr hi hn
  have sz2 := Lib.hid hb.size
  clear hb
  go_wp2_with fail
  have z0 := kb.out.cell 0
  have z1 := kb.out.cell 1
  have z2 := kb.out.cell 2
  simp at z0 z1 z2
  rw [hbx] at z0 z1 z2
  obtain ⟨cv, hcv⟩ : ∃ k, cls a x = k := ⟨_, rfl⟩
  obtain ⟨hv, hhv⟩ : ∃ k, hasB a x = k := ⟨_, rfl⟩
  have K1 := Lib.hid (fun wx (h : Below w2.heap.size w2  wx) (v : Value) (hv : RLL wx v [a, b, c]) => refSplitRn_any [a, b, c] v wx hv (by simp) (fun l hl => by simp at hl; rcases hl with rfl | rfl | rfl; exact ⟨HIa.out, (by have := HNA.out; have := HA.out; omega)⟩; exact ⟨HIb.out, (by have := HNB.out; have := HB4.out; omega)⟩; exact ⟨HIc.out, (by have := HND.out; have := HC4.out; omega)⟩))
  have K2 := Lib.hid (fun wx (h : Below w2.heap.size w2  wx) (v : Value) (hv : RL wx v ll) => SameRn_any ll ll _ v wx (h0.out.rl.below h) hv (by have := N0.out; omega) (by have := N0.out; omega))
  have K3 := Lib.hid (fun wx (h : Below w2.heap.size w2  wx) => LeftRn_any a _ _ _ wx (rt.out.below h) (ra.out.below h) (by have := HNA.out; have := HA.out; omega))
  have K4 := Lib.hid (fun wx (h : Below w2.heap.size w2  wx) => ClassRn_any a _ x wx (rt.out.hld.rl.below h) (by have := HNA.out; have := HA.out; omega))
  have K5 := Lib.hid (fun wx (h : Below w2.heap.size w2  wx) => refClassRn_any a _ x wx (ra.out.below h) (by have := HNA.out; have := HA.out; omega))
  have K6 := Lib.hid (fun wx (h : Below w2.heap.size w2  wx) => HasRn_any a _ x wx (rt.out.hld.rl.below h) (by have := HNA.out; have := HA.out; omega))
  have K7 := Lib.hid (fun wx (h : Below w2.heap.size w2  wx) => refHasRn_any a _ x wx (ra.out.below h) (by have := HNA.out; have := HA.out; omega))
  have KR := Lib.hid (fun wx (h : Below w2.heap.size w2  wx) => RLL_three (t := 22) (ra.out.below h) (rb.out.below h) (rc.out.below h))
  rw [hcv] at K4 K5
  rw [hhv] at K6 K7
  clear hcv hhv
  refine wp_calm ?_
  refine wp_region_held_drew (S := fun w' : World => (w'.cell? ⟨bx, 0, none⟩ = some (.slice A NA cA) ∧ w'.cell? ⟨bx, 1, none⟩ = some (.slice B NB cB)) ∧ w'.cell? ⟨bx, 2, none⟩ = some (.slice D ND cD)) (by kernel_rfl) ⟨⟨z0, z1⟩, z2⟩ (fun hSS => ?_)
  show wpAnyH _ _ _ _ _ 38 #[false, false, false, false, false, false, false, false, false, false, false, false, false, false, false, false, false, false, false, false, false, false, false, false, false, false, false, false, false, false, false, false, false, false, false, false, false, false] _ _
  refine take_one (i := 0) (d := (some 35)) (v := _) (l' := #[true, false, false, false, false, false, false, false, false, false, false, false, false, false, false, false, false, false, false, false, false, false, false, false, false, false, false, false, false, false, false, false, false, false, false, false, false, false]) (by rw [List.getElem?_toArray]; rfl) rfl (by kernel_rfl) (by kernel_rfl) (by kernel_rfl) rfl (fun _ _ _ h => by cases h.1) (Or.inl ⟨by rfl, fun w' hSw => by (try dsimp only at hSw); go_simp; try with_reducible rfl⟩) hSS ?_
  simp only [Act.put, List.setIfInBounds_toArray, List.set_cons_zero, List.set_cons_succ]
  refine take_one (i := 1) (d := (some 36)) (v := _) (l' := #[true, true, false, false, false, false, false, false, false, false, false, false, false, false, false, false, false, false, false, false, false, false, false, false, false, false, false, false, false, false, false, false, false, false, false, false, false, false]) (by rw [List.getElem?_toArray]; rfl) rfl (by kernel_rfl) (by kernel_rfl) (by kernel_rfl) rfl (fun _ _ _ h => by cases h.1) (Or.inl ⟨by rfl, fun w' hSw => by (try dsimp only at hSw); go_simp; try with_reducible rfl⟩) hSS ?_
  simp only [Act.put, List.setIfInBounds_toArray, List.set_cons_zero, List.set_cons_succ]
  refine take_one (i := 2) (d := (some 37)) (v := _) (l' := #[true, true, true, false, false, false, false, false, false, false, false, false, false, false, false, false, false, false, false, false, false, false, false, false, false, false, false, false, false, false, false, false, false, false, false, false, false, false]) (by rw [List.getElem?_toArray]; rfl) rfl (by kernel_rfl) (by kernel_rfl) (by kernel_rfl) rfl (fun _ _ _ h => by cases h.1) (Or.inl ⟨by rfl, fun w' hSw => by (try dsimp only at hSw); go_simp; try with_reducible rfl⟩) hSS ?_
  simp only [Act.put, List.setIfInBounds_toArray, List.set_cons_zero, List.set_cons_succ]
  refine take_one (i := 3) (d := (some 38)) (v := _) (l' := #[true, true, true, true, false, false, false, false, false, false, false, false, false, false, false, false, false, false, false, false, false, false, false, false, false, false, false, false, false, false, false, false, false, false, false, false, false, false]) (by rw [List.getElem?_toArray]; rfl) rfl (by kernel_rfl) (by kernel_rfl) (by kernel_rfl) rfl (fun _ _ _ h => by cases h.1) (Or.inl ⟨by rfl, fun w' hSw => by (try dsimp only at hSw); go_simp; try with_reducible rfl⟩) hSS ?_
  simp only [Act.put, List.setIfInBounds_toArray, List.set_cons_zero, List.set_cons_succ]
  refine take_one (i := 4) (d := (some 39)) (v := _) (l' := #[true, true, true, true, true, false, false, false, false, false, false, false, false, false, false, false, false, false, false, false, false, false, false, false, false, false, false, false, false, false, false, false, false, false, false, false, false, false]) (by rw [List.getElem?_toArray]; rfl) rfl (by kernel_rfl) (by kernel_rfl) (by kernel_rfl) rfl (fun _ _ _ h => by cases h.1) (Or.inl ⟨by rfl, fun w' hSw => by (try dsimp only at hSw); go_simp; try with_reducible rfl⟩) hSS ?_
  simp only [Act.put, List.setIfInBounds_toArray, List.set_cons_zero, List.set_cons_succ]
  refine take_one (i := 5) (d := (some 40)) (v := _) (l' := #[true, true, true, true, true, true, false, false, false, false, false, false, false, false, false, false, false, false, false, false, false, false, false, false, false, false, false, false, false, false, false, false, false, false, false, false, false, false]) (by rw [List.getElem?_toArray]; rfl) rfl (by kernel_rfl) (by kernel_rfl) (by kernel_rfl) rfl (fun _ _ _ h => by cases h.1) (Or.inl ⟨by rfl, fun w' hSw => by (try dsimp only at hSw); go_simp; try with_reducible rfl⟩) hSS ?_
  simp only [Act.put, List.setIfInBounds_toArray, List.set_cons_zero, List.set_cons_succ]
  refine take_one (i := 6) (d := (some 41)) (v := _) (l' := #[true, true, true, true, true, true, true, false, false, false, false, false, false, false, false, false, false, false, false, false, false, false, false, false, false, false, false, false, false, false, false, false, false, false, false, false, false, false]) (by rw [List.getElem?_toArray]; rfl) rfl (by kernel_rfl) (by kernel_rfl) (by kernel_rfl) rfl (fun _ _ _ h => by cases h.1) (Or.inl ⟨by rfl, fun w' hSw => by (try dsimp only at hSw); go_simp; try with_reducible rfl⟩) hSS ?_
  simp only [Act.put, List.setIfInBounds_toArray, List.set_cons_zero, List.set_cons_succ]
  refine come_one (i := 7) (l' := #[true, true, true, true, true, true, true, true, false, false, false, false, false, false, false, false, false, false, false, false, false, false, false, false, false, false, false, false, false, false, false, false, false, false, false, false, false, false]) (by rw [List.getElem?_toArray]; rfl) (by kernel_rfl) rfl (fun K' hK => ?_)
  go_simp
  have hh1 : Below w2.heap.size w2  (w2.drew.alloc (.cells #[.slice A NA cA, .slice B NB cB, .slice D ND cD] 22)) := (show Below w2.heap.size w2  w2.drew from (Below.refl _ _).drew).alloc ((show Below w2.heap.size w2  w2.drew from (Below.refl _ _).drew)).size _; have rz := Lib.hid (KR.out _ (show Below w2.heap.size w2  w2.drew from (Below.refl _ _).drew))
  refine hK.out _ _ ⟨⟨Nd.cell_keeps hh1 z0, Nd.cell_keeps hh1 z1⟩, Nd.cell_keeps hh1 z2⟩ (fun hSS => ?_)
  try simp only [Act.put, List.setIfInBounds_toArray, List.set_cons_zero, List.set_cons_succ]
  refine come_one (i := 8) (l' := #[true, true, true, true, true, true, true, true, true, false, false, false, false, false, false, false, false, false, false, false, false, false, false, false, false, false, false, false, false, false, false, false, false, false, false, false, false, false]) (by rw [List.getElem?_toArray]; rfl) (by kernel_rfl) rfl (fun K' hK => ?_)
  go_simp
  go_at_call 19; refine (K1.out (w2.drew.alloc (.cells #[.slice A NA cA, .slice B NB cB, .slice D ND cD] 22)) hh1 _ rz.out).mono ?_; rintro e wh2 ⟨vr, lr, rfl, hr, hR, hbz⟩; obtain rfl : ll = lr := Runs.unique _ _ _ R0.out hr; obtain ⟨AR, CR, hvr, _, _⟩ := id hR; subst hvr; clear rz hr; have rr := Lib.hid hR; clear hR; have hh2 : Below w2.heap.size w2  wh2 := hh1.trans (hbz.mono hh1.size); clear hbz
  refine hK.out _ _ ⟨⟨Nd.cell_keeps hh2 z0, Nd.cell_keeps hh2 z1⟩, Nd.cell_keeps hh2 z2⟩ (fun hSS => ?_)
  try simp only [Act.put, List.setIfInBounds_toArray, List.set_cons_zero, List.set_cons_succ]
  refine come_one (i := 9) (l' := #[true, true, true, true, true, true, true, true, true, true, false, false, false, false, false, false, false, false, false, false, false, false, false, false, false, false, false, false, false, false, false, false, false, false, false, false, false, false]) (by rw [List.getElem?_toArray]; rfl) (by kernel_rfl) rfl (fun K' hK => ?_)
  go_simp
  go_at_call 15; refine (K2.out wh2 hh2 _ rr.out).mono ?_; rintro e wh3 ⟨rfl, hbz⟩; simp only [decide_true]; clear rr; have hh3 : Below w2.heap.size w2  wh3 := hh2.trans (hbz.mono hh2.size); clear hbz
  refine hK.out _ _ ⟨⟨Nd.cell_keeps hh3 z0, Nd.cell_keeps hh3 z1⟩, Nd.cell_keeps hh3 z2⟩ (fun hSS => ?_)
  try simp only [Act.put, List.setIfInBounds_toArray, List.set_cons_zero, List.set_cons_succ]
  refine take_one (i := 10) (d := (some 45)) (v := _) (l' := #[true, true, true, true, true, true, true, true, true, true, true, false, false, false, false, false, false, false, false, false, false, false, false, false, false, false, false, false, false, false, false, false, false, false, false, false, false, false]) (by rw [List.getElem?_toArray]; rfl) rfl (by kernel_rfl) (by kernel_rfl) (by kernel_rfl) rfl (fun _ _ _ h => by cases h.1) (Or.inl ⟨by rfl, fun w' hSw => by (try dsimp only at hSw); go_simp; try with_reducible rfl⟩) hSS ?_
  simp only [Act.put, List.setIfInBounds_toArray, List.set_cons_zero, List.set_cons_succ]
  refine take_one (i := 11) (d := (some 46)) (v := _) (l' := #[true, true, true, true, true, true, true, true, true, true, true, true, false, false, false, false, false, false, false, false, false, false, false, false, false, false, false, false, false, false, false, false, false, false, false, false, false, false]) (by rw [List.getElem?_toArray]; rfl) rfl (by kernel_rfl) (by kernel_rfl) (by kernel_rfl) rfl (fun _ _ _ h => by cases h.1) (Or.inl ⟨by rfl, fun w' hSw => by (try dsimp only at hSw); go_simp; try with_reducible rfl⟩) hSS ?_
  simp only [Act.put, List.setIfInBounds_toArray, List.set_cons_zero, List.set_cons_succ]
  refine take_one (i := 12) (d := (some 47)) (v := _) (l' := #[true, true, true, true, true, true, true, true, true, true, true, true, true, false, false, false, false, false, false, false, false, false, false, false, false, false, false, false, false, false, false, false, false, false, false, false, false, false]) (by rw [List.getElem?_toArray]; rfl) rfl (by kernel_rfl) (by kernel_rfl) (by kernel_rfl) rfl (fun _ _ _ h => by cases h.1) (Or.inl ⟨by rfl, fun w' hSw => by (try dsimp only at hSw); go_simp; try with_reducible rfl⟩) hSS ?_
  simp only [Act.put, List.setIfInBounds_toArray, List.set_cons_zero, List.set_cons_succ]
  refine take_one (i := 13) (d := (some 48)) (v := _) (l' := #[true, true, true, true, true, true, true, true, true, true, true, true, true, true, false, false, false, false, false, false, false, false, false, false, false, false, false, false, false, false, false, false, false, false, false, false, false, false]) (by rw [List.getElem?_toArray]; rfl) rfl (by kernel_rfl) (by kernel_rfl) (by kernel_rfl) rfl (fun _ _ _ h => by cases h.1) (Or.inl ⟨by rfl, fun w' hSw => by (try dsimp only at hSw); go_simp; try with_reducible rfl⟩) hSS ?_
  simp only [Act.put, List.setIfInBounds_toArray, List.set_cons_zero, List.set_cons_succ]
  refine take_one (i := 14) (d := (some 49)) (v := _) (l' := #[true, true, true, true, true, true, true, true, true, true, true, true, true, true, true, false, false, false, false, false, false, false, false, false, false, false, false, false, false, false, false, false, false, false, false, false, false, false]) (by rw [List.getElem?_toArray]; rfl) rfl (by kernel_rfl) (by kernel_rfl) (by kernel_rfl) rfl (fun _ _ _ h => by cases h.1) (Or.inl ⟨by rfl, fun w' hSw => by (try dsimp only at hSw); go_simp; try with_reducible rfl⟩) hSS ?_
  simp only [Act.put, List.setIfInBounds_toArray, List.set_cons_zero, List.set_cons_succ]
  refine come_one (i := 15) (l' := #[true, true, true, true, true, true, true, true, true, true, true, true, true, true, true, true, false, false, false, false, false, false, false, false, false, false, false, false, false, false, false, false, false, false, false, false, false, false]) (by rw [List.getElem?_toArray]; rfl) (by kernel_rfl) rfl (fun K' hK => ?_)
  go_simp
  go_at_call 16; refine (K3.out wh3 hh3).mono ?_; rintro e wh4 ⟨rfl, hbz⟩; have hh4 : Below w2.heap.size w2  wh4 := hh3.trans (hbz.mono hh3.size); clear hbz
  refine hK.out _ _ ⟨⟨Nd.cell_keeps hh4 z0, Nd.cell_keeps hh4 z1⟩, Nd.cell_keeps hh4 z2⟩ (fun hSS => ?_)
  try simp only [Act.put, List.setIfInBounds_toArray, List.set_cons_zero, List.set_cons_succ]
  refine take_one (i := 16) (d := (some 51)) (v := _) (l' := #[true, true, true, true, true, true, true, true, true, true, true, true, true, true, true, true, true, false, false, false, false, false, false, false, false, false, false, false, false, false, false, false, false, false, false, false, false, false]) (by rw [List.getElem?_toArray]; rfl) rfl (by kernel_rfl) (by kernel_rfl) (by kernel_rfl) rfl (fun _ _ _ h => by cases h.1) (Or.inl ⟨by rfl, fun w' hSw => by (try dsimp only at hSw); go_simp; try with_reducible rfl⟩) hSS ?_
  simp only [Act.put, List.setIfInBounds_toArray, List.set_cons_zero, List.set_cons_succ]
  refine take_one (i := 17) (d := (some 52)) (v := _) (l' := #[true, true, true, true, true, true, true, true, true, true, true, true, true, true, true, true, true, true, false, false, false, false, false, false, false, false, false, false, false, false, false, false, false, false, false, false, false, false]) (by rw [List.getElem?_toArray]; rfl) rfl (by kernel_rfl) (by kernel_rfl) (by kernel_rfl) rfl (fun _ _ _ h => by cases h.1) (Or.inl ⟨by rfl, fun w' hSw => by (try dsimp only at hSw); go_simp; try with_reducible rfl⟩) hSS ?_
  simp only [Act.put, List.setIfInBounds_toArray, List.set_cons_zero, List.set_cons_succ]
  refine take_one (i := 18) (d := (some 53)) (v := _) (l' := #[true, true, true, true, true, true, true, true, true, true, true, true, true, true, true, true, true, true, true, false, false, false, false, false, false, false, false, false, false, false, false, false, false, false, false, false, false, false]) (by rw [List.getElem?_toArray]; rfl) rfl (by kernel_rfl) (by kernel_rfl) (by kernel_rfl) rfl (fun _ _ _ h => by cases h.1) (Or.inl ⟨by rfl, fun w' hSw => by (try dsimp only at hSw); go_simp; try with_reducible rfl⟩) hSS ?_
  simp only [Act.put, List.setIfInBounds_toArray, List.set_cons_zero, List.set_cons_succ]
  refine take_one (i := 19) (d := (some 54)) (v := _) (l' := #[true, true, true, true, true, true, true, true, true, true, true, true, true, true, true, true, true, true, true, true, false, false, false, false, false, false, false, false, false, false, false, false, false, false, false, false, false, false]) (by rw [List.getElem?_toArray]; rfl) rfl (by kernel_rfl) (by kernel_rfl) (by kernel_rfl) rfl (fun _ _ _ h => by cases h.1) (Or.inl ⟨by rfl, fun w' hSw => by (try dsimp only at hSw); go_simp; try with_reducible rfl⟩) hSS ?_
  simp only [Act.put, List.setIfInBounds_toArray, List.set_cons_zero, List.set_cons_succ]
  refine take_one (i := 20) (d := (some 55)) (v := _) (l' := #[true, true, true, true, true, true, true, true, true, true, true, true, true, true, true, true, true, true, true, true, true, false, false, false, false, false, false, false, false, false, false, false, false, false, false, false, false, false]) (by rw [List.getElem?_toArray]; rfl) rfl (by kernel_rfl) (by kernel_rfl) (by kernel_rfl) rfl (fun _ _ _ h => by cases h.1) (Or.inl ⟨by rfl, fun w' hSw => by (try dsimp only at hSw); go_simp; try with_reducible rfl⟩) hSS ?_
  simp only [Act.put, List.setIfInBounds_toArray, List.set_cons_zero, List.set_cons_succ]
  refine take_one (i := 22) (d := (some 57)) (v := _) (l' := #[true, true, true, true, true, true, true, true, true, true, true, true, true, true, true, true, true, true, true, true, true, false, true, false, false, false, false, false, false, false, false, false, false, false, false, false, false, false]) (by rw [List.getElem?_toArray]; rfl) rfl (by kernel_rfl) (by kernel_rfl) (by kernel_rfl) rfl (fun _ _ _ h => by cases h.1) (Or.inl ⟨by rfl, fun w' hSw => by (try dsimp only at hSw); go_simp; try with_reducible rfl⟩) hSS ?_
  simp only [Act.put, List.setIfInBounds_toArray, List.set_cons_zero, List.set_cons_succ]
  refine take_one (i := 23) (d := (some 58)) (v := _) (l' := #[true, true, true, true, true, true, true, true, true, true, true, true, true, true, true, true, true, true, true, true, true, false, true, true, false, false, false, false, false, false, false, false, false, false, false, false, false, false]) (by rw [List.getElem?_toArray]; rfl) rfl (by kernel_rfl) (by kernel_rfl) (by kernel_rfl) rfl (fun _ _ _ h => by cases h.1) (Or.inl ⟨by rfl, fun w' hSw => by (try dsimp only at hSw); go_simp; try with_reducible rfl⟩) hSS ?_
  simp only [Act.put, List.setIfInBounds_toArray, List.set_cons_zero, List.set_cons_succ]
  refine take_one (i := 24) (d := (some 59)) (v := _) (l' := #[true, true, true, true, true, true, true, true, true, true, true, true, true, true, true, true, true, true, true, true, true, false, true, true, true, false, false, false, false, false, false, false, false, false, false, false, false, false]) (by rw [List.getElem?_toArray]; rfl) rfl (by kernel_rfl) (by kernel_rfl) (by kernel_rfl) rfl (fun _ _ _ h => by cases h.1) (Or.inl ⟨by rfl, fun w' hSw => by (try dsimp only at hSw); go_simp; try with_reducible rfl⟩) hSS ?_
  simp only [Act.put, List.setIfInBounds_toArray, List.set_cons_zero, List.set_cons_succ]
  refine come_one (i := 21) (l' := #[true, true, true, true, true, true, true, true, true, true, true, true, true, true, true, true, true, true, true, true, true, true, true, true, true, false, false, false, false, false, false, false, false, false, false, false, false, false]) (by rw [List.getElem?_toArray]; rfl) (by kernel_rfl) rfl (fun K' hK => ?_)
  go_simp
  go_at_call 20; refine (K4.out wh4 hh4).mono ?_; rintro e wh5 ⟨rfl, hbz⟩; have hh5 : Below w2.heap.size w2  wh5 := hh4.trans (hbz.mono hh4.size); clear hbz
  refine hK.out _ _ ⟨⟨Nd.cell_keeps hh5 z0, Nd.cell_keeps hh5 z1⟩, Nd.cell_keeps hh5 z2⟩ (fun hSS => ?_)
  try simp only [Act.put, List.setIfInBounds_toArray, List.set_cons_zero, List.set_cons_succ]
  refine come_one (i := 25) (l' := #[true, true, true, true, true, true, true, true, true, true, true, true, true, true, true, true, true, true, true, true, true, true, true, true, true, true, false, false, false, false, false, false, false, false, false, false, false, false]) (by rw [List.getElem?_toArray]; rfl) (by kernel_rfl) rfl (fun K' hK => ?_)
  go_simp
  go_at_call 21; refine (K5.out wh5 hh5).mono ?_; rintro e whx ⟨rfl, hww⟩; replace hww := hww.symm; subst hww
  refine hK.out _ _ ⟨⟨Nd.cell_keeps hh5 z0, Nd.cell_keeps hh5 z1⟩, Nd.cell_keeps hh5 z2⟩ (fun hSS => ?_)
  try simp only [Act.put, List.setIfInBounds_toArray, List.set_cons_zero, List.set_cons_succ]
  refine take_one (i := 26) (d := (some 61)) (v := _) (l' := #[true, true, true, true, true, true, true, true, true, true, true, true, true, true, true, true, true, true, true, true, true, true, true, true, true, true, true, false, false, false, false, false, false, false, false, false, false, false]) (by rw [List.getElem?_toArray]; rfl) rfl (by kernel_rfl) (by kernel_rfl) (by kernel_rfl) rfl (fun _ _ _ h => by cases h.1) (Or.inl ⟨by rfl, fun w' hSw => by (try dsimp only at hSw); go_simp; try with_reducible rfl⟩) hSS ?_
  simp only [Act.put, List.setIfInBounds_toArray, List.set_cons_zero, List.set_cons_succ]
  refine take_one (i := 27) (d := (some 62)) (v := _) (l' := #[true, true, true, true, true, true, true, true, true, true, true, true, true, true, true, true, true, true, true, true, true, true, true, true, true, true, true, true, false, false, false, false, false, false, false, false, false, false]) (by rw [List.getElem?_toArray]; rfl) rfl (by kernel_rfl) (by kernel_rfl) (by kernel_rfl) rfl (fun _ _ _ h => by cases h.1) (Or.inl ⟨by rfl, fun w' hSw => by (try dsimp only at hSw); go_simp; try with_reducible rfl⟩) hSS ?_
  simp only [Act.put, List.setIfInBounds_toArray, List.set_cons_zero, List.set_cons_succ]
  refine take_one (i := 28) (d := (some 63)) (v := _) (l' := #[true, true, true, true, true, true, true, true, true, true, true, true, true, true, true, true, true, true, true, true, true, true, true, true, true, true, true, true, true, false, false, false, false, false, false, false, false, false]) (by rw [List.getElem?_toArray]; rfl) rfl (by kernel_rfl) (by kernel_rfl) (by kernel_rfl) rfl (fun _ _ _ h => by cases h.1) (Or.inl ⟨by rfl, fun w' hSw => by (try dsimp only at hSw); go_simp; try with_reducible rfl⟩) hSS ?_
  simp only [Act.put, List.setIfInBounds_toArray, List.set_cons_zero, List.set_cons_succ]
  refine take_one (i := 29) (d := (some 64)) (v := _) (l' := #[true, true, true, true, true, true, true, true, true, true, true, true, true, true, true, true, true, true, true, true, true, true, true, true, true, true, true, true, true, true, false, false, false, false, false, false, false, false]) (by rw [List.getElem?_toArray]; rfl) rfl (by kernel_rfl) (by kernel_rfl) (by kernel_rfl) rfl (fun _ _ _ h => by cases h.1) (Or.inl ⟨by rfl, fun w' hSw => by (try dsimp only at hSw); go_simp; try with_reducible rfl⟩) hSS ?_
  simp only [Act.put, List.setIfInBounds_toArray, List.set_cons_zero, List.set_cons_succ]
  refine take_one (i := 30) (d := (some 65)) (v := _) (l' := #[true, true, true, true, true, true, true, true, true, true, true, true, true, true, true, true, true, true, true, true, true, true, true, true, true, true, true, true, true, true, true, false, false, false, false, false, false, false]) (by rw [List.getElem?_toArray]; rfl) rfl (by kernel_rfl) (by kernel_rfl) (by kernel_rfl) rfl (fun _ _ _ h => by cases h.1) (Or.inl ⟨by rfl, fun w' hSw => by (try dsimp only at hSw); go_simp; try with_reducible rfl⟩) hSS ?_
  simp only [Act.put, List.setIfInBounds_toArray, List.set_cons_zero, List.set_cons_succ]
  refine take_one (i := 32) (d := (some 67)) (v := _) (l' := #[true, true, true, true, true, true, true, true, true, true, true, true, true, true, true, true, true, true, true, true, true, true, true, true, true, true, true, true, true, true, true, false, true, false, false, false, false, false]) (by rw [List.getElem?_toArray]; rfl) rfl (by kernel_rfl) (by kernel_rfl) (by kernel_rfl) rfl (fun _ _ _ h => by cases h.1) (Or.inl ⟨by rfl, fun w' hSw => by (try dsimp only at hSw); go_simp; try with_reducible rfl⟩) hSS ?_
  simp only [Act.put, List.setIfInBounds_toArray, List.set_cons_zero, List.set_cons_succ]
  refine take_one (i := 33) (d := (some 68)) (v := _) (l' := #[true, true, true, true, true, true, true, true, true, true, true, true, true, true, true, true, true, true, true, true, true, true, true, true, true, true, true, true, true, true, true, false, true, true, false, false, false, false]) (by rw [List.getElem?_toArray]; rfl) rfl (by kernel_rfl) (by kernel_rfl) (by kernel_rfl) rfl (fun _ _ _ h => by cases h.1) (Or.inl ⟨by rfl, fun w' hSw => by (try dsimp only at hSw); go_simp; try with_reducible rfl⟩) hSS ?_
  simp only [Act.put, List.setIfInBounds_toArray, List.set_cons_zero, List.set_cons_succ]
  refine take_one (i := 34) (d := (some 69)) (v := _) (l' := #[true, true, true, true, true, true, true, true, true, true, true, true, true, true, true, true, true, true, true, true, true, true, true, true, true, true, true, true, true, true, true, false, true, true, true, false, false, false]) (by rw [List.getElem?_toArray]; rfl) rfl (by kernel_rfl) (by kernel_rfl) (by kernel_rfl) rfl (fun _ _ _ h => by cases h.1) (Or.inl ⟨by rfl, fun w' hSw => by (try dsimp only at hSw); go_simp; try with_reducible rfl⟩) hSS ?_
  simp only [Act.put, List.setIfInBounds_toArray, List.set_cons_zero, List.set_cons_succ]
  refine come_one (i := 31) (l' := #[true, true, true, true, true, true, true, true, true, true, true, true, true, true, true, true, true, true, true, true, true, true, true, true, true, true, true, true, true, true, true, true, true, true, true, false, false, false]) (by rw [List.getElem?_toArray]; rfl) (by kernel_rfl) rfl (fun K' hK => ?_)
  go_simp
  go_at_call 22; refine (K6.out wh5 hh5).mono ?_; rintro e wh6 ⟨rfl, hbz⟩; have hh6 : Below w2.heap.size w2  wh6 := hh5.trans (hbz.mono hh5.size); clear hbz
  refine hK.out _ _ ⟨⟨Nd.cell_keeps hh6 z0, Nd.cell_keeps hh6 z1⟩, Nd.cell_keeps hh6 z2⟩ (fun hSS => ?_)
  try simp only [Act.put, List.setIfInBounds_toArray, List.set_cons_zero, List.set_cons_succ]
  refine come_one (i := 35) (l' := #[true, true, true, true, true, true, true, true, true, true, true, true, true, true, true, true, true, true, true, true, true, true, true, true, true, true, true, true, true, true, true, true, true, true, true, true, false, false]) (by rw [List.getElem?_toArray]; rfl) (by kernel_rfl) rfl (fun K' hK => ?_)
  go_simp
  go_at_call 23; refine (K7.out wh6 hh6).mono ?_; rintro e whx ⟨rfl, hww⟩; replace hww := hww.symm; subst hww
  refine hK.out _ _ ⟨⟨Nd.cell_keeps hh6 z0, Nd.cell_keeps hh6 z1⟩, Nd.cell_keeps hh6 z2⟩ (fun hSS => ?_)
  try simp only [Act.put, List.setIfInBounds_toArray, List.set_cons_zero, List.set_cons_succ]
  refine take_one (i := 36) (d := (some 71)) (v := _) (l' := #[true, true, true, true, true, true, true, true, true, true, true, true, true, true, true, true, true, true, true, true, true, true, true, true, true, true, true, true, true, true, true, true, true, true, true, true, true, false]) (by rw [List.getElem?_toArray]; rfl) rfl (by kernel_rfl) (by kernel_rfl) (by kernel_rfl) rfl (fun _ _ _ h => by cases h.1) (Or.inl ⟨by rfl, fun w' hSw => by (try dsimp only at hSw); go_simp; try with_reducible rfl⟩) hSS ?_
  simp only [Act.put, List.setIfInBounds_toArray, List.set_cons_zero, List.set_cons_succ]
  refine take_one (i := 37) (d := (some 72)) (v := _) (l' := #[true, true, true, true, true, true, true, true, true, true, true, true, true, true, true, true, true, true, true, true, true, true, true, true, true, true, true, true, true, true, true, true, true, true, true, true, true, true]) (by rw [List.getElem?_toArray]; rfl) rfl (by kernel_rfl) (by kernel_rfl) (by kernel_rfl) rfl (fun _ _ _ h => by cases h.1) (Or.inl ⟨by rfl, fun w' hSw => by (try dsimp only at hSw); go_simp; try with_reducible rfl⟩) hSS ?_
  simp only [Act.put, List.setIfInBounds_toArray, List.set_cons_zero, List.set_cons_succ]
  refine wpAnyH_done (by kernel_rfl) ?_ _
  refine ⟨rfl, ?_⟩
  replace HB := Lib.hid (HB.out.trans (hh6.mono HB.out.size))
  have LAD := Lib.hid (show Ladder w.heap.size [.slice (some ⟨gt, 0, none⟩) a.length ct, .slice A0 ll.length C0] wh6.heap.size from ⟨_, _, HS0.out, sz1.out, bt.out, _, _, Nat.le_refl _, sz2.out, b0.out, hh6.size⟩)
  have rt2 := Lib.hid (rt.out.below hh6)
  have h02 := Lib.hid (h0.out.below hh6)
  have HPS := Lib.hid (show ∀ wr, Below wh6.heap.size wh6 wr → ∀ (j : Nat) (v : Value), ([.slice (some ⟨gt, 0, none⟩) a.length ct, .slice A0 ll.length C0] : List Value)[j]? = some v → PS wr ((j : Int) + 1) v 0 from fun wr hb j v hj => by
    rcases (show j = 0 ∨ j = 1 by have := (List.getElem?_eq_some_iff.1 hj).1; simp at this; omega) with rfl | rfl
    · obtain rfl := Option.some.inj hj; exact PS.of_twv (rt2.out.below hb) _
    · obtain rfl := Option.some.inj hj; exact PS.of_hld (h02.out.below hb) _)
  have bks := Lib.hid (BkS.start wh6)
  clear HS0 sz1 bt sz2 b0 rt2 h02 rt h0 ra rb rc kb R0 N0 K1 K2 K3 K4 K5 K6 K7 KR z0 z1 z2
  go_wp2_with fail
  refine (RangesRn_any _ [] _ _ _ _ bks.out (by simp)).mono ?_
  rintro e w11 ⟨rfl, hk, hb⟩
  have HW := Lib.hid (show Below wh6.heap.size wh6 w11 from ((Below.refl _ wh6).alloc (Nat.le_refl _) _).trans hb)
  have HK := Lib.hid hk
  clear hk hb bks
  go_wp2_with fail
  refine (RangesRn_any _ _ _ _ _ _ HK.out (by simp)).mono ?_
  rintro e w12 ⟨rfl, hk, hb⟩
  replace HW := Lib.hid (HW.out.trans hb)
  replace HK := Lib.hid (show BkS w12 wh6.heap.size [.slice (some ⟨gt, 0, none⟩) a.length ct, .slice A0 ll.length C0] from hk)
  clear hk hb
  go_wp2_with fail
  refine (ApartRn_any w.heap.size _ _ _ HK.out (by simp) LAD.out.apd (Ladder.le _ LAD.out) (HPS.out _ HW.out)).mono ?_
  rintro e w13 ⟨rfl, hb⟩
  have HF := Lib.hid (show Below w.heap.size w w13 from (HB.out.trans (HW.out.mono HB.out.size)).trans hb)
  clear hb
  go_wp2_with fail
  refine (SplitRn_any [] _ _ (RLL_none _) (by simp [total]) (by simp) (by simp)).mono ?_
  rintro e w14 ⟨ve, le, rfl, ho, hr, hi, hn, hb⟩
  obtain rfl := split_none hr
  obtain ⟨Ae, Ce, hve, _, _⟩ := ho.rl
  subst hve
  rw [List.length_nil]
  replace HF := Lib.hid (HF.out.trans (hb.mono HF.out.size))
  clear ho hr hi hn hb
  go_wp2_with fail
  refine (Union_any [] _ _ (RLL_none _) (by simp [total]) (by simp) (by simp)).mono ?_
  rintro e w15 ⟨ve, le, rfl, ho, hr, hi, hn, hb⟩
  obtain rfl := union_none hr
  obtain ⟨Ag, Cg, hve, _, _⟩ := ho.rl
  subst hve
  rw [List.length_nil]
  replace HF := Lib.hid (HF.out.trans (hb.mono HF.out.size))
  clear ho hr hi hn hb
  go_wp2_with fail
  refine (livesRn_true _).mono ?_
  rintro e w16 ⟨rfl, hb⟩
  replace HF := Lib.hid (HF.out.trans (hb.mono HF.out.size))
  clear hb
  go_wp2_with fail
  go_ret
  first | exact ⟨rfl, HF.out⟩ | exact ⟨rfl, by rw [← hbx]; exact HF.out⟩
theorem RangesSplit_any (a b c : List (Int × Int)) (va vb vc : Value) (x : Int) (w : World) (ha : RL w va a) (hb : RL w vb b) (hc : RL w vc c) (hIa : I32 a) (hIb : I32 b) (hIc : I32 c) (hza : ∀ n c, va = .slice none n c → c = 0) :
    Calls Try.prog 4 #[.agg #[va, vb, vc], .int .i32 x] w fun e w' => e = .returned (.bool true) ∧ Below w.heap.size w w' := by
  by_cases h1 : 40 < a.length
  · obtain ⟨A, cA, rfl, _, _⟩ := ha
    obtain ⟨B, cB, rfl, _, _⟩ := hb
    obtain ⟨D, cD, rfl, _, _⟩ := hc
    exact RangesSplit_lives1 A B D _ _ _ cA cB cD x w h1
  by_cases h2 : 40 < b.length
  · obtain ⟨A, cA, rfl, _, _⟩ := ha
    obtain ⟨B, cB, rfl, _, _⟩ := hb
    obtain ⟨D, cD, rfl, _, _⟩ := hc
    exact RangesSplit_lives2 A B D _ _ _ cA cB cD x w h1 h2
  by_cases h3 : 40 < c.length
  · obtain ⟨A, cA, rfl, _, _⟩ := ha
    obtain ⟨B, cB, rfl, _, _⟩ := hb
    obtain ⟨D, cD, rfl, _, _⟩ := hc
    exact RangesSplit_lives3 A B D _ _ _ cA cB cD x w h1 h2 h3
  exact RangesSplit_main a b c va vb vc x w ha hb hc hIa hIb hIc hza h1 h2 h3
end Go.Proofs.Ytianappapfpbeaa
