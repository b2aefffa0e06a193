/- Ends of what may come again and again. -/
import Derived.Test.YtiinkhmgemoamaaDoorPbq
import Derived.Test.YtiinkhmgemoamaaDoorPz
namespace Go.Proofs.YtiinkhmgemoamaaDoor.Gl
open Go Go.RowKit Nd Nu Nf
attribute [local go_sem] Oper.semAt_some
set_option maxRecDepth 100000

set_option maxHeartbeats 8000000 in
theorem Ends_plus (w : World) (g0 g1 g2 g3 : Value) (n1 n2 n3 : Value) (sb so sc : Nat) (v0 v1 v2 v3 v4 : Value) (f : List Bool → List Bool) (lv inv : Value) (m : List Bool) (hv : BoV w inv m) (hm : m.length ≤ 1000) (ha : m.any id = true)
 (c0 : w.cell? ⟨sb, so, none⟩ = some v0) (c1 : w.cell? ⟨sb, so + 1, none⟩ = some v1) (c2 : w.cell? ⟨sb, so + 2, none⟩ = some v2) (c3 : w.cell? ⟨sb, so + 3, none⟩ = some v3) (c4 : w.cell? ⟨sb, so + 4, none⟩ = some v4)
 (hf : ∀ mm : List Bool, mm.length = m.length → (f mm).length = m.length)
 (hE : ∀ (wx : World) (xv : Value) (mm : List Bool), Below w.heap.size w wx → BoV wx xv mm → mm.length = m.length → EndsAt wx (.agg #[g0, g1, g2, g3]) (.agg #[v0, v1, v2, v3, v4]) lv xv (f mm)) :
 EndsAt w (.agg #[g0, g1, g2, g3]) (.agg #[.int .u8 4, n1, n2, n3, .slice (some ⟨sb, so, none⟩) 1 sc]) lv inv (starT f m.length m (tab m.length fun _ => false)) := by
 obtain ⟨M, hM⟩ : ∃ M, m.length = M := ⟨_, rfl⟩
 have HS := Lib.hid (fun (wx : World) (hb : Below w.heap.size w wx) => some_any m inv wx (hv.below hb) (by omega))
 have HS2 := Lib.hid (fun (wx : World) (u : Value) (mm : List Bool) (hu : BoV wx u mm) (h1 : mm.length = M) => some_any mm u wx hu (by omega))
 have HV := Lib.hid hv
 obtain ⟨b, c, rfl, _⟩ := hv
 rw [ha, hM] at HS
 rw [hM] at hm hf hE HV
 obtain ⟨OUT, hOUT⟩ : ∃ o, starT f M m (tab M fun _ => false) = o := ⟨_, rfl⟩
 rw [hM, hOUT]
 have HE := Lib.hid hE
 have HFl := Lib.hid hf
 have n1' : (M : Int) ≤ 9223372036854775807 := by omega
 have hmk := run_make_row' (P := Tryd.prog) 52 4 (.bool false) 1 Tryd.underlying52 infoBool rfl .i64 .i64 M (by omega) (by omega)
 obtain ⟨W, hW⟩ : ∃ W, ((w.alloc (.cells #[g0, g1, g2, g3] 26)).alloc (.cells #[.int .u8 4, n1, n2, n3, .slice (some ⟨sb, so, none⟩) 1 sc] 34)).alloc (.cells (madeCells #[.bool false] M) 4) = W := ⟨_, rfl⟩
 obtain ⟨hb, _, hkg, hkn, hzz⟩ := ends_start w g0 g1 g2 g3 (.int .u8 4) n1 n2 n3 (.slice (some ⟨sb, so, none⟩) 1 sc) M W hW.symm
 have HW := Lib.hid hW
 have x0 := hkn.cell 0
 simp at x0
 have HK0 := Lib.hid (show ∀ w' : World, Below W.heap.size W w' → w'.cell? ⟨w.heap.size + 1, 0, none⟩ = some (.int .u8 4) from fun w' hw => (hkn.below hw hkn.lt).cell 0)
 have HK := Lib.hid (show ∀ w' : World, Below W.heap.size W w' → (w'.cell? ⟨w.heap.size, 0, none⟩ = some g0 ∧ w'.cell? ⟨w.heap.size, 1, none⟩ = some g1 ∧ w'.cell? ⟨w.heap.size, 2, none⟩ = some g2 ∧ w'.cell? ⟨w.heap.size, 3, none⟩ = some g3) ∧ w'.cell? ⟨w.heap.size + 1, 4, none⟩ = some (.slice (some ⟨sb, so, none⟩) 1 sc) ∧ w'.cell? ⟨sb, so, none⟩ = some v0 ∧ w'.cell? ⟨sb, so + 1, none⟩ = some v1 ∧ w'.cell? ⟨sb, so + 2, none⟩ = some v2 ∧ w'.cell? ⟨sb, so + 3, none⟩ = some v3 ∧ w'.cell? ⟨sb, so + 4, none⟩ = some v4 from fun w' hw => by
  have g := hkg.below hw hkg.lt
  have n := hkn.below hw hkn.lt
  have hw' := hb.trans (hw.mono hb.size)
  exact ⟨⟨g.cell 0, g.cell 1, g.cell 2, g.cell 3⟩, n.cell 4, Nd.cell_keeps hw' c0, Nd.cell_keeps hw' c1, Nd.cell_keeps hw' c2, Nd.cell_keeps hw' c3, Nd.cell_keeps hw' c4⟩)
 have HB := Lib.hid hb
 have HST := Lib.hid (show ∃ ww oo, BoV W (.slice (some ⟨b, 0, none⟩) M c) ww ∧ BoV W (.slice (some ⟨w.heap.size + 1 + 1, 0, none⟩) M M) oo ∧ ww.length = M ∧ oo.length = M ∧ starT f (M - 0) ww oo = OUT ∧ Below W.heap.size W W from ⟨m, _, HV.out.below hb, hzz, hM, tab_len _ _, hOUT, Below.refl _ _⟩)
 have HOO := Lib.hid (fun (wx : World) (u xv : Value) (mm xx : List Bool) (hu : BoV wx u mm) (hx : BoV wx xv xx) (h1 : mm.length = M) (h2 : xx.length = M) => one_any mm xx u xv wx hu hx (by omega) (by omega))
 clear ha hM hW hkn hkg hE hf hOUT hzz c0 c1 c2 c3 c4
 unfold EndsAt
 go_enter Tryd.func12, Tryd.ntmps12
 go_upto_region 2 with fail
 rw [HW.out]
 go_wp2_with (go_at_call 23; refine (HS.out _ hb).mono ?_; rintro e w' ⟨rfl, hw'⟩; rw [hw'])
 clear hb
 go_loopw [13, 12, 9] (fun i x y wr => ∃ (p : Nat) (u1 u2 : Value), p ≤ M ∧ i = .int .i64 p ∧ u1 = x ∧ u2 = y ∧ Hid (∃ ww oo, BoV wr u1 ww ∧ BoV wr u2 oo ∧ ww.length = M ∧ oo.length = M ∧ starT f (M - p) ww oo = OUT ∧ Below W.heap.size W wr)) (fun i _ _ _ => M - (intOf i).toNat)
 case atStart => exact ⟨0, _, _, Nat.zero_le _, rfl, rfl, rfl, HST⟩
 case round =>
  obtain ⟨p, u1, u2, hp, rfl, rfl, rfl, hJ⟩ := hrel
  obtain ⟨ww, oo, hwv, hov, hwl, hol, hst, hbw⟩ := hJ.out
  by_cases hlt : p < M
  · have dp : decide (p < M) = true := by rw [decide_eq_true_iff]; exact hlt
    have p1 : (p : Int) < (M : Int) := by omega
    have hBw := HB.out.trans (hbw.mono HB.out.size)
    have HC := Lib.hid (fun (w' : World) (hw : Below wr.heap.size wr w') => HK.out w' (hbw.trans (hw.mono hbw.size)))
    have HEp := Lib.hid (fun (wx : World) (hw : Below wr.heap.size wr wx) => show Calls Tryd.prog 12 #[.agg #[g0, g1, g2, g3], .agg #[v0, v1, v2, v3, v4], lv, u1] wx fun e w' => (∃ x, e = .returned x ∧ BoV w' x (f ww)) ∧ Below wx.heap.size wx w' from
     HE.out wx u1 ww (hBw.trans (hw.mono hBw.size)) (hwv.below hw) hwl)
    have hfl := HFl.out ww hwl
    have HOp := Lib.hid (fun (wx : World) (xv : Value) (hw : Below wr.heap.size wr wx) (hx : BoV wx xv (f ww)) => HOO.out wx u2 xv oo (f ww) (hov.below hw) hx hol hfl)
    have HSp := Lib.hid (fun (wx : World) (xv : Value) (hx : BoV wx xv (f ww)) => HS2.out wx xv (f ww) hx hfl)
    have hbd : Below wr.heap.size wr wr.drew := (Below.refl _ _).drew
    have hst2 : (if (f ww).any id then starT f (M - (p + 1)) (f ww) (orT oo (f ww)) else orT oo (f ww)) = OUT := by
     rw [← hst, show M - p = (M - (p + 1)) + 1 by omega]; rfl
    obtain ⟨z, hz⟩ : ∃ z, (f ww).any id = z := ⟨_, rfl⟩
    rw [hz] at HSp hst2
    have HNX := Lib.hid (And.intro hfl ((tab_len _ _).trans hol : (orT oo (f ww)).length = M))
    have HZ := Lib.hid hst2
    replace hbw := Lib.hid hbw
    clear hJ hwv hov hst hBw hwl hol hfl hst2 hz x0
    go_upto_region 25 with fail
    refine wp_cutN (fun a a' w' => (∃ z0 z1 z2 z3 z4 z5 z6 z7 xv : Value, a' = (((((((((a.put (some 87) z0).put (some 88) z1).put (some 89) z2).put (some 90) z3).put (some 91) z4).put (some 92) z5).put (some 93) z6).put (some 94) z7).put (some 12) xv) ∧ BoV w' xv (f ww)) ∧ Below wr.heap.size wr w') ?first ?next
    case first =>
     refine wp_region_held_drew (S := fun w' : World => (w'.cell? ⟨w.heap.size, 0, none⟩ = some g0 ∧ w'.cell? ⟨w.heap.size, 1, none⟩ = some g1 ∧ w'.cell? ⟨w.heap.size, 2, none⟩ = some g2 ∧ w'.cell? ⟨w.heap.size, 3, none⟩ = some g3) ∧ w'.cell? ⟨w.heap.size + 1, 4, none⟩ = some (.slice (some ⟨sb, so, none⟩) 1 sc) ∧ w'.cell? ⟨sb, so, none⟩ = some v0 ∧ w'.cell? ⟨sb, so + 1, none⟩ = some v1 ∧ w'.cell? ⟨sb, so + 2, none⟩ = some v2 ∧ w'.cell? ⟨sb, so + 3, none⟩ = some v3 ∧ w'.cell? ⟨sb, so + 4, none⟩ = some v4) (by kernel_rfl) (HC.out _ hbd) (fun hSS => ?_)
     show wpAnyH _ _ _ _ _ 9 #[false, false, false, false, false, false, false, false, false] _ _
     refine zqT 0 (some 87) _ (zqF 9 1) (by rw [List.getElem?_toArray]; rfl) rfl (by kernel_rfl) rfl (fun _ _ _ h => h) (Or.inl ⟨by rfl, fun w' hSw => by (try dsimp only at hSw); go_simp; try with_reducible rfl⟩) hSS ?_
     simp only [zqN]
     refine zqT 1 (some 88) _ (zqF 9 2) (by rw [List.getElem?_toArray]; rfl) rfl (by kernel_rfl) rfl (fun _ _ _ h => h) (Or.inl ⟨by rfl, fun w' hSw => by (try dsimp only at hSw); go_simp; try with_reducible rfl⟩) hSS ?_
     simp only [zqN]
     refine zqT 2 (some 89) _ (zqF 9 3) (by rw [List.getElem?_toArray]; rfl) rfl (by kernel_rfl) rfl (fun _ _ _ h => h) (Or.inl ⟨by rfl, fun w' hSw => by (try dsimp only at hSw); go_simp; try with_reducible rfl⟩) hSS ?_
     simp only [zqN]
     refine zqT 3 (some 90) _ (zqF 9 4) (by rw [List.getElem?_toArray]; rfl) rfl (by kernel_rfl) rfl (fun _ _ _ h => h) (Or.inl ⟨by rfl, fun w' hSw => by (try dsimp only at hSw); go_simp; try with_reducible rfl⟩) hSS ?_
     simp only [zqN]
     refine zqT 4 (some 91) _ (zqF 9 5) (by rw [List.getElem?_toArray]; rfl) rfl (by kernel_rfl) rfl (fun _ _ _ h => h) (Or.inl ⟨by rfl, fun w' hSw => by (try dsimp only at hSw); go_simp; try with_reducible rfl⟩) hSS ?_
     simp only [zqN]
     refine zqT 5 (some 92) _ (zqF 9 6) (by rw [List.getElem?_toArray]; rfl) rfl (by kernel_rfl) rfl (fun _ _ _ h => h) (Or.inl ⟨by rfl, fun w' hSw => by (try dsimp only at hSw); go_simp; try with_reducible rfl⟩) hSS ?_
     simp only [zqN]
     refine zqT 6 (some 93) _ (zqF 9 7) (by rw [List.getElem?_toArray]; rfl) rfl (by kernel_rfl) rfl (fun _ _ _ h => h) (Or.inl ⟨by rfl, fun w' hSw => by (try dsimp only at hSw); go_simp; try with_reducible rfl⟩) hSS ?_
     simp only [zqN]
     refine come_one (i := 7) (l' := (zqF 9 8)) (by rw [List.getElem?_toArray]; rfl) (by kernel_rfl) rfl (fun K' hK => ?_)
     go_simp
     go_at_call 12; refine (HEp.out _ hbd).mono ?_; rintro e w5 ⟨⟨xv, rfl, hxv⟩, hb5⟩; have hB5 := hbd.trans (hb5.mono hbd.size)
     refine hK.out _ _ (HC.out _ hB5) (fun hSS => ?_)
     try simp only [zqN]
     refine zqT 8 (some 12) _ (zqF 9 9) (by rw [List.getElem?_toArray]; rfl) rfl (by kernel_rfl) rfl (fun _ _ _ h => h) (Or.inl ⟨by rfl, fun w' hSw => by (try dsimp only at hSw); go_simp; try with_reducible rfl⟩) hSS ?_
     simp only [zqN]
     refine wpAnyH_done (by kernel_rfl) ?_ _
     exact ⟨⟨_, _, _, _, _, _, _, _, xv, rfl, hxv⟩, hB5⟩
    case next =>
     rintro a' w1 ⟨⟨z0, z1, z2, z3, z4, z5, z6, z7, xv, rfl, hx⟩, hb1⟩
     have HX := Lib.hid hx
     cases z with
     | true =>
      go_wp2_with (first
       | (go_at_call 24; refine (HOp.out _ _ hb1 HX.out).mono ?_; rintro e w6 ⟨⟨yv, rfl, hyv⟩, hb6⟩; have hB6 := hb1.trans (hb6.mono hb1.size); have hx6 := HX.out.below hb6)
       | (go_at_call 23; refine (HSp.out _ _ hx6).mono ?_; rintro e w7 ⟨rfl, hw7⟩; rw [hw7]))
      exact ⟨⟨p + 1, _, _, by omega, by go_num, rfl, rfl, Lib.hid ⟨_, _, hx6, hyv, HNX.out.1, HNX.out.2, HZ.out, hbw.out.trans (hB6.mono hbw.out.size)⟩⟩, by simp [intOf]; omega⟩
     | false =>
      go_wp2_with (first
       | (go_at_call 24; refine (HOp.out _ _ hb1 HX.out).mono ?_; rintro e w6 ⟨⟨yv, rfl, hyv⟩, hb6⟩; have hB6 := hb1.trans (hb6.mono hb1.size); have hx6 := HX.out.below hb6; have hbW := hbw.out.trans (hB6.mono hbw.out.size); have x0 := HK0.out _ hbW)
       | (go_at_call 23; refine (HSp.out _ _ hx6).mono ?_; rintro e w7 ⟨rfl, hw7⟩; rw [hw7]))
      go_ret
      refine ⟨⟨_, rfl, ?_⟩, HB.out.trans (hbW.mono HB.out.size)⟩
      rw [← HZ.out]
      exact hyv
  · obtain rfl : p = M := by omega
    have dp : decide (p < p) = false := by simp
    have HF := Lib.hid (show oo = OUT from by rw [← hst, Nat.sub_self]; rfl)
    have HM := Lib.hid (And.intro hov hbw)
    have x9 := HK0.out _ hbw
    clear hJ hwv hov hst
    go_wp2_with fail
    go_ret
    refine ⟨⟨_, rfl, ?_⟩, HB.out.trans (HM.out.2.mono HB.out.size)⟩
    rw [← HF.out]
    exact HM.out.1
end Go.Proofs.YtiinkhmgemoamaaDoor.Gl
namespace Go.Proofs.YtiinkhmgemoamaaDoor.Gl
open Go Go.RowKit Nd Nu Nf
attribute [local go_sem] Oper.semAt_some
set_option maxRecDepth 100000

set_option maxHeartbeats 8000000 in
theorem Ends_star (w : World) (g0 g1 g2 g3 : Value) (n1 n2 n3 : Value) (sb so sc : Nat) (v0 v1 v2 v3 v4 : Value) (f : List Bool → List Bool) (lv inv : Value) (m : List Bool) (hv : BoV w inv m) (hm : m.length ≤ 1000) (ha : m.any id = true)
 (c0 : w.cell? ⟨sb, so, none⟩ = some v0) (c1 : w.cell? ⟨sb, so + 1, none⟩ = some v1) (c2 : w.cell? ⟨sb, so + 2, none⟩ = some v2) (c3 : w.cell? ⟨sb, so + 3, none⟩ = some v3) (c4 : w.cell? ⟨sb, so + 4, none⟩ = some v4)
 (hf : ∀ mm : List Bool, mm.length = m.length → (f mm).length = m.length)
 (hE : ∀ (wx : World) (xv : Value) (mm : List Bool), Below w.heap.size w wx → BoV wx xv mm → mm.length = m.length → EndsAt wx (.agg #[g0, g1, g2, g3]) (.agg #[v0, v1, v2, v3, v4]) lv xv (f mm)) :
 EndsAt w (.agg #[g0, g1, g2, g3]) (.agg #[.int .u8 3, n1, n2, n3, .slice (some ⟨sb, so, none⟩) 1 sc]) lv inv (orT (starT f m.length m (tab m.length fun _ => false)) m) := by
 obtain ⟨M, hM⟩ : ∃ M, m.length = M := ⟨_, rfl⟩
 have HS := Lib.hid (fun (wx : World) (hb : Below w.heap.size w wx) => some_any m inv wx (hv.below hb) (by omega))
 have HS2 := Lib.hid (fun (wx : World) (u : Value) (mm : List Bool) (hu : BoV wx u mm) (h1 : mm.length = M) => some_any mm u wx hu (by omega))
 have HV := Lib.hid hv
 obtain ⟨b, c, rfl, _⟩ := hv
 rw [ha, hM] at HS
 rw [hM] at hm hf hE HV
 obtain ⟨OUT, hOUT⟩ : ∃ o, starT f M m (tab M fun _ => false) = o := ⟨_, rfl⟩
 rw [hM, hOUT]
 have HML := Lib.hid hM
 have HE := Lib.hid hE
 have HFl := Lib.hid hf
 have n1' : (M : Int) ≤ 9223372036854775807 := by omega
 have hmk := run_make_row' (P := Tryd.prog) 52 4 (.bool false) 1 Tryd.underlying52 infoBool rfl .i64 .i64 M (by omega) (by omega)
 obtain ⟨W, hW⟩ : ∃ W, ((w.alloc (.cells #[g0, g1, g2, g3] 26)).alloc (.cells #[.int .u8 3, n1, n2, n3, .slice (some ⟨sb, so, none⟩) 1 sc] 34)).alloc (.cells (madeCells #[.bool false] M) 4) = W := ⟨_, rfl⟩
 obtain ⟨hb, _, hkg, hkn, hzz⟩ := ends_start w g0 g1 g2 g3 (.int .u8 3) n1 n2 n3 (.slice (some ⟨sb, so, none⟩) 1 sc) M W hW.symm
 have HW := Lib.hid hW
 have x0 := hkn.cell 0
 simp at x0
 have HK0 := Lib.hid (show ∀ w' : World, Below W.heap.size W w' → w'.cell? ⟨w.heap.size + 1, 0, none⟩ = some (.int .u8 3) from fun w' hw => (hkn.below hw hkn.lt).cell 0)
 have HK := Lib.hid (show ∀ w' : World, Below W.heap.size W w' → (w'.cell? ⟨w.heap.size, 0, none⟩ = some g0 ∧ w'.cell? ⟨w.heap.size, 1, none⟩ = some g1 ∧ w'.cell? ⟨w.heap.size, 2, none⟩ = some g2 ∧ w'.cell? ⟨w.heap.size, 3, none⟩ = some g3) ∧ w'.cell? ⟨w.heap.size + 1, 4, none⟩ = some (.slice (some ⟨sb, so, none⟩) 1 sc) ∧ w'.cell? ⟨sb, so, none⟩ = some v0 ∧ w'.cell? ⟨sb, so + 1, none⟩ = some v1 ∧ w'.cell? ⟨sb, so + 2, none⟩ = some v2 ∧ w'.cell? ⟨sb, so + 3, none⟩ = some v3 ∧ w'.cell? ⟨sb, so + 4, none⟩ = some v4 from fun w' hw => by
  have g := hkg.below hw hkg.lt
  have n := hkn.below hw hkn.lt
  have hw' := hb.trans (hw.mono hb.size)
  exact ⟨⟨g.cell 0, g.cell 1, g.cell 2, g.cell 3⟩, n.cell 4, Nd.cell_keeps hw' c0, Nd.cell_keeps hw' c1, Nd.cell_keeps hw' c2, Nd.cell_keeps hw' c3, Nd.cell_keeps hw' c4⟩)
 have HB := Lib.hid hb
 have HST := Lib.hid (show ∃ ww oo, BoV W (.slice (some ⟨b, 0, none⟩) M c) ww ∧ BoV W (.slice (some ⟨w.heap.size + 1 + 1, 0, none⟩) M M) oo ∧ ww.length = M ∧ oo.length = M ∧ starT f (M - 0) ww oo = OUT ∧ Below W.heap.size W W from ⟨m, _, HV.out.below hb, hzz, hM, tab_len _ _, hOUT, Below.refl _ _⟩)
 have HOO := Lib.hid (fun (wx : World) (u xv : Value) (mm xx : List Bool) (hu : BoV wx u mm) (hx : BoV wx xv xx) (h1 : mm.length = M) (h2 : xx.length = M) => one_any mm xx u xv wx hu hx (by omega) (by omega))
 clear ha hM hW hkn hkg hE hf hOUT hzz c0 c1 c2 c3 c4
 unfold EndsAt
 go_enter Tryd.func12, Tryd.ntmps12
 go_upto_region 2 with fail
 rw [HW.out]
 go_wp2_with (go_at_call 23; refine (HS.out _ hb).mono ?_; rintro e w' ⟨rfl, hw'⟩; rw [hw'])
 clear hb
 go_loopw [13, 12, 9] (fun i x y wr => ∃ (p : Nat) (u1 u2 : Value), p ≤ M ∧ i = .int .i64 p ∧ u1 = x ∧ u2 = y ∧ Hid (∃ ww oo, BoV wr u1 ww ∧ BoV wr u2 oo ∧ ww.length = M ∧ oo.length = M ∧ starT f (M - p) ww oo = OUT ∧ Below W.heap.size W wr)) (fun i _ _ _ => M - (intOf i).toNat)
 case atStart => exact ⟨0, _, _, Nat.zero_le _, rfl, rfl, rfl, HST⟩
 case round =>
  obtain ⟨p, u1, u2, hp, rfl, rfl, rfl, hJ⟩ := hrel
  obtain ⟨ww, oo, hwv, hov, hwl, hol, hst, hbw⟩ := hJ.out
  by_cases hlt : p < M
  · have dp : decide (p < M) = true := by rw [decide_eq_true_iff]; exact hlt
    have p1 : (p : Int) < (M : Int) := by omega
    have hBw := HB.out.trans (hbw.mono HB.out.size)
    have HC := Lib.hid (fun (w' : World) (hw : Below wr.heap.size wr w') => HK.out w' (hbw.trans (hw.mono hbw.size)))
    have HEp := Lib.hid (fun (wx : World) (hw : Below wr.heap.size wr wx) => show Calls Tryd.prog 12 #[.agg #[g0, g1, g2, g3], .agg #[v0, v1, v2, v3, v4], lv, u1] wx fun e w' => (∃ x, e = .returned x ∧ BoV w' x (f ww)) ∧ Below wx.heap.size wx w' from
     HE.out wx u1 ww (hBw.trans (hw.mono hBw.size)) (hwv.below hw) hwl)
    have hfl := HFl.out ww hwl
    have HOp := Lib.hid (fun (wx : World) (xv : Value) (hw : Below wr.heap.size wr wx) (hx : BoV wx xv (f ww)) => HOO.out wx u2 xv oo (f ww) (hov.below hw) hx hol hfl)
    have HSp := Lib.hid (fun (wx : World) (xv : Value) (hx : BoV wx xv (f ww)) => HS2.out wx xv (f ww) hx hfl)
    have hbd : Below wr.heap.size wr wr.drew := (Below.refl _ _).drew
    have hst2 : (if (f ww).any id then starT f (M - (p + 1)) (f ww) (orT oo (f ww)) else orT oo (f ww)) = OUT := by
     rw [← hst, show M - p = (M - (p + 1)) + 1 by omega]; rfl
    obtain ⟨z, hz⟩ : ∃ z, (f ww).any id = z := ⟨_, rfl⟩
    rw [hz] at HSp hst2
    have HNX := Lib.hid (And.intro hfl ((tab_len _ _).trans hol : (orT oo (f ww)).length = M))
    have HZ := Lib.hid hst2
    replace hbw := Lib.hid hbw
    clear hJ hwv hov hst hBw hwl hol hfl hst2 hz x0
    go_upto_region 25 with fail
    refine wp_cutN (fun a a' w' => (∃ z0 z1 z2 z3 z4 z5 z6 z7 xv : Value, a' = (((((((((a.put (some 87) z0).put (some 88) z1).put (some 89) z2).put (some 90) z3).put (some 91) z4).put (some 92) z5).put (some 93) z6).put (some 94) z7).put (some 12) xv) ∧ BoV w' xv (f ww)) ∧ Below wr.heap.size wr w') ?first ?next
    case first =>
     refine wp_region_held_drew (S := fun w' : World => (w'.cell? ⟨w.heap.size, 0, none⟩ = some g0 ∧ w'.cell? ⟨w.heap.size, 1, none⟩ = some g1 ∧ w'.cell? ⟨w.heap.size, 2, none⟩ = some g2 ∧ w'.cell? ⟨w.heap.size, 3, none⟩ = some g3) ∧ w'.cell? ⟨w.heap.size + 1, 4, none⟩ = some (.slice (some ⟨sb, so, none⟩) 1 sc) ∧ w'.cell? ⟨sb, so, none⟩ = some v0 ∧ w'.cell? ⟨sb, so + 1, none⟩ = some v1 ∧ w'.cell? ⟨sb, so + 2, none⟩ = some v2 ∧ w'.cell? ⟨sb, so + 3, none⟩ = some v3 ∧ w'.cell? ⟨sb, so + 4, none⟩ = some v4) (by kernel_rfl) (HC.out _ hbd) (fun hSS => ?_)
     show wpAnyH _ _ _ _ _ 9 #[false, false, false, false, false, false, false, false, false] _ _
     refine zqT 0 (some 87) _ (zqF 9 1) (by rw [List.getElem?_toArray]; rfl) rfl (by kernel_rfl) rfl (fun _ _ _ h => h) (Or.inl ⟨by rfl, fun w' hSw => by (try dsimp only at hSw); go_simp; try with_reducible rfl⟩) hSS ?_
     simp only [zqN]
     refine zqT 1 (some 88) _ (zqF 9 2) (by rw [List.getElem?_toArray]; rfl) rfl (by kernel_rfl) rfl (fun _ _ _ h => h) (Or.inl ⟨by rfl, fun w' hSw => by (try dsimp only at hSw); go_simp; try with_reducible rfl⟩) hSS ?_
     simp only [zqN]
     refine zqT 2 (some 89) _ (zqF 9 3) (by rw [List.getElem?_toArray]; rfl) rfl (by kernel_rfl) rfl (fun _ _ _ h => h) (Or.inl ⟨by rfl, fun w' hSw => by (try dsimp only at hSw); go_simp; try with_reducible rfl⟩) hSS ?_
     simp only [zqN]
     refine zqT 3 (some 90) _ (zqF 9 4) (by rw [List.getElem?_toArray]; rfl) rfl (by kernel_rfl) rfl (fun _ _ _ h => h) (Or.inl ⟨by rfl, fun w' hSw => by (try dsimp only at hSw); go_simp; try with_reducible rfl⟩) hSS ?_
     simp only [zqN]
     refine zqT 4 (some 91) _ (zqF 9 5) (by rw [List.getElem?_toArray]; rfl) rfl (by kernel_rfl) rfl (fun _ _ _ h => h) (Or.inl ⟨by rfl, fun w' hSw => by (try dsimp only at hSw); go_simp; try with_reducible rfl⟩) hSS ?_
     simp only [zqN]
     refine zqT 5 (some 92) _ (zqF 9 6) (by rw [List.getElem?_toArray]; rfl) rfl (by kernel_rfl) rfl (fun _ _ _ h => h) (Or.inl ⟨by rfl, fun w' hSw => by (try dsimp only at hSw); go_simp; try with_reducible rfl⟩) hSS ?_
     simp only [zqN]
     refine zqT 6 (some 93) _ (zqF 9 7) (by rw [List.getElem?_toArray]; rfl) rfl (by kernel_rfl) rfl (fun _ _ _ h => h) (Or.inl ⟨by rfl, fun w' hSw => by (try dsimp only at hSw); go_simp; try with_reducible rfl⟩) hSS ?_
     simp only [zqN]
     refine come_one (i := 7) (l' := (zqF 9 8)) (by rw [List.getElem?_toArray]; rfl) (by kernel_rfl) rfl (fun K' hK => ?_)
     go_simp
     go_at_call 12; refine (HEp.out _ hbd).mono ?_; rintro e w5 ⟨⟨xv, rfl, hxv⟩, hb5⟩; have hB5 := hbd.trans (hb5.mono hbd.size)
     refine hK.out _ _ (HC.out _ hB5) (fun hSS => ?_)
     try simp only [zqN]
     refine zqT 8 (some 12) _ (zqF 9 9) (by rw [List.getElem?_toArray]; rfl) rfl (by kernel_rfl) rfl (fun _ _ _ h => h) (Or.inl ⟨by rfl, fun w' hSw => by (try dsimp only at hSw); go_simp; try with_reducible rfl⟩) hSS ?_
     simp only [zqN]
     refine wpAnyH_done (by kernel_rfl) ?_ _
     exact ⟨⟨_, _, _, _, _, _, _, _, xv, rfl, hxv⟩, hB5⟩
    case next =>
     rintro a' w1 ⟨⟨z0, z1, z2, z3, z4, z5, z6, z7, xv, rfl, hx⟩, hb1⟩
     have HX := Lib.hid hx
     cases z with
     | true =>
      go_wp2_with (first
       | (go_at_call 24; refine (HOp.out _ _ hb1 HX.out).mono ?_; rintro e w6 ⟨⟨yv, rfl, hyv⟩, hb6⟩; have hB6 := hb1.trans (hb6.mono hb1.size); have hx6 := HX.out.below hb6)
       | (go_at_call 23; refine (HSp.out _ _ hx6).mono ?_; rintro e w7 ⟨rfl, hw7⟩; rw [hw7]))
      exact ⟨⟨p + 1, _, _, by omega, by go_num, rfl, rfl, Lib.hid ⟨_, _, hx6, hyv, HNX.out.1, HNX.out.2, HZ.out, hbw.out.trans (hB6.mono hbw.out.size)⟩⟩, by simp [intOf]; omega⟩
     | false =>
      go_upto_region 28 with (first
       | (go_at_call 24; refine (HOp.out _ _ hb1 HX.out).mono ?_; rintro e w6 ⟨⟨yv, rfl, hyv⟩, hb6⟩; have hB6 := hb1.trans (hb6.mono hb1.size); have hx6 := HX.out.below hb6; have hbW := hbw.out.trans (hB6.mono hbw.out.size); have x0 := HK0.out _ hbW)
       | (go_at_call 23; refine (HSp.out _ _ hx6).mono ?_; rintro e w7 ⟨rfl, hw7⟩; rw [hw7]))
      have hwW := HB.out.trans (hbW.mono HB.out.size)
      have HT := Lib.hid (HOO.out w6 yv _ _ m hyv (HV.out.below hwW) HNX.out.2 HML.out)
      go_wp2_with (go_at_call 24; refine HT.out.mono ?_; rintro e w8 ⟨⟨rv, rfl, hrv⟩, hb8⟩)
      go_ret
      refine ⟨⟨_, rfl, ?_⟩, hwW.trans (hb8.mono hwW.size)⟩
      rw [← HZ.out]
      exact hrv
  · obtain rfl : p = M := by omega
    have dp : decide (p < p) = false := by simp
    have HF := Lib.hid (show oo = OUT from by rw [← hst, Nat.sub_self]; rfl)
    have HM := Lib.hid (And.intro hov hbw)
    have x9 := HK0.out _ hbw
    clear hJ hwv hov hst
    have hwW := HB.out.trans (HM.out.2.mono HB.out.size)
    have HT := Lib.hid (HOO.out wr u2 _ _ m HM.out.1 (HV.out.below hwW) hol HML.out)
    go_wp2_with (go_at_call 24; refine HT.out.mono ?_; rintro e w8 ⟨⟨rv, rfl, hrv⟩, hb8⟩)
    go_ret
    refine ⟨⟨_, rfl, ?_⟩, hwW.trans (hb8.mono hwW.size)⟩
    rw [← HF.out]
    exact hrv
end Go.Proofs.YtiinkhmgemoamaaDoor.Gl
