/- Ends of nodes one behind the other. -/
import Derived.Test.YtiinkhmgemoamaaDoorPbp
import Derived.Test.YtiinkhmgemoamaaDoorPz
namespace Go.Proofs.YtiinkhmgemoamaaDoor.Gl
open Go Go.RowKit Nd Nu Nf
attribute [local go_sem] Oper.semAt_some
set_option maxRecDepth 100000

set_option maxHeartbeats 8000000 in
theorem Ends_row (w : World) (g0 g1 g2 g3 : Value) (n1 n2 n3 : Value) (ba : Option Addr) (sc : Nat) (ns : List T) (f : T → List Bool → List Bool) (lv inv : Value) (m : List Bool) (hv : BoV w inv m) (hm : m.length ≤ 1000) (ha : m.any id = true)
 (hns : ns.length ≤ 140737488351232) (hL : Nd.AtL w ns ba) (hf : ∀ t ∈ ns, ∀ mm : List Bool, mm.length = m.length → (f t mm).length = m.length)
 (hE : ∀ t ∈ ns, ∀ (wx : World) (xv tv : Value) (mm : List Bool), Below w.heap.size w wx → Nd.At wx t tv → BoV wx xv mm → mm.length = m.length → EndsAt wx (.agg #[g0, g1, g2, g3]) tv lv xv (f t mm)) :
 EndsAt w (.agg #[g0, g1, g2, g3]) (.agg #[.int .u8 1, n1, n2, n3, .slice ba ns.length sc]) lv inv (ns.foldl (fun o n => f n o) m) := by
 obtain ⟨M, hM⟩ : ∃ M, m.length = M := ⟨_, rfl⟩
 have HS := Lib.hid (fun (wx : World) (hb : Below w.heap.size w wx) => some_any m inv wx (hv.below hb) (by omega))
 have HV := Lib.hid hv
 obtain ⟨b, c, rfl, _⟩ := hv
 rw [ha, hM] at HS
 rw [hM] at hm hf hE HV
 obtain ⟨OUT, hOUT⟩ : ∃ o, ns.foldl (fun o n => f n o) m = o := ⟨_, rfl⟩
 have HOUT := Lib.hid hOUT
 obtain ⟨N, hN⟩ : ∃ N, ns.length = N := ⟨_, rfl⟩
 rw [hN] at hns
 rw [hOUT, hM, hN]
 have HN := Lib.hid hN
 have HL := Lib.hid hL
 have HE := Lib.hid hE
 have HFl := Lib.hid hf
 have n1' : (M : Int) ≤ 9223372036854775807 := by omega
 have n2' : (N : Int) ≤ 9223372036854775807 := by omega
 have hmk := run_make_row' (P := Tryd.prog) 52 4 (.bool false) 1 Tryd.underlying52 infoBool rfl .i64 .i64 M (by omega) (by omega)
 obtain ⟨W, hW⟩ : ∃ W, ((w.alloc (.cells #[g0, g1, g2, g3] 26)).alloc (.cells #[.int .u8 1, n1, n2, n3, .slice ba N sc] 34)).alloc (.cells (madeCells #[.bool false] M) 4) = W := ⟨_, rfl⟩
 obtain ⟨hb, _, hkg, hkn, _⟩ := ends_start w g0 g1 g2 g3 (.int .u8 1) n1 n2 n3 (.slice ba N sc) M W hW.symm
 have HW := Lib.hid hW
 have x0 := hkn.cell 0
 simp at x0
 have HK := Lib.hid (show ∀ w' : World, Below W.heap.size W w' → (w'.cell? ⟨w.heap.size, 0, none⟩ = some g0 ∧ w'.cell? ⟨w.heap.size, 1, none⟩ = some g1 ∧ w'.cell? ⟨w.heap.size, 2, none⟩ = some g2 ∧ w'.cell? ⟨w.heap.size, 3, none⟩ = some g3) ∧ w'.cell? ⟨w.heap.size + 1, 4, none⟩ = some (.slice ba N sc) from fun w' hw => by
  have g := hkg.below hw hkg.lt
  have n := hkn.below hw hkn.lt
  exact ⟨⟨g.cell 0, g.cell 1, g.cell 2, g.cell 3⟩, n.cell 4⟩)
 have HB := Lib.hid hb
 have HST := Lib.hid (show ∃ mm, BoV W (.slice (some ⟨b, 0, none⟩) M c) mm ∧ mm.length = M ∧ (ns.drop 0).foldl (fun o n => f n o) mm = OUT ∧ Below W.heap.size W W from ⟨m, HV.out.below hb, hM, by rw [List.drop_zero]; exact hOUT, Below.refl _ _⟩)
 clear ha hM hW hkn hkg hE hL hf hOUT hN HV
 unfold EndsAt
 go_enter Tryd.func12, Tryd.ntmps12
 go_upto_region 2 with fail
 rw [HW.out]
 go_wp2_with (go_at_call 23; refine (HS.out _ hb).mono ?_; rintro e w' ⟨rfl, hw'⟩; rw [hw'])
 clear hb
 go_loopw [11, 9] (fun i x wr => ∃ (p : Nat) (u : Value), p ≤ N ∧ i = .int .i64 p ∧ u = x ∧ Hid (∃ mm, BoV wr u mm ∧ mm.length = M ∧ (ns.drop p).foldl (fun o n => f n o) mm = OUT ∧ Below W.heap.size W wr)) (fun i _ _ => N - (intOf i).toNat)
 case atStart => exact ⟨0, _, Nat.zero_le _, rfl, rfl, HST⟩
 case round =>
  obtain ⟨p, u, hp, rfl, rfl, hJ⟩ := hrel
  obtain ⟨mm, hmv, hml, hfold, hbw⟩ := hJ.out
  obtain ⟨⟨y0, y1, y2, y3⟩, y4⟩ := HK.out _ hbw
  by_cases hlt : p < N
  · have dp : decide (p < N) = true := by rw [decide_eq_true_iff]; exact hlt
    have p1 : (p : Int) < (N : Int) := by omega
    have p2 : (0 : Int) ≤ (p : Int) := by omega
    obtain ⟨t, ht⟩ : ∃ t, ns[p]? = some t := ⟨_, List.getElem?_eq_getElem (by rw [HN.out]; exact hlt)⟩
    have htm := List.mem_of_getElem? ht
    have hBw := HB.out.trans (hbw.mono HB.out.size)
    obtain ⟨sb, so, v0, v1, v2, v3, v4, rfl, c0, c1, c2, c3, c4, hAt⟩ := HL.out.get p t ht
    have HC := Lib.hid (show ∀ w' : World, Below wr.heap.size wr w' → (w'.cell? ⟨w.heap.size, 0, none⟩ = some g0 ∧ w'.cell? ⟨w.heap.size, 1, none⟩ = some g1 ∧ w'.cell? ⟨w.heap.size, 2, none⟩ = some g2 ∧ w'.cell? ⟨w.heap.size, 3, none⟩ = some g3) ∧ w'.cell? ⟨w.heap.size + 1, 4, none⟩ = some (.slice (some ⟨sb, so, none⟩) N sc) ∧ w'.cell? ⟨sb, so + p * 5, none⟩ = some v0 ∧ w'.cell? ⟨sb, so + p * 5 + 1, none⟩ = some v1 ∧ w'.cell? ⟨sb, so + p * 5 + 2, none⟩ = some v2 ∧ w'.cell? ⟨sb, so + p * 5 + 3, none⟩ = some v3 ∧ w'.cell? ⟨sb, so + p * 5 + 4, none⟩ = some v4 from fun w' hw => by
     obtain ⟨a, b⟩ := HK.out w' (hbw.trans (hw.mono hbw.size))
     have hw2 := hBw.trans (hw.mono hBw.size)
     exact ⟨a, b, Nd.cell_keeps hw2 c0, Nd.cell_keeps hw2 c1, Nd.cell_keeps hw2 c2, Nd.cell_keeps hw2 c3, Nd.cell_keeps hw2 c4⟩)
    have HEp := Lib.hid (fun (wx : World) (hw : Below wr.heap.size wr wx) => show Calls Tryd.prog 12 #[.agg #[g0, g1, g2, g3], .agg #[v0, v1, v2, v3, v4], lv, u] wx fun e w' => (∃ x, e = .returned x ∧ BoV w' x (f t mm)) ∧ Below wx.heap.size wx w' from
     HE.out t htm wx u _ mm (hBw.trans (hw.mono hBw.size)) (Nd.At.below (hBw.trans (hw.mono hBw.size)) _ hAt) (hmv.below hw) hml)
    have hbd : Below wr.heap.size wr wr.drew := (Below.refl _ _).drew
    have HNX := Lib.hid (show (f t mm).length = M ∧ (ns.drop (p + 1)).foldl (fun o n => f n o) (f t mm) = OUT from ⟨HFl.out t htm mm hml, by rw [← hfold, Nd.drop_some ht]; rfl⟩)
    replace hbw := Lib.hid hbw
    clear hJ hmv hml hfold hBw hAt c0 c1 c2 c3 c4 y0 y1 y2 y3 ht htm
    go_upto_region 16 with fail
    refine wp_cutN (fun a a' w' => (∃ z0 z1 z2 z3 z4 z5 z6 z7 z8 xv : Value, a' = ((((((((((a.put (some 56) z0).put (some 57) z1).put (some 58) z2).put (some 59) z3).put (some 60) z4).put (some 61) z5).put (some 62) z6).put (some 63) z7).put (some 64) z8).put (some 9) xv) ∧ BoV w' xv (f t mm)) ∧ Below wr.heap.size wr w') ?first ?next
    case first =>
     refine wp_region_held_drew (S := fun w' : World => (w'.cell? ⟨w.heap.size, 0, none⟩ = some g0 ∧ w'.cell? ⟨w.heap.size, 1, none⟩ = some g1 ∧ w'.cell? ⟨w.heap.size, 2, none⟩ = some g2 ∧ w'.cell? ⟨w.heap.size, 3, none⟩ = some g3) ∧ w'.cell? ⟨w.heap.size + 1, 4, none⟩ = some (.slice (some ⟨sb, so, none⟩) N sc) ∧ w'.cell? ⟨sb, so + p * 5, none⟩ = some v0 ∧ w'.cell? ⟨sb, so + p * 5 + 1, none⟩ = some v1 ∧ w'.cell? ⟨sb, so + p * 5 + 2, none⟩ = some v2 ∧ w'.cell? ⟨sb, so + p * 5 + 3, none⟩ = some v3 ∧ w'.cell? ⟨sb, so + p * 5 + 4, none⟩ = some v4) (by kernel_rfl) (HC.out _ hbd) (fun hSS => ?_)
     show wpAnyH _ _ _ _ _ 10 #[false, false, false, false, false, false, false, false, false, false] _ _
     refine zqT 0 (some 56) _ (zqF 10 1) (by rw [List.getElem?_toArray]; rfl) rfl (by kernel_rfl) rfl (fun _ _ _ h => h) (Or.inl ⟨by rfl, fun w' hSw => by (try dsimp only at hSw); go_simp; try with_reducible rfl⟩) hSS ?_
     simp only [zqN]
     refine zqT 1 (some 57) _ (zqF 10 2) (by rw [List.getElem?_toArray]; rfl) rfl (by kernel_rfl) rfl (fun _ _ _ h => h) (Or.inl ⟨by rfl, fun w' hSw => by (try dsimp only at hSw); go_simp; try with_reducible rfl⟩) hSS ?_
     simp only [zqN]
     refine zqT 2 (some 58) _ (zqF 10 3) (by rw [List.getElem?_toArray]; rfl) rfl (by kernel_rfl) rfl (fun _ _ _ h => h) (Or.inl ⟨by rfl, fun w' hSw => by (try dsimp only at hSw); go_simp; try with_reducible rfl⟩) hSS ?_
     simp only [zqN]
     refine zqT 3 (some 59) _ (zqF 10 4) (by rw [List.getElem?_toArray]; rfl) rfl (by kernel_rfl) rfl (fun _ _ _ h => h) (Or.inl ⟨by rfl, fun w' hSw => by (try dsimp only at hSw); go_simp; try with_reducible rfl⟩) hSS ?_
     simp only [zqN]
     refine zqT 4 (some 60) _ (zqF 10 5) (by rw [List.getElem?_toArray]; rfl) rfl (by kernel_rfl) rfl (fun _ _ _ h => h) (Or.inl ⟨by rfl, fun w' hSw => by (try dsimp only at hSw); go_simp; try with_reducible rfl⟩) hSS ?_
     simp only [zqN]
     refine zqT 5 (some 61) _ (zqF 10 6) (by rw [List.getElem?_toArray]; rfl) rfl (by kernel_rfl) rfl (fun _ _ _ h => h) (Or.inl ⟨by rfl, fun w' hSw => by (try dsimp only at hSw); go_simp; try with_reducible rfl⟩) hSS ?_
     simp only [zqN]
     refine zqT 6 (some 62) _ (zqF 10 7) (by rw [List.getElem?_toArray]; rfl) rfl (by kernel_rfl) rfl (fun _ _ _ h => h) (Or.inl ⟨by rfl, fun w' hSw => by (try dsimp only at hSw); go_simp; try with_reducible rfl⟩) hSS ?_
     simp only [zqN]
     refine zqT 7 (some 63) _ (zqF 10 8) (by rw [List.getElem?_toArray]; rfl) rfl (by kernel_rfl) rfl (fun _ _ _ h => h) (Or.inl ⟨by rfl, fun w' hSw => by (try dsimp only at hSw); go_simp; try with_reducible rfl⟩) hSS ?_
     simp only [zqN]
     refine come_one (i := 8) (l' := (zqF 10 9)) (by rw [List.getElem?_toArray]; rfl) (by kernel_rfl) rfl (fun K' hK => ?_)
     go_simp
     go_at_call 12; refine (HEp.out _ hbd).mono ?_; rintro e w5 ⟨⟨xv, rfl, hxv⟩, hb5⟩; have hB5 := hbd.trans (hb5.mono hbd.size)
     refine hK.out _ _ (HC.out _ hB5) (fun hSS => ?_)
     try simp only [zqN]
     refine zqT 9 (some 9) _ (zqF 10 10) (by rw [List.getElem?_toArray]; rfl) rfl (by kernel_rfl) rfl (fun _ _ _ h => h) (Or.inl ⟨by rfl, fun w' hSw => by (try dsimp only at hSw); go_simp; try with_reducible rfl⟩) hSS ?_
     simp only [zqN]
     refine wpAnyH_done (by kernel_rfl) ?_ _
     exact ⟨⟨_, _, _, _, _, _, _, _, _, xv, rfl, hxv⟩, hB5⟩
    case next =>
     rintro a' w1 ⟨⟨z0, z1, z2, z3, z4, z5, z6, z7, z8, xv, rfl, hx⟩, hb1⟩
     clear y4
     go_wp2_with fail
     exact ⟨⟨p + 1, _, by omega, by go_num, rfl, Lib.hid ⟨_, hx, HNX.out.1, HNX.out.2, hbw.out.trans (hb1.mono hbw.out.size)⟩⟩, by simp [intOf]; omega⟩
  · obtain rfl : p = N := by omega
    have dp : decide (p < p) = false := by simp
    have HF := Lib.hid (show mm = OUT from by rw [← hfold, List.drop_eq_nil_of_le (by rw [HN.out]; omega)]; rfl)
    have HM := Lib.hid (And.intro hmv hbw)
    clear hJ hmv hfold
    go_wp2_with fail
    go_ret
    refine ⟨⟨_, rfl, ?_⟩, HB.out.trans (HM.out.2.mono HB.out.size)⟩
    rw [← HF.out]
    exact HM.out.1
end Go.Proofs.YtiinkhmgemoamaaDoor.Gl
namespace Go.Proofs.YtiinkhmgemoamaaDoor.Gl
open Go Go.RowKit Nd Nu Nf
attribute [local go_sem] Oper.semAt_some
set_option maxRecDepth 100000

set_option maxHeartbeats 8000000 in
theorem Ends_alts (w : World) (g0 g1 g2 g3 : Value) (n1 n2 n3 : Value) (ba : Option Addr) (sc : Nat) (ns : List T) (f : T → List Bool) (lv inv : Value) (m : List Bool) (hv : BoV w inv m) (hm : m.length ≤ 1000) (ha : m.any id = true)
 (hns : ns.length ≤ 140737488351232) (hL : Nd.AtL w ns ba) (hf : ∀ t ∈ ns, (f t).length = m.length)
 (hE : ∀ t ∈ ns, ∀ (wx : World) (tv : Value), Below w.heap.size w wx → Nd.At wx t tv → EndsAt wx (.agg #[g0, g1, g2, g3]) tv lv inv (f t)) :
 EndsAt w (.agg #[g0, g1, g2, g3]) (.agg #[.int .u8 0, n1, n2, n3, .slice ba ns.length sc]) lv inv (ns.foldl (fun o n => orT o (f n)) (tab m.length fun _ => false)) := by
 obtain ⟨M, hM⟩ : ∃ M, m.length = M := ⟨_, rfl⟩
 have HS := Lib.hid (fun (wx : World) (hb : Below w.heap.size w wx) => some_any m inv wx (hv.below hb) (by omega))
 have HV := Lib.hid hv
 obtain ⟨b, c, rfl, _⟩ := hv
 rw [ha, hM] at HS
 rw [hM] at hm hf hE HV
 obtain ⟨OUT, hOUT⟩ : ∃ o, ns.foldl (fun o n => orT o (f n)) (tab M fun _ => false) = o := ⟨_, rfl⟩
 have HOUT := Lib.hid hOUT
 obtain ⟨N, hN⟩ : ∃ N, ns.length = N := ⟨_, rfl⟩
 rw [hN] at hns
 rw [hM, hOUT, hN]
 have HN := Lib.hid hN
 have HL := Lib.hid hL
 have HE := Lib.hid hE
 have HFl := Lib.hid hf
 have n1' : (M : Int) ≤ 9223372036854775807 := by omega
 have n2' : (N : Int) ≤ 9223372036854775807 := by omega
 have hmk := run_make_row' (P := Tryd.prog) 52 4 (.bool false) 1 Tryd.underlying52 infoBool rfl .i64 .i64 M (by omega) (by omega)
 obtain ⟨W, hW⟩ : ∃ W, ((w.alloc (.cells #[g0, g1, g2, g3] 26)).alloc (.cells #[.int .u8 0, n1, n2, n3, .slice ba N sc] 34)).alloc (.cells (madeCells #[.bool false] M) 4) = W := ⟨_, rfl⟩
 obtain ⟨hb, _, hkg, hkn, hzz⟩ := ends_start w g0 g1 g2 g3 (.int .u8 0) n1 n2 n3 (.slice ba N sc) M W hW.symm
 have HW := Lib.hid hW
 have x0 := hkn.cell 0
 simp at x0
 have HK := Lib.hid (show ∀ w' : World, Below W.heap.size W w' → (w'.cell? ⟨w.heap.size, 0, none⟩ = some g0 ∧ w'.cell? ⟨w.heap.size, 1, none⟩ = some g1 ∧ w'.cell? ⟨w.heap.size, 2, none⟩ = some g2 ∧ w'.cell? ⟨w.heap.size, 3, none⟩ = some g3) ∧ w'.cell? ⟨w.heap.size + 1, 4, none⟩ = some (.slice ba N sc) from fun w' hw => by
  have g := hkg.below hw hkg.lt
  have n := hkn.below hw hkn.lt
  exact ⟨⟨g.cell 0, g.cell 1, g.cell 2, g.cell 3⟩, n.cell 4⟩)
 have HB := Lib.hid hb
 have HST := Lib.hid (show ∃ mm, BoV W (.slice (some ⟨w.heap.size + 1 + 1, 0, none⟩) M M) mm ∧ mm.length = M ∧ (ns.drop 0).foldl (fun o n => orT o (f n)) mm = OUT ∧ Below W.heap.size W W from ⟨_, hzz, tab_len _ _, by rw [List.drop_zero]; exact hOUT, Below.refl _ _⟩)
 have HOO := Lib.hid (fun (wx : World) (u xv : Value) (mm xx : List Bool) (hu : BoV wx u mm) (hx : BoV wx xv xx) (h1 : mm.length = M) (h2 : xx.length = M) => one_any mm xx u xv wx hu hx (by omega) (by omega))
 clear ha hM hW hkn hkg hE hL hf hOUT hN HV hzz
 unfold EndsAt
 go_enter Tryd.func12, Tryd.ntmps12
 go_upto_region 2 with fail
 rw [HW.out]
 go_wp2_with (go_at_call 23; refine (HS.out _ hb).mono ?_; rintro e w' ⟨rfl, hw'⟩; rw [hw'])
 clear hb
 go_loopw [10, 9] (fun i x wr => ∃ (p : Nat) (u : Value), p ≤ N ∧ i = .int .i64 p ∧ u = x ∧ Hid (∃ mm, BoV wr u mm ∧ mm.length = M ∧ (ns.drop p).foldl (fun o n => orT o (f n)) mm = OUT ∧ Below W.heap.size W wr)) (fun i _ _ => N - (intOf i).toNat)
 case atStart => exact ⟨0, _, Nat.zero_le _, rfl, rfl, HST⟩
 case round =>
  obtain ⟨p, u, hp, rfl, rfl, hJ⟩ := hrel
  obtain ⟨mm, hmv, hml, hfold, hbw⟩ := hJ.out
  obtain ⟨⟨y0, y1, y2, y3⟩, y4⟩ := HK.out _ hbw
  by_cases hlt : p < N
  · have dp : decide (p < N) = true := by rw [decide_eq_true_iff]; exact hlt
    have p1 : (p : Int) < (N : Int) := by omega
    have p2 : (0 : Int) ≤ (p : Int) := by omega
    obtain ⟨t, ht⟩ : ∃ t, ns[p]? = some t := ⟨_, List.getElem?_eq_getElem (by rw [HN.out]; exact hlt)⟩
    have htm := List.mem_of_getElem? ht
    have hBw := HB.out.trans (hbw.mono HB.out.size)
    obtain ⟨sb, so, v0, v1, v2, v3, v4, rfl, c0, c1, c2, c3, c4, hAt⟩ := HL.out.get p t ht
    have HC := Lib.hid (show ∀ w' : World, Below wr.heap.size wr w' → (w'.cell? ⟨w.heap.size, 0, none⟩ = some g0 ∧ w'.cell? ⟨w.heap.size, 1, none⟩ = some g1 ∧ w'.cell? ⟨w.heap.size, 2, none⟩ = some g2 ∧ w'.cell? ⟨w.heap.size, 3, none⟩ = some g3) ∧ w'.cell? ⟨w.heap.size + 1, 4, none⟩ = some (.slice (some ⟨sb, so, none⟩) N sc) ∧ w'.cell? ⟨sb, so + p * 5, none⟩ = some v0 ∧ w'.cell? ⟨sb, so + p * 5 + 1, none⟩ = some v1 ∧ w'.cell? ⟨sb, so + p * 5 + 2, none⟩ = some v2 ∧ w'.cell? ⟨sb, so + p * 5 + 3, none⟩ = some v3 ∧ w'.cell? ⟨sb, so + p * 5 + 4, none⟩ = some v4 from fun w' hw => by
     obtain ⟨a, b⟩ := HK.out w' (hbw.trans (hw.mono hbw.size))
     have hw2 := hBw.trans (hw.mono hBw.size)
     exact ⟨a, b, Nd.cell_keeps hw2 c0, Nd.cell_keeps hw2 c1, Nd.cell_keeps hw2 c2, Nd.cell_keeps hw2 c3, Nd.cell_keeps hw2 c4⟩)
    have HEp := Lib.hid (fun (wx : World) (hw : Below wr.heap.size wr wx) => show Calls Tryd.prog 12 #[.agg #[g0, g1, g2, g3], .agg #[v0, v1, v2, v3, v4], lv, .slice (some ⟨b, 0, none⟩) M c] wx fun e w' => (∃ x, e = .returned x ∧ BoV w' x (f t)) ∧ Below wx.heap.size wx w' from
     HE.out t htm wx _ (hBw.trans (hw.mono hBw.size)) (Nd.At.below (hBw.trans (hw.mono hBw.size)) _ hAt))
    have HOp := Lib.hid (fun (wx : World) (xv : Value) (hw : Below wr.heap.size wr wx) (hx : BoV wx xv (f t)) => HOO.out wx u xv mm (f t) (hmv.below hw) hx hml (HFl.out t htm))
    have hbd : Below wr.heap.size wr wr.drew := (Below.refl _ _).drew
    have HNX := Lib.hid (show (orT mm (f t)).length = M ∧ (ns.drop (p + 1)).foldl (fun o n => orT o (f n)) (orT mm (f t)) = OUT from ⟨(tab_len _ _).trans hml, by rw [← hfold, Nd.drop_some ht]; rfl⟩)
    replace hbw := Lib.hid hbw
    clear hJ hmv hml hfold hBw hAt c0 c1 c2 c3 c4 y0 y1 y2 y3 ht htm
    go_upto_region 10 with fail
    refine wp_cutN (fun a a' w' => (∃ z0 z1 z2 z3 z4 z5 z6 z7 z8 z9 z10 xv : Value, a' = ((((((((((((a.put (some 35) z0).put (some 36) z1).put (some 37) z2).put (some 38) z3).put (some 39) z4).put (some 40) z5).put (some 41) z6).put (some 42) z7).put (some 43) z8).put (some 44) z9).put (some 45) z10).put (some 9) xv) ∧ BoV w' xv (orT mm (f t))) ∧ Below wr.heap.size wr w') ?first ?next
    case first =>
     refine wp_region_held_drew (S := fun w' : World => (w'.cell? ⟨w.heap.size, 0, none⟩ = some g0 ∧ w'.cell? ⟨w.heap.size, 1, none⟩ = some g1 ∧ w'.cell? ⟨w.heap.size, 2, none⟩ = some g2 ∧ w'.cell? ⟨w.heap.size, 3, none⟩ = some g3) ∧ w'.cell? ⟨w.heap.size + 1, 4, none⟩ = some (.slice (some ⟨sb, so, none⟩) N sc) ∧ w'.cell? ⟨sb, so + p * 5, none⟩ = some v0 ∧ w'.cell? ⟨sb, so + p * 5 + 1, none⟩ = some v1 ∧ w'.cell? ⟨sb, so + p * 5 + 2, none⟩ = some v2 ∧ w'.cell? ⟨sb, so + p * 5 + 3, none⟩ = some v3 ∧ w'.cell? ⟨sb, so + p * 5 + 4, none⟩ = some v4) (by kernel_rfl) (HC.out _ hbd) (fun hSS => ?_)
     show wpAnyH _ _ _ _ _ 12 #[false, false, false, false, false, false, false, false, false, false, false, false] _ _
     refine zqT 0 (some 35) _ (zqF 12 1) (by rw [List.getElem?_toArray]; rfl) rfl (by kernel_rfl) rfl (fun _ _ _ h => h) (Or.inl ⟨by rfl, fun w' hSw => by (try dsimp only at hSw); go_simp; try with_reducible rfl⟩) hSS ?_
     simp only [zqN]
     refine zqT 1 (some 36) _ (zqF 12 2) (by rw [List.getElem?_toArray]; rfl) rfl (by kernel_rfl) rfl (fun _ _ _ h => h) (Or.inl ⟨by rfl, fun w' hSw => by (try dsimp only at hSw); go_simp; try with_reducible rfl⟩) hSS ?_
     simp only [zqN]
     refine zqT 2 (some 37) _ (zqF 12 3) (by rw [List.getElem?_toArray]; rfl) rfl (by kernel_rfl) rfl (fun _ _ _ h => h) (Or.inl ⟨by rfl, fun w' hSw => by (try dsimp only at hSw); go_simp; try with_reducible rfl⟩) hSS ?_
     simp only [zqN]
     refine zqT 3 (some 38) _ (zqF 12 4) (by rw [List.getElem?_toArray]; rfl) rfl (by kernel_rfl) rfl (fun _ _ _ h => h) (Or.inl ⟨by rfl, fun w' hSw => by (try dsimp only at hSw); go_simp; try with_reducible rfl⟩) hSS ?_
     simp only [zqN]
     refine zqT 4 (some 39) _ (zqF 12 5) (by rw [List.getElem?_toArray]; rfl) rfl (by kernel_rfl) rfl (fun _ _ _ h => h) (Or.inl ⟨by rfl, fun w' hSw => by (try dsimp only at hSw); go_simp; try with_reducible rfl⟩) hSS ?_
     simp only [zqN]
     refine zqT 5 (some 40) _ (zqF 12 6) (by rw [List.getElem?_toArray]; rfl) rfl (by kernel_rfl) rfl (fun _ _ _ h => h) (Or.inl ⟨by rfl, fun w' hSw => by (try dsimp only at hSw); go_simp; try with_reducible rfl⟩) hSS ?_
     simp only [zqN]
     refine zqT 6 (some 41) _ (zqF 12 7) (by rw [List.getElem?_toArray]; rfl) rfl (by kernel_rfl) rfl (fun _ _ _ h => h) (Or.inl ⟨by rfl, fun w' hSw => by (try dsimp only at hSw); go_simp; try with_reducible rfl⟩) hSS ?_
     simp only [zqN]
     refine zqT 7 (some 42) _ (zqF 12 8) (by rw [List.getElem?_toArray]; rfl) rfl (by kernel_rfl) rfl (fun _ _ _ h => h) (Or.inl ⟨by rfl, fun w' hSw => by (try dsimp only at hSw); go_simp; try with_reducible rfl⟩) hSS ?_
     simp only [zqN]
     refine zqT 8 (some 43) _ (zqF 12 9) (by rw [List.getElem?_toArray]; rfl) rfl (by kernel_rfl) rfl (fun _ _ _ h => h) (Or.inl ⟨by rfl, fun w' hSw => by (try dsimp only at hSw); go_simp; try with_reducible rfl⟩) hSS ?_
     simp only [zqN]
     refine come_one (i := 9) (l' := (zqF 12 10)) (by rw [List.getElem?_toArray]; rfl) (by kernel_rfl) rfl (fun K' hK => ?_)
     go_simp
     go_at_call 12; refine (HEp.out _ hbd).mono ?_; rintro e w5 ⟨⟨xv, rfl, hxv⟩, hb5⟩; have hB5 := hbd.trans (hb5.mono hbd.size)
     refine hK.out _ _ (HC.out _ hB5) (fun hSS => ?_)
     try simp only [zqN]
     refine come_one (i := 10) (l' := (zqF 12 11)) (by rw [List.getElem?_toArray]; rfl) (by kernel_rfl) rfl (fun K' hK => ?_)
     go_simp
     go_at_call 24; refine (HOp.out _ _ hB5 hxv).mono ?_; rintro e w6 ⟨⟨yv, rfl, hyv⟩, hb6⟩; have hB6 := hB5.trans (hb6.mono hB5.size)
     refine hK.out _ _ (HC.out _ hB6) (fun hSS => ?_)
     try simp only [zqN]
     refine zqT 11 (some 9) _ (zqF 12 12) (by rw [List.getElem?_toArray]; rfl) rfl (by kernel_rfl) rfl (fun _ _ _ h => h) (Or.inl ⟨by rfl, fun w' hSw => by (try dsimp only at hSw); go_simp; try with_reducible rfl⟩) hSS ?_
     simp only [zqN]
     refine wpAnyH_done (by kernel_rfl) ?_ _
     exact ⟨⟨_, _, _, _, _, _, _, _, _, _, _, yv, rfl, hyv⟩, hB6⟩
    case next =>
     rintro a' w1 ⟨⟨z0, z1, z2, z3, z4, z5, z6, z7, z8, z9, z10, xv, rfl, hx⟩, hb1⟩
     clear y4
     go_wp2_with fail
     exact ⟨⟨p + 1, _, by omega, by go_num, rfl, Lib.hid ⟨_, hx, HNX.out.1, HNX.out.2, hbw.out.trans (hb1.mono hbw.out.size)⟩⟩, by simp [intOf]; omega⟩
  · obtain rfl : p = N := by omega
    have dp : decide (p < p) = false := by simp
    have HF := Lib.hid (show mm = OUT from by rw [← hfold, List.drop_eq_nil_of_le (by rw [HN.out]; omega)]; rfl)
    have HM := Lib.hid (And.intro hmv hbw)
    clear hJ hmv hfold
    go_wp2_with fail
    go_ret
    refine ⟨⟨_, rfl, ?_⟩, HB.out.trans (HM.out.2.mono HB.out.size)⟩
    rw [← HF.out]
    exact HM.out.1
end Go.Proofs.YtiinkhmgemoamaaDoor.Gl
