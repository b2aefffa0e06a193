/- The contract of checked: what is asked of all rules at once. -/
import Derived.Test.YtiinkhmgemoamaaDoorPbi
import Derived.Test.YtiinkhmgemoamaaDoorPbd
import Derived.Test.YtiinkhmgemoamaaDoorPbj
import Derived.Test.YtiinkhmgemoamaaDoorPbh
import Derived.Test.YtiinkhmgemoamaaDoorPz
namespace Go.Proofs.YtiinkhmgemoamaaDoor
open Go Go.RowKit Go.Shelf Ck Nu
attribute [local go_sem] Oper.semAt_some
set_option maxRecDepth 100000

namespace Ck
theorem nmR_count : ∀ t : Nd.T, (nam t).length ≤ Nd.count t := by
 have key : ∀ (t : Nd.T), ((Nd.parts 1 t).map (·.2)).filter isNm = nam t := nam_parts 1
 intro t
 rw [← key t, ← Nd.parts_len 1 t]
 refine Nat.le_trans (List.length_filter_le _ _) ?_
 rw [List.length_map]
 exact Nat.le_refl _
theorem allT_small (t : Nd.T) : Nd.deep (allT t) ≤ 2 ∧ Nd.count (allT t) ≤ 1 + Nd.count t := by
 have key : ∀ l : List Nd.T, Nd.deepL (l.map fun n => .mk 6 n.name ⟨#[]⟩ [] []) ≤ 1 ∧ Nd.countL (l.map fun n => .mk 6 n.name ⟨#[]⟩ [] []) = l.length := by
  intro l
  induction l with
  | nil => simp [Nd.deepL, Nd.countL]
  | cons q r ih => simp only [List.map_cons, Nd.deepL, Nd.countL, Nd.deep, Nd.count, List.length_cons]; omega
 have h1 := key (nam t)
 have h2 := nmR_count t
 unfold allT
 simp only [Nd.deep, Nd.count]
 omega
/-- The checker as it is made. -/
def ckO (cv : CkV) : Obj := .cells #[.string cv.nm, .int .i64 cv.o1, .int .i64 cv.o2, .slice cv.ra cv.rn cv.rc, cv.em, cv.re, cv.wi, .slice none 0 0] 103
end Ck
set_option maxHeartbeats 8000000 in
theorem checked_any (nm : ByteArray) (o1 o2 : Int) (rs : List Rl) (v : Value) (w : World) (hG : GrV w nm o1 o2 rs v) (hpos : 0 < w.heap.size) (hsm : rs.length ≤ 1000 ∧ ∀ r ∈ rs, Nd.deep r.body ≤ 100000 ∧ Nd.count r.body ≤ 90000) :
 Calls Tryd.prog 43 #[v] w fun e w' => ∃ w4 cv, e = .returned (.pointer (some ⟨w4.heap.size, 0, none⟩)) ∧ w' = w4.alloc (ckO cv) ∧ CkS w4 cv rs ∧ Below w.heap.size w w4 ∧ cv.rn = rs.length := by
 obtain ⟨ra0, rc0, rfl, hnm, hrc0, hR0⟩ := hG
 have hCl := fun (wx : World) (h : Below w.heap.size w wx) => Clone_any w rs ra0 rc0 wx hR0 h (Nat.lt_of_lt_of_le hpos h.size) ⟨hrc0.1, hsm.1⟩
 obtain ⟨RN, hRN⟩ : ∃ k, rs.length = k := ⟨_, rfl⟩
 rw [hRN] at hCl hrc0 ⊢
 have n1 : (RN : Int) ≤ 9223372036854775807 := by omega
 have HCl := Lib.hid hCl
 have HSM := Lib.hid (And.intro (And.intro hsm (And.intro hRN (And.intro hnm (And.intro hpos hrc0)))) (show (nmR rs).length ≤ 1000 ∧ ∀ r ∈ nmR rs, Nd.deep r.body ≤ 100000 ∧ Nd.count r.body ≤ 100000 from ⟨by simp [nmR]; exact hsm.1, fun r hr => by
  unfold nmR at hr
  obtain ⟨q, hq, rfl⟩ := List.mem_map.1 hr
  have := allT_small q.body
  have := hsm.2 q hq
  dsimp only
  omega⟩))
 have HLN := Lib.hid (show (nmR rs).length = RN by simp [nmR]; exact hRN)
 have HB1 := Lib.hid ((Below.refl _ w).alloc (Nat.le_refl _) (.cells #[.string nm, .int .i64 o1, .int .i64 o2, .slice ra0 RN rc0] 26))
 have HA := Lib.hid (Bk.made w 26 #[.string nm, .int .i64 o1, .int .i64 o2, .slice ra0 RN rc0])
 clear hCl hR0 hsm hRN hnm hpos
 go_enter Tryd.func43, Tryd.ntmps43
 go_wp2_with fail
 refine (HCl.out _ HB1.out).mono ?_
 rintro e w2 ⟨⟨ra', rc', rfl, hRK, hrc'⟩, hb⟩
 have hA2 := HA.out.below hb HA.out.lt
 have c3 := hA2.cell 3
 have f3 := hA2.free 3
 simp at c3
 have hA3 := hA2.set 3 (.slice ra' RN rc')
 have hB3 := (HB1.out.trans (hb.mono HB1.out.size)).setCell (p := ⟨w.heap.size, 3, none⟩) (Nat.le_refl _) (.slice ra' RN rc')
 have hRL : RuL (w2.setCell ⟨w.heap.size, 3, none⟩ (.slice ra' RN rc')) rs ra' := by
  rcases hRK with ⟨rfl, _⟩ | ⟨rb, cs, rfl, h1, h2, h3⟩
  · exact RuL.nil _ _
  · exact RowK.at (W1 := w) (.inr ⟨rb, cs, rfl, h1, h2.other _ _ (by show rb ≠ w.heap.size; exact h2.ne hA2 (by decide)), h3⟩) hB3
 have hc3 := hA3.cell 3
 simp at hc3
 have HL := Lib.hid (And.intro hA3 (And.intro hB3 hRL))
 have HRC := Lib.hid (And.intro hrc' hrc0)
 clear hA2 hA3 hB3 hRL hRK hrc' hrc0 hb
 go_wp2_with fail
 obtain ⟨W3, hW3⟩ : ∃ W3, w2.setCell ⟨w.heap.size, 3, none⟩ (.slice ra' RN rc') = W3 := ⟨_, rfl⟩
 rw [hW3] at HL ⊢
 clear hW3 c3 f3 hc3
 go_loopw [12] (fun j wr => ∃ p : Nat, p ≤ RN ∧ j = .int .i64 p ∧ Below W3.heap.size W3 wr) (fun j _ => RN - (intOf j).toNat)
 case atStart => exact ⟨0, Nat.zero_le _, rfl, Below.refl _ _⟩
 case round =>
  obtain ⟨p, hp, rfl, hBr⟩ := hrel
  by_cases hlt : p < RN
  · have p0 : (p : Int) < (RN : Int) := by omega
    have d0 : decide (p < RN) = true := by rw [decide_eq_true_iff]; exact hlt
    obtain ⟨r, hr⟩ : ∃ r, rs[p]? = some r := ⟨_, List.getElem?_eq_getElem (by rw [HSM.out.1.2.1]; exact hlt)⟩
    obtain ⟨b, o, rfl, v0, v1, v2, v3, v4, a0, a1, a2, a3, a4, a5, a6, a7, a8, a9, hAt, hsr, hns⟩ := (HL.out.2.2.below hBr) p r hr
    obtain ⟨sa1, sc1, ba1, bc1, rfl, rfl, rfl, rfl, rfl⟩ := hAt.five
    have hrs := HSM.out.1.1.2 r (List.mem_of_getElem? hr)
    have hE := Lib.hid (fun o => Ends_any r.body _ (wr.alloc o) (hAt.below ((Below.refl _ _).alloc (Nat.le_refl _) _)) hrs.1 (by omega))
    have hBA := Lib.hid (fun o => hBr.alloc hBr.size o)
    clear hAt hrs hBr
    go_wp2_with (go_at_call 57; refine (hE.out _).mono ?_; rintro e w5 ⟨rfl, hb5⟩)
    exact ⟨⟨p + 1, by omega, by go_num, (hBA.out _).trans (hb5.mono (hBA.out _).size)⟩, by simp [intOf]; omega⟩
  · have d0 : decide (p < RN) = false := by rw [decide_eq_false_iff_not]; exact hlt
    have hAr := HL.out.1.below hBr HL.out.1.lt
    have a0 := hAr.cell 0
    have a1 := hAr.cell 1
    have a2 := hAr.cell 2
    have a3 := hAr.cell 3
    simp at a0 a1 a2 a3
    have hGr : ∀ x, Below wr.heap.size wr x → GrV x nm o1 o2 rs (.agg #[.string nm, .int .i64 o1, .int .i64 o2, .slice ra' RN rc']) := fun x h => ⟨ra', rc', by rw [HSM.out.1.2.1], HSM.out.1.2.2.1, by rw [HSM.out.1.2.1]; exact ⟨HRC.out.1, by have := HRC.out.2; omega⟩, (HL.out.2.2.below hBr).below h⟩
    have HS := Lib.hid (fun x (h : Below wr.heap.size wr x) => show (x.cell? ⟨w.heap.size, 0, none⟩ = some (.string nm) ∧ x.cell? ⟨w.heap.size, 1, none⟩ = some (.int .i64 o1) ∧ x.cell? ⟨w.heap.size, 2, none⟩ = some (.int .i64 o2) ∧ x.cell? ⟨w.heap.size, 3, none⟩ = some (.slice ra' RN rc')) from ⟨Nd.cell_keeps h a0, Nd.cell_keeps h a1, Nd.cell_keeps h a2, Nd.cell_keeps h a3⟩)
    have HE := Lib.hid (fun x (h : Below wr.heap.size wr x) => (Empty_any nm o1 o2 rs _ x (hGr x h) ⟨HSM.out.1.1.1, fun r hr => by have := HSM.out.1.1.2 r hr; omega⟩).mono (R' := fun e w' => (∃ eb, e = .returned (.slice (some ⟨eb, 0, none⟩) RN RN) ∧ Bk w' eb 4 (bools (emp rs)) ∧ x.heap.size ≤ eb) ∧ Below wr.heap.size wr w') fun e w' ⟨h1, h2⟩ => ⟨by rw [HSM.out.1.2.1] at h1; exact h1, h.trans (h2.mono h.size)⟩)
    have HRe := Lib.hid (fun x (h : Below wr.heap.size wr x) => (Reach_any nm o1 o2 rs _ x (hGr x h) ⟨HSM.out.1.1.1, fun r hr => by have := HSM.out.1.1.2 r hr; omega⟩).mono (R' := fun e w' => (∃ rr, e = .returned (.slice (some ⟨rr, 0, none⟩) RN RN) ∧ Rea w' rr RN (rea rs) RN ∧ x.heap.size ≤ rr) ∧ Below wr.heap.size wr w' ∧ Below x.heap.size x w') fun e w' ⟨h1, h2⟩ => ⟨by rw [HSM.out.1.2.1] at h1; exact h1, h.trans (h2.mono h.size), h2⟩)
    have HNa := Lib.hid (fun x (h : Below wr.heap.size wr x) => (ckNamed_any nm o1 o2 rs _ x (hGr x h) (by have := HSM.out.1.2.2.2.1; have := HL.out.2.1.size; have := hBr.size; have := h.size; omega) ⟨HSM.out.1.1.1, fun r hr => by have := HSM.out.1.1.2 r hr; omega⟩).mono (R' := fun e w' => (∃ v', e = .returned v' ∧ GrV w' nm o1 o2 (nmR rs) v') ∧ Below wr.heap.size wr w' ∧ Below x.heap.size x w') fun e w' ⟨h1, h2⟩ => ⟨h1, h.trans (h2.mono h.size), h2⟩)
    have HGr := Lib.hid hGr
    have HBr := Lib.hid (HL.out.2.1.trans (hBr.mono HL.out.2.1.size))
    clear hGr hAr
    go_wp2_with fail
    refine wp_cutL (fun a a' w' => ∃ x4 : World, (∃ z28 z29 z30 z31 z32 z33 z34 z35 z36 z37 : Value, a' = (((((((((((a.put (some 28) z28).put (some 29) z29).put (some 30) z30).put (some 31) z31).put (some 32) z32).put (some 33) z33).put (some 34) z34).put (some 35) z35).put (some 36) z36).put (some 37) z37).put (some 2) (.pointer (some ⟨x4.heap.size, 0, none⟩)))) ∧ ∃ eb rr rr2, w' = x4.alloc (ckO ⟨nm, o1, o2, ra', RN, rc', .slice (some ⟨eb, 0, none⟩) RN RN, .slice (some ⟨rr, 0, none⟩) RN RN, .slice (some ⟨rr2, 0, none⟩) RN RN⟩) ∧ Below wr.heap.size wr x4 ∧ Bk x4 eb 4 (bools (emp rs)) ∧ Rea x4 rr RN (rea rs) RN ∧ Rea x4 rr2 RN (rea (nmR rs)) RN) ?first ?next
    case first =>
     refine wp_region_held_drew (S := fun w' : World => (w'.cell? ⟨w.heap.size, 0, none⟩ = some (.string nm) ∧ w'.cell? ⟨w.heap.size, 1, none⟩ = some (.int .i64 o1) ∧ w'.cell? ⟨w.heap.size, 2, none⟩ = some (.int .i64 o2) ∧ w'.cell? ⟨w.heap.size, 3, none⟩ = some (.slice ra' RN rc'))) (by kernel_rfl) ⟨a0, a1, a2, a3⟩ (fun hSS => ?_)
     show wpAnyH _ _ _ _ _ 11 #[false, false, false, false, false, false, false, false, false, false, false] _ _
     refine zqT 0 (some 28) _ (zqF 11 1) (by rw [List.getElem?_toArray]; rfl) rfl (by kernel_rfl) rfl (fun _ _ _ h => h) (Or.inl ⟨by rfl, fun w' hSw => by (try dsimp only at hSw); go_simp; try with_reducible rfl⟩) hSS ?_
     simp only [zqN]
     refine zqT 1 (some 29) _ (zqF 11 2) (by rw [List.getElem?_toArray]; rfl) rfl (by kernel_rfl) rfl (fun _ _ _ h => h) (Or.inl ⟨by rfl, fun w' hSw => by (try dsimp only at hSw); go_simp; try with_reducible rfl⟩) hSS ?_
     simp only [zqN]
     refine zqT 3 (some 31) _ #[true, true, false, true, false, false, false, false, false, false, false] (by rw [List.getElem?_toArray]; rfl) rfl (by kernel_rfl) rfl (fun _ _ _ h => h) (Or.inl ⟨by rfl, fun w' hSw => by (try dsimp only at hSw); go_simp; try with_reducible rfl⟩) hSS ?_
     simp only [zqN]
     refine zqT 5 (some 33) _ #[true, true, false, true, false, true, false, false, false, false, false] (by rw [List.getElem?_toArray]; rfl) rfl (by kernel_rfl) rfl (fun _ _ _ h => h) (Or.inl ⟨by rfl, fun w' hSw => by (try dsimp only at hSw); go_simp; try with_reducible rfl⟩) hSS ?_
     simp only [zqN]
     refine come_one (i := 2) (l' := #[true, true, true, true, false, true, false, false, false, false, false]) (by rw [List.getElem?_toArray]; rfl) (by kernel_rfl) rfl (fun K' hK => ?_)
     go_simp
     refine (HE.out _ (Below.refl _ _).drew).mono ?_
     rintro e x1 ⟨⟨eb, rfl, hke, hle⟩, hb1⟩
     have hS1 := HS.out x1 hb1
     refine hK.out _ _ hS1 (fun hSS => ?_)
     try simp only [zqN]
     refine come_one (i := 4) (l' := (zqF 11 6)) (by rw [List.getElem?_toArray]; rfl) (by kernel_rfl) rfl (fun K' hK => ?_)
     go_simp
     refine (HRe.out _ hb1).mono ?_
     rintro e x2 ⟨⟨rr, rfl, hkr, hlr⟩, hb2⟩
     have hS2 := HS.out x2 hb2.1
     refine hK.out _ _ hS2 (fun hSS => ?_)
     try simp only [zqN]
     refine come_one (i := 6) (l' := (zqF 11 7)) (by rw [List.getElem?_toArray]; rfl) (by kernel_rfl) rfl (fun K' hK => ?_)
     go_simp
     refine (HNa.out _ hb2.1).mono ?_
     rintro e x3 ⟨⟨v3, rfl, hg3⟩, hb3⟩
     have hS3 := HS.out x3 hb3.1
     refine hK.out _ _ hS3 (fun hSS => ?_)
     try simp only [zqN]
     refine come_one (i := 7) (l' := (zqF 11 8)) (by rw [List.getElem?_toArray]; rfl) (by kernel_rfl) rfl (fun K' hK => ?_)
     go_simp
     refine (Reach_any nm o1 o2 (nmR rs) v3 x3 hg3 HSM.out.2).mono ?_
     rw [HLN.out]
     rintro e x4 ⟨⟨rr2, rfl, hkr2, hlr2⟩, hb4⟩
     have hb34 := hb3.1.trans (hb4.mono hb3.1.size)
     have hS4 := HS.out x4 hb34
     refine hK.out _ _ hS4 (fun hSS => ?_)
     try simp only [zqN]
     refine zqT 8 (some 36) _ (zqF 11 9) (by rw [List.getElem?_toArray]; rfl) rfl (by kernel_rfl) rfl (fun _ _ _ h => h) (Or.inl ⟨by rfl, fun w' hSw => by (try dsimp only at hSw); go_simp; try with_reducible rfl⟩) hSS ?_
     simp only [zqN]
     refine come_one (i := 9) (l' := (zqF 11 10)) (by rw [List.getElem?_toArray]; rfl) (by kernel_rfl) rfl (fun K' hK => ?_)
     go_simp
     skip
     refine hK.out _ _ (HS.out _ (hb34.alloc hb34.size _)) (fun hSS => ?_)
     try simp only [zqN]
     refine zqT 10 (some 2) _ (zqF 11 11) (by rw [List.getElem?_toArray]; rfl) rfl (by kernel_rfl) rfl (fun _ _ _ h => h) (Or.inl ⟨by rfl, fun w' hSw => by (try dsimp only at hSw); go_simp; try with_reducible rfl⟩) hSS ?_
     simp only [zqN]
     refine wpAnyH_done (by kernel_rfl) ?_ _
     exact ⟨x4, ⟨_, _, _, _, _, _, _, _, _, _, rfl⟩, eb, rr, rr2, rfl, hb34, (hke.below (hb2.2.trans (hb3.2.mono hb2.2.size)) hke.lt).below hb4 (by have := hke.lt; have := hb2.2.size; have := hb3.2.size; omega), (hkr.below hb3.2).below hb4, hkr2⟩
    case next =>
     rintro a' w' ⟨x4, ⟨z28, z29, z30, z31, z32, z33, z34, z35, z36, z37, rfl⟩, eb, rr, rr2, rfl, hb4, ke, kr, kr2⟩
     simp only [zqN]
     have HF := Lib.hid (show CkS x4 ⟨nm, o1, o2, ra', RN, rc', .slice (some ⟨eb, 0, none⟩) RN RN, .slice (some ⟨rr, 0, none⟩) RN RN, .slice (some ⟨rr2, 0, none⟩) RN RN⟩ rs ∧ Below w.heap.size w x4 from
      ⟨⟨HGr.out x4 hb4, ⟨eb, by rw [HSM.out.1.2.1], ke⟩, ⟨rr, by rw [HSM.out.1.2.1], by rw [HSM.out.1.2.1]; exact kr⟩, ⟨rr2, by rw [HSM.out.1.2.1], by rw [HSM.out.1.2.1]; exact kr2⟩⟩, HBr.out.trans (hb4.mono HBr.out.size)⟩)
     clear hb4 ke kr kr2 a0 a1 a2 a3
     go_wp2_with fail
     go_ret
     exact ⟨x4, ⟨nm, o1, o2, ra', RN, rc', .slice (some ⟨eb, 0, none⟩) RN RN, .slice (some ⟨rr, 0, none⟩) RN RN, .slice (some ⟨rr2, 0, none⟩) RN RN⟩, rfl, rfl, HF.out.1, HF.out.2, rfl⟩
end Go.Proofs.YtiinkhmgemoamaaDoor
