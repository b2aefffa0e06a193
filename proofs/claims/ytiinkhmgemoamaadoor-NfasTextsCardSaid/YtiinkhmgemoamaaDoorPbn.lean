/- The contract of Start: the first parser's rule. -/
import Derived.Test.YtiinkhmgemoamaaDoorPad
import Derived.Test.YtiinkhmgemoamaaDoorPaw
import Derived.Test.YtiinkhmgemoamaaDoorPbm
import Derived.Test.YtiinkhmgemoamaaDoorPbh
import Derived.Test.YtiinkhmgemoamaaDoorPbd
import Derived.Test.YtiinkhmgemoamaaDoorPai
import Derived.Test.YtiinkhmgemoamaaDoorPas
import Derived.Test.YtiinkhmgemoamaaDoorPam
namespace Go.Proofs.YtiinkhmgemoamaaDoor
open Go Go.RowKit Nu Ck
set_option maxRecDepth 100000

namespace Ck
def stF : Nat → List Nu.Rl → Option Nat
 | _, [] => none
 | k, r :: l => if r.sort = 0 then some k else stF (k + 1) l
theorem stF_is : ∀ (l : List Nu.Rl) (k : Nat), stF k l = (l.findIdx? fun r => decide (r.sort = 0)).map (· + k)
 | [], _ => rfl
 | r :: l, k => by
  simp only [stF, List.findIdx?_cons]
  by_cases h : r.sort = 0
  · simp [h]
  · simp only [h, if_false, decide_false, Bool.false_eq_true]
    rw [stF_is l (k + 1), Option.map_map]
    congr 1
    funext j
    simp only [Function.comp]
    omega
theorem start_is (rs : List Nu.Rl) : start rs = stF 0 rs := by
 rw [stF_is]
 unfold start
 cases List.findIdx? _ rs <;> rfl
end Ck
set_option maxHeartbeats 1000000 in
theorem StartF_any (rn : ByteArray) (s k : Int) (n t : ByteArray) (sa ba : Option Addr) (sl sc bl bc : Nat) (p0 p1 p2 : Int) (w : World) :
 Calls Tryd.prog 64 #[.agg #[.string rn, .int .u8 s, .int .u8 k, .string n, .string t, .slice sa sl sc, .slice ba bl bc, .int .i64 p0, .int .i64 p1, .int .i64 p2]] w fun e w' => e = .returned (.bool (decide (s = 0))) ∧ Below w.heap.size w w' := by
 obtain ⟨X, hX⟩ : ∃ b, decide (s = 0) = b := ⟨_, rfl⟩
 have hq : (s == 0) = X := by rw [← hX]; rfl
 rw [hX]
 go_enter Tryd.func64, Tryd.ntmps64
 go_wp2_with fail
 go_ret
 exact ⟨rfl, (Below.refl _ w).alloc (Nat.le_refl _) _⟩
set_option maxHeartbeats 2000000 in
theorem IndexStart_any (rs : List Nu.Rl) (ra : Option Addr) (rc : Nat) (w : World) (hR : RuL w rs ra) (hrc : rs.length ≤ rc ∧ rs.length ≤ 140737488351232) :
 Calls Tryd.prog 40 #[.slice ra rs.length rc, .func (.func 64) #[] #[]] w fun e w' => e = .returned (.int .i64 (whereI (stF 0 rs))) ∧ Below w.heap.size w w' := by
 obtain ⟨RN, hRN⟩ : ∃ k, rs.length = k := ⟨_, rfl⟩
 have HRN := Lib.hid hRN
 rw [hRN] at hrc ⊢
 have n1 : (RN : Int) ≤ 9223372036854775807 := by omega
 obtain ⟨TT, hTT⟩ : ∃ k, stF 0 rs = k := ⟨_, rfl⟩
 have HTT := Lib.hid (show stF 0 rs = TT from hTT)
 rw [hTT]
 clear hTT hRN
 go_enter Tryd.func40, Tryd.ntmps40
 go_wp2_with fail
 go_loopw [8] (fun i wr => ∃ p : Nat, p ≤ RN ∧ i = .int .i64 p ∧ Hid (stF p (rs.drop p) = TT) ∧ Below w.heap.size w wr) (fun i _ => RN - (intOf i).toNat)
 case atStart => exact ⟨0, Nat.zero_le _, rfl, by rw [List.drop_zero]; exact HTT, Below.refl _ w⟩
 case round =>
  obtain ⟨p, hp, rfl, hT, hB⟩ := hrel
  by_cases hlt : p < RN
  · have d2 : decide (p < RN) = true := by rw [decide_eq_true_iff]; exact hlt
    have p0 : (p : Int) < (RN : Int) := by omega
    obtain ⟨r, hr⟩ : ∃ r, rs[p]? = some r := ⟨_, List.getElem?_eq_getElem (by rw [HRN.out]; exact hlt)⟩
    obtain ⟨g, o, rfl, v0, v1, v2, v3, v4, a0, a1, a2, a3, a4, a5, a6, a7, a8, a9, hAs, _, hns⟩ := hR p r hr
    have b0 := Nd.cell_keeps hB a0
    have b1 := Nd.cell_keeps hB a1
    have b2 := Nd.cell_keeps hB a2
    have b3 := Nd.cell_keeps hB a3
    have b4 := Nd.cell_keeps hB a4
    have b5 := Nd.cell_keeps hB a5
    have b6 := Nd.cell_keeps hB a6
    have b7 := Nd.cell_keeps hB a7
    have b8 := Nd.cell_keeps hB a8
    have b9 := Nd.cell_keeps hB a9
    have hst : (if r.sort = 0 then some p else stF (p + 1) (rs.drop (p + 1))) = TT := by
     rw [← hT.out, Nd.drop_some hr]
     simp only [stF]
    obtain ⟨sa1, sc1, ba1, bc1, rfl, rfl, rfl, rfl, rfl⟩ := hAs.five
    have hC := StartF_any r.name r.sort r.body.kind r.body.name r.body.text sa1 ba1 r.body.set.length sc1 r.body.subs.length bc1 r.p0 r.p1 r.p2 wr
    by_cases hq : r.sort = 0
    · rw [if_pos hq] at hst
      have HST := Lib.hid hst
      rw [decide_eq_true hq] at hC
      replace hC := Lib.hid hC
      clear a0 a1 a2 a3 a4 a5 a6 a7 a8 a9 hAs hst hq hr hT HTT
      generalize r.body.kind = sk at *
      generalize r.body.name = sn at *
      generalize r.body.text = sx at *
      generalize r.body.set.length = sl at *
      generalize r.body.subs.length = sm at *
      generalize r.name = rn at *
      go_wp2_with (go_at_call 64; refine hC.out.mono ?_; rintro e w' ⟨rfl, hb⟩)
      go_ret
      exact ⟨by rw [← HST.out]; rfl, hB.trans (hb.mono hB.size)⟩
    · rw [if_neg hq] at hst
      have HST := Lib.hid hst
      rw [decide_eq_false hq] at hC
      replace hC := Lib.hid hC
      clear a0 a1 a2 a3 a4 a5 a6 a7 a8 a9 hAs hst hq hr hT HTT
      generalize r.body.kind = sk at *
      generalize r.body.name = sn at *
      generalize r.body.text = sx at *
      generalize r.body.set.length = sl at *
      generalize r.body.subs.length = sm at *
      generalize r.name = rn at *
      go_wp2_with (go_at_call 64; refine hC.out.mono ?_; rintro e w' ⟨rfl, hb⟩)
      refine ⟨⟨p + 1, by omega, by go_num, HST, hB.trans (hb.mono hB.size)⟩, by simp [intOf]; omega⟩
  · have d2 : decide (p < RN) = false := by rw [decide_eq_false_iff_not]; exact hlt
    have hfin : Option.none = TT := by
     rw [← hT.out, List.drop_eq_nil_of_le (by rw [HRN.out]; omega)]
     simp only [stF]
    have HF := Lib.hid hfin
    clear hfin hT HTT
    go_wp2_with fail
    go_ret
    exact ⟨by rw [← HF.out]; rfl, hB⟩
set_option maxHeartbeats 1000000 in
theorem Start_any (nm : ByteArray) (o1 o2 : Int) (rs : List Nu.Rl) (v : Value) (w : World) (hG : GrV w nm o1 o2 rs v) :
 Calls Tryd.prog 45 #[v] w fun e w' => e = .returned (.int .i64 (whereI (Ck.start rs))) ∧ Below w.heap.size w w' := by
 obtain ⟨ra, rc, rfl, hnm, hrc, hR⟩ := hG
 have hC := Lib.hid (fun (w1 : World) (hb : Below w.heap.size w w1) => IndexStart_any rs ra rc w1 (hR.below hb) hrc)
 rw [Ck.start_is]
 generalize rs.length = RN at *
 obtain ⟨FI, hFI⟩ : ∃ k, whereI (stF 0 rs) = k := ⟨_, rfl⟩
 rw [hFI] at hC ⊢
 clear hR hFI
 go_enter Tryd.func45, Tryd.ntmps45
 go_wp2_with (go_at_call 40; refine (hC.out _ ((Below.refl _ w).alloc (Nat.le_refl _) _)).mono ?_; rintro e w' ⟨rfl, hb⟩)
 go_ret
 exact ⟨rfl, ((Below.refl _ w).alloc (Nat.le_refl _) _).trans (hb.mono (by simp))⟩
end Go.Proofs.YtiinkhmgemoamaaDoor
namespace Go.Proofs.YtiinkhmgemoamaaDoor
open Go Go.RowKit Go.Shelf Ck Nu
attribute [local go_sem] Oper.semAt_some
set_option maxRecDepth 100000

namespace Ck
theorem rulesF_app (rs : List Rl) : ∀ (a b : List Rl) (k : Nat), rulesF rs k (a ++ b) = rulesF rs k a ++ rulesF rs (k + a.length) b
 | [], b, k => by simp [rulesF]
 | r :: a, b, k => by
  simp only [List.cons_append, rulesF, rulesF_app rs a b (k + 1), List.append_assoc, List.length_cons]
  rw [show k + 1 + a.length = k + (a.length + 1) by omega]
theorem rulesF_take (rs : List Rl) {p : Nat} {r : Rl} (hr : rs[p]? = some r) : rulesF rs 0 (rs.take (p + 1)) = rulesF rs 0 (rs.take p) ++ rulP rs p r := by
 have hp := (List.getElem?_eq_some_iff.1 hr).1
 rw [List.take_add_one, hr]
 show rulesF rs 0 (rs.take p ++ [r]) = _
 rw [rulesF_app]
 simp only [rulesF, List.append_nil, List.length_take, Nat.zero_add]
 rw [Nat.min_eq_left (by omega)]
theorem rulesF_le (rs : List Rl) (p : Nat) : (rulesF rs 0 (rs.take p)).length ≤ (rulesF rs 0 rs).length := by
 have := rulesF_app rs (rs.take p) (rs.drop p) 0
 rw [List.take_append_drop] at this
 rw [this, List.length_append]
 omega
/-- Problems, as they are handed back. -/
def PrV (w : World) (l : List Pr) (pv : Value) : Prop := ∃ a, pv = .slice a l.length l.length ∧ ∀ j u, (flatP l)[j]? = some u → ∃ b, a = some ⟨b, 0, none⟩ ∧ w.cell? ⟨b, j, none⟩ = some u
end Ck
theorem Clip_Pr_some (a : Addr) (n cap : Nat) (hn : n ≤ cap) (_hc : cap ≤ 9223372036854775807) (w : World) :
 Calls Tryd.prog 47 #[.slice (some a) n cap] w fun e w' => e = .returned (.slice (some a) n n) ∧ w = w' := by
 have a0 : (n : Int) ≤ (cap : Int) := by omega
 go_enter Tryd.func47, Tryd.ntmps47
 go_wp2
 go_ret
 exact ⟨rfl, rfl⟩
theorem Clip_Pr_nil (w : World) :
 Calls Tryd.prog 47 #[.slice none 0 0] w fun e w' => e = .returned (.slice none 0 0) ∧ w = w' := by
 go_enter Tryd.func47, Tryd.ntmps47
 go_wp2
 go_ret
 exact ⟨rfl, rfl⟩
/-- What Clip makes of the problems that were told. -/
theorem clip_told (base : Nat) (l : List Pr) (pv : Value) (w : World) (h : w.ownsRow base 110 3 pv l.length (flatP l)) :
 Calls Tryd.prog 47 #[pv] w fun e w' => w = w' ∧ ∃ v, e = .returned v ∧ PrV w' l v := by
 rcases h.2 with ⟨rfl, h0⟩ | ⟨g, cap, cur, rfl, h1, h2, h3, h4, h5, h6⟩
 · have hl : l = [] := List.eq_nil_of_length_eq_zero h0
   subst hl
   refine (Clip_Pr_nil w).mono ?_
   rintro e w' ⟨rfl, rfl⟩
   exact ⟨rfl, _, rfl, none, rfl, fun j u hj => by simp [flatP] at hj⟩
 · refine (Clip_Pr_some _ _ _ h3 (by unfold maxLen at h4; omega) w).mono ?_
   rintro e w' ⟨rfl, rfl⟩
   refine ⟨rfl, _, rfl, some ⟨g, 0, none⟩, rfl, fun j u hj => ⟨g, rfl, ?_⟩⟩
   have hk : Bk w g 110 cur := h2
   rw [hk.cell]
   rw [← h6, List.getElem?_take] at hj
   split at hj
   · simpa using hj
   · cases hj
set_option maxHeartbeats 8000000 in
theorem Check_any (nm : ByteArray) (o1 o2 : Int) (rs : List Rl) (v : Value) (w : World) (hG : GrV w nm o1 o2 rs v) (hsm : rs.length ≤ 999 ∧ ∀ r ∈ rs, Nd.deep r.body ≤ 100000 ∧ Nd.count r.body ≤ 90000) (hl : (rulesF rs 0 rs).length ≤ 100000) :
 Calls Tryd.prog 28 #[v] w fun e w' => (∃ pv, e = .returned pv ∧ PrV w' (chk rs) pv) ∧ Below w.heap.size w w' := by
 have HCk := Lib.hid (fun o => checked_any nm o1 o2 rs v (w.alloc o) (hG.below ((Below.refl _ w).alloc (Nat.le_refl _) o)) (by simp) ⟨by omega, hsm.2⟩)
 have HSt := Lib.hid (fun (X : World) (hb : Below w.heap.size w X) => Start_any nm o1 o2 rs v X (hG.below hb))
 have HG := Lib.hid hG
 obtain ⟨ra0, rc0, rfl, hnm, hrc0, _⟩ := hG
 obtain ⟨RN, hRN⟩ : ∃ k, rs.length = k := ⟨_, rfl⟩
 rw [hRN] at HCk HSt hrc0 ⊢
 have n1 : (RN : Int) ≤ 9223372036854775807 := by omega
 have HSM := Lib.hid (And.intro hsm (And.intro hRN hl))
 have HBA := Lib.hid (Bk.made w 26 #[.string nm, .int .i64 o1, .int .i64 o2, .slice ra0 RN rc0])
 have HB1 := Lib.hid ((Below.refl _ w).alloc (Nat.le_refl _) (.cells #[.string nm, .int .i64 o1, .int .i64 o2, .slice ra0 RN rc0] 26))
 clear hsm hRN hl hnm hrc0
 go_enter Tryd.func28, Tryd.ntmps28
 go_wp2_with fail
 refine (HCk.out _).mono ?_
 rintro e w' ⟨w4, cv, rfl, rfl, hS, hb4, hrn⟩
 have HS := Lib.hid hS
 have hBw : Below w.heap.size w w4 := HB1.out.trans (hb4.mono HB1.out.size)
 have HI0 := Lib.hid (show CkI w4.heap.size w4.heap.size cv (rulesF rs 0 (rs.take 0)) (w4.alloc (ckO cv)) ∧ Below w4.heap.size w4 (w4.alloc (ckO cv)) from ⟨⟨Nat.le_refl _, .slice none 0 0, Bk.made _ _ _, by simp [rulesF, flatP]; exact World.ownsRow_nil _ _ _ _⟩, (Below.refl _ _).alloc (Nat.le_refl _) _⟩)
 have k3 : (w4.alloc (ckO cv)).cell? ⟨w4.heap.size, 3, none⟩ = some (.slice cv.ra cv.rn cv.rc) := (Bk.made w4 103 #[.string cv.nm, .int .i64 cv.o1, .int .i64 cv.o2, .slice cv.ra cv.rn cv.rc, cv.em, cv.re, cv.wi, .slice none 0 0]).cell 3
 have HBW := Lib.hid hBw
 rw [hrn] at k3
 have HAW := Lib.hid (HBA.out.below hb4 HBA.out.lt)
 clear hS hb4 hBw hrn
 go_wp2_with fail
 go_loopw [13] (fun j wr => ∃ p : Nat, p ≤ RN ∧ j = .int .i64 p ∧ Hid (CkI w4.heap.size w4.heap.size cv (rulesF rs 0 (rs.take p)) wr ∧ Below w4.heap.size w4 wr)) (fun j _ => RN - (intOf j).toNat)
 case atStart => exact ⟨0, Nat.zero_le _, rfl, HI0⟩
 case round =>
  obtain ⟨p, hp, rfl, hIr⟩ := hrel
  by_cases hlt : p < RN
  · have p0 : (p : Int) < (RN : Int) := by omega
    have d0 : decide (p < RN) = true := by rw [decide_eq_true_iff]; exact hlt
    obtain ⟨r, hr⟩ : ∃ r, rs[p]? = some r := ⟨_, List.getElem?_eq_getElem (by rw [HSM.out.2.1]; exact hlt)⟩
    have HRu := Lib.hid (rule_any w4 w4.heap.size cv rs (rulesF rs 0 (rs.take p)) p r wr HS.out hr HSM.out.1 hIr.out.2 hIr.out.1 (by have := rulesF_le rs p; have := HSM.out.2.2; omega))
    rw [← rulesF_take rs hr] at HRu
    clear hr k3
    go_wp2_with (go_at_call 44; refine (HRu.out).mono ?_; rintro e w7 ⟨⟨v7, rfl⟩, hI7, hT7⟩; have H7 := Lib.hid (And.intro hI7 hT7); clear hI7 hT7)
    exact ⟨⟨p + 1, by omega, by go_num, Lib.hid ⟨H7.out.1, hIr.out.2.trans H7.out.2.1⟩⟩, by simp [intOf]; omega⟩
  · have d0 : decide (p < RN) = false := by rw [decide_eq_false_iff_not]; exact hlt
    obtain rfl : p = RN := by omega
    have hall : rs.take p = rs := by rw [← HSM.out.2.1, List.take_length]
    rw [hall] at hIr
    have HBr := Lib.hid (HBW.out.trans (hIr.out.2.mono HBW.out.size))
    have hAr := HAW.out.below hIr.out.2 HAW.out.lt
    have a0 := hAr.cell 0
    have a1 := hAr.cell 1
    have a2 := hAr.cell 2
    have a3 := hAr.cell 3
    simp at a0 a1 a2 a3
    have HLN := Lib.hid HSM.out.2.2
    clear hAr hall k3
    have fin : ∀ (L : List Pr) (X : World), CkI w4.heap.size w4.heap.size cv L X → ∃ pv, X.cell? ⟨w4.heap.size, 7, none⟩ = some pv ∧ Calls Tryd.prog 47 #[pv] X fun e w' => X = w' ∧ ∃ v, e = .returned v ∧ PrV w' L v := fun L X h => by
     obtain ⟨_, pv, hK, how⟩ := h
     exact ⟨pv, by have := hK.cell 7; simpa using this, clip_told _ L pv X how⟩
    have FIN := Lib.hid fin
    clear fin
    cases hst : Ck.start rs with
    | none =>
     have hchk : chk rs = rulesF rs 0 rs ++ [⟨8, -1, ⟨#[]⟩⟩] := by unfold chk; rw [if_pos hst]
     rw [hst] at HSt
     have HCHK := Lib.hid hchk
     simp only [whereI] at HSt
     have HTe := Lib.hid (fun (X : World) (hI : CkI w4.heap.size w4.heap.size cv (rulesF rs 0 rs) X) => tell_any w4.heap.size w4.heap.size cv (rulesF rs 0 rs) 8 (-1) ⟨#[]⟩ X hI (by decide) (by have := HLN.out; omega))
     generalize rulesF rs 0 rs = LL at *
     clear hst hchk
     go_upto_region 8 with (go_at_call 45; refine (HSt.out _ HBr.out).mono ?_; rintro e w8 ⟨rfl, hb8⟩; have H8 := Lib.hid hb8; clear hb8)
     go_wp2_with (go_at_call 46; refine (HTe.out _ (hIr.out.1.below H8.out)).mono ?_; rintro e w9 ⟨⟨v9, rfl⟩, hI9, hT9⟩; obtain ⟨pv, c7, hcl⟩ := FIN.out _ _ hI9; have H9 := Lib.hid (And.intro hI9 hT9); have HCL := Lib.hid hcl; clear hI9 hT9 hcl)
     refine (HCL.out).mono ?_
     rintro e w10 ⟨rfl, v10, rfl, hP⟩
     have HP := Lib.hid hP
     clear hP c7
     go_wp2_with fail
     go_ret
     exact ⟨⟨v10, rfl, by rw [HCHK.out]; exact HP.out⟩, HBr.out.trans ((H8.out.mono HBr.out.size).trans (H9.out.2.1.mono HBW.out.size))⟩
    | some k =>
     have hchk : chk rs = rulesF rs 0 rs := by unfold chk; rw [if_neg (by rw [hst]; simp), List.append_nil]
     rw [hst] at HSt
     have HCHK := Lib.hid hchk
     simp only [whereI] at HSt
     generalize rulesF rs 0 rs = LL at *
     clear hst hchk
     have pk : (0 : Int) ≤ (k : Int) := by omega
     have dk : decide ((k : Int) < 0) = false := decide_eq_false (by omega)
     go_upto_region 9 with (go_at_call 45; refine (HSt.out _ HBr.out).mono ?_; rintro e w8 ⟨rfl, hb8⟩; have H8 := Lib.hid hb8; clear hb8)
     obtain ⟨pv, c7, hcl⟩ := FIN.out _ _ (hIr.out.1.below H8.out)
     have HCL := Lib.hid hcl
     clear hcl
     go_wp2_with fail
     refine (HCL.out).mono ?_
     rintro e w10 ⟨rfl, v10, rfl, hP⟩
     have HP := Lib.hid hP
     clear hP c7
     go_wp2_with fail
     go_ret
     exact ⟨⟨v10, rfl, by rw [HCHK.out]; exact HP.out⟩, HBr.out.trans (H8.out.mono HBr.out.size)⟩
set_option maxHeartbeats 2000000 in
theorem Fine_any (nm : ByteArray) (o1 o2 : Int) (rs : List Rl) (v : Value) (w : World) (hG : GrV w nm o1 o2 rs v) (hsm : rs.length ≤ 999 ∧ ∀ r ∈ rs, Nd.deep r.body ≤ 100000 ∧ Nd.count r.body ≤ 90000) (hl : (rulesF rs 0 rs).length ≤ 100000) :
 Calls Tryd.prog 15 #[v] w fun e w' => e = .returned (.bool (decide (chk rs = []))) ∧ Below w.heap.size w w' := by
 have HCk := Lib.hid (fun o => Check_any nm o1 o2 rs v (w.alloc o) (hG.below ((Below.refl _ w).alloc (Nat.le_refl _) o)) hsm hl)
 obtain ⟨ra0, rc0, rfl, hnm, hrc0, _⟩ := hG
 have hch : (chk rs).length ≤ 100001 := by unfold chk; rw [List.length_append]; split <;> simp <;> omega
 have HB1 := Lib.hid (fun o => (Below.refl _ w).alloc (Nat.le_refl _) o)
 clear hsm hl hrc0
 obtain ⟨CN, hCN⟩ : ∃ n, (chk rs).length = n := ⟨_, rfl⟩
 have hd : decide (chk rs = []) = decide (CN = 0) := by rw [← hCN]; cases chk rs <;> simp
 rw [hd]
 rw [hCN] at hch
 have HCN := Lib.hid hCN
 clear hCN hd
 generalize rs.length = RN at *
 by_cases h0 : CN = 0
 · subst h0
   go_enter Tryd.func15, Tryd.ntmps15
   go_wp2_with (go_at_call 28; refine (HCk.out _).mono ?_; rintro e w9 ⟨⟨pv, rfl, a, rfl, _⟩, hb⟩; rw [HCN.out]; have HB := Lib.hid hb; clear hb)
   go_ret
   exact ⟨rfl, (HB1.out _).trans (HB.out.mono (HB1.out _).size)⟩
 · have d0 : decide (CN = 0) = false := decide_eq_false h0
   have q0 : ((CN : Int) == 0) = false := by rw [beq_eq_false_iff_ne]; omega
   have q1 : ¬ (CN : Int) = 0 := by omega
   rw [d0]
   clear d0
   go_enter Tryd.func15, Tryd.ntmps15
   go_wp2_with (go_at_call 28; refine (HCk.out _).mono ?_; rintro e w9 ⟨⟨pv, rfl, a, rfl, _⟩, hb⟩; rw [HCN.out]; have HB := Lib.hid hb; clear hb)
   go_ret
   exact ⟨by simp [], (HB1.out _).trans (HB.out.mono (HB1.out _).size)⟩
end Go.Proofs.YtiinkhmgemoamaaDoor
namespace Go.Proofs.YtiinkhmgemoamaaDoor
open Go Go.RowKit Nu
set_option maxRecDepth 100000

def allocs (w : World) : List Obj → World
 | [] => w
 | o :: l => allocs (w.alloc o) l
theorem allocs_below : ∀ (l : List Obj) (w : World), Below w.heap.size w (allocs w l)
 | [], w => Below.refl _ _
 | o :: l, w => ((Below.refl _ w).alloc (Nat.le_refl _) o).trans ((allocs_below l (w.alloc o)).mono (by simp))
theorem allocs_bk : ∀ (l : List Obj) (w : World) (i : Nat) (cs : Array Value) (t : TypeId), l[i]? = some (.cells cs t (0, 0)) → Bk (allocs w l) (w.heap.size + i) t cs
 | [], _, _, _, _, h => by simp at h
 | o :: l, w, 0, cs, t, h => by
  injection h with h
  subst h
  have k := Bk.made w t cs
  exact k.below (allocs_below l _) k.lt
 | o :: l, w, i + 1, cs, t, h => by
  have := allocs_bk l (w.alloc o) i cs t (by simpa using h)
  rw [World.size_alloc, Nat.add_assoc, Nat.add_comm 1 i] at this
  exact this
def lfT (k : Int) (s : ByteArray) : Nd.T := .mk k s ⟨#[]⟩ [] []
theorem leaf_at (k : Int) (hk : 0 ≤ k ∧ k < 256) (s : ByteArray) (w : World) (hs : s.size ≤ 140737488351232) : Nd.At w (lfT k s) (.agg #[.int .u8 k, .string s, .string ⟨#[]⟩, .slice none 0 0, .slice none 0 0]) := by
 unfold lfT Nd.At
 exact ⟨none, 0, none, 0, rfl, hk, hs, by simp [ByteArray.size], ⟨by simp, by simp⟩, ⟨by simp, by simp⟩, trivial, by unfold Nd.AtL; trivial⟩
theorem pair_at {k : Int} {t u : Nd.T} {w : World} {g : Nat} {tt : TypeId} {v0 v1 v2 v3 v4 u0 u1 u2 u3 u4 : Value} (hk : 0 ≤ k ∧ k < 256) (hb : Bk w g tt #[v0, v1, v2, v3, v4, u0, u1, u2, u3, u4]) (ht : Nd.At w t (.agg #[v0, v1, v2, v3, v4])) (hu : Nd.At w u (.agg #[u0, u1, u2, u3, u4])) :
 Nd.At w (.mk k ⟨#[]⟩ ⟨#[]⟩ [] [t, u]) (.agg #[.int .u8 k, .string ⟨#[]⟩, .string ⟨#[]⟩, .slice none 0 0, .slice (some ⟨g, 0, none⟩) 2 2]) := by
 unfold Nd.At
 refine ⟨none, 0, some ⟨g, 0, none⟩, 2, rfl, hk, by simp [ByteArray.size], by simp [ByteArray.size], ⟨by simp, by simp⟩, ⟨by simp, by simp⟩, trivial, ?_⟩
 unfold Nd.AtL
 refine ⟨g, 0, v0, v1, v2, v3, v4, rfl, hb.cell 0, hb.cell 1, hb.cell 2, hb.cell 3, hb.cell 4, ht, ?_⟩
 unfold Nd.AtL
 exact ⟨g, 5, u0, u1, u2, u3, u4, rfl, hb.cell 5, hb.cell 6, hb.cell 7, hb.cell 8, hb.cell 9, hu, by unfold Nd.AtL; trivial⟩
theorem sole_at {k : Int} {t : Nd.T} {w : World} {g : Nat} {tt : TypeId} {v0 v1 v2 v3 v4 : Value} (hk : 0 ≤ k ∧ k < 256) (hb : Bk w g tt #[v0, v1, v2, v3, v4]) (ht : Nd.At w t (.agg #[v0, v1, v2, v3, v4])) :
 Nd.At w (.mk k ⟨#[]⟩ ⟨#[]⟩ [] [t]) (.agg #[.int .u8 k, .string ⟨#[]⟩, .string ⟨#[]⟩, .slice none 0 0, .slice (some ⟨g, 0, none⟩) 1 1]) := by
 unfold Nd.At
 refine ⟨none, 0, some ⟨g, 0, none⟩, 1, rfl, hk, by simp [ByteArray.size], by simp [ByteArray.size], ⟨by simp, by simp⟩, ⟨by simp, by simp⟩, trivial, ?_⟩
 unfold Nd.AtL
 exact ⟨g, 0, v0, v1, v2, v3, v4, rfl, hb.cell 0, hb.cell 1, hb.cell 2, hb.cell 3, hb.cell 4, ht, by unfold Nd.AtL; trivial⟩
end Go.Proofs.YtiinkhmgemoamaaDoor
namespace Go.Proofs.YtiinkhmgemoamaaDoor
open Go Go.RowKit Nu
set_option maxRecDepth 100000

end Go.Proofs.YtiinkhmgemoamaaDoor
