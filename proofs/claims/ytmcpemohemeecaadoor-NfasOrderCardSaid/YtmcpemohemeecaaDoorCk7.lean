/- The contracts of Check and Fine. -/
import Derived.Test.YtmcpemohemeecaaDoorCk6
import Derived.Test.YtmcpemohemeecaaDoorCkS
namespace Go.Proofs.YtmcpemohemeecaaDoor
open Go Go.RowKit Go.Shelf Ck Nu
attribute [local go_sem] Oper.semAt_some
set_option maxRecDepth 100000

namespace Ck
theorem rulesF_app (rs : List Rl) : ∀ (a b : List Rl) (k : Nat), rulesF rs k (a ++ b) = rulesF rs k a ++ rulesF rs (k + a.length) b
  | [], b, k => by simp [rulesF]
  | r :: a, b, k => by
    simp only [List.cons_append, rulesF, rulesF_app rs a b (k + 1), List.append_assoc, List.length_cons]
    rw [show k + 1 + a.length = k + (a.length + 1) by omega]
theorem rulesF_take (rs : List Rl) {p : Nat} {r : Rl} (hr : rs[p]? = some r) : rulesF rs 0 (rs.take (p + 1)) = rulesF rs 0 (rs.take p) ++ rulP rs p r := by
  have hp := (List.getElem?_eq_some_iff.1 hr).1
  rw [List.take_add_one, hr]
  show rulesF rs 0 (rs.take p ++ [r]) = _
  rw [rulesF_app]
  simp only [rulesF, List.append_nil, List.length_take, Nat.zero_add]
  rw [Nat.min_eq_left (by omega)]
theorem rulesF_le (rs : List Rl) (p : Nat) : (rulesF rs 0 (rs.take p)).length ≤ (rulesF rs 0 rs).length := by
  have := rulesF_app rs (rs.take p) (rs.drop p) 0
  rw [List.take_append_drop] at this
  rw [this, List.length_append]
  omega
/-- Problems, as they are handed back. -/
def PrV (w : World) (l : List Pr) (pv : Value) : Prop := ∃ a, pv = .slice a l.length l.length ∧ ∀ j u, (flatP l)[j]? = some u → ∃ b, a = some ⟨b, 0, none⟩ ∧ w.cell? ⟨b, j, none⟩ = some u
theorem PrV.below {w w' : World} {l : List Pr} {pv : Value} (h : PrV w l pv) (hb : Below w.heap.size w w') : PrV w' l pv := by
  obtain ⟨a, h1, h2⟩ := h
  refine ⟨a, h1, fun j u hj => ?_⟩
  obtain ⟨b, e, hc⟩ := h2 j u hj
  exact ⟨b, e, Nd.cell_keeps hb hc⟩
end Ck
theorem Clip_Pr_some (a : Addr) (n cap : Nat) (hn : n ≤ cap) (_hc : cap ≤ 9223372036854775807) (w : World) :
    Calls Tryd.prog 47 #[.slice (some a) n cap] w fun e w' => e = .returned (.slice (some a) n n) ∧ w = w' := by
  have a0 : (n : Int) ≤ (cap : Int) := by omega
  go_enter Tryd.func47, Tryd.ntmps47
  go_wp2
  go_ret
  exact ⟨rfl, rfl⟩
theorem Clip_Pr_nil (w : World) :
    Calls Tryd.prog 47 #[.slice none 0 0] w fun e w' => e = .returned (.slice none 0 0) ∧ w = w' := by
  go_enter Tryd.func47, Tryd.ntmps47
  go_wp2
  go_ret
  exact ⟨rfl, rfl⟩
/-- What Clip makes of the problems that were told. -/
theorem clip_told (base : Nat) (l : List Pr) (pv : Value) (w : World) (h : w.ownsRow base 110 3 pv l.length (flatP l)) :
    Calls Tryd.prog 47 #[pv] w fun e w' => w = w' ∧ ∃ v, e = .returned v ∧ PrV w' l v := by
  rcases h.2 with ⟨rfl, h0⟩ | ⟨g, cap, cur, rfl, h1, h2, h3, h4, h5, h6⟩
  · have hl : l = [] := List.eq_nil_of_length_eq_zero h0
    subst hl
    refine (Clip_Pr_nil w).mono ?_
    rintro e w' ⟨rfl, rfl⟩
    exact ⟨rfl, _, rfl, none, rfl, fun j u hj => by simp [flatP] at hj⟩
  · refine (Clip_Pr_some _ _ _ h3 (by unfold maxLen at h4; omega) w).mono ?_
    rintro e w' ⟨rfl, rfl⟩
    refine ⟨rfl, _, rfl, some ⟨g, 0, none⟩, rfl, fun j u hj => ⟨g, rfl, ?_⟩⟩
    have hk : Bk w g 110 cur := h2
    rw [hk.cell]
    rw [← h6, List.getElem?_take] at hj
    split at hj
    · simpa using hj
    · cases hj
set_option maxHeartbeats 8000000 in
theorem Check_any (nm : ByteArray) (o1 o2 : Int) (rs : List Rl) (v : Value) (w : World) (hG : GrV w nm o1 o2 rs v) (hsm : rs.length ≤ 999 ∧ ∀ r ∈ rs, Nd.deep r.body ≤ 100000 ∧ Nd.count r.body ≤ 90000) (hl : (rulesF rs 0 rs).length ≤ 100000) :
    Calls Tryd.prog 28 #[v] w fun e w' => (∃ pv, e = .returned pv ∧ PrV w' (chk rs) pv) ∧ Below w.heap.size w w' := by
  have HCk := Lib.hid (fun o => checked_any nm o1 o2 rs v (w.alloc o) (hG.below ((Below.refl _ w).alloc (Nat.le_refl _) o)) (by simp) ⟨by omega, hsm.2⟩)
  have HSt := Lib.hid (fun (X : World) (hb : Below w.heap.size w X) => Start_any nm o1 o2 rs v X (hG.below hb))
  have HG := Lib.hid hG
  obtain ⟨ra0, rc0, rfl, hnm, hrc0, _⟩ := hG
  obtain ⟨RN, hRN⟩ : ∃ k, rs.length = k := ⟨_, rfl⟩
  rw [hRN] at HCk HSt hrc0 ⊢
  have n1 : (RN : Int) ≤ 9223372036854775807 := by omega
  have HSM := Lib.hid (And.intro hsm (And.intro hRN hl))
  have HBA := Lib.hid (Bk.made w 26 #[.string nm, .int .i64 o1, .int .i64 o2, .slice ra0 RN rc0])
  have HB1 := Lib.hid ((Below.refl _ w).alloc (Nat.le_refl _) (.cells #[.string nm, .int .i64 o1, .int .i64 o2, .slice ra0 RN rc0] 26))
  clear hsm hRN hl hnm hrc0
  go_enter Tryd.func28, Tryd.ntmps28
  go_wp2_with fail
  refine (HCk.out _).mono ?_
  rintro e w' ⟨w4, cv, rfl, rfl, hS, hb4, hrn⟩
  have HS := Lib.hid hS
  have hBw : Below w.heap.size w w4 := HB1.out.trans (hb4.mono HB1.out.size)
  have HI0 := Lib.hid (show CkI w4.heap.size w4.heap.size cv (rulesF rs 0 (rs.take 0)) (w4.alloc (ckO cv)) ∧ Below w4.heap.size w4 (w4.alloc (ckO cv)) from ⟨⟨Nat.le_refl _, .slice none 0 0, Bk.made _ _ _, by simp [rulesF, flatP]; exact World.ownsRow_nil _ _ _ _⟩, (Below.refl _ _).alloc (Nat.le_refl _) _⟩)
  have k3 : (w4.alloc (ckO cv)).cell? ⟨w4.heap.size, 3, none⟩ = some (.slice cv.ra cv.rn cv.rc) := (Bk.made w4 103 #[.string cv.nm, .int .i64 cv.o1, .int .i64 cv.o2, .slice cv.ra cv.rn cv.rc, cv.em, cv.re, cv.wi, .slice none 0 0]).cell 3
  have HBW := Lib.hid hBw
  rw [hrn] at k3
  have HAW := Lib.hid (HBA.out.below hb4 HBA.out.lt)
  clear hS hb4 hBw hrn
  go_wp2_with fail
  go_loopw [13] (fun j wr => ∃ p : Nat, p ≤ RN ∧ j = .int .i64 p ∧ Hid (CkI w4.heap.size w4.heap.size cv (rulesF rs 0 (rs.take p)) wr ∧ Below w4.heap.size w4 wr)) (fun j _ => RN - (intOf j).toNat)
  case atStart => exact ⟨0, Nat.zero_le _, rfl, HI0⟩
  case round =>
    obtain ⟨p, hp, rfl, hIr⟩ := hrel
    by_cases hlt : p < RN
    · have p0 : (p : Int) < (RN : Int) := by omega
      have d0 : decide (p < RN) = true := by rw [decide_eq_true_iff]; exact hlt
      obtain ⟨r, hr⟩ : ∃ r, rs[p]? = some r := ⟨_, List.getElem?_eq_getElem (by rw [HSM.out.2.1]; exact hlt)⟩
      have HRu := Lib.hid (rule_any w4 w4.heap.size cv rs (rulesF rs 0 (rs.take p)) p r wr HS.out hr HSM.out.1 hIr.out.2 hIr.out.1 (by have := rulesF_le rs p; have := HSM.out.2.2; omega))
      rw [← rulesF_take rs hr] at HRu
      clear hr k3
      go_wp2_with (go_at_call 44; refine (HRu.out).mono ?_; rintro e w7 ⟨⟨v7, rfl⟩, hI7, hT7⟩; have H7 := Lib.hid (And.intro hI7 hT7); clear hI7 hT7)
      exact ⟨⟨p + 1, by omega, by go_num, Lib.hid ⟨H7.out.1, hIr.out.2.trans H7.out.2.1⟩⟩, by simp [intOf]; omega⟩
    · have d0 : decide (p < RN) = false := by rw [decide_eq_false_iff_not]; exact hlt
      obtain rfl : p = RN := by omega
      have hall : rs.take p = rs := by rw [← HSM.out.2.1, List.take_length]
      rw [hall] at hIr
      have HBr := Lib.hid (HBW.out.trans (hIr.out.2.mono HBW.out.size))
      have hAr := HAW.out.below hIr.out.2 HAW.out.lt
      have a0 := hAr.cell 0
      have a1 := hAr.cell 1
      have a2 := hAr.cell 2
      have a3 := hAr.cell 3
      simp at a0 a1 a2 a3
      have HLN := Lib.hid HSM.out.2.2
      clear hAr hall k3
      have fin : ∀ (L : List Pr) (X : World), CkI w4.heap.size w4.heap.size cv L X → ∃ pv, X.cell? ⟨w4.heap.size, 7, none⟩ = some pv ∧ Calls Tryd.prog 47 #[pv] X fun e w' => X = w' ∧ ∃ v, e = .returned v ∧ PrV w' L v := fun L X h => by
        obtain ⟨_, pv, hK, how⟩ := h
        exact ⟨pv, by have := hK.cell 7; simpa using this, clip_told _ L pv X how⟩
      have FIN := Lib.hid fin
      clear fin
      cases hst : Ck.start rs with
      | none =>
        have hchk : chk rs = rulesF rs 0 rs ++ [⟨8, -1, ⟨#[]⟩⟩] := by unfold chk; rw [if_pos hst]
        rw [hst] at HSt
        have HCHK := Lib.hid hchk
        simp only [whereI] at HSt
        have HTe := Lib.hid (fun (X : World) (hI : CkI w4.heap.size w4.heap.size cv (rulesF rs 0 rs) X) => tell_any w4.heap.size w4.heap.size cv (rulesF rs 0 rs) 8 (-1) ⟨#[]⟩ X hI (by decide) (by have := HLN.out; omega))
        generalize rulesF rs 0 rs = LL at *
        clear hst hchk
        go_upto_region 8 with (go_at_call 45; refine (HSt.out _ HBr.out).mono ?_; rintro e w8 ⟨rfl, hb8⟩; have H8 := Lib.hid hb8; clear hb8)
        go_wp2_with (go_at_call 46; refine (HTe.out _ (hIr.out.1.below H8.out)).mono ?_; rintro e w9 ⟨⟨v9, rfl⟩, hI9, hT9⟩; obtain ⟨pv, c7, hcl⟩ := FIN.out _ _ hI9; have H9 := Lib.hid (And.intro hI9 hT9); have HCL := Lib.hid hcl; clear hI9 hT9 hcl)
        refine (HCL.out).mono ?_
        rintro e w10 ⟨rfl, v10, rfl, hP⟩
        have HP := Lib.hid hP
        clear hP c7
        go_wp2_with fail
        go_ret
        exact ⟨⟨v10, rfl, by rw [HCHK.out]; exact HP.out⟩, HBr.out.trans ((H8.out.mono HBr.out.size).trans (H9.out.2.1.mono HBW.out.size))⟩
      | some k =>
        have hchk : chk rs = rulesF rs 0 rs := by unfold chk; rw [if_neg (by rw [hst]; simp), List.append_nil]
        rw [hst] at HSt
        have HCHK := Lib.hid hchk
        simp only [whereI] at HSt
        generalize rulesF rs 0 rs = LL at *
        clear hst hchk
        have pk : (0 : Int) ≤ (k : Int) := by omega
        have dk : decide ((k : Int) < 0) = false := decide_eq_false (by omega)
        go_upto_region 9 with (go_at_call 45; refine (HSt.out _ HBr.out).mono ?_; rintro e w8 ⟨rfl, hb8⟩; have H8 := Lib.hid hb8; clear hb8)
        obtain ⟨pv, c7, hcl⟩ := FIN.out _ _ (hIr.out.1.below H8.out)
        have HCL := Lib.hid hcl
        clear hcl
        go_wp2_with fail
        refine (HCL.out).mono ?_
        rintro e w10 ⟨rfl, v10, rfl, hP⟩
        have HP := Lib.hid hP
        clear hP c7
        go_wp2_with fail
        go_ret
        exact ⟨⟨v10, rfl, by rw [HCHK.out]; exact HP.out⟩, HBr.out.trans (H8.out.mono HBr.out.size)⟩
set_option maxHeartbeats 2000000 in
theorem Fine_any (nm : ByteArray) (o1 o2 : Int) (rs : List Rl) (v : Value) (w : World) (hG : GrV w nm o1 o2 rs v) (hsm : rs.length ≤ 999 ∧ ∀ r ∈ rs, Nd.deep r.body ≤ 100000 ∧ Nd.count r.body ≤ 90000) (hl : (rulesF rs 0 rs).length ≤ 100000) :
    Calls Tryd.prog 15 #[v] w fun e w' => e = .returned (.bool (decide (chk rs = []))) ∧ Below w.heap.size w w' := by
  have HCk := Lib.hid (fun o => Check_any nm o1 o2 rs v (w.alloc o) (hG.below ((Below.refl _ w).alloc (Nat.le_refl _) o)) hsm hl)
  obtain ⟨ra0, rc0, rfl, hnm, hrc0, _⟩ := hG
  have hch : (chk rs).length ≤ 100001 := by unfold chk; rw [List.length_append]; split <;> simp <;> omega
  have HB1 := Lib.hid (fun o => (Below.refl _ w).alloc (Nat.le_refl _) o)
  clear hsm hl hrc0
  obtain ⟨CN, hCN⟩ : ∃ n, (chk rs).length = n := ⟨_, rfl⟩
  have hd : decide (chk rs = []) = decide (CN = 0) := by rw [← hCN]; cases chk rs <;> simp
  rw [hd]
  rw [hCN] at hch
  have HCN := Lib.hid hCN
  clear hCN hd
  generalize rs.length = RN at *
  by_cases h0 : CN = 0
  · subst h0
    go_enter Tryd.func15, Tryd.ntmps15
    go_wp2_with (go_at_call 28; refine (HCk.out _).mono ?_; rintro e w9 ⟨⟨pv, rfl, a, rfl, _⟩, hb⟩; rw [HCN.out]; have HB := Lib.hid hb; clear hb)
    go_ret
    exact ⟨rfl, (HB1.out _).trans (HB.out.mono (HB1.out _).size)⟩
  · have d0 : decide (CN = 0) = false := decide_eq_false h0
    have q0 : ((CN : Int) == 0) = false := by rw [beq_eq_false_iff_ne]; omega
    have q1 : ¬ (CN : Int) = 0 := by omega
    rw [d0]
    clear d0
    go_enter Tryd.func15, Tryd.ntmps15
    go_wp2_with (go_at_call 28; refine (HCk.out _).mono ?_; rintro e w9 ⟨⟨pv, rfl, a, rfl, _⟩, hb⟩; rw [HCN.out]; have HB := Lib.hid hb; clear hb)
    go_ret
    exact ⟨by simp [], (HB1.out _).trans (HB.out.mono (HB1.out _).size)⟩
end Go.Proofs.YtmcpemohemeecaaDoor
