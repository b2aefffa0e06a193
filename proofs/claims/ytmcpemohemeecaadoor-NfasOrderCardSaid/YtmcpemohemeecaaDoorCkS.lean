/- The contract of Start: the first parser's rule. -/
import Derived.Test.YtmcpemohemeecaaDoorCkM
import Derived.Test.YtmcpemohemeecaaDoorNuQ
namespace Go.Proofs.YtmcpemohemeecaaDoor
open Go Go.RowKit Nu Ck
set_option maxRecDepth 100000

namespace Ck
def stF : Nat → List Nu.Rl → Option Nat
  | _, [] => none
  | k, r :: l => if r.sort = 0 then some k else stF (k + 1) l
theorem stF_is : ∀ (l : List Nu.Rl) (k : Nat), stF k l = (l.findIdx? fun r => decide (r.sort = 0)).map (· + k)
  | [], _ => rfl
  | r :: l, k => by
    simp only [stF, List.findIdx?_cons]
    by_cases h : r.sort = 0
    · simp [h]
    · simp only [h, if_false, decide_false, Bool.false_eq_true]
      rw [stF_is l (k + 1), Option.map_map]
      congr 1
      funext j
      simp only [Function.comp]
      omega
theorem start_is (rs : List Nu.Rl) : start rs = stF 0 rs := by
  rw [stF_is]
  unfold start
  cases List.findIdx? _ rs <;> rfl
end Ck
set_option maxHeartbeats 1000000 in
theorem StartF_any (rn : ByteArray) (s k : Int) (n t : ByteArray) (sa ba : Option Addr) (sl sc bl bc : Nat) (p0 p1 p2 : Int) (w : World) :
    Calls Tryd.prog 64 #[.agg #[.string rn, .int .u8 s, .int .u8 k, .string n, .string t, .slice sa sl sc, .slice ba bl bc, .int .i64 p0, .int .i64 p1, .int .i64 p2]] w fun e w' => e = .returned (.bool (decide (s = 0))) ∧ Below w.heap.size w w' := by
  obtain ⟨X, hX⟩ : ∃ b, decide (s = 0) = b := ⟨_, rfl⟩
  have hq : (s == 0) = X := by rw [← hX]; rfl
  rw [hX]
  go_enter Tryd.func64, Tryd.ntmps64
  go_wp2_with fail
  go_ret
  exact ⟨rfl, (Below.refl _ w).alloc (Nat.le_refl _) _⟩
set_option maxHeartbeats 2000000 in
theorem IndexStart_any (rs : List Nu.Rl) (ra : Option Addr) (rc : Nat) (w : World) (hR : RuL w rs ra) (hrc : rs.length ≤ rc ∧ rs.length ≤ 140737488351232) :
    Calls Tryd.prog 40 #[.slice ra rs.length rc, .func (.func 64) #[] #[]] w fun e w' => e = .returned (.int .i64 (whereI (stF 0 rs))) ∧ Below w.heap.size w w' := by
  obtain ⟨RN, hRN⟩ : ∃ k, rs.length = k := ⟨_, rfl⟩
  have HRN := Lib.hid hRN
  rw [hRN] at hrc ⊢
  have n1 : (RN : Int) ≤ 9223372036854775807 := by omega
  obtain ⟨TT, hTT⟩ : ∃ k, stF 0 rs = k := ⟨_, rfl⟩
  have HTT := Lib.hid (show stF 0 rs = TT from hTT)
  rw [hTT]
  clear hTT hRN
  go_enter Tryd.func40, Tryd.ntmps40
  go_wp2_with fail
  go_loopw [8] (fun i wr => ∃ p : Nat, p ≤ RN ∧ i = .int .i64 p ∧ Hid (stF p (rs.drop p) = TT) ∧ Below w.heap.size w wr) (fun i _ => RN - (intOf i).toNat)
  case atStart => exact ⟨0, Nat.zero_le _, rfl, by rw [List.drop_zero]; exact HTT, Below.refl _ w⟩
  case round =>
    obtain ⟨p, hp, rfl, hT, hB⟩ := hrel
    by_cases hlt : p < RN
    · have d2 : decide (p < RN) = true := by rw [decide_eq_true_iff]; exact hlt
      have p0 : (p : Int) < (RN : Int) := by omega
      obtain ⟨r, hr⟩ : ∃ r, rs[p]? = some r := ⟨_, List.getElem?_eq_getElem (by rw [HRN.out]; exact hlt)⟩
      obtain ⟨g, o, rfl, v0, v1, v2, v3, v4, a0, a1, a2, a3, a4, a5, a6, a7, a8, a9, hAs, _, hns⟩ := hR p r hr
      have b0 := Nd.cell_keeps hB a0
      have b1 := Nd.cell_keeps hB a1
      have b2 := Nd.cell_keeps hB a2
      have b3 := Nd.cell_keeps hB a3
      have b4 := Nd.cell_keeps hB a4
      have b5 := Nd.cell_keeps hB a5
      have b6 := Nd.cell_keeps hB a6
      have b7 := Nd.cell_keeps hB a7
      have b8 := Nd.cell_keeps hB a8
      have b9 := Nd.cell_keeps hB a9
      have hst : (if r.sort = 0 then some p else stF (p + 1) (rs.drop (p + 1))) = TT := by
        rw [← hT.out, Nd.drop_some hr]
        simp only [stF]
      obtain ⟨sa1, sc1, ba1, bc1, rfl, rfl, rfl, rfl, rfl⟩ := hAs.five
      have hC := StartF_any r.name r.sort r.body.kind r.body.name r.body.text sa1 ba1 r.body.set.length sc1 r.body.subs.length bc1 r.p0 r.p1 r.p2 wr
      by_cases hq : r.sort = 0
      · rw [if_pos hq] at hst
        have HST := Lib.hid hst
        rw [decide_eq_true hq] at hC
        replace hC := Lib.hid hC
        clear a0 a1 a2 a3 a4 a5 a6 a7 a8 a9 hAs hst hq hr hT HTT
        generalize r.body.kind = sk at *
        generalize r.body.name = sn at *
        generalize r.body.text = sx at *
        generalize r.body.set.length = sl at *
        generalize r.body.subs.length = sm at *
        generalize r.name = rn at *
        go_wp2_with (go_at_call 64; refine hC.out.mono ?_; rintro e w' ⟨rfl, hb⟩)
        go_ret
        exact ⟨by rw [← HST.out]; rfl, hB.trans (hb.mono hB.size)⟩
      · rw [if_neg hq] at hst
        have HST := Lib.hid hst
        rw [decide_eq_false hq] at hC
        replace hC := Lib.hid hC
        clear a0 a1 a2 a3 a4 a5 a6 a7 a8 a9 hAs hst hq hr hT HTT
        generalize r.body.kind = sk at *
        generalize r.body.name = sn at *
        generalize r.body.text = sx at *
        generalize r.body.set.length = sl at *
        generalize r.body.subs.length = sm at *
        generalize r.name = rn at *
        go_wp2_with (go_at_call 64; refine hC.out.mono ?_; rintro e w' ⟨rfl, hb⟩)
        refine ⟨⟨p + 1, by omega, by go_num, HST, hB.trans (hb.mono hB.size)⟩, by simp [intOf]; omega⟩
    · have d2 : decide (p < RN) = false := by rw [decide_eq_false_iff_not]; exact hlt
      have hfin : Option.none = TT := by
        rw [← hT.out, List.drop_eq_nil_of_le (by rw [HRN.out]; omega)]
        simp only [stF]
      have HF := Lib.hid hfin
      clear hfin hT HTT
      go_wp2_with fail
      go_ret
      exact ⟨by rw [← HF.out]; rfl, hB⟩
set_option maxHeartbeats 1000000 in
theorem Start_any (nm : ByteArray) (o1 o2 : Int) (rs : List Nu.Rl) (v : Value) (w : World) (hG : GrV w nm o1 o2 rs v) :
    Calls Tryd.prog 45 #[v] w fun e w' => e = .returned (.int .i64 (whereI (Ck.start rs))) ∧ Below w.heap.size w w' := by
  obtain ⟨ra, rc, rfl, hnm, hrc, hR⟩ := hG
  have hC := Lib.hid (fun (w1 : World) (hb : Below w.heap.size w w1) => IndexStart_any rs ra rc w1 (hR.below hb) hrc)
  rw [Ck.start_is]
  generalize rs.length = RN at *
  obtain ⟨FI, hFI⟩ : ∃ k, whereI (stF 0 rs) = k := ⟨_, rfl⟩
  rw [hFI] at hC ⊢
  clear hR hFI
  go_enter Tryd.func45, Tryd.ntmps45
  go_wp2_with (go_at_call 40; refine (hC.out _ ((Below.refl _ w).alloc (Nat.le_refl _) _)).mono ?_; rintro e w' ⟨rfl, hb⟩)
  go_ret
  exact ⟨rfl, ((Below.refl _ w).alloc (Nat.le_refl _) _).trans (hb.mono (by simp))⟩
end Go.Proofs.YtmcpemohemeecaaDoor
