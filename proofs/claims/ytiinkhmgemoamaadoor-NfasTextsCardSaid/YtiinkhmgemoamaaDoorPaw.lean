/- The contracts of Find. -/
import Derived.Test.YtiinkhmgemoamaaDoorPaj
namespace Go.Proofs.YtiinkhmgemoamaaDoor
open Go Go.RowKit Nu
set_option maxRecDepth 100000

/-- Where a name's rule is; -1: nowhere. -/
def whereI : Option Nat → Int
 | some i => (i : Int)
 | none => -1
set_option maxHeartbeats 1000000 in
theorem FindF_any (rn x : ByteArray) (s k : Int) (n t : ByteArray) (sa ba : Option Addr) (sl sc bl bc : Nat) (p0 p1 p2 : Int) (nb : Nat) (w : World) (hx : w.cell? ⟨nb, 0, none⟩ = some (.string x)) :
 Calls Tryd.prog 41 #[.agg #[.string rn, .int .u8 s, .int .u8 k, .string n, .string t, .slice sa sl sc, .slice ba bl bc, .int .i64 p0, .int .i64 p1, .int .i64 p2], .pointer (some ⟨nb, 0, none⟩)] w fun e w' => e = .returned (.bool (decide (rn.toList = x.toList))) ∧ Below w.heap.size w w' := by
 have hx2 : ∀ o, (w.alloc o).cell? ⟨nb, 0, none⟩ = some (.string x) := fun o => Nd.cell_keeps ((Below.refl _ w).alloc (Nat.le_refl _) o) hx
 have e0 : decide (rn.toList = x.toList) = (rn.toList == x.toList) := by
  by_cases h : rn.toList = x.toList <;> simp [h]
 rw [e0]
 obtain ⟨X, hX⟩ : ∃ b, (rn.toList == x.toList) = b := ⟨_, rfl⟩
 rw [hX]
 go_enter Tryd.func41, Tryd.ntmps41
 have hx3 := hx2 (.cells #[.string rn, .int .u8 s, .int .u8 k, .string n, .string t, .slice sa sl sc, .slice ba bl bc, .int .i64 p0, .int .i64 p1, .int .i64 p2] 38)
 go_wp2_with fail
 go_ret
 exact ⟨rfl, (Below.refl _ w).alloc (Nat.le_refl _) _⟩
set_option maxHeartbeats 2000000 in
theorem IndexFunc_any (rs : List Nu.Rl) (ra : Option Addr) (rc : Nat) (x : ByteArray) (nb : Nat) (w : World) (hR : RuL w rs ra) (hrc : rs.length ≤ rc ∧ rs.length ≤ 140737488351232) (hx : w.cell? ⟨nb, 0, none⟩ = some (.string x)) :
 Calls Tryd.prog 40 #[.slice ra rs.length rc, .func (.func 41) #[] #[.pointer (some ⟨nb, 0, none⟩)]] w fun e w' => e = .returned (.int .i64 (whereI (fnd rs x))) ∧ Below w.heap.size w w' := by
 obtain ⟨RN, hRN⟩ : ∃ k, rs.length = k := ⟨_, rfl⟩
 have HRN := Lib.hid hRN
 rw [hRN] at hrc ⊢
 have n1 : (RN : Int) ≤ 9223372036854775807 := by omega
 obtain ⟨TT, hTT⟩ : ∃ k, fnd rs x = k := ⟨_, rfl⟩
 have HTT := Lib.hid (show fndF x 0 rs = TT from hTT)
 rw [hTT]
 clear hTT hRN
 go_enter Tryd.func40, Tryd.ntmps40
 go_wp2_with fail
 go_loopw [8] (fun i wr => ∃ p : Nat, p ≤ RN ∧ i = .int .i64 p ∧ Hid (fndF x p (rs.drop p) = TT) ∧ Below w.heap.size w wr) (fun i _ => RN - (intOf i).toNat)
 case atStart => exact ⟨0, Nat.zero_le _, rfl, by rw [List.drop_zero]; exact HTT, Below.refl _ w⟩
 case round =>
  obtain ⟨p, hp, rfl, hT, hB⟩ := hrel
  by_cases hlt : p < RN
  · have d2 : decide (p < RN) = true := by rw [decide_eq_true_iff]; exact hlt
    have p0 : (p : Int) < (RN : Int) := by omega
    obtain ⟨r, hr⟩ : ∃ r, rs[p]? = some r := ⟨_, List.getElem?_eq_getElem (by rw [HRN.out]; exact hlt)⟩
    obtain ⟨g, o, rfl, v0, v1, v2, v3, v4, a0, a1, a2, a3, a4, a5, a6, a7, a8, a9, hAs, _, hns⟩ := hR p r hr
    have b0 := Nd.cell_keeps hB a0
    have b1 := Nd.cell_keeps hB a1
    have b2 := Nd.cell_keeps hB a2
    have b3 := Nd.cell_keeps hB a3
    have b4 := Nd.cell_keeps hB a4
    have b5 := Nd.cell_keeps hB a5
    have b6 := Nd.cell_keeps hB a6
    have b7 := Nd.cell_keeps hB a7
    have b8 := Nd.cell_keeps hB a8
    have b9 := Nd.cell_keeps hB a9
    have hst : (if r.name.toList = x.toList then some p else fndF x (p + 1) (rs.drop (p + 1))) = TT := by
     rw [← hT.out, Nd.drop_some hr]
     simp only [fndF]
    obtain ⟨sa1, sc1, ba1, bc1, rfl, rfl, rfl, rfl, rfl⟩ := hAs.five
    have hC := FindF_any r.name x r.sort r.body.kind r.body.name r.body.text sa1 ba1 r.body.set.length sc1 r.body.subs.length bc1 r.p0 r.p1 r.p2 nb wr (Nd.cell_keeps hB hx)
    by_cases hq : r.name.toList = x.toList
    · rw [if_pos hq] at hst
      have HST := Lib.hid hst
      rw [decide_eq_true hq] at hC
      replace hC := Lib.hid hC
      clear a0 a1 a2 a3 a4 a5 a6 a7 a8 a9 hAs hst hq hr hT HTT
      generalize r.body.kind = sk at *
      generalize r.body.name = sn at *
      generalize r.body.text = sx at *
      generalize r.body.set.length = sl at *
      generalize r.body.subs.length = sm at *
      generalize r.name = rn at *
      go_wp2_with (go_at_call 41; refine hC.out.mono ?_; rintro e w' ⟨rfl, hb⟩)
      go_ret
      exact ⟨by rw [← HST.out]; rfl, hB.trans (hb.mono hB.size)⟩
    · rw [if_neg hq] at hst
      have HST := Lib.hid hst
      rw [decide_eq_false hq] at hC
      replace hC := Lib.hid hC
      clear a0 a1 a2 a3 a4 a5 a6 a7 a8 a9 hAs hst hq hr hT HTT
      generalize r.body.kind = sk at *
      generalize r.body.name = sn at *
      generalize r.body.text = sx at *
      generalize r.body.set.length = sl at *
      generalize r.body.subs.length = sm at *
      generalize r.name = rn at *
      go_wp2_with (go_at_call 41; refine hC.out.mono ?_; rintro e w' ⟨rfl, hb⟩)
      refine ⟨⟨p + 1, by omega, by go_num, HST, hB.trans (hb.mono hB.size)⟩, by simp [intOf]; omega⟩
  · have d2 : decide (p < RN) = false := by rw [decide_eq_false_iff_not]; exact hlt
    have hfin : Option.none = TT := by
     rw [← hT.out, List.drop_eq_nil_of_le (by rw [HRN.out]; omega)]
     simp only [fndF]
    have HF := Lib.hid hfin
    clear hfin hT HTT
    go_wp2_with fail
    go_ret
    exact ⟨by rw [← HF.out]; rfl, hB⟩
theorem boxN (w : World) (o : Obj) (x : ByteArray) : ((w.alloc o).alloc (.cells #[.string x] 9)).cell? ⟨w.heap.size + 1, 0, none⟩ = some (.string x) := by
 have := (Bk.made (w.alloc o) 9 #[.string x]).cell 0
 rw [World.size_alloc] at this
 rw [this]
 rfl
set_option maxHeartbeats 1000000 in
theorem Find_any (nm : ByteArray) (o1 o2 : Int) (rs : List Nu.Rl) (v : Value) (x : ByteArray) (w : World) (hG : GrV w nm o1 o2 rs v) :
 Calls Tryd.prog 25 #[v, .string x] w fun e w' => e = .returned (.int .i64 (whereI (fnd rs x))) ∧ Below w.heap.size w w' := by
 obtain ⟨ra, rc, rfl, hnm, hrc, hR⟩ := hG
 have hk : ∀ o1 o2, Below w.heap.size w ((w.alloc o1).alloc o2) := fun o1 o2 => ((Below.refl _ w).alloc (Nat.le_refl _) o1).alloc (by simp) o2
 have hC := Lib.hid (fun (w1 : World) (hb : Below w.heap.size w w1) (nb : Nat) (hx : w1.cell? ⟨nb, 0, none⟩ = some (.string x)) => IndexFunc_any rs ra rc x nb w1 (hR.below hb) hrc hx)
 generalize rs.length = RN at *
 obtain ⟨FI, hFI⟩ : ∃ k, whereI (fnd rs x) = k := ⟨_, rfl⟩
 rw [hFI] at hC ⊢
 clear hR hFI
 go_enter Tryd.func25, Tryd.ntmps25
 go_wp2_with (go_at_call 40; refine (hC.out _ (hk _ _) _ (boxN _ _ _)).mono ?_; rintro e w' ⟨rfl, hb⟩)
 go_ret
 exact ⟨rfl, (hk _ _).trans (hb.mono (by simp; omega))⟩
end Go.Proofs.YtiinkhmgemoamaaDoor
