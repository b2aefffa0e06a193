/- Lexers: the contract of Table.Step. -/
import Derived.Test.YtagbpkabfjnplaaDoorLxC
namespace Go.Proofs.YtagbpkabfjnplaaDoor
open Go Go.RowKit Rn Lx
set_option maxRecDepth 100000

namespace Lx
theorem clsF_eq (x : Int) : ∀ (l : List (Int × Int)) (p : Nat), clsF x p l = clF x p l
  | [], _ => rfl
  | r :: t, p => by
    simp only [clsF, clF]
    rw [clsF_eq x t (p + 1)]
theorem cls_eq (l : List (Int × Int)) (x : Int) : cls l x = atI (clF x 0 l) := by rw [cls, clsF_eq]
end Lx
set_option maxHeartbeats 8000000 in
theorem Step_any (t : Tb) (rv cv nv ev : Value) (st x : Int) (w : World) (hT : TL w rv cv nv ev t) (hs : Sm t) :
    Calls Tryd.prog 46 #[.agg #[rv, cv, nv, ev], .int .i64 st, .int .i32 x] w fun e w' => e = .returned (.int .i64 (stp t st x)) ∧ Below w.heap.size w w' := by
  have hb0 := bx_below w rv cv nv ev
  have HT := Lib.hid (fun (W : World) (h : Below (bx w rv cv nv ev).heap.size (bx w rv cv nv ev) W) => (hT.below hb0).below h)
  have HA := Lib.hid ((ClassRn_any t.rs rv x _ (hT.below hb0).1 (Nat.le_trans hs.rs (by omega))))
  have HC := Lib.hid (fun (W : World) (h : Below (bx w rv cv nv ev).heap.size (bx w rv cv nv ev) W) => bx_cells h)
  obtain ⟨⟨ra, rc, rfl, _, _⟩, ⟨ca, cc, rfl, _, _⟩, ⟨na, nc, rfl, _, _⟩, ⟨ea, ec, rfl, _, _⟩⟩ := hT
  have HM := Lib.hid (show stp t st x = _ from rfl)
  unfold stp at HM
  obtain ⟨MM, hM⟩ : ∃ t', stp t st x = t' := ⟨_, rfl⟩
  rw [hM]
  have HM := Lib.hid (show stp t st x = MM from hM)
  clear hM
  rw [cls_eq] at HA
  obtain ⟨R, hR⟩ : ∃ R, t.rs.length = R := ⟨_, rfl⟩
  obtain ⟨C, hC⟩ : ∃ R, t.cs.length = R := ⟨_, rfl⟩
  obtain ⟨N, hN⟩ : ∃ R, t.ns.length = R := ⟨_, rfl⟩
  obtain ⟨E, hE⟩ : ∃ R, t.es.length = R := ⟨_, rfl⟩
  have LN := Lib.hid hN
  have LC := Lib.hid hC
  have l1 := hs.rs
  have l2 := hs.cs
  have l3 := hs.ns
  have LR := Lib.hid hs.row
  obtain ⟨FF, hF⟩ : ∃ t', clF x 0 t.rs = t' := ⟨_, rfl⟩
  have LF := Lib.hid hF
  have LI := Lib.hid (show ∀ i, FF = some i → i < R from fun i h => by have := clF_lt x t.rs 0 i (by rw [hF]; exact h); omega)
  rw [hR] at HA HT HC l1 ⊢
  rw [hC] at HA HT HC l2 ⊢
  rw [hN] at HA HT HC l3 ⊢
  rw [hE] at HA HT HC ⊢
  rw [hF] at HA
  clear hR hC hN hE hF hs
  clear hb0
  cases FF with
  | none =>
    simp only [atI] at HA
    have HQ := Lib.hid (show MM = -1 from by rw [← HM.out]; unfold stp; rw [LF.out]; split <;> rfl)
    by_cases s1 : st < 0
    · have e1 : decide (st < 0) = true := decide_eq_true s1
      go_enter Tryd.func46, Tryd.ntmps46
      go_wp2_with fail
      refine HA.out.mono ?_
      rintro e w2 ⟨rfl, b2⟩
      obtain ⟨c0, c1, c2, c3⟩ := HC.out _ b2
      have B2 := Lib.hid b2
      clear b2
      go_wp2_with fail
      go_ret
      exact ⟨by rw [HQ.out]; rfl, bx_trans B2.out⟩
    · have e1 : decide (st < 0) = false := decide_eq_false s1
      by_cases s2 : (N : Int) ≤ st
      · have e2 : decide ((N : Int) ≤ st) = true := decide_eq_true s2
        go_enter Tryd.func46, Tryd.ntmps46
        go_wp2_with fail
        refine HA.out.mono ?_
        rintro e w2 ⟨rfl, b2⟩
        obtain ⟨c0, c1, c2, c3⟩ := HC.out _ b2
        have B2 := Lib.hid b2
        clear b2
        go_wp2_with fail
        go_ret
        exact ⟨by rw [HQ.out]; rfl, bx_trans B2.out⟩
      · have e2 : decide ((N : Int) ≤ st) = false := decide_eq_false s2
        go_enter Tryd.func46, Tryd.ntmps46
        go_wp2_with fail
        refine HA.out.mono ?_
        rintro e w2 ⟨rfl, b2⟩
        obtain ⟨c0, c1, c2, c3⟩ := HC.out _ b2
        have B2 := Lib.hid b2
        clear b2
        go_wp2_with fail
        go_ret
        exact ⟨by rw [HQ.out]; rfl, bx_trans B2.out⟩
  | some i =>
    simp only [atI] at HA
    have hi := LI.out i rfl
    by_cases s1 : st < 0
    · have e1 : decide (st < 0) = true := decide_eq_true s1
      have HQ := Lib.hid (show MM = -1 from by rw [← HM.out]; unfold stp; rw [if_pos (.inl s1)])
      go_enter Tryd.func46, Tryd.ntmps46
      go_wp2_with fail
      refine HA.out.mono ?_
      rintro e w2 ⟨rfl, b2⟩
      obtain ⟨c0, c1, c2, c3⟩ := HC.out _ b2
      have B2 := Lib.hid b2
      clear b2
      go_wp2_with fail
      go_ret
      exact ⟨by rw [HQ.out]; rfl, bx_trans B2.out⟩
    have e1 : decide (st < 0) = false := decide_eq_false s1
    by_cases s2 : (N : Int) ≤ st
    · have e2 : decide ((N : Int) ≤ st) = true := decide_eq_true s2
      have HQ := Lib.hid (show MM = -1 from by rw [← HM.out]; unfold stp; rw [if_pos (.inr (by rw [LN.out]; exact s2))])
      go_enter Tryd.func46, Tryd.ntmps46
      go_wp2_with fail
      refine HA.out.mono ?_
      rintro e w2 ⟨rfl, b2⟩
      obtain ⟨c0, c1, c2, c3⟩ := HC.out _ b2
      have B2 := Lib.hid b2
      clear b2
      go_wp2_with fail
      go_ret
      exact ⟨by rw [HQ.out]; rfl, bx_trans B2.out⟩
    have e2 : decide ((N : Int) ≤ st) = false := decide_eq_false s2
    have i0 : (0 : Int) ≤ (i : Int) := by omega
    have e3 : decide ((i : Int) < 0) = false := decide_eq_false (by omega)
    have hu : MM = if C ≤ i then -1 else if t.cs.getD i 0 < 0 ∨ ((t.ns.getD st.toNat []).length : Int) ≤ t.cs.getD i 0 then -1 else (t.ns.getD st.toNat []).getD (t.cs.getD i 0).toNat 0 := by
      rw [← HM.out]
      unfold stp
      rw [if_neg (by rw [LN.out]; omega), LF.out]
      simp only [LC.out]
    by_cases s3 : C ≤ i
    · have e4 : decide (C ≤ i) = true := decide_eq_true s3
      have e5 : decide ((C : Int) ≤ (i : Int)) = true := decide_eq_true (by omega)
      have HQ := Lib.hid (show MM = -1 from by rw [hu, if_pos s3])
      clear hu
      go_enter Tryd.func46, Tryd.ntmps46
      go_wp2_with fail
      refine HA.out.mono ?_
      rintro e w2 ⟨rfl, b2⟩
      obtain ⟨c0, c1, c2, c3⟩ := HC.out _ b2
      have B2 := Lib.hid b2
      clear b2
      go_wp2_with fail
      go_ret
      exact ⟨by rw [HQ.out]; rfl, bx_trans B2.out⟩
    have e4 : decide (C ≤ i) = false := decide_eq_false s3
    have e5 : decide ((C : Int) ≤ (i : Int)) = false := decide_eq_false (by omega)
    rw [if_neg s3] at hu
    obtain ⟨l, hl⟩ : ∃ l, t.ns[st.toNat]? = some l := ⟨_, List.getElem?_eq_getElem (by rw [LN.out]; omega)⟩
    obtain ⟨y, hy⟩ : ∃ y, t.cs[i]? = some y := ⟨_, List.getElem?_eq_getElem (by rw [LC.out]; omega)⟩
    have hll := LR.out l (List.mem_of_getElem? hl)
    have g1 : t.ns.getD st.toNat [] = l := by rw [List.getD_eq_getElem?_getD, hl]; rfl
    have g2 : t.cs.getD i 0 = y := by rw [List.getD_eq_getElem?_getD, hy]; rfl
    rw [g1, g2] at hu
    have HU := Lib.hid hu
    have G1 := Lib.hid hl
    have G2 := Lib.hid hy
    obtain ⟨S, hS⟩ : ∃ S : Nat, st.toNat = S := ⟨_, rfl⟩
    rw [hS] at G1
    have hst : st = (S : Int) := by omega
    subst hst
    clear hu hl hy g1 g2 hS
    go_enter Tryd.func46, Tryd.ntmps46
    go_wp2_with fail
    refine HA.out.mono ?_
    rintro e w2 ⟨rfl, b2⟩
    obtain ⟨c0, c1, c2, c3⟩ := HC.out _ b2
    obtain ⟨_, zC, zN, _⟩ := HT.out _ b2
    obtain ⟨na', nc', en, _, zN⟩ := zN
    injection en with en1 en2 en3
    subst en1
    obtain ⟨ca', cc', ee, _, zC⟩ := zC
    injection ee with ee1 ee2 ee3
    subst ee1
    clear en2 en3 ee2 ee3
    obtain ⟨g, o, qa, qc, rfl, y1, hz⟩ := zN S l G1.out
    obtain ⟨g2, o2, rfl, y2⟩ := zC i y G2.out
    obtain ⟨ll, hl2⟩ : ∃ q, l.length = q := ⟨_, rfl⟩
    have HL2 := Lib.hid hl2
    rw [hl2] at y1 hll
    have HZ := Lib.hid hz
    have B2 := Lib.hid b2
    have s4 : (S : Int) < (N : Int) := by omega
    have s5 : (i : Int) < (C : Int) := by omega
    clear b2 zC zN hz hl2
    go_wp2_with fail
    go_quiet (fail)
    by_cases q1 : y < 0
    · have d1 : decide (y < 0) = true := decide_eq_true q1
      have HQ := Lib.hid (show MM = -1 from by rw [HU.out, if_pos (.inl q1)])
      go_wp2_with fail
      go_ret
      exact ⟨by rw [HQ.out]; rfl, below_drewN (bx_trans B2.out) _⟩
    have d1 : decide (y < 0) = false := decide_eq_false q1
    by_cases q2 : (ll : Int) ≤ y
    · have d2 : decide ((ll : Int) ≤ y) = true := decide_eq_true q2
      have HQ := Lib.hid (show MM = -1 from by rw [HU.out, if_pos (.inr (by rw [HL2.out]; exact q2))])
      go_wp2_with fail
      go_ret
      exact ⟨by rw [HQ.out]; rfl, below_drewN (bx_trans B2.out) _⟩
    have d2 : decide ((ll : Int) ≤ y) = false := decide_eq_false q2
    obtain ⟨v, hv⟩ : ∃ v, l[y.toNat]? = some v := ⟨_, List.getElem?_eq_getElem (by rw [HL2.out]; omega)⟩
    have HQ := Lib.hid (show MM = v from by rw [HU.out, if_neg (by rw [HL2.out]; omega), List.getD_eq_getElem?_getD, hv]; rfl)
    obtain ⟨qa', qc', ez, _, hz⟩ := HZ.out
    injection ez with ez1 ez2 ez3
    subst ez1
    clear ez2 ez3
    obtain ⟨g3, o3, rfl, y3⟩ := hz _ v hv
    have a0 : 0 ≤ y := by omega
    have a1 : y < (ll : Int) := by omega
    clear hv hz
    go_wp2_with fail
    go_ret
    exact ⟨by rw [HQ.out]; rfl, below_drewN (bx_trans B2.out) _⟩
end Go.Proofs.YtagbpkabfjnplaaDoor
