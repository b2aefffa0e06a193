/- The contracts of nodes.same and Same: have two nodes the same? -/
import Derived.Test.YthfkodimafmmgaaGreatDoorNdG
import Derived.Deep.QuietTactic
import Derived.BigQuiet
namespace Go.Proofs.YthfkodimafmmgaaGreatDoor
open Go Go.RowKit Ru
set_option maxRecDepth 100000

namespace Nd
mutual
def sameB : T → T → Bool
  | .mk k n x s b, .mk k' n' x' s' b' => (k == k') && ((n.toList == n'.toList) && ((x.toList == x'.toList) && (decide (s = s') && sameL b b')))
def sameL : List T → List T → Bool
  | [], [] => true
  | t :: r, u :: q => sameB t u && sameL r q
  | _, _ => false
end
theorem sameL_len : ∀ (r q : List T), sameL r q = true → r.length = q.length
  | [], [], _ => rfl
  | t :: r, u :: q, h => by
    simp only [sameL, Bool.and_eq_true] at h
    simp [sameL_len r q h.2]
  | [], u :: q, h => by simp [sameL] at h
  | t :: r, [], h => by simp [sameL] at h
theorem sameL_step : ∀ (r q : List T) (i : Nat) (t u : T), r[i]? = some t → q[i]? = some u → sameL (r.drop i) (q.drop i) = (sameB t u && sameL (r.drop (i + 1)) (q.drop (i + 1)))
  | r, q, i, t, u, h1, h2 => by rw [drop_some h1, drop_some h2]; simp only [sameL]
end Nd
set_option maxHeartbeats 1000000 in
theorem EqualR_any (st su : List (Int × Int)) (a c : Option Addr) (cap cap2 : Nat) (w : World) (hst : st.length ≤ 140737488351232) (hsu : su.length ≤ 140737488351232) (hR : Nd.RgAt w st a) (hQ : Nd.RgAt w su c) :
    Calls Tryz.prog 41 #[.slice a st.length cap, .slice c su.length cap2] w fun e w' => e = .returned (.bool (decide (st = su))) ∧ Below w.heap.size w w' := by
  obtain ⟨N, hN⟩ : ∃ N, st.length = N := ⟨_, rfl⟩
  obtain ⟨M, hM⟩ : ∃ N, su.length = N := ⟨_, rfl⟩
  have HN := Lib.hid hN
  have HM := Lib.hid hM
  rw [hN] at hst ⊢
  rw [hM] at hsu ⊢
  by_cases hne : N = M
  · subst hne
    have n1 : (N : Int) ≤ 9223372036854775807 := by omega
    have HR := Lib.hid hR
    have HQ := Lib.hid hQ
    clear hR hQ hN hM
    go_enter Tryz.func41, Tryz.ntmps41
    go_wp2_with fail
    go_loopw [13] (fun i wr => ∃ (k n : Nat), k ≤ N ∧ i = .int .i64 k ∧ wr = w.drewN n ∧ Hid (st.take k = su.take k)) (fun i _ => N - (intOf i).toNat)
    case atStart => exact ⟨0, 0, Nat.zero_le _, rfl, rfl, Lib.hid (by simp)⟩
    case round =>
      obtain ⟨k, n, hk, rfl, rfl, hT⟩ := hrel
      by_cases hlt : k < N
      · obtain ⟨p, hp⟩ : ∃ p, st[k]? = some p := ⟨_, List.getElem?_eq_getElem (by rw [HN.out]; exact hlt)⟩
        obtain ⟨q, hq⟩ : ∃ p, su[k]? = some p := ⟨_, List.getElem?_eq_getElem (by rw [HM.out]; exact hlt)⟩
        obtain ⟨g1, o1, rfl, x1, x2⟩ := HR.out.get k p hp
        obtain ⟨g2, o2, rfl, y1, y2⟩ := HQ.out.get k q hq
        obtain ⟨pa, pb⟩ := p
        obtain ⟨qa, qb⟩ := q
        dsimp only at x1 x2 y1 y2
        have d0 : decide (k < N) = true := by rw [decide_eq_true_iff]; exact hlt
        have a0 : (k : Int) < (N : Int) := by omega
        have hgetne : (pa, pb) ≠ (qa, qb) → st ≠ su := by
          intro h e
          rw [e, hq] at hp
          exact h (Option.some.inj hp).symm
        have hstep : (pa, pb) = (qa, qb) → st.take (k + 1) = su.take (k + 1) := by
          intro h
          rw [List.take_add_one, List.take_add_one, hp, hq, hT.out, h]
        have HG := Lib.hid hgetne
        have HSt := Lib.hid hstep
        clear hgetne hstep hp hq hT
        by_cases hac : pa = qa
        · by_cases hbd : pb = qb
          · subst hac hbd
            have HT := Lib.hid (HSt.out rfl)
            go_wp2_with fail
            go_quiet (fail)
            go_wp2_with fail
            exact ⟨⟨k + 1, n + nq, by omega, by go_num, rfl, HT⟩, by simp [intOf]; omega⟩
          · have HF := Lib.hid (show decide (st = su) = false from decide_eq_false (HG.out (fun e => hbd (Prod.mk.inj e).2)))
            have q0 : (pb == qb) = false := by rw [beq_eq_false_iff_ne]; exact hbd
            subst hac
            go_wp2_with fail
            go_quiet (fail)
            go_wp2_with fail
            go_ret
            exact ⟨by rw [HF.out]; rfl, below_drewN (below_drewN (Below.refl _ _) _) _⟩
        · have HF := Lib.hid (show decide (st = su) = false from decide_eq_false (HG.out (fun e => hac (Prod.mk.inj e).1)))
          have q0 : (pa == qa) = false := by rw [beq_eq_false_iff_ne]; exact hac
          go_wp2_with fail
          go_quiet (fail)
          go_wp2_with fail
          go_ret
          exact ⟨by rw [HF.out]; rfl, below_drewN (below_drewN (Below.refl _ _) _) _⟩
      · have d0 : decide (k < N) = false := by rw [decide_eq_false_iff_not]; exact hlt
        have HF := Lib.hid (show decide (st = su) = true from decide_eq_true (by
          have := hT.out
          rw [List.take_of_length_le (by rw [HN.out]; omega), List.take_of_length_le (by rw [HM.out]; omega)] at this
          exact this))
        clear hT
        go_wp2_with fail
        go_ret
        exact ⟨by rw [HF.out]; rfl, below_drewN (Below.refl _ _) _⟩
  · have hf : decide (st = su) = false := decide_eq_false (fun e => hne (by rw [← hN, ← hM, e]))
    rw [hf]
    have q0 : ((N : Int) == (M : Int)) = false := by rw [beq_eq_false_iff_ne]; omega
    have q1 : ((N : Int) != (M : Int)) = true := by rw [bne_iff_ne]; omega
    clear hf
    go_enter Tryz.func41, Tryz.ntmps41
    go_wp2_with fail
    go_ret
    exact ⟨rfl, Below.refl _ _⟩
def SameOk (t : Nd.T) : Prop := ∀ (u : Nd.T) (v v2 : Value) (w : World), Nd.At w t v → Nd.At w u v2 →
  Calls Tryz.prog 25 #[v, v2] w fun e w' => e = .returned (.bool (Nd.sameB t u)) ∧ Below w.heap.size w w'
set_option maxHeartbeats 1000000 in
theorem EqualN_of (r q : List Nd.T) (ih : ∀ t ∈ r, SameOk t) (a c : Option Addr) (cap cap2 : Nat) (w : World) (hst : r.length ≤ 140737488351232) (hsu : q.length ≤ 140737488351232) (hR : Nd.AtL w r a) (hQ : Nd.AtL w q c) :
    Calls Tryz.prog 42 #[.slice a r.length cap, .slice c q.length cap2, .func (.func 25) #[] #[]] w fun e w' => e = .returned (.bool (Nd.sameL r q)) ∧ Below w.heap.size w w' := by
  obtain ⟨N, hN⟩ : ∃ N, r.length = N := ⟨_, rfl⟩
  obtain ⟨M, hM⟩ : ∃ N, q.length = N := ⟨_, rfl⟩
  have HN := Lib.hid hN
  have HM := Lib.hid hM
  rw [hN] at hst ⊢
  rw [hM] at hsu ⊢
  by_cases hne : N = M
  · subst hne
    have n1 : (N : Int) ≤ 9223372036854775807 := by omega
    have HR := Lib.hid hR
    have HQ := Lib.hid hQ
    obtain ⟨RR, hRR⟩ : ∃ x, Nd.sameL r q = x := ⟨_, rfl⟩
    have HRR := Lib.hid hRR
    rw [hRR]
    clear hR hQ hN hM hRR
    go_enter Tryz.func42, Tryz.ntmps42
    go_wp2_with fail
    go_loopw [17] (fun i wr => ∃ (k : Nat), k ≤ N ∧ i = .int .i64 k ∧ Hid (Nd.sameL (r.drop k) (q.drop k) = RR) ∧ Below w.heap.size w wr) (fun i _ => N - (intOf i).toNat)
    case atStart => exact ⟨0, Nat.zero_le _, rfl, Lib.hid (by rw [List.drop_zero, List.drop_zero]; exact HRR.out), Below.refl _ _⟩
    case round =>
      obtain ⟨k, hk, rfl, hT, hB⟩ := hrel
      by_cases hlt : k < N
      · obtain ⟨s, hs⟩ : ∃ s, r[k]? = some s := ⟨_, List.getElem?_eq_getElem (by rw [HN.out]; exact hlt)⟩
        obtain ⟨u, hu⟩ : ∃ s, q[k]? = some s := ⟨_, List.getElem?_eq_getElem (by rw [HM.out]; exact hlt)⟩
        obtain ⟨g, o, v0, v1, v2, v3, v4, rfl, h0, h1, h2, h3, h4, _, hAs⟩ := HR.out.val k s hs
        obtain ⟨g2, o2, u0, u1, u2, u3, u4, rfl, i0, i1, i2, i3, i4, _, hAu⟩ := HQ.out.val k u hu
        have e0 := Nd.cell_keeps hB h0
        have e1 := Nd.cell_keeps hB h1
        have e2 := Nd.cell_keeps hB h2
        have e3 := Nd.cell_keeps hB h3
        have e4 := Nd.cell_keeps hB h4
        have f0 := Nd.cell_keeps hB i0
        have f1 := Nd.cell_keeps hB i1
        have f2 := Nd.cell_keeps hB i2
        have f3 := Nd.cell_keeps hB i3
        have f4 := Nd.cell_keeps hB i4
        have d0 : decide (k < N) = true := by rw [decide_eq_true_iff]; exact hlt
        have a0 : (k : Int) < (N : Int) := by omega
        have hst2 := hT.out
        rw [Nd.sameL_step r q k s u hs hu] at hst2
        have hz := hB.size
        have C := fun (wx : World) (h : Below w.heap.size w wx) => ih s (List.mem_of_getElem? hs) u _ _ wx (hAs.below h) (hAu.below h)
        obtain ⟨sa1, sc1, ba1, bc1, rfl, rfl, rfl, rfl, rfl⟩ := hAs.five
        obtain ⟨sa2, sc2, ba2, bc2, rfl, rfl, rfl, rfl, rfl⟩ := hAu.five
        generalize s.kind = sk at *
        generalize s.name = sn at *
        generalize s.text = sx at *
        generalize s.set.length = sl at *
        generalize s.subs.length = sm at *
        generalize u.kind = uk at *
        generalize u.name = un at *
        generalize u.text = ux at *
        generalize u.set.length = ul at *
        generalize u.subs.length = um at *
        have HBX := Lib.hid ((hB.alloc hz (.cells #[.int .u8 sk, .string sn, .string sx, .slice sa1 sl sc1, .slice ba1 sm bc1] 26)).alloc (by rw [World.size_alloc]; omega) (.cells #[.int .u8 uk, .string un, .string ux, .slice sa2 ul sc2, .slice ba2 um bc2] 26))
        have f0b := Nd.cell_keeps ((Below.refl _ wr).alloc (Nat.le_refl _) (.cells #[.int .u8 sk, .string sn, .string sx, .slice sa1 sl sc1, .slice ba1 sm bc1] 26)) f0
        have f1b := Nd.cell_keeps ((Below.refl _ wr).alloc (Nat.le_refl _) (.cells #[.int .u8 sk, .string sn, .string sx, .slice sa1 sl sc1, .slice ba1 sm bc1] 26)) f1
        have f2b := Nd.cell_keeps ((Below.refl _ wr).alloc (Nat.le_refl _) (.cells #[.int .u8 sk, .string sn, .string sx, .slice sa1 sl sc1, .slice ba1 sm bc1] 26)) f2
        have f3b := Nd.cell_keeps ((Below.refl _ wr).alloc (Nat.le_refl _) (.cells #[.int .u8 sk, .string sn, .string sx, .slice sa1 sl sc1, .slice ba1 sm bc1] 26)) f3
        have f4b := Nd.cell_keeps ((Below.refl _ wr).alloc (Nat.le_refl _) (.cells #[.int .u8 sk, .string sn, .string sx, .slice sa1 sl sc1, .slice ba1 sm bc1] 26)) f4
        replace C := Lib.hid C
        clear h0 h1 h2 h3 h4 i0 i1 i2 i3 i4 hAs hAu hs hu hT
        cases hsb : Nd.sameB s u with
        | true =>
          rw [hsb] at C hst2
          have HT := Lib.hid hst2
          clear hst2 hsb
          go_wp2_with fail
          refine (C.out _ HBX.out).mono ?_
          rintro e w' ⟨rfl, hb⟩
          go_wp2_with fail
          exact ⟨⟨k + 1, by omega, by go_num, HT, HBX.out.trans (hb.mono HBX.out.size)⟩, by simp [intOf]; omega⟩
        | false =>
          rw [hsb, Bool.false_and] at hst2
          rw [hsb] at C
          have HT := Lib.hid hst2
          clear hst2 hsb
          go_wp2_with fail
          refine (C.out _ HBX.out).mono ?_
          rintro e w' ⟨rfl, hb⟩
          go_wp2_with fail
          go_ret
          exact ⟨by rw [← HT.out]; rfl, HBX.out.trans (hb.mono HBX.out.size)⟩
      · have d0 : decide (k < N) = false := by rw [decide_eq_false_iff_not]; exact hlt
        have HF := Lib.hid (show true = RR by
          have := hT.out
          rw [List.drop_eq_nil_of_le (by rw [HN.out]; omega), List.drop_eq_nil_of_le (by rw [HM.out]; omega)] at this
          rw [← this]; simp only [Nd.sameL])
        clear hT
        go_wp2_with fail
        go_ret
        exact ⟨by rw [← HF.out]; rfl, hB⟩
  · have hf : Nd.sameL r q = false := by
      cases h : Nd.sameL r q with
      | false => rfl
      | true => exact absurd ((HN.out.symm.trans (Nd.sameL_len r q h)).trans HM.out) hne
    rw [hf]
    have q0 : ((N : Int) == (M : Int)) = false := by rw [beq_eq_false_iff_ne]; omega
    have q1 : ((N : Int) != (M : Int)) = true := by rw [bne_iff_ne]; omega
    clear hf
    go_enter Tryz.func42, Tryz.ntmps42
    go_wp2_with fail
    go_ret
    exact ⟨rfl, Below.refl _ _⟩
set_option maxHeartbeats 2000000 in
theorem same_any (t : Nd.T) : SameOk t := by
  induction t using Nd.T.ind with | _ k nm tx st sb ih => ?_
  rintro ⟨k', nm', tx', st', sb'⟩ v v2 w hA hA'
  have hL := hA.subs
  have hL' := hA'.subs
  unfold Nd.At at hA hA'
  obtain ⟨sa, sc, ba, bc, rfl, _, _, _, hsc, hbc, hR, _⟩ := hA
  obtain ⟨sa', sc', ba', bc', rfl, _, _, _, hsc', hbc', hR', _⟩ := hA'
  have e0 : Nd.subsA (.agg #[.int .u8 k, .string nm, .string tx, .slice sa st.length sc, .slice ba sb.length bc]) = ba := rfl
  have e1 : Nd.subsA (.agg #[.int .u8 k', .string nm', .string tx', .slice sa' st'.length sc', .slice ba' sb'.length bc']) = ba' := rfl
  rw [e0] at hL
  rw [e1] at hL'
  have CR := fun (wx : World) (h : Below w.heap.size w wx) => EqualR_any st st' sa sa' sc sc' wx (by omega) (by omega) (hR.below h) (hR'.below h)
  have CN := fun (wx : World) (h : Below w.heap.size w wx) => EqualN_of sb sb' ih ba ba' bc bc' wx (by omega) (by omega) (Nd.AtL.below h _ hL) (Nd.AtL.below h _ hL')
  have hS : Nd.sameB (.mk k nm tx st sb) (.mk k' nm' tx' st' sb') = ((k == k') && ((nm.toList == nm'.toList) && ((tx.toList == tx'.toList) && (decide (st = st') && Nd.sameL sb sb')))) := by simp only [Nd.sameB]
  rw [hS]
  generalize Nd.sameL sb sb' = BL at *
  generalize decide (st = st') = BR at *
  generalize hbn : (nm.toList == nm'.toList) = BN at *
  generalize hbx : (tx.toList == tx'.toList) = BX at *
  generalize hbk : (k == k') = BK at *
  generalize st.length = SL at *
  generalize st'.length = SL' at *
  generalize sb.length = SN at *
  generalize sb'.length = SN' at *
  have HB := Lib.hid (((Below.refl _ w).alloc (Nat.le_refl _) (.cells #[.int .u8 k, .string nm, .string tx, .slice sa SL sc, .slice ba SN bc] 26)).alloc (by rw [World.size_alloc]; omega) (.cells #[.int .u8 k', .string nm', .string tx', .slice sa' SL' sc', .slice ba' SN' bc'] 26))
  replace CR := Lib.hid CR
  replace CN := Lib.hid CN
  have HK1 := Lib.hid ((Bk.made w 26 #[.int .u8 k, .string nm, .string tx, .slice sa SL sc, .slice ba SN bc]).alloc (.cells #[.int .u8 k', .string nm', .string tx', .slice sa' SL' sc', .slice ba' SN' bc'] 26))
  have HK2 := Lib.hid (show Bk ((w.alloc (.cells #[.int .u8 k, .string nm, .string tx, .slice sa SL sc, .slice ba SN bc] 26)).alloc (.cells #[.int .u8 k', .string nm', .string tx', .slice sa' SL' sc', .slice ba' SN' bc'] 26)) (w.heap.size + 1) 26 _ from by
    have := Bk.made (w.alloc (.cells #[.int .u8 k, .string nm, .string tx, .slice sa SL sc, .slice ba SN bc] 26)) 26 #[.int .u8 k', .string nm', .string tx', .slice sa' SL' sc', .slice ba' SN' bc']
    rwa [World.size_alloc] at this)
  clear ih hL hL' hR hR' hS e0 e1
  cases BK with
  | false =>
    go_enter Tryz.func25, Tryz.ntmps25
    go_wp2_with fail
    go_ret
    exact ⟨rfl, HB.out⟩
  | true =>
    cases BN with
    | false =>
      have hq : ¬ nm.toList = nm'.toList := by simpa using hbn
      go_enter Tryz.func25, Tryz.ntmps25
      go_wp2_with fail
      go_ret
      exact ⟨rfl, HB.out⟩
    | true =>
      cases BX with
      | false =>
        have hq : ¬ tx.toList = tx'.toList := by simpa using hbx
        go_enter Tryz.func25, Tryz.ntmps25
        go_wp2_with fail
        go_ret
        exact ⟨rfl, HB.out⟩
      | true =>
        cases BR with
        | false =>
          go_enter Tryz.func25, Tryz.ntmps25
          go_wp2_with fail
          refine (CR.out _ HB.out).mono ?_
          rintro e w3 ⟨rfl, hb⟩
          go_wp2_with fail
          go_ret
          exact ⟨rfl, HB.out.trans (hb.mono HB.out.size)⟩
        | true =>
          go_enter Tryz.func25, Tryz.ntmps25
          go_wp2_with fail
          refine (CR.out _ HB.out).mono ?_
          rintro e w3 ⟨rfl, hb⟩
          have HB3 := Lib.hid (HB.out.trans (hb.mono HB.out.size))
          have x4 := (HK1.out.below hb HK1.out.lt).cell 4
          have y4 := (HK2.out.below hb HK2.out.lt).cell 4
          simp at x4 y4
          clear hb
          go_wp2_with fail
          refine (CN.out _ HB3.out).mono ?_
          rintro e w4 ⟨rfl, hb⟩
          go_wp2_with fail
          go_ret
          exact ⟨rfl, HB3.out.trans (hb.mono HB3.out.size)⟩
set_option maxHeartbeats 1000000 in
theorem Same_any (t u : Nd.T) (v v2 : Value) (w : World) (hA : Nd.At w t v) (hA' : Nd.At w u v2) (hE : ∀ wx, Below w.heap.size w wx → Calls Tryz.prog 24 #[v] wx fun e w' => e = .returned (.bool true) ∧ Below wx.heap.size wx w') :
    Calls Tryz.prog 12 #[v, v2] w fun e w' => e = .returned (.bool (Nd.sameB t u)) ∧ Below w.heap.size w w' := by
  have C := fun (wx : World) (h : Below w.heap.size w wx) => same_any t u v v2 wx (hA.below h) (hA'.below h)
  generalize Nd.sameB t u = R at *
  obtain ⟨sa, sc, ba, bc, rfl, _⟩ := hA.form
  obtain ⟨sa', sc', ba', bc', rfl, _⟩ := hA'.form
  generalize t.kind = sk at *
  generalize t.name = sn at *
  generalize t.text = sx at *
  generalize t.set.length = sl at *
  generalize t.subs.length = sm at *
  generalize u.kind = uk at *
  generalize u.name = un at *
  generalize u.text = ux at *
  generalize u.set.length = ul at *
  generalize u.subs.length = um at *
  have HB := Lib.hid (((Below.refl _ w).alloc (Nat.le_refl _) (.cells #[.int .u8 sk, .string sn, .string sx, .slice sa sl sc, .slice ba sm bc] 26)).alloc (by rw [World.size_alloc]; omega) (.cells #[.int .u8 uk, .string un, .string ux, .slice sa' ul sc', .slice ba' um bc'] 26))
  have HK1 := Lib.hid ((Bk.made w 26 #[.int .u8 sk, .string sn, .string sx, .slice sa sl sc, .slice ba sm bc]).alloc (.cells #[.int .u8 uk, .string un, .string ux, .slice sa' ul sc', .slice ba' um bc'] 26))
  have HK2 := Lib.hid (show Bk ((w.alloc (.cells #[.int .u8 sk, .string sn, .string sx, .slice sa sl sc, .slice ba sm bc] 26)).alloc (.cells #[.int .u8 uk, .string un, .string ux, .slice sa' ul sc', .slice ba' um bc'] 26)) (w.heap.size + 1) 26 _ from by
    have := Bk.made (w.alloc (.cells #[.int .u8 sk, .string sn, .string sx, .slice sa sl sc, .slice ba sm bc] 26)) 26 #[.int .u8 uk, .string un, .string ux, .slice sa' ul sc', .slice ba' um bc']
    rwa [World.size_alloc] at this)
  replace C := Lib.hid C
  replace hE := Lib.hid hE
  go_enter Tryz.func12, Tryz.ntmps12
  go_wp2_with fail
  refine (hE.out _ HB.out).mono ?_
  rintro e w3 ⟨rfl, hb⟩
  have HB3 := Lib.hid (HB.out.trans (hb.mono HB.out.size))
  have x0 := (HK1.out.below hb HK1.out.lt).cell 0
  have x1 := (HK1.out.below hb HK1.out.lt).cell 1
  have x2 := (HK1.out.below hb HK1.out.lt).cell 2
  have x3 := (HK1.out.below hb HK1.out.lt).cell 3
  have x4 := (HK1.out.below hb HK1.out.lt).cell 4
  have y0 := (HK2.out.below hb HK2.out.lt).cell 0
  have y1 := (HK2.out.below hb HK2.out.lt).cell 1
  have y2 := (HK2.out.below hb HK2.out.lt).cell 2
  have y3 := (HK2.out.below hb HK2.out.lt).cell 3
  have y4 := (HK2.out.below hb HK2.out.lt).cell 4
  simp at x0 x1 x2 x3 x4 y0 y1 y2 y3 y4
  clear hb
  go_wp2_with fail
  refine (C.out _ HB3.out).mono ?_
  rintro e w4 ⟨rfl, hb⟩
  go_wp2_with fail
  go_ret
  exact ⟨rfl, HB3.out.trans (hb.mono HB3.out.size)⟩
end Go.Proofs.YthfkodimafmmgaaGreatDoor
