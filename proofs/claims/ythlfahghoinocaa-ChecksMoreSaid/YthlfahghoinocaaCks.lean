/- ChecksMore: the walk. -/
import Derived.Test.YthlfahghoinocaaCkr
namespace Go.Proofs.Ythlfahghoinocaa
open Go Go.RowKit Go.Shelf Ck Nu
attribute [local go_sem] Oper.semAt_some
set_option maxRecDepth 100000

theorem flatP_get : ∀ {l : List Pr} {j : Nat} {p : Pr}, l[j]? = some p → (flatP l)[j * 3]? = some (.int .u8 p.code) ∧ (flatP l)[j * 3 + 1]? = some (.int .i64 p.rule)
  | [], _, _, h => by simp at h
  | x :: l, 0, p, h => by
    simp at h
    subst h
    exact ⟨rfl, rfl⟩
  | x :: l, j + 1, p, h => by
    have h' : l[j]? = some p := by simpa using h
    have ih := flatP_get h'
    rw [show (j + 1) * 3 = j * 3 + 3 from by omega, show j * 3 + 3 + 1 = j * 3 + 1 + 3 from by omega]
    exact ⟨ih.1, ih.2⟩
set_option maxHeartbeats 4000000 in
theorem More_lives (nm : ByteArray) (o1 o2 : Int) (rs : List Rl) (v : Value) (at_ : Int) (w : World) (hG : GrV w nm o1 o2 rs v) (hg5 : g5 nm rs = true) :
    Calls Try.prog 4 #[v, .int .u8 at_] w fun e w' => e = .returned (.bool true) ∧ Below w.heap.size w w' := by
  have hGr := Lib.hid (fun o => (Great5_any nm o1 o2 rs v (w.alloc o) (hG.below ((Below.refl _ w).alloc (Nat.le_refl _) o))).mono (R' := fun e w' => e = .returned (.bool true) ∧ Below (w.alloc o).heap.size (w.alloc o) w') (by rintro e w' ⟨rfl, hb⟩; exact ⟨by rw [hg5], hb⟩))
  obtain ⟨ra, rc, rfl, hnm, hrc, hR⟩ := hG
  generalize rs.length = RN at *
  go_enter Try.func4, Try.ntmps4
  go_wp2_with (first
    | (go_at_call 5; refine (hGr.out _).mono ?_; rintro e w1 ⟨rfl, hb1⟩; have hB1 : Below w.heap.size w w1 := ((Below.refl _ w).alloc (Nat.le_refl _) _).trans (hb1.mono (by simp)))
    | (go_at_call 7; refine (lives06_true _).mono ?_; rintro e w2 ⟨rfl, hb2⟩))
  go_ret
  exact ⟨rfl, hB1.trans (hb2.mono hB1.size)⟩
set_option maxHeartbeats 4000000 in
theorem More_none (nm : ByteArray) (o1 o2 : Int) (rs : List Rl) (v : Value) (at_ : Int) (w : World) (hG : GrV w nm o1 o2 rs v) (hg5 : g5 nm rs = false) (h0 : rs.length = 0) :
    Calls Try.prog 4 #[v, .int .u8 at_] w fun e w' => e = .returned (.bool true) ∧ Below w.heap.size w w' := by
  have hGr := Lib.hid (fun o => (Great5_any nm o1 o2 rs v (w.alloc o) (hG.below ((Below.refl _ w).alloc (Nat.le_refl _) o))).mono (R' := fun e w' => e = .returned (.bool false) ∧ Below (w.alloc o).heap.size (w.alloc o) w') (by rintro e w' ⟨rfl, hb⟩; exact ⟨by rw [hg5], hb⟩))
  obtain ⟨ra, rc, rfl, hnm, hrc, hR⟩ := hG
  rw [h0] at hGr ⊢
  clear hrc hR h0 hg5
  go_enter Try.func4, Try.ntmps4
  go_wp2_with (first
    | (go_at_call 5; refine (hGr.out _).mono ?_; rintro e w1 ⟨rfl, hb1⟩; have hB1 : Below w.heap.size w w1 := ((Below.refl _ w).alloc (Nat.le_refl _) _).trans (hb1.mono (by simp)); have gk := (Bk.made w 26 #[.string nm, .int .i64 o1, .int .i64 o2, .slice ra 0 rc]).below hb1 (by simp); have g3 := gk.cell 3; simp at g3)
    | (go_at_call 7; refine (lives06_true _).mono ?_; rintro e w2 ⟨rfl, hb2⟩))
  go_ret
  exact ⟨rfl, hB1.trans (hb2.mono hB1.size)⟩
set_option maxHeartbeats 4000000 in
theorem More_wrong (nm : ByteArray) (o1 o2 : Int) (rs : List Rl) (v : Value) (at_ : Int) (w : World) (hG : GrV w nm o1 o2 rs v) (hg5 : g5 nm rs = false) (hne : 0 < rs.length) (hc : chk rs ≠ []) :
    Calls Try.prog 4 #[v, .int .u8 at_] w fun e w' => e = .returned (.bool true) ∧ Below w.heap.size w w' := by
  have hsm := small_of hg5
  have hcs : ∀ r ∈ rs, Nd.deep r.body ≤ 101 ∧ Nd.count r.body ≤ 500 := fun r hr => ⟨(hsm.2.1 r hr).1, Nat.le_trans (count_le_sum rs r hr) hsm.2.2.1⟩
  have hrl : (rulesF rs 0 rs).length ≤ 100000 := by have := rulesF_boundM rs rs 0 (fun r hr => by have := hcs r hr; omega); omega
  have hGr := Lib.hid (fun o => (Great5_any nm o1 o2 rs v (w.alloc o) (hG.below ((Below.refl _ w).alloc (Nat.le_refl _) o))).mono (R' := fun e w' => e = .returned (.bool false) ∧ Below (w.alloc o).heap.size (w.alloc o) w') (by rintro e w' ⟨rfl, hb⟩; exact ⟨by rw [hg5], hb⟩))
  have hFi := Lib.hid (fun (wx : World) (hb : Below w.heap.size w wx) => (Fine_any nm o1 o2 rs v wx (hG.below hb) ⟨by omega, fun r hr => by have := hcs r hr; omega⟩ hrl).mono (R' := fun e w' => e = .returned (.bool false) ∧ Below wx.heap.size wx w') (by rintro e w' ⟨rfl, hb⟩; exact ⟨by rw [decide_eq_false hc], hb⟩))
  obtain ⟨ra, rc, rfl, hnm, hrc, hR⟩ := hG
  clear hsm hcs hrl hc hR hg5
  generalize rs.length = RN at *
  have q0 : ((RN : Int) == 0) = false := by rw [beq_eq_false_iff_ne]; omega
  have q1 : ¬ ((RN : Int) = 0) := by omega
  go_enter Try.func4, Try.ntmps4
  go_wp2_with (first
    | (go_at_call 5; refine (hGr.out _).mono ?_; rintro e w1 ⟨rfl, hb1⟩; have hB1 : Below w.heap.size w w1 := ((Below.refl _ w).alloc (Nat.le_refl _) _).trans (hb1.mono (by simp)); have gk := (Bk.made w 26 #[.string nm, .int .i64 o1, .int .i64 o2, .slice ra RN rc]).below hb1 (by simp); have g0 := gk.cell 0; have g1 := gk.cell 1; have g2 := gk.cell 2; have g3 := gk.cell 3; simp at g0 g1 g2 g3)
    | (go_at_call 6; refine (hFi.out _ hB1).mono ?_; rintro e w2 ⟨rfl, hb2⟩)
    | (go_at_call 7; refine (lives06_true _).mono ?_; rintro e w3 ⟨rfl, hb3⟩))
  go_ret
  exact ⟨rfl, hB1.trans ((hb2.mono hB1.size).trans (hb3.mono (hB1.trans (hb2.mono hB1.size)).size))⟩
set_option maxHeartbeats 16000000 in
theorem More_right (nm : ByteArray) (o1 o2 : Int) (rs : List Rl) (v : Value) (at_ : Int) (w : World) (hG : GrV w nm o1 o2 rs v) (ha : 0 ≤ at_ ∧ at_ < 256) (hg5 : g5 nm rs = false) (hne : 0 < rs.length) (hc : chk rs = []) :
    Calls Try.prog 4 #[v, .int .u8 at_] w fun e w' => e = .returned (.bool true) ∧ Below w.heap.size w w' := by
  have hsm := small_of hg5
  have hcs : ∀ r ∈ rs, Nd.deep r.body ≤ 101 ∧ Nd.count r.body ≤ 500 := fun r hr => ⟨(hsm.2.1 r hr).1, Nat.le_trans (count_le_sum rs r hr) hsm.2.2.1⟩
  have hrl : (rulesF rs 0 rs).length ≤ 100000 := by have := rulesF_boundM rs rs 0 (fun r hr => by have := hcs r hr; omega); omega
  have hGr := Lib.hid (fun o => (Great5_any nm o1 o2 rs v (w.alloc o) (hG.below ((Below.refl _ w).alloc (Nat.le_refl _) o))).mono (R' := fun e w' => e = .returned (.bool false) ∧ Below (w.alloc o).heap.size (w.alloc o) w') (by rintro e w' ⟨rfl, hb⟩; exact ⟨by rw [hg5], hb⟩))
  have hFi := Lib.hid (fun (wx : World) (hb : Below w.heap.size w wx) => (Fine_any nm o1 o2 rs v wx (hG.below hb) ⟨by omega, fun r hr => by have := hcs r hr; omega⟩ hrl).mono (R' := fun e w' => e = .returned (.bool true) ∧ Below wx.heap.size wx w') (by rintro e w' ⟨rfl, hb⟩; exact ⟨by rw [decide_eq_true hc], hb⟩))
  have hFz := Lib.hid (fun (wx : World) (hb : Below w.heap.size w wx) => Find_any nm o1 o2 rs v ⟨#[0]⟩ wx (hG.below hb))
  obtain ⟨ra, rc, rfl, hnm, hrc, hR⟩ := hG
  obtain ⟨RN, hRN⟩ : ∃ k, rs.length = k := ⟨_, rfl⟩
  have HRN := Lib.hid hRN
  rw [hRN] at hrc hne hGr hFi hFz hsm ⊢
  have n1 : (RN : Int) ≤ 9223372036854775807 := by omega
  have d0 : ((RN : Int) == 0) = false := by simp; omega
  have d1 : ¬ ((RN : Int) = 0) := by omega
  clear hRN
  obtain ⟨I, hI⟩ : ∃ I : Nat, at_ % (RN : Int) = (I : Int) := ⟨(at_ % (RN : Int)).toNat, by have := Int.emod_nonneg at_ (b := (RN : Int)) (by omega); omega⟩
  have hIN : I < RN := by have := Int.emod_lt_of_pos at_ (b := (RN : Int)) (by omega); omega
  have p0 : (I : Int) < (RN : Int) := by omega
  obtain ⟨r, hr⟩ : ∃ r, rs[I]? = some r := ⟨_, List.getElem?_eq_getElem (by rw [HRN.out]; exact hIN)⟩
  obtain ⟨b, o, rfl, v0, v1, v2, v3, v4, a0, a1, a2, a3, a4, a5, a6, a7, a8, a9, hA, hsr, hns⟩ := hR I r hr
  obtain ⟨sa1, sc1, ba1, bc1, rfl, rfl, rfl, rfl, rfl⟩ := hA.five
  obtain ⟨xs, hxl, hxg, hx1, hx2⟩ := row_read hR
  have hrm := fun cs => rows_more (rs := rs) hxl hx2 hA hsr hns cs
  rw [HRN.out] at hxl
  have hcr := hcs r (List.mem_of_getElem? hr)
  have hbig : ∀ (b : Nd.T), Nd.deep b ≤ 103 ∧ Nd.count b ≤ 503 → (turn rs I b).length ≤ 999 ∧ (∀ q ∈ turn rs I b, Nd.deep q.body ≤ 100000 ∧ Nd.count q.body ≤ 90000) ∧ (rulesF (turn rs I b) 0 (turn rs I b)).length ≤ 100000 := fun b hb => by
    have h1 := turn_small hr (b := b) (D := 103) (N := 503) (fun q hq => by have := hcs q hq; omega) hb
    have h2 := turn_len rs I b
    rw [HRN.out] at h2
    have h3 := rulesF_boundM (turn rs I b) (turn rs I b) 0 (fun q hq => by have := h1 q hq; omega)
    exact ⟨by omega, fun q hq => by have := h1 q hq; omega, by omega⟩
  obtain ⟨K, hK⟩ : ∃ k : Int, (if r.sort = 0 then 5 else 6) = k := ⟨_, rfl⟩
  have hK56 : K = 5 ∨ K = 6 := by rw [← hK]; split <;> simp
  -- the three checks
  have HC1 := Lib.hid (fun (X : World) (g cap : Nat) (hb : Below w.heap.size w X) (cur : Array Value) (hk : Bk X g 44 cur) (hcap : RN + 1 ≤ cap) (hw : RowC w (rs ++ [r]) cur) => show Calls Try.prog 13 #[.agg #[.string nm, .int .i64 o1, .int .i64 o2, .slice (some ⟨g, 0, none⟩) (RN + 1) cap]] X fun e w' => (∃ b1, e = .returned (.slice (some ⟨b1, 0, none⟩) 1 1) ∧ w'.cell? ⟨b1, 0, none⟩ = some (.int .u8 1) ∧ w'.cell? ⟨b1, 1, none⟩ = some (.int .i64 (RN : Int)) ∧ w'.cell? ⟨b1, 2, none⟩ = some (.string r.name)) ∧ Below X.heap.size X w' from by
    have hln : (rs ++ [r]).length = RN + 1 := by rw [List.length_append, HRN.out]; rfl
    have hsmall : ∀ q ∈ rs ++ [r], Nd.deep q.body ≤ 101 ∧ Nd.count q.body ≤ 500 := fun q hq => (List.mem_append.1 hq).elim (hcs q) (fun h => by rw [List.mem_singleton.1 h]; exact hcr)
    have hG : GrV X nm o1 o2 (rs ++ [r]) (.agg #[.string nm, .int .i64 o1, .int .i64 o2, .slice (some ⟨g, 0, none⟩) (RN + 1) cap]) := by
      refine ⟨some ⟨g, 0, none⟩, cap, by rw [hln], hnm, by rw [hln]; omega, ?_⟩
      intro j q hq
      obtain ⟨u0, u1, u2, u3, u4, c0, c1, c2, c3, c4, c5, c6, c7, c8, c9, hA', hs', hn'⟩ := hw j q hq
      refine ⟨g, 0, rfl, u0, u1, u2, u3, u4, ?_, ?_, ?_, ?_, ?_, ?_, ?_, ?_, ?_, ?_, Nd.At.below hb _ hA', hs', hn'⟩ <;> rw [hk.cell, Nat.zero_add] <;> assumption
    refine (Check_any nm o1 o2 (rs ++ [r]) _ X hG ⟨by omega, fun q hq => by have := hsmall q hq; omega⟩ (by have := rulesF_boundM (rs ++ [r]) (rs ++ [r]) 0 (fun q hq => by have := hsmall q hq; omega); omega)).mono ?_
    rintro e w' ⟨⟨pv, rfl, a, rfl, hP⟩, hb'⟩
    rw [chk_twice hc hr, HRN.out] at hP ⊢
    obtain ⟨b1, rfl, c0⟩ := hP 0 _ rfl
    refine ⟨⟨b1, rfl, c0, ?_, ?_⟩, hb'⟩
    · obtain ⟨b', e, c⟩ := hP 1 _ rfl; cases e; exact c
    · obtain ⟨b', e, c⟩ := hP 2 _ rfl; cases e; exact c)
  have HC2 := Lib.hid (fun (X : World) (q g cap : Nat) (bd : Nd.T) (hbd : Nd.deep bd ≤ 103 ∧ Nd.count bd ≤ 503) (hw : RowR X q g (rs.set I { r with body := bd })) (hcap : RN ≤ cap) => show Calls Try.prog 13 #[.agg #[.string nm, .int .i64 o1, .int .i64 o2, .slice (some ⟨g, 0, none⟩) RN cap]] X fun e w' => (∃ pv, e = .returned pv ∧ PrV w' (chk (turn rs I bd)) pv) ∧ Below X.heap.size X w' from by
    have hln := turn_len rs I bd
    rw [HRN.out] at hln
    have hG : GrV X nm o1 o2 (turn rs I bd) (.agg #[.string nm, .int .i64 o1, .int .i64 o2, .slice (some ⟨g, 0, none⟩) RN cap]) := ⟨some ⟨g, 0, none⟩, cap, by rw [hln], hnm, by rw [hln]; omega, by rw [turn_is hr]; exact hw.ruL⟩
    obtain ⟨h1, h2, h3⟩ := hbig bd hbd
    exact Check_any nm o1 o2 (turn rs I bd) _ X hG ⟨h1, h2⟩ h3)
  have HN := Lib.hid (fun hz => chk_none hc hr hK56 (z := ⟨#[0]⟩) hz)
  have HO := Lib.hid (fun m hz => chk_other (turn rs I (bothT r.body (leafT K ⟨#[0]⟩))) (z := ⟨#[0]⟩) (m := m) (by rw [turn_fnd]; exact hz))
  have HSf := Lib.hid (chk_self hc hr)
  rw [hK] at HSf
  have hdb := leaf_small K ⟨#[0]⟩
  have hdc := leaf_small K r.name
  have hb2s := both_small r.body (leafT K ⟨#[0]⟩)
  have hb3s := both_small (leafT K r.name) r.body
  have HSZ := Lib.hid (show (Nd.deep (bothT r.body (leafT K ⟨#[0]⟩)) ≤ 103 ∧ Nd.count (bothT r.body (leafT K ⟨#[0]⟩)) ≤ 503) ∧ (Nd.deep (bothT (leafT K r.name) r.body) ≤ 103 ∧ Nd.count (bothT (leafT K r.name) r.body) ≤ 503) from by omega)
  have HLB0 := Lib.hid (show (chk (turn rs I (bothT (leafT K r.name) r.body))).length ≤ 100001 from by
    have h := (hbig _ HSZ.out.2).2.2
    unfold chk
    rw [List.length_append]
    split
    · simp only [List.length_cons, List.length_nil]; omega
    · simp only [List.length_nil]; omega)
  have HAX := Lib.hid (fun (X : World) (hb : Below w.heap.size w X) (q g : Nat) (hq : w.heap.size ≤ q) (hg : w.heap.size ≤ g) => show AtX (fun k => k ≠ g ∧ k ≠ q) X r.body (.agg #[.int .u8 r.body.kind, .string r.body.name, .string r.body.text, .slice sa1 r.body.set.length sc1, .slice ba1 r.body.subs.length bc1]) from AtX.keep (fun _ h => h) (Stay.below hb) _ (AtX.of (fun k hk => by show k ≠ g ∧ k ≠ q; omega) _ hA))
  have HRW := Lib.hid (fun (X : World) (hb : Below w.heap.size w X) (q g : Nat) (hq : w.heap.size ≤ q) (hg : w.heap.size ≤ g) (cur : Array Value) (hk : Bk X g 44 cur) (hw : RowC w rs cur) => show RowR X q g rs from RowR.of hb hq hg hk hw)
  have HRM := Lib.hid hrm
  have HX2 := Lib.hid hx2
  have HXG := Lib.hid (fun (wx : World) (hb : Below w.heap.size w wx) => show ∀ j u, xs[j]? = some u → wx.cell? ((⟨b, o, none⟩ : Addr).add j) = some u from fun j u h => by
    rw [Go.WideShapes.add_plain]; exact Nd.cell_keeps hb (hxg j u h))
  have HCell := Lib.hid (fun (wx : World) (hb : Below w.heap.size w wx) => (And.intro (Nd.cell_keeps hb a0) (And.intro (Nd.cell_keeps hb a1) (And.intro (Nd.cell_keeps hb a2) (And.intro (Nd.cell_keeps hb a3) (And.intro (Nd.cell_keeps hb a4) (And.intro (Nd.cell_keeps hb a5) (And.intro (Nd.cell_keeps hb a6) (And.intro (Nd.cell_keeps hb a7) (And.intro (Nd.cell_keeps hb a8) (Nd.cell_keeps hb a9)))))))))))
  have HPR := Lib.hid (And.intro hxl (And.intro hx1 (And.intro hrc (And.intro hsm.1 (And.intro hns (And.intro hr hK56))))))
  clear hxg hbig hcs hcr hrm hx2 hrl hc hR hsm hg5 hxl hx1 hA hsr hns a0 a1 a2 a3 a4 a5 a6 a7 a8 a9 hb2s hb3s hdb hdc hr hnm hrc hK56
  go_enter Try.func4, Try.ntmps4
  go_upto_region 3 with (first
    | (go_at_call 5; refine (hGr.out _).mono ?_; rintro e w1 ⟨rfl, hb1⟩; have hB1 : Below w.heap.size w w1 := ((Below.refl _ w).alloc (Nat.le_refl _) _).trans (hb1.mono (by simp)); have gk := (Bk.made w 26 #[.string nm, .int .i64 o1, .int .i64 o2, .slice (some ⟨b, o, none⟩) RN rc]).below hb1 (by simp); have g0 := gk.cell 0; have g1 := gk.cell 1; have g2 := gk.cell 2; have g3 := gk.cell 3; simp at g0 g1 g2 g3)
    | (go_at_call 6; refine (hFi.out _ hB1).mono ?_; rintro e w2 ⟨rfl, hb2⟩; have gk2 := gk.below hb2 gk.lt; have hB2 := hB1.trans (hb2.mono hB1.size); clear g0 g1 g2 g3 hB1 gk; have g0 := gk2.cell 0; have g1 := gk2.cell 1; have g2 := gk2.cell 2; have g3 := gk2.cell 3; simp at g0 g1 g2 g3))
  obtain ⟨m0, m1, m2, m3, m4, m5, m6, m7, m8, m9⟩ := HCell.out w2 hB2
  have hgo : ∀ ob, Below w2.heap.size w2 (w2.alloc ob) := fun ob => (Below.refl _ _).alloc (Nat.le_refl _) ob
  have g0' := Nd.cell_keeps (hgo (.cells #[.string r.name, .int .u8 r.sort, .int .u8 r.body.kind, .string r.body.name, .string r.body.text, .slice sa1 r.body.set.length sc1, .slice ba1 r.body.subs.length bc1, .int .i64 r.p0, .int .i64 r.p1, .int .i64 r.p2] 44)) g0
  have g1' := Nd.cell_keeps (hgo (.cells #[.string r.name, .int .u8 r.sort, .int .u8 r.body.kind, .string r.body.name, .string r.body.text, .slice sa1 r.body.set.length sc1, .slice ba1 r.body.subs.length bc1, .int .i64 r.p0, .int .i64 r.p1, .int .i64 r.p2] 44)) g1
  have g2' := Nd.cell_keeps (hgo (.cells #[.string r.name, .int .u8 r.sort, .int .u8 r.body.kind, .string r.body.name, .string r.body.text, .slice sa1 r.body.set.length sc1, .slice ba1 r.body.subs.length bc1, .int .i64 r.p0, .int .i64 r.p1, .int .i64 r.p2] 44)) g2
  have g3' := Nd.cell_keeps (hgo (.cells #[.string r.name, .int .u8 r.sort, .int .u8 r.body.kind, .string r.body.name, .string r.body.text, .slice sa1 r.body.set.length sc1, .slice ba1 r.body.subs.length bc1, .int .i64 r.p0, .int .i64 r.p1, .int .i64 r.p2] 44)) g3
  clear hgo
  have HGK := Lib.hid gk2
  have HB2 := Lib.hid hB2
  clear gk2 hb2 hB2
  go_wp2_with fail
  obtain ⟨X, hX⟩ : ∃ X, (w2.alloc (.cells #[.string r.name, .int .u8 r.sort, .int .u8 r.body.kind, .string r.body.name, .string r.body.text, .slice sa1 r.body.set.length sc1, .slice ba1 r.body.subs.length bc1, .int .i64 r.p0, .int .i64 r.p1, .int .i64 r.p2] 44)).alloc (.cells #[.string nm, .int .i64 o1, .int .i64 o2, .slice (some ⟨b, o, none⟩) RN rc] 26) = X := ⟨_, rfl⟩
  have hb2X : Below w2.heap.size w2 X := by rw [← hX]; exact ((Below.refl _ _).alloc (Nat.le_refl _) _).alloc (by simp) _
  have hBX : Below w.heap.size w X := HB2.out.trans (hb2X.mono HB2.out.size)
  have hXs : X.heap.size = w2.heap.size + 2 := by rw [← hX]; simp
  have kR : Bk X w2.heap.size 44 #[.string r.name, .int .u8 r.sort, .int .u8 r.body.kind, .string r.body.name, .string r.body.text, .slice sa1 r.body.set.length sc1, .slice ba1 r.body.subs.length bc1, .int .i64 r.p0, .int .i64 r.p1, .int .i64 r.p2] := by rw [← hX]; exact (Bk.made _ _ _).alloc _
  have kH : Bk X (w2.heap.size + 1) 26 #[.string nm, .int .i64 o1, .int .i64 o2, .slice (some ⟨b, o, none⟩) RN rc] := by
    have := Bk.made (w2.alloc (.cells #[.string r.name, .int .u8 r.sort, .int .u8 r.body.kind, .string r.body.name, .string r.body.text, .slice sa1 r.body.set.length sc1, .slice ba1 r.body.subs.length bc1, .int .i64 r.p0, .int .i64 r.p1, .int .i64 r.p2] 44)) 26 #[.string nm, .int .i64 o1, .int .i64 o2, .slice (some ⟨b, o, none⟩) RN rc]
    rw [World.size_alloc, hX] at this
    exact this
  have kA : Bk X w.heap.size 26 #[.string nm, .int .i64 o1, .int .i64 o2, .slice (some ⟨b, o, none⟩) RN rc] := HGK.out.below hb2X HGK.out.lt
  rw [hX, hI]
  clear g0 g1 g2 g3 g0' g1' g2' g3' m0 m1 m2 m3 m4 m5 m6 m7 m8 m9
  have hAw : w.heap.size < w2.heap.size := HGK.out.lt
  generalize hR6 : w2.heap.size = R6 at *
  obtain ⟨HB, hHB⟩ : ∃ n, R6 + 1 = n := ⟨_, rfl⟩
  rw [hHB] at kH ⊢
  have HLE := Lib.hid (And.intro hXs (And.intro hHB (And.intro hAw hBX)))
  have hab : ∀ y, Below X.heap.size X y → Bk y w.heap.size 26 #[.string nm, .int .i64 o1, .int .i64 o2, .slice (some ⟨b, o, none⟩) RN rc] ∧ Bk y R6 44 #[.string r.name, .int .u8 r.sort, .int .u8 r.body.kind, .string r.body.name, .string r.body.text, .slice sa1 r.body.set.length sc1, .slice ba1 r.body.subs.length bc1, .int .i64 r.p0, .int .i64 r.p1, .int .i64 r.p2] ∧ Bk y HB 26 #[.string nm, .int .i64 o1, .int .i64 o2, .slice (some ⟨b, o, none⟩) RN rc] := fun y h => ⟨kA.below h kA.lt, kR.below h kR.lt, kH.below h kH.lt⟩
  have k3 := kA.cell 3
  have r0 := kR.cell 0
  have r1 := kR.cell 1
  have r2 := kR.cell 2
  have r3 := kR.cell 3
  have r4 := kR.cell 4
  have r5 := kR.cell 5
  have r6 := kR.cell 6
  have r7 := kR.cell 7
  have r8 := kR.cell 8
  have r9 := kR.cell 9
  simp at k3 r0 r1 r2 r3 r4 r5 r6 r7 r8 r9
  have HAB := Lib.hid hab
  have HS6 := Lib.hid (fun y (h : Below X.heap.size X y) => show (y.cell? ⟨w.heap.size, 3, none⟩ = some (.slice (some ⟨b, o, none⟩) RN rc) ∧ y.cell? ⟨R6, 0, none⟩ = some (.string r.name) ∧ y.cell? ⟨R6, 1, none⟩ = some (.int .u8 r.sort) ∧ y.cell? ⟨R6, 2, none⟩ = some (.int .u8 r.body.kind) ∧ y.cell? ⟨R6, 3, none⟩ = some (.string r.body.name) ∧ y.cell? ⟨R6, 4, none⟩ = some (.string r.body.text) ∧ y.cell? ⟨R6, 5, none⟩ = some (.slice sa1 r.body.set.length sc1) ∧ y.cell? ⟨R6, 6, none⟩ = some (.slice ba1 r.body.subs.length bc1) ∧ y.cell? ⟨R6, 7, none⟩ = some (.int .i64 r.p0) ∧ y.cell? ⟨R6, 8, none⟩ = some (.int .i64 r.p1) ∧ y.cell? ⟨R6, 9, none⟩ = some (.int .i64 r.p2)) from ⟨Nd.cell_keeps h k3, Nd.cell_keeps h r0, Nd.cell_keeps h r1, Nd.cell_keeps h r2, Nd.cell_keeps h r3, Nd.cell_keeps h r4, Nd.cell_keeps h r5, Nd.cell_keeps h r6, Nd.cell_keeps h r7, Nd.cell_keeps h r8, Nd.cell_keeps h r9⟩)
  have HA1 := Lib.hid (fun Y (h : Below X.heap.size X Y) => app_first (rc := rc) 24 h HPR.out.1 (HXG.out Y (HLE.out.2.2.2.trans (h.mono HLE.out.2.2.2.size))) HPR.out.2.1 (by have := HPR.out.2.2.2.1; omega))
  have HA2 := Lib.hid (fun Y v (z : Nat) (h : Below X.heap.size X Y) (how : Y.ownsRow X.heap.size 44 10 v RN xs) (hz : ∀ j u, (rlV r sa1 r.body.set.length sc1 ba1 r.body.subs.length bc1)[j]? = some u → Y.cell? ((⟨z, 0, none⟩ : Addr).add j) = some u) => app_more 24 h how rfl hz (by simp [rlV, Value.oneCell']) (by have := HPR.out.2.2.2.1; omega))
  have HRM2 := Lib.hid (fun y v (hw : World.ownsRow y X.heap.size 44 10 v (RN + 1) (xs ++ rlV r sa1 r.body.set.length sc1 ba1 r.body.subs.length bc1)) => row_of hw (Nat.succ_pos RN) HRM.out)
  have hzc : ∀ y : World, ∀ j u, (rlV r sa1 r.body.set.length sc1 ba1 r.body.subs.length bc1)[j]? = some u → (y.alloc (.cells #[.string r.name, .int .u8 r.sort, .int .u8 r.body.kind, .string r.body.name, .string r.body.text, .slice sa1 r.body.set.length sc1, .slice ba1 r.body.subs.length bc1, .int .i64 r.p0, .int .i64 r.p1, .int .i64 r.p2] 44)).cell? ((⟨y.heap.size, 0, none⟩ : Addr).add j) = some u := fun y j u hj => by
    have := (Bk.made y 44 #[.string r.name, .int .u8 r.sort, .int .u8 r.body.kind, .string r.body.name, .string r.body.text, .slice sa1 r.body.set.length sc1, .slice ba1 r.body.subs.length bc1, .int .i64 r.p0, .int .i64 r.p1, .int .i64 r.p2]).cell j
    rw [show ((⟨y.heap.size, 0, none⟩ : Addr).add j) = ⟨y.heap.size, j, none⟩ from by simp [Addr.add]; omega, this]
    simpa [rlV] using hj
  have HZC := Lib.hid hzc
  have HZ2 := Lib.hid (fun y1 (h : Below (X.drew.alloc (.cells #[.string r.name, .int .u8 r.sort, .int .u8 r.body.kind, .string r.body.name, .string r.body.text, .slice sa1 r.body.set.length sc1, .slice ba1 r.body.subs.length bc1, .int .i64 r.p0, .int .i64 r.p1, .int .i64 r.p2] 44)).heap.size (X.drew.alloc (.cells #[.string r.name, .int .u8 r.sort, .int .u8 r.body.kind, .string r.body.name, .string r.body.text, .slice sa1 r.body.set.length sc1, .slice ba1 r.body.subs.length bc1, .int .i64 r.p0, .int .i64 r.p1, .int .i64 r.p2] 44)) y1) => show ∀ j u, (rlV r sa1 r.body.set.length sc1 ba1 r.body.subs.length bc1)[j]? = some u → y1.cell? ((⟨X.heap.size, 0, none⟩ : Addr).add j) = some u from fun j u hj => by
    have := hzc X.drew j u hj
    rw [show ((⟨X.drew.heap.size, 0, none⟩ : Addr).add j) = ⟨X.heap.size, j, none⟩ from by simp [Addr.add]; omega] at this
    rw [show ((⟨X.heap.size, 0, none⟩ : Addr).add j) = ⟨X.heap.size, j, none⟩ from by simp [Addr.add]; omega]
    exact Nd.cell_keeps h this)
  have HHB := Lib.hid (fun y (h : Below X.heap.size X y) => show y.cell? ⟨HB, 3, none⟩ = some (.slice (some ⟨b, o, none⟩) RN rc) ∧ y.frozen? ⟨HB, 3, none⟩ = false from ⟨by have := (hab y h).2.2.cell 3; simpa using this, (hab y h).2.2.free 3⟩)
  have HRMo := HRM
  clear HRM
  have HRM := HRM2
  clear hab hzc kR kH kA hX hb2X hBX hXs hHB hAw hR6
  refine wp_cutL (fun a a' w' => (∃ z39 z40 z41 z42 z43 z44 z45 : Value, a' = (((((((a.put (some 39) z39).put (some 40) z40).put (some 41) z41).put (some 42) z42).put (some 43) z43).put (some 44) z44).put (some 45) z45)) ∧ ∃ y2 g cap cur, w' = y2.setCell ⟨HB, 3, none⟩ (.slice (some ⟨g, 0, none⟩) (RN + 1) cap) ∧ Below X.heap.size X y2 ∧ X.heap.size ≤ g ∧ Bk y2 g 44 cur ∧ RN + 1 ≤ cap ∧ RowC w (rs ++ [r]) cur) ?first ?next
  case first =>
    refine region_B (S := fun w' : World => (w'.cell? ⟨w.heap.size, 3, none⟩ = some (.slice (some ⟨b, o, none⟩) RN rc) ∧ w'.cell? ⟨R6, 0, none⟩ = some (.string r.name) ∧ w'.cell? ⟨R6, 1, none⟩ = some (.int .u8 r.sort) ∧ w'.cell? ⟨R6, 2, none⟩ = some (.int .u8 r.body.kind) ∧ w'.cell? ⟨R6, 3, none⟩ = some (.string r.body.name) ∧ w'.cell? ⟨R6, 4, none⟩ = some (.string r.body.text) ∧ w'.cell? ⟨R6, 5, none⟩ = some (.slice sa1 r.body.set.length sc1) ∧ w'.cell? ⟨R6, 6, none⟩ = some (.slice ba1 r.body.subs.length bc1) ∧ w'.cell? ⟨R6, 7, none⟩ = some (.int .i64 r.p0) ∧ w'.cell? ⟨R6, 8, none⟩ = some (.int .i64 r.p1) ∧ w'.cell? ⟨R6, 9, none⟩ = some (.int .i64 r.p2))) 7 (by kernel_rfl) ⟨k3, r0, r1, r2, r3, r4, r5, r6, r7, r8, r9⟩ (fun hSS => ?_)
    show wpAnyB _ _ _ _ _ 7 8 #[false, false, false, false, false, false, false, false] _ _
    refine takeB (i := 0) (d := (some 39)) (v := _) (l' := #[true, false, false, false, false, false, false, false]) (by rw [List.getElem?_toArray]; rfl) rfl (by kernel_rfl) (by kernel_rfl) (by kernel_rfl) (by kernel_rfl) (by kernel_rfl) rfl (fun _ _ _ h => h) (Or.inl ⟨by rfl, fun w' hSw => by (try dsimp only at hSw); go_simp; try with_reducible rfl⟩) hSS ?_
    simp only [Act.put, List.setIfInBounds_toArray, List.set_cons_zero, List.set_cons_succ]
    refine takeB (i := 1) (d := (some 40)) (v := _) (l' := #[true, true, false, false, false, false, false, false]) (by rw [List.getElem?_toArray]; rfl) rfl (by kernel_rfl) (by kernel_rfl) (by kernel_rfl) (by kernel_rfl) (by kernel_rfl) rfl (fun _ _ _ h => h) (Or.inl ⟨by rfl, fun w' hSw => by (try dsimp only at hSw); go_simp; try with_reducible rfl⟩) hSS ?_
    simp only [Act.put, List.setIfInBounds_toArray, List.set_cons_zero, List.set_cons_succ]
    refine takeB (i := 3) (d := (some 42)) (v := _) (l' := #[true, true, false, true, false, false, false, false]) (by rw [List.getElem?_toArray]; rfl) rfl (by kernel_rfl) (by kernel_rfl) (by kernel_rfl) (by kernel_rfl) (by kernel_rfl) rfl (fun _ _ _ h => h) (Or.inl ⟨by rfl, fun w' hSw => by (try dsimp only at hSw); go_simp; try with_reducible rfl⟩) hSS ?_
    simp only [Act.put, List.setIfInBounds_toArray, List.set_cons_zero, List.set_cons_succ]
    refine comeB2 (i := 2) (j := 4) (l1 := #[true, true, true, true, false, false, false, false]) (l2 := #[true, true, false, true, true, false, false, false]) (by rw [List.getElem?_toArray]; rfl) (by rw [List.getElem?_toArray]; rfl) (by kernel_rfl) rfl rfl (fun K' hK => ?_) (fun K' hK => ?_)
    · obtain ⟨v1, y1, hr1, hw1, hb1, hby⟩ := HA1.out X.drew (Below.refl _ _).drew
      refine step_append rfl _ _ 24 rfl _ _ rfl rfl _ _ hr1 ?_
      refine hK.out _ _ (Or.inr (HS6.out y1 hb1)) (fun hOr => ?_)
      replace hSS := hOr.resolve_left (by decide)
      try simp only [Act.put, List.setIfInBounds_toArray, List.set_cons_zero, List.set_cons_succ]
      refine comeB (i := 4) (l' := #[true, true, true, true, true, false, false, false]) (by rw [List.getElem?_toArray]; rfl) (by kernel_rfl) rfl (fun K' hK => ?_)
      go_simp
      refine hK.out _ _ (Or.inr (HS6.out _ (hb1.alloc hb1.size _))) (fun hOr => ?_)
      replace hSS := hOr.resolve_left (by decide)
      try simp only [Act.put, List.setIfInBounds_toArray, List.set_cons_zero, List.set_cons_succ]
      refine comeB (i := 5) (l' := #[true, true, true, true, true, true, false, false]) (by rw [List.getElem?_toArray]; rfl) (by kernel_rfl) rfl (fun K' hK => ?_)
      obtain ⟨v2, y2, hr2, hw2, hb2⟩ := HA2.out _ v1 y1.heap.size (hb1.alloc hb1.size _) (hw1.alloc _) (HZC.out y1)
      obtain ⟨g, cap, cur, rfl, hgl, hgk, hgc, hgr⟩ := HRM.out y2 v2 hw2
      refine step_append rfl _ _ 24 rfl _ _ rfl rfl _ _ hr2 ?_
      refine hK.out _ _ (Or.inr (HS6.out y2 hb2)) (fun hOr => ?_)
      replace hSS := hOr.resolve_left (by decide)
      try simp only [Act.put, List.setIfInBounds_toArray, List.set_cons_zero, List.set_cons_succ]
      refine pureB (i := 6) (d := (some 45)) (v := _) (l' := #[true, true, true, true, true, true, true, false]) (by rw [List.getElem?_toArray]; rfl) rfl (by kernel_rfl) (by kernel_rfl) (by kernel_rfl) (by decide) rfl (fun _ _ _ h => h) (Or.inl ⟨by rfl, fun w' _ => by go_simp; try with_reducible rfl⟩) (Or.inr hSS) ?_
      simp only [Act.put, List.setIfInBounds_toArray, List.set_cons_zero, List.set_cons_succ]
      have hh := HHB.out y2 hb2
      have hh1 := hh.1
      have hh2 := hh.2
      refine comeB (i := 7) (l' := #[true, true, true, true, true, true, true, true]) (by rw [List.getElem?_toArray]; rfl) (by kernel_rfl) rfl (fun K' hK => ?_)
      go_simp
      refine hK.out _ _ (Or.inl rfl) (fun _ => ?_)
      try simp only [Act.put, List.setIfInBounds_toArray, List.set_cons_zero, List.set_cons_succ]
      refine wpAnyB_done (by kernel_rfl) ?_ _
      exact ⟨⟨_, _, _, _, _, _, _, rfl⟩, y2, g, cap, cur, rfl, hb2, hgl, hgk, hgc, hgr⟩
    · go_simp
      refine hK.out _ _ (Or.inr (HS6.out _ ((Below.refl _ _).drew.alloc (Nat.le_refl _) _))) (fun hOr => ?_)
      replace hSS := hOr.resolve_left (by decide)
      try simp only [Act.put, List.setIfInBounds_toArray, List.set_cons_zero, List.set_cons_succ]
      refine comeB (i := 2) (l' := #[true, true, true, true, true, false, false, false]) (by rw [List.getElem?_toArray]; rfl) (by kernel_rfl) rfl (fun K' hK => ?_)
      obtain ⟨v1, y1, hr1, hw1, hb1, hby⟩ := HA1.out _ ((Below.refl _ _).drew.alloc (Nat.le_refl _) _)
      refine step_append rfl _ _ 24 rfl _ _ rfl rfl _ _ hr1 ?_
      refine hK.out _ _ (Or.inr (HS6.out y1 hb1)) (fun hOr => ?_)
      replace hSS := hOr.resolve_left (by decide)
      try simp only [Act.put, List.setIfInBounds_toArray, List.set_cons_zero, List.set_cons_succ]
      refine comeB (i := 5) (l' := #[true, true, true, true, true, true, false, false]) (by rw [List.getElem?_toArray]; rfl) (by kernel_rfl) rfl (fun K' hK => ?_)
      obtain ⟨v2, y2, hr2, hw2, hb2⟩ := HA2.out y1 v1 X.heap.size hb1 hw1 (HZ2.out y1 hby)
      obtain ⟨g, cap, cur, rfl, hgl, hgk, hgc, hgr⟩ := HRM.out y2 v2 hw2
      refine step_append rfl _ _ 24 rfl _ _ rfl rfl _ _ hr2 ?_
      refine hK.out _ _ (Or.inr (HS6.out y2 hb2)) (fun hOr => ?_)
      replace hSS := hOr.resolve_left (by decide)
      try simp only [Act.put, List.setIfInBounds_toArray, List.set_cons_zero, List.set_cons_succ]
      refine pureB (i := 6) (d := (some 45)) (v := _) (l' := #[true, true, true, true, true, true, true, false]) (by rw [List.getElem?_toArray]; rfl) rfl (by kernel_rfl) (by kernel_rfl) (by kernel_rfl) (by decide) rfl (fun _ _ _ h => h) (Or.inl ⟨by rfl, fun w' _ => by go_simp; try with_reducible rfl⟩) (Or.inr hSS) ?_
      simp only [Act.put, List.setIfInBounds_toArray, List.set_cons_zero, List.set_cons_succ]
      have hh := HHB.out y2 hb2
      have hh1 := hh.1
      have hh2 := hh.2
      refine comeB (i := 7) (l' := #[true, true, true, true, true, true, true, true]) (by rw [List.getElem?_toArray]; rfl) (by kernel_rfl) rfl (fun K' hK => ?_)
      go_simp
      refine hK.out _ _ (Or.inl rfl) (fun _ => ?_)
      try simp only [Act.put, List.setIfInBounds_toArray, List.set_cons_zero, List.set_cons_succ]
      refine wpAnyB_done (by kernel_rfl) ?_ _
      exact ⟨⟨_, _, _, _, _, _, _, rfl⟩, y2, g, cap, cur, rfl, hb2, hgl, hgk, hgc, hgr⟩
  case next =>
    rintro a' w' ⟨⟨z39, z40, z41, z42, z43, z44, z45, rfl⟩, y2, g, cap, cur, rfl, hb2, hgl, hgk, hgc, hgr⟩
    simp only [Act.put, List.setIfInBounds_toArray, List.set_cons_zero, List.set_cons_succ]
    -- a rule twice
    obtain ⟨hXs, hHB, hAw, hBX⟩ := HLE.out
    have hne1 : g ≠ HB := by omega
    have hne2 : w.heap.size ≠ HB := by omega
    have hne3 : R6 ≠ HB := by omega
    obtain ⟨hyA, hyR, hyH⟩ := HAB.out y2 hb2
    obtain ⟨Z1, hZ1⟩ : ∃ Z, y2.setCell ⟨HB, 3, none⟩ (.slice (some ⟨g, 0, none⟩) (RN + 1) cap) = Z := ⟨_, rfl⟩
    have zA : Bk Z1 w.heap.size 26 #[.string nm, .int .i64 o1, .int .i64 o2, .slice (some ⟨b, o, none⟩) RN rc] := by rw [← hZ1]; exact hyA.other _ _ hne2
    have zR : Bk Z1 R6 44 #[.string r.name, .int .u8 r.sort, .int .u8 r.body.kind, .string r.body.name, .string r.body.text, .slice sa1 r.body.set.length sc1, .slice ba1 r.body.subs.length bc1, .int .i64 r.p0, .int .i64 r.p1, .int .i64 r.p2] := by rw [← hZ1]; exact hyR.other _ _ hne3
    have zH : Bk Z1 HB 26 #[.string nm, .int .i64 o1, .int .i64 o2, .slice (some ⟨g, 0, none⟩) (RN + 1) cap] := by rw [← hZ1]; exact hyH.set 3 _
    have zg : Bk Z1 g 44 cur := by rw [← hZ1]; exact hgk.other _ _ hne1
    have zB : Below w.heap.size w Z1 := by rw [← hZ1]; exact (hBX.trans (hb2.mono hBX.size)).setCell (by show w.heap.size ≤ HB; omega) _
    rw [hZ1]
    have h0 := zH.cell 0
    have h1 := zH.cell 1
    have h2 := zH.cell 2
    have h3 := zH.cell 3
    simp at h0 h1 h2 h3
    have HCa := Lib.hid (HC1.out Z1 g cap zB cur zg hgc hgr)
    have HS1 := Lib.hid (And.intro zA (And.intro zR (And.intro zH zB)))
    have HXL := Lib.hid (show w.heap.size ≤ HB ∧ HB < Z1.heap.size ∧ w.heap.size < R6 ∧ R6 < HB from ⟨by omega, zH.lt, by omega, by omega⟩)
    clear hZ1 zA zR zH zg zB hyA hyR hyH hb2 hgk hgr hgc hgl hXs hHB hAw hBX k3 r0 r1 r2 r3 r4 r5 r6 r7 r8 r9 HAB HS6 HA1 HA2 HRM HRM2 HZC HZ2 HHB HLE
    go_upto_region 8 with (go_at_call 13; refine (HCa.out).mono ?_; rintro e Z2 ⟨⟨b1, rfl, e0, e1, e2⟩, hb⟩; have HbZ := Lib.hid hb; clear hb)
    have k3 : Z2.cell? ⟨w.heap.size, 3, none⟩ = some (.slice (some ⟨b, o, none⟩) RN rc) := by have := (HS1.out.1.below HbZ.out HS1.out.1.lt).cell 3; simpa using this
    have r0 : Z2.cell? ⟨R6, 0, none⟩ = some (.string r.name) := by have := (HS1.out.2.1.below HbZ.out HS1.out.2.1.lt).cell 0; simpa using this
    clear h0 h1 h2 h3
    refine wp_cutL (fun a a' w' => (∃ z48 z49 z50 z51 z52 z53 z54 z55 z56 z57 z58 z59 z60 z61 : Value, a' = (((((((((((((((a.put (some 48) z48).put (some 49) z49).put (some 50) z50).put (some 51) z51).put (some 52) z52).put (some 53) z53).put (some 54) z54).put (some 55) z55).put (some 56) z56).put (some 57) z57).put (some 58) z58).put (some 59) z59).put (some 60) z60).put (some 61) z61).put (some 62) (.bool false))) ∧ w' = Z2.drew) ?first8 ?next8
    case first8 =>
      refine wp_region_held_drew (S := fun w' : World => (w'.cell? ⟨b1, 0, none⟩ = some (.int .u8 1) ∧ w'.cell? ⟨b1, 1, none⟩ = some (.int .i64 (RN : Int)) ∧ w'.cell? ⟨b1, 2, none⟩ = some (.string r.name) ∧ w'.cell? ⟨w.heap.size, 3, none⟩ = some (.slice (some ⟨b, o, none⟩) RN rc) ∧ w'.cell? ⟨R6, 0, none⟩ = some (.string r.name))) (by kernel_rfl) ⟨e0, e1, e2, k3, r0⟩ (fun hSS => ?_)
      show wpAnyH _ _ _ _ _ 15 #[false, false, false, false, false, false, false, false, false, false, false, false, false, false, false] _ _
      refine take_one (i := 0) (d := (some 48)) (v := _) (l' := #[true, false, false, false, false, false, false, false, false, false, false, false, false, false, false]) (by rw [List.getElem?_toArray]; rfl) rfl (by kernel_rfl) (by kernel_rfl) (by kernel_rfl) rfl (fun _ _ _ h => h) (Or.inl ⟨by rfl, fun w' hSw => by (try dsimp only at hSw); go_simp; try with_reducible rfl⟩) hSS ?_
      simp only [Act.put, List.setIfInBounds_toArray, List.set_cons_zero, List.set_cons_succ]
      refine take_one (i := 1) (d := (some 49)) (v := _) (l' := #[true, true, false, false, false, false, false, false, false, false, false, false, false, false, false]) (by rw [List.getElem?_toArray]; rfl) rfl (by kernel_rfl) (by kernel_rfl) (by kernel_rfl) rfl (fun _ _ _ h => h) (Or.inl ⟨by rfl, fun w' hSw => by (try dsimp only at hSw); go_simp; try with_reducible rfl⟩) hSS ?_
      simp only [Act.put, List.setIfInBounds_toArray, List.set_cons_zero, List.set_cons_succ]
      refine take_one (i := 2) (d := (some 50)) (v := _) (l' := #[true, true, true, false, false, false, false, false, false, false, false, false, false, false, false]) (by rw [List.getElem?_toArray]; rfl) rfl (by kernel_rfl) (by kernel_rfl) (by kernel_rfl) rfl (fun _ _ _ h => h) (Or.inl ⟨by rfl, fun w' hSw => by (try dsimp only at hSw); go_simp; try with_reducible rfl⟩) hSS ?_
      simp only [Act.put, List.setIfInBounds_toArray, List.set_cons_zero, List.set_cons_succ]
      refine take_one (i := 3) (d := (some 51)) (v := _) (l' := #[true, true, true, true, false, false, false, false, false, false, false, false, false, false, false]) (by rw [List.getElem?_toArray]; rfl) rfl (by kernel_rfl) (by kernel_rfl) (by kernel_rfl) rfl (fun _ _ _ h => h) (Or.inl ⟨by rfl, fun w' hSw => by (try dsimp only at hSw); go_simp; try with_reducible rfl⟩) hSS ?_
      simp only [Act.put, List.setIfInBounds_toArray, List.set_cons_zero, List.set_cons_succ]
      refine take_one (i := 4) (d := (some 52)) (v := _) (l' := #[true, true, true, true, true, false, false, false, false, false, false, false, false, false, false]) (by rw [List.getElem?_toArray]; rfl) rfl (by kernel_rfl) (by kernel_rfl) (by kernel_rfl) rfl (fun _ _ _ h => h) (Or.inl ⟨by rfl, fun w' hSw => by (try dsimp only at hSw); go_simp; try with_reducible rfl⟩) hSS ?_
      simp only [Act.put, List.setIfInBounds_toArray, List.set_cons_zero, List.set_cons_succ]
      refine take_one (i := 5) (d := (some 53)) (v := _) (l' := #[true, true, true, true, true, true, false, false, false, false, false, false, false, false, false]) (by rw [List.getElem?_toArray]; rfl) rfl (by kernel_rfl) (by kernel_rfl) (by kernel_rfl) rfl (fun _ _ _ h => h) (Or.inl ⟨by rfl, fun w' hSw => by (try dsimp only at hSw); go_simp; try with_reducible rfl⟩) hSS ?_
      simp only [Act.put, List.setIfInBounds_toArray, List.set_cons_zero, List.set_cons_succ]
      refine take_one (i := 6) (d := (some 54)) (v := _) (l' := #[true, true, true, true, true, true, true, false, false, false, false, false, false, false, false]) (by rw [List.getElem?_toArray]; rfl) rfl (by kernel_rfl) (by kernel_rfl) (by kernel_rfl) rfl (fun _ _ _ h => h) (Or.inl ⟨by rfl, fun w' hSw => by (try dsimp only at hSw); go_simp; try with_reducible rfl⟩) hSS ?_
      simp only [Act.put, List.setIfInBounds_toArray, List.set_cons_zero, List.set_cons_succ]
      refine take_one (i := 7) (d := (some 55)) (v := _) (l' := #[true, true, true, true, true, true, true, true, false, false, false, false, false, false, false]) (by rw [List.getElem?_toArray]; rfl) rfl (by kernel_rfl) (by kernel_rfl) (by kernel_rfl) rfl (fun _ _ _ h => h) (Or.inl ⟨by rfl, fun w' hSw => by (try dsimp only at hSw); go_simp; try with_reducible rfl⟩) hSS ?_
      simp only [Act.put, List.setIfInBounds_toArray, List.set_cons_zero, List.set_cons_succ]
      refine take_one (i := 8) (d := (some 56)) (v := _) (l' := #[true, true, true, true, true, true, true, true, true, false, false, false, false, false, false]) (by rw [List.getElem?_toArray]; rfl) rfl (by kernel_rfl) (by kernel_rfl) (by kernel_rfl) rfl (fun _ _ _ h => h) (Or.inl ⟨by rfl, fun w' hSw => by (try dsimp only at hSw); go_simp; try with_reducible rfl⟩) hSS ?_
      simp only [Act.put, List.setIfInBounds_toArray, List.set_cons_zero, List.set_cons_succ]
      refine take_one (i := 9) (d := (some 57)) (v := _) (l' := #[true, true, true, true, true, true, true, true, true, true, false, false, false, false, false]) (by rw [List.getElem?_toArray]; rfl) rfl (by kernel_rfl) (by kernel_rfl) (by kernel_rfl) rfl (fun _ _ _ h => h) (Or.inl ⟨by rfl, fun w' hSw => by (try dsimp only at hSw); go_simp; try with_reducible rfl⟩) hSS ?_
      simp only [Act.put, List.setIfInBounds_toArray, List.set_cons_zero, List.set_cons_succ]
      refine take_one (i := 10) (d := (some 58)) (v := _) (l' := #[true, true, true, true, true, true, true, true, true, true, true, false, false, false, false]) (by rw [List.getElem?_toArray]; rfl) rfl (by kernel_rfl) (by kernel_rfl) (by kernel_rfl) rfl (fun _ _ _ h => h) (Or.inl ⟨by rfl, fun w' hSw => by (try dsimp only at hSw); go_simp; try with_reducible rfl⟩) hSS ?_
      simp only [Act.put, List.setIfInBounds_toArray, List.set_cons_zero, List.set_cons_succ]
      refine take_one (i := 11) (d := (some 59)) (v := _) (l' := #[true, true, true, true, true, true, true, true, true, true, true, true, false, false, false]) (by rw [List.getElem?_toArray]; rfl) rfl (by kernel_rfl) (by kernel_rfl) (by kernel_rfl) rfl (fun _ _ _ h => h) (Or.inl ⟨by rfl, fun w' hSw => by (try dsimp only at hSw); go_simp; try with_reducible rfl⟩) hSS ?_
      simp only [Act.put, List.setIfInBounds_toArray, List.set_cons_zero, List.set_cons_succ]
      refine take_one (i := 12) (d := (some 60)) (v := _) (l' := #[true, true, true, true, true, true, true, true, true, true, true, true, true, false, false]) (by rw [List.getElem?_toArray]; rfl) rfl (by kernel_rfl) (by kernel_rfl) (by kernel_rfl) rfl (fun _ _ _ h => h) (Or.inl ⟨by rfl, fun w' hSw => by (try dsimp only at hSw); go_simp; try with_reducible rfl⟩) hSS ?_
      simp only [Act.put, List.setIfInBounds_toArray, List.set_cons_zero, List.set_cons_succ]
      refine take_one (i := 13) (d := (some 61)) (v := _) (l' := #[true, true, true, true, true, true, true, true, true, true, true, true, true, true, false]) (by rw [List.getElem?_toArray]; rfl) rfl (by kernel_rfl) (by kernel_rfl) (by kernel_rfl) rfl (fun _ _ _ h => h) (Or.inl ⟨by rfl, fun w' hSw => by (try dsimp only at hSw); go_simp; try with_reducible rfl⟩) hSS ?_
      simp only [Act.put, List.setIfInBounds_toArray, List.set_cons_zero, List.set_cons_succ]
      refine take_one (i := 14) (d := (some 62)) (v := _) (l' := #[true, true, true, true, true, true, true, true, true, true, true, true, true, true, true]) (by rw [List.getElem?_toArray]; rfl) rfl (by kernel_rfl) (by kernel_rfl) (by kernel_rfl) rfl (fun _ _ _ h => h) (Or.inl ⟨by rfl, fun w' hSw => by (try dsimp only at hSw); go_simp; try with_reducible rfl⟩) hSS ?_
      simp only [Act.put, List.setIfInBounds_toArray, List.set_cons_zero, List.set_cons_succ]
      refine wpAnyH_done (by kernel_rfl) ?_ _
      exact ⟨⟨_, _, _, _, _, _, _, _, _, _, _, _, _, _, rfl⟩, rfl⟩
    case next8 =>
      rintro a' w' ⟨⟨z48, z49, z50, z51, z52, z53, z54, z55, z56, z57, z58, z59, z60, z61, rfl⟩, rfl⟩
      simp only [Act.put, List.setIfInBounds_toArray, List.set_cons_zero, List.set_cons_succ]
      have hb3 : Below Z1.heap.size Z1 Z2.drew := HbZ.out.drew
      generalize Z2.drew = Z3 at *
      have yA := HS1.out.1.below hb3 HS1.out.1.lt
      have yR := HS1.out.2.1.below hb3 HS1.out.2.1.lt
      have yH := HS1.out.2.2.1.below hb3 HS1.out.2.2.1.lt
      have yB := HS1.out.2.2.2.trans (hb3.mono HS1.out.2.2.2.size)
      have k3 := yA.cell 3
      simp at k3
      obtain ⟨i0, hi0, hz0, hz1, hz2⟩ := info_parts infoRule
      have hsz3 := hb3.size
      clear e0 e1 e2 r0
      go_upto_if 69 with (at_builtin; refine wpList_append_own _ rfl _ _ 24 rfl Z3.heap.size 44 i0 (.agg #[.string ⟨#[]⟩, .int .u8 0, .int .u8 0, .string ⟨#[]⟩, .string ⟨#[]⟩, .slice none 0 0, .slice none 0 0, .int .i64 0, .int .i64 0, .int .i64 0]) 10 136 Try.underlying24 hi0 hz0 hz1 hz2 rfl (by decide) _ 0 _ rfl (World.ownsRow_nil _ _ _ _) ⟨b, o, none⟩ RN rc xs rfl HPR.out.1 (HXG.out _ yB) HPR.out.2.1 (by have := HPR.out.2.2.2.1; unfold maxLen; omega) (by have := HPR.out.2.2.2.1; omega) (Nat.le_refl _) ?_; intro v' w5 hown hg hnil; obtain ⟨g2, cap2, cur2, rfl, hgl2, hgk2, hgc2, hgr2⟩ := row_of (rs := rs) (W := w) (show w5.ownsRow Z3.heap.size 44 10 v' RN xs by simpa using hown) hne HX2.out; have xA := yA.grown hg (fun e => by cases e); have xR := yR.grown hg (fun e => by cases e); have xH := yH.grown hg (fun e => by cases e); have xB : Below w.heap.size w w5 := yB.grown hg yB.size (fun k e => by cases e); have xf := xH.free 3; have x3 := xH.cell 3; simp at x3; have xr1 := xR.cell 1; simp at xr1; have xr2 : (w5.setCell ⟨HB, 3, none⟩ (.slice (some ⟨g2, 0, none⟩) RN cap2)).cell? ⟨R6, 1, none⟩ = some (.int .u8 r.sort) := (by have := (xR.other ⟨HB, 3, none⟩ (.slice (some ⟨g2, 0, none⟩) RN cap2) hne3).cell 1; simpa using this); clear hown hnil)
      -- a body turned by a name of no rule
      have hle := HXL.out
      have hne4 : g2 ≠ HB := by omega
      obtain ⟨Z5, hZ5⟩ : ∃ Z, w5.setCell ⟨HB, 3, none⟩ (.slice (some ⟨g2, 0, none⟩) RN cap2) = Z := ⟨_, rfl⟩
      have zA : Bk Z5 w.heap.size 26 #[.string nm, .int .i64 o1, .int .i64 o2, .slice (some ⟨b, o, none⟩) RN rc] := by rw [← hZ5]; exact xA.other _ _ hne2
      have zR : Bk Z5 R6 44 #[.string r.name, .int .u8 r.sort, .int .u8 r.body.kind, .string r.body.name, .string r.body.text, .slice sa1 r.body.set.length sc1, .slice ba1 r.body.subs.length bc1, .int .i64 r.p0, .int .i64 r.p1, .int .i64 r.p2] := by rw [← hZ5]; exact xR.other _ _ hne3
      have zH : Bk Z5 HB 26 #[.string nm, .int .i64 o1, .int .i64 o2, .slice (some ⟨g2, 0, none⟩) RN cap2] := by rw [← hZ5]; exact xH.set 3 _
      have zg : Bk Z5 g2 44 cur2 := by rw [← hZ5]; exact hgk2.other _ _ hne4
      have zB : Below w.heap.size w Z5 := by rw [← hZ5]; exact xB.setCell (by show w.heap.size ≤ HB; omega) _
      have zRow := HRW.out Z5 zB HB g2 (by omega) (by omega) cur2 zg hgr2
      have hgl5 : g2 < Z5.heap.size := zg.lt
      have hHl5 : HB < Z5.heap.size := zH.lt
      have hR65 : R6 < Z5.heap.size := zR.lt
      have HG2 := Lib.hid (And.intro hgc2 (And.intro hne4 (show w.heap.size < g2 ∧ R6 ≠ g2 from by omega)))
      rw [hZ5]
      clear hZ5 xA xR xH xB xf x3 xr1 xr2 yA yR yH yB k3 hgk2 hgr2 hgl2 zg hgc2 hb3 hg hsz3
      have HS5 := Lib.hid (And.intro zA (And.intro zR (And.intro zH (And.intro zB zRow))))
      have s1 := zR.cell 1
      simp at s1
      refine wp_cutL (fun a a' w' => Tmz (fun f => #[f 0, f 1, .pointer (some ⟨w.heap.size, 0, none⟩), f 3, f 4, .int .i64 (I : Int), .pointer (some ⟨R6, 0, none⟩), .pointer (some ⟨HB, 0, none⟩), f 8, .int .u8 K, f 10, f 11, f 12, f 13, f 14, f 15, f 16, f 17, f 18, f 19, f 20, f 21, f 22, f 23, f 24, f 25, f 26, f 27, f 28, f 29, f 30, f 31, f 32, f 33, f 34, f 35, f 36, f 37, f 38, f 39, f 40, f 41, f 42, f 43, f 44, f 45, f 46, f 47, f 48, f 49, f 50, f 51, f 52, f 53, f 54, f 55, f 56, f 57, f 58, f 59, f 60, f 61, f 62, f 63, f 64, f 65, f 66, f 67, f 68, f 69, f 70, f 71, f 72, f 73, f 74, f 75, f 76, f 77, f 78, f 79, f 80, f 81, f 82, f 83, f 84, f 85, f 86, f 87, f 88, f 89, f 90, f 91, f 92, f 93, f 94, f 95, f 96, f 97, f 98, f 99, f 100, f 101, f 102, f 103, f 104, f 105, f 106, f 107, f 108, f 109, f 110, f 111, f 112, f 113, f 114, f 115, f 116, f 117, f 118, f 119, f 120, f 121, f 122, f 123, f 124, f 125, f 126, f 127, f 128, f 129, f 130, f 131, f 132, f 133, f 134, f 135, f 136, f 137, f 138, f 139, f 140, f 141, f 142, f 143, f 144]) (w' = Z5) a') ?first9 ?next9
      case first9 =>
        by_cases h0 : r.sort = 0
        · have hKe : K = 5 := by rw [← hK, if_pos h0]
          have qs : (r.sort == 0) = true := by rw [h0]; rfl
          rw [hKe]
          clear h0
          go_wp2_with fail
          first
            | exact tmz_mk rfl (by kernel_rfl)
            | exact tmz_mk trivial (by kernel_rfl)
        · have hKe : K = 6 := by rw [← hK, if_neg h0]
          have qs : (r.sort == 0) = false := by simpa using h0
          rw [hKe]
          clear h0
          go_wp2_with fail
          first
            | exact tmz_mk rfl (by kernel_rfl)
            | exact tmz_mk trivial (by kernel_rfl)
      case next9 =>
        rintro a' w' hTz
        obtain ⟨f, hw, rfl⟩ := tmz_el hTz
        have hw := hw.symm
        subst hw
        clear hTz s1
        have hK8 : 0 ≤ K ∧ K < 256 := by rcases HPR.out.2.2.2.2.2.2 with h | h <;> omega
        have HKK := Lib.hid hK8
        have HKe := Lib.hid hK
        clear hK hK8
        obtain ⟨cs5, ck5, hcs5⟩ := id zRow
        obtain ⟨_, _, _, _, _, c0, c1, c2, c3, c4, c5, c6, c7, c8, c9, _⟩ := hcs5 I r HPR.out.2.2.2.2.2.1
        obtain ⟨N10, hN10⟩ : ∃ X, Z5.alloc (.cells #[.int .u8 r.body.kind, .string r.body.name, .string r.body.text, .slice sa1 r.body.set.length sc1, .slice ba1 r.body.subs.length bc1, .int .u8 K, .string ⟨#[0]⟩, .string ⟨#[]⟩, .slice none 0 0, .slice none 0 0] 40) = X := ⟨_, rfl⟩
        have hbn : Below Z5.heap.size Z5 N10 := by rw [← hN10]; exact (Below.refl _ _).alloc (Nat.le_refl _) _
        have kn : Bk N10 Z5.heap.size 40 #[.int .u8 r.body.kind, .string r.body.name, .string r.body.text, .slice sa1 r.body.set.length sc1, .slice ba1 r.body.subs.length bc1, .int .u8 K, .string ⟨#[0]⟩, .string ⟨#[]⟩, .slice none 0 0, .slice none 0 0] := by rw [← hN10]; exact Bk.made _ _ _
        have hrow10 := zRow.below hbn
        have hput := hrow10.put (r := r) HPR.out.2.2.2.2.2.1 (both_at kn (by show Z5.heap.size ≠ g2 ∧ Z5.heap.size ≠ HB; omega) (HAX.out N10 (zB.trans (hbn.mono zB.size)) HB g2 (by have := HXL.out; omega) (Nat.le_of_lt HG2.out.2.2.1)) (leaf_atX _ N10 HKK.out (n := ⟨#[0]⟩) (by decide)))
        have HPUT := Lib.hid hput
        have ck10 := ck5.below hbn ck5.lt
        have x0 := (ck10.cell _).trans c2
        have x1 := (ck10.cell _).trans c3
        have x2 := (ck10.cell _).trans c4
        have x3 := (ck10.cell _).trans c5
        have x4 := (ck10.cell _).trans c6
        have f0 := ck10.free (I * 10 + 2)
        have f1 := ck10.free (I * 10 + 3)
        have f2 := ck10.free (I * 10 + 4)
        have f3 := ck10.free (I * 10 + 5)
        have f4 := ck10.free (I * 10 + 6)
        have h3 := zH.cell 3
        have r2 := zR.cell 2
        have r3 := zR.cell 3
        have r4 := zR.cell 4
        have r5 := zR.cell 5
        have r6 := zR.cell 6
        simp at h3 r2 r3 r4 r5 r6
        have oth : ∀ {b : Nat} {t : TypeId} {c : Array Value}, Bk Z5 b t c → b ≠ g2 → Bk (Ck.set5 N10 g2 (I * 10 + 2) (.int .u8 1) (.string ⟨#[]⟩) (.string ⟨#[]⟩) (.slice none 0 0) (.slice (some ⟨Z5.heap.size, 0, none⟩) 2 2)) b t c := fun hb hn => (((((hb.below hbn hb.lt).other _ _ hn).other _ _ hn).other _ _ hn).other _ _ hn).other _ _ hn
        have hg2w := Nat.le_of_lt HG2.out.2.2.1
        have hg2r := HG2.out.2.2
        have HS6 := Lib.hid (And.intro (oth zA (by omega)) (And.intro (oth zR (by omega)) (And.intro (oth zH (Ne.symm hne4)) (show Below w.heap.size w (Ck.set5 N10 g2 (I * 10 + 2) (.int .u8 1) (.string ⟨#[]⟩) (.string ⟨#[]⟩) (.slice none 0 0) (.slice (some ⟨Z5.heap.size, 0, none⟩) 2 2)) from ((((((zB.trans (hbn.mono zB.size)).setCell (p := ⟨g2, I * 10 + 2, none⟩) hg2w (.int .u8 1)).setCell (p := ⟨g2, I * 10 + 2 + 1, none⟩) hg2w (.string ⟨#[]⟩)).setCell (p := ⟨g2, I * 10 + 2 + 2, none⟩) hg2w (.string ⟨#[]⟩)).setCell (p := ⟨g2, I * 10 + 2 + 3, none⟩) hg2w (.slice none 0 0)).setCell (p := ⟨g2, I * 10 + 2 + 4, none⟩) hg2w (.slice (some ⟨Z5.heap.size, 0, none⟩) 2 2))))))
        clear oth hput hrow10 ck10 hcs5 ck5 c0 c1 c2 c3 c4 c5 c6 c7 c8 c9 zA zR zH zRow kn hbn
        go_upto_region 15 with (fail)
        try rw [hN10]
        clear hN10 x0 x1 x2 x3 x4 f0 f1 f2 f3 f4 h3 r2 r3 r4 r5 r6
        obtain ⟨Z6, hZ6⟩ : ∃ Z, Ck.set5 N10 g2 (I * 10 + 2) (.int .u8 1) (.string ⟨#[]⟩) (.string ⟨#[]⟩) (.slice none 0 0) (.slice (some ⟨Z5.heap.size, 0, none⟩) 2 2) = Z := ⟨_, rfl⟩
        rw [hZ6] at HS6 HPUT
        unfold Ck.set5 at hZ6
        rw [hZ6]
        clear hZ6
        have h0 := HS6.out.2.2.1.cell 0
        have h1 := HS6.out.2.2.1.cell 1
        have h2 := HS6.out.2.2.1.cell 2
        have h3 := HS6.out.2.2.1.cell 3
        simp at h0 h1 h2 h3
        have HCb := Lib.hid (HC2.out Z6 HB g2 cap2 (bothT r.body (leafT K ⟨#[0]⟩)) HSZ.out.1 HPUT.out HG2.out.1)
        cases hz : fnd rs ⟨#[0]⟩ with
        | some m =>
          have hno := HO.out m hz
          have HFz := Lib.hid (fun X (hb : Below w.heap.size w X) => (hFz.out X hb).mono (R' := fun e w' => e = .returned (.int .i64 (m : Int)) ∧ Below X.heap.size X w') fun e w' ⟨h1, h2⟩ => ⟨by rw [hz] at h1; exact h1, h2⟩)
          have HB6 := Lib.hid HS6.out.2.2.2
          have hm0 : (0 : Int) ≤ (m : Int) := by omega
          have dm0 : decide ((0 : Int) ≤ (m : Int)) = true := decide_eq_true hm0
          clear hz
          generalize chk (turn rs I (bothT r.body (leafT K ⟨#[0]⟩))) = l at *
          cases l with
          | nil =>
            clear hno
            go_wp2_with (first
              | (go_at_call 13; refine (HCb.out).mono ?_; rintro e Z7 ⟨⟨_, rfl, aq, rfl, hq⟩, hb⟩; have HB7 := Lib.hid (HB6.out.trans (hb.mono HB6.out.size)); have a0 := (HS6.out.1.below hb HS6.out.1.lt).cell 0; have a1 := (HS6.out.1.below hb HS6.out.1.lt).cell 1; have a2 := (HS6.out.1.below hb HS6.out.1.lt).cell 2; have a3 := (HS6.out.1.below hb HS6.out.1.lt).cell 3; simp at a0 a1 a2 a3; clear hb hq h0 h1 h2 h3; simp only [List.length_nil])
              | (go_at_call 11; refine (HFz.out _ HB7.out).mono ?_; rintro e Z8 ⟨rfl, hb8⟩; have HB8 := Lib.hid (HB7.out.trans (hb8.mono HB7.out.size)); clear hb8)
              | (go_at_call 7; refine (lives06_true _).mono ?_; rintro e Z9 ⟨rfl, hb9⟩))
            go_ret
            exact ⟨rfl, HB8.out.trans (hb9.mono HB8.out.size)⟩
          | cons p0' l' =>
            have hn0 := hno p0' (by simp)
            obtain ⟨L, hL⟩ : ∃ n, (p0' :: l').length = n := ⟨_, rfl⟩
            have hLp : 0 < L := by rw [← hL]; simp
            have HLL := Lib.hid hL
            have ql0 : ((L : Int) == 0) = false := by rw [beq_eq_false_iff_ne]; omega
            have ql1 : ¬ (L : Int) = 0 := by omega
            have ql2 : (0 : Int) < (L : Int) := by omega
            have hcmp : (p0'.code = 2 ∧ (p0'.code == 2) = true ∧ (p0'.name.toList == [0]) = false ∧ ¬ p0'.name.toList = [0]) ∨ (¬ p0'.code = 2 ∧ (p0'.code == 2) = false) := by
              by_cases hc2 : p0'.code = 2
              · have h5 : ¬ p0'.name.toList = [0] := fun h => hn0 ⟨hc2, by rw [h]; simp [ByteArray.toList_eq]⟩
                exact .inl ⟨hc2, by rw [hc2]; rfl, by simpa using h5, h5⟩
              · exact .inr ⟨hc2, by simpa using hc2⟩
            have HCM := Lib.hid hcmp
            clear hno hn0 hL hcmp
            go_upto_region 16 with (go_at_call 13; refine (HCb.out).mono ?_; rintro e Z7 ⟨⟨_, rfl, aq, rfl, hq⟩, hb⟩; rw [HLL.out]; obtain ⟨b7, rfl, t0⟩ := hq 0 _ rfl; obtain ⟨b7', e7, t1⟩ := hq 1 _ rfl; cases e7; obtain ⟨b7', e7, t2⟩ := hq 2 _ rfl; cases e7; have HB7 := Lib.hid (HB6.out.trans (hb.mono HB6.out.size)); have a0 := (HS6.out.1.below hb HS6.out.1.lt).cell 0; have a1 := (HS6.out.1.below hb HS6.out.1.lt).cell 1; have a2 := (HS6.out.1.below hb HS6.out.1.lt).cell 2; have a3 := (HS6.out.1.below hb HS6.out.1.lt).cell 3; simp at a0 a1 a2 a3; clear hb hq h0 h1 h2 h3)
            rcases HCM.out with ⟨j0, j1, j2, j3⟩ | ⟨j0, j1⟩
            · generalize p0'.code = pc at *
              generalize p0'.rule = pr at *
              generalize p0'.name = pn at *
              subst j0
              go_wp2_with (first
                | (go_at_call 11; refine (HFz.out _ HB7.out).mono ?_; rintro e Z8 ⟨rfl, hb8⟩; have HB8 := Lib.hid (HB7.out.trans (hb8.mono HB7.out.size)); clear hb8)
                | (go_at_call 7; refine (lives06_true _).mono ?_; rintro e Z9 ⟨rfl, hb9⟩))
              all_goals
                go_ret
                exact ⟨rfl, HB8.out.trans (hb9.mono HB8.out.size)⟩
            · generalize p0'.code = pc at *
              generalize p0'.rule = pr at *
              generalize p0'.name = pn at *
              go_wp2_with (first
                | (go_at_call 11; refine (HFz.out _ HB7.out).mono ?_; rintro e Z8 ⟨rfl, hb8⟩; have HB8 := Lib.hid (HB7.out.trans (hb8.mono HB7.out.size)); clear hb8)
                | (go_at_call 7; refine (lives06_true _).mono ?_; rintro e Z9 ⟨rfl, hb9⟩))
              all_goals
                go_ret
                exact ⟨rfl, HB8.out.trans (hb9.mono HB8.out.size)⟩
        | none =>
          obtain ⟨rest, hrest⟩ := HN.out hz
          rw [hrest] at HCb
          obtain ⟨L, hL⟩ : ∃ n, rest.length + 1 = n := ⟨_, rfl⟩
          have hLp : 0 < L := by omega
          have HLL := Lib.hid (show (({ code := 2, rule := (I : Int), name := ⟨#[0]⟩ } : Pr) :: rest).length = L from by rw [← hL]; rfl)
          have ql0 : ((L : Int) == 0) = false := by rw [beq_eq_false_iff_ne]; omega
          have ql1 : ¬ (L : Int) = 0 := by omega
          have ql2 : (0 : Int) < (L : Int) := by omega
          have HB6 := Lib.hid HS6.out.2.2.2
          clear hL hrest hz
          go_upto_region 16 with (go_at_call 13; refine (HCb.out).mono ?_; rintro e Z7 ⟨⟨_, rfl, aq, rfl, hq⟩, hb⟩; rw [HLL.out]; obtain ⟨b7, rfl, t0⟩ := hq 0 _ rfl; obtain ⟨b7', e7, t1⟩ := hq 1 _ rfl; cases e7; obtain ⟨b7', e7, t2⟩ := hq 2 _ rfl; cases e7; have HbZ7 := Lib.hid hb; have HB7 := Lib.hid (HB6.out.trans (hb.mono HB6.out.size)); clear hb hq h0 h1 h2 h3; dsimp only at t0 t1 t2)
          go_upto_region 18 with fail
          clear t0 t1 t2 ql0 ql1 ql2 hLp
          have hr8 : (rs.set I { r with body := bothT r.body (leafT K ⟨#[0]⟩) })[I]? = some { r with body := bothT r.body (leafT K ⟨#[0]⟩) } := by
            rw [List.getElem?_set_self (by rw [HRN.out]; exact hIN)]
          have yA := HS6.out.1.below HbZ7.out HS6.out.1.lt
          have yR := HS6.out.2.1.below HbZ7.out HS6.out.2.1.lt
          have yH := HS6.out.2.2.1.below HbZ7.out HS6.out.2.2.1.lt
          have yB := HB7.out
          have yRow := HPUT.out.below HbZ7.out
          obtain ⟨cs7, ck7, hcs7⟩ := id yRow
          obtain ⟨_, _, _, _, _, c0, c1, c2, c3, c4, c5, c6, c7, c8, c9, _⟩ := hcs7 I _ hr8
          have hgl7 : g2 < Z7.heap.size := ck7.lt
          have hHl7 : HB < Z7.heap.size := yH.lt
          have hRl7 : R6 < Z7.heap.size := yR.lt
          have hAl7 : w.heap.size < Z7.heap.size := yA.lt
          obtain ⟨N11, hN11⟩ : ∃ X, Z7.alloc (.cells #[.int .u8 K, .string r.name, .string ⟨#[]⟩, .slice none 0 0, .slice none 0 0, .int .u8 r.body.kind, .string r.body.name, .string r.body.text, .slice sa1 r.body.set.length sc1, .slice ba1 r.body.subs.length bc1] 40) = X := ⟨_, rfl⟩
          have hbn : Below Z7.heap.size Z7 N11 := by rw [← hN11]; exact (Below.refl _ _).alloc (Nat.le_refl _) _
          have kn : Bk N11 Z7.heap.size 40 #[.int .u8 K, .string r.name, .string ⟨#[]⟩, .slice none 0 0, .slice none 0 0, .int .u8 r.body.kind, .string r.body.name, .string r.body.text, .slice sa1 r.body.set.length sc1, .slice ba1 r.body.subs.length bc1] := by rw [← hN11]; exact Bk.made _ _ _
          have hput := (yRow.below hbn).put hr8 (both_at kn (by show Z7.heap.size ≠ g2 ∧ Z7.heap.size ≠ HB; omega) (leaf_atX _ N11 HKK.out (n := r.name) HPR.out.2.2.2.2.1) (HAX.out N11 (yB.trans (hbn.mono yB.size)) HB g2 (by have := HXL.out; omega) (Nat.le_of_lt HG2.out.2.2.1)))
          rw [List.set_set] at hput
          have HPUT7 := Lib.hid hput
          have ck11 := ck7.below hbn ck7.lt
          have x0 := (ck11.cell _).trans c2
          have x1 := (ck11.cell _).trans c3
          have x2 := (ck11.cell _).trans c4
          have x3 := (ck11.cell _).trans c5
          have x4 := (ck11.cell _).trans c6
          have f0 := ck11.free (I * 10 + 2)
          have f1 := ck11.free (I * 10 + 3)
          have f2 := ck11.free (I * 10 + 4)
          have f3 := ck11.free (I * 10 + 5)
          have f4 := ck11.free (I * 10 + 6)
          have h3 := yH.cell 3
          have r0 := yR.cell 0
          have r2 := yR.cell 2
          have r3 := yR.cell 3
          have r4 := yR.cell 4
          have r5 := yR.cell 5
          have r6 := yR.cell 6
          simp at h3 r0 r2 r3 r4 r5 r6
          have oth : ∀ {b : Nat} {t : TypeId} {c : Array Value}, Bk Z7 b t c → b ≠ g2 → Bk (Ck.set5 N11 g2 (I * 10 + 2) (.int .u8 1) (.string ⟨#[]⟩) (.string ⟨#[]⟩) (.slice none 0 0) (.slice (some ⟨Z7.heap.size, 0, none⟩) 2 2)) b t c := fun hb hn => (((((hb.below hbn hb.lt).other _ _ hn).other _ _ hn).other _ _ hn).other _ _ hn).other _ _ hn
          have hg2v := Nat.le_of_lt HG2.out.2.2.1
          have HS8 := Lib.hid (And.intro (oth yH (Ne.symm hne4)) (show Below w.heap.size w (Ck.set5 N11 g2 (I * 10 + 2) (.int .u8 1) (.string ⟨#[]⟩) (.string ⟨#[]⟩) (.slice none 0 0) (.slice (some ⟨Z7.heap.size, 0, none⟩) 2 2)) from (((((yB.trans (hbn.mono yB.size)).setCell (p := ⟨g2, I * 10 + 2, none⟩) hg2v (.int .u8 1)).setCell (p := ⟨g2, I * 10 + 2 + 1, none⟩) hg2v (.string ⟨#[]⟩)).setCell (p := ⟨g2, I * 10 + 2 + 2, none⟩) hg2v (.string ⟨#[]⟩)).setCell (p := ⟨g2, I * 10 + 2 + 3, none⟩) hg2v (.slice none 0 0)).setCell (p := ⟨g2, I * 10 + 2 + 4, none⟩) hg2v (.slice (some ⟨Z7.heap.size, 0, none⟩) 2 2)))
          clear oth hput ck11 hcs7 ck7 c0 c1 c2 c3 c4 c5 c6 c7 c8 c9 yA yR yH yB yRow kn hbn hr8
          go_upto_region 19 with (fail)
          clear hN11 x0 x1 x2 x3 x4 f0 f1 f2 f3 f4 h3 r0 r2 r3 r4 r5 r6
          obtain ⟨Z8, hZ8⟩ : ∃ Z, Ck.set5 N11 g2 (I * 10 + 2) (.int .u8 1) (.string ⟨#[]⟩) (.string ⟨#[]⟩) (.slice none 0 0) (.slice (some ⟨Z7.heap.size, 0, none⟩) 2 2) = Z := ⟨_, rfl⟩
          rw [hZ8] at HS8 HPUT7
          unfold Ck.set5 at hZ8
          rw [hZ8]
          clear hZ8
          have h0 := HS8.out.1.cell 0
          have h1 := HS8.out.1.cell 1
          have h2 := HS8.out.1.cell 2
          have h3 := HS8.out.1.cell 3
          simp at h0 h1 h2 h3
          have HCc := Lib.hid (HC2.out Z8 HB g2 cap2 (bothT (leafT K r.name) r.body) HSZ.out.2 HPUT7.out HG2.out.1)
          have HB8 := Lib.hid HS8.out.2
          generalize chk (turn rs I (bothT (leafT K r.name) r.body)) = l at *
          obtain ⟨L', hL'⟩ : ∃ n, l.length = n := ⟨_, rfl⟩
          have HLM := Lib.hid hL'
          have HLB := Lib.hid (show L' ≤ 100001 from by rw [← hL']; exact HLB0.out)
          clear hL'
          go_upto_region 20 with (go_at_call 13; refine (HCc.out).mono ?_; rintro e Z9 ⟨⟨_, rfl, aq, rfl, hq⟩, hb⟩; rw [HLM.out]; have HB9 := Lib.hid (HB8.out.trans (hb.mono HB8.out.size)); clear hb h0 h1 h2 h3)
          have HQ := Lib.hid (fun (wx : World) (hb : Below Z9.heap.size Z9 wx) (j : Nat) (p : Pr) (hp : l[j]? = some p) => show ∃ bq, aq = some ⟨bq, 0, none⟩ ∧ wx.cell? ⟨bq, j * 3, none⟩ = some (.int .u8 p.code) ∧ wx.cell? ⟨bq, j * 3 + 1, none⟩ = some (.int .i64 p.rule) from by
            obtain ⟨b1, e1, g1⟩ := hq _ _ (flatP_get hp).1
            obtain ⟨b2, e2, g2⟩ := hq _ _ (flatP_get hp).2
            rw [e1] at e2
            cases e2
            exact ⟨b1, e1, Nd.cell_keeps hb g1, Nd.cell_keeps hb g2⟩)
          clear hq
          go_wp2_with fail
          go_loopw [12] (fun i wr => ∃ q : Nat, i = .int .i64 q ∧ (∀ j p, j < q → l[j]? = some p → ¬ (p.rule = (I : Int) ∧ (p.code = 4 ∨ p.code = 5))) ∧ q ≤ L' ∧ Hid (Below Z9.heap.size Z9 wr)) (fun i _ => L' - (intOf i).toNat)
          case atStart => exact ⟨0, rfl, fun j p h => absurd h (Nat.not_lt_zero _), Nat.zero_le _, Lib.hid (Below.refl _ _)⟩
          case round =>
            obtain ⟨q, rfl, hno, hqL, hBq⟩ := hrel
            have hlt : q < L' := by
              obtain ⟨p, hp, hpI⟩ := HSf.out
              obtain ⟨j, hj, hjp⟩ := List.mem_iff_getElem.1 hp
              have hjl : j < L' := by rw [← HLM.out]; exact hj
              by_cases h : j < q
              · exact absurd hpI (hno j p h (by rw [List.getElem?_eq_getElem hj, hjp]))
              · omega
            have hLb := HLB.out
            obtain ⟨p, hp⟩ : ∃ p, l[q]? = some p := ⟨_, List.getElem?_eq_getElem (by rw [HLM.out]; exact hlt)⟩
            obtain ⟨bq, rfl, t0, t1⟩ := HQ.out wr hBq.out q p hp
            have HBw := Lib.hid (HB9.out.trans (hBq.out.mono HB9.out.size))
            have HBq := hBq
            have d3 : decide (q < L') = true := by rw [decide_eq_true_iff]; exact hlt
            have p1 : (q : Int) < (L' : Int) := by omega
            have hnx : ¬ (p.rule = (I : Int) ∧ (p.code = 4 ∨ p.code = 5)) → ∀ j p', j < q + 1 → l[j]? = some p' → ¬ (p'.rule = (I : Int) ∧ (p'.code = 4 ∨ p'.code = 5)) := fun h j p' hj hp' => by
              by_cases e : j = q
              · subst e
                rw [hp] at hp'
                cases hp'
                exact h
              · exact hno j p' (by omega) hp'
            have HNX := Lib.hid hnx
            clear hBq hno hnx hp
            generalize p.rule = pr at *
            generalize p.code = pc at *
            by_cases e1 : pr = (I : Int)
            · subst e1
              have hII : ((I : Int) == (I : Int)) = true := by simp
              by_cases e4 : pc = 4
              · subst e4
                clear HNX
                go_wp2_with (first | (go_at_call 7; refine (lives06_true _).mono ?_; rintro e Zl ⟨rfl, hbl⟩))
                go_ret
                exact ⟨rfl, HBw.out.trans (hbl.mono HBw.out.size)⟩
              · by_cases e5 : pc = 5
                · subst e5
                  clear HNX e4
                  go_wp2_with (first | (go_at_call 7; refine (lives06_true _).mono ?_; rintro e Zl ⟨rfl, hbl⟩))
                  go_ret
                  exact ⟨rfl, HBw.out.trans (hbl.mono HBw.out.size)⟩
                · have hno' := HNX.out (fun h => by rcases h.2 with h | h; exact e4 h; exact e5 h)
                  have b4 : (pc == 4) = false := by simpa using e4
                  have b5 : (pc == 5) = false := by simpa using e5
                  clear HNX
                  have HNO := Lib.hid hno'
                  clear hno'
                  go_wp2_with fail
                  exact ⟨⟨q + 1, by go_num, HNO.out, by omega, HBq⟩, by simp [intOf]; omega⟩
            · have hno' := HNX.out (fun h => e1 h.1)
              have b1 : (pr == (I : Int)) = false := by simpa using e1
              clear HNX
              have HNO := Lib.hid hno'
              clear hno'
              go_wp2_with fail
              exact ⟨⟨q + 1, by go_num, HNO.out, by omega, HBq⟩, by simp [intOf]; omega⟩
end Go.Proofs.Ythlfahghoinocaa
