/- NullsGrow: the walk. -/
import Derived.Test.YtclgidojpokfjaaNuX
import Derived.Test.YtclgidojpokfjaaNuW
import Derived.Deep.RegionLaw
import Derived.Deep.RegionHeldLaw
import Derived.Deep.RegionHeld3
import Derived.RegionTactic
namespace Go.Proofs.Ytclgidojpokfjaa
open Go Go.RowKit Nu
set_option maxRecDepth 100000

theorem kcA {w : World} {a : Addr} {v : Value} (o : Obj) (h : w.cell? a = some v) : (w.alloc o).cell? a = some v := by obtain ⟨b, i, s⟩ := a; obtain rfl := World.cell?_spot h; exact Nd.cell_keeps ((Below.refl _ _).alloc (Nat.le_refl _) _) h
theorem kcD {w : World} {a : Addr} {v : Value} (h : w.cell? a = some v) : w.drew.cell? a = some v := h
theorem kcS {w : World} {p a : Addr} {u v : Value} (hne : p.block ≠ a.block) (h : w.cell? a = some v) : (w.setCell p u).cell? a = some v := by rw [World.cell?_setCell_far _ _ _ _ hne]; exact h
set_option maxHeartbeats 4000000 in
theorem Grow_many (nm : ByteArray) (o1 o2 : Int) (rs : List Nu.Rl) (v : Value) (at_ : Int) (w : World) (hG : GrV w nm o1 o2 rs v) (ha : 0 ≤ at_ ∧ at_ < 256) (hg5 : g5 nm rs = false) (hne : 0 < rs.length) :
    Calls Try.prog 4 #[v, .int .u8 at_] w fun e w' => e = .returned (.bool true) ∧ Below w.heap.size w w' := by
  have hsm := small_of hg5
  have hGr := Lib.hid (fun o => (Great5_any nm o1 o2 rs v (w.alloc o) (hG.below ((Below.refl _ w).alloc (Nat.le_refl _) o))).mono (R' := fun e w' => e = .returned (.bool false) ∧ Below (w.alloc o).heap.size (w.alloc o) w') (by rintro e w' ⟨rfl, hb⟩; exact ⟨by rw [hg5], hb⟩))
  have hcs : ∀ r ∈ rs, Nd.deep r.body ≤ 101 ∧ Nd.count r.body ≤ 500 := fun r hr => ⟨(hsm.2.1 r hr).1, Nat.le_trans (count_le_sum rs r hr) hsm.2.2.1⟩
  have hEm := Lib.hid (fun (wx : World) (hb : Below w.heap.size w wx) => Empty_any nm o1 o2 rs v wx (hG.below hb) ⟨by omega, fun r hr => by have := hcs r hr; omega⟩)
  obtain ⟨ra, rc, rfl, hnm, hrc, hR⟩ := hG
  obtain ⟨RN, hRN⟩ : ∃ k, rs.length = k := ⟨_, rfl⟩
  have HRN := Lib.hid hRN
  rw [hRN] at hrc hne hEm hGr hsm ⊢
  have n1 : (RN : Int) ≤ 9223372036854775807 := by omega
  have d0 : ((RN : Int) == 0) = false := by simp; omega
  have d1 : ¬ ((RN : Int) = 0) := by omega
  clear hRN
  obtain ⟨I, hI⟩ : ∃ I : Nat, at_ % (RN : Int) = (I : Int) := ⟨(at_ % (RN : Int)).toNat, by have := Int.emod_nonneg at_ (b := (RN : Int)) (by omega); omega⟩
  have hIN : I < RN := by have := Int.emod_lt_of_pos at_ (b := (RN : Int)) (by omega); omega
  have p0 : (I : Int) < (RN : Int) := by omega
  obtain ⟨r, hr⟩ : ∃ r, rs[I]? = some r := ⟨_, List.getElem?_eq_getElem (by rw [HRN.out]; exact hIN)⟩
  obtain ⟨b, o, rfl, v0, v1, v2, v3, v4, _, _, a0, a1, a2, a3, a4, _, _, _, hA, _⟩ := hR I r hr
  obtain ⟨sa1, sc1, ba1, bc1, rfl, rfl, rfl, rfl, rfl⟩ := hA.five
  obtain ⟨xs, hxl, hxg, hx1, hx2⟩ := row_read hR
  obtain ⟨i0, hi, hz0, hz1, hz2⟩ := info_parts infoRule
  rw [HRN.out] at hxl
  have hxgH := Lib.hid (fun (wx : World) (hb : Below w.heap.size w wx) => show ∀ j u, xs[j]? = some u → wx.cell? ((⟨b, o, none⟩ : Addr).add j) = some u from fun j u h => by
    rw [Go.WideShapes.add_plain]; exact Nd.cell_keeps hb (hxg j u h))
  go_enter Try.func4, Try.ntmps4
  go_wp2_with (first
    | (go_at_call 5; refine (hGr.out _).mono ?_; rintro e w1 ⟨rfl, hb1⟩; have hB1 : Below w.heap.size w w1 := ((Below.refl _ w).alloc (Nat.le_refl _) _).trans (hb1.mono (by simp)); have gk := (Bk.made w 26 #[.string nm, .int .i64 o1, .int .i64 o2, .slice (some ⟨b, o, none⟩) RN rc]).below hb1 (by simp); have g0 := gk.cell 0; have g1 := gk.cell 1; have g2 := gk.cell 2; have g3 := gk.cell 3; simp at g0 g1 g2 g3)
    | (go_at_call 7; have t := hI; refine (hEm.out _ hB1).mono ?_; rintro e w2 ⟨⟨eb, rfl, hk2, hlo2⟩, hb2⟩; have gk2 := gk.below hb2 gk.lt; have hB2 := hB1.trans (hb2.mono hB1.size); have lw2 : w.heap.size < w2.heap.size := gk2.lt; clear g0 g1 g2 g3 hB1 gk; have g0 := gk2.cell 0; have g1 := gk2.cell 1; have g2 := gk2.cell 2; have g3 := gk2.cell 3; simp at g0 g1 g2 g3)
    | (at_builtin; refine wpList_append_own _ rfl _ _ 24 rfl (w2.heap.size + 1) 43 i0 (.agg #[.string ⟨#[]⟩, .int .u8 0, .int .u8 0, .string ⟨#[]⟩, .string ⟨#[]⟩, .slice none 0 0, .slice none 0 0, .int .i64 0, .int .i64 0, .int .i64 0]) 10 136 Try.underlying24 hi hz0 hz1 hz2 rfl (by decide) _ 0 _ rfl (nil_row _ _) ⟨b, o, none⟩ RN rc xs rfl hxl (hxgH.out _ (hB2.alloc (Nat.le_of_lt lw2) _)) hx1 (by unfold maxLen; omega) (by omega) (by simp) ?_; intro v' w5 hown hg hnil
       obtain ⟨g, cap, cur, rfl, hgb, hck, hcap, hrow⟩ := row_got hown hne hx2
       have hk5 := (hk2.alloc (.cells #[.string nm, .int .i64 o1, .int .i64 o2, .slice (some ⟨b, o, none⟩) RN rc] 26)).grown hg (fun e => by cases e)
       have gk5 := (gk2.alloc (.cells #[.string nm, .int .i64 o1, .int .i64 o2, .slice (some ⟨b, o, none⟩) RN rc] 26)).grown hg (fun e => by cases e)
       have hk6 := (Bk.made w2 26 #[.string nm, .int .i64 o1, .int .i64 o2, .slice (some ⟨b, o, none⟩) RN rc]).grown hg (fun e => by cases e)
       have hB5 : Below w.heap.size w w5 := (hB2.alloc (Nat.le_of_lt lw2) _).grown hg (by simp; omega) (fun k e => by cases e)
       clear g0 g1 g2 g3 hg hnil hown hB2
       have g0 := gk5.cell 0; have g1 := gk5.cell 1; have g2 := gk5.cell 2; have g3 := gk5.cell 3; simp at g0 g1 g2 g3
       have q0 := hk6.cell 0; have q1 := hk6.cell 1; have q2 := hk6.cell 2; have q3 := hk6.cell 3; have qf := hk6.free 3; simp at q0 q1 q2 q3))
  have ne1 : w.heap.size ≠ w2.heap.size := by omega
  have ne2 : g ≠ w2.heap.size := by omega
  have ne3 : g ≠ w.heap.size := by omega
  have heb : eb < w2.heap.size := hk2.lt
  have ne4 : g ≠ eb := by omega
  have ne5 : eb ≠ w2.heap.size := by omega
  have lb : b < w.heap.size := World.block_lt_of_cell? _ _ a0
  have ne6 : g ≠ b := by omega
  obtain ⟨W6, hW6⟩ : ∃ W, w5.setCell ⟨w2.heap.size, 3, none⟩ (.slice (some ⟨g, 0, none⟩) RN cap) = W := ⟨_, rfl⟩
  have B6 : Below w.heap.size w W6 := by rw [← hW6]; exact hB5.setCell (by simp; omega) _
  have gk6 : Bk W6 w.heap.size 26 #[.string nm, .int .i64 o1, .int .i64 o2, .slice (some ⟨b, o, none⟩) RN rc] := by rw [← hW6]; exact gk5.other _ _ (by simpa using ne1)
  have hk7 : Bk W6 w2.heap.size 26 #[.string nm, .int .i64 o1, .int .i64 o2, .slice (some ⟨g, 0, none⟩) RN cap] := by rw [← hW6]; exact hk6.set 3 _
  have ck6 : Bk W6 g 43 cur := by rw [← hW6]; exact hck.other _ _ (by simpa using ne2)
  have ek6 : Bk W6 eb 4 (bools (emp rs)) := by rw [← hW6]; exact hk5.other _ _ (by simpa using ne5)
  rw [hW6]
  generalize w2.heap.size = hb at *
  clear hW6 hk2 hlo2 gk2 hb2 hk5 gk5 hk6 hck hB5 g0 g1 g2 g3 q0 q1 q2 q3 qf
  have g3 := gk6.cell 3
  have q3 := hk7.cell 3
  have b0 := Nd.cell_keeps B6 a0
  have b1 := Nd.cell_keeps B6 a1
  have b2 := Nd.cell_keeps B6 a2
  have b3 := Nd.cell_keeps B6 a3
  have b4 := Nd.cell_keeps B6 a4
  simp at g3 q3
  clear hI
  obtain ⟨x0, x1, x2, x3, x4, _, _, y0, y1, y2, y3, y4, _, _, _, _, _⟩ := hrow I r hr
  have l1 := gk6.lt
  have l2 := hk7.lt
  have l3 := ck6.lt
  have l4 : b < W6.heap.size := by omega
  have s0 := ck6.cell (I * 10 + 2)
  have s1 := ck6.cell (I * 10 + 3)
  have s2 := ck6.cell (I * 10 + 4)
  have s3 := ck6.cell (I * 10 + 5)
  have s4 := ck6.cell (I * 10 + 6)
  rw [y0] at s0
  rw [y1] at s1
  rw [y2] at s2
  rw [y3] at s3
  rw [y4] at s4
  have f0 := ck6.free (I * 10 + 2)
  have f1 := ck6.free (I * 10 + 3)
  have f2 := ck6.free (I * 10 + 4)
  have f3 := ck6.free (I * 10 + 5)
  have f4 := ck6.free (I * 10 + 6)
  go_region_held3 (fun w' => w'.cell? ⟨w.heap.size, 3, none⟩ = some (.slice (some ⟨b, o, none⟩) RN rc) ∧ w'.cell? ⟨hb, 3, none⟩ = some (.slice (some ⟨g, 0, none⟩) RN cap) ∧ w'.cell? ⟨b, o + I * 10 + 2, none⟩ = some (.int .u8 r.body.kind) ∧ w'.cell? ⟨b, o + I * 10 + 3, none⟩ = some (.string r.body.name) ∧ w'.cell? ⟨b, o + I * 10 + 4, none⟩ = some (.string r.body.text) ∧ w'.cell? ⟨b, o + I * 10 + 5, none⟩ = some (.slice sa1 r.body.set.length sc1) ∧ w'.cell? ⟨b, o + I * 10 + 6, none⟩ = some (.slice ba1 r.body.subs.length bc1))
    (first | (go_keep; done)) (fail)
  obtain ⟨W9, hW9⟩ : ∃ W, ((((((W6.setCell ⟨g, I * 10 + 2, none⟩ (.int .u8 0)).setCell ⟨g, I * 10 + 2 + 1, none⟩ (.string ⟨#[]⟩)).setCell ⟨g, I * 10 + 2 + 2, none⟩ (.string ⟨#[]⟩)).setCell ⟨g, I * 10 + 2 + 3, none⟩ (.slice none 0 0)).setCell ⟨g, I * 10 + 2 + 4, none⟩ (.slice (some ⟨W6.heap.size, 0, none⟩) 2 2)).alloc
      (.cells #[.int .u8 r.body.kind, .string r.body.name, .string r.body.text, .slice sa1 r.body.set.length sc1, .slice ba1 r.body.subs.length bc1, .int .u8 1, .string ⟨#[]⟩, .string ⟨#[]⟩, .slice none 0 0, .slice none 0 0] 39)).drew = W := ⟨_, rfl⟩
  rw [hW9]
  obtain ⟨B9, ck9, nk9, oth9⟩ := put_more (w := w) hW9 B6 (by omega) ck6
  have gk9 := oth9 _ _ _ (Ne.symm ne3) gk6
  have hk9 := oth9 _ _ _ (Ne.symm ne2) hk7
  have ek9 := oth9 _ _ _ (Ne.symm ne4) ek6
  have A9 := more_at (Nd.At.below B9 _ hA) nk9
  have row9 := (RowC.below B9 hrow).turn hr A9
  have htl : (Nu.turn rs I (moreT r.body)).length = RN := by rw [turn_len, HRN.out]
  have hsT : ∀ q ∈ Nu.turn rs I (moreT r.body), Nd.deep q.body ≤ 102 ∧ Nd.count q.body ≤ 502 := turn_small hr (fun q hq => by have := hcs q hq; omega) (more_small (by have := hcs r (List.mem_of_getElem? hr); omega) (by omega))
  have hG9 : GrV W9 nm o1 o2 (Nu.turn rs I (moreT r.body)) (.agg #[.string nm, .int .i64 o1, .int .i64 o2, .slice (some ⟨g, 0, none⟩) RN cap]) := ⟨some ⟨g, 0, none⟩, cap, by rw [htl], hnm, by rw [htl]; omega, RuL_row ck9 row9⟩
  have hE9 := Empty_any nm o1 o2 _ _ W9 hG9 ⟨by omega, fun q hq => by have := hsT q hq; omega⟩
  rw [htl] at hE9
  replace hE9 := Lib.hid hE9
  clear hW9 b0 b1 b2 b3 b4 s0 s1 s2 s3 s4 f0 f1 f2 f3 f4 g3 q3 y0 y1 y2 y3 y4 l1 l2 l3 l4 gk6 hk7 ck6 ek6 hG9
  have q0 := hk9.cell 0
  have q1 := hk9.cell 1
  have q2 := hk9.cell 2
  have q3 := hk9.cell 3
  simp at q0 q1 q2 q3
  go_wp2_with (go_at_call 7; refine (hE9.out).mono ?_; rintro e W10 ⟨⟨fb, rfl, fk, hlf⟩, hb10⟩)
  clear q0 q1 q2 q3 hE9
  have B10 : Below w.heap.size w W10 := B9.trans (hb10.mono B9.size)
  have gk10 := gk9.below hb10 gk9.lt
  have hk10 := hk9.below hb10 hk9.lt
  have ck10 := ck9.below hb10 ck9.lt
  have ek10 := ek9.below hb10 ek9.lt
  have ne7 : g ≠ fb := by have := ck9.lt; omega
  obtain ⟨x0, x1, x2, x3, x4, _, _, y0, y1, y2, y3, y4, _, _, _, _, _⟩ := row9 I _ (turn_at rs hr _)
  have g3 := gk10.cell 3
  have q3 := hk10.cell 3
  have b0 := Nd.cell_keeps B10 a0
  have b1 := Nd.cell_keeps B10 a1
  have b2 := Nd.cell_keeps B10 a2
  have b3 := Nd.cell_keeps B10 a3
  have b4 := Nd.cell_keeps B10 a4
  simp at g3 q3
  have l1 := gk10.lt
  have l2 := hk10.lt
  have l3 := ck10.lt
  have l4 : b < W10.heap.size := by omega
  have s0 := ck10.cell (I * 10 + 2)
  have s1 := ck10.cell (I * 10 + 3)
  have s2 := ck10.cell (I * 10 + 4)
  have s3 := ck10.cell (I * 10 + 5)
  have s4 := ck10.cell (I * 10 + 6)
  rw [y0] at s0
  rw [y1] at s1
  rw [y2] at s2
  rw [y3] at s3
  rw [y4] at s4
  have f0 := ck10.free (I * 10 + 2)
  have f1 := ck10.free (I * 10 + 3)
  have f2 := ck10.free (I * 10 + 4)
  have f3 := ck10.free (I * 10 + 5)
  have f4 := ck10.free (I * 10 + 6)
  clear gk9 hk9 ek9
  go_region_held3 (fun w' => w'.cell? ⟨w.heap.size, 3, none⟩ = some (.slice (some ⟨b, o, none⟩) RN rc) ∧ w'.cell? ⟨hb, 3, none⟩ = some (.slice (some ⟨g, 0, none⟩) RN cap) ∧ w'.cell? ⟨b, o + I * 10 + 2, none⟩ = some (.int .u8 r.body.kind) ∧ w'.cell? ⟨b, o + I * 10 + 3, none⟩ = some (.string r.body.name) ∧ w'.cell? ⟨b, o + I * 10 + 4, none⟩ = some (.string r.body.text) ∧ w'.cell? ⟨b, o + I * 10 + 5, none⟩ = some (.slice sa1 r.body.set.length sc1) ∧ w'.cell? ⟨b, o + I * 10 + 6, none⟩ = some (.slice ba1 r.body.subs.length bc1))
    (first | (go_keep; done) | ((refine ⟨?_, ?_, ?_, ?_, ?_, ?_, ?_⟩ <;> (repeat (first | (with_reducible assumption) | (with_reducible refine kcD ?_) | (with_reducible refine kcA _ ?_) | (with_reducible refine kcS ne3 ?_) | (with_reducible refine kcS ne2 ?_) | (with_reducible refine kcS ne6 ?_)))); done)) (fail)
  obtain ⟨W11, hW11⟩ : ∃ W, (((((((W10.setCell ⟨g, I * 10 + 2, none⟩ (.int .u8 1)).setCell ⟨g, I * 10 + 2 + 1, none⟩ (.string ⟨#[]⟩)).setCell ⟨g, I * 10 + 2 + 2, none⟩ (.string ⟨#[]⟩)).setCell ⟨g, I * 10 + 2 + 3, none⟩ (.slice none 0 0)).setCell ⟨g, I * 10 + 2 + 4, none⟩ (.slice (some ⟨W10.heap.size + 1, 0, none⟩) 2 2)).alloc
      (.cells #[.int .i32 65, .int .i32 65] 48)).alloc
      (.cells #[.int .u8 9, .string ⟨#[]⟩, .string ⟨#[]⟩, .slice (some ⟨W10.heap.size, 0, none⟩) 1 1, .slice none 0 0, .int .u8 r.body.kind, .string r.body.name, .string r.body.text, .slice sa1 r.body.set.length sc1, .slice ba1 r.body.subs.length bc1] 39)).drew = W := ⟨_, rfl⟩
  rw [hW11]
  obtain ⟨B11, ck11, rk11, nk11, oth11⟩ := put_less (w := w) hW11 B10 (by omega) ck10
  have gk11 := oth11 _ _ _ (Ne.symm ne3) gk10
  have hk11 := oth11 _ _ _ (Ne.symm ne2) hk10
  have ek11 := oth11 _ _ _ (Ne.symm ne4) ek10
  have fk11 := oth11 _ _ _ (Ne.symm ne7) fk
  have A11 := less_at (Nd.At.below B11 _ hA) rk11 nk11
  have row11 := (RowC.below B11 hrow).turn hr A11
  have hsz : I * 10 + 2 + 4 < cur.size := by
    obtain ⟨_, _, _, _, _, _, _, _, _, _, _, _, _, _, z9, _⟩ := hrow I r hr
    have := (Array.getElem?_eq_some_iff.1 z9).1
    omega
  rw [set5_set5 hsz] at ck11
  have htl2 : (Nu.turn rs I (lessT r.body)).length = RN := by rw [turn_len, HRN.out]
  have hsT2 : ∀ q ∈ Nu.turn rs I (lessT r.body), Nd.deep q.body ≤ 102 ∧ Nd.count q.body ≤ 502 := turn_small hr (fun q hq => by have := hcs q hq; omega) (less_small (by have := hcs r (List.mem_of_getElem? hr); omega) (by omega))
  have hG11 : GrV W11 nm o1 o2 (Nu.turn rs I (lessT r.body)) (.agg #[.string nm, .int .i64 o1, .int .i64 o2, .slice (some ⟨g, 0, none⟩) RN cap]) := ⟨some ⟨g, 0, none⟩, cap, by rw [htl2], hnm, by rw [htl2]; omega, RuL_row ck11 row11⟩
  have hE11 := Empty_any nm o1 o2 _ _ W11 hG11 ⟨by omega, fun q hq => by have := hsT2 q hq; omega⟩
  have hR11 := fun (wx : World) (hbx : Below W11.heap.size W11 wx) => Reach_any nm o1 o2 _ _ wx (hG11.below hbx) ⟨by omega, fun q hq => by have := hsT2 q hq; omega⟩
  rw [htl2] at hE11 hR11
  replace hE11 := Lib.hid hE11
  replace hR11 := Lib.hid hR11
  obtain ⟨m1, m2⟩ := turn_more rs hr (moreT r.body) (fun e => thr_more rs _ e _)
  obtain ⟨m3, m4⟩ := turn_less rs hr (lessT r.body) (fun e => thr_less rs _ e _)
  have m5 := turn_stp rs hr (lessT r.body) (fun e => rch_less _ _ e _)
  have m6 : ∀ k, reaAt (Nu.turn rs I (lessT r.body)) I k = false := fun k => rea_none _ (by rw [htl2]; exact hIN) m5 k
  have hM1 := Lib.hid m1
  have hM2 := Lib.hid m2
  have hM3 := Lib.hid m3
  have hM4 := Lib.hid m4
  have hM6 := Lib.hid m6
  clear hW11 b0 b1 b2 b3 b4 s0 s1 s2 s3 s4 f0 f1 f2 f3 f4 g3 q3 y0 y1 y2 y3 y4 l1 l2 l3 l4 gk10 hk10 ck10 ek10 hG11 m1 m2 m3 m4 m5 m6 ck9 nk9 oth9 A9 row9 hb10 B9 fk hrow
  have q0 := hk11.cell 0
  have q1 := hk11.cell 1
  have q2 := hk11.cell 2
  have q3 := hk11.cell 3
  simp at q0 q1 q2 q3
  go_wp2_with (first
    | (go_at_call 7; refine (hE11.out).mono ?_; rintro e W12 ⟨⟨db, rfl, dk, hld⟩, hb12⟩; have hk12 := hk11.below hb12 hk11.lt; clear q0 q1 q2 q3; have q0 := hk12.cell 0; have q1 := hk12.cell 1; have q2 := hk12.cell 2; have q3 := hk12.cell 3; simp at q0 q1 q2 q3)
    | (go_at_call 8; refine (hR11.out _ hb12).mono ?_; rintro e W13 ⟨⟨rr, rfl, ⟨cs13, rk13, rs13, rf13⟩, hlr⟩, hb13⟩
       have hb13' := hb12.trans (hb13.mono hb12.size)
       have gk13 := gk11.below hb13' gk11.lt
       have ek13 := ek11.below hb13' ek11.lt
       have fk13 := fk11.below hb13' fk11.lt
       have dk13 := dk.below hb13 dk.lt
       have g3 := gk13.cell 3
       simp at g3
       obtain ⟨row, hrw⟩ : ∃ row, (rea (Nu.turn rs I (lessT r.body)))[I]? = some row := ⟨_, List.getElem?_eq_getElem (by rw [rea_length, htl2]; exact hIN)⟩
       obtain ⟨rb, rc0, rbk, _⟩ := rf13 I row hIN hrw
       have w0 := rk13.cell I
       rw [rc0] at w0
       have w1 := fk13.cell I
       rw [bools_get (by rw [emp_len, htl]; exact hIN), hM1.out] at w1
       have w2 := dk13.cell I
       rw [bools_get (by rw [emp_len, htl2]; exact hIN), hM3.out] at w2
       have hrl := rea_row_len hrw
       have hr0 : ∀ k, row.getD k false = false := fun k => by rw [← reaAt_row hrw]; exact hM6.out k))
  rw [htl2] at hrl
  have HH := Lib.hid (show ∀ (p : Nat) (wr : World), p < RN → Below W13.heap.size W13 wr → wr.cell? ⟨eb, p, none⟩ = some (.bool ((emp rs).getD p false)) ∧ wr.cell? ⟨fb, p, none⟩ = some (.bool ((emp (Nu.turn rs I (moreT r.body))).getD p false)) ∧ wr.cell? ⟨db, p, none⟩ = some (.bool ((emp (Nu.turn rs I (lessT r.body))).getD p false)) ∧ wr.cell? ⟨rr, I, none⟩ = some (.slice (some ⟨rb, 0, none⟩) RN RN) ∧ wr.cell? ⟨rb, p, none⟩ = some (.bool false) from fun p wr hp hB => by
    refine ⟨Nd.cell_keeps hB ?_, Nd.cell_keeps hB ?_, Nd.cell_keeps hB ?_, Nd.cell_keeps hB w0, Nd.cell_keeps hB ?_⟩
    · rw [ek13.cell, bools_get (by rw [emp_len, HRN.out]; exact hp)]
    · rw [fk13.cell, bools_get (by rw [emp_len, htl]; exact hp)]
    · rw [dk13.cell, bools_get (by rw [emp_len, htl2]; exact hp)]
    · rw [rbk.cell, bools_get (by rw [hrl]; exact hp), hr0])
  have HL := Lib.hid (show ∀ wr : World, Below W13.heap.size W13 wr → Below w.heap.size w wr from fun wr hb => (B11.trans (hb13'.mono B11.size)).trans (hb.mono (B11.trans (hb13'.mono B11.size)).size))
  clear g3 w0 w1 w2 hr0 hrl rbk rc0 hrw rf13 rs13 rk13 hlr ek13 fk13 dk13 gk13 hb13' q0 q1 q2 q3 hk11 gk11 ck11 rk11 nk11 oth11 ek11 fk11 A11 row11 dk hld hb12 hb13 hk12
  go_loopw [11] (fun i wr => ∃ p : Nat, p ≤ RN ∧ i = .int .i64 p ∧ Below W13.heap.size W13 wr) (fun i _ => RN - (intOf i).toNat)
  case atStart => exact ⟨0, Nat.zero_le _, rfl, Below.refl _ _⟩
  case round =>
    obtain ⟨p, hp, rfl, hB⟩ := hrel
    by_cases hlt : p < RN
    · have d2 : decide (p < RN) = true := by rw [decide_eq_true_iff]; exact hlt
      have p1 : (p : Int) < (RN : Int) := by omega
      obtain ⟨e1, e2, e3, e4, e5⟩ := HH.out p _ hlt hB
      have k1 := hM2.out p
      have k2 := hM4.out p
      generalize (emp rs).getD p false = X at *
      generalize (emp (Nu.turn rs I (moreT r.body))).getD p false = Y at *
      generalize (emp (Nu.turn rs I (lessT r.body))).getD p false = Z at *
      have k3 : (X = false ∧ Y = false ∧ Z = false) ∨ (X = false ∧ Y = true ∧ Z = false) ∨ (X = true ∧ Y = true ∧ Z = false) ∨ (X = true ∧ Y = true ∧ Z = true) := by
        cases X <;> cases Y <;> cases Z <;> simp_all
      clear k1 k2
      rcases k3 with ⟨rfl, rfl, rfl⟩ | ⟨rfl, rfl, rfl⟩ | ⟨rfl, rfl, rfl⟩ | ⟨rfl, rfl, rfl⟩
      · go_wp2_with fail
        refine ⟨⟨p + 1, by omega, by go_num, hB⟩, by simp [intOf]; omega⟩
      · go_wp2_with fail
        refine ⟨⟨p + 1, by omega, by go_num, hB⟩, by simp [intOf]; omega⟩
      · go_wp2_with fail
        refine ⟨⟨p + 1, by omega, by go_num, hB⟩, by simp [intOf]; omega⟩
      · go_wp2_with fail
        refine ⟨⟨p + 1, by omega, by go_num, hB⟩, by simp [intOf]; omega⟩
    · have d2 : decide (p < RN) = false := by rw [decide_eq_false_iff_not]; exact hlt
      go_wp2_with (go_at_call 6; refine (lives_true _).mono ?_; rintro e w14 ⟨rfl, hb14⟩)
      go_ret
      exact ⟨rfl, HL.out _ (hB.trans (hb14.mono hB.size))⟩
end Go.Proofs.Ytclgidojpokfjaa
