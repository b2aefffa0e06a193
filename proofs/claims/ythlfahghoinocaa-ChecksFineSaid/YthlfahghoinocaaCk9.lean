/- ChecksFine: the walk. -/
import Derived.Test.YthlfahghoinocaaCk8
import Derived.Test.YthlfahghoinocaaCkV
import Derived.Test.YthlfahghoinocaaCkW
import Derived.Test.YthlfahghoinocaaNuB
import Derived.Test.YthlfahghoinocaaNuT
import Derived.IntWalk
namespace Go.Proofs.Ythlfahghoinocaa
open Go Go.RowKit Go.Shelf Ck Nu
attribute [local go_sem] Oper.semAt_some
set_option maxRecDepth 100000

namespace Ck
theorem rulP_le (rs : List Rl) (i : Nat) (r : Rl) (h : Nd.count r.body ≤ 500) : (rulP rs i r).length ≤ 2004 := by
  have h1 := nmR_count r.body
  have h2 := noneP_len rs i (nam r.body)
  have h3 := sortP_len rs r.sort i (nam r.body)
  have h4 := lpN_le (shE rs r) r.body
  have hif : ∀ (c : Prop) [Decidable c] (x : Pr), (if c then [x] else []).length ≤ 1 := fun c _ x => by split <;> simp
  have a2 := hif (r.sort = 0 ∧ reaAt rs i i = true) ⟨4, i, r.name⟩
  have a3 := hif (reaAt (nmR rs) i i = true) ⟨5, i, r.name⟩
  have a4 := hif ((r.sort = 1 ∨ r.sort = 3) ∧ (emp rs).getD i false = true) ⟨7, i, r.name⟩
  unfold rulP
  simp only [List.length_append, List.length_replicate]
  cases fnd rs r.name with
  | none => simp only [List.length_cons, List.length_nil]; omega
  | some k =>
    have a1 := hif (k < i) ⟨1, i, r.name⟩
    dsimp only
    omega
theorem rulesF_bound (rs : List Rl) : ∀ (l : List Rl) (k : Nat), (∀ r ∈ l, Nd.count r.body ≤ 500) → (rulesF rs k l).length ≤ l.length * 2004
  | [], _, _ => by simp [rulesF]
  | r :: l, k, h => by
    have h1 := rulP_le rs k r (h r (by simp))
    have h2 := rulesF_bound rs l (k + 1) (fun q hq => h q (by simp [hq]))
    simp only [rulesF, List.length_append, List.length_cons]
    omega
/-- Is a rule ready, as far as the first k rules tell? -/
def rdyTo (R : Nat → Nat → Bool) (i : Nat) (d : List Bool) (k : Nat) : Bool := !d.getD i false && (List.range k).all fun k => !R i k || d.getD k false
theorem rdyTo_zero (R : Nat → Nat → Bool) (i : Nat) (d : List Bool) : rdyTo R i d 0 = !d.getD i false := by simp [rdyTo]
theorem rdyTo_succ (R : Nat → Nat → Bool) (i : Nat) (d : List Bool) (k : Nat) : rdyTo R i d (k + 1) = (rdyTo R i d k && (!R i k || d.getD k false)) := by
  simp only [rdyTo, List.range_succ, List.all_append, List.all_cons, List.all_nil, Bool.and_true, Bool.and_assoc]
theorem rdyTo_all (R : Nat → Nat → Bool) (n i : Nat) (d : List Bool) : rdyTo R i d n = rdy R n i d := rfl
end Ck
set_option maxHeartbeats 4000000 in
theorem Fine_lives (nm : ByteArray) (o1 o2 : Int) (rs : List Rl) (v : Value) (w : World) (hG : GrV w nm o1 o2 rs v) (hg5 : g5 nm rs = true) :
    Calls Try.prog 3 #[v] w fun e w' => e = .returned (.bool true) ∧ Below w.heap.size w w' := by
  have hGr := Lib.hid (fun o => (Great5_any nm o1 o2 rs v (w.alloc o) (hG.below ((Below.refl _ w).alloc (Nat.le_refl _) o))).mono (R' := fun e w' => e = .returned (.bool true) ∧ Below (w.alloc o).heap.size (w.alloc o) w') (by rintro e w' ⟨rfl, hb⟩; exact ⟨by rw [hg5], hb⟩))
  obtain ⟨ra, rc, rfl, hnm, hrc, hR⟩ := hG
  generalize rs.length = RN at *
  go_enter Try.func3, Try.ntmps3
  go_wp2_with (first
    | (go_at_call 5; refine (hGr.out _).mono ?_; rintro e w1 ⟨rfl, hb1⟩; have hB1 : Below w.heap.size w w1 := ((Below.refl _ w).alloc (Nat.le_refl _) _).trans (hb1.mono (by simp)))
    | (go_at_call 7; refine (lives06_true _).mono ?_; rintro e w2 ⟨rfl, hb2⟩))
  go_ret
  exact ⟨rfl, hB1.trans (hb2.mono hB1.size)⟩
set_option maxHeartbeats 4000000 in
theorem Fine_wrong (nm : ByteArray) (o1 o2 : Int) (rs : List Rl) (v : Value) (w : World) (hG : GrV w nm o1 o2 rs v) (hg5 : g5 nm rs = false) (hc : chk rs ≠ []) :
    Calls Try.prog 3 #[v] w fun e w' => e = .returned (.bool true) ∧ Below w.heap.size w w' := by
  have hsm := small_of hg5
  have hcs : ∀ r ∈ rs, Nd.deep r.body ≤ 101 ∧ Nd.count r.body ≤ 500 := fun r hr => ⟨(hsm.2.1 r hr).1, Nat.le_trans (count_le_sum rs r hr) hsm.2.2.1⟩
  have hrl : (rulesF rs 0 rs).length ≤ 100000 := by have := rulesF_bound rs rs 0 (fun r hr => (hcs r hr).2); omega
  have hGr := Lib.hid (fun o => (Great5_any nm o1 o2 rs v (w.alloc o) (hG.below ((Below.refl _ w).alloc (Nat.le_refl _) o))).mono (R' := fun e w' => e = .returned (.bool false) ∧ Below (w.alloc o).heap.size (w.alloc o) w') (by rintro e w' ⟨rfl, hb⟩; exact ⟨by rw [hg5], hb⟩))
  have hFi := Lib.hid (fun (wx : World) (hb : Below w.heap.size w wx) => (Fine_any nm o1 o2 rs v wx (hG.below hb) ⟨by omega, fun r hr => by have := hcs r hr; omega⟩ hrl).mono (R' := fun e w' => e = .returned (.bool false) ∧ Below wx.heap.size wx w') (by rintro e w' ⟨rfl, hb⟩; exact ⟨by rw [decide_eq_false hc], hb⟩))
  obtain ⟨ra, rc, rfl, hnm, hrc, hR⟩ := hG
  clear hsm hcs hrl hc
  generalize rs.length = RN at *
  go_enter Try.func3, Try.ntmps3
  go_wp2_with (first
    | (go_at_call 5; refine (hGr.out _).mono ?_; rintro e w1 ⟨rfl, hb1⟩; have hB1 : Below w.heap.size w w1 := ((Below.refl _ w).alloc (Nat.le_refl _) _).trans (hb1.mono (by simp)); have gk := (Bk.made w 26 #[.string nm, .int .i64 o1, .int .i64 o2, .slice ra RN rc]).below hb1 (by simp); have g0 := gk.cell 0; have g1 := gk.cell 1; have g2 := gk.cell 2; have g3 := gk.cell 3; simp at g0 g1 g2 g3)
    | (go_at_call 6; refine (hFi.out _ hB1).mono ?_; rintro e w2 ⟨rfl, hb2⟩)
    | (go_at_call 7; refine (lives06_true _).mono ?_; rintro e w3 ⟨rfl, hb3⟩))
  go_ret
  exact ⟨rfl, hB1.trans ((hb2.mono hB1.size).trans (hb3.mono (hB1.trans (hb2.mono hB1.size)).size))⟩
set_option maxHeartbeats 16000000 in
theorem Fine_right (nm : ByteArray) (o1 o2 : Int) (rs : List Rl) (v : Value) (w : World) (hG : GrV w nm o1 o2 rs v) (hg5 : g5 nm rs = false) (hc : chk rs = []) :
    Calls Try.prog 3 #[v] w fun e w' => e = .returned (.bool true) ∧ Below w.heap.size w w' := by
  have hsm := small_of hg5
  have hfine := fine_of hc
  have hcs : ∀ r ∈ rs, Nd.deep r.body ≤ 101 ∧ Nd.count r.body ≤ 500 := fun r hr => ⟨(hsm.2.1 r hr).1, Nat.le_trans (count_le_sum rs r hr) hsm.2.2.1⟩
  have hrl : (rulesF rs 0 rs).length ≤ 100000 := by have := rulesF_bound rs rs 0 (fun r hr => (hcs r hr).2); omega
  have hGr := Lib.hid (fun o => (Great5_any nm o1 o2 rs v (w.alloc o) (hG.below ((Below.refl _ w).alloc (Nat.le_refl _) o))).mono (R' := fun e w' => e = .returned (.bool false) ∧ Below (w.alloc o).heap.size (w.alloc o) w') (by rintro e w' ⟨rfl, hb⟩; exact ⟨by rw [hg5], hb⟩))
  have hFi := Lib.hid (fun (wx : World) (hb : Below w.heap.size w wx) => (Fine_any nm o1 o2 rs v wx (hG.below hb) ⟨by omega, fun r hr => by have := hcs r hr; omega⟩ hrl).mono (R' := fun e w' => e = .returned (.bool true) ∧ Below wx.heap.size wx w') (by rintro e w' ⟨rfl, hb⟩; exact ⟨by rw [decide_eq_true hc], hb⟩))
  have hEm := Lib.hid (fun (wx : World) (hb : Below w.heap.size w wx) => Empty_any nm o1 o2 rs v wx (hG.below hb) ⟨by omega, fun r hr => by have := hcs r hr; omega⟩)
  have hRe := Lib.hid (fun (wx : World) (hb : Below w.heap.size w wx) => Reach_any nm o1 o2 rs v wx (hG.below hb) ⟨by omega, fun r hr => by have := hcs r hr; omega⟩)
  obtain ⟨ks, hks⟩ : ∃ k, Ck.start rs = some k := Option.ne_none_iff_exists'.1 hfine.1
  have hSt := Lib.hid (fun (wx : World) (hb : Below w.heap.size w wx) => (Start_any nm o1 o2 rs v wx (hG.below hb)).mono (R' := fun e w' => e = .returned (.int .i64 (ks : Int)) ∧ Below wx.heap.size wx w') (by rintro e w' ⟨rfl, hb⟩; exact ⟨by rw [hks]; rfl, hb⟩))
  have hFdA := Lib.hid (fun (p : Nat) (r : Rl) (hr : rs[p]? = some r) (wx : World) (hb : Below w.heap.size w wx) => (Find_any nm o1 o2 rs v r.name wx (hG.below hb)).mono (R' := fun e w' => e = .returned (.int .i64 (p : Int)) ∧ Below wx.heap.size wx w') (by rintro e w' ⟨rfl, hb⟩; exact ⟨by rw [(hfine.2 p r hr).one]; rfl, hb⟩))
  have hSoA := Lib.hid (fun (p : Nat) (r : Rl) (hr : rs[p]? = some r) (nv : Value) (wx : World) (hb : Below w.heap.size w wx) (hA : Nd.At wx r.body nv) => sound_any nm o1 o2 rs v p r hr ⟨by omega, fun r hr => by have := hcs r hr; omega⟩ r.body nv wx (hG.below hb) hA (by have := hcs r (List.mem_of_getElem? hr); omega) (body_snd (hfine.2 p r hr)))
  have HFull := Lib.hid (fun (p : Nat) (r : Rl) (hr : rs[p]? = some r) (he : (emp rs).getD p false = true) => show r.sort ≠ 1 ∧ r.sort ≠ 3 from ⟨(fun h => Bool.noConfusion (((hfine.2 p r hr).full (.inl h)).symm.trans he)), (fun h => Bool.noConfusion (((hfine.2 p r hr).full (.inr h)).symm.trans he))⟩)
  have HOrd := Lib.hid (order_fine hfine.2)
  obtain ⟨ra, rc, rfl, hnm, hrc, hR⟩ := hG
  obtain ⟨RN, hRN⟩ : ∃ k, rs.length = k := ⟨_, rfl⟩
  have HRN := Lib.hid hRN
  have HR := Lib.hid hR
  rw [hRN] at hrc hEm hGr hRe hFi hSt hFdA hSoA HOrd hsm ⊢
  have n1 : (RN : Int) ≤ 9223372036854775807 := by omega
  have hksi : (0 : Int) ≤ (ks : Int) := by omega
  have dks : decide ((ks : Int) < 0) = false := decide_eq_false (by omega)
  have hRN20 : RN ≤ 20 := hsm.1
  clear hRN hks hfine hcs hrl hc hsm hR hg5
  have hmk := run_make_row' (P := Try.prog) 31 4 (.bool false) 1 Try.underlying31 infoBool rfl .i64 .i64 RN (by omega) (by omega)
  go_enter Try.func3, Try.ntmps3
  go_wp2_with (first
    | (go_at_call 5; refine (hGr.out _).mono ?_; rintro e w1 ⟨rfl, hb1⟩; have hB1 : Below w.heap.size w w1 := ((Below.refl _ w).alloc (Nat.le_refl _) _).trans (hb1.mono (by simp)); have gk := (Bk.made w 26 #[.string nm, .int .i64 o1, .int .i64 o2, .slice ra RN rc]).below hb1 (by simp); have g0 := gk.cell 0; have g1 := gk.cell 1; have g2 := gk.cell 2; have g3 := gk.cell 3; simp at g0 g1 g2 g3)
    | (go_at_call 6; refine (hFi.out _ hB1).mono ?_; rintro e w2 ⟨rfl, hb2⟩; have gk2 := gk.below hb2 gk.lt; have hB2 := hB1.trans (hb2.mono hB1.size); clear g0 g1 g2 g3 hB1 gk; have g0 := gk2.cell 0; have g1 := gk2.cell 1; have g2 := gk2.cell 2; have g3 := gk2.cell 3; simp at g0 g1 g2 g3)
    | (go_at_call 8; refine (hRe.out _ hB2).mono ?_; rintro e w3 ⟨⟨rr, rfl, hR3, hlr⟩, hb3⟩; have gk3 := gk2.below hb3 gk2.lt; have hB3 := hB2.trans (hb3.mono hB2.size); clear g0 g1 g2 g3 hB2 gk2; have g0 := gk3.cell 0; have g1 := gk3.cell 1; have g2 := gk3.cell 2; have g3 := gk3.cell 3; simp at g0 g1 g2 g3)
    | (go_at_call 9; refine (hEm.out _ hB3).mono ?_; rintro e w4 ⟨⟨eb, rfl, hk4, hlo4⟩, hb4⟩; have gk4 := gk3.below hb4 gk3.lt; have hB4 := hB3.trans (hb4.mono hB3.size); have hR4 := hR3.below hb4; clear g0 g1 g2 g3 hB3 gk3 hR3; have g0 := gk4.cell 0; have g1 := gk4.cell 1; have g2 := gk4.cell 2; have g3 := gk4.cell 3; simp at g0 g1 g2 g3)
    | (go_at_call 10; refine (hSt.out _ hB4).mono ?_; rintro e w5 ⟨rfl, hb5⟩; have gk5 := gk4.below hb5 gk4.lt; have hB5 := hB4.trans (hb5.mono hB4.size); have hR5 := hR4.below hb5; have hk5 := hk4.below hb5 hk4.lt; clear g0 g1 g2 g3 hB4 gk4 hR4 hk4; have g0 := gk5.cell 0; have g1 := gk5.cell 1; have g2 := gk5.cell 2; have g3 := gk5.cell 3; simp at g0 g1 g2 g3))
  obtain ⟨cs3, rk3, rs3, rf3⟩ := hR5
  have hrow : ∀ p, p < RN → ∃ rb, w5.cell? ⟨rr, p, none⟩ = some (.slice (some ⟨rb, 0, none⟩) RN RN) ∧ ∀ k, k < RN → ∀ wr : World, Below w5.heap.size w5 wr → wr.cell? ⟨rb, k, none⟩ = some (.bool (reaAt rs p k)) := fun p hp => by
    obtain ⟨row, hrw, hl, hat⟩ := Ck.reaL_row (rs := rs) (i := p) (by rw [HRN.out]; exact hp)
    obtain ⟨rb, h1, h2, _⟩ := rf3 p row hp hrw
    refine ⟨rb, (rk3.cell _).trans h1, fun k hk wr hb => Nd.cell_keeps hb ?_⟩
    rw [h2.cell, bools_get (by rw [hl, HRN.out]; exact hk), hat]
  have HRow := Lib.hid hrow
  have HK := Lib.hid (show ∀ wr : World, Below w5.heap.size w5 wr → (wr.cell? ⟨w.heap.size, 0, none⟩ = some (.string nm) ∧ wr.cell? ⟨w.heap.size, 1, none⟩ = some (.int .i64 o1) ∧ wr.cell? ⟨w.heap.size, 2, none⟩ = some (.int .i64 o2) ∧ wr.cell? ⟨w.heap.size, 3, none⟩ = some (.slice ra RN rc)) ∧ (∀ p, p < RN → wr.cell? ⟨eb, p, none⟩ = some (.bool ((emp rs).getD p false))) ∧ Below w.heap.size w wr from fun wr hb => by
    refine ⟨⟨Nd.cell_keeps hb g0, Nd.cell_keeps hb g1, Nd.cell_keeps hb g2, Nd.cell_keeps hb g3⟩, fun p hp => Nd.cell_keeps hb ?_, hB5.trans (hb.mono hB5.size)⟩
    rw [hk5.cell, bools_get (by rw [emp_len, HRN.out]; exact hp)])
  have HD0 := Lib.hid (show Bk (w5.alloc (.cells (madeCells #[.bool false] RN) 4)) w5.heap.size 4 (bools (orderTo (reaAt rs) RN 0).1) ∧ Below w5.heap.size w5 (w5.alloc (.cells (madeCells #[.bool false] RN) 4)) from ⟨by
    rw [show bools (orderTo (reaAt rs) RN 0).1 = madeCells #[.bool false] RN from (made_bools RN).symm]
    exact Bk.made w5 4 (madeCells #[.bool false] RN), (Below.refl _ _).alloc (Nat.le_refl _) _⟩)
  have HRN20 := Lib.hid hRN20
  clear hrow g0 g1 g2 g3 rf3 rs3 rk3 gk5 hk5 hB5 hmk dks hksi hlo4 hlr hRN20
  go_loopw [7, 6] (fun i l wr => ∃ m : Nat, m ≤ RN ∧ i = .int .i64 m ∧ l = .int .i64 (orderTo (reaAt rs) RN m).2 ∧ Hid (Bk wr w5.heap.size 4 (bools (orderTo (reaAt rs) RN m).1) ∧ Below w5.heap.size w5 wr)) (fun i _ _ => RN - (intOf i).toNat)
  case atStart => exact ⟨0, Nat.zero_le _, rfl, rfl, HD0⟩
  case round =>
    obtain ⟨m, hm, rfl, rfl, hO⟩ := hrel
    by_cases hlt : m < RN
    · have d2 : decide (m < RN) = true := by rw [decide_eq_true_iff]; exact hlt
      have p1 : (m : Int) < (RN : Int) := by omega
      have HM := Lib.hid (order_succ (reaAt rs) RN m)
      have HF := Lib.hid (order_fair (R := reaAt rs) (n := RN) m)
      have HO := Lib.hid (show Bk wr w5.heap.size 4 (bools (sweepTo (reaAt rs) RN 0 (orderTo (reaAt rs) RN m)).1) ∧ Below w5.heap.size w5 wr from hO.out)
      have HZ : (orderTo (reaAt rs) RN m).2 = (sweepTo (reaAt rs) RN 0 (orderTo (reaAt rs) RN m)).2 := rfl
      rw [HZ]
      clear HZ hO
      generalize orderTo (reaAt rs) RN m = st at *
      go_wp2_with fail
      go_loopw [8, 6] (fun i l wr => ∃ q : Nat, q ≤ RN ∧ i = .int .i64 q ∧ l = .int .i64 (sweepTo (reaAt rs) RN q st).2 ∧ Hid (Bk wr w5.heap.size 4 (bools (sweepTo (reaAt rs) RN q st).1) ∧ Below w5.heap.size w5 wr)) (fun i _ _ => RN - (intOf i).toNat)
      case atStart => exact ⟨0, Nat.zero_le _, rfl, rfl, HO⟩
      case round =>
        obtain ⟨q, hq, rfl, rfl, hO⟩ := hrel
        by_cases hlq : q < RN
        · have d3 : decide (q < RN) = true := by rw [decide_eq_true_iff]; exact hlq
          have q1 : (q : Int) < (RN : Int) := by omega
          have hfq := (sweep_fair (R := reaAt rs) HF.out q (by omega)).1
          have HSS := Lib.hid (sweep_succ (reaAt rs) RN q st)
          generalize sweepTo (reaAt rs) RN q st = sq at *
          have HFQ := Lib.hid hfq
          have hdq : wr.cell? ⟨w5.heap.size, q, none⟩ = some (.bool (sq.1.getD q false)) := by rw [hO.out.1.cell, bools_get (by rw [hfq.1]; exact hlq)]
          obtain ⟨rb, hrb, hrc⟩ := HRow.out q hlq
          have HRB := Lib.hid (And.intro hrb hrc)
          have hz := rdyTo_zero (reaAt rs) q sq.1
          generalize hX0 : sq.1.getD q false = X0 at *
          have HX0 := Lib.hid hX0
          have HZ := Lib.hid hz
          clear hfq hX0 hz hrb hrc
          go_wp2_with fail
          go_loopw [10, 9] (fun i l wr' => ∃ k : Nat, k ≤ RN ∧ i = .int .i64 k ∧ l = .bool (rdyTo (reaAt rs) q sq.1 k) ∧ Hid (Bk wr' w5.heap.size 4 (bools sq.1) ∧ Below w5.heap.size w5 wr')) (fun i _ _ => RN - (intOf i).toNat)
          case atStart => exact ⟨0, Nat.zero_le _, rfl, by rw [HZ.out], hO⟩
          case round =>
            obtain ⟨k, hk, rfl, rfl, hO2⟩ := hrel
            by_cases hlk : k < RN
            · have d4 : decide (k < RN) = true := by rw [decide_eq_true_iff]; exact hlk
              have k1 : (k : Int) < (RN : Int) := by omega
              have e1 := Nd.cell_keeps hO2.out.2 HRB.out.1
              have e2 := HRB.out.2 k hlk _ hO2.out.2
              have e3 : wr.cell? ⟨w5.heap.size, k, none⟩ = some (.bool (sq.1.getD k false)) := by rw [hO2.out.1.cell, bools_get (by rw [HFQ.out.1]; exact hlk)]
              have hsu := rdyTo_succ (reaAt rs) q sq.1 k
              generalize rdyTo (reaAt rs) q sq.1 k = X at *
              generalize reaAt rs q k = Y at *
              generalize sq.1.getD k false = Z at *
              have HSU := Lib.hid hsu
              clear hsu hdq
              cases X
              · go_wp2_with fail
                exact ⟨⟨k + 1, by omega, by go_num, by rw [HSU.out]; rfl, hO2⟩, by simp [intOf]; omega⟩
              · cases Y
                · go_wp2_with fail
                  exact ⟨⟨k + 1, by omega, by go_num, by rw [HSU.out]; rfl, hO2⟩, by simp [intOf]; omega⟩
                · go_wp2_with fail
                  exact ⟨⟨k + 1, by omega, by go_num, by rw [HSU.out]; simp, hO2⟩, by simp [intOf]; omega⟩
            · have d4 : decide (k < RN) = false := by rw [decide_eq_false_iff_not]; exact hlk
              obtain rfl : RN = k := by omega
              have hall := rdyTo_all (reaAt rs) RN q sq.1
              have hsw : sweepF (reaAt rs) RN sq q = if rdyTo (reaAt rs) q sq.1 RN then (sq.1.set q true, sq.2 - 1) else sq := by rw [hall]; rfl
              have hlb : 0 ≤ sq.2 ∧ sq.2 ≤ 20 := by
                have h1 := HFQ.out.2
                have h2 := lack_le sq.1
                have h3 := HFQ.out.1
                have h4 := HRN20.out
                omega
              have HLB := Lib.hid hlb
              generalize rdyTo (reaAt rs) q sq.1 RN = X at *
              have HSW := Lib.hid hsw
              clear hall hsw hlb
              cases X
              · go_wp2_with fail
                exact ⟨⟨q + 1, by omega, by go_num, by rw [HSS.out, HSW.out]; rfl, by rw [HSS.out, HSW.out]; exact hO2⟩, by simp [intOf]; omega⟩
              · have f0 := hO2.out.1.free q
                have c0 : wr.cell? ⟨w5.heap.size, q, none⟩ = some (.bool (sq.1.getD q false)) := by rw [hO2.out.1.cell, bools_get (by rw [HFQ.out.1]; exact hlq)]
                have HOO := Lib.hid (show Bk (wr.setCell ⟨w5.heap.size, q, none⟩ (.bool true)) w5.heap.size 4 (bools (sq.1.set q true)) ∧ Below w5.heap.size w5 (wr.setCell ⟨w5.heap.size, q, none⟩ (.bool true)) from ⟨by
                  have := hO2.out.1.set q (.bool true)
                  rw [bools_set] at this
                  exact this, hO2.out.2.setCell (p := ⟨w5.heap.size, q, none⟩) (Nat.le_refl _) _⟩)
                have l0 := HLB.out.1
                have l1 := HLB.out.2
                go_wp2_with fail
                exact ⟨⟨q + 1, by omega, by go_num, by rw [HSS.out, HSW.out]; simp, by rw [HSS.out, HSW.out]; exact HOO⟩, by simp [intOf]; omega⟩
        · have d3 : decide (q < RN) = false := by rw [decide_eq_false_iff_not]; exact hlq
          obtain rfl : RN = q := by omega
          go_wp2_with fail
          exact ⟨⟨m + 1, by omega, by go_num, by rw [HM.out], by rw [HM.out]; exact hO⟩, by simp [intOf]; omega⟩
    · have d2 : decide (m < RN) = false := by rw [decide_eq_false_iff_not]; exact hlt
      obtain rfl : RN = m := by omega
      rw [HOrd.out]
      go_wp2_with fail
      go_loopw [11] (fun i wr => ∃ p : Nat, p ≤ RN ∧ i = .int .i64 p ∧ Hid (Below w5.heap.size w5 wr)) (fun i _ => RN - (intOf i).toNat)
      case atStart => exact ⟨0, Nat.zero_le _, rfl, Lib.hid hO.out.2⟩
      case round =>
        obtain ⟨p, hp, rfl, hBr⟩ := hrel
        by_cases hlp : p < RN
        · have d3 : decide (p < RN) = true := by rw [decide_eq_true_iff]; exact hlp
          have p1 : (p : Int) < (RN : Int) := by omega
          obtain ⟨⟨q0, q1, q2, q3⟩, he, hBw⟩ := HK.out _ hBr.out
          obtain ⟨r, hr⟩ : ∃ r, rs[p]? = some r := ⟨_, List.getElem?_eq_getElem (by rw [HRN.out]; exact hlp)⟩
          obtain ⟨b, o, rfl, v0, v1, v2, v3, v4, a0, a1, a2, a3, a4, a5, a6, _, _, _, hA, _⟩ := HR.out p r hr
          have hAw := hA.below hBw
          obtain ⟨sa1, sc1, ba1, bc1, rfl, rfl, rfl, rfl, rfl⟩ := hA.five
          have q4 := Nd.cell_keeps hBw a0
          have q5 := Nd.cell_keeps hBw a1
          have q6 := Nd.cell_keeps hBw a2
          have q7 := Nd.cell_keeps hBw a3
          have q8 := Nd.cell_keeps hBw a4
          have q9 := Nd.cell_keeps hBw a5
          have q10 := Nd.cell_keeps hBw a6
          have q11 := he p hlp
          have hFd := Lib.hid (fun (wx : World) (hb : Below wr.heap.size wr wx) => (hFdA.out p r hr wx (hBw.trans (hb.mono hBw.size))).mono (R' := fun e w' => e = .returned (.int .i64 (p : Int)) ∧ Below wr.heap.size wr w') fun e w' ⟨h1, h2⟩ => ⟨h1, hb.trans (h2.mono hb.size)⟩)
          have hSo := Lib.hid (fun (wx : World) (hb : Below wr.heap.size wr wx) => (hSoA.out p r hr (.agg #[.int .u8 r.body.kind, .string r.body.name, .string r.body.text, .slice sa1 r.body.set.length sc1, .slice ba1 r.body.subs.length bc1]) wx (hBw.trans (hb.mono hBw.size)) (hAw.below hb)).mono (R' := fun e w' => e = .returned (.bool true) ∧ Below wr.heap.size wr w') fun e w' ⟨h1, h2⟩ => ⟨h1, hb.trans (h2.mono hb.size)⟩)
          have hFull := HFull.out p r hr
          generalize (emp rs).getD p false = E at *
          have HFu := Lib.hid hFull
          have HBw := Lib.hid hBw
          have HBR := Lib.hid (fun w6 (h : Below wr.heap.size wr w6) => hBr.out.trans (h.mono hBr.out.size))
          have HS := Lib.hid (fun wx (h : Below wr.heap.size wr wx) => show (wx.cell? ⟨w.heap.size, 0, none⟩ = some (.string nm) ∧ wx.cell? ⟨w.heap.size, 1, none⟩ = some (.int .i64 o1) ∧ wx.cell? ⟨w.heap.size, 2, none⟩ = some (.int .i64 o2) ∧ wx.cell? ⟨w.heap.size, 3, none⟩ = some (.slice (some ⟨b, o, none⟩) RN rc) ∧ wx.cell? ⟨b, o + p * 10, none⟩ = some (.string r.name) ∧ wx.cell? ⟨b, o + p * 10 + 1, none⟩ = some (.int .u8 r.sort) ∧ wx.cell? ⟨b, o + p * 10 + 2, none⟩ = some (.int .u8 r.body.kind) ∧ wx.cell? ⟨b, o + p * 10 + 3, none⟩ = some (.string r.body.name) ∧ wx.cell? ⟨b, o + p * 10 + 4, none⟩ = some (.string r.body.text) ∧ wx.cell? ⟨b, o + p * 10 + 5, none⟩ = some (.slice sa1 r.body.set.length sc1) ∧ wx.cell? ⟨b, o + p * 10 + 6, none⟩ = some (.slice ba1 r.body.subs.length bc1) ∧ wx.cell? ⟨eb, p, none⟩ = some (.bool E)) from ⟨Nd.cell_keeps h q0, Nd.cell_keeps h q1, Nd.cell_keeps h q2, Nd.cell_keeps h q3, Nd.cell_keeps h q4, Nd.cell_keeps h q5, Nd.cell_keeps h q6, Nd.cell_keeps h q7, Nd.cell_keeps h q8, Nd.cell_keeps h q9, Nd.cell_keeps h q10, Nd.cell_keeps h q11⟩)
          clear he hBw hA hAw a0 a1 a2 a3 a4 a5 a6 hBr hFull hr
          have hpp : ((p : Int) != (p : Int)) = false := by simp
          go_wp2_with fail
          refine wp_cutL (fun a a' w' => (∃ z102 z103 z104 z105 z106 z107 z108 z109 z110 z111 z112 z113 z114 z115 z116 z117 z118 z119 z120 z121 z122 z123 z124 z125 z126 z127 z128 z129 z130 z131 z132 z133 z134 z135 z136 z137 z138 z139 z140 z141 z142 z143 z144 z145 z146 : Value, a' = ((((((((((((((((((((((((((((((((((((((((((((((a.put (some 102) z102).put (some 103) z103).put (some 104) z104).put (some 105) z105).put (some 106) z106).put (some 107) z107).put (some 108) z108).put (some 109) z109).put (some 110) z110).put (some 111) z111).put (some 112) z112).put (some 113) z113).put (some 114) z114).put (some 115) z115).put (some 116) z116).put (some 117) z117).put (some 118) z118).put (some 119) z119).put (some 120) z120).put (some 121) z121).put (some 122) z122).put (some 123) z123).put (some 124) z124).put (some 125) z125).put (some 126) z126).put (some 127) z127).put (some 128) z128).put (some 129) z129).put (some 130) z130).put (some 131) z131).put (some 132) z132).put (some 133) z133).put (some 134) z134).put (some 135) z135).put (some 136) z136).put (some 137) z137).put (some 138) z138).put (some 139) z139).put (some 140) z140).put (some 141) z141).put (some 142) z142).put (some 143) z143).put (some 144) z144).put (some 145) z145).put (some 146) z146).put (some 147) (.bool false))) ∧ Below wr.heap.size wr w') ?first ?next
          case first =>
            cases E with
            | false =>
              refine wp_region_held_drew (S := fun w' : World => (w'.cell? ⟨w.heap.size, 0, none⟩ = some (.string nm) ∧ w'.cell? ⟨w.heap.size, 1, none⟩ = some (.int .i64 o1) ∧ w'.cell? ⟨w.heap.size, 2, none⟩ = some (.int .i64 o2) ∧ w'.cell? ⟨w.heap.size, 3, none⟩ = some (.slice (some ⟨b, o, none⟩) RN rc) ∧ w'.cell? ⟨b, o + p * 10, none⟩ = some (.string r.name) ∧ w'.cell? ⟨b, o + p * 10 + 1, none⟩ = some (.int .u8 r.sort) ∧ w'.cell? ⟨b, o + p * 10 + 2, none⟩ = some (.int .u8 r.body.kind) ∧ w'.cell? ⟨b, o + p * 10 + 3, none⟩ = some (.string r.body.name) ∧ w'.cell? ⟨b, o + p * 10 + 4, none⟩ = some (.string r.body.text) ∧ w'.cell? ⟨b, o + p * 10 + 5, none⟩ = some (.slice sa1 r.body.set.length sc1) ∧ w'.cell? ⟨b, o + p * 10 + 6, none⟩ = some (.slice ba1 r.body.subs.length bc1) ∧ w'.cell? ⟨eb, p, none⟩ = some (.bool false))) (by kernel_rfl) ⟨q0, q1, q2, q3, q4, q5, q6, q7, q8, q9, q10, q11⟩ (fun hSS => ?_)
              show wpAnyH _ _ _ _ _ 46 #[false, false, false, false, false, false, false, false, false, false, false, false, false, false, false, false, false, false, false, false, false, false, false, false, false, false, false, false, false, false, false, false, false, false, false, false, false, false, false, false, false, false, false, false, false, false] _ _
              refine take_one (i := 0) (d := (some 102)) (v := _) (l' := #[true, false, false, false, false, false, false, false, false, false, false, false, false, false, false, false, false, false, false, false, false, false, false, false, false, false, false, false, false, false, false, false, false, false, false, false, false, false, false, false, false, false, false, false, false, false]) (by rw [List.getElem?_toArray]; rfl) rfl (by kernel_rfl) (by kernel_rfl) (by kernel_rfl) rfl (fun _ _ _ h => h) (Or.inl ⟨by rfl, fun w' hSw => by (try dsimp only at hSw); go_simp; try with_reducible rfl⟩) hSS ?_
              simp only [Act.put, List.setIfInBounds_toArray, List.set_cons_zero, List.set_cons_succ]
              refine take_one (i := 1) (d := (some 103)) (v := _) (l' := #[true, true, false, false, false, false, false, false, false, false, false, false, false, false, false, false, false, false, false, false, false, false, false, false, false, false, false, false, false, false, false, false, false, false, false, false, false, false, false, false, false, false, false, false, false, false]) (by rw [List.getElem?_toArray]; rfl) rfl (by kernel_rfl) (by kernel_rfl) (by kernel_rfl) rfl (fun _ _ _ h => h) (Or.inl ⟨by rfl, fun w' hSw => by (try dsimp only at hSw); go_simp; try with_reducible rfl⟩) hSS ?_
              simp only [Act.put, List.setIfInBounds_toArray, List.set_cons_zero, List.set_cons_succ]
              refine take_one (i := 2) (d := (some 104)) (v := _) (l' := #[true, true, true, false, false, false, false, false, false, false, false, false, false, false, false, false, false, false, false, false, false, false, false, false, false, false, false, false, false, false, false, false, false, false, false, false, false, false, false, false, false, false, false, false, false, false]) (by rw [List.getElem?_toArray]; rfl) rfl (by kernel_rfl) (by kernel_rfl) (by kernel_rfl) rfl (fun _ _ _ h => h) (Or.inl ⟨by rfl, fun w' hSw => by (try dsimp only at hSw); go_simp; try with_reducible rfl⟩) hSS ?_
              simp only [Act.put, List.setIfInBounds_toArray, List.set_cons_zero, List.set_cons_succ]
              refine take_one (i := 3) (d := (some 105)) (v := _) (l' := #[true, true, true, true, false, false, false, false, false, false, false, false, false, false, false, false, false, false, false, false, false, false, false, false, false, false, false, false, false, false, false, false, false, false, false, false, false, false, false, false, false, false, false, false, false, false]) (by rw [List.getElem?_toArray]; rfl) rfl (by kernel_rfl) (by kernel_rfl) (by kernel_rfl) rfl (fun _ _ _ h => h) (Or.inl ⟨by rfl, fun w' hSw => by (try dsimp only at hSw); go_simp; try with_reducible rfl⟩) hSS ?_
              simp only [Act.put, List.setIfInBounds_toArray, List.set_cons_zero, List.set_cons_succ]
              refine take_one (i := 4) (d := (some 106)) (v := _) (l' := #[true, true, true, true, true, false, false, false, false, false, false, false, false, false, false, false, false, false, false, false, false, false, false, false, false, false, false, false, false, false, false, false, false, false, false, false, false, false, false, false, false, false, false, false, false, false]) (by rw [List.getElem?_toArray]; rfl) rfl (by kernel_rfl) (by kernel_rfl) (by kernel_rfl) rfl (fun _ _ _ h => h) (Or.inl ⟨by rfl, fun w' hSw => by (try dsimp only at hSw); go_simp; try with_reducible rfl⟩) hSS ?_
              simp only [Act.put, List.setIfInBounds_toArray, List.set_cons_zero, List.set_cons_succ]
              refine take_one (i := 5) (d := (some 107)) (v := _) (l' := #[true, true, true, true, true, true, false, false, false, false, false, false, false, false, false, false, false, false, false, false, false, false, false, false, false, false, false, false, false, false, false, false, false, false, false, false, false, false, false, false, false, false, false, false, false, false]) (by rw [List.getElem?_toArray]; rfl) rfl (by kernel_rfl) (by kernel_rfl) (by kernel_rfl) rfl (fun _ _ _ h => h) (Or.inl ⟨by rfl, fun w' hSw => by (try dsimp only at hSw); go_simp; try with_reducible rfl⟩) hSS ?_
              simp only [Act.put, List.setIfInBounds_toArray, List.set_cons_zero, List.set_cons_succ]
              refine take_one (i := 6) (d := (some 108)) (v := _) (l' := #[true, true, true, true, true, true, true, false, false, false, false, false, false, false, false, false, false, false, false, false, false, false, false, false, false, false, false, false, false, false, false, false, false, false, false, false, false, false, false, false, false, false, false, false, false, false]) (by rw [List.getElem?_toArray]; rfl) rfl (by kernel_rfl) (by kernel_rfl) (by kernel_rfl) rfl (fun _ _ _ h => h) (Or.inl ⟨by rfl, fun w' hSw => by (try dsimp only at hSw); go_simp; try with_reducible rfl⟩) hSS ?_
              simp only [Act.put, List.setIfInBounds_toArray, List.set_cons_zero, List.set_cons_succ]
              refine take_one (i := 8) (d := (some 110)) (v := _) (l' := #[true, true, true, true, true, true, true, false, true, false, false, false, false, false, false, false, false, false, false, false, false, false, false, false, false, false, false, false, false, false, false, false, false, false, false, false, false, false, false, false, false, false, false, false, false, false]) (by rw [List.getElem?_toArray]; rfl) rfl (by kernel_rfl) (by kernel_rfl) (by kernel_rfl) rfl (fun _ _ _ h => h) (Or.inl ⟨by rfl, fun w' hSw => by (try dsimp only at hSw); go_simp; try with_reducible rfl⟩) hSS ?_
              simp only [Act.put, List.setIfInBounds_toArray, List.set_cons_zero, List.set_cons_succ]
              refine come_one (i := 7) (l' := #[true, true, true, true, true, true, true, true, true, false, false, false, false, false, false, false, false, false, false, false, false, false, false, false, false, false, false, false, false, false, false, false, false, false, false, false, false, false, false, false, false, false, false, false, false, false]) (by rw [List.getElem?_toArray]; rfl) (by kernel_rfl) rfl (fun K' hK => ?_)
              go_simp
              go_at_call 11
              refine (hFd.out _ (Below.refl _ _).drew).mono ?_
              rintro e w5 ⟨rfl, hb5⟩
              have hS5 := HS.out w5 hb5
              refine hK.out _ _ hS5 (fun hSS => ?_)
              try simp only [Act.put, List.setIfInBounds_toArray, List.set_cons_zero, List.set_cons_succ]
              refine take_one (i := 9) (d := (some 111)) (v := _) (l' := #[true, true, true, true, true, true, true, true, true, true, false, false, false, false, false, false, false, false, false, false, false, false, false, false, false, false, false, false, false, false, false, false, false, false, false, false, false, false, false, false, false, false, false, false, false, false]) (by rw [List.getElem?_toArray]; rfl) rfl (by kernel_rfl) (by kernel_rfl) (by kernel_rfl) rfl (fun _ _ _ h => h) (Or.inl ⟨by rfl, fun w' hSw => by (try dsimp only at hSw); go_simp; try with_reducible rfl⟩) hSS ?_
              simp only [Act.put, List.setIfInBounds_toArray, List.set_cons_zero, List.set_cons_succ]
              refine take_one (i := 10) (d := (some 112)) (v := _) (l' := #[true, true, true, true, true, true, true, true, true, true, true, false, false, false, false, false, false, false, false, false, false, false, false, false, false, false, false, false, false, false, false, false, false, false, false, false, false, false, false, false, false, false, false, false, false, false]) (by rw [List.getElem?_toArray]; rfl) rfl (by kernel_rfl) (by kernel_rfl) (by kernel_rfl) rfl (fun _ _ _ h => h) (Or.inl ⟨by rfl, fun w' hSw => by (try dsimp only at hSw); go_simp; try with_reducible rfl⟩) hSS ?_
              simp only [Act.put, List.setIfInBounds_toArray, List.set_cons_zero, List.set_cons_succ]
              refine take_one (i := 11) (d := (some 113)) (v := _) (l' := #[true, true, true, true, true, true, true, true, true, true, true, true, false, false, false, false, false, false, false, false, false, false, false, false, false, false, false, false, false, false, false, false, false, false, false, false, false, false, false, false, false, false, false, false, false, false]) (by rw [List.getElem?_toArray]; rfl) rfl (by kernel_rfl) (by kernel_rfl) (by kernel_rfl) rfl (fun _ _ _ h => h) (Or.inl ⟨by rfl, fun w' hSw => by (try dsimp only at hSw); go_simp; try with_reducible rfl⟩) hSS ?_
              simp only [Act.put, List.setIfInBounds_toArray, List.set_cons_zero, List.set_cons_succ]
              refine take_one (i := 12) (d := (some 114)) (v := _) (l' := #[true, true, true, true, true, true, true, true, true, true, true, true, true, false, false, false, false, false, false, false, false, false, false, false, false, false, false, false, false, false, false, false, false, false, false, false, false, false, false, false, false, false, false, false, false, false]) (by rw [List.getElem?_toArray]; rfl) rfl (by kernel_rfl) (by kernel_rfl) (by kernel_rfl) rfl (fun _ _ _ h => h) (Or.inl ⟨by rfl, fun w' hSw => by (try dsimp only at hSw); go_simp; try with_reducible rfl⟩) hSS ?_
              simp only [Act.put, List.setIfInBounds_toArray, List.set_cons_zero, List.set_cons_succ]
              refine take_one (i := 13) (d := (some 115)) (v := _) (l' := #[true, true, true, true, true, true, true, true, true, true, true, true, true, true, false, false, false, false, false, false, false, false, false, false, false, false, false, false, false, false, false, false, false, false, false, false, false, false, false, false, false, false, false, false, false, false]) (by rw [List.getElem?_toArray]; rfl) rfl (by kernel_rfl) (by kernel_rfl) (by kernel_rfl) rfl (fun _ _ _ h => h) (Or.inl ⟨by rfl, fun w' hSw => by (try dsimp only at hSw); go_simp; try with_reducible rfl⟩) hSS ?_
              simp only [Act.put, List.setIfInBounds_toArray, List.set_cons_zero, List.set_cons_succ]
              refine take_one (i := 14) (d := (some 116)) (v := _) (l' := #[true, true, true, true, true, true, true, true, true, true, true, true, true, true, true, false, false, false, false, false, false, false, false, false, false, false, false, false, false, false, false, false, false, false, false, false, false, false, false, false, false, false, false, false, false, false]) (by rw [List.getElem?_toArray]; rfl) rfl (by kernel_rfl) (by kernel_rfl) (by kernel_rfl) rfl (fun _ _ _ h => h) (Or.inl ⟨by rfl, fun w' hSw => by (try dsimp only at hSw); go_simp; try with_reducible rfl⟩) hSS ?_
              simp only [Act.put, List.setIfInBounds_toArray, List.set_cons_zero, List.set_cons_succ]
              refine take_one (i := 15) (d := (some 117)) (v := _) (l' := #[true, true, true, true, true, true, true, true, true, true, true, true, true, true, true, true, false, false, false, false, false, false, false, false, false, false, false, false, false, false, false, false, false, false, false, false, false, false, false, false, false, false, false, false, false, false]) (by rw [List.getElem?_toArray]; rfl) rfl (by kernel_rfl) (by kernel_rfl) (by kernel_rfl) rfl (fun _ _ _ h => h) (Or.inl ⟨by rfl, fun w' hSw => by (try dsimp only at hSw); go_simp; try with_reducible rfl⟩) hSS ?_
              simp only [Act.put, List.setIfInBounds_toArray, List.set_cons_zero, List.set_cons_succ]
              refine take_one (i := 16) (d := (some 118)) (v := undef) (l' := #[true, true, true, true, true, true, true, true, true, true, true, true, true, true, true, true, true, false, false, false, false, false, false, false, false, false, false, false, false, false, false, false, false, false, false, false, false, false, false, false, false, false, false, false, false, false]) (by rw [List.getElem?_toArray]; rfl) rfl (by kernel_rfl) (by kernel_rfl) (by kernel_rfl) rfl (fun _ _ _ h => h) (Or.inr ⟨by rfl, rfl⟩) hSS ?_
              simp only [Act.put, List.setIfInBounds_toArray, List.set_cons_zero, List.set_cons_succ]
              refine take_one (i := 17) (d := (some 119)) (v := undef) (l' := #[true, true, true, true, true, true, true, true, true, true, true, true, true, true, true, true, true, true, false, false, false, false, false, false, false, false, false, false, false, false, false, false, false, false, false, false, false, false, false, false, false, false, false, false, false, false]) (by rw [List.getElem?_toArray]; rfl) rfl (by kernel_rfl) (by kernel_rfl) (by kernel_rfl) rfl (fun _ _ _ h => h) (Or.inr ⟨by rfl, rfl⟩) hSS ?_
              simp only [Act.put, List.setIfInBounds_toArray, List.set_cons_zero, List.set_cons_succ]
              refine take_one (i := 18) (d := (some 120)) (v := undef) (l' := #[true, true, true, true, true, true, true, true, true, true, true, true, true, true, true, true, true, true, true, false, false, false, false, false, false, false, false, false, false, false, false, false, false, false, false, false, false, false, false, false, false, false, false, false, false, false]) (by rw [List.getElem?_toArray]; rfl) rfl (by kernel_rfl) (by kernel_rfl) (by kernel_rfl) rfl (fun _ _ _ h => h) (Or.inr ⟨by rfl, rfl⟩) hSS ?_
              simp only [Act.put, List.setIfInBounds_toArray, List.set_cons_zero, List.set_cons_succ]
              refine take_one (i := 19) (d := (some 121)) (v := undef) (l' := #[true, true, true, true, true, true, true, true, true, true, true, true, true, true, true, true, true, true, true, true, false, false, false, false, false, false, false, false, false, false, false, false, false, false, false, false, false, false, false, false, false, false, false, false, false, false]) (by rw [List.getElem?_toArray]; rfl) rfl (by kernel_rfl) (by kernel_rfl) (by kernel_rfl) rfl (fun _ _ _ h => h) (Or.inr ⟨by rfl, rfl⟩) hSS ?_
              simp only [Act.put, List.setIfInBounds_toArray, List.set_cons_zero, List.set_cons_succ]
              refine take_one (i := 20) (d := (some 122)) (v := undef) (l' := #[true, true, true, true, true, true, true, true, true, true, true, true, true, true, true, true, true, true, true, true, true, false, false, false, false, false, false, false, false, false, false, false, false, false, false, false, false, false, false, false, false, false, false, false, false, false]) (by rw [List.getElem?_toArray]; rfl) rfl (by kernel_rfl) (by kernel_rfl) (by kernel_rfl) rfl (fun _ _ _ h => h) (Or.inr ⟨by rfl, rfl⟩) hSS ?_
              simp only [Act.put, List.setIfInBounds_toArray, List.set_cons_zero, List.set_cons_succ]
              refine take_one (i := 21) (d := (some 123)) (v := undef) (l' := #[true, true, true, true, true, true, true, true, true, true, true, true, true, true, true, true, true, true, true, true, true, true, false, false, false, false, false, false, false, false, false, false, false, false, false, false, false, false, false, false, false, false, false, false, false, false]) (by rw [List.getElem?_toArray]; rfl) rfl (by kernel_rfl) (by kernel_rfl) (by kernel_rfl) rfl (fun _ _ _ h => h) (Or.inr ⟨by rfl, rfl⟩) hSS ?_
              simp only [Act.put, List.setIfInBounds_toArray, List.set_cons_zero, List.set_cons_succ]
              refine take_one (i := 22) (d := (some 124)) (v := undef) (l' := #[true, true, true, true, true, true, true, true, true, true, true, true, true, true, true, true, true, true, true, true, true, true, true, false, false, false, false, false, false, false, false, false, false, false, false, false, false, false, false, false, false, false, false, false, false, false]) (by rw [List.getElem?_toArray]; rfl) rfl (by kernel_rfl) (by kernel_rfl) (by kernel_rfl) rfl (fun _ _ _ h => h) (Or.inr ⟨by rfl, rfl⟩) hSS ?_
              simp only [Act.put, List.setIfInBounds_toArray, List.set_cons_zero, List.set_cons_succ]
              refine take_one (i := 23) (d := (some 125)) (v := undef) (l' := #[true, true, true, true, true, true, true, true, true, true, true, true, true, true, true, true, true, true, true, true, true, true, true, true, false, false, false, false, false, false, false, false, false, false, false, false, false, false, false, false, false, false, false, false, false, false]) (by rw [List.getElem?_toArray]; rfl) rfl (by kernel_rfl) (by kernel_rfl) (by kernel_rfl) rfl (fun _ _ _ h => h) (Or.inr ⟨by rfl, rfl⟩) hSS ?_
              simp only [Act.put, List.setIfInBounds_toArray, List.set_cons_zero, List.set_cons_succ]
              refine take_one (i := 24) (d := (some 126)) (v := undef) (l' := #[true, true, true, true, true, true, true, true, true, true, true, true, true, true, true, true, true, true, true, true, true, true, true, true, true, false, false, false, false, false, false, false, false, false, false, false, false, false, false, false, false, false, false, false, false, false]) (by rw [List.getElem?_toArray]; rfl) rfl (by kernel_rfl) (by kernel_rfl) (by kernel_rfl) rfl (fun _ _ _ h => h) (Or.inr ⟨by rfl, rfl⟩) hSS ?_
              simp only [Act.put, List.setIfInBounds_toArray, List.set_cons_zero, List.set_cons_succ]
              refine take_one (i := 25) (d := (some 127)) (v := undef) (l' := #[true, true, true, true, true, true, true, true, true, true, true, true, true, true, true, true, true, true, true, true, true, true, true, true, true, true, false, false, false, false, false, false, false, false, false, false, false, false, false, false, false, false, false, false, false, false]) (by rw [List.getElem?_toArray]; rfl) rfl (by kernel_rfl) (by kernel_rfl) (by kernel_rfl) rfl (fun _ _ _ h => h) (Or.inr ⟨by rfl, rfl⟩) hSS ?_
              simp only [Act.put, List.setIfInBounds_toArray, List.set_cons_zero, List.set_cons_succ]
              refine take_one (i := 26) (d := (some 128)) (v := undef) (l' := #[true, true, true, true, true, true, true, true, true, true, true, true, true, true, true, true, true, true, true, true, true, true, true, true, true, true, true, false, false, false, false, false, false, false, false, false, false, false, false, false, false, false, false, false, false, false]) (by rw [List.getElem?_toArray]; rfl) rfl (by kernel_rfl) (by kernel_rfl) (by kernel_rfl) rfl (fun _ _ _ h => h) (Or.inr ⟨by rfl, rfl⟩) hSS ?_
              simp only [Act.put, List.setIfInBounds_toArray, List.set_cons_zero, List.set_cons_succ]
              refine take_one (i := 27) (d := (some 129)) (v := undef) (l' := #[true, true, true, true, true, true, true, true, true, true, true, true, true, true, true, true, true, true, true, true, true, true, true, true, true, true, true, true, false, false, false, false, false, false, false, false, false, false, false, false, false, false, false, false, false, false]) (by rw [List.getElem?_toArray]; rfl) rfl (by kernel_rfl) (by kernel_rfl) (by kernel_rfl) rfl (fun _ _ _ h => h) (Or.inr ⟨by rfl, rfl⟩) hSS ?_
              simp only [Act.put, List.setIfInBounds_toArray, List.set_cons_zero, List.set_cons_succ]
              refine take_one (i := 28) (d := (some 130)) (v := undef) (l' := #[true, true, true, true, true, true, true, true, true, true, true, true, true, true, true, true, true, true, true, true, true, true, true, true, true, true, true, true, true, false, false, false, false, false, false, false, false, false, false, false, false, false, false, false, false, false]) (by rw [List.getElem?_toArray]; rfl) rfl (by kernel_rfl) (by kernel_rfl) (by kernel_rfl) rfl (fun _ _ _ h => h) (Or.inr ⟨by rfl, rfl⟩) hSS ?_
              simp only [Act.put, List.setIfInBounds_toArray, List.set_cons_zero, List.set_cons_succ]
              refine take_one (i := 29) (d := (some 131)) (v := undef) (l' := #[true, true, true, true, true, true, true, true, true, true, true, true, true, true, true, true, true, true, true, true, true, true, true, true, true, true, true, true, true, true, false, false, false, false, false, false, false, false, false, false, false, false, false, false, false, false]) (by rw [List.getElem?_toArray]; rfl) rfl (by kernel_rfl) (by kernel_rfl) (by kernel_rfl) rfl (fun _ _ _ h => h) (Or.inr ⟨by rfl, rfl⟩) hSS ?_
              simp only [Act.put, List.setIfInBounds_toArray, List.set_cons_zero, List.set_cons_succ]
              refine take_one (i := 30) (d := (some 132)) (v := undef) (l' := #[true, true, true, true, true, true, true, true, true, true, true, true, true, true, true, true, true, true, true, true, true, true, true, true, true, true, true, true, true, true, true, false, false, false, false, false, false, false, false, false, false, false, false, false, false, false]) (by rw [List.getElem?_toArray]; rfl) rfl (by kernel_rfl) (by kernel_rfl) (by kernel_rfl) rfl (fun _ _ _ h => h) (Or.inr ⟨by rfl, rfl⟩) hSS ?_
              simp only [Act.put, List.setIfInBounds_toArray, List.set_cons_zero, List.set_cons_succ]
              refine take_one (i := 31) (d := (some 133)) (v := undef) (l' := #[true, true, true, true, true, true, true, true, true, true, true, true, true, true, true, true, true, true, true, true, true, true, true, true, true, true, true, true, true, true, true, true, false, false, false, false, false, false, false, false, false, false, false, false, false, false]) (by rw [List.getElem?_toArray]; rfl) rfl (by kernel_rfl) (by kernel_rfl) (by kernel_rfl) rfl (fun _ _ _ h => h) (Or.inr ⟨by rfl, rfl⟩) hSS ?_
              simp only [Act.put, List.setIfInBounds_toArray, List.set_cons_zero, List.set_cons_succ]
              refine take_one (i := 32) (d := (some 134)) (v := _) (l' := #[true, true, true, true, true, true, true, true, true, true, true, true, true, true, true, true, true, true, true, true, true, true, true, true, true, true, true, true, true, true, true, true, true, false, false, false, false, false, false, false, false, false, false, false, false, false]) (by rw [List.getElem?_toArray]; rfl) rfl (by kernel_rfl) (by kernel_rfl) (by kernel_rfl) rfl (fun _ _ _ h => h) (Or.inl ⟨by rfl, fun w' hSw => by (try dsimp only at hSw); go_simp; try with_reducible rfl⟩) hSS ?_
              simp only [Act.put, List.setIfInBounds_toArray, List.set_cons_zero, List.set_cons_succ]
              refine take_one (i := 33) (d := (some 135)) (v := _) (l' := #[true, true, true, true, true, true, true, true, true, true, true, true, true, true, true, true, true, true, true, true, true, true, true, true, true, true, true, true, true, true, true, true, true, true, false, false, false, false, false, false, false, false, false, false, false, false]) (by rw [List.getElem?_toArray]; rfl) rfl (by kernel_rfl) (by kernel_rfl) (by kernel_rfl) rfl (fun _ _ _ h => h) (Or.inl ⟨by rfl, fun w' hSw => by (try dsimp only at hSw); go_simp; try with_reducible rfl⟩) hSS ?_
              simp only [Act.put, List.setIfInBounds_toArray, List.set_cons_zero, List.set_cons_succ]
              refine take_one (i := 34) (d := (some 136)) (v := _) (l' := #[true, true, true, true, true, true, true, true, true, true, true, true, true, true, true, true, true, true, true, true, true, true, true, true, true, true, true, true, true, true, true, true, true, true, true, false, false, false, false, false, false, false, false, false, false, false]) (by rw [List.getElem?_toArray]; rfl) rfl (by kernel_rfl) (by kernel_rfl) (by kernel_rfl) rfl (fun _ _ _ h => h) (Or.inl ⟨by rfl, fun w' hSw => by (try dsimp only at hSw); go_simp; try with_reducible rfl⟩) hSS ?_
              simp only [Act.put, List.setIfInBounds_toArray, List.set_cons_zero, List.set_cons_succ]
              refine take_one (i := 35) (d := (some 137)) (v := _) (l' := #[true, true, true, true, true, true, true, true, true, true, true, true, true, true, true, true, true, true, true, true, true, true, true, true, true, true, true, true, true, true, true, true, true, true, true, true, false, false, false, false, false, false, false, false, false, false]) (by rw [List.getElem?_toArray]; rfl) rfl (by kernel_rfl) (by kernel_rfl) (by kernel_rfl) rfl (fun _ _ _ h => h) (Or.inl ⟨by rfl, fun w' hSw => by (try dsimp only at hSw); go_simp; try with_reducible rfl⟩) hSS ?_
              simp only [Act.put, List.setIfInBounds_toArray, List.set_cons_zero, List.set_cons_succ]
              refine take_one (i := 36) (d := (some 138)) (v := _) (l' := #[true, true, true, true, true, true, true, true, true, true, true, true, true, true, true, true, true, true, true, true, true, true, true, true, true, true, true, true, true, true, true, true, true, true, true, true, true, false, false, false, false, false, false, false, false, false]) (by rw [List.getElem?_toArray]; rfl) rfl (by kernel_rfl) (by kernel_rfl) (by kernel_rfl) rfl (fun _ _ _ h => h) (Or.inl ⟨by rfl, fun w' hSw => by (try dsimp only at hSw); go_simp; try with_reducible rfl⟩) hSS ?_
              simp only [Act.put, List.setIfInBounds_toArray, List.set_cons_zero, List.set_cons_succ]
              refine take_one (i := 37) (d := (some 139)) (v := _) (l' := #[true, true, true, true, true, true, true, true, true, true, true, true, true, true, true, true, true, true, true, true, true, true, true, true, true, true, true, true, true, true, true, true, true, true, true, true, true, true, false, false, false, false, false, false, false, false]) (by rw [List.getElem?_toArray]; rfl) rfl (by kernel_rfl) (by kernel_rfl) (by kernel_rfl) rfl (fun _ _ _ h => h) (Or.inl ⟨by rfl, fun w' hSw => by (try dsimp only at hSw); go_simp; try with_reducible rfl⟩) hSS ?_
              simp only [Act.put, List.setIfInBounds_toArray, List.set_cons_zero, List.set_cons_succ]
              refine take_one (i := 38) (d := (some 140)) (v := _) (l' := #[true, true, true, true, true, true, true, true, true, true, true, true, true, true, true, true, true, true, true, true, true, true, true, true, true, true, true, true, true, true, true, true, true, true, true, true, true, true, true, false, false, false, false, false, false, false]) (by rw [List.getElem?_toArray]; rfl) rfl (by kernel_rfl) (by kernel_rfl) (by kernel_rfl) rfl (fun _ _ _ h => h) (Or.inl ⟨by rfl, fun w' hSw => by (try dsimp only at hSw); go_simp; try with_reducible rfl⟩) hSS ?_
              simp only [Act.put, List.setIfInBounds_toArray, List.set_cons_zero, List.set_cons_succ]
              refine take_one (i := 39) (d := (some 141)) (v := _) (l' := #[true, true, true, true, true, true, true, true, true, true, true, true, true, true, true, true, true, true, true, true, true, true, true, true, true, true, true, true, true, true, true, true, true, true, true, true, true, true, true, true, false, false, false, false, false, false]) (by rw [List.getElem?_toArray]; rfl) rfl (by kernel_rfl) (by kernel_rfl) (by kernel_rfl) rfl (fun _ _ _ h => h) (Or.inl ⟨by rfl, fun w' hSw => by (try dsimp only at hSw); go_simp; try with_reducible rfl⟩) hSS ?_
              simp only [Act.put, List.setIfInBounds_toArray, List.set_cons_zero, List.set_cons_succ]
              refine take_one (i := 40) (d := (some 142)) (v := _) (l' := #[true, true, true, true, true, true, true, true, true, true, true, true, true, true, true, true, true, true, true, true, true, true, true, true, true, true, true, true, true, true, true, true, true, true, true, true, true, true, true, true, true, false, false, false, false, false]) (by rw [List.getElem?_toArray]; rfl) rfl (by kernel_rfl) (by kernel_rfl) (by kernel_rfl) rfl (fun _ _ _ h => h) (Or.inl ⟨by rfl, fun w' hSw => by (try dsimp only at hSw); go_simp; try with_reducible rfl⟩) hSS ?_
              simp only [Act.put, List.setIfInBounds_toArray, List.set_cons_zero, List.set_cons_succ]
              refine take_one (i := 41) (d := (some 143)) (v := _) (l' := #[true, true, true, true, true, true, true, true, true, true, true, true, true, true, true, true, true, true, true, true, true, true, true, true, true, true, true, true, true, true, true, true, true, true, true, true, true, true, true, true, true, true, false, false, false, false]) (by rw [List.getElem?_toArray]; rfl) rfl (by kernel_rfl) (by kernel_rfl) (by kernel_rfl) rfl (fun _ _ _ h => h) (Or.inl ⟨by rfl, fun w' hSw => by (try dsimp only at hSw); go_simp; try with_reducible rfl⟩) hSS ?_
              simp only [Act.put, List.setIfInBounds_toArray, List.set_cons_zero, List.set_cons_succ]
              refine take_one (i := 42) (d := (some 144)) (v := _) (l' := #[true, true, true, true, true, true, true, true, true, true, true, true, true, true, true, true, true, true, true, true, true, true, true, true, true, true, true, true, true, true, true, true, true, true, true, true, true, true, true, true, true, true, true, false, false, false]) (by rw [List.getElem?_toArray]; rfl) rfl (by kernel_rfl) (by kernel_rfl) (by kernel_rfl) rfl (fun _ _ _ h => h) (Or.inl ⟨by rfl, fun w' hSw => by (try dsimp only at hSw); go_simp; try with_reducible rfl⟩) hSS ?_
              simp only [Act.put, List.setIfInBounds_toArray, List.set_cons_zero, List.set_cons_succ]
              refine come_one (i := 43) (l' := #[true, true, true, true, true, true, true, true, true, true, true, true, true, true, true, true, true, true, true, true, true, true, true, true, true, true, true, true, true, true, true, true, true, true, true, true, true, true, true, true, true, true, true, true, false, false]) (by rw [List.getElem?_toArray]; rfl) (by kernel_rfl) rfl (fun K' hK => ?_)
              go_simp
              go_at_call 12
              refine (hSo.out _ hb5).mono ?_
              rintro e w6 ⟨rfl, hb6⟩
              have hS6 := HS.out w6 hb6
              refine hK.out _ _ hS6 (fun hSS => ?_)
              try simp only [Act.put, List.setIfInBounds_toArray, List.set_cons_zero, List.set_cons_succ]
              refine take_one (i := 44) (d := (some 146)) (v := _) (l' := #[true, true, true, true, true, true, true, true, true, true, true, true, true, true, true, true, true, true, true, true, true, true, true, true, true, true, true, true, true, true, true, true, true, true, true, true, true, true, true, true, true, true, true, true, true, false]) (by rw [List.getElem?_toArray]; rfl) rfl (by kernel_rfl) (by kernel_rfl) (by kernel_rfl) rfl (fun _ _ _ h => h) (Or.inl ⟨by rfl, fun w' hSw => by (try dsimp only at hSw); go_simp; try with_reducible rfl⟩) hSS ?_
              simp only [Act.put, List.setIfInBounds_toArray, List.set_cons_zero, List.set_cons_succ]
              refine take_one (i := 45) (d := (some 147)) (v := _) (l' := #[true, true, true, true, true, true, true, true, true, true, true, true, true, true, true, true, true, true, true, true, true, true, true, true, true, true, true, true, true, true, true, true, true, true, true, true, true, true, true, true, true, true, true, true, true, true]) (by rw [List.getElem?_toArray]; rfl) rfl (by kernel_rfl) (by kernel_rfl) (by kernel_rfl) rfl (fun _ _ _ h => h) (Or.inl ⟨by rfl, fun w' hSw => by (try dsimp only at hSw); go_simp; try with_reducible rfl⟩) hSS ?_
              simp only [Act.put, List.setIfInBounds_toArray, List.set_cons_zero, List.set_cons_succ]
              refine wpAnyH_done (by kernel_rfl) ?_ _
              exact ⟨⟨_, _, _, _, _, _, _, _, _, _, _, _, _, _, _, _, _, _, _, _, _, _, _, _, _, _, _, _, _, _, _, _, _, _, _, _, _, _, _, _, _, _, _, _, _, rfl⟩, hb6⟩
            | true =>
              have hs1 : (r.sort == 1) = false := by have := (HFu.out rfl).1; simpa using this
              have hs3 : (r.sort == 3) = false := by have := (HFu.out rfl).2; simpa using this
              refine wp_region_held_drew (S := fun w' : World => (w'.cell? ⟨w.heap.size, 0, none⟩ = some (.string nm) ∧ w'.cell? ⟨w.heap.size, 1, none⟩ = some (.int .i64 o1) ∧ w'.cell? ⟨w.heap.size, 2, none⟩ = some (.int .i64 o2) ∧ w'.cell? ⟨w.heap.size, 3, none⟩ = some (.slice (some ⟨b, o, none⟩) RN rc) ∧ w'.cell? ⟨b, o + p * 10, none⟩ = some (.string r.name) ∧ w'.cell? ⟨b, o + p * 10 + 1, none⟩ = some (.int .u8 r.sort) ∧ w'.cell? ⟨b, o + p * 10 + 2, none⟩ = some (.int .u8 r.body.kind) ∧ w'.cell? ⟨b, o + p * 10 + 3, none⟩ = some (.string r.body.name) ∧ w'.cell? ⟨b, o + p * 10 + 4, none⟩ = some (.string r.body.text) ∧ w'.cell? ⟨b, o + p * 10 + 5, none⟩ = some (.slice sa1 r.body.set.length sc1) ∧ w'.cell? ⟨b, o + p * 10 + 6, none⟩ = some (.slice ba1 r.body.subs.length bc1) ∧ w'.cell? ⟨eb, p, none⟩ = some (.bool true))) (by kernel_rfl) ⟨q0, q1, q2, q3, q4, q5, q6, q7, q8, q9, q10, q11⟩ (fun hSS => ?_)
              show wpAnyH _ _ _ _ _ 46 #[false, false, false, false, false, false, false, false, false, false, false, false, false, false, false, false, false, false, false, false, false, false, false, false, false, false, false, false, false, false, false, false, false, false, false, false, false, false, false, false, false, false, false, false, false, false] _ _
              refine take_one (i := 0) (d := (some 102)) (v := _) (l' := #[true, false, false, false, false, false, false, false, false, false, false, false, false, false, false, false, false, false, false, false, false, false, false, false, false, false, false, false, false, false, false, false, false, false, false, false, false, false, false, false, false, false, false, false, false, false]) (by rw [List.getElem?_toArray]; rfl) rfl (by kernel_rfl) (by kernel_rfl) (by kernel_rfl) rfl (fun _ _ _ h => h) (Or.inl ⟨by rfl, fun w' hSw => by (try dsimp only at hSw); go_simp; try with_reducible rfl⟩) hSS ?_
              simp only [Act.put, List.setIfInBounds_toArray, List.set_cons_zero, List.set_cons_succ]
              refine take_one (i := 1) (d := (some 103)) (v := _) (l' := #[true, true, false, false, false, false, false, false, false, false, false, false, false, false, false, false, false, false, false, false, false, false, false, false, false, false, false, false, false, false, false, false, false, false, false, false, false, false, false, false, false, false, false, false, false, false]) (by rw [List.getElem?_toArray]; rfl) rfl (by kernel_rfl) (by kernel_rfl) (by kernel_rfl) rfl (fun _ _ _ h => h) (Or.inl ⟨by rfl, fun w' hSw => by (try dsimp only at hSw); go_simp; try with_reducible rfl⟩) hSS ?_
              simp only [Act.put, List.setIfInBounds_toArray, List.set_cons_zero, List.set_cons_succ]
              refine take_one (i := 2) (d := (some 104)) (v := _) (l' := #[true, true, true, false, false, false, false, false, false, false, false, false, false, false, false, false, false, false, false, false, false, false, false, false, false, false, false, false, false, false, false, false, false, false, false, false, false, false, false, false, false, false, false, false, false, false]) (by rw [List.getElem?_toArray]; rfl) rfl (by kernel_rfl) (by kernel_rfl) (by kernel_rfl) rfl (fun _ _ _ h => h) (Or.inl ⟨by rfl, fun w' hSw => by (try dsimp only at hSw); go_simp; try with_reducible rfl⟩) hSS ?_
              simp only [Act.put, List.setIfInBounds_toArray, List.set_cons_zero, List.set_cons_succ]
              refine take_one (i := 3) (d := (some 105)) (v := _) (l' := #[true, true, true, true, false, false, false, false, false, false, false, false, false, false, false, false, false, false, false, false, false, false, false, false, false, false, false, false, false, false, false, false, false, false, false, false, false, false, false, false, false, false, false, false, false, false]) (by rw [List.getElem?_toArray]; rfl) rfl (by kernel_rfl) (by kernel_rfl) (by kernel_rfl) rfl (fun _ _ _ h => h) (Or.inl ⟨by rfl, fun w' hSw => by (try dsimp only at hSw); go_simp; try with_reducible rfl⟩) hSS ?_
              simp only [Act.put, List.setIfInBounds_toArray, List.set_cons_zero, List.set_cons_succ]
              refine take_one (i := 4) (d := (some 106)) (v := _) (l' := #[true, true, true, true, true, false, false, false, false, false, false, false, false, false, false, false, false, false, false, false, false, false, false, false, false, false, false, false, false, false, false, false, false, false, false, false, false, false, false, false, false, false, false, false, false, false]) (by rw [List.getElem?_toArray]; rfl) rfl (by kernel_rfl) (by kernel_rfl) (by kernel_rfl) rfl (fun _ _ _ h => h) (Or.inl ⟨by rfl, fun w' hSw => by (try dsimp only at hSw); go_simp; try with_reducible rfl⟩) hSS ?_
              simp only [Act.put, List.setIfInBounds_toArray, List.set_cons_zero, List.set_cons_succ]
              refine take_one (i := 5) (d := (some 107)) (v := _) (l' := #[true, true, true, true, true, true, false, false, false, false, false, false, false, false, false, false, false, false, false, false, false, false, false, false, false, false, false, false, false, false, false, false, false, false, false, false, false, false, false, false, false, false, false, false, false, false]) (by rw [List.getElem?_toArray]; rfl) rfl (by kernel_rfl) (by kernel_rfl) (by kernel_rfl) rfl (fun _ _ _ h => h) (Or.inl ⟨by rfl, fun w' hSw => by (try dsimp only at hSw); go_simp; try with_reducible rfl⟩) hSS ?_
              simp only [Act.put, List.setIfInBounds_toArray, List.set_cons_zero, List.set_cons_succ]
              refine take_one (i := 6) (d := (some 108)) (v := _) (l' := #[true, true, true, true, true, true, true, false, false, false, false, false, false, false, false, false, false, false, false, false, false, false, false, false, false, false, false, false, false, false, false, false, false, false, false, false, false, false, false, false, false, false, false, false, false, false]) (by rw [List.getElem?_toArray]; rfl) rfl (by kernel_rfl) (by kernel_rfl) (by kernel_rfl) rfl (fun _ _ _ h => h) (Or.inl ⟨by rfl, fun w' hSw => by (try dsimp only at hSw); go_simp; try with_reducible rfl⟩) hSS ?_
              simp only [Act.put, List.setIfInBounds_toArray, List.set_cons_zero, List.set_cons_succ]
              refine take_one (i := 8) (d := (some 110)) (v := _) (l' := #[true, true, true, true, true, true, true, false, true, false, false, false, false, false, false, false, false, false, false, false, false, false, false, false, false, false, false, false, false, false, false, false, false, false, false, false, false, false, false, false, false, false, false, false, false, false]) (by rw [List.getElem?_toArray]; rfl) rfl (by kernel_rfl) (by kernel_rfl) (by kernel_rfl) rfl (fun _ _ _ h => h) (Or.inl ⟨by rfl, fun w' hSw => by (try dsimp only at hSw); go_simp; try with_reducible rfl⟩) hSS ?_
              simp only [Act.put, List.setIfInBounds_toArray, List.set_cons_zero, List.set_cons_succ]
              refine come_one (i := 7) (l' := #[true, true, true, true, true, true, true, true, true, false, false, false, false, false, false, false, false, false, false, false, false, false, false, false, false, false, false, false, false, false, false, false, false, false, false, false, false, false, false, false, false, false, false, false, false, false]) (by rw [List.getElem?_toArray]; rfl) (by kernel_rfl) rfl (fun K' hK => ?_)
              go_simp
              go_at_call 11
              refine (hFd.out _ (Below.refl _ _).drew).mono ?_
              rintro e w5 ⟨rfl, hb5⟩
              have hS5 := HS.out w5 hb5
              refine hK.out _ _ hS5 (fun hSS => ?_)
              try simp only [Act.put, List.setIfInBounds_toArray, List.set_cons_zero, List.set_cons_succ]
              refine take_one (i := 9) (d := (some 111)) (v := _) (l' := #[true, true, true, true, true, true, true, true, true, true, false, false, false, false, false, false, false, false, false, false, false, false, false, false, false, false, false, false, false, false, false, false, false, false, false, false, false, false, false, false, false, false, false, false, false, false]) (by rw [List.getElem?_toArray]; rfl) rfl (by kernel_rfl) (by kernel_rfl) (by kernel_rfl) rfl (fun _ _ _ h => h) (Or.inl ⟨by rfl, fun w' hSw => by (try dsimp only at hSw); go_simp; try with_reducible rfl⟩) hSS ?_
              simp only [Act.put, List.setIfInBounds_toArray, List.set_cons_zero, List.set_cons_succ]
              refine take_one (i := 10) (d := (some 112)) (v := _) (l' := #[true, true, true, true, true, true, true, true, true, true, true, false, false, false, false, false, false, false, false, false, false, false, false, false, false, false, false, false, false, false, false, false, false, false, false, false, false, false, false, false, false, false, false, false, false, false]) (by rw [List.getElem?_toArray]; rfl) rfl (by kernel_rfl) (by kernel_rfl) (by kernel_rfl) rfl (fun _ _ _ h => h) (Or.inl ⟨by rfl, fun w' hSw => by (try dsimp only at hSw); go_simp; try with_reducible rfl⟩) hSS ?_
              simp only [Act.put, List.setIfInBounds_toArray, List.set_cons_zero, List.set_cons_succ]
              refine take_one (i := 11) (d := (some 113)) (v := _) (l' := #[true, true, true, true, true, true, true, true, true, true, true, true, false, false, false, false, false, false, false, false, false, false, false, false, false, false, false, false, false, false, false, false, false, false, false, false, false, false, false, false, false, false, false, false, false, false]) (by rw [List.getElem?_toArray]; rfl) rfl (by kernel_rfl) (by kernel_rfl) (by kernel_rfl) rfl (fun _ _ _ h => h) (Or.inl ⟨by rfl, fun w' hSw => by (try dsimp only at hSw); go_simp; try with_reducible rfl⟩) hSS ?_
              simp only [Act.put, List.setIfInBounds_toArray, List.set_cons_zero, List.set_cons_succ]
              refine take_one (i := 12) (d := (some 114)) (v := _) (l' := #[true, true, true, true, true, true, true, true, true, true, true, true, true, false, false, false, false, false, false, false, false, false, false, false, false, false, false, false, false, false, false, false, false, false, false, false, false, false, false, false, false, false, false, false, false, false]) (by rw [List.getElem?_toArray]; rfl) rfl (by kernel_rfl) (by kernel_rfl) (by kernel_rfl) rfl (fun _ _ _ h => h) (Or.inl ⟨by rfl, fun w' hSw => by (try dsimp only at hSw); go_simp; try with_reducible rfl⟩) hSS ?_
              simp only [Act.put, List.setIfInBounds_toArray, List.set_cons_zero, List.set_cons_succ]
              refine take_one (i := 13) (d := (some 115)) (v := _) (l' := #[true, true, true, true, true, true, true, true, true, true, true, true, true, true, false, false, false, false, false, false, false, false, false, false, false, false, false, false, false, false, false, false, false, false, false, false, false, false, false, false, false, false, false, false, false, false]) (by rw [List.getElem?_toArray]; rfl) rfl (by kernel_rfl) (by kernel_rfl) (by kernel_rfl) rfl (fun _ _ _ h => h) (Or.inl ⟨by rfl, fun w' hSw => by (try dsimp only at hSw); go_simp; try with_reducible rfl⟩) hSS ?_
              simp only [Act.put, List.setIfInBounds_toArray, List.set_cons_zero, List.set_cons_succ]
              refine take_one (i := 14) (d := (some 116)) (v := _) (l' := #[true, true, true, true, true, true, true, true, true, true, true, true, true, true, true, false, false, false, false, false, false, false, false, false, false, false, false, false, false, false, false, false, false, false, false, false, false, false, false, false, false, false, false, false, false, false]) (by rw [List.getElem?_toArray]; rfl) rfl (by kernel_rfl) (by kernel_rfl) (by kernel_rfl) rfl (fun _ _ _ h => h) (Or.inl ⟨by rfl, fun w' hSw => by (try dsimp only at hSw); go_simp; try with_reducible rfl⟩) hSS ?_
              simp only [Act.put, List.setIfInBounds_toArray, List.set_cons_zero, List.set_cons_succ]
              refine take_one (i := 15) (d := (some 117)) (v := _) (l' := #[true, true, true, true, true, true, true, true, true, true, true, true, true, true, true, true, false, false, false, false, false, false, false, false, false, false, false, false, false, false, false, false, false, false, false, false, false, false, false, false, false, false, false, false, false, false]) (by rw [List.getElem?_toArray]; rfl) rfl (by kernel_rfl) (by kernel_rfl) (by kernel_rfl) rfl (fun _ _ _ h => h) (Or.inl ⟨by rfl, fun w' hSw => by (try dsimp only at hSw); go_simp; try with_reducible rfl⟩) hSS ?_
              simp only [Act.put, List.setIfInBounds_toArray, List.set_cons_zero, List.set_cons_succ]
              refine take_one (i := 16) (d := (some 118)) (v := _) (l' := #[true, true, true, true, true, true, true, true, true, true, true, true, true, true, true, true, true, false, false, false, false, false, false, false, false, false, false, false, false, false, false, false, false, false, false, false, false, false, false, false, false, false, false, false, false, false]) (by rw [List.getElem?_toArray]; rfl) rfl (by kernel_rfl) (by kernel_rfl) (by kernel_rfl) rfl (fun _ _ _ h => h) (Or.inl ⟨by rfl, fun w' hSw => by (try dsimp only at hSw); go_simp; try with_reducible rfl⟩) hSS ?_
              simp only [Act.put, List.setIfInBounds_toArray, List.set_cons_zero, List.set_cons_succ]
              refine take_one (i := 17) (d := (some 119)) (v := _) (l' := #[true, true, true, true, true, true, true, true, true, true, true, true, true, true, true, true, true, true, false, false, false, false, false, false, false, false, false, false, false, false, false, false, false, false, false, false, false, false, false, false, false, false, false, false, false, false]) (by rw [List.getElem?_toArray]; rfl) rfl (by kernel_rfl) (by kernel_rfl) (by kernel_rfl) rfl (fun _ _ _ h => h) (Or.inl ⟨by rfl, fun w' hSw => by (try dsimp only at hSw); go_simp; try with_reducible rfl⟩) hSS ?_
              simp only [Act.put, List.setIfInBounds_toArray, List.set_cons_zero, List.set_cons_succ]
              refine take_one (i := 18) (d := (some 120)) (v := _) (l' := #[true, true, true, true, true, true, true, true, true, true, true, true, true, true, true, true, true, true, true, false, false, false, false, false, false, false, false, false, false, false, false, false, false, false, false, false, false, false, false, false, false, false, false, false, false, false]) (by rw [List.getElem?_toArray]; rfl) rfl (by kernel_rfl) (by kernel_rfl) (by kernel_rfl) rfl (fun _ _ _ h => h) (Or.inl ⟨by rfl, fun w' hSw => by (try dsimp only at hSw); go_simp; try with_reducible rfl⟩) hSS ?_
              simp only [Act.put, List.setIfInBounds_toArray, List.set_cons_zero, List.set_cons_succ]
              refine take_one (i := 19) (d := (some 121)) (v := _) (l' := #[true, true, true, true, true, true, true, true, true, true, true, true, true, true, true, true, true, true, true, true, false, false, false, false, false, false, false, false, false, false, false, false, false, false, false, false, false, false, false, false, false, false, false, false, false, false]) (by rw [List.getElem?_toArray]; rfl) rfl (by kernel_rfl) (by kernel_rfl) (by kernel_rfl) rfl (fun _ _ _ h => h) (Or.inl ⟨by rfl, fun w' hSw => by (try dsimp only at hSw); go_simp; try with_reducible rfl⟩) hSS ?_
              simp only [Act.put, List.setIfInBounds_toArray, List.set_cons_zero, List.set_cons_succ]
              refine take_one (i := 20) (d := (some 122)) (v := _) (l' := #[true, true, true, true, true, true, true, true, true, true, true, true, true, true, true, true, true, true, true, true, true, false, false, false, false, false, false, false, false, false, false, false, false, false, false, false, false, false, false, false, false, false, false, false, false, false]) (by rw [List.getElem?_toArray]; rfl) rfl (by kernel_rfl) (by kernel_rfl) (by kernel_rfl) rfl (fun _ _ _ h => h) (Or.inl ⟨by rfl, fun w' hSw => by (try dsimp only at hSw); go_simp; try with_reducible rfl⟩) hSS ?_
              simp only [Act.put, List.setIfInBounds_toArray, List.set_cons_zero, List.set_cons_succ]
              refine take_one (i := 21) (d := (some 123)) (v := _) (l' := #[true, true, true, true, true, true, true, true, true, true, true, true, true, true, true, true, true, true, true, true, true, true, false, false, false, false, false, false, false, false, false, false, false, false, false, false, false, false, false, false, false, false, false, false, false, false]) (by rw [List.getElem?_toArray]; rfl) rfl (by kernel_rfl) (by kernel_rfl) (by kernel_rfl) rfl (fun _ _ _ h => h) (Or.inl ⟨by rfl, fun w' hSw => by (try dsimp only at hSw); go_simp; try with_reducible rfl⟩) hSS ?_
              simp only [Act.put, List.setIfInBounds_toArray, List.set_cons_zero, List.set_cons_succ]
              refine take_one (i := 22) (d := (some 124)) (v := _) (l' := #[true, true, true, true, true, true, true, true, true, true, true, true, true, true, true, true, true, true, true, true, true, true, true, false, false, false, false, false, false, false, false, false, false, false, false, false, false, false, false, false, false, false, false, false, false, false]) (by rw [List.getElem?_toArray]; rfl) rfl (by kernel_rfl) (by kernel_rfl) (by kernel_rfl) rfl (fun _ _ _ h => h) (Or.inl ⟨by rfl, fun w' hSw => by (try dsimp only at hSw); go_simp; try with_reducible rfl⟩) hSS ?_
              simp only [Act.put, List.setIfInBounds_toArray, List.set_cons_zero, List.set_cons_succ]
              refine take_one (i := 23) (d := (some 125)) (v := _) (l' := #[true, true, true, true, true, true, true, true, true, true, true, true, true, true, true, true, true, true, true, true, true, true, true, true, false, false, false, false, false, false, false, false, false, false, false, false, false, false, false, false, false, false, false, false, false, false]) (by rw [List.getElem?_toArray]; rfl) rfl (by kernel_rfl) (by kernel_rfl) (by kernel_rfl) rfl (fun _ _ _ h => h) (Or.inl ⟨by rfl, fun w' hSw => by (try dsimp only at hSw); go_simp; try with_reducible rfl⟩) hSS ?_
              simp only [Act.put, List.setIfInBounds_toArray, List.set_cons_zero, List.set_cons_succ]
              refine take_one (i := 24) (d := (some 126)) (v := _) (l' := #[true, true, true, true, true, true, true, true, true, true, true, true, true, true, true, true, true, true, true, true, true, true, true, true, true, false, false, false, false, false, false, false, false, false, false, false, false, false, false, false, false, false, false, false, false, false]) (by rw [List.getElem?_toArray]; rfl) rfl (by kernel_rfl) (by kernel_rfl) (by kernel_rfl) rfl (fun _ _ _ h => h) (Or.inl ⟨by rfl, fun w' hSw => by (try dsimp only at hSw); go_simp; try with_reducible rfl⟩) hSS ?_
              simp only [Act.put, List.setIfInBounds_toArray, List.set_cons_zero, List.set_cons_succ]
              refine take_one (i := 25) (d := (some 127)) (v := _) (l' := #[true, true, true, true, true, true, true, true, true, true, true, true, true, true, true, true, true, true, true, true, true, true, true, true, true, true, false, false, false, false, false, false, false, false, false, false, false, false, false, false, false, false, false, false, false, false]) (by rw [List.getElem?_toArray]; rfl) rfl (by kernel_rfl) (by kernel_rfl) (by kernel_rfl) rfl (fun _ _ _ h => h) (Or.inl ⟨by rfl, fun w' hSw => by (try dsimp only at hSw); go_simp; try with_reducible rfl⟩) hSS ?_
              simp only [Act.put, List.setIfInBounds_toArray, List.set_cons_zero, List.set_cons_succ]
              refine take_one (i := 26) (d := (some 128)) (v := _) (l' := #[true, true, true, true, true, true, true, true, true, true, true, true, true, true, true, true, true, true, true, true, true, true, true, true, true, true, true, false, false, false, false, false, false, false, false, false, false, false, false, false, false, false, false, false, false, false]) (by rw [List.getElem?_toArray]; rfl) rfl (by kernel_rfl) (by kernel_rfl) (by kernel_rfl) rfl (fun _ _ _ h => h) (Or.inl ⟨by rfl, fun w' hSw => by (try dsimp only at hSw); go_simp; try with_reducible rfl⟩) hSS ?_
              simp only [Act.put, List.setIfInBounds_toArray, List.set_cons_zero, List.set_cons_succ]
              refine take_one (i := 27) (d := (some 129)) (v := _) (l' := #[true, true, true, true, true, true, true, true, true, true, true, true, true, true, true, true, true, true, true, true, true, true, true, true, true, true, true, true, false, false, false, false, false, false, false, false, false, false, false, false, false, false, false, false, false, false]) (by rw [List.getElem?_toArray]; rfl) rfl (by kernel_rfl) (by kernel_rfl) (by kernel_rfl) rfl (fun _ _ _ h => h) (Or.inl ⟨by rfl, fun w' hSw => by (try dsimp only at hSw); go_simp; try with_reducible rfl⟩) hSS ?_
              simp only [Act.put, List.setIfInBounds_toArray, List.set_cons_zero, List.set_cons_succ]
              refine take_one (i := 28) (d := (some 130)) (v := _) (l' := #[true, true, true, true, true, true, true, true, true, true, true, true, true, true, true, true, true, true, true, true, true, true, true, true, true, true, true, true, true, false, false, false, false, false, false, false, false, false, false, false, false, false, false, false, false, false]) (by rw [List.getElem?_toArray]; rfl) rfl (by kernel_rfl) (by kernel_rfl) (by kernel_rfl) rfl (fun _ _ _ h => h) (Or.inl ⟨by rfl, fun w' hSw => by (try dsimp only at hSw); go_simp; try with_reducible rfl⟩) hSS ?_
              simp only [Act.put, List.setIfInBounds_toArray, List.set_cons_zero, List.set_cons_succ]
              refine take_one (i := 29) (d := (some 131)) (v := _) (l' := #[true, true, true, true, true, true, true, true, true, true, true, true, true, true, true, true, true, true, true, true, true, true, true, true, true, true, true, true, true, true, false, false, false, false, false, false, false, false, false, false, false, false, false, false, false, false]) (by rw [List.getElem?_toArray]; rfl) rfl (by kernel_rfl) (by kernel_rfl) (by kernel_rfl) rfl (fun _ _ _ h => h) (Or.inl ⟨by rfl, fun w' hSw => by (try dsimp only at hSw); go_simp; try with_reducible rfl⟩) hSS ?_
              simp only [Act.put, List.setIfInBounds_toArray, List.set_cons_zero, List.set_cons_succ]
              refine take_one (i := 30) (d := (some 132)) (v := _) (l' := #[true, true, true, true, true, true, true, true, true, true, true, true, true, true, true, true, true, true, true, true, true, true, true, true, true, true, true, true, true, true, true, false, false, false, false, false, false, false, false, false, false, false, false, false, false, false]) (by rw [List.getElem?_toArray]; rfl) rfl (by kernel_rfl) (by kernel_rfl) (by kernel_rfl) rfl (fun _ _ _ h => h) (Or.inl ⟨by rfl, fun w' hSw => by (try dsimp only at hSw); go_simp; try with_reducible rfl⟩) hSS ?_
              simp only [Act.put, List.setIfInBounds_toArray, List.set_cons_zero, List.set_cons_succ]
              refine take_one (i := 31) (d := (some 133)) (v := _) (l' := #[true, true, true, true, true, true, true, true, true, true, true, true, true, true, true, true, true, true, true, true, true, true, true, true, true, true, true, true, true, true, true, true, false, false, false, false, false, false, false, false, false, false, false, false, false, false]) (by rw [List.getElem?_toArray]; rfl) rfl (by kernel_rfl) (by kernel_rfl) (by kernel_rfl) rfl (fun _ _ _ h => h) (Or.inl ⟨by rfl, fun w' hSw => by (try dsimp only at hSw); go_simp; try with_reducible rfl⟩) hSS ?_
              simp only [Act.put, List.setIfInBounds_toArray, List.set_cons_zero, List.set_cons_succ]
              refine take_one (i := 32) (d := (some 134)) (v := _) (l' := #[true, true, true, true, true, true, true, true, true, true, true, true, true, true, true, true, true, true, true, true, true, true, true, true, true, true, true, true, true, true, true, true, true, false, false, false, false, false, false, false, false, false, false, false, false, false]) (by rw [List.getElem?_toArray]; rfl) rfl (by kernel_rfl) (by kernel_rfl) (by kernel_rfl) rfl (fun _ _ _ h => h) (Or.inl ⟨by rfl, fun w' hSw => by (try dsimp only at hSw); go_simp; try with_reducible rfl⟩) hSS ?_
              simp only [Act.put, List.setIfInBounds_toArray, List.set_cons_zero, List.set_cons_succ]
              refine take_one (i := 33) (d := (some 135)) (v := _) (l' := #[true, true, true, true, true, true, true, true, true, true, true, true, true, true, true, true, true, true, true, true, true, true, true, true, true, true, true, true, true, true, true, true, true, true, false, false, false, false, false, false, false, false, false, false, false, false]) (by rw [List.getElem?_toArray]; rfl) rfl (by kernel_rfl) (by kernel_rfl) (by kernel_rfl) rfl (fun _ _ _ h => h) (Or.inl ⟨by rfl, fun w' hSw => by (try dsimp only at hSw); go_simp; try with_reducible rfl⟩) hSS ?_
              simp only [Act.put, List.setIfInBounds_toArray, List.set_cons_zero, List.set_cons_succ]
              refine take_one (i := 34) (d := (some 136)) (v := _) (l' := #[true, true, true, true, true, true, true, true, true, true, true, true, true, true, true, true, true, true, true, true, true, true, true, true, true, true, true, true, true, true, true, true, true, true, true, false, false, false, false, false, false, false, false, false, false, false]) (by rw [List.getElem?_toArray]; rfl) rfl (by kernel_rfl) (by kernel_rfl) (by kernel_rfl) rfl (fun _ _ _ h => h) (Or.inl ⟨by rfl, fun w' hSw => by (try dsimp only at hSw); go_simp; try with_reducible rfl⟩) hSS ?_
              simp only [Act.put, List.setIfInBounds_toArray, List.set_cons_zero, List.set_cons_succ]
              refine take_one (i := 35) (d := (some 137)) (v := _) (l' := #[true, true, true, true, true, true, true, true, true, true, true, true, true, true, true, true, true, true, true, true, true, true, true, true, true, true, true, true, true, true, true, true, true, true, true, true, false, false, false, false, false, false, false, false, false, false]) (by rw [List.getElem?_toArray]; rfl) rfl (by kernel_rfl) (by kernel_rfl) (by kernel_rfl) rfl (fun _ _ _ h => h) (Or.inl ⟨by rfl, fun w' hSw => by (try dsimp only at hSw); go_simp; try with_reducible rfl⟩) hSS ?_
              simp only [Act.put, List.setIfInBounds_toArray, List.set_cons_zero, List.set_cons_succ]
              refine take_one (i := 36) (d := (some 138)) (v := _) (l' := #[true, true, true, true, true, true, true, true, true, true, true, true, true, true, true, true, true, true, true, true, true, true, true, true, true, true, true, true, true, true, true, true, true, true, true, true, true, false, false, false, false, false, false, false, false, false]) (by rw [List.getElem?_toArray]; rfl) rfl (by kernel_rfl) (by kernel_rfl) (by kernel_rfl) rfl (fun _ _ _ h => h) (Or.inl ⟨by rfl, fun w' hSw => by (try dsimp only at hSw); go_simp; try with_reducible rfl⟩) hSS ?_
              simp only [Act.put, List.setIfInBounds_toArray, List.set_cons_zero, List.set_cons_succ]
              refine take_one (i := 37) (d := (some 139)) (v := _) (l' := #[true, true, true, true, true, true, true, true, true, true, true, true, true, true, true, true, true, true, true, true, true, true, true, true, true, true, true, true, true, true, true, true, true, true, true, true, true, true, false, false, false, false, false, false, false, false]) (by rw [List.getElem?_toArray]; rfl) rfl (by kernel_rfl) (by kernel_rfl) (by kernel_rfl) rfl (fun _ _ _ h => h) (Or.inl ⟨by rfl, fun w' hSw => by (try dsimp only at hSw); go_simp; try with_reducible rfl⟩) hSS ?_
              simp only [Act.put, List.setIfInBounds_toArray, List.set_cons_zero, List.set_cons_succ]
              refine take_one (i := 38) (d := (some 140)) (v := _) (l' := #[true, true, true, true, true, true, true, true, true, true, true, true, true, true, true, true, true, true, true, true, true, true, true, true, true, true, true, true, true, true, true, true, true, true, true, true, true, true, true, false, false, false, false, false, false, false]) (by rw [List.getElem?_toArray]; rfl) rfl (by kernel_rfl) (by kernel_rfl) (by kernel_rfl) rfl (fun _ _ _ h => h) (Or.inl ⟨by rfl, fun w' hSw => by (try dsimp only at hSw); go_simp; try with_reducible rfl⟩) hSS ?_
              simp only [Act.put, List.setIfInBounds_toArray, List.set_cons_zero, List.set_cons_succ]
              refine take_one (i := 39) (d := (some 141)) (v := _) (l' := #[true, true, true, true, true, true, true, true, true, true, true, true, true, true, true, true, true, true, true, true, true, true, true, true, true, true, true, true, true, true, true, true, true, true, true, true, true, true, true, true, false, false, false, false, false, false]) (by rw [List.getElem?_toArray]; rfl) rfl (by kernel_rfl) (by kernel_rfl) (by kernel_rfl) rfl (fun _ _ _ h => h) (Or.inl ⟨by rfl, fun w' hSw => by (try dsimp only at hSw); go_simp; try with_reducible rfl⟩) hSS ?_
              simp only [Act.put, List.setIfInBounds_toArray, List.set_cons_zero, List.set_cons_succ]
              refine take_one (i := 40) (d := (some 142)) (v := _) (l' := #[true, true, true, true, true, true, true, true, true, true, true, true, true, true, true, true, true, true, true, true, true, true, true, true, true, true, true, true, true, true, true, true, true, true, true, true, true, true, true, true, true, false, false, false, false, false]) (by rw [List.getElem?_toArray]; rfl) rfl (by kernel_rfl) (by kernel_rfl) (by kernel_rfl) rfl (fun _ _ _ h => h) (Or.inl ⟨by rfl, fun w' hSw => by (try dsimp only at hSw); go_simp; try with_reducible rfl⟩) hSS ?_
              simp only [Act.put, List.setIfInBounds_toArray, List.set_cons_zero, List.set_cons_succ]
              refine take_one (i := 41) (d := (some 143)) (v := _) (l' := #[true, true, true, true, true, true, true, true, true, true, true, true, true, true, true, true, true, true, true, true, true, true, true, true, true, true, true, true, true, true, true, true, true, true, true, true, true, true, true, true, true, true, false, false, false, false]) (by rw [List.getElem?_toArray]; rfl) rfl (by kernel_rfl) (by kernel_rfl) (by kernel_rfl) rfl (fun _ _ _ h => h) (Or.inl ⟨by rfl, fun w' hSw => by (try dsimp only at hSw); go_simp; try with_reducible rfl⟩) hSS ?_
              simp only [Act.put, List.setIfInBounds_toArray, List.set_cons_zero, List.set_cons_succ]
              refine take_one (i := 42) (d := (some 144)) (v := _) (l' := #[true, true, true, true, true, true, true, true, true, true, true, true, true, true, true, true, true, true, true, true, true, true, true, true, true, true, true, true, true, true, true, true, true, true, true, true, true, true, true, true, true, true, true, false, false, false]) (by rw [List.getElem?_toArray]; rfl) rfl (by kernel_rfl) (by kernel_rfl) (by kernel_rfl) rfl (fun _ _ _ h => h) (Or.inl ⟨by rfl, fun w' hSw => by (try dsimp only at hSw); go_simp; try with_reducible rfl⟩) hSS ?_
              simp only [Act.put, List.setIfInBounds_toArray, List.set_cons_zero, List.set_cons_succ]
              refine come_one (i := 43) (l' := #[true, true, true, true, true, true, true, true, true, true, true, true, true, true, true, true, true, true, true, true, true, true, true, true, true, true, true, true, true, true, true, true, true, true, true, true, true, true, true, true, true, true, true, true, false, false]) (by rw [List.getElem?_toArray]; rfl) (by kernel_rfl) rfl (fun K' hK => ?_)
              go_simp
              go_at_call 12
              refine (hSo.out _ hb5).mono ?_
              rintro e w6 ⟨rfl, hb6⟩
              have hS6 := HS.out w6 hb6
              refine hK.out _ _ hS6 (fun hSS => ?_)
              try simp only [Act.put, List.setIfInBounds_toArray, List.set_cons_zero, List.set_cons_succ]
              refine take_one (i := 44) (d := (some 146)) (v := _) (l' := #[true, true, true, true, true, true, true, true, true, true, true, true, true, true, true, true, true, true, true, true, true, true, true, true, true, true, true, true, true, true, true, true, true, true, true, true, true, true, true, true, true, true, true, true, true, false]) (by rw [List.getElem?_toArray]; rfl) rfl (by kernel_rfl) (by kernel_rfl) (by kernel_rfl) rfl (fun _ _ _ h => h) (Or.inl ⟨by rfl, fun w' hSw => by (try dsimp only at hSw); go_simp; try with_reducible rfl⟩) hSS ?_
              simp only [Act.put, List.setIfInBounds_toArray, List.set_cons_zero, List.set_cons_succ]
              refine take_one (i := 45) (d := (some 147)) (v := _) (l' := #[true, true, true, true, true, true, true, true, true, true, true, true, true, true, true, true, true, true, true, true, true, true, true, true, true, true, true, true, true, true, true, true, true, true, true, true, true, true, true, true, true, true, true, true, true, true]) (by rw [List.getElem?_toArray]; rfl) rfl (by kernel_rfl) (by kernel_rfl) (by kernel_rfl) rfl (fun _ _ _ h => h) (Or.inl ⟨by rfl, fun w' hSw => by (try dsimp only at hSw); go_simp; try with_reducible rfl⟩) hSS ?_
              simp only [Act.put, List.setIfInBounds_toArray, List.set_cons_zero, List.set_cons_succ]
              refine wpAnyH_done (by kernel_rfl) ?_ _
              exact ⟨⟨_, _, _, _, _, _, _, _, _, _, _, _, _, _, _, _, _, _, _, _, _, _, _, _, _, _, _, _, _, _, _, _, _, _, _, _, _, _, _, _, _, _, _, _, _, rfl⟩, hb6⟩
          case next =>
            rintro a' w6 ⟨⟨z102, z103, z104, z105, z106, z107, z108, z109, z110, z111, z112, z113, z114, z115, z116, z117, z118, z119, z120, z121, z122, z123, z124, z125, z126, z127, z128, z129, z130, z131, z132, z133, z134, z135, z136, z137, z138, z139, z140, z141, z142, z143, z144, z145, z146, rfl⟩, hb6⟩
            simp only [Act.put, List.setIfInBounds_toArray, List.set_cons_zero, List.set_cons_succ]
            have H6 := Lib.hid (HBR.out w6 hb6)
            clear hb6 q0 q1 q2 q3 q4 q5 q6 q7 q8 q9 q10 q11
            go_wp2_with fail
            exact ⟨⟨p + 1, by omega, by go_num, H6⟩, by simp [intOf]; omega⟩
        · have d3 : decide (p < RN) = false := by rw [decide_eq_false_iff_not]; exact hlp
          have HBw := Lib.hid (HK.out _ hBr.out).2.2
          have q3 := (HK.out _ hBr.out).1.2.2.2
          go_wp2_with (go_at_call 7; refine (lives06_true _).mono ?_; rintro e w9 ⟨rfl, hb9⟩)
          go_ret
          exact ⟨rfl, HBw.out.trans (hb9.mono HBw.out.size)⟩
end Go.Proofs.Ythlfahghoinocaa
