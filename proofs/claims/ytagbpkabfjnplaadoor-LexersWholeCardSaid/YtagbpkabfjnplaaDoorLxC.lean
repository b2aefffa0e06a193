/- Lexers: a table in memory; the contracts of subsets.May and Step. -/
import Derived.Test.YtagbpkabfjnplaaDoorLxB
namespace Go.Proofs.YtagbpkabfjnplaaDoor
open Go Go.RowKit Rn Lx
set_option maxRecDepth 100000

namespace Lx
/-- Few numbers. -/
structure Sm (t : Tb) : Prop where
  rs : t.rs.length ≤ 6000
  cs : t.cs.length ≤ 6000
  ns : t.ns.length ≤ 6000
  es : t.es.length ≤ 6000
  row : ∀ l ∈ t.ns, l.length ≤ 6000
/-- The table's four lists. -/
def TL (w : World) (rv cv nv ev : Value) (t : Tb) : Prop := RL w rv t.rs ∧ ZV w cv t.cs ∧ ZZV w nv t.ns ∧ ZV w ev t.es
theorem TL.below {w w' : World} {a b c d : Value} {t : Tb} (h : TL w a b c d t) (hb : Below w.heap.size w w') : TL w' a b c d t :=
  ⟨h.1.below hb, h.2.1.below hb, h.2.2.1.below hb, h.2.2.2.below hb⟩
/-- The world with a table in a box. -/
abbrev bx (w : World) (a b c d : Value) : World := w.alloc (.cells #[a, b, c, d] 26)
theorem bx_below (w : World) (a b c d : Value) : Below w.heap.size w (bx w a b c d) := (Below.refl _ w).alloc (Nat.le_refl _) _
theorem bx_cells {w W : World} {a b c d : Value} (h : Below (bx w a b c d).heap.size (bx w a b c d) W) :
    W.cell? ⟨w.heap.size, 0, none⟩ = some a ∧ W.cell? ⟨w.heap.size, 1, none⟩ = some b ∧ W.cell? ⟨w.heap.size, 2, none⟩ = some c ∧ W.cell? ⟨w.heap.size, 3, none⟩ = some d := by
  have hk := (Bk.made w 26 #[a, b, c, d]).below h (by simp)
  exact ⟨by rw [hk.cell]; rfl, by rw [hk.cell]; rfl, by rw [hk.cell]; rfl, by rw [hk.cell]; rfl⟩
theorem bx_trans {w W : World} {a b c d : Value} (h : Below (bx w a b c d).heap.size (bx w a b c d) W) : Below w.heap.size w W := (bx_below w a b c d).trans (h.mono (bx_below w a b c d).size)
def somB : Option Nat → Nat → List (List Int) → List Int → Bool
  | none, _, _, _ => false
  | some n, m, ns, es => rowsB n m ns es
theorem mayB_eq (t : Tb) : mayB t = (apB none t.rs && (decide (t.cs.length = t.rs.length) && (!decide (t.ns.length = 0) && (decide (t.ns.length = t.es.length) && somB (filF t.cs) t.ns.length t.ns t.es)))) := by
  unfold mayB
  cases filF t.cs with
  | none => rfl
  | some n => rfl
end Lx
set_option maxHeartbeats 8000000 in
theorem May_any (t : Tb) (rv cv nv ev : Value) (w : World) (hT : TL w rv cv nv ev t) (hs : Sm t) :
    Calls Tryd.prog 21 #[.agg #[rv, cv, nv, ev]] w fun e w' => e = .returned (.bool (mayB t)) ∧ Below w.heap.size w w' := by
  have hb0 := bx_below w rv cv nv ev
  have HT := Lib.hid (fun (W : World) (h : Below (bx w rv cv nv ev).heap.size (bx w rv cv nv ev) W) => (hT.below hb0).below h)
  have HA := Lib.hid (fun (W : World) (h : Below (bx w rv cv nv ev).heap.size (bx w rv cv nv ev) W) =>
    (apart_any t.rs rv W ((hT.below hb0).below h).1 (Nat.le_trans hs.rs (by omega))).mono fun e w' x => show e = .returned (.bool (apB none t.rs)) ∧ Below (bx w rv cv nv ev).heap.size (bx w rv cv nv ev) w' from ⟨x.1, h.trans (x.2.mono h.size)⟩)
  have HF := Lib.hid (fun (W : World) (h : Below (bx w rv cv nv ev).heap.size (bx w rv cv nv ev) W) =>
    (filled_any t.cs cv W ((hT.below hb0).below h).2.1 (Nat.le_trans hs.cs (by omega))).mono fun e w' x => show e = .returned (filT (filF t.cs)) ∧ Below (bx w rv cv nv ev).heap.size (bx w rv cv nv ev) w' from ⟨x.1, h.trans (x.2.mono h.size)⟩)
  have HC := Lib.hid (fun (W : World) (h : Below (bx w rv cv nv ev).heap.size (bx w rv cv nv ev) W) => bx_cells h)
  obtain ⟨⟨ra, rc, rfl, _, _⟩, ⟨ca, cc, rfl, _, _⟩, ⟨na, nc, rfl, _, hN⟩, ⟨ea, ec, rfl, _, hE⟩⟩ := hT
  have HN := Lib.hid hN
  have HE := Lib.hid hE
  clear hN hE
  have HM := Lib.hid (mayB_eq t)
  obtain ⟨R, hR⟩ : ∃ R, t.rs.length = R := ⟨_, rfl⟩
  obtain ⟨C, hC⟩ : ∃ R, t.cs.length = R := ⟨_, rfl⟩
  obtain ⟨N, hN⟩ : ∃ R, t.ns.length = R := ⟨_, rfl⟩
  obtain ⟨E, hE⟩ : ∃ R, t.es.length = R := ⟨_, rfl⟩
  have LN := Lib.hid hN
  have LE := Lib.hid hE
  have l1 := hs.rs
  have l2 := hs.cs
  have l3 := hs.ns
  have l4 := hs.es
  have LR := Lib.hid hs.row
  obtain ⟨AA, hA⟩ : ∃ t', apB none t.rs = t' := ⟨_, rfl⟩
  obtain ⟨FF, hF⟩ : ∃ t', filF t.cs = t' := ⟨_, rfl⟩
  obtain ⟨MM, hM⟩ : ∃ t', mayB t = t' := ⟨_, rfl⟩
  rw [hR] at HM HA HF HT HC l1 ⊢
  rw [hC] at HM HF HA HT HC l2 ⊢
  rw [hN] at HM HA HF HT HC l3 ⊢
  rw [hE] at HM HA HF HT HC l4 ⊢
  rw [hA] at HM HA
  rw [hF] at HM HF
  rw [hM] at HM ⊢
  clear hR hC hN hE hA hF hM hs
  clear hb0
  cases AA with
  | false =>
    have HQ := Lib.hid (show MM = false from by rw [HM.out]; rfl)
    go_enter Tryd.func21, Tryd.ntmps21
    go_wp2_with fail
    refine (HA.out _ (Below.refl _ _)).mono ?_
    rintro e w2 ⟨rfl, b2⟩
    have B2 := Lib.hid b2
    clear b2
    go_wp2_with fail
    go_ret
    exact ⟨by rw [HQ.out]; rfl, bx_trans B2.out⟩
  | true =>
    by_cases h1 : C = R
    case neg =>
      have HQ := Lib.hid (show MM = false from by rw [HM.out, decide_eq_false h1]; rfl)
      have d1 : ((C : Int) == (R : Int)) = false := by rw [beq_eq_false_iff_ne]; omega
      have d2 : ((C : Int) != (R : Int)) = true := by simp [bne, d1]
      have d3 : ((C : Nat) == R) = false := by rw [beq_eq_false_iff_ne]; exact h1
      go_enter Tryd.func21, Tryd.ntmps21
      go_wp2_with fail
      refine (HA.out _ (Below.refl _ _)).mono ?_
      rintro e w2 ⟨rfl, b2⟩
      obtain ⟨c0, c1, c2, c3⟩ := HC.out _ b2
      have B2 := Lib.hid b2
      clear b2
      go_wp2_with fail
      go_ret
      exact ⟨by rw [HQ.out]; rfl, bx_trans B2.out⟩
    subst h1
    by_cases h2 : N = 0
    case pos =>
      have HQ := Lib.hid (show MM = false from by rw [HM.out, decide_eq_true h2]; simp)
      subst h2
      go_enter Tryd.func21, Tryd.ntmps21
      go_wp2_with fail
      refine (HA.out _ (Below.refl _ _)).mono ?_
      rintro e w2 ⟨rfl, b2⟩
      obtain ⟨c0, c1, c2, c3⟩ := HC.out _ b2
      have B2 := Lib.hid b2
      clear b2
      go_wp2_with fail
      go_ret
      exact ⟨by rw [HQ.out]; rfl, bx_trans B2.out⟩
    have p1 : ((N : Int) == 0) = false := by rw [beq_eq_false_iff_ne]; omega
    have p2 : (N == 0) = false := by rw [beq_eq_false_iff_ne]; exact h2
    by_cases h3 : N = E
    case neg =>
      have HQ := Lib.hid (show MM = false from by rw [HM.out, decide_eq_false h3]; simp)
      have d1 : ((N : Int) == (E : Int)) = false := by rw [beq_eq_false_iff_ne]; omega
      have d2 : ((N : Int) != (E : Int)) = true := by simp [bne, d1]
      have d3 : ((N : Nat) == E) = false := by rw [beq_eq_false_iff_ne]; exact h3
      go_enter Tryd.func21, Tryd.ntmps21
      go_wp2_with fail
      refine (HA.out _ (Below.refl _ _)).mono ?_
      rintro e w2 ⟨rfl, b2⟩
      obtain ⟨c0, c1, c2, c3⟩ := HC.out _ b2
      have B2 := Lib.hid b2
      clear b2
      go_wp2_with fail
      go_ret
      exact ⟨by rw [HQ.out]; rfl, bx_trans B2.out⟩
    subst h3
    cases FF with
    | none =>
      have HQ := Lib.hid (show MM = false from by rw [HM.out]; simp [somB])
      go_enter Tryd.func21, Tryd.ntmps21
      go_wp2_with fail
      refine (HA.out _ (Below.refl _ _)).mono ?_
      rintro e w2 ⟨rfl, b2⟩
      obtain ⟨c0, c1, c2, c3⟩ := HC.out _ b2
      have B2 := Lib.hid b2
      clear b2
      go_wp2_with fail
      refine (HF.out _ B2.out).mono ?_
      rintro e w3 ⟨rfl, b3⟩
      simp only [filT]
      have B3 := Lib.hid b3
      clear b3 c0 c1 c2 c3
      go_wp2_with fail
      go_ret
      exact ⟨by rw [HQ.out]; rfl, bx_trans B3.out⟩
    | some n =>
      have HQ := Lib.hid (show rowsB n N (t.ns.drop 0) (t.es.drop 0) = MM from by rw [HM.out, List.drop_zero, List.drop_zero]; simp [somB, h2])
      go_enter Tryd.func21, Tryd.ntmps21
      go_wp2_with fail
      refine (HA.out _ (Below.refl _ _)).mono ?_
      rintro e w2 ⟨rfl, b2⟩
      obtain ⟨c0, c1, c2, c3⟩ := HC.out _ b2
      have B2 := Lib.hid b2
      clear b2
      go_wp2_with fail
      refine (HF.out _ B2.out).mono ?_
      rintro e w3 ⟨rfl, b3⟩
      simp only [filT]
      clear c0 c1 c2 c3
      obtain ⟨c0, c1, c2, c3⟩ := HC.out _ b3
      have B3 := Lib.hid b3
      clear b3
      have HK := Lib.hid (And.intro c2 c3)
      clear c0 c1
      go_wp2_with fail
      clear c2 c3
      go_loopw [46] (fun i wr => ∃ (k : Nat), k ≤ N ∧ i = .int .i64 k ∧ wr = w3 ∧ Hid (rowsB n N (t.ns.drop k) (t.es.drop k) = MM)) (fun i _ => N - (intOf i).toNat)
      case atStart => exact ⟨0, Nat.zero_le _, rfl, rfl, HQ⟩
      case round =>
        obtain ⟨k, hk, rfl, rfl, hJ⟩ := hrel
        by_cases hlt : k < N
        · have d0 : decide (k < N) = true := by rw [decide_eq_true_iff]; exact hlt
          have a0 : (k : Int) < (N : Int) := by omega
          have a1 : (0 : Int) ≤ (k : Int) := by omega
          obtain ⟨l, hl⟩ : ∃ l, t.ns[k]? = some l := ⟨_, List.getElem?_eq_getElem (by rw [LN.out]; exact hlt)⟩
          obtain ⟨x, hx⟩ : ∃ x, t.es[k]? = some x := ⟨_, List.getElem?_eq_getElem (by rw [LE.out]; exact hlt)⟩
          obtain ⟨_, _, zN, zE⟩ := HT.out _ B3.out
          obtain ⟨na', nc', en, _, zN⟩ := zN
          injection en with en1 en2 en3
          subst en1
          obtain ⟨ea', ec', ee, _, zE⟩ := zE
          injection ee with ee1 ee2 ee3
          subst ee1
          clear en2 en3 ee2 ee3
          obtain ⟨g, o, qa, qc, rfl, y1, hz⟩ := zN k l hl
          obtain ⟨g2, o2, rfl, y2⟩ := zE k x hx
          have hll := LR.out l (List.mem_of_getElem? hl)
          have HW := Lib.hid (within_any l _ N wr hz (Nat.le_trans hll (by omega)))
          have hst := hJ.out
          rw [Nd.drop_some hl, Nd.drop_some hx] at hst
          simp only [rowsB] at hst
          obtain ⟨k2, k3⟩ := HK.out
          obtain ⟨ll, hl2⟩ : ∃ q, l.length = q := ⟨_, rfl⟩
          obtain ⟨WW, hw2⟩ : ∃ q, witB (N : Int) l = q := ⟨_, rfl⟩
          rw [hl2] at y1 hst HW hll
          rw [hw2] at hst HW
          clear zN zE hJ hz hl2 hl hx hw2
          by_cases q1 : ll = n
          case neg =>
            have e1 : ((ll : Int) == (n : Int)) = false := by rw [beq_eq_false_iff_ne]; omega
            have e2 : ((ll : Int) != (n : Int)) = true := by simp [bne, e1]
            have e3 : (ll == n) = false := by rw [beq_eq_false_iff_ne]; exact q1
            have HQ2 := Lib.hid (show MM = false from by rw [← hst, decide_eq_false q1]; rfl)
            clear hst
            go_wp2_with fail
            go_ret
            exact ⟨by rw [HQ2.out]; rfl, bx_trans B3.out⟩
          subst q1
          cases WW with
          | false =>
            have HQ2 := Lib.hid (show MM = false from by rw [← hst]; simp)
            clear hst
            go_wp2_with fail
            refine HW.out.mono ?_
            rintro e w4 ⟨rfl, rfl⟩
            go_wp2_with fail
            go_ret
            exact ⟨by rw [HQ2.out]; rfl, bx_trans B3.out⟩
          | true =>
            by_cases q2 : x < -1
            · have e1 : decide (x < -1) = true := decide_eq_true q2
              have HQ2 := Lib.hid (show MM = false from by rw [← hst, e1]; simp)
              clear hst
              go_wp2_with fail
              refine HW.out.mono ?_
              rintro e w4 ⟨rfl, rfl⟩
              go_wp2_with fail
              go_ret
              exact ⟨by rw [HQ2.out]; rfl, bx_trans B3.out⟩
            · have e1 : decide (x < -1) = false := decide_eq_false q2
              have HQ2 := Lib.hid (show rowsB ll N (t.ns.drop (k + 1)) (t.es.drop (k + 1)) = MM from by rw [← hst, e1]; simp)
              clear hst
              go_wp2_with fail
              refine HW.out.mono ?_
              rintro e w4 ⟨rfl, rfl⟩
              go_wp2_with fail
              exact ⟨⟨k + 1, by omega, by go_num, by first | trivial | rfl, HQ2⟩, by simp [intOf]; omega⟩
        · have d0 : decide (k < N) = false := by rw [decide_eq_false_iff_not]; exact hlt
          have HQ2 := Lib.hid (show MM = true from by rw [← hJ.out, List.drop_eq_nil_of_le (by rw [LN.out]; omega)]; rfl)
          clear hJ
          go_wp2_with fail
          go_ret
          exact ⟨by rw [HQ2.out]; rfl, bx_trans B3.out⟩
end Go.Proofs.YtagbpkabfjnplaaDoor
