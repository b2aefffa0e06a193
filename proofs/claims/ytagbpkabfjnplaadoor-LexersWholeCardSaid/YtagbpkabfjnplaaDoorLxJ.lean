/- Lexers: the contracts of slices.Max of numbers and of New. -/
import Derived.Test.YtagbpkabfjnplaaDoorLxI
namespace Go.Proofs.YtagbpkabfjnplaaDoor
open Go Go.RowKit Rn Lx
attribute [local go_sem] Oper.semAt_some
set_option maxRecDepth 100000

namespace Lx
def maxF : Int → List Int → Int
  | m, [] => m
  | m, x :: l => maxF (if m < x then x else m) l
theorem maxF_le (B : Int) : ∀ (l : List Int) (m : Int), maxF m l < B ↔ m < B ∧ ∀ x ∈ l, x < B
  | [], m => by simp [maxF]
  | x :: l, m => by
    rw [maxF, maxF_le B l, List.forall_mem_cons]
    by_cases h : m < x
    · rw [if_pos h]
      exact ⟨fun ⟨a, b⟩ => ⟨by omega, a, b⟩, fun ⟨_, b, c⟩ => ⟨b, c⟩⟩
    · rw [if_neg h]
      exact ⟨fun ⟨a, b⟩ => ⟨a, by omega, b⟩, fun ⟨a, _, c⟩ => ⟨a, c⟩⟩
def newB (t : Tb) (n : Nat) : Bool := mayB t && t.es.all (fun e => decide (e < n))
/-- A lexer in memory of its own. -/
def LVo (w : World) (B g : Nat) (t : Tb) (dr : List Bool) : Prop :=
  ∃ v1 v2 v3 v4 v5, Bk w g 53 #[v1, v2, v3, v4, v5] ∧ TOwn w B t v1 v2 v3 v4 ∧ OwnV w 4 B v5 dr.length (dr.map Value.bool) ∧ B ≤ g
theorem LVo.below {w w' : World} {B g : Nat} {t : Tb} {dr : List Bool} (h : LVo w B g t dr) (hb : Below w.heap.size w w') : LVo w' B g t dr := by
  obtain ⟨v1, v2, v3, v4, v5, h1, h2, h3, h4⟩ := h
  exact ⟨v1, v2, v3, v4, v5, h1.below hb h1.lt, h2.below hb, h3.below hb, h4⟩
theorem LVo.lv {w : World} {B g : Nat} {t : Tb} {dr : List Bool} (h : LVo w B g t dr) : LV w g t dr := by
  obtain ⟨v1, v2, v3, v4, v5, h1, h2, h3, h4⟩ := h
  exact ⟨v1, v2, v3, v4, v5, h1, h2.tl, h3.bv⟩
theorem TOwn.mono {w : World} {B C : Nat} {t : Tb} {v1 v2 v3 v4 : Value} (h : TOwn w B t v1 v2 v3 v4) (hC : C ≤ B) : TOwn w C t v1 v2 v3 v4 := ⟨h.1.mono hC, h.2.1.mono hC, h.2.2.1.mono hC, h.2.2.2.mono hC⟩
/-- What New hands back. -/
def NewR (t : Tb) (dr : List Bool) (B : Nat) (e : Ending) (w : World) : Prop :=
  if newB t dr.length = true then ∃ g, e = .returned (.tuple #[.pointer (some ⟨g, 0, none⟩), .int .i64 0]) ∧ LVo w B g t dr else e = .returned (.tuple #[.pointer none, .int .i64 1])
end Lx
set_option maxHeartbeats 4000000 in
theorem Max_any (x0 : Int) (l : List Int) (v : Value) (w : World) (hv : ZV w v (x0 :: l)) (hl : (x0 :: l).length ≤ 1000000) :
    Calls Tryd.prog 26 #[v] w fun e w' => e = .returned (.int .i64 (maxF x0 l)) ∧ w' = w := by
  obtain ⟨a, c, rfl, _, hc⟩ := hv
  obtain ⟨L, hL⟩ : ∃ L, x0 :: l = L := ⟨_, rfl⟩
  have hl0 : L.drop 1 = l := by rw [← hL]; rfl
  have hx0 : L[0]? = some x0 := by rw [← hL]; rfl
  rw [hL] at hc hl ⊢
  obtain ⟨N, hN⟩ : ∃ N, L.length = N := ⟨_, rfl⟩
  have n0 : 1 ≤ N := by rw [← hN, ← hL]; simp
  have HN := Lib.hid hN
  have HC := Lib.hid hc
  obtain ⟨b, o, rfl, c0⟩ := HC.out 0 x0 hx0
  rw [Nat.add_zero] at c0
  obtain ⟨TT, hT⟩ : ∃ t, maxF x0 l = t := ⟨_, rfl⟩
  have HT := Lib.hid (show maxF x0 (L.drop 1) = TT from by rw [hl0]; exact hT)
  rw [hN] at hl ⊢
  rw [hT]
  have n1 : (N : Int) ≤ 1000000 := by omega
  have d9 : decide (N < 1) = false := decide_eq_false (by omega)
  have d8 : decide ((N : Int) < 1) = false := decide_eq_false (by omega)
  have n2 : (0 : Int) < (N : Int) := by omega
  clear hN hc hT hl0 hx0 hL
  go_enter Tryd.func26, Tryd.ntmps26
  go_wp2_with fail
  clear c0
  go_loopw [4, 3] (fun i u wr => ∃ (k : Nat) (m : Int), 1 ≤ k ∧ k ≤ N ∧ i = .int .i64 k ∧ u = .int .i64 m ∧ wr = w ∧ Hid (maxF m (L.drop k) = TT)) (fun i _ _ => N - (intOf i).toNat)
  case atStart => exact ⟨1, x0, Nat.le_refl _, n0, rfl, rfl, rfl, HT⟩
  case round =>
    obtain ⟨k, m, hk1, hk, rfl, rfl, rfl, hJ⟩ := hrel
    by_cases hlt : k < N
    · obtain ⟨x, hx⟩ : ∃ x, L[k]? = some x := ⟨_, List.getElem?_eq_getElem (by rw [HN.out]; exact hlt)⟩
      obtain ⟨b', o', he, y0⟩ := HC.out k x hx
      injection he with he
      injection he with he1 he2
      subst he1
      subst he2
      have d0 : decide (k < N) = true := by rw [decide_eq_true_iff]; exact hlt
      have a0 : (k : Int) < (N : Int) := by omega
      have a1 : (0 : Int) ≤ (k : Int) := by omega
      have hst := hJ.out
      rw [Nd.drop_some hx] at hst
      simp only [maxF] at hst
      by_cases h1 : m < x
      · rw [if_pos h1] at hst
        have HF := Lib.hid hst
        have hmx : max m x = x := by omega
        have h2 : ¬ x ≤ m := by omega
        clear hst hx hJ
        go_wp2_with fail
        exact ⟨⟨k + 1, x, by omega, by omega, by go_num, rfl, by first | trivial | rfl, HF⟩, by simp [intOf]; omega⟩
      · rw [if_neg h1] at hst
        have HF := Lib.hid hst
        have hmx : max m x = m := by omega
        have h2 : x ≤ m := by omega
        clear hst hx hJ
        go_wp2_with fail
        exact ⟨⟨k + 1, m, by omega, by omega, by go_num, rfl, by first | trivial | rfl, HF⟩, by simp [intOf]; omega⟩
    · have d0 : decide (k < N) = false := by rw [decide_eq_false_iff_not]; exact hlt
      have HF := Lib.hid (show m = TT from by rw [← hJ.out, List.drop_eq_nil_of_le (by rw [HN.out]; omega)]; rfl)
      clear hJ
      go_wp2_with fail
      go_ret
      exact ⟨by rw [HF.out]; rfl, rfl⟩
set_option maxHeartbeats 8000000 in
theorem New_any (t : Tb) (dr : List Bool) (rv cv nv ev dv : Value) (w : World) (hT : TL w rv cv nv ev t) (hD : BV w dv dr) (hs : Sm t) (hd : dr.length ≤ 100000) :
    Calls Tryd.prog 10 #[.agg #[rv, cv, nv, ev], dv] w fun e w' => NewR t dr w.heap.size e w' ∧ Below w.heap.size w w' := by
  have hb0 := bx_below w rv cv nv ev
  have HB0 := Lib.hid hb0
  have HM := Lib.hid (fun (W : World) (h : Below (bx w rv cv nv ev).heap.size (bx w rv cv nv ev) W) =>
    (May_any t rv cv nv ev W ((hT.below hb0).below h) hs).mono fun e w' x => show e = .returned (.bool (mayB t)) ∧ Below (bx w rv cv nv ev).heap.size (bx w rv cv nv ev) w' from ⟨x.1, h.trans (x.2.mono h.size)⟩)
  have HX := Lib.hid (fun (x0 : Int) (l : List Int) (he : t.es = x0 :: l) (W : World) (h : Below (bx w rv cv nv ev).heap.size (bx w rv cv nv ev) W) =>
    Max_any x0 l ev W (by rw [← he]; exact ((hT.below hb0).below h).2.2.2) (by rw [← he]; exact Nat.le_trans hs.es (by omega)))
  have HP := Lib.hid (fun (W : World) (h : Below (bx w rv cv nv ev).heap.size (bx w rv cv nv ev) W) =>
    (copied_any t rv cv nv ev W ((hT.below hb0).below h) hs).mono fun e w' x => show (∃ v1 v2 v3 v4, e = .returned (.agg #[v1, v2, v3, v4]) ∧ TOwn w' w.heap.size t v1 v2 v3 v4) ∧ Below W.heap.size W w' ∧ Below (bx w rv cv nv ev).heap.size (bx w rv cv nv ev) w' from
      ⟨by obtain ⟨v1, v2, v3, v4, e1, e2⟩ := x.1; exact ⟨v1, v2, v3, v4, e1, e2.mono (Nat.le_trans hb0.size h.size)⟩, x.2, h.trans (x.2.mono h.size)⟩)
  have HL := Lib.hid (fun (W : World) (h : Below (bx w rv cv nv ev).heap.size (bx w rv cv nv ev) W) =>
    (CloneB_any dr dv W ((hD.below hb0).below h) (Nat.le_trans hd (by omega))).mono fun e w' x => show (∃ a' c', e = .returned (.slice a' dr.length c') ∧ OwnV w' 4 w.heap.size (.slice a' dr.length c') dr.length (dr.map Value.bool)) ∧ Below W.heap.size W w' ∧ Below (bx w rv cv nv ev).heap.size (bx w rv cv nv ev) w' from
      ⟨by obtain ⟨a', c', e1, e2⟩ := x.1; exact ⟨a', c', e1, e2.mono (Nat.le_trans hb0.size h.size)⟩, x.2, h.trans (x.2.mono h.size)⟩)
  have HC := Lib.hid (fun (W : World) (h : Below (bx w rv cv nv ev).heap.size (bx w rv cv nv ev) W) => bx_cells h)
  have HR0 := Lib.hid (fun (h : newB t dr.length = false) => show ∀ w', NewR t dr w.heap.size (.returned (.tuple #[.pointer none, .int .i64 1])) w' from fun w' => by unfold NewR; rw [if_neg (by rw [h]; simp)])
  have HR1 := Lib.hid (fun (h : newB t dr.length = true) => show ∀ w' g, LVo w' w.heap.size g t dr → NewR t dr w.heap.size (.returned (.tuple #[.pointer (some ⟨g, 0, none⟩), .int .i64 0])) w' from fun w' g k => by unfold NewR; rw [if_pos h]; exact ⟨g, rfl, k⟩)
  obtain ⟨NR, hNR⟩ : ∃ q, NewR t dr w.heap.size = q := ⟨_, rfl⟩
  rw [hNR] at HR0 HR1 ⊢
  clear hNR
  obtain ⟨⟨ra, rc, rfl, _, _⟩, ⟨ca, cc, rfl, _, _⟩, ⟨na, nc, rfl, _, _⟩, ⟨ea, ec, rfl, _, _⟩⟩ := hT
  obtain ⟨da, dc, rfl, _, _⟩ := hD
  clear hb0
  cases hm : mayB t with
  | false =>
    have HQ := Lib.hid (HR0.out (by rw [newB, hm]; rfl))
    rw [hm] at HM
    clear hm hs
    go_enter Tryd.func10, Tryd.ntmps10
    go_wp2_with fail
    refine (HM.out _ (Below.refl _ _)).mono ?_
    rintro e w2 ⟨rfl, b2⟩
    have B2 := Lib.hid b2
    clear b2
    go_wp2_with fail
    go_ret2
    exact ⟨HQ.out _, bx_trans B2.out⟩
  | true =>
    have hM := mayB_may hm
    obtain ⟨x0, l, he⟩ : ∃ x0 l, t.es = x0 :: l := by
      cases h : t.es with
      | nil => have a := hM.n0; have b := hM.ne; rw [h, List.length_nil] at b; omega
      | cons x l => exact ⟨x, l, rfl⟩
    have hX := HX.out x0 l he
    have HXX := Lib.hid hX
    have hiff := maxF_le (dr.length : Int) l x0
    have hnb : newB t dr.length = decide (maxF x0 l < (dr.length : Int)) := by
      rw [newB, hm, Bool.true_and, he, Bool.eq_iff_iff, decide_eq_true_iff, hiff]
      simp
    have LE := Lib.hid (show t.es.length ≤ 6000 from hs.es)
    rw [hm] at HM
    obtain ⟨M, hMx⟩ : ∃ M, maxF x0 l = M := ⟨_, rfl⟩
    rw [hMx] at HXX hnb
    obtain ⟨E, hE⟩ : ∃ E, t.es.length = E := ⟨_, rfl⟩
    rw [hE] at HM HXX HP HL HC HB0 ⊢
    obtain ⟨DN, hDN⟩ : ∃ E, dr.length = E := ⟨_, rfl⟩
    have hd2 := hd
    rw [hDN] at hnb hd2
    by_cases hlt : M < (DN : Int)
    · have HQ := Lib.hid (HR1.out (by rw [hDN, hnb]; exact decide_eq_true hlt))
      rw [decide_eq_true hlt] at hnb
      rw [hDN] at HL ⊢
      have e1 : decide ((DN : Int) ≤ M) = false := decide_eq_false (by omega)
      have HFIN := Lib.hid (fun (W : World) (v1 v2 v3 v4 : Value) (qa : Option Addr) (qc : Nat) (h1 : TOwn W w.heap.size t v1 v2 v3 v4) (h2 : OwnV W 4 w.heap.size (.slice qa DN qc) DN (dr.map Value.bool)) (hz : w.heap.size ≤ W.heap.size) =>
        show LVo (W.alloc (.cells #[v1, v2, v3, v4, .slice qa DN qc] 53)) w.heap.size W.heap.size t dr from by
          have hs : Below W.heap.size W (W.alloc (.cells #[v1, v2, v3, v4, .slice qa DN qc] 53)) := (Below.refl _ _).alloc (Nat.le_refl _) _
          exact ⟨v1, v2, v3, v4, .slice qa DN qc, Bk.made _ _ _, h1.below hs, by rw [hDN]; exact h2.below hs, hz⟩)
      have HFORM := Lib.hid (fun (W : World) (v1 v2 v3 v4 : Value) (h1 : TOwn W w.heap.size t v1 v2 v3 v4) => show ∃ a1 c1 a2 c2 a3 c3 a4 c4, v1 = .slice a1 t.rs.length c1 ∧ v2 = .slice a2 t.cs.length c2 ∧ v3 = .slice a3 t.ns.length c3 ∧ v4 = .slice a4 t.es.length c4 from by
        obtain ⟨⟨a1, c1, q1, _⟩, ⟨a2, c2, q2, _⟩, ⟨a3, c3, q3, _⟩, ⟨a4, c4, q4, _⟩⟩ := h1.tl
        exact ⟨a1, c1, a2, c2, a3, c3, a4, c4, q1, q2, q3, q4⟩)
      clear hm hs hM he hX hiff hMx hE hDN hnb HX HR0 HR1
      go_enter Tryd.func10, Tryd.ntmps10
      go_wp2_with fail
      refine (HM.out _ (Below.refl _ _)).mono ?_
      rintro e w2 ⟨rfl, b2⟩
      obtain ⟨c0, c1, c2, c3⟩ := HC.out _ b2
      have B2 := Lib.hid b2
      clear b2
      go_wp2_with fail
      refine (HXX.out _ B2.out).mono ?_
      rintro e w3 ⟨rfl, rfl⟩
      go_wp2_with fail
      refine (HP.out _ B2.out).mono ?_
      rintro e w4 ⟨⟨v1, v2, v3, v4, rfl, hO⟩, s4, b4⟩
      obtain ⟨a1, k1, a2, k2, a3, k3, a4, k4, rfl, rfl, rfl, rfl⟩ := HFORM.out _ _ _ _ _ hO
      have HO := Lib.hid hO
      have B4 := Lib.hid b4
      clear hO s4 b4 c0 c1 c2 c3
      go_wp2_with fail
      refine (HL.out _ B4.out).mono ?_
      rintro e w5 ⟨⟨qa, qc, rfl, hO2⟩, s5, b5⟩
      have HZ := Lib.hid (HFIN.out _ _ _ _ _ _ _ (HO.out.below s5) hO2 (by have := bx_trans b5; exact this.size))
      have B5 := Lib.hid (show Below w.heap.size w (w5.alloc (.cells #[.slice a1 t.rs.length k1, .slice a2 t.cs.length k2, .slice a3 t.ns.length k3, .slice a4 t.es.length k4, .slice qa DN qc] 53)) from (bx_trans b5).alloc (bx_trans b5).size _)
      clear hO2 s5 b5
      go_wp2_with fail
      go_ret2
      exact ⟨HQ.out _ _ HZ.out, B5.out⟩
    · have HQ := Lib.hid (HR0.out (by rw [hDN, hnb]; exact decide_eq_false hlt))
      rw [hDN] at HL ⊢
      have e1 : decide ((DN : Int) ≤ M) = true := decide_eq_true (by omega)
      clear hm hs hM he hX hiff hMx hE hDN hnb HX HR0 HR1
      go_enter Tryd.func10, Tryd.ntmps10
      go_wp2_with fail
      refine (HM.out _ (Below.refl _ _)).mono ?_
      rintro e w2 ⟨rfl, b2⟩
      obtain ⟨c0, c1, c2, c3⟩ := HC.out _ b2
      have B2 := Lib.hid b2
      clear b2
      go_wp2_with fail
      refine (HXX.out _ B2.out).mono ?_
      rintro e w3 ⟨rfl, rfl⟩
      go_wp2_with fail
      go_ret2
      exact ⟨HQ.out _, bx_trans B2.out⟩
end Go.Proofs.YtagbpkabfjnplaaDoor
