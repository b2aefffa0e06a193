/- The contracts of what is gone through: many, names, ends, both Great, Flags. -/
import Derived.Test.YtmcpemohemeecaaDoorNuE
import Derived.RegionTactic
namespace Go.Proofs.YtmcpemohemeecaaDoor
open Go Go.RowKit Nu
set_option maxRecDepth 100000

namespace Nu
mutual
/-- Does a node name something? -/
def nms (x : ByteArray) : Nd.T → Bool
  | .mk _ n _ _ b => decide (n.toList = x.toList) || nmsL x b
def nmsL (x : ByteArray) : List Nd.T → Bool
  | [] => false
  | t :: r => nms x t || nmsL x r
end
/-- Is a grammar too great to be gone through? -/
def g4 (nm : ByteArray) (rs : List Rl) : Bool := decide (80 < rs.length) || (rs.any (fun r => decide (3000 < Nd.wt 0 r.body) || decide (200 < r.name.size)) || decide (200 < nm.size))
def sum : List Rl → Nat
  | [] => 0
  | r :: l => Nd.count r.body + sum l
def g5 (nm : ByteArray) (rs : List Rl) : Bool := (g4 nm rs || decide (20 < rs.length)) || decide (500 < sum rs)
theorem sum_append : ∀ (a b : List Rl), sum (a ++ b) = sum a + sum b
  | [], _ => by simp [sum]
  | r :: a, b => by simp only [List.cons_append, sum, sum_append a b]; omega
/-- A grammar's value. -/
def GrV (w : World) (nm : ByteArray) (o1 o2 : Int) (rs : List Rl) (v : Value) : Prop := ∃ ra rc, v = .agg #[.string nm, .int .i64 o1, .int .i64 o2, .slice ra rs.length rc] ∧ nm.size ≤ 140737488351232 ∧ (rs.length ≤ rc ∧ rs.length ≤ 140737488351232) ∧ RuL w rs ra
theorem small_of {nm : ByteArray} {rs : List Rl} (h : g5 nm rs = false) : rs.length ≤ 20 ∧ (∀ r ∈ rs, Nd.deep r.body ≤ 101 ∧ r.name.size ≤ 200) ∧ sum rs ≤ 500 ∧ nm.size ≤ 200 := by
  simp only [g5, g4, Bool.or_eq_false_iff, decide_eq_false_iff_not, List.any_eq_false] at h
  obtain ⟨⟨⟨h1, h2, h3⟩, h4⟩, h5⟩ := h
  refine ⟨by omega, fun r hr => ?_, by omega, by omega⟩
  have := h2 r hr
  simp only [Bool.or_eq_true, decide_eq_true_iff, not_or] at this
  have := (Nd.wt_small r.body 0 (by omega)).1
  omega
theorem count_le_sum : ∀ (rs : List Rl) (r : Rl), r ∈ rs → Nd.count r.body ≤ sum rs
  | [], _, h => by simp at h
  | q :: l, r, h => by
    simp only [sum]
    rcases List.mem_cons.1 h with rfl | h
    · omega
    · have := count_le_sum l r h; omega
end Nu

set_option maxHeartbeats 1000000 in
theorem many_any (t : Nd.T) : ∀ (v : Value) (w : World), Nd.At w t v → Nd.count t ≤ 1099511627776 →
    Calls Tryd.prog 14 #[v] w fun e w' => e = .returned (.int .i64 (Nd.count t)) ∧ Below w.heap.size w w' := by
  induction t using Nd.T.ind with | _ k nm tx st sb ih => ?_
  intro v w hA hle
  have hsub := hA.subs
  have e : Nd.count (.mk k nm tx st sb) = 1 + Nd.countL sb := by simp only [Nd.count]
  rw [e] at hle ⊢
  unfold Nd.At at hA
  obtain ⟨sa, sc, ba, bc, rfl, _, hnm, htx, hsc, hbc, _, _⟩ := hA
  have e0 : Nd.subsA (.agg #[.int .u8 k, .string nm, .string tx, .slice sa st.length sc, .slice ba sb.length bc]) = ba := rfl
  rw [e0] at hsub
  obtain ⟨SN, hSN⟩ : ∃ k, sb.length = k := ⟨_, rfl⟩
  obtain ⟨SL, hSL⟩ : ∃ k, st.length = k := ⟨_, rfl⟩
  have HSN := Lib.hid hSN
  rw [hSN] at hbc ⊢
  rw [hSL] at hsc ⊢
  have n1 : (SN : Int) ≤ 9223372036854775807 := by omega
  obtain ⟨TT, hTT⟩ : ∃ k, 1 + Nd.countL sb = k := ⟨_, rfl⟩
  have HTT := Lib.hid hTT
  rw [hTT] at hle ⊢
  clear hSN hSL e0 e hTT
  go_enter Tryd.func14, Tryd.ntmps14
  go_wp2_with fail
  go_loopw [3, 4] (fun a i wr => ∃ p acc : Nat, p ≤ SN ∧ i = .int .i64 p ∧ a = .int .i64 acc ∧ Hid (acc + Nd.countL (sb.drop p) = TT) ∧ Bk wr w.heap.size 34 #[.int .u8 k, .string nm, .string tx, .slice sa SL sc, .slice ba SN bc] ∧ Below w.heap.size w wr) (fun _ i _ => SN - (intOf i).toNat)
  case atStart => exact ⟨0, 1, Nat.zero_le _, rfl, rfl, by rw [List.drop_zero]; exact HTT, Bk.made w 34 _, (Below.refl _ w).alloc (Nat.le_refl _) _⟩
  case round =>
    obtain ⟨p, acc, hp, rfl, rfl, hT, hK, hB⟩ := hrel
    have c4 := hK.cell 4
    simp at c4
    have haT : acc ≤ TT := by have := hT.out; omega
    obtain ⟨A, hA⟩ : ∃ A : Int, (acc : Int) = A := ⟨_, rfl⟩
    rw [hA]
    by_cases hlt : p < SN
    · have d2 : decide (p < SN) = true := by rw [decide_eq_true_iff]; exact hlt
      have p0 : (p : Int) < (SN : Int) := by omega
      obtain ⟨s, hs⟩ : ∃ s, sb[p]? = some s := ⟨_, List.getElem?_eq_getElem (by rw [HSN.out]; exact hlt)⟩
      obtain ⟨g, o, v0, v1, v2, v3, v4, rfl, h0, h1, h2, h3, h4, hv, hAs⟩ := hsub.val p s hs
      have e0 := Nd.cell_keeps hB h0
      have e1 := Nd.cell_keeps hB h1
      have e2 := Nd.cell_keeps hB h2
      have e3 := Nd.cell_keeps hB h3
      have e4 := Nd.cell_keeps hB h4
      have hst : acc + Nd.count s + Nd.countL (sb.drop (p + 1)) = TT := by
        rw [← hT.out, Nd.drop_some hs]
        simp only [Nd.countL]
        omega
      have hC := ih s (List.mem_of_getElem? hs) _ wr (hAs.below hB) (by omega)
      obtain ⟨CW, hCW⟩ : ∃ A : Int, (Nd.count s : Int) = A := ⟨_, rfl⟩
      rw [hCW] at hC
      have hA2 : ((acc + Nd.count s : Nat) : Int) = A + CW := by omega
      have HA2 := Lib.hid hA2
      have HST := Lib.hid hst
      have w4 : IntKind.i64.wrap (A + CW) = A + CW := IntWalk.i64_in _ (by omega)
      obtain ⟨sa1, sc1, ba1, bc1, rfl, rfl, rfl, rfl, rfl⟩ := hAs.five
      generalize s.kind = sk at *
      generalize s.name = sn at *
      generalize s.text = sx at *
      generalize s.set.length = sl at *
      generalize s.subs.length = sm at *
      replace hC := Lib.hid hC
      clear h0 h1 h2 h3 h4 hv hAs hs hCW hA hA2 hst haT
      go_wp2_with (go_at_call 14; refine hC.out.mono ?_; rintro e w' ⟨rfl, hb⟩)
      refine ⟨⟨p + 1, acc + Nd.count s, by omega, by go_num, by rw [HA2.out], HST, hK.below hb hK.lt, hB.trans (hb.mono hB.size)⟩, by simp [intOf]; omega⟩
    · have d2 : decide (p < SN) = false := by rw [decide_eq_false_iff_not]; exact hlt
      have hfin : acc = TT := by
        rw [← hT.out, List.drop_eq_nil_of_le (by rw [HSN.out]; omega)]
        simp only [Nd.countL]; omega
      have HF := Lib.hid (show A = (TT : Int) by omega)
      clear hT hfin hA haT
      go_wp2_with fail
      go_ret
      exact ⟨by rw [HF.out]; rfl, hB⟩
end Go.Proofs.YtmcpemohemeecaaDoor
