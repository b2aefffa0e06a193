/- The chapter's own Count and Deep. -/
import Derived.Test.YthfkodimafmmgaaGreatDoorNdE
namespace Go.Proofs.YthfkodimafmmgaaGreatDoor
open Go Go.RowKit
set_option maxRecDepth 100000
namespace Nd
theorem count_mem : ∀ {b : List T} {s : T}, s ∈ b → count s ≤ countL b
  | t :: r, s, h => by
    have e : countL (t :: r) = count t + countL r := by simp only [countL]
    rcases List.mem_cons.1 h with rfl | h
    · omega
    · have := count_mem h; omega
theorem deep_mem : ∀ {b : List T} {s : T}, s ∈ b → deep s ≤ deepL b
  | t :: r, s, h => by
    have e : deepL (t :: r) = max (deep t) (deepL r) := by simp only [deepL]
    rcases List.mem_cons.1 h with rfl | h
    · omega
    · have := deep_mem h; omega
theorem countL_drop {b : List T} {p : Nat} {s : T} (h : b[p]? = some s) : countL (b.drop p) = count s + countL (b.drop (p + 1)) := by rw [drop_some h]; simp only [countL]
theorem deepL_drop {b : List T} {p : Nat} {s : T} (h : b[p]? = some s) : deepL (b.drop p) = max (deep s) (deepL (b.drop (p + 1))) := by rw [drop_some h]; simp only [deepL]
end Nd
set_option maxHeartbeats 1000000 in
theorem refCount_any (t : Nd.T) : ∀ (v : Value) (w : World), Nd.At w t v → Nd.count t ≤ 1000000 →
    Calls Tryz.prog 7 #[v] w fun e w' => e = .returned (.int .i64 (Nd.count t)) ∧ Below w.heap.size w w' := by
  induction t using Nd.T.ind with | _ k nm tx st sb ih => ?_
  intro v w hA hc
  have hsub := hA.subs
  have e : Nd.count (.mk k nm tx st sb) = 1 + Nd.countL sb := by simp only [Nd.count]
  rw [e] at hc ⊢
  unfold Nd.At at hA
  obtain ⟨sa, sc, ba, bc, rfl, _, _, _, _, hbc, _, _⟩ := hA
  have e0 : Nd.subsA (.agg #[.int .u8 k, .string nm, .string tx, .slice sa st.length sc, .slice ba sb.length bc]) = ba := rfl
  rw [e0] at hsub
  obtain ⟨SN, hSN⟩ : ∃ k, sb.length = k := ⟨_, rfl⟩
  have HSN := Lib.hid hSN
  rw [hSN] at hbc ⊢
  generalize st.length = SL at *
  clear hSN e0 e
  have n1 : (SN : Int) ≤ 9223372036854775807 := by omega
  obtain ⟨TT, hTT⟩ : ∃ k, 1 + Nd.countL sb = k := ⟨_, rfl⟩
  have HTT := Lib.hid hTT
  rw [hTT] at hc ⊢
  clear hTT
  go_enter Tryz.func7, Tryz.ntmps7
  go_wp2_with fail
  go_loopw [3, 4] (fun a i wr => ∃ p acc : Nat, p ≤ SN ∧ i = .int .i64 p ∧ a = .int .i64 acc ∧ acc ≤ 1000000 ∧ Hid (acc + Nd.countL (sb.drop p) = TT) ∧ Bk wr w.heap.size 26 #[.int .u8 k, .string nm, .string tx, .slice sa SL sc, .slice ba SN bc] ∧ Below w.heap.size w wr) (fun _ i _ => SN - (intOf i).toNat)
  case atStart => exact ⟨0, 1, Nat.zero_le _, rfl, rfl, by omega, by rw [List.drop_zero]; exact HTT, Bk.made w 26 _, (Below.refl _ w).alloc (Nat.le_refl _) _⟩
  case round =>
    obtain ⟨p, acc, hp, rfl, rfl, hacc, hT, hK, hB⟩ := hrel
    have c4 := hK.cell 4
    simp at c4
    obtain ⟨A, hA⟩ : ∃ A : Int, (acc : Int) = A := ⟨_, rfl⟩
    rw [hA]
    by_cases hlt : p < SN
    · have d2 : decide (p < SN) = true := by rw [decide_eq_true_iff]; exact hlt
      have p0 : (p : Int) < (SN : Int) := by omega
      obtain ⟨s, hs⟩ : ∃ s, sb[p]? = some s := ⟨_, List.getElem?_eq_getElem (by rw [HSN.out]; exact hlt)⟩
      obtain ⟨g, o, v0, v1, v2, v3, v4, rfl, h0, h1, h2, h3, h4, hv, hAs⟩ := hsub.val p s hs
      have e0 := Nd.cell_keeps hB h0
      have e1 := Nd.cell_keeps hB h1
      have e2 := Nd.cell_keeps hB h2
      have e3 := Nd.cell_keeps hB h3
      have e4 := Nd.cell_keeps hB h4
      have hmem := List.mem_of_getElem? hs
      have hcs : Nd.count s ≤ Nd.countL sb := Nd.count_mem hmem
      have hst : acc + Nd.count s + Nd.countL (sb.drop (p + 1)) = TT := by
        rw [← hT.out, Nd.countL_drop hs]
        omega
      have hC := ih s hmem _ wr (hAs.below hB) (by have := HTT.out; omega)
      obtain ⟨CW, hCW⟩ : ∃ A : Int, (Nd.count s : Int) = A := ⟨_, rfl⟩
      rw [hCW] at hC
      have hA2 : ((acc + Nd.count s : Nat) : Int) = A + CW := by omega
      have HA2 := Lib.hid hA2
      have HST := Lib.hid hst
      have w4 : IntKind.i64.wrap (A + CW) = A + CW := IntWalk.i64_in _ (by omega)
      have hbd : acc + Nd.count s ≤ 1000000 := by omega
      obtain ⟨sa1, sc1, ba1, bc1, rfl, rfl, rfl, rfl, rfl⟩ := hAs.five
      generalize s.kind = sk at *
      generalize s.name = sn at *
      generalize s.text = sx at *
      generalize s.set.length = sl at *
      generalize s.subs.length = sm at *
      replace hC := Lib.hid hC
      clear h0 h1 h2 h3 h4 hv hAs hs hCW hA hA2 hst hcs hmem
      go_wp2_with (go_at_call 7; refine hC.out.mono ?_; rintro e w' ⟨rfl, hb⟩)
      refine ⟨⟨p + 1, acc + Nd.count s, by omega, by go_num, by rw [HA2.out], hbd, HST, hK.below hb hK.lt, hB.trans (hb.mono hB.size)⟩, by simp [intOf]; omega⟩
    · have d2 : decide (p < SN) = false := by rw [decide_eq_false_iff_not]; exact hlt
      have hfin : acc = TT := by
        rw [← hT.out, List.drop_eq_nil_of_le (by rw [HSN.out]; omega)]
        simp only [Nd.countL]
        rfl
      have HF := Lib.hid (show A = (TT : Int) by omega)
      clear hT hfin hA
      go_wp2_with fail
      go_ret
      exact ⟨by rw [HF.out]; rfl, hB⟩
set_option maxHeartbeats 1000000 in
theorem refDeep_any (t : Nd.T) : ∀ (v : Value) (w : World), Nd.At w t v → Nd.deep t ≤ 1000000 →
    Calls Tryz.prog 9 #[v] w fun e w' => e = .returned (.int .i64 (Nd.deep t)) ∧ Below w.heap.size w w' := by
  induction t using Nd.T.ind with | _ k nm tx st sb ih => ?_
  intro v w hA hc
  have hsub := hA.subs
  have e : Nd.deep (.mk k nm tx st sb) = 1 + Nd.deepL sb := by simp only [Nd.deep]
  rw [e] at hc ⊢
  unfold Nd.At at hA
  obtain ⟨sa, sc, ba, bc, rfl, _, _, _, _, hbc, _, _⟩ := hA
  have e0 : Nd.subsA (.agg #[.int .u8 k, .string nm, .string tx, .slice sa st.length sc, .slice ba sb.length bc]) = ba := rfl
  rw [e0] at hsub
  obtain ⟨SN, hSN⟩ : ∃ k, sb.length = k := ⟨_, rfl⟩
  have HSN := Lib.hid hSN
  rw [hSN] at hbc ⊢
  generalize st.length = SL at *
  clear hSN e0 e
  have n1 : (SN : Int) ≤ 9223372036854775807 := by omega
  obtain ⟨TT, hTT⟩ : ∃ k, Nd.deepL sb = k := ⟨_, rfl⟩
  have HTT := Lib.hid hTT
  rw [hTT] at hc ⊢
  clear hTT
  go_enter Tryz.func9, Tryz.ntmps9
  go_wp2_with fail
  go_loopw [3, 4] (fun a i wr => ∃ p acc : Nat, p ≤ SN ∧ i = .int .i64 p ∧ a = .int .i64 acc ∧ acc ≤ 1000000 ∧ Hid (max acc (Nd.deepL (sb.drop p)) = TT) ∧ Bk wr w.heap.size 26 #[.int .u8 k, .string nm, .string tx, .slice sa SL sc, .slice ba SN bc] ∧ Below w.heap.size w wr) (fun _ i _ => SN - (intOf i).toNat)
  case atStart => exact ⟨0, 0, Nat.zero_le _, rfl, rfl, by omega, Lib.hid (by rw [List.drop_zero, HTT.out]; omega), Bk.made w 26 _, (Below.refl _ w).alloc (Nat.le_refl _) _⟩
  case round =>
    obtain ⟨p, acc, hp, rfl, rfl, hacc, hT, hK, hB⟩ := hrel
    have c4 := hK.cell 4
    simp at c4
    obtain ⟨A, hA⟩ : ∃ A : Int, (acc : Int) = A := ⟨_, rfl⟩
    rw [hA]
    by_cases hlt : p < SN
    · have d2 : decide (p < SN) = true := by rw [decide_eq_true_iff]; exact hlt
      have p0 : (p : Int) < (SN : Int) := by omega
      obtain ⟨s, hs⟩ : ∃ s, sb[p]? = some s := ⟨_, List.getElem?_eq_getElem (by rw [HSN.out]; exact hlt)⟩
      obtain ⟨g, o, v0, v1, v2, v3, v4, rfl, h0, h1, h2, h3, h4, hv, hAs⟩ := hsub.val p s hs
      have e0 := Nd.cell_keeps hB h0
      have e1 := Nd.cell_keeps hB h1
      have e2 := Nd.cell_keeps hB h2
      have e3 := Nd.cell_keeps hB h3
      have e4 := Nd.cell_keeps hB h4
      have hmem := List.mem_of_getElem? hs
      have hcs : Nd.deep s ≤ Nd.deepL sb := Nd.deep_mem hmem
      have hst : max (max acc (Nd.deep s)) (Nd.deepL (sb.drop (p + 1))) = TT := by
        rw [← hT.out, Nd.deepL_drop hs]
        omega
      have hC := ih s hmem _ wr (hAs.below hB) (by have := HTT.out; omega)
      obtain ⟨CW, hCW⟩ : ∃ A : Int, (Nd.deep s : Int) = A := ⟨_, rfl⟩
      rw [hCW] at hC
      obtain ⟨M, hM⟩ : ∃ M : Nat, max acc (Nd.deep s) = M := ⟨_, rfl⟩
      rw [hM] at hst
      have hbd : M ≤ 1000000 := by have := HTT.out; omega
      have hA2 : max A CW = (M : Int) := by omega
      have HST := Lib.hid hst
      obtain ⟨sa1, sc1, ba1, bc1, rfl, rfl, rfl, rfl, rfl⟩ := hAs.five
      generalize s.kind = sk at *
      generalize s.name = sn at *
      generalize s.text = sx at *
      generalize s.set.length = sl at *
      generalize s.subs.length = sm at *
      replace hC := Lib.hid hC
      have HA2 := Lib.hid hA2
      clear h0 h1 h2 h3 h4 hv hAs hs hCW hA hst hcs hmem hM hA2
      go_wp2_with (go_at_call 9; refine hC.out.mono ?_; rintro e w' ⟨rfl, hb⟩)
      refine ⟨⟨p + 1, M, by omega, by go_num, by rw [← HA2.out], hbd, HST, hK.below hb hK.lt, hB.trans (hb.mono hB.size)⟩, by simp [intOf]; omega⟩
    · have d2 : decide (p < SN) = false := by rw [decide_eq_false_iff_not]; exact hlt
      have hfin : acc = TT := by
        rw [← hT.out, List.drop_eq_nil_of_le (by rw [HSN.out]; omega)]
        simp only [Nd.deepL]
        omega
      have HF := Lib.hid (show A + 1 = ((1 + TT : Nat) : Int) by omega)
      have w5 : IntKind.i64.wrap (A + 1) = A + 1 := IntWalk.i64_in _ (by omega)
      clear hT hfin hA
      go_wp2_with fail
      go_ret
      exact ⟨by rw [HF.out]; rfl, hB⟩
end Go.Proofs.YthfkodimafmmgaaGreatDoor
