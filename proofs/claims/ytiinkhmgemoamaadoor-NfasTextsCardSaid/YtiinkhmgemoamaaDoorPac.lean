/- A block that is known whole. -/
import Derived.Test.YtiinkhmgemoamaaDoorPaa
import Derived.Test.YtiinkhmgemoamaaDoorProg
import Derived.WalkSpells
import Derived.Lib.Hide
import Derived.WalkKit
import Derived.Below
import Derived.Laws.AppendOwn
import Derived.RangeFuncOwn
import Derived.RangeFuncFrom
import Derived.Test.YtiinkhmgemoamaaDoorPab
import Derived.IntWalk
import Derived.WalkSmall
namespace Go.Proofs.YtiinkhmgemoamaaDoor
open Go Go.RowKit


/-- Block b is just the cells cs of type t, none of them frozen. -/
def Bk (w : World) (b : Nat) (t : TypeId) (cs : Array Value) : Prop := w.heap[b]? = some (.cells cs t (0, 0))
theorem Bk.lt {w : World} {b : Nat} {t : TypeId} {cs : Array Value} (h : Bk w b t cs) : b < w.heap.size := by unfold Bk at h; exact (Array.getElem?_eq_some_iff.1 h).1
theorem Bk.cell {w : World} {b : Nat} {t : TypeId} {cs : Array Value} (h : Bk w b t cs) (i : Nat) : w.cell? ⟨b, i, none⟩ = cs[i]? := by unfold Bk at h; simp [World.cell?, h]
theorem Bk.free {w : World} {b : Nat} {t : TypeId} {cs : Array Value} (h : Bk w b t cs) (i : Nat) : w.frozen? ⟨b, i, none⟩ = false := by unfold Bk at h; simp [World.frozen?, h]
theorem Bk.made (w : World) (t : TypeId) (cs : Array Value) : Bk (w.alloc (.cells cs t)) w.heap.size t cs := by
 unfold Bk
 show (w.heap.push (Obj.cells cs t))[w.heap.size]? = _
 simp
theorem Bk.alloc {w : World} {b : Nat} {t : TypeId} {cs : Array Value} (h : Bk w b t cs) (o : Obj) : Bk (w.alloc o) b t cs := by
 have hl := h.lt
 unfold Bk at h ⊢
 rw [Below.heap_alloc _ _ _ hl]; exact h
theorem Bk.set {w : World} {b : Nat} {t : TypeId} {cs : Array Value} (h : Bk w b t cs) (i : Nat) (v : Value) : Bk (w.setCell ⟨b, i, none⟩ v) b t (cs.setIfInBounds i v) := by
 unfold Bk at h ⊢
 simp [World.setCell, Array.getElem?_modify, h]
theorem Bk.other {w : World} {b : Nat} {t : TypeId} {cs : Array Value} (h : Bk w b t cs) (a : Addr) (v : Value) (hne : b ≠ a.block) : Bk (w.setCell a v) b t cs := by
 unfold Bk at h ⊢
 rw [Below.heap_setCell _ _ _ _ hne]; exact h
theorem Bk.below {w w' : World} {b : Nat} {t : TypeId} {cs : Array Value} {B : Nat} (h : Bk w b t cs) (hb : Below B w w') (hB : b < B) : Bk w' b t cs := by
 unfold Bk at h ⊢
 rw [hb.block b hB]; exact h
theorem Bk.grown {w w' : World} {b : Nat} {t : TypeId} {cs : Array Value} {row : Option Nat} (h : Bk w b t cs) (hg : w.grownBy w' row) (hr : some b ≠ row) : Bk w' b t cs := by
 have hl := h.lt
 unfold Bk at h ⊢
 rw [hg.block b hl hr]; exact h
theorem Bk.ne {w : World} {b c : Nat} {t u : TypeId} {cs ds : Array Value} (h : Bk w b t cs) (k : Bk w c u ds) (hne : t ≠ u) : b ≠ c := by
 rintro rfl
 unfold Bk at h k
 rw [h] at k
 injection k with k
 injection k with _ k
 exact hne k
theorem Bk.kept {A B : World} {b : Nat} {t : TypeId} {cs : Array Value} {row : Option Nat} (h : Bk A b t cs) (hg : A.grownBy B row) (hr : ∀ r, row = some r → ∃ o : Obj, A.heap[r]? = some o ∧ o.isCells = false) : Bk B b t cs := by
 refine h.grown hg ?_
 intro e
 obtain ⟨o, ho, hc⟩ := hr b e.symm
 unfold Bk at h
 rw [h] at ho
 injection ho with ho
 subst ho
 simp [Obj.isCells] at hc
end Go.Proofs.YtiinkhmgemoamaaDoor
namespace Go.Proofs.YtiinkhmgemoamaaDoor
open Go Go.RowKit
set_option maxRecDepth 100000
namespace Nd
mutual
/-- A node's weight at a depth. -/
def wt (d : Nat) : T → Nat
 | .mk _ n x s b => if 100 < d then 9000 else wtL d (1 + x.size + n.size + s.length) b
def wtL (d acc : Nat) : List T → Nat
 | [] => acc
 | t :: r => if acc < 9000 then wtL d (acc + wt (d + 1) t) r else acc
end
theorem wtL_ge (d : Nat) : ∀ (b : List T) (acc : Nat), acc ≤ wtL d acc b
 | [], _ => by simp [wtL]
 | t :: r, acc => by
  simp only [wtL]
  split
  · exact Nat.le_trans (Nat.le_add_right _ _) (wtL_ge d r _)
  · exact Nat.le_refl _
theorem wtL_full (d : Nat) (b : List T) (acc : Nat) (h : 9000 ≤ acc) : wtL d acc b = acc := by
 cases b with
 | nil => simp [wtL]
 | cons t r => simp only [wtL]; rw [if_neg (by omega)]
mutual
theorem wt_le (w : World) : ∀ (t : T) (v : Value) (d : Nat), At w t v → wt d t ≤ 422212465053697 + 9000 * (102 - d)
 | .mk k n x s b, v, d, h => by
  have e : wt d (.mk k n x s b) = if 100 < d then 9000 else wtL d (1 + x.size + n.size + s.length) b := by simp only [wt]
  rw [e]
  have hs := h.subs
  unfold At at h
  obtain ⟨sa, sc, ba, bc, _, _, h1, h2, h3, _, _, _⟩ := h
  split
  · omega
  · exact wtL_le w b _ d _ _ hs (by omega) (by omega) (by omega)
theorem wtL_le (w : World) : ∀ (b : List T) (a : Option Addr) (d acc X : Nat), AtL w b a → acc ≤ X → 9000 + (422212465053697 + 9000 * (101 - d)) ≤ X → d ≤ 100 → wtL d acc b ≤ X
 | [], _, _, _, _, _, h, _, _ => by simpa only [wtL] using h
 | t :: r, a, d, acc, X, ha, h, hX, hd => by
  simp only [wtL]
  split
  · have := wt_le w t _ (d + 1) ha.here.1
    exact wtL_le w r _ d _ X ha.here.2 (by omega) hX hd
  · exact h
end
mutual
theorem wt_small : ∀ (t : T) (d : Nat), wt d t ≤ 3000 → deep t + d ≤ 101 ∧ count t ≤ wt d t
 | .mk k n x s b, d, h => by
  have e : wt d (.mk k n x s b) = if 100 < d then 9000 else wtL d (1 + x.size + n.size + s.length) b := by simp only [wt]
  have e1 : deep (.mk k n x s b) = 1 + deepL b := by simp only [deep]
  have e2 : count (.mk k n x s b) = 1 + countL b := by simp only [count]
  rw [e] at h ⊢
  rw [e1, e2]
  split at h
  · omega
  · rename_i hd
    rw [if_neg hd]
    obtain ⟨h1, h2⟩ := wtL_small b d _ h
    by_cases hz : deepL b = 0
    · omega
    · have := h1 hz; omega
theorem wtL_small : ∀ (b : List T) (d acc : Nat), wtL d acc b ≤ 3000 → (deepL b ≠ 0 → deepL b + (d + 1) ≤ 101) ∧ acc + countL b ≤ wtL d acc b
 | [], d, acc, h => by simp [wtL, deepL, countL]
 | t :: r, d, acc, h => by
  have hge := wtL_ge d (t :: r) acc
  have e : wtL d acc (t :: r) = wtL d (acc + wt (d + 1) t) r := by simp only [wtL]; rw [if_pos (by omega)]
  have e1 : deepL (t :: r) = max (deep t) (deepL r) := by simp only [deepL]
  have e2 : countL (t :: r) = count t + countL r := by simp only [countL]
  rw [e] at h ⊢
  rw [e1, e2]
  have hge2 := wtL_ge d r (acc + wt (d + 1) t)
  obtain ⟨h1, h2⟩ := wt_small t (d + 1) (by omega)
  obtain ⟨h3, h4⟩ := wtL_small r d _ h
  refine ⟨fun _ => ?_, by omega⟩
  by_cases hz : deepL r = 0
  · omega
  · have := h3 hz; omega
end
end Nd
set_option maxHeartbeats 1000000 in
theorem weight_any (t : Nd.T) : ∀ (d : Nat) (v : Value) (w : World), Nd.At w t v → d ≤ 101 →
 Calls Tryd.prog 42 #[v, .int .i64 d] w fun e w' => e = .returned (.int .i64 (Nd.wt d t)) ∧ Below w.heap.size w w' := by
 induction t using Nd.T.ind with | _ k nm tx st sb ih => ?_
 intro d v w hA hd
 have hsub := hA.subs
 have hle := Nd.wt_le w _ v d hA
 have e : Nd.wt d (.mk k nm tx st sb) = if 100 < d then 9000 else Nd.wtL d (1 + tx.size + nm.size + st.length) sb := by simp only [Nd.wt]
 rw [e] at hle ⊢
 unfold Nd.At at hA
 obtain ⟨sa, sc, ba, bc, rfl, _, hnm, htx, hsc, hbc, _, _⟩ := hA
 have e0 : Nd.subsA (.agg #[.int .u8 k, .string nm, .string tx, .slice sa st.length sc, .slice ba sb.length bc]) = ba := rfl
 rw [e0] at hsub
 obtain ⟨SN, hSN⟩ : ∃ k, sb.length = k := ⟨_, rfl⟩
 obtain ⟨SL, hSL⟩ : ∃ k, st.length = k := ⟨_, rfl⟩
 have HSN := Lib.hid hSN
 rw [hSN] at hbc ⊢
 rw [hSL] at hsc hle ⊢
 clear hSN hSL e0 e
 have n1 : (SN : Int) ≤ 9223372036854775807 := by omega
 obtain ⟨D, hD⟩ : ∃ D : Int, (d : Int) = D := ⟨_, rfl⟩
 have HD := Lib.hid hD
 rw [hD]
 by_cases h100 : 100 < d
 · rw [if_pos h100]
   have d0 : decide (100 < D) = true := by rw [decide_eq_true_iff]; omega
   have d1 : 100 < D := by omega
   clear hle hD
   go_enter Tryd.func42, Tryd.ntmps42
   go_wp2_with fail
   go_ret
   exact ⟨rfl, (Below.refl _ w).alloc (Nat.le_refl _) _⟩
 · rw [if_neg h100] at hle ⊢
   have d0 : decide (100 < D) = false := by rw [decide_eq_false_iff_not]; omega
   have d1 : ¬ 100 < D := by omega
   have w1 : IntKind.i64.wrap (D + 1) = D + 1 := IntWalk.i64_in _ (by omega)
   have hD1 : ((d + 1 : Nat) : Int) = D + 1 := by omega
   obtain ⟨AC, hAC⟩ : ∃ A, 1 + tx.size + nm.size + SL = A := ⟨_, rfl⟩
   have a1 : IntKind.i64.wrap (1 + (tx.size : Int)) = 1 + (tx.size : Int) := IntWalk.i64_in _ (by omega)
   have a2 : IntKind.i64.wrap (1 + (tx.size : Int) + (nm.size : Int)) = 1 + (tx.size : Int) + (nm.size : Int) := IntWalk.i64_in _ (by omega)
   have a3 : IntKind.i64.wrap (1 + (tx.size : Int) + (nm.size : Int) + (SL : Int)) = (AC : Int) := by rw [IntWalk.i64_in _ (by omega)]; omega
   have hACb : AC ≤ 1125899906842624 := by omega
   rw [hAC] at hle ⊢
   obtain ⟨TT, hTT⟩ : ∃ k, Nd.wtL d AC sb = k := ⟨_, rfl⟩
   have HTT := Lib.hid hTT
   rw [hTT] at hle ⊢
   clear hD hAC hTT
   go_enter Tryd.func42, Tryd.ntmps42
   go_wp2_with fail
   go_loopw [5, 6] (fun a i wr => ∃ p acc : Nat, p ≤ SN ∧ i = .int .i64 p ∧ a = .int .i64 acc ∧ acc ≤ 1125899906842624 ∧ Hid (Nd.wtL d acc (sb.drop p) = TT) ∧ Bk wr w.heap.size 34 #[.int .u8 k, .string nm, .string tx, .slice sa SL sc, .slice ba SN bc] ∧ Below w.heap.size w wr) (fun _ i _ => SN - (intOf i).toNat)
   case atStart => exact ⟨0, AC, Nat.zero_le _, rfl, rfl, by omega, by rw [List.drop_zero]; exact HTT, Bk.made w 34 _, (Below.refl _ w).alloc (Nat.le_refl _) _⟩
   case round =>
    obtain ⟨p, acc, hp, rfl, rfl, hacc, hT, hK, hB⟩ := hrel
    have c4 := hK.cell 4
    simp at c4
    obtain ⟨A, hA⟩ : ∃ A : Int, (acc : Int) = A := ⟨_, rfl⟩
    rw [hA]
    by_cases hlt : p < SN
    · have d2 : decide (p < SN) = true := by rw [decide_eq_true_iff]; exact hlt
      have p0 : (p : Int) < (SN : Int) := by omega
      by_cases h9 : acc < 9000
      · have d3 : decide (A < 9000) = true := by rw [decide_eq_true_iff]; omega
        have d4 : A < 9000 := by omega
        obtain ⟨s, hs⟩ : ∃ s, sb[p]? = some s := ⟨_, List.getElem?_eq_getElem (by rw [HSN.out]; exact hlt)⟩
        obtain ⟨g, o, v0, v1, v2, v3, v4, rfl, h0, h1, h2, h3, h4, hv, hAs⟩ := hsub.val p s hs
        have e0 := Nd.cell_keeps hB h0
        have e1 := Nd.cell_keeps hB h1
        have e2 := Nd.cell_keeps hB h2
        have e3 := Nd.cell_keeps hB h3
        have e4 := Nd.cell_keeps hB h4
        have hw := Nd.wt_le w s _ (d + 1) hAs
        have hC := ih s (List.mem_of_getElem? hs) (d + 1) _ wr (hAs.below hB) (by omega)
        have hst : Nd.wtL d (acc + Nd.wt (d + 1) s) (sb.drop (p + 1)) = TT := by
         rw [← hT.out, Nd.drop_some hs]
         simp only [Nd.wtL]
         rw [if_pos h9]
        obtain ⟨CW, hCW⟩ : ∃ A : Int, (Nd.wt (d + 1) s : Int) = A := ⟨_, rfl⟩
        rw [hD1, hCW] at hC
        have hA2 : ((acc + Nd.wt (d + 1) s : Nat) : Int) = A + CW := by omega
        have HA2 := Lib.hid hA2
        have HST := Lib.hid hst
        have w4 : IntKind.i64.wrap (A + CW) = A + CW := IntWalk.i64_in _ (by omega)
        have hbd : acc + Nd.wt (d + 1) s ≤ 1125899906842624 := by omega
        obtain ⟨sa1, sc1, ba1, bc1, rfl, rfl, rfl, rfl, rfl⟩ := hAs.five
        generalize s.kind = sk at *
        generalize s.name = sn at *
        generalize s.text = sx at *
        generalize s.set.length = sl at *
        generalize s.subs.length = sm at *
        replace hC := Lib.hid hC
        clear h0 h1 h2 h3 h4 hv hAs hw hs hCW hA hA2 hst h9
        go_wp2_with (go_at_call 42; refine hC.out.mono ?_; rintro e w' ⟨rfl, hb⟩)
        refine ⟨⟨p + 1, acc + Nd.wt (d + 1) s, by omega, by go_num, by rw [HA2.out], hbd, HST, hK.below hb hK.lt, hB.trans (hb.mono hB.size)⟩, by simp [intOf]; omega⟩
      · have d3 : decide (A < 9000) = false := by rw [decide_eq_false_iff_not]; omega
        have d4 : ¬ A < 9000 := by omega
        have hfin : acc = TT := by rw [← hT.out, Nd.wtL_full _ _ _ (by omega)]
        have HF := Lib.hid (show A = (TT : Int) by omega)
        clear hT hfin hA h9
        go_wp2_with fail
        go_ret
        exact ⟨by rw [HF.out]; rfl, hB⟩
    · have d2 : decide (p < SN) = false := by rw [decide_eq_false_iff_not]; exact hlt
      have hfin : acc = TT := by
       rw [← hT.out, List.drop_eq_nil_of_le (by rw [HSN.out]; omega)]
       simp only [Nd.wtL]
      have HF := Lib.hid (show A = (TT : Int) by omega)
      clear hT hfin hA
      go_wp2_with fail
      go_ret
      exact ⟨by rw [HF.out]; rfl, hB⟩
set_option maxHeartbeats 400000 in
theorem Great_any (t : Nd.T) (v : Value) (w : World) (hA : Nd.At w t v) :
 Calls Tryd.prog 27 #[v] w fun e w' => e = .returned (.bool (decide (3000 < Nd.wt 0 t))) ∧ Below w.heap.size w w' := by
 have hC := fun o => weight_any t 0 v (w.alloc o) (hA.below ((Below.refl _ w).alloc (Nat.le_refl _) o)) (by omega)
 obtain ⟨sa, sc, ba, bc, rfl, _⟩ := hA.form
 generalize t.kind = sk at *
 generalize t.name = sn at *
 generalize t.text = sx at *
 generalize t.set.length = sl at *
 generalize t.subs.length = sm at *
 obtain ⟨CN, hCN⟩ : ∃ C : Int, (Nd.wt 0 t : Int) = C := ⟨_, rfl⟩
 rw [hCN, show ((0 : Nat) : Int) = 0 from rfl] at hC
 replace hC := Lib.hid hC
 have e0 : decide (3000 < Nd.wt 0 t) = decide (3000 < CN) := by
  by_cases h : 3000 < Nd.wt 0 t
  · rw [decide_eq_true h, decide_eq_true (by omega)]
  · rw [decide_eq_false h, decide_eq_false (by omega)]
 rw [e0]
 clear e0 hCN
 go_enter Tryd.func27, Tryd.ntmps27
 go_wp2_with (go_at_call 42; refine (hC.out _).mono ?_; rintro e w' ⟨rfl, hb⟩)
 go_ret
 exact ⟨rfl, ((Below.refl _ w).alloc (Nat.le_refl _) _).trans (hb.mono (by simp))⟩
end Go.Proofs.YtiinkhmgemoamaaDoor
