/- The contract of the chapter's own Split. -/
import Derived.Test.YtianappapfpbeaaRnW
namespace Go.Proofs.Ytianappapfpbeaa
open Go Go.RowKit Rn
set_option maxRecDepth 100000

namespace Rn
/-- Do the first k lists hold both alike? -/
def allEq (ls : List (List (Int × Int))) (a y : Int) (k : Nat) : Bool := (ls.take k).all fun l => hasB l y == hasB l a
theorem allEq_take {ls : List (List (Int × Int))} {k : Nat} {l : List (Int × Int)} {a y : Int} (h : ls[k]? = some l) : allEq ls a y (k + 1) = (allEq ls a y k && (hasB l y == hasB l a)) := by
  unfold allEq
  rw [List.take_add_one, h, List.all_append]
  simp
theorem allEq_of {ls : List (List (Int × Int))} {k : Nat} {a y : Int} (h : sig ls a = sig ls y) : allEq ls a y k = true := by
  unfold allEq
  rw [List.all_eq_true]
  intro l hl
  have hl2 := List.mem_of_mem_take hl
  obtain ⟨i, hi⟩ := List.getElem?_of_mem hl2
  have h1 : (sig ls a)[i]? = some (hasB l a) := by unfold sig; rw [List.getElem?_map, hi]; rfl
  have h2 : (sig ls y)[i]? = some (hasB l y) := by unfold sig; rw [List.getElem?_map, hi]; rfl
  rw [h, h2] at h1
  injection h1 with h1
  rw [h1]
  simp
theorem allEq_all {ls : List (List (Int × Int))} {k : Nat} {a y : Int} (hk : ls.length ≤ k) (h : allEq ls a y k = true) : sig ls a = sig ls y := by
  unfold allEq at h
  rw [List.take_of_length_le hk, List.all_eq_true] at h
  unfold sig
  apply List.map_congr_left
  intro l hl
  have := h l hl
  rw [beq_iff_eq] at this
  exact this.symm
end Rn
theorem quiet_onRn {P : Program} {f : FuncId} {args : Array Value} {w : World} {a n : Nat} {v : Value} (h : Calls P f args (w.drewN (a + n)) fun e w' => e = .returned v ∧ w' = w.drewN (a + n)) : Calls P f args (w.drewN (a + n)) fun e w'' => e = .returned v ∧ ∃ m, w'' = w.drewN (a + m) :=
  h.mono fun _ _ ⟨he, hm⟩ => ⟨he, n, hm⟩
set_option maxHeartbeats 16000000 in
theorem refSplitRn_any (ls : List (List (Int × Int))) (v : Value) (w : World) (hL : RLL w v ls) (hlen : ls.length ≤ 1000000) (hin : ∀ l ∈ ls, I32 l ∧ l.length ≤ 1000000) :
    Calls Try.prog 19 #[v] w fun e w' => ∃ v' l, e = .returned v' ∧ Runs (noSig ls) (sig ls) lowest l ∧ RL w' v' l ∧ Below w.heap.size w w' := by
  obtain ⟨i0, hi, hz0, hz1, hz2⟩ := info_partsRn infoRg
  have hCh := Lib.hid (ChangesRn_any ls v w hL hlen hin)
  have HSeg := Lib.hid (fun y z (h : Rn.Calm ls y z) => h.seg (σ := sig ls) (fun v w h => by
    unfold sig
    exact List.map_congr_left (fun l hl => h l hl)))
  have HZ := Lib.hid (fun v (h : (sig ls) v ≠ noSig ls) => (show -2147483648 ≤ v ∧ v ≤ 2147483647 from anyB_in (fun l hl => (hin l hl).1) (by have := mt (sig_no ls v).2 h; simpa using this)))
  have HNo := Lib.hid (fun y => sig_no ls y)
  obtain ⟨a, c, rfl, hc, hL⟩ := hL
  obtain ⟨LN, hLN⟩ : ∃ k, ls.length = k := ⟨_, rfl⟩
  have HLN := Lib.hid hLN
  rw [hLN] at hc hlen hCh ⊢
  have HL := Lib.hid hL
  have HI := Lib.hid hin
  clear hL hLN hin
  have n1 : (LN : Int) ≤ 9223372036854775807 := by omega
  go_enter Try.func19, Try.ntmps19
  go_wp2_with fail
  refine hCh.out.mono ?_
  rintro e w1 ⟨vA, A, rfl, hChg, hAl, hAown, hb1⟩
  have HChg := Lib.hid hChg
  have HB1 := Lib.hid hb1
  obtain ⟨AN, hAN⟩ : ∃ k, A.length = k := ⟨_, rfl⟩
  have hApos : 0 < AN := by rw [← hAN]; exact (List.getElem?_eq_some_iff.1 hChg.head).1
  rw [hAN] at hAl hAown
  have HAN := Lib.hid hAN
  obtain ⟨gA, cA, hvA, hcells⟩ : ∃ gA cA, vA = .slice (some ⟨gA, 0, none⟩) AN cA ∧ ∀ (p : Nat) (y : Int), A[p]? = some y → ∀ wx, Below w1.heap.size w1 wx → wx.cell? ⟨gA, p, none⟩ = some (.int .i64 y) := by
    rcases hAown.2 with ⟨_, h0⟩ | ⟨g, cap, cur, hv, _⟩
    · omega
    · subst hv
      refine ⟨g, cap, rfl, fun p y hp wx hb => Nd.cell_keeps hb ?_⟩
      have hlt := (List.getElem?_eq_some_iff.1 hp).1
      rw [hAown.cellAt p (by omega)]
      unfold numV
      rw [List.getElem?_map, hp]
      rfl
  subst hvA
  have HC := Lib.hid hcells
  have n2 : (AN : Int) ≤ 9223372036854775807 := by omega
  have HK0 : Hid (Kp (noSig ls) (sig ls) w1 A 0 [] (.slice none 0 0) w1) := Lib.hid ⟨World.ownsRow_nil _ _ _ _, Below.refl _ _, fun y hy => by rw [hChg.head] at hy; injection hy with hy; subst hy; exact fun v k1 k2 => by omega, Nat.le_refl _, by rw [hAN]; exact hApos⟩
  clear hChg hAown hcells hb1 hAN hCh
  go_wp2_with fail
  go_loopw [3, 5] (fun v5 i wr => ∃ (p : Nat) (K : List (Int × Int)), p < AN ∧ i = .int .i64 p ∧ Hid (Kp (noSig ls) (sig ls) w1 A p K v5 wr)) (fun _ i _ => AN - (intOf i).toNat)
  case atStart => exact ⟨0, [], hApos, rfl, HK0⟩
  case round =>
    obtain ⟨p, K, hp, rfl, hK⟩ := hrel
    by_cases hlt : p + 1 < AN
    · have d2 : decide ((p : Int) + 1 < (AN : Int)) = true := by rw [decide_eq_true_iff]; omega
      have p1 : (p : Int) + 1 < (AN : Int) := by omega
      have p0 : (p : Int) < (AN : Int) := by omega
      obtain ⟨Y, Z, hY, hZ, hcalm, hYb, hZb⟩ := HChg.out.more (p := p) (by rw [HAN.out]; exact hlt)
      unfold lowest at hYb hZb
      have HY := Lib.hid hY
      have HZ2 := Lib.hid hZ
      have HSG := Lib.hid (HSeg.out Y Z hcalm)
      have HBw := Lib.hid (HB1.out.trans (hK.out.below.mono HB1.out.size))
      have y1 := HC.out p Y hY wr hK.out.below
      have y2 := HC.out (p + 1) Z hZ wr hK.out.below
      have eY : wrap32 Y = Y := wrap_id (by omega)
      have eZ : wrap32 (Z - 1) = Z - 1 := wrap_id (by omega)
      have eZ2 : IntKind.i64.wrap (Z - 1) = Z - 1 := by simp [IntKind.wrap, IntKind.bits, IntKind.signed]; omega
      have h00 : Hid (anyB (ls.take 0) Y = false) := Lib.hid rfl
      clear hY hZ hcalm
      go_wp2_with fail
      go_loop [7, 8] (fun b i => ∃ (k : Nat) (B : Bool), k ≤ LN ∧ b = .bool B ∧ i = .int .i64 k ∧ Hid (anyB (ls.take k) Y = B)) (fun _ i => LN - (intOf i).toNat)
      case atStart => exact ⟨0, false, Nat.zero_le _, rfl, rfl, h00⟩
      case round =>
        obtain ⟨k, B, hk, rfl, rfl, hB⟩ := hrel
        by_cases hlk : k < LN
        · have d3 : decide (k < LN) = true := by rw [decide_eq_true_iff]; exact hlk
          have k0 : (k : Int) < (LN : Int) := by omega
          obtain ⟨l, hl⟩ : ∃ l, ls[k]? = some l := ⟨_, List.getElem?_eq_getElem (by rw [HLN.out]; exact hlk)⟩
          obtain ⟨g, o, u, hgo9, x1, hR⟩ := HL.out k l hl
          subst hgo9
          have x2 := Nd.cell_keeps HBw.out x1
          obtain ⟨hIl, hll⟩ := HI.out l (List.mem_of_getElem? hl)
          have hH := Lib.hid (refHasRn_any l u Y wr (hR.below HBw.out) (by omega))
          have HT := Lib.hid (anyB_take hl Y)
          rw [hB.out] at HT
          obtain ⟨ua, uc, hu, _, _⟩ := hR
          subst hu
          clear hl x1 hIl hll hB
          cases B
          · go_wp2_with (go_at_call 23; refine hH.out.mono ?_; rintro e w2 ⟨rfl, hww⟩; replace hww := hww.symm; subst hww)
            go_round
            case rel => exact ⟨k + 1, _, by omega, rfl, by go_num, Lib.hid (by rw [HT.out]; simp)⟩
            case measure => simp [intOf]; omega
          · go_wp2_with fail
            go_round
            case rel => exact ⟨k + 1, true, by omega, rfl, by go_num, Lib.hid (by rw [HT.out]; simp)⟩
            case measure => simp [intOf]; omega
        · have d3 : decide (k < LN) = false := by rw [decide_eq_false_iff_not]; exact hlk
          have hBY : anyB ls Y = B := by rw [← hB.out, List.take_of_length_le (by rw [HLN.out]; omega)]
          have HBY := Lib.hid hBY
          clear hB hBY h00
          clear d3
          have d3 : decide ((k : Int) < (LN : Int)) = false := by rw [decide_eq_false_iff_not]; omega
          cases B
          · have hS : (sig ls) Y = noSig ls := (HNo.out Y).2 HBY.out
            have HN := Lib.hid (fun w' (hb : Below wr.heap.size wr w') => hK.out.skip HY.out HZ2.out HSG.out hS hb)
            clear hS hK
            go_wp2_with fail
            exact ⟨⟨p + 1, K, by omega, by go_num, Lib.hid (HN.out _ (Below.refl _ _))⟩, by simp [intOf]; omega⟩
          · have hS1 : (sig ls) Y ≠ noSig ls := fun e => by have := (HNo.out Y).1 e; rw [HBY.out] at this; cases this
            have hLpos : 0 < LN := by
              by_cases e : LN = 0
              · exfalso
                have h1 := HLN.out
                rw [e] at h1
                have h2 := List.eq_nil_of_length_eq_zero h1
                have h3 := HBY.out
                rw [h2] at h3
                simp [anyB] at h3
              · omega
            have L0 : decide ((0 : Int) < (LN : Int)) = true := by rw [decide_eq_true_iff]; omega
            clear hk d3
            rcases List.eq_nil_or_concat K with rfl | ⟨KI, ⟨ka, kc⟩, hKK⟩
            · have hrow := hK.out.own
              rw [show ([] : List (Int × Int)).length = 0 from rfl] at hrow
              have hv0 : u3 = .slice none 0 0 ∨ ∃ b cap, u3 = .slice (some ⟨b, 0, none⟩) 0 cap := by
                rcases hrow.2 with ⟨h0, _⟩ | ⟨b, cap, _, h1, _⟩
                · exact .inl h0
                · exact .inr ⟨b, cap, h1⟩
              have HNew := Lib.hid (fun w2 w' v' (hb : Below wr.heap.size wr w2) => hK.out.new (w2 := w2) (w' := w') (v' := v') HY.out HZ2.out (by unfold lowest; omega) HSG.out hS1 (fun r hr => by simp at hr) hb)
              have HOwn := Lib.hid (fun w2 (o2 : Obj) (hb : Below wr.heap.size wr w2) => (own_below hK.out.own hb).alloc o2)
              have HCN := Lib.hid (fun nq => cells_newRn (wr.drewN nq) [.int .i32 Y, .int .i32 (Z - 1)] 42)
              have hw9 := hK.out.below.size
              have d3 : decide ((k : Int) < (LN : Int)) = false := by rw [decide_eq_false_iff_not]; omega
              clear hK hrow hS1
              rcases hv0 with rfl | ⟨b5, cap5, rfl⟩
              · go_wp2_with fail
                go_quiet (fail)
                go_wp2_with fail
                refine wp_loop_rounds 1 ?_
                rw [rounds_succ]
                go_wp2_with (at_builtin; refine wpList_append_own _ rfl _ _ 22 rfl w1.heap.size 42 i0 (.agg #[.int .i32 0, .int .i32 0]) 2 8 Try.underlying22 hi hz0 hz1 hz2 rfl (by decide) _ 0 _ rfl (HOwn.out (wr.drewN nq) _ (below_drewN (Below.refl _ _) _)) ⟨wr.heap.size, 0, none⟩ 1 1 [.int .i32 Y, .int .i32 (Z - 1)] rfl rfl (HCN.out (nq)) (fun x hx => by simp at hx; rcases hx with rfl | rfl <;> rfl) (by unfold maxLen; omega) (by omega) (by simp; omega) ?_; intro v' w3 hown3 hg3 _)
                exact ⟨⟨p + 1, _, by omega, by go_num, Lib.hid (HNew.out _ w3 v' ((below_drewN (Below.refl _ wr) nq).alloc (Nat.le_refl _) _) hown3 hg3)⟩, by simp [intOf]; omega⟩
              · go_wp2_with fail
                go_quiet (fail)
                go_wp2_with fail
                refine wp_loop_rounds 1 ?_
                rw [rounds_succ]
                go_wp2_with (at_builtin; refine wpList_append_own _ rfl _ _ 22 rfl w1.heap.size 42 i0 (.agg #[.int .i32 0, .int .i32 0]) 2 8 Try.underlying22 hi hz0 hz1 hz2 rfl (by decide) _ 0 _ rfl (HOwn.out (wr.drewN nq) _ (below_drewN (Below.refl _ _) _)) ⟨wr.heap.size, 0, none⟩ 1 1 [.int .i32 Y, .int .i32 (Z - 1)] rfl rfl (HCN.out (nq)) (fun x hx => by simp at hx; rcases hx with rfl | rfl <;> rfl) (by unfold maxLen; omega) (by omega) (by simp; omega) ?_; intro v' w3 hown3 hg3 _)
                exact ⟨⟨p + 1, _, by omega, by go_num, Lib.hid (HNew.out _ w3 v' ((below_drewN (Below.refl _ wr) nq).alloc (Nat.le_refl _) _) hown3 hg3)⟩, by simp [intOf]; omega⟩
            · rw [List.concat_eq_append] at hKK
              subst hKK
              obtain ⟨b5, cap5, rfl, hKp, hcl⟩ := hK.out.row
              have hin5 := RT.in _ _ _ (hK.out.run Y HY.out) (ka, kc) (by simp)
              unfold lowest at hin5
              dsimp only at hin5
              have HCL := Lib.hid (fun nq => hcl (wr.drewN nq) (below_drewN (Below.refl _ _) _))
              obtain ⟨z1, z2, z3⟩ := hcl wr (Below.refl _ _)
              have hw9 := hK.out.below.size
              have HNew := Lib.hid (fun w2 w' v' (hne : ¬ (kc + 1 = Y ∧ sig ls ka = sig ls Y)) (hb : Below wr.heap.size wr w2) => hK.out.new (w2 := w2) (w' := w') (v' := v') HY.out HZ2.out (by unfold lowest; omega) HSG.out hS1 (fun r hr e he => by rw [List.getLast?_append] at hr; simp at hr; subst hr; exact hne ⟨e, he⟩) hb)
              have HMore := Lib.hid (fun w2 (he : kc + 1 = Y) (hs : sig ls ka = sig ls Y) (hb : Below wr.heap.size wr w2) => hK.out.more_ (w2 := w2) HY.out HZ2.out HSG.out he hs hb)
              have HOwn := Lib.hid (fun w2 (o2 : Obj) (hb : Below wr.heap.size wr w2) => (own_below hK.out.own hb).alloc o2)
              have HCN := Lib.hid (fun nq => cells_newRn (wr.drewN nq) [.int .i32 Y, .int .i32 (Z - 1)] 42)
              have eKL : (KI ++ [(ka, kc)]).length = KI.length + 1 := by simp
              rw [eKL] at HOwn HNew
              have g3 : IntKind.i64.wrap kc = kc := by simp [IntKind.wrap, IntKind.bits, IntKind.signed]; omega
              have g4 : IntKind.i64.wrap (kc + 1) = kc + 1 := by simp [IntKind.wrap, IntKind.bits, IntKind.signed]; omega
              clear hK hS1 hcl eKL
              generalize rgV (KI ++ [(ka, kc)]) = RK at *
              obtain ⟨KN, hKN⟩ : ∃ k, KI.length = k := ⟨_, rfl⟩
              rw [hKN] at z1 z2 z3 HCL HNew HMore HOwn hKp ⊢
              have f1 : (KN : Int) + 1 - 1 = KN := by omega
              have f2 : IntKind.i64.wrap (KN : Int) = KN := by simp [IntKind.wrap, IntKind.bits, IntKind.signed]; omega
              have f3 : (KN : Int) < (KN : Int) + 1 := by omega
              have f4 : decide ((0 : Int) < (KN : Int) + 1) = true := by rw [decide_eq_true_iff]; omega
              have f5 : (0 : Int) ≤ (KN : Int) := by omega
              have d3 : decide ((k : Int) < (LN : Int)) = false := by rw [decide_eq_false_iff_not]; omega
              clear hKN
              by_cases ht : kc + 1 = Y
              · have q0 : (kc + 1 == Y) = true := by rw [beq_iff_eq]; exact ht
                have hA0 : Hid (allEq ls ka Y 0 = true) := Lib.hid rfl
                go_wp2_with fail
                go_quiet (fail)
                go_wp2_with fail
                go_loopw [10, 11] (fun b i wz => ∃ (j n : Nat) (B : Bool), j ≤ LN ∧ b = .bool B ∧ i = .int .i64 j ∧ wz = wr.drewN n ∧ Hid (allEq ls ka Y j = B)) (fun _ i _ => LN - (intOf i).toNat)
                case atStart => exact ⟨0, nq, true, Nat.zero_le _, rfl, rfl, rfl, hA0⟩
                case round =>
                  obtain ⟨j, n, B, hj, rfl, rfl, rfl, hAE⟩ := hrel
                  obtain ⟨y5, y6, y7⟩ := HCL.out n
                  cases B
                  · -- they are held otherwise
                    have hne : ¬ (kc + 1 = Y ∧ sig ls ka = sig ls Y) := fun h => by
                      have := allEq_of (k := j) h.2
                      rw [hAE.out] at this
                      cases this
                    have HNe := Lib.hid hne
                    clear hne hAE
                    by_cases hlj : j < LN
                    · have d5 : decide ((j : Int) < (LN : Int)) = true := by rw [decide_eq_true_iff]; omega
                      go_wp2_with (at_builtin; refine wpList_append_own _ rfl _ _ 22 rfl w1.heap.size 42 i0 (.agg #[.int .i32 0, .int .i32 0]) 2 8 Try.underlying22 hi hz0 hz1 hz2 rfl (by decide) _ _ _ rfl (HOwn.out (wr.drewN n) _ (below_drewN (Below.refl _ _) _)) ⟨wr.heap.size, 0, none⟩ 1 1 [.int .i32 Y, .int .i32 (Z - 1)] rfl rfl (HCN.out (n)) (fun x hx => by simp at hx; rcases hx with rfl | rfl <;> rfl) (by unfold maxLen; omega) (by omega) (by simp; omega) ?_; intro v' w3 hown3 hg3 _)
                      exact ⟨⟨p + 1, _, by omega, by go_num, Lib.hid (HNew.out _ w3 v' HNe.out ((below_drewN (Below.refl _ wr) n).alloc (Nat.le_refl _) _) hown3 hg3)⟩, by simp [intOf]; omega⟩
                    · have d5 : decide ((j : Int) < (LN : Int)) = false := by rw [decide_eq_false_iff_not]; omega
                      go_wp2_with (at_builtin; refine wpList_append_own _ rfl _ _ 22 rfl w1.heap.size 42 i0 (.agg #[.int .i32 0, .int .i32 0]) 2 8 Try.underlying22 hi hz0 hz1 hz2 rfl (by decide) _ _ _ rfl (HOwn.out (wr.drewN n) _ (below_drewN (Below.refl _ _) _)) ⟨wr.heap.size, 0, none⟩ 1 1 [.int .i32 Y, .int .i32 (Z - 1)] rfl rfl (HCN.out (n)) (fun x hx => by simp at hx; rcases hx with rfl | rfl <;> rfl) (by unfold maxLen; omega) (by omega) (by simp; omega) ?_; intro v' w3 hown3 hg3 _)
                      exact ⟨⟨p + 1, _, by omega, by go_num, Lib.hid (HNew.out _ w3 v' HNe.out ((below_drewN (Below.refl _ wr) n).alloc (Nat.le_refl _) _) hown3 hg3)⟩, by simp [intOf]; omega⟩
                  · by_cases hlj : j < LN
                    · have d5 : decide ((j : Int) < (LN : Int)) = true := by rw [decide_eq_true_iff]; omega
                      have j0 : (j : Int) < (LN : Int) := by omega
                      obtain ⟨l, hl⟩ : ∃ l, ls[j]? = some l := ⟨_, List.getElem?_eq_getElem (by rw [HLN.out]; exact hlj)⟩
                      obtain ⟨g, o, u, hgo9, x1, hR⟩ := HL.out j l hl
                      subst hgo9
                      have x2 := Nd.cell_keeps HBw.out x1
                      have x3 : ∀ m, (wr.drewN m).cell? ⟨g, o + j, none⟩ = some u := fun m => x2
                      obtain ⟨hIl, hll⟩ := HI.out l (List.mem_of_getElem? hl)
                      have hH := Lib.hid (fun z wx (hb : Below wr.heap.size wr wx) => refHasRn_any l u z wx ((hR.below HBw.out).below hb) (by omega))
                      have HT := Lib.hid (allEq_take (a := ka) (y := Y) hl)
                      rw [hAE.out] at HT
                      obtain ⟨ua, uc, hu, _, _⟩ := hR
                      subst hu
                      clear hl x1 x2 hIl hll hAE
                      have hq := x3 n
                      go_wp2_with fail
                      go_quiet ((go_at_call 23; exact quiet_onRn (hH.out _ _ (below_drewN (Below.refl _ _) _))))
                      go_wp2_with fail
                      exact ⟨⟨j + 1, n + nq, _, by omega, rfl, by go_num, rfl, Lib.hid (by rw [HT.out]; simp)⟩, by simp [intOf]; omega⟩
                    · have d5 : decide ((j : Int) < (LN : Int)) = false := by rw [decide_eq_false_iff_not]; omega
                      have hs : sig ls ka = sig ls Y := allEq_all (k := j) (by rw [HLN.out]; omega) hAE.out
                      have HSs := Lib.hid hs
                      clear hs hAE
                      go_wp2_with fail
                      exact ⟨⟨p + 1, _, by omega, by go_num, Lib.hid (HMore.out (wr.drewN n) ht HSs.out (below_drewN (Below.refl _ _) _))⟩, by simp [intOf]; omega⟩
              · have q0 : (kc + 1 == Y) = false := by rw [beq_eq_false_iff_ne]; exact ht
                go_wp2_with fail
                go_quiet (fail)
                go_wp2_with fail
                refine wp_loop_rounds 1 ?_
                rw [rounds_succ]
                go_wp2_with (at_builtin; refine wpList_append_own _ rfl _ _ 22 rfl w1.heap.size 42 i0 (.agg #[.int .i32 0, .int .i32 0]) 2 8 Try.underlying22 hi hz0 hz1 hz2 rfl (by decide) _ _ _ rfl (HOwn.out (wr.drewN nq) _ (below_drewN (Below.refl _ _) _)) ⟨wr.heap.size, 0, none⟩ 1 1 [.int .i32 Y, .int .i32 (Z - 1)] rfl rfl (HCN.out (nq)) (fun x hx => by simp at hx; rcases hx with rfl | rfl <;> rfl) (by unfold maxLen; omega) (by omega) (by simp; omega) ?_; intro v' w3 hown3 hg3 _)
                exact ⟨⟨p + 1, _, by omega, by go_num, Lib.hid (HNew.out _ w3 v' (fun h => ht h.1) ((below_drewN (Below.refl _ wr) nq).alloc (Nat.le_refl _) _) hown3 hg3)⟩, by simp [intOf]; omega⟩
    · have d2 : decide ((p : Int) + 1 < (AN : Int)) = false := by rw [decide_eq_false_iff_not]; omega
      obtain ⟨r1, r2, r3⟩ := hK.out.made (w := w) HChg.out (by rw [HAN.out]; omega) HZ.out HB1.out
      have H1 := Lib.hid r1
      have H2 := Lib.hid r2
      have H3 := Lib.hid r3
      clear hK r1 r2 r3
      go_wp2_with fail
      go_ret
      first | exact ⟨_, rfl, K, H1.out, H2.out, H3.out⟩ | exact ⟨_, K, rfl, H1.out, H2.out, H3.out⟩
end Go.Proofs.Ytianappapfpbeaa
