/- The contracts of the chapter's own Kept. -/
import Derived.Test.YtianappapfpbeaaRnV
import Derived.Test.YtianappapfpbeaaRnJ
namespace Go.Proofs.Ytianappapfpbeaa
open Go Go.RowKit Rn
set_option maxRecDepth 100000

namespace Rn
theorem RT.in {S : Type} {z : S} {σ : Int → S} : ∀ (l : List (Int × Int)) (b y : Int), RT z σ b l y → ∀ r ∈ l, b ≤ r.1 ∧ r.1 ≤ r.2 ∧ r.2 < y
  | [], _, _, _, r, hr => by simp at hr
  | [q], b, y, ⟨h1, h2, h3, h4, h5, h6, h7⟩, r, hr => by
    obtain rfl : r = q := by simpa using hr
    exact ⟨h1, h2, h6⟩
  | p :: q :: t, b, y, ⟨h1, h2, h3, h4, h5, h6, h7⟩, r, hr => by
    rcases List.mem_cons.1 hr with rfl | hr
    · have hq : ∃ x, (q :: t).getLast? = some x := ⟨_, List.getLast?_eq_some_getLast (by simp)⟩
      obtain ⟨x, hx⟩ := hq
      have hl := RT.le (q :: t) _ y h7 x hx
      exact ⟨h1, h2, by omega⟩
    · have := RT.in (q :: t) _ y h7 r hr
      exact ⟨by omega, this.2⟩
theorem Chg.more {ls : List (List (Int × Int))} {A : List Int} (h : Chg ls A) {p : Nat} (hp : p + 1 < A.length) : ∃ y z, A[p]? = some y ∧ A[p + 1]? = some z ∧ Calm ls y z ∧ (lowest ≤ y ∧ y < 2147483648) ∧ (lowest < z ∧ z ≤ 2147483648) := by
  have h1 : A[p]? = some A[p] := List.getElem?_eq_getElem (by omega)
  have h2 : A[p + 1]? = some A[p + 1] := List.getElem?_eq_getElem hp
  have hc := h.step p _ _ h1 h2
  have l1 := h.low _ (List.mem_of_getElem? h1)
  have l2 := h.low _ (List.mem_of_getElem? h2)
  have := hc.1
  exact ⟨_, _, h1, h2, hc, by omega, by omega⟩
theorem Chg.end_ {ls : List (List (Int × Int))} {A : List Int} (h : Chg ls A) {p : Nat} (hp : p + 1 = A.length) : A[p]? = some 2147483648 := by
  have := h.last
  rw [List.getLast?_eq_getElem?] at this
  rw [show p = A.length - 1 by omega]
  exact this
/-- Where Kept stands: p places have been gone through, K told. -/
structure Kp {S : Type} (z : S) (σ : Int → S) (w1 : World) (A : List Int) (p : Nat) (K : List (Int × Int)) (v5 : Value) (wr : World) : Prop where
  own : wr.ownsRow w1.heap.size 42 2 v5 K.length (rgV K)
  below : Below w1.heap.size w1 wr
  run : ∀ y, A[p]? = some y → RT z σ lowest K y
  len : K.length ≤ p
  plt : p < A.length
theorem Kp.skip {S : Type} {z : S} {σ : Int → S} {w1 wr w' : World} {A : List Int} {p : Nat} {K : List (Int × Int)} {v5 : Value} {Y Z : Int} (h : Kp z σ w1 A p K v5 wr) (hY : A[p]? = some Y) (hZ : A[p + 1]? = some Z) (hs : Seg σ Y Z) (h0 : σ Y = z) (hb : Below wr.heap.size wr w') : Kp z σ w1 A (p + 1) K v5 w' :=
  ⟨own_below h.own hb, h.below.trans (hb.mono h.below.size), fun y hy => by rw [hZ] at hy; injection hy with hy; subst hy; exact RT.none_ hs h0 K _ (h.run Y hY), by have := h.len; omega, (List.getElem?_eq_some_iff.1 hZ).1⟩
theorem Kp.new {S : Type} {z : S} {σ : Int → S} {w1 wr w2 w' : World} {A : List Int} {p : Nat} {K : List (Int × Int)} {v5 v' : Value} {Y Z : Int} (h : Kp z σ w1 A p K v5 wr) (hY : A[p]? = some Y) (hZ : A[p + 1]? = some Z) (hlow : lowest ≤ Y) (hs : Seg σ Y Z) (h0 : σ Y ≠ z)
    (hn : ∀ r, K.getLast? = some r → r.2 + 1 = Y → σ r.1 ≠ σ Y) (hb : Below wr.heap.size wr w2) (hown : w'.ownsRow w1.heap.size 42 2 v' (K.length + 1) (rgV K ++ [.int .i32 Y, .int .i32 (Z - 1)])) (hg : w2.grownBy w' v5.ownBlock) : Kp z σ w1 A (p + 1) (K ++ [(Y, Z - 1)]) v' w' :=
  ⟨by rw [List.length_append, rgV_append]; exact hown, (h.below.trans (hb.mono h.below.size)).grown hg (Nat.le_trans h.below.size hb.size) (fun k hk => (h.own.lt k hk).1),
    fun y hy => by rw [hZ] at hy; injection hy with hy; subst hy; exact RT.new_ hs h0 K _ hlow (h.run Y hY) hn, by rw [List.length_append, List.length_singleton]; have := h.len; omega, (List.getElem?_eq_some_iff.1 hZ).1⟩
theorem Kp.more_ {S : Type} {z : S} {σ : Int → S} {w1 wr w2 : World} {A : List Int} {p : Nat} {K : List (Int × Int)} {a c : Int} {b cap : Nat} {Y Z : Int} (h : Kp z σ w1 A p (K ++ [(a, c)]) (.slice (some ⟨b, 0, none⟩) (K.length + 1) cap) wr) (hY : A[p]? = some Y) (hZ : A[p + 1]? = some Z) (hs : Seg σ Y Z) (hc : c + 1 = Y) (he : σ a = σ Y)
    (hb : Below wr.heap.size wr w2) : Kp z σ w1 A (p + 1) (K ++ [(a, Z - 1)]) (.slice (some ⟨b, 0, none⟩) (K.length + 1) cap) (w2.setCell ⟨b, K.length * 2 + 1, none⟩ (.int .i32 (Z - 1))) := by
  have h1 := h.own
  rw [List.length_append, List.length_singleton] at h1
  have h1' := own_below h1 hb
  obtain ⟨s1, s2⟩ := h1'.stored (K.length * 2 + 1) (.int .i32 (Z - 1))
  rw [rgV_set] at s1
  refine ⟨by rw [List.length_append, List.length_singleton]; exact s1, (h.below.trans (hb.mono h.below.size)).grown s2 (Nat.le_trans h.below.size hb.size) (fun k hk => by injection hk with hk; subst hk; exact (h1.lt _ rfl).1), fun y hy => ?_, ?_, (List.getElem?_eq_some_iff.1 hZ).1⟩
  · rw [hZ] at hy
    injection hy with hy
    subst hy
    exact RT.more_ hs hc he K _ (h.run Y hY)
  · have := h.len
    rw [List.length_append, List.length_singleton] at this ⊢
    omega
theorem Kp.row {S : Type} {z : S} {σ : Int → S} {w1 wr : World} {A : List Int} {p : Nat} {K : List (Int × Int)} {a c : Int} {v5 : Value} (h : Kp z σ w1 A p (K ++ [(a, c)]) v5 wr) : ∃ b cap, v5 = .slice (some ⟨b, 0, none⟩) (K.length + 1) cap ∧ K.length + 1 ≤ p ∧
    ∀ wx, Below wr.heap.size wr wx → wx.cell? ⟨b, K.length * 2, none⟩ = some (.int .i32 a) ∧ wx.cell? ⟨b, K.length * 2 + 1, none⟩ = some (.int .i32 c) ∧ wx.frozen? ⟨b, K.length * 2 + 1, none⟩ = false := by
  have h1 := h.own
  have h2 := h.len
  rw [List.length_append, List.length_singleton] at h1 h2
  rcases h1.2 with ⟨_, h0⟩ | ⟨b, cap, _, hv, _⟩
  · omega
  · subst hv
    refine ⟨b, cap, rfl, h2, fun wx hb => ?_⟩
    have h1' := own_below h1 hb
    have e := rgV_len K
    refine ⟨?_, ?_, h1'.frozenAt _⟩
    · rw [h1'.cellAt _ (by omega), rgV_append, List.getElem?_append_right (by omega), e, Nat.sub_self]; rfl
    · rw [h1'.cellAt _ (by omega), rgV_append, List.getElem?_append_right (by omega), e, show K.length * 2 + 1 - K.length * 2 = 1 by omega]; rfl
theorem Kp.made {S : Type} {z : S} {σ : Int → S} {ls : List (List (Int × Int))} {w w1 wr : World} {A : List Int} {p : Nat} {K : List (Int × Int)} {v5 : Value} (h : Kp z σ w1 A p K v5 wr) (hA : Chg ls A) (hp : p + 1 = A.length) (hz : ∀ v, σ v ≠ z → -2147483648 ≤ v ∧ v ≤ 2147483647) (hb : Below w.heap.size w w1) : Runs z σ lowest K ∧ RL wr v5 K ∧ Below w.heap.size w wr := by
  have hR := h.run _ (hA.end_ hp)
  refine ⟨RT.runs (fun v hv => ?_) K _ hR, ?_, hb.trans (h.below.mono hb.size)⟩
  · by_cases k : σ v = z
    · exact k
    · have := hz v k
      omega
  · rcases h.own.2 with ⟨h0, h1⟩ | ⟨b, cap, cur, h1, h2, h3, h4, h5, h6, h7⟩
    · have : K = [] := List.eq_nil_of_length_eq_zero h1
      subst this
      rw [h0]
      exact RL.nil wr
    · exact Hld.rl (B := w1.heap.size) (.inr ⟨b, cap, cur, h1, h2, h3, h4, by omega, h7, h5⟩)
theorem tt_of {b : Bool} (h : b ≠ false) : b = true := by cases b <;> simp_all
theorem anyB_take {ls : List (List (Int × Int))} {k : Nat} {l : List (Int × Int)} (h : ls[k]? = some l) (y : Int) : anyB (ls.take (k + 1)) y = (anyB (ls.take k) y || hasB l y) := by
  unfold anyB
  rw [List.take_add_one, h, List.any_append]
  simp
end Rn
set_option maxHeartbeats 16000000 in
theorem KeptRn_0 (ls : List (List (Int × Int))) (v : Value) (w : World) (hL : RLL w v ls) (hlen : ls.length ≤ 1000000) (hin : ∀ l ∈ ls, I32 l ∧ l.length ≤ 1000000) :
    Calls Try.prog 13 #[v, .int .i64 0] w fun e w' => ∃ v' l, e = .returned v' ∧ Runs false (anyB ls) lowest l ∧ RL w' v' l ∧ Below w.heap.size w w' := by
  obtain ⟨i0, hi, hz0, hz1, hz2⟩ := info_partsRn infoRg
  have hCh := Lib.hid (ChangesRn_any ls v w hL hlen hin)
  have HSeg := Lib.hid (fun y z (h : Rn.Calm ls y z) => h.seg (σ := anyB ls) (fun v w h => by
    unfold anyB
    rw [Bool.eq_iff_iff, List.any_eq_true, List.any_eq_true]
    exact ⟨fun ⟨l, hl, k⟩ => ⟨l, hl, by rw [← h l hl]; exact k⟩, fun ⟨l, hl, k⟩ => ⟨l, hl, by rw [h l hl]; exact k⟩⟩))
  have HZ := Lib.hid (fun v (h : (anyB ls) v ≠ false) => (show -2147483648 ≤ v ∧ v ≤ 2147483647 from anyB_in (fun l hl => (hin l hl).1) (by simpa using h)))
  obtain ⟨a, c, rfl, hc, hL⟩ := hL
  obtain ⟨LN, hLN⟩ : ∃ k, ls.length = k := ⟨_, rfl⟩
  have HLN := Lib.hid hLN
  rw [hLN] at hc hlen hCh ⊢
  have HL := Lib.hid hL
  have HI := Lib.hid hin
  clear hL hLN hin
  have n1 : (LN : Int) ≤ 9223372036854775807 := by omega
  go_enter Try.func13, Try.ntmps13
  go_wp2_with fail
  refine hCh.out.mono ?_
  rintro e w1 ⟨vA, A, rfl, hChg, hAl, hAown, hb1⟩
  have HChg := Lib.hid hChg
  have HB1 := Lib.hid hb1
  obtain ⟨AN, hAN⟩ : ∃ k, A.length = k := ⟨_, rfl⟩
  have hApos : 0 < AN := by rw [← hAN]; exact (List.getElem?_eq_some_iff.1 hChg.head).1
  rw [hAN] at hAl hAown
  have HAN := Lib.hid hAN
  obtain ⟨gA, cA, hvA, hcells⟩ : ∃ gA cA, vA = .slice (some ⟨gA, 0, none⟩) AN cA ∧ ∀ (p : Nat) (y : Int), A[p]? = some y → ∀ wx, Below w1.heap.size w1 wx → wx.cell? ⟨gA, p, none⟩ = some (.int .i64 y) := by
    rcases hAown.2 with ⟨_, h0⟩ | ⟨g, cap, cur, hv, _⟩
    · omega
    · subst hv
      refine ⟨g, cap, rfl, fun p y hp wx hb => Nd.cell_keeps hb ?_⟩
      have hlt := (List.getElem?_eq_some_iff.1 hp).1
      rw [hAown.cellAt p (by omega)]
      unfold numV
      rw [List.getElem?_map, hp]
      rfl
  subst hvA
  have HC := Lib.hid hcells
  have n2 : (AN : Int) ≤ 9223372036854775807 := by omega
  have HK0 : Hid (Kp false (anyB ls) w1 A 0 [] (.slice none 0 0) w1) := Lib.hid ⟨World.ownsRow_nil _ _ _ _, Below.refl _ _, fun y hy => by rw [hChg.head] at hy; injection hy with hy; subst hy; exact fun v k1 k2 => by omega, Nat.le_refl _, by rw [hAN]; exact hApos⟩
  clear hChg hAown hcells hb1 hAN hCh
  go_wp2_with fail
  go_loopw [5, 7] (fun v5 i wr => ∃ (p : Nat) (K : List (Int × Int)), p < AN ∧ i = .int .i64 p ∧ Hid (Kp false (anyB ls) w1 A p K v5 wr)) (fun _ i _ => AN - (intOf i).toNat)
  case atStart => exact ⟨0, [], hApos, rfl, HK0⟩
  case round =>
    obtain ⟨p, K, hp, rfl, hK⟩ := hrel
    by_cases hlt : p + 1 < AN
    · have d2 : decide ((p : Int) + 1 < (AN : Int)) = true := by rw [decide_eq_true_iff]; omega
      have p1 : (p : Int) + 1 < (AN : Int) := by omega
      have p0 : (p : Int) < (AN : Int) := by omega
      obtain ⟨Y, Z, hY, hZ, hcalm, hYb, hZb⟩ := HChg.out.more (p := p) (by rw [HAN.out]; exact hlt)
      unfold lowest at hYb hZb
      have HY := Lib.hid hY
      have HZ2 := Lib.hid hZ
      have HSG := Lib.hid (HSeg.out Y Z hcalm)
      have HBw := Lib.hid (HB1.out.trans (hK.out.below.mono HB1.out.size))
      have y1 := HC.out p Y hY wr hK.out.below
      have y2 := HC.out (p + 1) Z hZ wr hK.out.below
      have eY : wrap32 Y = Y := wrap_id (by omega)
      have eZ : wrap32 (Z - 1) = Z - 1 := wrap_id (by omega)
      have eZ2 : IntKind.i64.wrap (Z - 1) = Z - 1 := by simp [IntKind.wrap, IntKind.bits, IntKind.signed]; omega
      have h00 : Hid (anyB (ls.take 0) Y = false) := Lib.hid rfl
      clear hY hZ hcalm
      go_wp2_with fail
      go_loop [9, 10] (fun b i => ∃ (k : Nat) (B : Bool), k ≤ LN ∧ b = .bool B ∧ i = .int .i64 k ∧ Hid (anyB (ls.take k) Y = B)) (fun _ i => LN - (intOf i).toNat)
      case atStart => exact ⟨0, false, Nat.zero_le _, rfl, rfl, h00⟩
      case round =>
        obtain ⟨k, B, hk, rfl, rfl, hB⟩ := hrel
        by_cases hlk : k < LN
        · have d3 : decide (k < LN) = true := by rw [decide_eq_true_iff]; exact hlk
          have k0 : (k : Int) < (LN : Int) := by omega
          obtain ⟨l, hl⟩ : ∃ l, ls[k]? = some l := ⟨_, List.getElem?_eq_getElem (by rw [HLN.out]; exact hlk)⟩
          obtain ⟨g, o, u, hgo9, x1, hR⟩ := HL.out k l hl
          subst hgo9
          have x2 := Nd.cell_keeps HBw.out x1
          obtain ⟨hIl, hll⟩ := HI.out l (List.mem_of_getElem? hl)
          have hH := Lib.hid (refHasRn_any l u Y wr (hR.below HBw.out) (by omega))
          have HT := Lib.hid (anyB_take hl Y)
          rw [hB.out] at HT
          obtain ⟨ua, uc, hu, _, _⟩ := hR
          subst hu
          clear hl x1 hIl hll hB
          cases B
          · go_wp2_with (go_at_call 23; refine hH.out.mono ?_; rintro e w2 ⟨rfl, hww⟩; replace hww := hww.symm; subst hww)
            go_round
            case rel => exact ⟨k + 1, _, by omega, rfl, by go_num, Lib.hid (by rw [HT.out]; simp)⟩
            case measure => simp [intOf]; omega
          · go_wp2_with fail
            go_round
            case rel => exact ⟨k + 1, true, by omega, rfl, by go_num, Lib.hid (by rw [HT.out]; simp)⟩
            case measure => simp [intOf]; omega
        · have d3 : decide (k < LN) = false := by rw [decide_eq_false_iff_not]; exact hlk
          have hBY : anyB ls Y = B := by rw [← hB.out, List.take_of_length_le (by rw [HLN.out]; omega)]
          have HBY := Lib.hid hBY
          clear hB hBY h00
          have hS : (anyB ls) Y = B := HBY.out
          clear d3
          have d3 : decide ((k : Int) < (LN : Int)) = false := by rw [decide_eq_false_iff_not]; omega
          cases B
          · have HN := Lib.hid (fun w' (hb : Below wr.heap.size wr w') => hK.out.skip HY.out HZ2.out HSG.out hS hb)
            clear hS hK
            go_wp2_with fail
            exact ⟨⟨p + 1, K, by omega, by go_num, Lib.hid (HN.out _ (Below.refl _ _))⟩, by simp [intOf]; omega⟩
          · have hS1 : (anyB ls) Y ≠ false := by rw [hS]; decide
            rcases List.eq_nil_or_concat K with rfl | ⟨KI, ⟨ka, kc⟩, hKK⟩
            · have hrow := hK.out.own
              rw [show ([] : List (Int × Int)).length = 0 from rfl] at hrow
              have hv0 : u5 = .slice none 0 0 ∨ ∃ b cap, u5 = .slice (some ⟨b, 0, none⟩) 0 cap := by
                rcases hrow.2 with ⟨h0, _⟩ | ⟨b, cap, _, h1, _⟩
                · exact .inl h0
                · exact .inr ⟨b, cap, h1⟩
              have HNew := Lib.hid (fun w2 w' v' (hb : Below wr.heap.size wr w2) => hK.out.new (w2 := w2) (w' := w') (v' := v') HY.out HZ2.out (by unfold lowest; omega) HSG.out hS1 (fun r hr => by simp at hr) hb)
              have HOwn := Lib.hid (fun w2 (o2 : Obj) (hb : Below wr.heap.size wr w2) => (own_below hK.out.own hb).alloc o2)
              have HCN := Lib.hid (fun nq => cells_newRn (wr.drewN nq) [.int .i32 Y, .int .i32 (Z - 1)] 42)
              have hw9 := hK.out.below.size
              clear hK hrow hS hS1
              rcases hv0 with rfl | ⟨b5, cap5, rfl⟩
              · go_wp2_with fail
                go_quiet (fail)
                go_wp2_with (at_builtin; refine wpList_append_own _ rfl _ _ 22 rfl w1.heap.size 42 i0 (.agg #[.int .i32 0, .int .i32 0]) 2 8 Try.underlying22 hi hz0 hz1 hz2 rfl (by decide) _ 0 _ rfl (HOwn.out (wr.drewN nq) _ (below_drewN (Below.refl _ _) _)) ⟨wr.heap.size, 0, none⟩ 1 1 [.int .i32 Y, .int .i32 (Z - 1)] rfl rfl (HCN.out nq) (fun x hx => by simp at hx; rcases hx with rfl | rfl <;> rfl) (by unfold maxLen; omega) (by omega) (by simp; omega) ?_; intro v' w3 hown3 hg3 _)
                exact ⟨⟨p + 1, _, by omega, by go_num, Lib.hid (HNew.out _ w3 v' ((below_drewN (Below.refl _ wr) nq).alloc (Nat.le_refl _) _) hown3 hg3)⟩, by simp [intOf]; omega⟩
              · go_wp2_with fail
                go_quiet (fail)
                go_wp2_with (at_builtin; refine wpList_append_own _ rfl _ _ 22 rfl w1.heap.size 42 i0 (.agg #[.int .i32 0, .int .i32 0]) 2 8 Try.underlying22 hi hz0 hz1 hz2 rfl (by decide) _ 0 _ rfl (HOwn.out (wr.drewN nq) _ (below_drewN (Below.refl _ _) _)) ⟨wr.heap.size, 0, none⟩ 1 1 [.int .i32 Y, .int .i32 (Z - 1)] rfl rfl (HCN.out nq) (fun x hx => by simp at hx; rcases hx with rfl | rfl <;> rfl) (by unfold maxLen; omega) (by omega) (by simp; omega) ?_; intro v' w3 hown3 hg3 _)
                exact ⟨⟨p + 1, _, by omega, by go_num, Lib.hid (HNew.out _ w3 v' ((below_drewN (Below.refl _ wr) nq).alloc (Nat.le_refl _) _) hown3 hg3)⟩, by simp [intOf]; omega⟩
            · rw [List.concat_eq_append] at hKK
              subst hKK
              obtain ⟨b5, cap5, rfl, hKp, hcl⟩ := hK.out.row
              have hin5 := RT.in _ _ _ (hK.out.run Y HY.out) (ka, kc) (by simp)
              unfold lowest at hin5
              dsimp only at hin5
              have hcl2 := fun nq => hcl (wr.drewN nq) (below_drewN (Below.refl _ _) _)
              obtain ⟨z1, z2, z3⟩ := hcl wr (Below.refl _ _)
              have hw9 := hK.out.below.size
              have HNew := Lib.hid (fun w2 w' v' (hne : ¬ kc + 1 = Y) (hb : Below wr.heap.size wr w2) => hK.out.new (w2 := w2) (w' := w') (v' := v') HY.out HZ2.out (by unfold lowest; omega) HSG.out hS1 (fun r hr e => by rw [List.getLast?_append] at hr; simp at hr; subst hr; exact absurd e hne) hb)
              have HMore := Lib.hid (fun w2 (he : kc + 1 = Y) (hb : Below wr.heap.size wr w2) => hK.out.more_ (w2 := w2) HY.out HZ2.out HSG.out he (by
                have h1 := (RT.le _ _ _ (hK.out.run Y HY.out) (ka, kc) (by simp)).2.2.2.2
                exact Eq.trans (tt_of h1) hS.symm) hb)
              have HOwn := Lib.hid (fun w2 (o2 : Obj) (hb : Below wr.heap.size wr w2) => (own_below hK.out.own hb).alloc o2)
              have HCN := Lib.hid (fun nq => cells_newRn (wr.drewN nq) [.int .i32 Y, .int .i32 (Z - 1)] 42)
              have eKL : (KI ++ [(ka, kc)]).length = KI.length + 1 := by simp
              rw [eKL] at HOwn HNew
              have g3 : IntKind.i64.wrap kc = kc := by simp [IntKind.wrap, IntKind.bits, IntKind.signed]; omega
              have g4 : IntKind.i64.wrap (kc + 1) = kc + 1 := by simp [IntKind.wrap, IntKind.bits, IntKind.signed]; omega
              clear hK hS hS1 hcl eKL
              generalize rgV (KI ++ [(ka, kc)]) = RK at *
              obtain ⟨KN, hKN⟩ : ∃ k, KI.length = k := ⟨_, rfl⟩
              rw [hKN] at z1 z2 z3 hcl2 HNew HMore HOwn hKp ⊢
              have f1 : (KN : Int) + 1 - 1 = KN := by omega
              have f2 : IntKind.i64.wrap (KN : Int) = KN := by simp [IntKind.wrap, IntKind.bits, IntKind.signed]; omega
              have f3 : (KN : Int) < (KN : Int) + 1 := by omega
              have f4 : decide ((0 : Int) < (KN : Int) + 1) = true := by rw [decide_eq_true_iff]; omega
              have f5 : (0 : Int) ≤ (KN : Int) := by omega
              clear hKN
              by_cases ht : kc + 1 = Y
              · have q0 : (kc + 1 == Y) = true := by rw [beq_iff_eq]; exact ht
                go_wp2_with fail
                go_quiet (fail)
                obtain ⟨_, z5, z6⟩ := hcl2 nq
                clear hcl2
                go_wp2_with fail
                exact ⟨⟨p + 1, _, by omega, by go_num, Lib.hid (HMore.out (wr.drewN nq) ht (below_drewN (Below.refl _ _) _))⟩, by simp [intOf]; omega⟩
              · have q0 : (kc + 1 == Y) = false := by rw [beq_eq_false_iff_ne]; exact ht
                clear hcl2
                go_wp2_with fail
                go_quiet (fail)
                go_wp2_with (at_builtin; refine wpList_append_own _ rfl _ _ 22 rfl w1.heap.size 42 i0 (.agg #[.int .i32 0, .int .i32 0]) 2 8 Try.underlying22 hi hz0 hz1 hz2 rfl (by decide) _ _ _ rfl (HOwn.out (wr.drewN nq) _ (below_drewN (Below.refl _ _) _)) ⟨wr.heap.size, 0, none⟩ 1 1 [.int .i32 Y, .int .i32 (Z - 1)] rfl rfl (HCN.out nq) (fun x hx => by simp at hx; rcases hx with rfl | rfl <;> rfl) (by unfold maxLen; omega) (by omega) (by simp; omega) ?_; intro v' w3 hown3 hg3 _)
                exact ⟨⟨p + 1, _, by omega, by go_num, Lib.hid (HNew.out _ w3 v' ht ((below_drewN (Below.refl _ wr) nq).alloc (Nat.le_refl _) _) hown3 hg3)⟩, by simp [intOf]; omega⟩
    · have d2 : decide ((p : Int) + 1 < (AN : Int)) = false := by rw [decide_eq_false_iff_not]; omega
      obtain ⟨r1, r2, r3⟩ := hK.out.made (w := w) HChg.out (by rw [HAN.out]; omega) HZ.out HB1.out
      have H1 := Lib.hid r1
      have H2 := Lib.hid r2
      have H3 := Lib.hid r3
      clear hK r1 r2 r3
      go_wp2_with fail
      go_ret
      first | exact ⟨_, rfl, K, H1.out, H2.out, H3.out⟩ | exact ⟨_, K, rfl, H1.out, H2.out, H3.out⟩
set_option maxHeartbeats 16000000 in
theorem KeptRn_1 (ls : List (List (Int × Int))) (la lb : List (Int × Int)) (hls : ls = [la, lb]) (v : Value) (w : World) (hL : RLL w v ls) (hlen : ls.length ≤ 1000000) (hin : ∀ l ∈ ls, I32 l ∧ l.length ≤ 1000000) :
    Calls Try.prog 13 #[v, .int .i64 1] w fun e w' => ∃ v' l, e = .returned v' ∧ Runs false (fun y => hasB la y && !hasB lb y) lowest l ∧ RL w' v' l ∧ Below w.heap.size w w' := by
  obtain ⟨i0, hi, hz0, hz1, hz2⟩ := info_partsRn infoRg
  have hCh := Lib.hid (ChangesRn_any ls v w hL hlen hin)
  have HSeg := Lib.hid (fun y z (h : Rn.Calm ls y z) => h.seg (σ := fun y => hasB la y && !hasB lb y) (fun v w h => by
    subst hls
    show (hasB la v && !hasB lb v) = (hasB la w && !hasB lb w)
    rw [h la (by simp), h lb (by simp)]))
  have HZ := Lib.hid (fun v (h : (fun y => hasB la y && !hasB lb y) v ≠ false) => (show -2147483648 ≤ v ∧ v ≤ 2147483647 from hasB_in (hin la (by rw [hls]; simp)).1 (by revert h; show (hasB la v && !hasB lb v) ≠ false → _; cases hasB la v <;> simp)))
  obtain ⟨a, c, rfl, hc, hL⟩ := hL
  have hla : ls[0]? = some la := by rw [hls]; rfl
  have hlb : ls[1]? = some lb := by rw [hls]; rfl
  obtain ⟨g0, o0, u0, rfl, x0, hRa⟩ := hL 0 la hla
  obtain ⟨g1, o1, u1, hgo, x1, hRb⟩ := hL 1 lb hlb
  injection hgo with hgo
  injection hgo with hg1 hg2
  subst hg1 hg2
  rw [Nat.add_zero] at x0
  have Hl2 := Lib.hid (show ls.length = 2 from by rw [hls]; rfl)
  have HaI := Lib.hid (hin la (List.mem_of_getElem? hla))
  have HbI := Lib.hid (hin lb (List.mem_of_getElem? hlb))
  have HRa := Lib.hid hRa
  have HRb := Lib.hid hRb
  obtain ⟨ua, ca, hua, _, _⟩ := hRa
  obtain ⟨ub, cb, hub, _, _⟩ := hRb
  subst hua hub
  have HX := Lib.hid (show ∀ wx, Below w.heap.size w wx → wx.cell? ⟨g0, o0, none⟩ = some (.slice ua la.length ca) ∧ wx.cell? ⟨g0, o0 + 1, none⟩ = some (.slice ub lb.length cb) from fun wx h => ⟨Nd.cell_keeps h x0, Nd.cell_keeps h x1⟩)
  clear hla hlb x0 x1 hls
  obtain ⟨LN, hLN⟩ : ∃ k, ls.length = k := ⟨_, rfl⟩
  have HLN := Lib.hid hLN
  rw [hLN] at hc hlen hCh ⊢
  have HL := Lib.hid hL
  have HI := Lib.hid hin
  clear hL hLN hin
  have n1 : (LN : Int) ≤ 9223372036854775807 := by omega
  go_enter Try.func13, Try.ntmps13
  go_wp2_with fail
  refine hCh.out.mono ?_
  rintro e w1 ⟨vA, A, rfl, hChg, hAl, hAown, hb1⟩
  have HChg := Lib.hid hChg
  have HB1 := Lib.hid hb1
  obtain ⟨AN, hAN⟩ : ∃ k, A.length = k := ⟨_, rfl⟩
  have hApos : 0 < AN := by rw [← hAN]; exact (List.getElem?_eq_some_iff.1 hChg.head).1
  rw [hAN] at hAl hAown
  have HAN := Lib.hid hAN
  obtain ⟨gA, cA, hvA, hcells⟩ : ∃ gA cA, vA = .slice (some ⟨gA, 0, none⟩) AN cA ∧ ∀ (p : Nat) (y : Int), A[p]? = some y → ∀ wx, Below w1.heap.size w1 wx → wx.cell? ⟨gA, p, none⟩ = some (.int .i64 y) := by
    rcases hAown.2 with ⟨_, h0⟩ | ⟨g, cap, cur, hv, _⟩
    · omega
    · subst hv
      refine ⟨g, cap, rfl, fun p y hp wx hb => Nd.cell_keeps hb ?_⟩
      have hlt := (List.getElem?_eq_some_iff.1 hp).1
      rw [hAown.cellAt p (by omega)]
      unfold numV
      rw [List.getElem?_map, hp]
      rfl
  subst hvA
  have HC := Lib.hid hcells
  have n2 : (AN : Int) ≤ 9223372036854775807 := by omega
  have HK0 : Hid (Kp false (fun y => hasB la y && !hasB lb y) w1 A 0 [] (.slice none 0 0) w1) := Lib.hid ⟨World.ownsRow_nil _ _ _ _, Below.refl _ _, fun y hy => by rw [hChg.head] at hy; injection hy with hy; subst hy; exact fun v k1 k2 => by omega, Nat.le_refl _, by rw [hAN]; exact hApos⟩
  clear hChg hAown hcells hb1 hAN hCh
  go_wp2_with fail
  go_loopw [5, 7] (fun v5 i wr => ∃ (p : Nat) (K : List (Int × Int)), p < AN ∧ i = .int .i64 p ∧ Hid (Kp false (fun y => hasB la y && !hasB lb y) w1 A p K v5 wr)) (fun _ i _ => AN - (intOf i).toNat)
  case atStart => exact ⟨0, [], hApos, rfl, HK0⟩
  case round =>
    obtain ⟨p, K, hp, rfl, hK⟩ := hrel
    by_cases hlt : p + 1 < AN
    · have d2 : decide ((p : Int) + 1 < (AN : Int)) = true := by rw [decide_eq_true_iff]; omega
      have p1 : (p : Int) + 1 < (AN : Int) := by omega
      have p0 : (p : Int) < (AN : Int) := by omega
      obtain ⟨Y, Z, hY, hZ, hcalm, hYb, hZb⟩ := HChg.out.more (p := p) (by rw [HAN.out]; exact hlt)
      unfold lowest at hYb hZb
      have HY := Lib.hid hY
      have HZ2 := Lib.hid hZ
      have HSG := Lib.hid (HSeg.out Y Z hcalm)
      have HBw := Lib.hid (HB1.out.trans (hK.out.below.mono HB1.out.size))
      have y1 := HC.out p Y hY wr hK.out.below
      have y2 := HC.out (p + 1) Z hZ wr hK.out.below
      have eY : wrap32 Y = Y := wrap_id (by omega)
      have eZ : wrap32 (Z - 1) = Z - 1 := wrap_id (by omega)
      have eZ2 : IntKind.i64.wrap (Z - 1) = Z - 1 := by simp [IntKind.wrap, IntKind.bits, IntKind.signed]; omega
      have h00 : Hid (anyB (ls.take 0) Y = false) := Lib.hid rfl
      clear hY hZ hcalm
      go_wp2_with fail
      go_loop [9, 10] (fun b i => ∃ (k : Nat) (B : Bool), k ≤ LN ∧ b = .bool B ∧ i = .int .i64 k ∧ Hid (anyB (ls.take k) Y = B)) (fun _ i => LN - (intOf i).toNat)
      case atStart => exact ⟨0, false, Nat.zero_le _, rfl, rfl, h00⟩
      case round =>
        obtain ⟨k, B, hk, rfl, rfl, hB⟩ := hrel
        by_cases hlk : k < LN
        · have d3 : decide (k < LN) = true := by rw [decide_eq_true_iff]; exact hlk
          have k0 : (k : Int) < (LN : Int) := by omega
          obtain ⟨l, hl⟩ : ∃ l, ls[k]? = some l := ⟨_, List.getElem?_eq_getElem (by rw [HLN.out]; exact hlk)⟩
          obtain ⟨g, o, u, hgo9, x1, hR⟩ := HL.out k l hl
          injection hgo9 with hgo9
          injection hgo9 with hg8 hg9
          subst hg8 hg9
          have x2 := Nd.cell_keeps HBw.out x1
          obtain ⟨hIl, hll⟩ := HI.out l (List.mem_of_getElem? hl)
          have hH := Lib.hid (refHasRn_any l u Y wr (hR.below HBw.out) (by omega))
          have HT := Lib.hid (anyB_take hl Y)
          rw [hB.out] at HT
          obtain ⟨ua, uc, hu, _, _⟩ := hR
          subst hu
          clear hl x1 hIl hll hB
          cases B
          · go_wp2_with (go_at_call 23; refine hH.out.mono ?_; rintro e w2 ⟨rfl, hww⟩; replace hww := hww.symm; subst hww)
            go_round
            case rel => exact ⟨k + 1, _, by omega, rfl, by go_num, Lib.hid (by rw [HT.out]; simp)⟩
            case measure => simp [intOf]; omega
          · go_wp2_with fail
            go_round
            case rel => exact ⟨k + 1, true, by omega, rfl, by go_num, Lib.hid (by rw [HT.out]; simp)⟩
            case measure => simp [intOf]; omega
        · have d3 : decide (k < LN) = false := by rw [decide_eq_false_iff_not]; exact hlk
          have hBY : anyB ls Y = B := by rw [← hB.out, List.take_of_length_le (by rw [HLN.out]; omega)]
          have HBY := Lib.hid hBY
          clear hB hBY h00
          clear d3
          have d3 : decide ((k : Int) < (LN : Int)) = false := by rw [decide_eq_false_iff_not]; omega
          have L0 : (0 : Int) < (LN : Int) := by have := HLN.out.symm.trans Hl2.out; omega
          have L1 : (1 : Int) < (LN : Int) := by have := HLN.out.symm.trans Hl2.out; omega
          obtain ⟨xa, xb⟩ := HX.out wr HBw.out
          have hHa := Lib.hid (refHasRn_any la _ Y wr (HRa.out.below HBw.out) (by have := HaI.out.2; omega))
          have hHb := Lib.hid (refHasRn_any lb _ Y wr (HRb.out.below HBw.out) (by have := HbI.out.2; omega))
          have hS0 : (fun y => hasB la y && !hasB lb y) Y = (hasB la Y && !hasB lb Y) := rfl
          have HS0 := Lib.hid hS0
          clear hS0
          clear HBY
          generalize hasB la Y = P at *
          generalize hasB lb Y = Q at *
          cases P <;> cases Q
          · have hS : (fun y => hasB la y && !hasB lb y) Y = false := HS0.out
            have HN := Lib.hid (fun w' (hb : Below wr.heap.size wr w') => hK.out.skip HY.out HZ2.out HSG.out hS hb)
            clear hS hK
            go_wp2_with (go_at_call 23; have t := hHa; refine hHa.out.mono ?_; rintro e w2 ⟨rfl, hww⟩; replace hww := hww.symm; subst hww; clear hHa)
            exact ⟨⟨p + 1, K, by omega, by go_num, Lib.hid (HN.out _ (Below.refl _ _))⟩, by simp [intOf]; omega⟩
          · have hS : (fun y => hasB la y && !hasB lb y) Y = false := HS0.out
            have HN := Lib.hid (fun w' (hb : Below wr.heap.size wr w') => hK.out.skip HY.out HZ2.out HSG.out hS hb)
            clear hS hK
            go_wp2_with (go_at_call 23; have t := hHa; refine hHa.out.mono ?_; rintro e w2 ⟨rfl, hww⟩; replace hww := hww.symm; subst hww; clear hHa)
            exact ⟨⟨p + 1, K, by omega, by go_num, Lib.hid (HN.out _ (Below.refl _ _))⟩, by simp [intOf]; omega⟩
          · have hS : (fun y => hasB la y && !hasB lb y) Y = true := HS0.out
            have hS1 : (fun y => hasB la y && !hasB lb y) Y ≠ false := by rw [hS]; decide
            rcases List.eq_nil_or_concat K with rfl | ⟨KI, ⟨ka, kc⟩, hKK⟩
            · have hrow := hK.out.own
              rw [show ([] : List (Int × Int)).length = 0 from rfl] at hrow
              have hv0 : u5 = .slice none 0 0 ∨ ∃ b cap, u5 = .slice (some ⟨b, 0, none⟩) 0 cap := by
                rcases hrow.2 with ⟨h0, _⟩ | ⟨b, cap, _, h1, _⟩
                · exact .inl h0
                · exact .inr ⟨b, cap, h1⟩
              have HNew := Lib.hid (fun w2 w' v' (hb : Below wr.heap.size wr w2) => hK.out.new (w2 := w2) (w' := w') (v' := v') HY.out HZ2.out (by unfold lowest; omega) HSG.out hS1 (fun r hr => by simp at hr) hb)
              have HOwn := Lib.hid (fun w2 (o2 : Obj) (hb : Below wr.heap.size wr w2) => (own_below hK.out.own hb).alloc o2)
              have HCN := Lib.hid (fun nq => cells_newRn (wr.drewN nq) [.int .i32 Y, .int .i32 (Z - 1)] 42)
              have hw9 := hK.out.below.size
              clear hK hrow hS hS1
              rcases hv0 with rfl | ⟨b5, cap5, rfl⟩
              · go_wp2_with (first | (go_at_call 23; have t := hHa; refine hHa.out.mono ?_; rintro e w2 ⟨rfl, hww⟩; replace hww := hww.symm; subst hww; clear hHa) | (go_at_call 23; have t := hHb; refine hHb.out.mono ?_; rintro e w2 ⟨rfl, hww⟩; replace hww := hww.symm; subst hww; clear hHb))
                go_quiet (fail)
                go_wp2_with (at_builtin; refine wpList_append_own _ rfl _ _ 22 rfl w1.heap.size 42 i0 (.agg #[.int .i32 0, .int .i32 0]) 2 8 Try.underlying22 hi hz0 hz1 hz2 rfl (by decide) _ 0 _ rfl (HOwn.out (wr.drewN nq) _ (below_drewN (Below.refl _ _) _)) ⟨wr.heap.size, 0, none⟩ 1 1 [.int .i32 Y, .int .i32 (Z - 1)] rfl rfl (HCN.out nq) (fun x hx => by simp at hx; rcases hx with rfl | rfl <;> rfl) (by unfold maxLen; omega) (by omega) (by simp; omega) ?_; intro v' w3 hown3 hg3 _)
                exact ⟨⟨p + 1, _, by omega, by go_num, Lib.hid (HNew.out _ w3 v' ((below_drewN (Below.refl _ wr) nq).alloc (Nat.le_refl _) _) hown3 hg3)⟩, by simp [intOf]; omega⟩
              · go_wp2_with (first | (go_at_call 23; have t := hHa; refine hHa.out.mono ?_; rintro e w2 ⟨rfl, hww⟩; replace hww := hww.symm; subst hww; clear hHa) | (go_at_call 23; have t := hHb; refine hHb.out.mono ?_; rintro e w2 ⟨rfl, hww⟩; replace hww := hww.symm; subst hww; clear hHb))
                go_quiet (fail)
                go_wp2_with (at_builtin; refine wpList_append_own _ rfl _ _ 22 rfl w1.heap.size 42 i0 (.agg #[.int .i32 0, .int .i32 0]) 2 8 Try.underlying22 hi hz0 hz1 hz2 rfl (by decide) _ 0 _ rfl (HOwn.out (wr.drewN nq) _ (below_drewN (Below.refl _ _) _)) ⟨wr.heap.size, 0, none⟩ 1 1 [.int .i32 Y, .int .i32 (Z - 1)] rfl rfl (HCN.out nq) (fun x hx => by simp at hx; rcases hx with rfl | rfl <;> rfl) (by unfold maxLen; omega) (by omega) (by simp; omega) ?_; intro v' w3 hown3 hg3 _)
                exact ⟨⟨p + 1, _, by omega, by go_num, Lib.hid (HNew.out _ w3 v' ((below_drewN (Below.refl _ wr) nq).alloc (Nat.le_refl _) _) hown3 hg3)⟩, by simp [intOf]; omega⟩
            · rw [List.concat_eq_append] at hKK
              subst hKK
              obtain ⟨b5, cap5, rfl, hKp, hcl⟩ := hK.out.row
              have hin5 := RT.in _ _ _ (hK.out.run Y HY.out) (ka, kc) (by simp)
              unfold lowest at hin5
              dsimp only at hin5
              have hcl2 := fun nq => hcl (wr.drewN nq) (below_drewN (Below.refl _ _) _)
              obtain ⟨z1, z2, z3⟩ := hcl wr (Below.refl _ _)
              have hw9 := hK.out.below.size
              have HNew := Lib.hid (fun w2 w' v' (hne : ¬ kc + 1 = Y) (hb : Below wr.heap.size wr w2) => hK.out.new (w2 := w2) (w' := w') (v' := v') HY.out HZ2.out (by unfold lowest; omega) HSG.out hS1 (fun r hr e => by rw [List.getLast?_append] at hr; simp at hr; subst hr; exact absurd e hne) hb)
              have HMore := Lib.hid (fun w2 (he : kc + 1 = Y) (hb : Below wr.heap.size wr w2) => hK.out.more_ (w2 := w2) HY.out HZ2.out HSG.out he (by
                have h1 := (RT.le _ _ _ (hK.out.run Y HY.out) (ka, kc) (by simp)).2.2.2.2
                exact Eq.trans (tt_of h1) hS.symm) hb)
              have HOwn := Lib.hid (fun w2 (o2 : Obj) (hb : Below wr.heap.size wr w2) => (own_below hK.out.own hb).alloc o2)
              have HCN := Lib.hid (fun nq => cells_newRn (wr.drewN nq) [.int .i32 Y, .int .i32 (Z - 1)] 42)
              have eKL : (KI ++ [(ka, kc)]).length = KI.length + 1 := by simp
              rw [eKL] at HOwn HNew
              have g3 : IntKind.i64.wrap kc = kc := by simp [IntKind.wrap, IntKind.bits, IntKind.signed]; omega
              have g4 : IntKind.i64.wrap (kc + 1) = kc + 1 := by simp [IntKind.wrap, IntKind.bits, IntKind.signed]; omega
              clear hK hS hS1 hcl eKL
              generalize rgV (KI ++ [(ka, kc)]) = RK at *
              obtain ⟨KN, hKN⟩ : ∃ k, KI.length = k := ⟨_, rfl⟩
              rw [hKN] at z1 z2 z3 hcl2 HNew HMore HOwn hKp ⊢
              have f1 : (KN : Int) + 1 - 1 = KN := by omega
              have f2 : IntKind.i64.wrap (KN : Int) = KN := by simp [IntKind.wrap, IntKind.bits, IntKind.signed]; omega
              have f3 : (KN : Int) < (KN : Int) + 1 := by omega
              have f4 : decide ((0 : Int) < (KN : Int) + 1) = true := by rw [decide_eq_true_iff]; omega
              have f5 : (0 : Int) ≤ (KN : Int) := by omega
              clear hKN
              by_cases ht : kc + 1 = Y
              · have q0 : (kc + 1 == Y) = true := by rw [beq_iff_eq]; exact ht
                go_wp2_with (first | (go_at_call 23; have t := hHa; refine hHa.out.mono ?_; rintro e w2 ⟨rfl, hww⟩; replace hww := hww.symm; subst hww; clear hHa) | (go_at_call 23; have t := hHb; refine hHb.out.mono ?_; rintro e w2 ⟨rfl, hww⟩; replace hww := hww.symm; subst hww; clear hHb))
                go_quiet (fail)
                obtain ⟨_, z5, z6⟩ := hcl2 nq
                clear hcl2
                go_wp2_with fail
                exact ⟨⟨p + 1, _, by omega, by go_num, Lib.hid (HMore.out (wr.drewN nq) ht (below_drewN (Below.refl _ _) _))⟩, by simp [intOf]; omega⟩
              · have q0 : (kc + 1 == Y) = false := by rw [beq_eq_false_iff_ne]; exact ht
                clear hcl2
                go_wp2_with (first | (go_at_call 23; have t := hHa; refine hHa.out.mono ?_; rintro e w2 ⟨rfl, hww⟩; replace hww := hww.symm; subst hww; clear hHa) | (go_at_call 23; have t := hHb; refine hHb.out.mono ?_; rintro e w2 ⟨rfl, hww⟩; replace hww := hww.symm; subst hww; clear hHb))
                go_quiet (fail)
                go_wp2_with (at_builtin; refine wpList_append_own _ rfl _ _ 22 rfl w1.heap.size 42 i0 (.agg #[.int .i32 0, .int .i32 0]) 2 8 Try.underlying22 hi hz0 hz1 hz2 rfl (by decide) _ _ _ rfl (HOwn.out (wr.drewN nq) _ (below_drewN (Below.refl _ _) _)) ⟨wr.heap.size, 0, none⟩ 1 1 [.int .i32 Y, .int .i32 (Z - 1)] rfl rfl (HCN.out nq) (fun x hx => by simp at hx; rcases hx with rfl | rfl <;> rfl) (by unfold maxLen; omega) (by omega) (by simp; omega) ?_; intro v' w3 hown3 hg3 _)
                exact ⟨⟨p + 1, _, by omega, by go_num, Lib.hid (HNew.out _ w3 v' ht ((below_drewN (Below.refl _ wr) nq).alloc (Nat.le_refl _) _) hown3 hg3)⟩, by simp [intOf]; omega⟩
          · have hS : (fun y => hasB la y && !hasB lb y) Y = false := HS0.out
            have HN := Lib.hid (fun w' (hb : Below wr.heap.size wr w') => hK.out.skip HY.out HZ2.out HSG.out hS hb)
            clear hS hK
            go_wp2_with (first | (go_at_call 23; have t := hHa; refine hHa.out.mono ?_; rintro e w2 ⟨rfl, hww⟩; replace hww := hww.symm; subst hww; clear hHa) | (go_at_call 23; have t := hHb; refine hHb.out.mono ?_; rintro e w2 ⟨rfl, hww⟩; replace hww := hww.symm; subst hww; clear hHb))
            exact ⟨⟨p + 1, K, by omega, by go_num, Lib.hid (HN.out _ (Below.refl _ _))⟩, by simp [intOf]; omega⟩
    · have d2 : decide ((p : Int) + 1 < (AN : Int)) = false := by rw [decide_eq_false_iff_not]; omega
      obtain ⟨r1, r2, r3⟩ := hK.out.made (w := w) HChg.out (by rw [HAN.out]; omega) HZ.out HB1.out
      have H1 := Lib.hid r1
      have H2 := Lib.hid r2
      have H3 := Lib.hid r3
      clear hK r1 r2 r3
      go_wp2_with fail
      go_ret
      first | exact ⟨_, rfl, K, H1.out, H2.out, H3.out⟩ | exact ⟨_, K, rfl, H1.out, H2.out, H3.out⟩
set_option maxHeartbeats 16000000 in
theorem KeptRn_2 (ls : List (List (Int × Int))) (la lb : List (Int × Int)) (hls : ls = [la, lb]) (v : Value) (w : World) (hL : RLL w v ls) (hlen : ls.length ≤ 1000000) (hin : ∀ l ∈ ls, I32 l ∧ l.length ≤ 1000000) :
    Calls Try.prog 13 #[v, .int .i64 2] w fun e w' => ∃ v' l, e = .returned v' ∧ Runs false (fun y => hasB la y && hasB lb y) lowest l ∧ RL w' v' l ∧ Below w.heap.size w w' := by
  obtain ⟨i0, hi, hz0, hz1, hz2⟩ := info_partsRn infoRg
  have hCh := Lib.hid (ChangesRn_any ls v w hL hlen hin)
  have HSeg := Lib.hid (fun y z (h : Rn.Calm ls y z) => h.seg (σ := fun y => hasB la y && hasB lb y) (fun v w h => by
    subst hls
    show (hasB la v && hasB lb v) = (hasB la w && hasB lb w)
    rw [h la (by simp), h lb (by simp)]))
  have HZ := Lib.hid (fun v (h : (fun y => hasB la y && hasB lb y) v ≠ false) => (show -2147483648 ≤ v ∧ v ≤ 2147483647 from hasB_in (hin la (by rw [hls]; simp)).1 (by revert h; show (hasB la v && hasB lb v) ≠ false → _; cases hasB la v <;> simp)))
  obtain ⟨a, c, rfl, hc, hL⟩ := hL
  have hla : ls[0]? = some la := by rw [hls]; rfl
  have hlb : ls[1]? = some lb := by rw [hls]; rfl
  obtain ⟨g0, o0, u0, rfl, x0, hRa⟩ := hL 0 la hla
  obtain ⟨g1, o1, u1, hgo, x1, hRb⟩ := hL 1 lb hlb
  injection hgo with hgo
  injection hgo with hg1 hg2
  subst hg1 hg2
  rw [Nat.add_zero] at x0
  have Hl2 := Lib.hid (show ls.length = 2 from by rw [hls]; rfl)
  have HaI := Lib.hid (hin la (List.mem_of_getElem? hla))
  have HbI := Lib.hid (hin lb (List.mem_of_getElem? hlb))
  have HRa := Lib.hid hRa
  have HRb := Lib.hid hRb
  obtain ⟨ua, ca, hua, _, _⟩ := hRa
  obtain ⟨ub, cb, hub, _, _⟩ := hRb
  subst hua hub
  have HX := Lib.hid (show ∀ wx, Below w.heap.size w wx → wx.cell? ⟨g0, o0, none⟩ = some (.slice ua la.length ca) ∧ wx.cell? ⟨g0, o0 + 1, none⟩ = some (.slice ub lb.length cb) from fun wx h => ⟨Nd.cell_keeps h x0, Nd.cell_keeps h x1⟩)
  clear hla hlb x0 x1 hls
  obtain ⟨LN, hLN⟩ : ∃ k, ls.length = k := ⟨_, rfl⟩
  have HLN := Lib.hid hLN
  rw [hLN] at hc hlen hCh ⊢
  have HL := Lib.hid hL
  have HI := Lib.hid hin
  clear hL hLN hin
  have n1 : (LN : Int) ≤ 9223372036854775807 := by omega
  go_enter Try.func13, Try.ntmps13
  go_wp2_with fail
  refine hCh.out.mono ?_
  rintro e w1 ⟨vA, A, rfl, hChg, hAl, hAown, hb1⟩
  have HChg := Lib.hid hChg
  have HB1 := Lib.hid hb1
  obtain ⟨AN, hAN⟩ : ∃ k, A.length = k := ⟨_, rfl⟩
  have hApos : 0 < AN := by rw [← hAN]; exact (List.getElem?_eq_some_iff.1 hChg.head).1
  rw [hAN] at hAl hAown
  have HAN := Lib.hid hAN
  obtain ⟨gA, cA, hvA, hcells⟩ : ∃ gA cA, vA = .slice (some ⟨gA, 0, none⟩) AN cA ∧ ∀ (p : Nat) (y : Int), A[p]? = some y → ∀ wx, Below w1.heap.size w1 wx → wx.cell? ⟨gA, p, none⟩ = some (.int .i64 y) := by
    rcases hAown.2 with ⟨_, h0⟩ | ⟨g, cap, cur, hv, _⟩
    · omega
    · subst hv
      refine ⟨g, cap, rfl, fun p y hp wx hb => Nd.cell_keeps hb ?_⟩
      have hlt := (List.getElem?_eq_some_iff.1 hp).1
      rw [hAown.cellAt p (by omega)]
      unfold numV
      rw [List.getElem?_map, hp]
      rfl
  subst hvA
  have HC := Lib.hid hcells
  have n2 : (AN : Int) ≤ 9223372036854775807 := by omega
  have HK0 : Hid (Kp false (fun y => hasB la y && hasB lb y) w1 A 0 [] (.slice none 0 0) w1) := Lib.hid ⟨World.ownsRow_nil _ _ _ _, Below.refl _ _, fun y hy => by rw [hChg.head] at hy; injection hy with hy; subst hy; exact fun v k1 k2 => by omega, Nat.le_refl _, by rw [hAN]; exact hApos⟩
  clear hChg hAown hcells hb1 hAN hCh
  go_wp2_with fail
  go_loopw [5, 7] (fun v5 i wr => ∃ (p : Nat) (K : List (Int × Int)), p < AN ∧ i = .int .i64 p ∧ Hid (Kp false (fun y => hasB la y && hasB lb y) w1 A p K v5 wr)) (fun _ i _ => AN - (intOf i).toNat)
  case atStart => exact ⟨0, [], hApos, rfl, HK0⟩
  case round =>
    obtain ⟨p, K, hp, rfl, hK⟩ := hrel
    by_cases hlt : p + 1 < AN
    · have d2 : decide ((p : Int) + 1 < (AN : Int)) = true := by rw [decide_eq_true_iff]; omega
      have p1 : (p : Int) + 1 < (AN : Int) := by omega
      have p0 : (p : Int) < (AN : Int) := by omega
      obtain ⟨Y, Z, hY, hZ, hcalm, hYb, hZb⟩ := HChg.out.more (p := p) (by rw [HAN.out]; exact hlt)
      unfold lowest at hYb hZb
      have HY := Lib.hid hY
      have HZ2 := Lib.hid hZ
      have HSG := Lib.hid (HSeg.out Y Z hcalm)
      have HBw := Lib.hid (HB1.out.trans (hK.out.below.mono HB1.out.size))
      have y1 := HC.out p Y hY wr hK.out.below
      have y2 := HC.out (p + 1) Z hZ wr hK.out.below
      have eY : wrap32 Y = Y := wrap_id (by omega)
      have eZ : wrap32 (Z - 1) = Z - 1 := wrap_id (by omega)
      have eZ2 : IntKind.i64.wrap (Z - 1) = Z - 1 := by simp [IntKind.wrap, IntKind.bits, IntKind.signed]; omega
      have h00 : Hid (anyB (ls.take 0) Y = false) := Lib.hid rfl
      clear hY hZ hcalm
      go_wp2_with fail
      go_loop [9, 10] (fun b i => ∃ (k : Nat) (B : Bool), k ≤ LN ∧ b = .bool B ∧ i = .int .i64 k ∧ Hid (anyB (ls.take k) Y = B)) (fun _ i => LN - (intOf i).toNat)
      case atStart => exact ⟨0, false, Nat.zero_le _, rfl, rfl, h00⟩
      case round =>
        obtain ⟨k, B, hk, rfl, rfl, hB⟩ := hrel
        by_cases hlk : k < LN
        · have d3 : decide (k < LN) = true := by rw [decide_eq_true_iff]; exact hlk
          have k0 : (k : Int) < (LN : Int) := by omega
          obtain ⟨l, hl⟩ : ∃ l, ls[k]? = some l := ⟨_, List.getElem?_eq_getElem (by rw [HLN.out]; exact hlk)⟩
          obtain ⟨g, o, u, hgo9, x1, hR⟩ := HL.out k l hl
          injection hgo9 with hgo9
          injection hgo9 with hg8 hg9
          subst hg8 hg9
          have x2 := Nd.cell_keeps HBw.out x1
          obtain ⟨hIl, hll⟩ := HI.out l (List.mem_of_getElem? hl)
          have hH := Lib.hid (refHasRn_any l u Y wr (hR.below HBw.out) (by omega))
          have HT := Lib.hid (anyB_take hl Y)
          rw [hB.out] at HT
          obtain ⟨ua, uc, hu, _, _⟩ := hR
          subst hu
          clear hl x1 hIl hll hB
          cases B
          · go_wp2_with (go_at_call 23; refine hH.out.mono ?_; rintro e w2 ⟨rfl, hww⟩; replace hww := hww.symm; subst hww)
            go_round
            case rel => exact ⟨k + 1, _, by omega, rfl, by go_num, Lib.hid (by rw [HT.out]; simp)⟩
            case measure => simp [intOf]; omega
          · go_wp2_with fail
            go_round
            case rel => exact ⟨k + 1, true, by omega, rfl, by go_num, Lib.hid (by rw [HT.out]; simp)⟩
            case measure => simp [intOf]; omega
        · have d3 : decide (k < LN) = false := by rw [decide_eq_false_iff_not]; exact hlk
          have hBY : anyB ls Y = B := by rw [← hB.out, List.take_of_length_le (by rw [HLN.out]; omega)]
          have HBY := Lib.hid hBY
          clear hB hBY h00
          clear d3
          have d3 : decide ((k : Int) < (LN : Int)) = false := by rw [decide_eq_false_iff_not]; omega
          have L0 : (0 : Int) < (LN : Int) := by have := HLN.out.symm.trans Hl2.out; omega
          have L1 : (1 : Int) < (LN : Int) := by have := HLN.out.symm.trans Hl2.out; omega
          obtain ⟨xa, xb⟩ := HX.out wr HBw.out
          have hHa := Lib.hid (refHasRn_any la _ Y wr (HRa.out.below HBw.out) (by have := HaI.out.2; omega))
          have hHb := Lib.hid (refHasRn_any lb _ Y wr (HRb.out.below HBw.out) (by have := HbI.out.2; omega))
          have hS0 : (fun y => hasB la y && hasB lb y) Y = (hasB la Y && hasB lb Y) := rfl
          have HS0 := Lib.hid hS0
          clear hS0
          clear HBY
          generalize hasB la Y = P at *
          generalize hasB lb Y = Q at *
          cases P <;> cases Q
          · have hS : (fun y => hasB la y && hasB lb y) Y = false := HS0.out
            have HN := Lib.hid (fun w' (hb : Below wr.heap.size wr w') => hK.out.skip HY.out HZ2.out HSG.out hS hb)
            clear hS hK
            go_wp2_with (go_at_call 23; have t := hHa; refine hHa.out.mono ?_; rintro e w2 ⟨rfl, hww⟩; replace hww := hww.symm; subst hww; clear hHa)
            exact ⟨⟨p + 1, K, by omega, by go_num, Lib.hid (HN.out _ (Below.refl _ _))⟩, by simp [intOf]; omega⟩
          · have hS : (fun y => hasB la y && hasB lb y) Y = false := HS0.out
            have HN := Lib.hid (fun w' (hb : Below wr.heap.size wr w') => hK.out.skip HY.out HZ2.out HSG.out hS hb)
            clear hS hK
            go_wp2_with (go_at_call 23; have t := hHa; refine hHa.out.mono ?_; rintro e w2 ⟨rfl, hww⟩; replace hww := hww.symm; subst hww; clear hHa)
            exact ⟨⟨p + 1, K, by omega, by go_num, Lib.hid (HN.out _ (Below.refl _ _))⟩, by simp [intOf]; omega⟩
          · have hS : (fun y => hasB la y && hasB lb y) Y = false := HS0.out
            have HN := Lib.hid (fun w' (hb : Below wr.heap.size wr w') => hK.out.skip HY.out HZ2.out HSG.out hS hb)
            clear hS hK
            go_wp2_with (first | (go_at_call 23; have t := hHa; refine hHa.out.mono ?_; rintro e w2 ⟨rfl, hww⟩; replace hww := hww.symm; subst hww; clear hHa) | (go_at_call 23; have t := hHb; refine hHb.out.mono ?_; rintro e w2 ⟨rfl, hww⟩; replace hww := hww.symm; subst hww; clear hHb))
            exact ⟨⟨p + 1, K, by omega, by go_num, Lib.hid (HN.out _ (Below.refl _ _))⟩, by simp [intOf]; omega⟩
          · have hS : (fun y => hasB la y && hasB lb y) Y = true := HS0.out
            have hS1 : (fun y => hasB la y && hasB lb y) Y ≠ false := by rw [hS]; decide
            rcases List.eq_nil_or_concat K with rfl | ⟨KI, ⟨ka, kc⟩, hKK⟩
            · have hrow := hK.out.own
              rw [show ([] : List (Int × Int)).length = 0 from rfl] at hrow
              have hv0 : u5 = .slice none 0 0 ∨ ∃ b cap, u5 = .slice (some ⟨b, 0, none⟩) 0 cap := by
                rcases hrow.2 with ⟨h0, _⟩ | ⟨b, cap, _, h1, _⟩
                · exact .inl h0
                · exact .inr ⟨b, cap, h1⟩
              have HNew := Lib.hid (fun w2 w' v' (hb : Below wr.heap.size wr w2) => hK.out.new (w2 := w2) (w' := w') (v' := v') HY.out HZ2.out (by unfold lowest; omega) HSG.out hS1 (fun r hr => by simp at hr) hb)
              have HOwn := Lib.hid (fun w2 (o2 : Obj) (hb : Below wr.heap.size wr w2) => (own_below hK.out.own hb).alloc o2)
              have HCN := Lib.hid (fun nq => cells_newRn (wr.drewN nq) [.int .i32 Y, .int .i32 (Z - 1)] 42)
              have hw9 := hK.out.below.size
              clear hK hrow hS hS1
              rcases hv0 with rfl | ⟨b5, cap5, rfl⟩
              · go_wp2_with (first | (go_at_call 23; have t := hHa; refine hHa.out.mono ?_; rintro e w2 ⟨rfl, hww⟩; replace hww := hww.symm; subst hww; clear hHa) | (go_at_call 23; have t := hHb; refine hHb.out.mono ?_; rintro e w2 ⟨rfl, hww⟩; replace hww := hww.symm; subst hww; clear hHb))
                go_quiet (fail)
                go_wp2_with (at_builtin; refine wpList_append_own _ rfl _ _ 22 rfl w1.heap.size 42 i0 (.agg #[.int .i32 0, .int .i32 0]) 2 8 Try.underlying22 hi hz0 hz1 hz2 rfl (by decide) _ 0 _ rfl (HOwn.out (wr.drewN nq) _ (below_drewN (Below.refl _ _) _)) ⟨wr.heap.size, 0, none⟩ 1 1 [.int .i32 Y, .int .i32 (Z - 1)] rfl rfl (HCN.out nq) (fun x hx => by simp at hx; rcases hx with rfl | rfl <;> rfl) (by unfold maxLen; omega) (by omega) (by simp; omega) ?_; intro v' w3 hown3 hg3 _)
                exact ⟨⟨p + 1, _, by omega, by go_num, Lib.hid (HNew.out _ w3 v' ((below_drewN (Below.refl _ wr) nq).alloc (Nat.le_refl _) _) hown3 hg3)⟩, by simp [intOf]; omega⟩
              · go_wp2_with (first | (go_at_call 23; have t := hHa; refine hHa.out.mono ?_; rintro e w2 ⟨rfl, hww⟩; replace hww := hww.symm; subst hww; clear hHa) | (go_at_call 23; have t := hHb; refine hHb.out.mono ?_; rintro e w2 ⟨rfl, hww⟩; replace hww := hww.symm; subst hww; clear hHb))
                go_quiet (fail)
                go_wp2_with (at_builtin; refine wpList_append_own _ rfl _ _ 22 rfl w1.heap.size 42 i0 (.agg #[.int .i32 0, .int .i32 0]) 2 8 Try.underlying22 hi hz0 hz1 hz2 rfl (by decide) _ 0 _ rfl (HOwn.out (wr.drewN nq) _ (below_drewN (Below.refl _ _) _)) ⟨wr.heap.size, 0, none⟩ 1 1 [.int .i32 Y, .int .i32 (Z - 1)] rfl rfl (HCN.out nq) (fun x hx => by simp at hx; rcases hx with rfl | rfl <;> rfl) (by unfold maxLen; omega) (by omega) (by simp; omega) ?_; intro v' w3 hown3 hg3 _)
                exact ⟨⟨p + 1, _, by omega, by go_num, Lib.hid (HNew.out _ w3 v' ((below_drewN (Below.refl _ wr) nq).alloc (Nat.le_refl _) _) hown3 hg3)⟩, by simp [intOf]; omega⟩
            · rw [List.concat_eq_append] at hKK
              subst hKK
              obtain ⟨b5, cap5, rfl, hKp, hcl⟩ := hK.out.row
              have hin5 := RT.in _ _ _ (hK.out.run Y HY.out) (ka, kc) (by simp)
              unfold lowest at hin5
              dsimp only at hin5
              have hcl2 := fun nq => hcl (wr.drewN nq) (below_drewN (Below.refl _ _) _)
              obtain ⟨z1, z2, z3⟩ := hcl wr (Below.refl _ _)
              have hw9 := hK.out.below.size
              have HNew := Lib.hid (fun w2 w' v' (hne : ¬ kc + 1 = Y) (hb : Below wr.heap.size wr w2) => hK.out.new (w2 := w2) (w' := w') (v' := v') HY.out HZ2.out (by unfold lowest; omega) HSG.out hS1 (fun r hr e => by rw [List.getLast?_append] at hr; simp at hr; subst hr; exact absurd e hne) hb)
              have HMore := Lib.hid (fun w2 (he : kc + 1 = Y) (hb : Below wr.heap.size wr w2) => hK.out.more_ (w2 := w2) HY.out HZ2.out HSG.out he (by
                have h1 := (RT.le _ _ _ (hK.out.run Y HY.out) (ka, kc) (by simp)).2.2.2.2
                exact Eq.trans (tt_of h1) hS.symm) hb)
              have HOwn := Lib.hid (fun w2 (o2 : Obj) (hb : Below wr.heap.size wr w2) => (own_below hK.out.own hb).alloc o2)
              have HCN := Lib.hid (fun nq => cells_newRn (wr.drewN nq) [.int .i32 Y, .int .i32 (Z - 1)] 42)
              have eKL : (KI ++ [(ka, kc)]).length = KI.length + 1 := by simp
              rw [eKL] at HOwn HNew
              have g3 : IntKind.i64.wrap kc = kc := by simp [IntKind.wrap, IntKind.bits, IntKind.signed]; omega
              have g4 : IntKind.i64.wrap (kc + 1) = kc + 1 := by simp [IntKind.wrap, IntKind.bits, IntKind.signed]; omega
              clear hK hS hS1 hcl eKL
              generalize rgV (KI ++ [(ka, kc)]) = RK at *
              obtain ⟨KN, hKN⟩ : ∃ k, KI.length = k := ⟨_, rfl⟩
              rw [hKN] at z1 z2 z3 hcl2 HNew HMore HOwn hKp ⊢
              have f1 : (KN : Int) + 1 - 1 = KN := by omega
              have f2 : IntKind.i64.wrap (KN : Int) = KN := by simp [IntKind.wrap, IntKind.bits, IntKind.signed]; omega
              have f3 : (KN : Int) < (KN : Int) + 1 := by omega
              have f4 : decide ((0 : Int) < (KN : Int) + 1) = true := by rw [decide_eq_true_iff]; omega
              have f5 : (0 : Int) ≤ (KN : Int) := by omega
              clear hKN
              by_cases ht : kc + 1 = Y
              · have q0 : (kc + 1 == Y) = true := by rw [beq_iff_eq]; exact ht
                go_wp2_with (first | (go_at_call 23; have t := hHa; refine hHa.out.mono ?_; rintro e w2 ⟨rfl, hww⟩; replace hww := hww.symm; subst hww; clear hHa) | (go_at_call 23; have t := hHb; refine hHb.out.mono ?_; rintro e w2 ⟨rfl, hww⟩; replace hww := hww.symm; subst hww; clear hHb))
                go_quiet (fail)
                obtain ⟨_, z5, z6⟩ := hcl2 nq
                clear hcl2
                go_wp2_with fail
                exact ⟨⟨p + 1, _, by omega, by go_num, Lib.hid (HMore.out (wr.drewN nq) ht (below_drewN (Below.refl _ _) _))⟩, by simp [intOf]; omega⟩
              · have q0 : (kc + 1 == Y) = false := by rw [beq_eq_false_iff_ne]; exact ht
                clear hcl2
                go_wp2_with (first | (go_at_call 23; have t := hHa; refine hHa.out.mono ?_; rintro e w2 ⟨rfl, hww⟩; replace hww := hww.symm; subst hww; clear hHa) | (go_at_call 23; have t := hHb; refine hHb.out.mono ?_; rintro e w2 ⟨rfl, hww⟩; replace hww := hww.symm; subst hww; clear hHb))
                go_quiet (fail)
                go_wp2_with (at_builtin; refine wpList_append_own _ rfl _ _ 22 rfl w1.heap.size 42 i0 (.agg #[.int .i32 0, .int .i32 0]) 2 8 Try.underlying22 hi hz0 hz1 hz2 rfl (by decide) _ _ _ rfl (HOwn.out (wr.drewN nq) _ (below_drewN (Below.refl _ _) _)) ⟨wr.heap.size, 0, none⟩ 1 1 [.int .i32 Y, .int .i32 (Z - 1)] rfl rfl (HCN.out nq) (fun x hx => by simp at hx; rcases hx with rfl | rfl <;> rfl) (by unfold maxLen; omega) (by omega) (by simp; omega) ?_; intro v' w3 hown3 hg3 _)
                exact ⟨⟨p + 1, _, by omega, by go_num, Lib.hid (HNew.out _ w3 v' ht ((below_drewN (Below.refl _ wr) nq).alloc (Nat.le_refl _) _) hown3 hg3)⟩, by simp [intOf]; omega⟩
    · have d2 : decide ((p : Int) + 1 < (AN : Int)) = false := by rw [decide_eq_false_iff_not]; omega
      obtain ⟨r1, r2, r3⟩ := hK.out.made (w := w) HChg.out (by rw [HAN.out]; omega) HZ.out HB1.out
      have H1 := Lib.hid r1
      have H2 := Lib.hid r2
      have H3 := Lib.hid r3
      clear hK r1 r2 r3
      go_wp2_with fail
      go_ret
      first | exact ⟨_, rfl, K, H1.out, H2.out, H3.out⟩ | exact ⟨_, K, rfl, H1.out, H2.out, H3.out⟩
end Go.Proofs.Ytianappapfpbeaa
