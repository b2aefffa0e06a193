/- The contract of nodes.Plain: is a node plain, for a token's rule, or a parser's? -/
import Derived.Test.YthfkodimafmmgaaGreatDoorNdV
import Derived.Test.YthfkodimafmmgaaGreatDoorNdJ
namespace Go.Proofs.YthfkodimafmmgaaGreatDoor
open Go Go.RowKit Go.Shelf
attribute [local go_sem] Oper.semAt_some
set_option maxRecDepth 100000

namespace Nd
/-- Are the parts that have come as they should, and not too many? -/
def okP (tok : Bool) (n : Nat) : List (Nat × T) → Bool
  | [] => true
  | p :: r => decide (n + 1 ≤ 2048) && decide (p.1 ≤ 64) && fitsB p.2 tok && okP tok (n + 1) r
/-- Is a node plain? -/
def plainB (t : T) (tok : Bool) : Bool := okP tok 0 (parts 1 t)
theorem okP_append (tok : Bool) : ∀ (n : Nat) (a b : List (Nat × T)), okP tok n (a ++ b) = (okP tok n a && okP tok (n + a.length) b)
  | n, [], b => by simp [okP]
  | n, p :: a, b => by
    simp only [List.cons_append, okP, okP_append tok (n + 1) a b, List.length_cons]
    rw [show n + 1 + a.length = n + (a.length + 1) by omega]
    simp only [Bool.and_assoc]
end Nd
theorem KpB.of_below {n₀ B : Nat} {W W' : World} (h : Below W.heap.size W W') (hn : n₀ ≤ W.heap.size) : KpB n₀ B W W' := ⟨h.mono hn, fun b cs t f _ hb => by rw [h.block b (Array.getElem?_eq_some_iff.1 hb).1]; exact hb⟩
theorem keeps_of_below {B : Nat} {W W' : World} (h : Below W.heap.size W W') : KeepsFrom B W W' := ⟨h.size, fun k o _ hk _ => by rw [h.block k (Array.getElem?_eq_some_iff.1 hk).1]; exact hk⟩
set_option maxHeartbeats 2000000 in
theorem Plain_in (n : Nat) (hn : 3 ≤ n) (t : Nd.T) (v : Value) (tok : Bool) (w : World) (hE : Env w) (hA : Nd.At w t v) (hd : Nd.deep t ≤ 100000) (hc : Nd.count t ≤ 1099511627776) :
    CallsIn Fence.wide n Tryz.prog 10 #[v, .bool tok] w fun e w' => e = .returned (.bool (Nd.plainB t tok)) ∧ Below w.heap.size w w' := by
  obtain ⟨xs, hxs⟩ := items w 100000 t v hA hd
  have hall := lvls_all hxs
  have hlen : xs.length = Nd.count t := by rw [← lvls_len, hall, Nd.parts_len]
  have hst : ∀ (w1 : World) (Bt : Nat), Below w.heap.size w w1 → Bk w1 Bt 26 v.cells → SeqStopsK Fence.wide (n - 1) Tryz.prog 30 #[.pointer (some ⟨Bt, 0, none⟩)] (encI : Item w 100000 → Array Value) (KpB w.heap.size w1.heap.size) (fun ys => ys = xs) (fun pre => pre <+: xs) xs.length w1 :=
    fun w1 Bt hb hbox => parts_stops w 100000 (n - 1) (by omega) t v xs w1 Bt hA hxs hb hbox
  obtain ⟨sa, sc, ba, bc, rfl, _⟩ := hA.form
  have cP := fun w1 => parts_in (n - 1) t.kind t.name t.text sa ba t.set.length sc t.subs.length bc w1
  generalize hk1 : t.kind = sk at *
  generalize hk2 : t.name = sn at *
  generalize hk3 : t.text = sx at *
  generalize hk4 : t.set.length = sl at *
  generalize hk5 : t.subs.length = sm at *
  have h1 : 1 ≤ n := by omega
  have h2 : 1 ≤ n - 1 - 1 := by omega
  have hF : Fence.wide.fn 21 := trivial
  have hF2 : Fence.wide.fn 22 := trivial
  have hpl : Nd.plainB t tok = Nd.okP tok 0 (lvls xs) := by unfold Nd.plainB; rw [hall]
  rw [hpl]
  refine callsIn_of_wp_marks Tryz.func10 rfl trivial ?_ rfl
  simp only [Tryz.ntmps10, List.size_toArray, List.length_cons, List.length_nil, Nat.reduceAdd, Nat.reduceSub, Array.replicate_succ, Array.replicate_zero, List.push_toArray, List.append_toArray, List.nil_append, List.cons_append]
  gi_wp2_with ((try refine ⟨wide_hdd _, ?_⟩); gi_at_call 21; refine (cP _).mono ?_; clear cP; rintro e w' ⟨rfl, rfl⟩)
  have hz0 : ∀ o : Obj, Below w.heap.size w (w.alloc o) := fun o => (Below.refl _ w).alloc (Nat.le_refl _) o
  obtain ⟨W1, hW1⟩ : ∃ W1, ((((w.alloc (.cells #[.int .u8 sk, .string sn, .string sx, .slice sa sl sc, .slice ba sm bc] 26)).alloc (.cells #[.bool tok] 4)).alloc (.cells #[.bool false] 4)).alloc (.cells #[.int .i64 0] 3)).alloc (.cells #[.int .u8 sk, .string sn, .string sx, .slice sa sl sc, .slice ba sm bc] 26) = W1 := ⟨_, rfl⟩
  have hB1 : Below w.heap.size w W1 := by rw [← hW1]; exact ((((hz0 _).alloc (by simp) _).alloc (by simp; omega) _).alloc (by simp; omega) _).alloc (by simp; omega) _
  have hs1 : W1.heap.size = w.heap.size + 5 := by rw [← hW1]; simp
  have hk1 : Bk W1 (w.heap.size + 1) 4 #[.bool tok] := by
    have := (((Bk.made (w.alloc (.cells #[.int .u8 sk, .string sn, .string sx, .slice sa sl sc, .slice ba sm bc] 26)) 4 #[.bool tok]).alloc (.cells #[.bool false] 4)).alloc (.cells #[.int .i64 0] 3)).alloc (.cells #[.int .u8 sk, .string sn, .string sx, .slice sa sl sc, .slice ba sm bc] 26)
    rw [hW1] at this
    simpa using this
  have hk2 : Bk W1 (w.heap.size + 1 + 1) 4 #[.bool false] := by
    have := ((Bk.made ((w.alloc (.cells #[.int .u8 sk, .string sn, .string sx, .slice sa sl sc, .slice ba sm bc] 26)).alloc (.cells #[.bool tok] 4)) 4 #[.bool false]).alloc (.cells #[.int .i64 0] 3)).alloc (.cells #[.int .u8 sk, .string sn, .string sx, .slice sa sl sc, .slice ba sm bc] 26)
    rw [hW1] at this
    simpa using this
  have hk3 : Bk W1 (w.heap.size + 1 + 1 + 1) 3 #[.int .i64 0] := by
    have := (Bk.made (((w.alloc (.cells #[.int .u8 sk, .string sn, .string sx, .slice sa sl sc, .slice ba sm bc] 26)).alloc (.cells #[.bool tok] 4)).alloc (.cells #[.bool false] 4)) 3 #[.int .i64 0]).alloc (.cells #[.int .u8 sk, .string sn, .string sx, .slice sa sl sc, .slice ba sm bc] 26)
    rw [hW1] at this
    simpa using this
  have hk4 : Bk W1 (w.heap.size + 1 + 1 + 1 + 1) 26 #[.int .u8 sk, .string sn, .string sx, .slice sa sl sc, .slice ba sm bc] := by
    have := Bk.made ((((w.alloc (.cells #[.int .u8 sk, .string sn, .string sx, .slice sa sl sc, .slice ba sm bc] 26)).alloc (.cells #[.bool tok] 4)).alloc (.cells #[.bool false] 4)).alloc (.cells #[.int .i64 0] 3)) 26 #[.int .u8 sk, .string sn, .string sx, .slice sa sl sc, .slice ba sm bc]
    rw [hW1] at this
    simpa using this
  rw [hW1]
  clear hW1 hz0
  refine wpIn_rangeFunc_ownH rfl h1 (gf := 30) (lb := #[.pointer (some ⟨w.heap.size + 1 + 1 + 1 + 1, 0, none⟩)]) rfl trivial (enters_of Tryz.func30 (by kernel_rfl) rfl)
    (hst W1 (w.heap.size + 1 + 1 + 1 + 1) hB1 hk4) (fun h k => h.trans k) (fun W l o o' hl h hc hw => KpB.put (by omega) W l o o' hl h hc hw) (Below.refl _ _) (fun _ => rfl)
    (fun pre W => ((Bk W (w.heap.size + 1) 4 #[.bool tok] ∧ Bk W (w.heap.size + 1 + 1) 4 #[.bool false] ∧ Bk W (w.heap.size + 1 + 1 + 1) 3 #[.int .i64 pre.length]) ∧ Nd.okP tok 0 (lvls pre) = true) ∧ Below w.heap.size w W)
    (fun c pre W => (c = .ret ∧ Bk W (w.heap.size + 1 + 1) 4 #[.bool false] ∧ Nd.okP tok 0 (lvls pre) = false) ∧ Below w.heap.size w W)
    (OwnFrom.and (Own.from (fun s A B row hs hg hr => ⟨⟨hs.1.1.kept hg hr, hs.1.2.1.kept hg hr, hs.1.2.2.kept hg hr⟩, hs.2⟩) _) (ownFrom_below (Nat.le_refl _) (by omega)))
    (fun c => OwnFrom.and (Own.from (fun s A B row hs hg hr => ⟨hs.1, hs.2.1.kept hg hr, hs.2.2⟩) _) (ownFrom_below (Nat.le_refl _) (by omega)))
    ⟨⟨⟨hk1, hk2, hk3⟩, rfl⟩, hB1⟩
    (fun x a' W => ∃ Bx, w.heap.size + 4 ≤ Bx ∧ Bk W Bx 26 x.1.2.2.cells ∧ a' = { tmps := #[.agg #[.int .u8 sk, .string sn, .string sx, .slice sa sl sc, .slice ba sm bc], .bool tok, .pointer (some ⟨w.heap.size, 0, none⟩), .pointer (some ⟨w.heap.size + 1, 0, none⟩), .pointer (some ⟨w.heap.size + 1 + 1, 0, none⟩), .pointer (some ⟨w.heap.size + 1 + 1 + 1, 0, none⟩), .int .i64 x.1.1, .pointer (some ⟨Bx, 0, none⟩), .agg #[.int .u8 sk, .string sn, .string sx, .slice sa sl sc, .slice ba sm bc], .func (.func 30) #[] #[.pointer (some ⟨w.heap.size + 1 + 1 + 1 + 1, 0, none⟩)], .int .i64 x.1.1, x.1.2.2, undef, undef, undef, undef, undef, undef, undef, undef, undef, undef, undef, undef, undef, undef], defers := [] })
    (fun x a' _ A B row hs hg hr => by
      obtain ⟨Bx, h1, h2, h3⟩ := hs
      exact ⟨Bx, h1, h2.kept hg (fun r e => (hr r e).2), h3⟩) ?assign ?body ?done ?stop
  case assign =>
    rintro l pre ⟨⟨lv, tt, vv⟩, hx1, hx2⟩ W K ⟨⟨⟨ha, hb, hc2⟩, hok⟩, hB⟩ hK
    dsimp only at hx1 hx2 hK
    simp only [encI]
    obtain ⟨sa2, sc2, ba2, bc2, rfl, _⟩ := hx1.form
    have hsz := hB.size
    have hK2 := fun a' h => hK a' (W.alloc (.cells #[.int .u8 tt.kind, .string tt.name, .string tt.text, .slice sa2 tt.set.length sc2, .slice ba2 tt.subs.length bc2] 26)) (keeps_of_below ((Below.refl _ W).alloc (Nat.le_refl _) _)) (KpB.alloc W hsz _) ⟨⟨⟨ha.alloc _, hb.alloc _, hc2.alloc _⟩, hok⟩, hB.alloc hsz _⟩ h
    generalize tt.kind = sk2 at *
    generalize tt.name = sn2 at *
    generalize tt.text = sx2 at *
    generalize tt.set.length = sl2 at *
    generalize tt.subs.length = sm2 at *
    clear hst hK
    gi_wp2
    exact ⟨W.heap.size, by have := hc2.lt; omega, Bk.made W _ _, rfl⟩
  case body =>
    rintro l pre ⟨⟨lv, tt, vv⟩, hx1, hx2⟩ a' W _ _ ⟨⟨⟨ka, kb, kc⟩, hok⟩, hB⟩ ⟨Bx, hBx, hbx, rfl⟩ hlt
    dsimp only at hx1 hx2 hbx ⊢
    have hsn : Nd.okP tok 0 (lvls (pre ++ [⟨(lv, tt, vv), hx1, hx2⟩])) = (decide (pre.length + 1 ≤ 2048) && decide (lv ≤ 64) && Nd.fitsB tt tok) := by
      rw [lvls_snoc, Nd.okP_append, hok, lvls_len]
      simp [Nd.okP]
    have hln : (pre ++ [(⟨(lv, tt, vv), hx1, hx2⟩ : Item w 100000)]).length = pre.length + 1 := by simp
    have HSN := Lib.hid hsn
    have HLN := Lib.hid hln
    obtain ⟨P, hP⟩ : ∃ P : Int, (pre.length : Int) = P := ⟨_, rfl⟩
    obtain ⟨L, hL⟩ : ∃ P : Int, (lv : Int) = P := ⟨_, rfl⟩
    have hP1 : ((pre.length + 1 : Nat) : Int) = P + 1 := by omega
    have HP1 := Lib.hid hP1
    rw [hP] at kc
    rw [hL]
    have w3 : IntKind.i64.wrap (P + 1) = P + 1 := IntWalk.i64_in _ (by omega)
    have c1 := ka.cell 0
    have c3 := kc.cell 0
    have f3 := kc.free 0
    have f2 := kb.free 0
    have c2 := kb.cell 0
    simp at c1 c2 c3
    have hsz := hB.size
    have hb0 : Below w.heap.size w (W.setCell ⟨w.heap.size + 1 + 1 + 1, 0, none⟩ (.int .i64 (P + 1))) := hB.setCell (by simp; omega) _
    have HX := Lib.hid (hbx.other ⟨w.heap.size + 1 + 1 + 1, 0, none⟩ (.int .i64 (P + 1)) (by simp; omega))
    have HA' := Lib.hid (ka.other ⟨w.heap.size + 1 + 1 + 1, 0, none⟩ (.int .i64 (P + 1)) (by simp))
    have HB' := Lib.hid (kb.other ⟨w.heap.size + 1 + 1 + 1, 0, none⟩ (.int .i64 (P + 1)) (by simp))
    have HC' := Lib.hid (kc.set 0 (.int .i64 (P + 1)))
    have cF := (fits_any tt vv tok _ (hE.below hb0) (hx1.below hb0))
    replace cF := callsIn_wide (n := n - 1 - 1 - 1).2 cF
    obtain ⟨sa2, sc2, ba2, bc2, rfl, _⟩ := hx1.form
    generalize tt.kind = sk2 at *
    generalize tt.name = sn2 at *
    generalize tt.text = sx2 at *
    generalize tt.set.length = sl2 at *
    generalize tt.subs.length = sm2 at *
    have x0 := HX.out.cell 0
    have x1 := HX.out.cell 1
    have x2 := HX.out.cell 2
    have x3 := HX.out.cell 3
    have x4 := HX.out.cell 4
    simp [Value.cells] at x0 x1 x2 x3 x4
    have y1 := HA'.out.cell 0
    have y3 := HC'.out.cell 0
    simp at y1 y3
    have HB0 := Lib.hid hb0
    have HKp : Hid (KpB w.heap.size W1.heap.size W (W.setCell ⟨w.heap.size + 1 + 1 + 1, 0, none⟩ (.int .i64 (P + 1)))) := Lib.hid (KpB.setCell _ _ _ (by simp; omega) (by simp; omega))
    have HKf : Hid (KeepsFrom W1.heap.size W (W.setCell ⟨w.heap.size + 1 + 1 + 1, 0, none⟩ (.int .i64 (P + 1)))) := Lib.hid ((KeepsOthers.setCell _ _ _).from _)
    by_cases h2048 : 2048 < pre.length + 1
    · have HF := Lib.hid (show Nd.okP tok 0 (lvls (pre ++ [⟨(lv, tt, .agg #[.int .u8 sk2, .string sn2, .string sx2, .slice sa2 sl2 sc2, .slice ba2 sm2 bc2]), hx1, hx2⟩])) = false by rw [HSN.out, decide_eq_false (by omega)]; rfl)
      have d0 : decide (2048 < P + 1) = true := by rw [decide_eq_true_iff]; omega
      clear hst hlt hsn hln hP hL hP1 hb0 h2048
      gi_wp2
      exact ⟨HKf.out.trans ((KeepsOthers.setCell _ _ _).from _), ⟨rfl, HB'.out.set 0 (.bool false), HF.out⟩, HB0.out.setCell (by simp; omega) _⟩
    have d0 : decide (2048 < P + 1) = false := by rw [decide_eq_false_iff_not]; omega
    by_cases h64 : 64 < lv
    · have HF := Lib.hid (show Nd.okP tok 0 (lvls (pre ++ [⟨(lv, tt, .agg #[.int .u8 sk2, .string sn2, .string sx2, .slice sa2 sl2 sc2, .slice ba2 sm2 bc2]), hx1, hx2⟩])) = false by rw [HSN.out, decide_eq_false (p := lv ≤ 64) (by omega), Bool.and_false]; rfl)
      have d1 : decide (64 < L) = true := by rw [decide_eq_true_iff]; omega
      clear hst hlt hsn hln hP hL hP1 hb0 h2048 h64
      gi_wp2
      exact ⟨HKf.out.trans ((KeepsOthers.setCell _ _ _).from _), ⟨rfl, HB'.out.set 0 (.bool false), HF.out⟩, HB0.out.setCell (by simp; omega) _⟩
    have d1 : decide (64 < L) = false := by rw [decide_eq_false_iff_not]; omega
    have HF := Lib.hid (show Nd.okP tok 0 (lvls (pre ++ [⟨(lv, tt, .agg #[.int .u8 sk2, .string sn2, .string sx2, .slice sa2 sl2 sc2, .slice ba2 sm2 bc2]), hx1, hx2⟩])) = Nd.fitsB tt tok by rw [HSN.out, decide_eq_true (p := lv ≤ 64) (by omega), decide_eq_true (p := pre.length + 1 ≤ 2048) (by omega)]; rfl)
    cases hfb : Nd.fitsB tt tok with
    | true =>
      rw [hfb] at cF HF
      clear hst hlt hsn hln hP hL hP1 hb0 h2048 h64 hfb
      gi_wp2_with ((try refine ⟨wide_hdd _, ?_⟩); gi_at_call 22; refine (CallsIn.inRound l cF).mono ?_; clear cF; rintro e w' ⟨rfl, hb⟩)
      refine ⟨HKf.out.trans (keeps_of_below hb), HKp.out.trans (KpB.of_below hb (by simp; omega)), ⟨⟨HA'.out.below hb HA'.out.lt, HB'.out.below hb HB'.out.lt, ?_⟩, HF.out⟩, HB0.out.trans (hb.mono (by simp; omega))⟩
      rw [HLN.out, HP1.out]
      exact HC'.out.below hb HC'.out.lt
    | false =>
      rw [hfb] at cF HF
      clear hst hlt hsn hln hP hL hP1 hb0 h2048 h64 hfb
      have hnn : ∀ w' : World, Below (W.setCell ⟨w.heap.size + 1 + 1 + 1, 0, none⟩ (.int .i64 (P + 1))).heap.size (W.setCell ⟨w.heap.size + 1 + 1 + 1, 0, none⟩ (.int .i64 (P + 1))) w' → w'.cell? ⟨w.heap.size + 1 + 1, 0, none⟩ = some (.bool false) ∧ w'.frozen? ⟨w.heap.size + 1 + 1, 0, none⟩ = false := fun w' hb => by
        have := HB'.out.below hb HB'.out.lt
        exact ⟨by have h := this.cell 0; simpa using h, this.free 0⟩
      gi_wp2_with ((try refine ⟨wide_hdd _, ?_⟩); gi_at_call 22; refine (CallsIn.inRound l cF).mono ?_; clear cF; rintro e w' ⟨rfl, hb⟩; obtain ⟨hn1, hn2⟩ := hnn w' hb)
      exact ⟨(HKf.out.trans (keeps_of_below hb)).trans ((KeepsOthers.setCell _ _ _).from _), ⟨rfl, (HB'.out.below hb HB'.out.lt).set 0 (.bool false), HF.out⟩, (HB0.out.trans (hb.mono (by simp; omega))).setCell (by simp; omega) _⟩
  case done =>
    rintro D ys W hD rfl ⟨⟨⟨_, kb, _⟩, hok⟩, hB⟩ hK
    have c2 := kb.cell 0
    have f2 := kb.free 0
    simp at c2
    have hD2 : w.heap.size ≤ D := by omega
    have hK' := (KeepsOthers.setCell W ⟨w.heap.size + 1 + 1, 0, none⟩ (.bool true)).same D _ hK rfl
    have kb' := kb.set 0 (.bool true)
    clear hst
    gi_wp2
    refine ⟨by simp, .inl ⟨_, _, rfl, run_takeDeferred hK', ?_⟩⟩
    have g1 := (kb'.kept (grownBy_putObj' _ D (.deferred none)) (fun r e => by cases e; exact ⟨_, hK', rfl⟩)).cell 0
    simp at g1
    refine ⟨.bool true, ?_, by rw [hok], (hB.setCell (by simp; omega) _).trans (belowK_b (w := w) (Nat.le_refl _) _ D _ _ hD2 hK' rfl rfl)⟩
    simp [results, Tryz.results10, go_sem, g1]
  case stop =>
    rintro D c pre W hD hpre ⟨⟨rfl, kb, hok⟩, hB⟩ hK
    have hf : Nd.okP tok 0 (lvls xs) = false := by
      obtain ⟨r, hr⟩ := hpre
      rw [← hr]
      unfold lvls at hok ⊢
      rw [List.map_append, Nd.okP_append, hok, Bool.false_and]
    have hD2 : w.heap.size ≤ D := by omega
    clear hst
    gi_wp2
    refine ⟨by simp, .inl ⟨_, _, rfl, run_takeDeferred hK, ?_⟩⟩
    have g1 := (kb.kept (grownBy_putObj' _ D (.deferred none)) (fun r e => by cases e; exact ⟨_, hK, rfl⟩)).cell 0
    simp at g1
    refine ⟨.bool false, ?_, by rw [hf], hB.trans (belowK_b (w := w) (Nat.le_refl _) _ D _ _ hD2 hK rfl rfl)⟩
    simp [results, Tryz.results10, go_sem, g1]
theorem Plain_any (t : Nd.T) (v : Value) (tok : Bool) (w : World) (hE : Env w) (hA : Nd.At w t v) (hd : Nd.deep t ≤ 100000) (hc : Nd.count t ≤ 1099511627776) :
    Calls Tryz.prog 10 #[v, .bool tok] w fun e w' => e = .returned (.bool (Nd.plainB t tok)) ∧ Below w.heap.size w w' := callsIn_wide.1 (Plain_in 3 (by omega) t v tok w hE hA hd hc)
end Go.Proofs.YthfkodimafmmgaaGreatDoor
