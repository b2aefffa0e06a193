/- The contract of nodes.measure: of a node at most 100000 deep. -/
import Derived.Test.YthfkodimafmmgaaGreatDoorBdE
import Derived.Test.YthfkodimafmmgaaGreatDoorNdH
namespace Go.Proofs.YthfkodimafmmgaaGreatDoor
open Go Go.RowKit Go.Shelf
attribute [local go_sem] Oper.semAt_some
set_option maxRecDepth 100000

set_option maxHeartbeats 2000000 in
theorem measure_in (n : Nat) (hn : 3 ≤ n) (t : Nd.T) (v : Value) (w : World) (hA : Nd.At w t v) (hd : Nd.deep t ≤ 100000) (hc : Nd.count t ≤ 1099511627776) :
    CallsIn Fence.wide n Tryz.prog 20 #[v] w fun e w' => e = .returned (.tuple #[.int .i64 (Nd.count t), .int .i64 (Nd.deep t)]) ∧ Below w.heap.size w w' := by
  obtain ⟨xs, hxs⟩ := items w 100000 t v hA hd
  have hall := lvls_all hxs
  have hlen : xs.length = Nd.count t := by rw [← lvls_len, hall, Nd.parts_len]
  have htop : Nd.top 0 (lvls xs) = Nd.deep t := by rw [hall, Nd.top_all]
  have hst : ∀ (w1 : World) (Bt : Nat), Below w.heap.size w w1 → Bk w1 Bt 26 v.cells → SeqStopsK Fence.wide (n - 1) Tryz.prog 30 #[.pointer (some ⟨Bt, 0, none⟩)] (encI : Item w 100000 → Array Value) (KpB w.heap.size w1.heap.size) (fun ys => ys = xs) (fun pre => pre <+: xs) xs.length w1 :=
    fun w1 Bt hb hbox => parts_stops w 100000 (n - 1) (by omega) t v xs w1 Bt hA hxs hb hbox
  obtain ⟨sa, sc, ba, bc, rfl, _⟩ := hA.form
  have hE := fun o1 o2 o3 => (callsIn_wide (n := n - 1)).2 (Ends_any t _ (((w.alloc o1).alloc o2).alloc o3) (hA.below ((((Below.refl _ w).alloc (Nat.le_refl _) o1).alloc (by simp) o2).alloc (by simp; omega) o3)) hd hc)
  have hQ : ∀ w6, Below (((w.alloc (.cells #[.int .u8 t.kind, .string t.name, .string t.text, .slice sa t.set.length sc, .slice ba t.subs.length bc] 26)).alloc (.cells #[.int .i64 0] 3)).alloc (.cells #[.int .i64 0] 3)).heap.size (((w.alloc (.cells #[.int .u8 t.kind, .string t.name, .string t.text, .slice sa t.set.length sc, .slice ba t.subs.length bc] 26)).alloc (.cells #[.int .i64 0] 3)).alloc (.cells #[.int .i64 0] 3)) w6 →
      (w6.cell? ⟨w.heap.size, 0, none⟩ = some (.int .u8 t.kind) ∧ w6.cell? ⟨w.heap.size, 1, none⟩ = some (.string t.name) ∧ w6.cell? ⟨w.heap.size, 2, none⟩ = some (.string t.text) ∧ w6.cell? ⟨w.heap.size, 3, none⟩ = some (.slice sa t.set.length sc) ∧ w6.cell? ⟨w.heap.size, 4, none⟩ = some (.slice ba t.subs.length bc)) ∧ Bk w6 (w.heap.size + 1) 3 #[.int .i64 0] ∧ Bk w6 (w.heap.size + 2) 3 #[.int .i64 0] ∧ Below w.heap.size w w6 ∧ w.heap.size + 3 ≤ w6.heap.size := fun w6 hb => by
    have n0 := (((Below.refl w.heap.size w).alloc (Nat.le_refl _) (.cells #[.int .u8 t.kind, .string t.name, .string t.text, .slice sa t.set.length sc, .slice ba t.subs.length bc] 26)).alloc (by simp) (.cells #[.int .i64 0] 3)).alloc (by simp; omega) (.cells #[.int .i64 0] 3)
    have k0 := ((Bk.made w 26 #[.int .u8 t.kind, .string t.name, .string t.text, .slice sa t.set.length sc, .slice ba t.subs.length bc]).alloc (.cells #[.int .i64 0] 3)).alloc (.cells #[.int .i64 0] 3)
    have k1 := (Bk.made (w.alloc (.cells #[.int .u8 t.kind, .string t.name, .string t.text, .slice sa t.set.length sc, .slice ba t.subs.length bc] 26)) 3 #[.int .i64 0]).alloc (.cells #[.int .i64 0] 3)
    have k2 := Bk.made ((w.alloc (.cells #[.int .u8 t.kind, .string t.name, .string t.text, .slice sa t.set.length sc, .slice ba t.subs.length bc] 26)).alloc (.cells #[.int .i64 0] 3)) 3 #[.int .i64 0]
    simp only [World.size_alloc] at k1 k2
    have k0' := k0.below hb k0.lt
    have hz := hb.size
    simp only [World.size_alloc] at hz
    exact ⟨⟨k0'.cell 0, k0'.cell 1, k0'.cell 2, k0'.cell 3, k0'.cell 4⟩, k1.below hb k1.lt, k2.below hb k2.lt, n0.trans (hb.mono (by simp; omega)), by omega⟩
  have cP := fun w1 => parts_in (n - 1) t.kind t.name t.text sa ba t.set.length sc t.subs.length bc w1
  generalize hk1 : t.kind = sk at *
  generalize hk2 : t.name = sn at *
  generalize hk3 : t.text = sx at *
  generalize hk4 : t.set.length = sl at *
  generalize hk5 : t.subs.length = sm at *
  have h1 : 1 ≤ n := by omega
  have h2 : 1 ≤ n - 1 - 1 := by omega
  have hF : Fence.wide.fn 21 := trivial
  have hF2 : Fence.wide.fn 24 := trivial
  obtain ⟨CN, hCN⟩ : ∃ C : Int, (Nd.count t : Int) = C := ⟨_, rfl⟩
  obtain ⟨DP, hDP⟩ : ∃ C : Int, (Nd.deep t : Int) = C := ⟨_, rfl⟩
  rw [hCN, hDP]
  refine callsIn_of_wp_marks Tryz.func20 rfl trivial ?_ rfl
  simp only [Tryz.ntmps20, List.size_toArray, List.length_cons, List.length_nil, Nat.reduceAdd, Nat.reduceSub, Array.replicate_succ, Array.replicate_zero, List.push_toArray, List.append_toArray, List.nil_append, List.cons_append]
  gi_wp2_with (first
    | ((try refine ⟨wide_hdd _, ?_⟩); gi_at_call 24; refine (hE _ _ _).mono ?_; rintro e w6 ⟨rfl, hb6⟩; obtain ⟨⟨q0, q1, q2, q3, q4⟩, qc, qd, hB6, hs6⟩ := hQ _ hb6)
    | ((try refine ⟨wide_hdd _, ?_⟩); gi_at_call 21; refine (cP _).mono ?_; clear cP; rintro e w' ⟨rfl, rfl⟩))
  obtain ⟨W1, hW1⟩ : ∃ W1, w6.alloc (.cells #[.int .u8 sk, .string sn, .string sx, .slice sa sl sc, .slice ba sm bc] 26) = W1 := ⟨_, rfl⟩
  have hB1 : Below w.heap.size w W1 := by rw [← hW1]; exact hB6.alloc hB6.size _
  have hs1 : W1.heap.size = w6.heap.size + 1 := by rw [← hW1]; simp
  have hk1 : Bk W1 (w.heap.size + 1) 3 #[.int .i64 0] := by rw [← hW1]; exact qc.alloc _
  have hk2 : Bk W1 (w.heap.size + 2) 3 #[.int .i64 0] := by rw [← hW1]; exact qd.alloc _
  have hk3 : Bk W1 w6.heap.size 26 #[.int .u8 sk, .string sn, .string sx, .slice sa sl sc, .slice ba sm bc] := by rw [← hW1]; exact Bk.made w6 26 _
  rw [hW1]
  clear hW1 hQ hE
  refine wpIn_rangeFunc_ownF rfl h1 (gf := 30) (lb := #[.pointer (some ⟨w6.heap.size, 0, none⟩)]) rfl trivial (enters_of Tryz.func30 (by kernel_rfl) rfl)
    (hst W1 w6.heap.size hB1 hk3) (fun h k => h.trans k) (fun W l o o' hl h hc hw => KpB.put (by omega) W l o o' hl h hc hw) (Below.refl _ _) (fun _ => rfl)
    (fun pre W => (Bk W (w.heap.size + 1) 3 #[.int .i64 pre.length] ∧ Bk W (w.heap.size + 2) 3 #[.int .i64 (Nd.top 0 (lvls pre))]) ∧ Below w.heap.size w W)
    (fun _ _ _ => False)
    (OwnFrom.and (Own.from (fun s A B row hs hg hr => ⟨hs.1.kept hg hr, hs.2.kept hg hr⟩) _) (ownFrom_below (Nat.le_refl _) (by omega)))
    (fun _ _ _ _ _ hs _ _ => hs)
    ⟨⟨hk1, hk2⟩, hB1⟩
    (fun x => { tmps := #[.agg #[.int .u8 sk, .string sn, .string sx, .slice sa sl sc, .slice ba sm bc], .pointer (some ⟨w.heap.size, 0, none⟩), .pointer (some ⟨w.heap.size + 1, 0, none⟩), .pointer (some ⟨w.heap.size + 1 + 1, 0, none⟩), .int .i64 x.1.1, .agg #[.int .u8 sk, .string sn, .string sx, .slice sa sl sc, .slice ba sm bc], .bool true, .bool false, .agg #[.int .u8 sk, .string sn, .string sx, .slice sa sl sc, .slice ba sm bc], .func (.func 30) #[] #[.pointer (some ⟨w6.heap.size, 0, none⟩)], .int .i64 x.1.1, x.1.2.2, undef, undef, undef, undef, undef, undef, undef], defers := [] }) ?assign ?body ?done ?stop
  case assign =>
    intro l x W K hK
    simp only [encI]
    gi_wp2
    exact hK
  case body =>
    rintro l pre ⟨⟨lv, tt, vv⟩, hx1, hx2⟩ W ⟨⟨hc1, hc2⟩, hB⟩ hlt
    dsimp only at hx1 hx2 ⊢
    have htp := lvls_top pre
    have hsn : Nd.top 0 (lvls (pre ++ [⟨(lv, tt, vv), hx1, hx2⟩])) = max (Nd.top 0 (lvls pre)) lv := by rw [lvls_snoc, Nd.top_snoc]
    have hln : (pre ++ [(⟨(lv, tt, vv), hx1, hx2⟩ : Item w 100000)]).length = pre.length + 1 := by simp
    obtain ⟨tp, htpe⟩ : ∃ tp, Nd.top 0 (lvls pre) = tp := ⟨_, rfl⟩
    rw [htpe] at hsn htp hc2
    obtain ⟨P, hP⟩ : ∃ P : Int, (pre.length : Int) = P := ⟨_, rfl⟩
    obtain ⟨L, hL⟩ : ∃ P : Int, (lv : Int) = P := ⟨_, rfl⟩
    obtain ⟨TP, hTP⟩ : ∃ P : Int, (tp : Int) = P := ⟨_, rfl⟩
    have hP1 : ((pre.length + 1 : Nat) : Int) = P + 1 := by omega
    have hM1 : ((max tp lv : Nat) : Int) = max TP L := by omega
    rw [hP] at hc1
    rw [hTP] at hc2
    rw [hL]
    have G1 := Lib.hid (show (((pre ++ [(⟨(lv, tt, vv), hx1, hx2⟩ : Item w 100000)]).length : Nat) : Int) = P + 1 by rw [hln]; exact hP1)
    have G2 := Lib.hid (show ((Nd.top 0 (lvls (pre ++ [⟨(lv, tt, vv), hx1, hx2⟩])) : Nat) : Int) = max TP L by rw [hsn]; exact hM1)
    have d0 : decide (131072 < L) = false := by rw [decide_eq_false_iff_not]; omega
    have d1 : ¬ 131072 < L := by omega
    have w3 : IntKind.i64.wrap (P + 1) = P + 1 := IntWalk.i64_in _ (by omega)
    have c1 := hc1.cell 0
    have f1 := hc1.free 0
    have c2 := hc2.cell 0
    have f2 := hc2.free 0
    simp at c1 c2
    clear hlt hP hL hTP hP1 hM1 hsn hln htpe
    gi_wp2
    have hk1' := (hc1.set 0 (.int .i64 (P + 1))).other ⟨w.heap.size + 1 + 1, 0, none⟩ (.int .i64 (max TP L)) (by simp)
    have hk2' := (hc2.other ⟨w.heap.size + 1, 0, none⟩ (.int .i64 (P + 1)) (by simp)).set 0 (.int .i64 (max TP L))
    refine ⟨(KeepsOthers.setCell _ _ _).trans (KeepsOthers.setCell _ _ _), (KpB.setCell _ _ _ (by simp) (by simp; omega)).trans (KpB.setCell _ _ _ (by simp; omega) (by simp; omega)), ⟨?_, ?_⟩, (hB.setCell (by simp) _).setCell (by simp; omega) _⟩
    · show Bk _ _ _ #[.int .i64 ((pre ++ [(⟨(lv, tt, vv), hx1, hx2⟩ : Item w 100000)]).length : Nat)]
      rw [G1.out]; exact hk1'
    · show Bk _ _ _ #[.int .i64 (Nd.top 0 (lvls (pre ++ [⟨(lv, tt, vv), hx1, hx2⟩])) : Nat)]
      rw [G2.out]; exact hk2'
  case done =>
    rintro D ys W hD rfl ⟨⟨hc1, hc2⟩, hB⟩ hK
    rw [hlen] at hc1
    rw [htop] at hc2
    rw [hCN] at hc1
    rw [hDP] at hc2
    have c1 := hc1.cell 0
    have f1 := hc1.free 0
    have c2 := hc2.cell 0
    have f2 := hc2.free 0
    simp at c1 c2
    gi_wp2
    gi_region
    have hk1' : Bk (((W.setCell ⟨w.heap.size + 1, 0, none⟩ (.int .i64 CN)).setCell ⟨w.heap.size + 1 + 1, 0, none⟩ (.int .i64 DP)).drew) (w.heap.size + 1) 3 _ := (hc1.set 0 (.int .i64 CN)).other ⟨w.heap.size + 1 + 1, 0, none⟩ (.int .i64 DP) (by simp)
    have hk2' : Bk (((W.setCell ⟨w.heap.size + 1, 0, none⟩ (.int .i64 CN)).setCell ⟨w.heap.size + 1 + 1, 0, none⟩ (.int .i64 DP)).drew) (w.heap.size + 1 + 1) 3 _ := (hc2.other ⟨w.heap.size + 1, 0, none⟩ (.int .i64 CN) (by simp)).set 0 (.int .i64 DP)
    have hK' := ((KeepsOthers.setCell W ⟨w.heap.size + 1, 0, none⟩ (.int .i64 CN)).trans (KeepsOthers.setCell _ ⟨w.heap.size + 1 + 1, 0, none⟩ (.int .i64 DP))).same D _ hK rfl
    have hK2 : (((W.setCell ⟨w.heap.size + 1, 0, none⟩ (.int .i64 CN)).setCell ⟨w.heap.size + 1 + 1, 0, none⟩ (.int .i64 DP)).drew).heap[D]? = some (.deferred (some [])) := hK'
    have hB2 : Below w.heap.size w (((W.setCell ⟨w.heap.size + 1, 0, none⟩ (.int .i64 CN)).setCell ⟨w.heap.size + 1 + 1, 0, none⟩ (.int .i64 DP)).drew) := ((hB.setCell (by simp) _).setCell (by simp; omega) _).drew
    have hD2 : w.heap.size ≤ D := by omega
    gi_wp2
    refine ⟨by simp, .inl ⟨_, _, rfl, run_takeDeferred hK2, ?_⟩⟩
    have g1 := (hk1'.kept (grownBy_putObj' _ D (.deferred none)) (fun r e => by cases e; exact ⟨_, hK2, rfl⟩)).cell 0
    have g2 := (hk2'.kept (grownBy_putObj' _ D (.deferred none)) (fun r e => by cases e; exact ⟨_, hK2, rfl⟩)).cell 0
    simp at g1 g2
    refine ⟨.tuple #[.int .i64 CN, .int .i64 DP], ?_, rfl, hB2.trans (belowK_b (w := w) (Nat.le_refl _) _ D _ _ hD2 hK2 rfl rfl)⟩
    simp [results, Tryz.results20, go_sem, g1, g2]
  case stop =>
    rintro D c pre W _ _ h _
    exact h.elim
theorem measure_any (t : Nd.T) (v : Value) (w : World) (hA : Nd.At w t v) (hd : Nd.deep t ≤ 100000) (hc : Nd.count t ≤ 1099511627776) :
    Calls Tryz.prog 20 #[v] w fun e w' => e = .returned (.tuple #[.int .i64 (Nd.count t), .int .i64 (Nd.deep t)]) ∧ Below w.heap.size w w' := callsIn_wide.1 (measure_in 3 (by omega) t v w hA hd hc)
set_option maxHeartbeats 400000 in
theorem Count_any (t : Nd.T) (v : Value) (w : World) (hA : Nd.At w t v) (hd : Nd.deep t ≤ 100000) (hc : Nd.count t ≤ 1099511627776) :
    Calls Tryz.prog 6 #[v] w fun e w' => e = .returned (.int .i64 (Nd.count t)) ∧ Below w.heap.size w w' := by
  have hC := fun o => measure_any t v (w.alloc o) (hA.below ((Below.refl _ w).alloc (Nat.le_refl _) o)) hd hc
  obtain ⟨sa, sc, ba, bc, rfl, _⟩ := hA.form
  generalize t.kind = sk at *
  generalize t.name = sn at *
  generalize t.text = sx at *
  generalize t.set.length = sl at *
  generalize t.subs.length = sm at *
  obtain ⟨CN, hCN⟩ : ∃ C : Int, (Nd.count t : Int) = C := ⟨_, rfl⟩
  rw [hCN] at hC ⊢
  replace hC := Lib.hid hC
  go_enter Tryz.func6, Tryz.ntmps6
  go_wp2_with (go_at_call 20; refine (hC.out _).mono ?_; rintro e w' ⟨rfl, hb⟩)
  go_ret
  exact ⟨rfl, ((Below.refl _ w).alloc (Nat.le_refl _) _).trans (hb.mono (by simp))⟩
set_option maxHeartbeats 400000 in
theorem Deep_any (t : Nd.T) (v : Value) (w : World) (hA : Nd.At w t v) (hd : Nd.deep t ≤ 100000) (hc : Nd.count t ≤ 1099511627776) :
    Calls Tryz.prog 8 #[v] w fun e w' => e = .returned (.int .i64 (Nd.deep t)) ∧ Below w.heap.size w w' := by
  have hC := fun o => measure_any t v (w.alloc o) (hA.below ((Below.refl _ w).alloc (Nat.le_refl _) o)) hd hc
  obtain ⟨sa, sc, ba, bc, rfl, _⟩ := hA.form
  generalize t.kind = sk at *
  generalize t.name = sn at *
  generalize t.text = sx at *
  generalize t.set.length = sl at *
  generalize t.subs.length = sm at *
  obtain ⟨CN, hCN⟩ : ∃ C : Int, (Nd.deep t : Int) = C := ⟨_, rfl⟩
  rw [hCN] at hC ⊢
  replace hC := Lib.hid hC
  go_enter Tryz.func8, Tryz.ntmps8
  go_wp2_with (go_at_call 20; refine (hC.out _).mono ?_; rintro e w' ⟨rfl, hb⟩)
  go_ret
  exact ⟨rfl, ((Below.refl _ w).alloc (Nat.le_refl _) _).trans (hb.mono (by simp))⟩
theorem ends_any (t : Nd.T) (v : Value) (w : World) (hA : Nd.At w t v) (hd : Nd.deep t ≤ 100000) (hc : Nd.count t ≤ 1099511627776) :
    Calls Tryz.prog 24 #[v] w fun e w' => e = .returned (.bool true) ∧ Below w.heap.size w w' := Ends_any t v w hA hd hc
end Go.Proofs.YthfkodimafmmgaaGreatDoor
