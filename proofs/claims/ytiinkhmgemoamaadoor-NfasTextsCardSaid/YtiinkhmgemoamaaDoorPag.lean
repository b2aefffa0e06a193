/- What bodies.Parts hands back, as a range over a function takes it. -/
import Derived.Test.YtiinkhmgemoamaaDoorPaf
import Derived.Test.YtiinkhmgemoamaaDoorPae
import Derived.Test.YtiinkhmgemoamaaDoorPad
namespace Go.Proofs.YtiinkhmgemoamaaDoor
open Go Go.RowKit Go.Shelf
attribute [local go_sem] Oper.semAt_some
set_option maxRecDepth 100000

/-- All the parts of a node that lies in w, each with its proof. -/
theorem items (w : World) (M : Nat) (t : Nd.T) (v : Value) (h : Nd.At w t v) (hd : Nd.deep t ≤ M) : ∃ xs : List (Item w M), xs.map (·.1) = Nd.partsV w 1 t v := by
 have hp : ∀ x ∈ Nd.partsV w 1 t v, Nd.At w x.2.1 x.2.2 ∧ x.1 ≤ M := fun x hx => by
  obtain ⟨h1, _, h3⟩ := Nd.partsV_at w 1 t v h x hx
  exact ⟨h1, by omega⟩
 exact ⟨(Nd.partsV w 1 t v).attachWith _ hp, (List.attachWith_map_val (f := id) hp).trans (List.map_id _)⟩
set_option maxHeartbeats 1000000 in
theorem parts_in (n : Nat) (k : Int) (nm tx : ByteArray) (sa ba : Option Addr) (sl sc sm bc : Nat) (w : World) :
 CallsIn Fence.wide n Tryd.prog 66 #[.agg #[.int .u8 k, .string nm, .string tx, .slice sa sl sc, .slice ba sm bc]] w fun e' w' => e' = .returned (.func (.func 77) #[] #[.pointer (some ⟨w.heap.size, 0, none⟩)]) ∧ w' = w.alloc (.cells #[.int .u8 k, .string nm, .string tx, .slice sa sl sc, .slice ba sm bc] 34) := by
 refine callsIn_of_wp Tryd.func66 rfl trivial ?_ rfl
 simp only [Tryd.ntmps66, List.size_toArray, List.length_cons, List.length_nil, Nat.reduceAdd, Nat.reduceSub, Array.replicate_succ, Array.replicate_zero, List.push_toArray, List.append_toArray, List.nil_append, List.cons_append]
 gi_wp2
 go_ret
 exact ⟨rfl, rfl⟩
set_option maxHeartbeats 1000000 in
theorem partsF_gen (Kp : World → World → Prop) (w0 : World) (M N l B C n : Nat) (hKp : KpOk w0.heap.size B Kp) (hM : M < 1099511627776) (J Jx : List (Item w0 M) → World → Prop) (hJ : AbidesFrom C J)
 (hY : ∀ m pre x W, J pre W → pre.length < N → YieldAt Fence.wide m Tryd.prog l (encI x) W fun e W' =>
  (e = .returned (.bool true) ∧ J (pre ++ [x]) W' ∧ Kp W W') ∨ (e = .returned (.bool false) ∧ Jx (pre ++ [x]) W')) (t : Nd.T) (v : Value) (xs : List (Item w0 M)) (W : World) (Bt : Nat) (hA : Nd.At w0 t v) (hxs : xs.map (·.1) = Nd.partsV w0 1 t v)
 (hb : Below w0.heap.size w0 W) (hB : B ≤ W.heap.size) (h0 : J [] W) (hN : xs.length ≤ N) (hbox : Bk W Bt 34 v.cells) :
 CallsIn Fence.wide n Tryd.prog 77 #[.func (.yield l) #[] #[], .pointer (some ⟨Bt, 0, none⟩)] W fun e W' => (∃ u, e = .returned u) ∧ ((∃ ys, ys = xs ∧ J ys W') ∨ (∃ pre, pre <+: xs ∧ Jx pre W')) := by
 have hw := walk_gen Kp w0 M N l B C hKp hM J Jx hJ hY t (n - 1) 1 v [] xs W hA hxs hb hB h0 (by simpa using hN)
 obtain ⟨sa, sc, ba, bc, rfl, _⟩ := hA.form
 have c0 := hbox.cell 0
 have c1 := hbox.cell 1
 have c2 := hbox.cell 2
 have c3 := hbox.cell 3
 have c4 := hbox.cell 4
 simp [Value.cells] at c0 c1 c2 c3 c4
 have hF : Fence.wide.fn 78 := trivial
 rw [show ((1 : Nat) : Int) = 1 from rfl] at hw
 clear hxs hbox hJ
 refine callsIn_of_wp Tryd.func77 rfl trivial ?_ rfl
 simp only [Tryd.ntmps77, List.size_toArray, List.length_cons, List.length_nil, Nat.reduceAdd, Nat.reduceSub, Array.replicate_succ, Array.replicate_zero, List.push_toArray, List.append_toArray, List.nil_append, List.cons_append]
 gi_wp2_with ((try refine ⟨wide_hdd _, ?_⟩); gi_at_call 78; refine hw.mono ?_; clear hw; rintro e W1 (⟨rfl, hJ1, _⟩ | ⟨rfl, q, hq, hx⟩))
 · go_end0
   exact ⟨⟨_, rfl⟩, .inl ⟨_, rfl, by simpa using hJ1⟩⟩
 · go_end0
   exact ⟨⟨_, rfl⟩, .inr ⟨q, hq, by simpa using hx⟩⟩
theorem parts_gen (Kp : World → World → Prop) (w0 : World) (M n : Nat) (hM : M < 1099511627776) (t : Nd.T) (v : Value) (xs : List (Item w0 M)) (w : World) (hKp : KpOk w0.heap.size w.heap.size Kp) (Bt : Nat) (hA : Nd.At w0 t v) (hxs : xs.map (·.1) = Nd.partsV w0 1 t v) (hb : Below w0.heap.size w0 w) (hbox : Bk w Bt 34 v.cells) :
 SeqStopsK Fence.wide n Tryd.prog 77 #[.pointer (some ⟨Bt, 0, none⟩)] (encI : Item w0 M → Array Value) Kp (fun ys => ys = xs) (fun pre => pre <+: xs) xs.length w :=
 fun l J Jx W hW hJ _ hY h0 => partsF_gen Kp w0 M xs.length l w.heap.size W.heap.size n hKp hM J Jx hJ (fun _ pre x W1 hj hl => yield_any (hY pre x W1 hj hl)) t v xs W Bt hA hxs (hb.trans (hW.mono hb.size)) hW.size h0 (Nat.le_refl _) (hbox.below hW hbox.lt)
theorem parts_stops (w0 : World) (M n : Nat) (hM : M < 1099511627776) (t : Nd.T) (v : Value) (xs : List (Item w0 M)) (w : World) (Bt : Nat) (hA : Nd.At w0 t v) (hxs : xs.map (·.1) = Nd.partsV w0 1 t v) (hb : Below w0.heap.size w0 w) (hbox : Bk w Bt 34 v.cells) :
 SeqStopsK Fence.wide n Tryd.prog 77 #[.pointer (some ⟨Bt, 0, none⟩)] (encI : Item w0 M → Array Value) (KpB w0.heap.size w.heap.size) (fun ys => ys = xs) (fun pre => pre <+: xs) xs.length w :=
 parts_gen _ w0 M n hM t v xs w (KpB.ok _ _) Bt hA hxs hb hbox
end Go.Proofs.YtiinkhmgemoamaaDoor
namespace Go.Proofs.YtiinkhmgemoamaaDoor
open Go Go.RowKit Go.Shelf
attribute [local go_sem] Oper.semAt_some
set_option maxRecDepth 100000

def lvls {w : World} {M : Nat} (xs : List (Item w M)) : List (Nat × Nd.T) := xs.map fun x => (x.1.1, x.1.2.1)
theorem lvls_all {w : World} {M : Nat} {t : Nd.T} {v : Value} {xs : List (Item w M)} (h : xs.map (·.1) = Nd.partsV w 1 t v) : lvls xs = Nd.parts 1 t := by
 rw [← Nd.partsV_map w 1 t v, ← h]
 unfold lvls
 simp
theorem lvls_len {w : World} {M : Nat} (xs : List (Item w M)) : (lvls xs).length = xs.length := by unfold lvls; simp
set_option maxHeartbeats 2000000 in
theorem Ends_in (n : Nat) (hn : 3 ≤ n) (t : Nd.T) (v : Value) (w : World) (hA : Nd.At w t v) (hd : Nd.deep t ≤ 100000) (_hc : Nd.count t ≤ 1099511627776) :
 CallsIn Fence.wide n Tryd.prog 57 #[v] w fun e w' => e = .returned (.bool true) ∧ Below w.heap.size w w' := by
 obtain ⟨xs, hxs⟩ := items w 100000 t v hA hd
 have hall := lvls_all hxs
 have hlen : xs.length = Nd.count t := by rw [← lvls_len, hall, Nd.parts_len]
 have hst : ∀ (w1 : World) (Bt : Nat), Below w.heap.size w w1 → Bk w1 Bt 34 v.cells → SeqStopsK Fence.wide (n - 1) Tryd.prog 77 #[.pointer (some ⟨Bt, 0, none⟩)] (encI : Item w 100000 → Array Value) (KpB w.heap.size w1.heap.size) (fun ys => ys = xs) (fun pre => pre <+: xs) xs.length w1 :=
  fun w1 Bt hb hbox => parts_stops w 100000 (n - 1) (by omega) t v xs w1 Bt hA hxs hb hbox
 obtain ⟨sa, sc, ba, bc, rfl, _⟩ := hA.form
 have cP := fun w1 => parts_in (n - 1) t.kind t.name t.text sa ba t.set.length sc t.subs.length bc w1
 generalize hk1 : t.kind = sk at *
 generalize hk2 : t.name = sn at *
 generalize hk3 : t.text = sx at *
 generalize hk4 : t.set.length = sl at *
 generalize hk5 : t.subs.length = sm at *
 have h1 : 1 ≤ n := by omega
 have h2 : 1 ≤ n - 1 - 1 := by omega
 have hF : Fence.wide.fn 66 := trivial
 refine callsIn_of_wp_marks Tryd.func57 rfl trivial ?_ rfl
 simp only [Tryd.ntmps57, List.size_toArray, List.length_cons, List.length_nil, Nat.reduceAdd, Nat.reduceSub, Array.replicate_succ, Array.replicate_zero, List.push_toArray, List.append_toArray, List.nil_append, List.cons_append]
 gi_wp2_with ((try refine ⟨wide_hdd _, ?_⟩); gi_at_call 66; refine (cP _).mono ?_; clear cP; rintro e w' ⟨rfl, rfl⟩)
 have hz0 : ∀ o : Obj, Below w.heap.size w (w.alloc o) := fun o => (Below.refl _ w).alloc (Nat.le_refl _) o
 obtain ⟨W1, hW1⟩ : ∃ W1, ((w.alloc (.cells #[.int .u8 sk, .string sn, .string sx, .slice sa sl sc, .slice ba sm bc] 34)).alloc (.cells #[.bool false] 4)).alloc (.cells #[.int .u8 sk, .string sn, .string sx, .slice sa sl sc, .slice ba sm bc] 34) = W1 := ⟨_, rfl⟩
 have hB1 : Below w.heap.size w W1 := by rw [← hW1]; exact ((hz0 _).alloc (by simp) _).alloc (by simp; omega) _
 have hs1 : W1.heap.size = w.heap.size + 3 := by rw [← hW1]; simp
 have hk1 : Bk W1 (w.heap.size + 1) 4 #[.bool false] := by
  have := (Bk.made (w.alloc (.cells #[.int .u8 sk, .string sn, .string sx, .slice sa sl sc, .slice ba sm bc] 34)) 4 #[.bool false]).alloc (.cells #[.int .u8 sk, .string sn, .string sx, .slice sa sl sc, .slice ba sm bc] 34)
  rw [hW1] at this
  simpa using this
 have hk3 : Bk W1 (w.heap.size + 2) 34 #[.int .u8 sk, .string sn, .string sx, .slice sa sl sc, .slice ba sm bc] := by
  have := Bk.made ((w.alloc (.cells #[.int .u8 sk, .string sn, .string sx, .slice sa sl sc, .slice ba sm bc] 34)).alloc (.cells #[.bool false] 4)) 34 #[.int .u8 sk, .string sn, .string sx, .slice sa sl sc, .slice ba sm bc]
  rw [hW1] at this
  simpa using this
 rw [hW1]
 clear hW1 hz0
 refine wpIn_rangeFunc_ownF rfl h1 (gf := 77) (lb := #[.pointer (some ⟨w.heap.size + 1 + 1, 0, none⟩)]) rfl trivial (enters_of Tryd.func77 (by kernel_rfl) rfl)
  (hst W1 (w.heap.size + 1 + 1) hB1 hk3) (fun h k => h.trans k) (fun W l o o' hl h hc hw => KpB.put (by omega) W l o o' hl h hc hw) (Below.refl _ _) (fun _ => rfl)
  (fun pre W => Bk W (w.heap.size + 1) 4 #[.bool false] ∧ Below w.heap.size w W)
  (fun _ _ _ => False)
  (OwnFrom.and (Own.from (fun s A B row hs hg hr => hs.kept hg hr) _) (ownFrom_below (Nat.le_refl _) (by omega)))
  (fun _ _ _ _ _ hs _ _ => hs)
  ⟨hk1, hB1⟩
  (fun x => { tmps := #[.agg #[.int .u8 sk, .string sn, .string sx, .slice sa sl sc, .slice ba sm bc], .pointer (some ⟨w.heap.size, 0, none⟩), .pointer (some ⟨w.heap.size + 1, 0, none⟩), .int .i64 x.1.1, .agg #[.int .u8 sk, .string sn, .string sx, .slice sa sl sc, .slice ba sm bc], .func (.func 77) #[] #[.pointer (some ⟨w.heap.size + 1 + 1, 0, none⟩)], .int .i64 x.1.1, x.1.2.2, undef, undef], defers := [] }) ?assign ?body ?done ?stop
 case assign =>
  intro l x W K hK
  simp only [encI]
  gi_wp2
  exact hK
 case body =>
  rintro l pre ⟨⟨lv, tt, vv⟩, hx1, hx2⟩ W ⟨hc1, hB⟩ hlt
  dsimp only at hx1 hx2 ⊢
  obtain ⟨L, hL⟩ : ∃ P : Int, (lv : Int) = P := ⟨_, rfl⟩
  rw [hL]
  have d0 : decide (131072 < L) = false := by rw [decide_eq_false_iff_not]; omega
  have d1 : ¬ 131072 < L := by omega
  have c1 := hc1.cell 0
  have f1 := hc1.free 0
  simp at c1
  clear hlt hL
  gi_wp2
  exact ⟨KeepsOthers.refl _, KpB.refl _ _ _, hc1, hB⟩
 case done =>
  rintro D ys W hD rfl ⟨hc1, hB⟩ hK
  have c1 := hc1.cell 0
  have f1 := hc1.free 0
  simp at c1
  gi_wp2
  have hk1' : Bk (W.setCell ⟨w.heap.size + 1, 0, none⟩ (.bool true)) (w.heap.size + 1) 4 _ := hc1.set 0 (.bool true)
  have hK2 : (W.setCell ⟨w.heap.size + 1, 0, none⟩ (.bool true)).heap[D]? = some (.deferred (some [])) := (KeepsOthers.setCell W ⟨w.heap.size + 1, 0, none⟩ (.bool true)).same D _ hK rfl
  have hB2 : Below w.heap.size w (W.setCell ⟨w.heap.size + 1, 0, none⟩ (.bool true)) := hB.setCell (by simp) _
  have hD2 : w.heap.size ≤ D := by omega
  refine ⟨by simp, .inl ⟨_, _, rfl, run_takeDeferred hK2, ?_⟩⟩
  have g1 := (hk1'.kept (grownBy_putObj' _ D (.deferred none)) (fun r e => by cases e; exact ⟨_, hK2, rfl⟩)).cell 0
  simp at g1
  refine ⟨.bool true, ?_, rfl, hB2.trans (belowK_b (w := w) (Nat.le_refl _) _ D _ _ hD2 hK2 rfl rfl)⟩
  simp [results, Tryd.results57, go_sem, g1]
 case stop =>
  rintro D c pre W _ _ h _
  exact h.elim
theorem Ends_any (t : Nd.T) (v : Value) (w : World) (hA : Nd.At w t v) (hd : Nd.deep t ≤ 100000) (hc : Nd.count t ≤ 1099511627776) :
 Calls Tryd.prog 57 #[v] w fun e w' => e = .returned (.bool true) ∧ Below w.heap.size w w' := callsIn_wide.1 (Ends_in 3 (by omega) t v w hA hd hc)
end Go.Proofs.YtiinkhmgemoamaaDoor
namespace Go.Proofs.YtiinkhmgemoamaaDoor
open Go Go.RowKit Go.Shelf Ck
attribute [local go_sem] Oper.semAt_some
set_option maxRecDepth 100000

/-- The blocks that a round of ours leaves: single nodes, and functions that take a node. -/
def keepN (cs : Array Value) (t : TypeId) : Prop := (t = 34 ∧ cs.size = 5) ∨ t = 51
abbrev KpC (n₀ B : Nat) (W W' : World) : Prop := KpN keepN n₀ B W W'
theorem KpC.ok (n₀ B : Nat) : KpOk n₀ B (KpC n₀ B) := KpN.ok (fun _ h => .inl ⟨rfl, h⟩) n₀ B
/-- What is named, as it comes. -/
abbrev ItN (w : World) := { x : Nd.T × Value // Nd.At w x.1 x.2 }
def encN {w : World} (x : ItN w) : Array Value := #[x.1.2]
def fltN {w : World} {M : Nat} (xs : List (Item w M)) : List (ItN w) := xs.filterMap fun x => if Ck.isNm x.1.2.1 then some ⟨(x.1.2.1, x.1.2.2), x.2.1⟩ else none
theorem fltN_map {w : World} {M : Nat} (xs : List (Item w M)) : (fltN xs).map (·.1.1) = ((xs.map (·.1)).map (·.2.1)).filter Ck.isNm := by
 induction xs with
 | nil => rfl
 | cons x xs ih =>
  simp only [fltN, List.filterMap_cons, List.map_cons, List.filter_cons] at ih ⊢
  cases h : Ck.isNm x.1.2.1
  · simpa [h] using ih
  · simpa [h] using ih
theorem fltN_nam {w : World} {M : Nat} {t : Nd.T} {v : Value} {xs : List (Item w M)} (h : xs.map (·.1) = Nd.partsV w 1 t v) : (fltN xs).map (·.1.1) = Ck.nam t := by
 rw [fltN_map, h, ← Ck.nam_parts 1 t, ← Nd.partsV_map w 1 t v]
 simp [List.map_map, Function.comp_def]
theorem fltN_snoc {w : World} {M : Nat} (xs : List (Item w M)) (x : Item w M) : fltN (xs ++ [x]) = fltN xs ++ (if _h : Ck.isNm x.1.2.1 = true then [⟨(x.1.2.1, x.1.2.2), x.2.1⟩] else []) := by
 unfold fltN
 rw [List.filterMap_append]
 congr 1
 by_cases h : Ck.isNm x.1.2.1 = true <;> simp [h]
theorem fltN_len {w : World} {M : Nat} (xs : List (Item w M)) : (fltN xs).length ≤ xs.length := List.length_filterMap_le _ _
set_option maxHeartbeats 1000000 in
theorem names_in (n : Nat) (k : Int) (nm tx : ByteArray) (sa ba : Option Addr) (sl sc sm bc : Nat) (w : World) :
 CallsIn Fence.wide n Tryd.prog 71 #[.agg #[.int .u8 k, .string nm, .string tx, .slice sa sl sc, .slice ba sm bc]] w fun e' w' => e' = .returned (.func (.func 84) #[] #[.pointer (some ⟨w.heap.size, 0, none⟩)]) ∧ w' = w.alloc (.cells #[.int .u8 k, .string nm, .string tx, .slice sa sl sc, .slice ba sm bc] 34) := by
 refine callsIn_of_wp Tryd.func71 rfl trivial ?_ rfl
 simp only [Tryd.ntmps71, List.size_toArray, List.length_cons, List.length_nil, Nat.reduceAdd, Nat.reduceSub, Array.replicate_succ, Array.replicate_zero, List.push_toArray, List.append_toArray, List.nil_append, List.cons_append]
 gi_wp2
 go_ret
 exact ⟨rfl, rfl⟩
set_option maxHeartbeats 2000000 in
theorem names_all (w0 : World) (n : Nat) (hn : 3 ≤ n) (t : Nd.T) (v : Value) (xs : List (Item w0 100000)) (w : World) (Bt : Nat) (hA : Nd.At w0 t v) (hxs : xs.map (·.1) = Nd.partsV w0 1 t v) (hb : Below w0.heap.size w0 w) (hbox : Bk w Bt 34 v.cells) :
 SeqAll Fence.wide n Tryd.prog 84 #[.pointer (some ⟨Bt, 0, none⟩)] (encN : ItN w0 → Array Value) (KpC w0.heap.size w.heap.size) (fltN xs) xs.length w := by
 intro l J W hW hJ hY h0
 have hB := hb.trans (hW.mono hb.size)
 have hk := hbox.below hW hbox.lt
 have hws := hW.size
 have hst : ∀ (w1 : World) (Bx : Nat), Below w0.heap.size w0 w1 → Bk w1 Bx 34 v.cells → SeqStopsK Fence.wide (n - 1) Tryd.prog 77 #[.pointer (some ⟨Bx, 0, none⟩)] (encI : Item w0 100000 → Array Value) (KpC w0.heap.size w1.heap.size) (fun ys => ys = xs) (fun pre => pre <+: xs) xs.length w1 :=
  fun w1 Bx h1 h2 => parts_gen _ w0 100000 (n - 1) (by omega) t v xs w1 (KpC.ok _ _) Bx hA hxs h1 h2
 obtain ⟨sa, sc, ba, bc, rfl, _⟩ := hA.form
 have cP := fun w1 => parts_in (n - 1) t.kind t.name t.text sa ba t.set.length sc t.subs.length bc w1
 generalize hk1 : t.kind = sk at *
 generalize hk2 : t.name = sn at *
 generalize hk3 : t.text = sx at *
 generalize hk4 : t.set.length = sl at *
 generalize hk5 : t.subs.length = sm at *
 have hky := hk.alloc (.cells #[.func (.yield l) #[] #[]] 51)
 have c0 := hky.cell 0
 have c1 := hky.cell 1
 have c2 := hky.cell 2
 have c3 := hky.cell 3
 have c4 := hky.cell 4
 simp [Value.cells] at c0 c1 c2 c3 c4
 have h1 : 1 ≤ n := by omega
 have h2 : 1 ≤ n - 1 - 1 := by omega
 have hF : Fence.wide.fn 66 := trivial
 refine callsIn_of_wp_marks Tryd.func84 rfl trivial ?_ rfl
 simp only [Tryd.ntmps84, List.size_toArray, List.length_cons, List.length_nil, Nat.reduceAdd, Nat.reduceSub, Array.replicate_succ, Array.replicate_zero, List.push_toArray, List.append_toArray, List.nil_append, List.cons_append]
 gi_wp2_with ((try refine ⟨wide_hdd _, ?_⟩); gi_at_call 66; refine (cP _).mono ?_; clear cP; rintro e w' ⟨rfl, rfl⟩)
 obtain ⟨V, hV⟩ : ∃ V, (W.alloc (.cells #[.func (.yield l) #[] #[]] 51)).alloc (.cells #[.int .u8 sk, .string sn, .string sx, .slice sa sl sc, .slice ba sm bc] 34) = V := ⟨_, rfl⟩
 have vB : Below w0.heap.size w0 V := by rw [← hV]; exact hB.trans ((((Below.refl _ W).alloc (Nat.le_refl _) _).alloc (by simp) _).mono hB.size)
 have vs : V.heap.size = W.heap.size + 2 := by rw [← hV]; simp
 have vy : Bk V W.heap.size 51 #[.func (.yield l) #[] #[]] := by rw [← hV]; exact (Bk.made W _ _).alloc _
 have vk : Bk V (W.heap.size + 1) 34 #[.int .u8 sk, .string sn, .string sx, .slice sa sl sc, .slice ba sm bc] := by
  rw [← hV]
  have := Bk.made (W.alloc (.cells #[.func (.yield l) #[] #[]] 51)) 34 #[.int .u8 sk, .string sn, .string sx, .slice sa sl sc, .slice ba sm bc]
  rwa [World.size_alloc] at this
 have vJ : J (fltN ([] : List (Item w0 100000))) V := by rw [← hV]; exact hJ.alloc _ (hJ.alloc _ h0)
 have hn0 : w0.heap.size ≤ V.heap.size := vB.size
 have hn1 : w0.heap.size ≤ W.heap.size := hB.size
 rw [hV]
 refine wpIn_rangeFunc_ownH rfl h1 (gf := 77) (lb := #[.pointer (some ⟨W.heap.size + 1, 0, none⟩)]) rfl trivial (enters_of Tryd.func77 (by kernel_rfl) rfl)
  (hst V (W.heap.size + 1) vB vk) (fun h k => h.trans k) (fun W l o o' hl h hc hw => KpN.put W l o o' (by omega) h hc) (Below.refl _ _) (fun _ => rfl)
  (fun pre X => J (fltN pre) X ∧ Bk X W.heap.size 51 #[.func (.yield l) #[] #[]] ∧ V.heap.size ≤ X.heap.size)
  (fun _ _ _ => False)
  (fun s X Y row hs hg hr => ⟨hJ _ X Y row hs.1 hg (fun r e => ⟨by have := (hr r e).1; omega, (hr r e).2⟩), hs.2.1.kept hg (fun r e => (hr r e).2), Nat.le_trans hs.2.2 hg.size⟩)
  (fun _ _ _ _ _ hs _ _ => hs)
  ⟨vJ, vy, Nat.le_refl _⟩
  (fun x a' X => ∃ Bx, V.heap.size ≤ Bx ∧ Bk X Bx 34 x.1.2.2.cells ∧ a' = { tmps := #[.func (.yield l) #[] #[], .pointer (some ⟨Bt, 0, none⟩), .pointer (some ⟨W.heap.size, 0, none⟩), undef, .pointer (some ⟨Bx, 0, none⟩), .agg #[.int .u8 sk, .string sn, .string sx, .slice sa sl sc, .slice ba sm bc], .func (.func 77) #[] #[.pointer (some ⟨W.heap.size + 1, 0, none⟩)], .int .i64 x.1.1, x.1.2.2, undef, undef, undef, undef, undef, undef, undef, undef, undef, undef, undef, undef, undef, undef], defers := [] })
  (fun x a' s X Y row hs hg hr => by
   obtain ⟨Bx, h1, h2, h3⟩ := hs
   exact ⟨Bx, h1, h2.kept hg (fun r e => (hr r e).2), h3⟩) ?assign ?body ?done ?stop
 case assign =>
  rintro l' pre x X K ⟨hi, hy, hs⟩ hK
  simp only [encI]
  obtain ⟨sa1, sc1, ba1, bc1, hxv, _⟩ := x.2.1.form
  gi_wp2
  exact hK _ _ ((KeepsOthers.alloc _ _).from _) (KpN.alloc X (by omega) _) ⟨hJ.alloc _ hi, hy.alloc _, by simp; omega⟩ ⟨X.heap.size, hs, by rw [hxv]; exact Bk.made X _ _, by rw [hxv]⟩
 case body =>
  rintro l' pre ⟨⟨lv, tt, vv⟩, hx1, hx2⟩ a' X hl ⟨r, hr⟩ ⟨hi, hy, hs⟩ ⟨Bx, hBx, hbx, rfl⟩ hlt
  dsimp only at hx1 hx2 hbx ⊢
  have hlen := fltN_len pre
  have hyx := hY (fltN pre) ⟨(tt, vv), hx1⟩ X hi (by omega)
  have hsn := fltN_snoc pre ⟨(lv, tt, vv), hx1, hx2⟩
  simp only [Ck.isNm_kind, decide_eq_true_eq] at hsn
  simp only [encN] at hyx
  obtain ⟨NX, hNX⟩ : ∃ z, fltN (pre ++ [⟨(lv, tt, vv), hx1, hx2⟩]) = z := ⟨_, rfl⟩
  obtain ⟨NP, hNP⟩ : ∃ z, fltN pre = z := ⟨_, rfl⟩
  obtain ⟨NY, hNY⟩ : ∃ z, fltN pre ++ [⟨(tt, vv), hx1⟩] = z := ⟨_, rfl⟩
  have hs1 : tt.kind = 5 ∨ tt.kind = 6 → NX = NY := fun h => by rw [← hNX, ← hNY, hsn, dif_pos h]
  have hs2 : ¬ (tt.kind = 5 ∨ tt.kind = 6) → NX = NP := fun h => by rw [← hNX, ← hNP, hsn, dif_neg h, List.append_nil]
  refine wpIn_mono (Q := ownPostG V.heap.size (KpC w0.heap.size V.heap.size) (fun (_ : List Unit) X' => J NX X' ∧ Bk X' W.heap.size 51 #[.func (.yield l) #[] #[]] ∧ V.heap.size ≤ X'.heap.size) (fun _ _ _ => False) [] X) ?_ (fun e a W' h => by
   rw [← hNX] at h
   cases e <;> exact h)
  rw [hNP] at hi
  rw [hNY] at hyx
  clear hsn hNX hNP hNY
  obtain ⟨sa1, sc1, ba1, bc1, rfl, ⟨hkr, _⟩⟩ := hx1.form
  have e0 := hbx.cell 0
  have e1 := hbx.cell 1
  have e2 := hbx.cell 2
  have e3 := hbx.cell 3
  have e4 := hbx.cell 4
  have y0 := hy.cell 0
  simp [Value.cells] at e0 e1 e2 e3 e4 y0
  replace hyx := yield_any (m' := n - 1 - 1 - 1) hyx
  obtain ⟨fn, tmps, assign, body, hyy, hR⟩ := hyx
  replace hR := show RoundIn (Fence.wide.inRound l') _ _ _ _ _ _ _ _ _ from hR
  clear hx1 hx2
  generalize tt.kind = K1 at *
  generalize tt.name = K2 at *
  generalize tt.text = K3 at *
  generalize tt.set.length = K4 at *
  generalize tt.subs.length = K5 at *
  have hfin : ∀ W', J NX W' → KpC w0.heap.size w.heap.size X W' → KeepsFrom W.heap.size X W' → KeepsFrom V.heap.size X W' ∧ KpC w0.heap.size V.heap.size X W' ∧ J NX W' ∧ Bk W' W.heap.size 51 #[.func (.yield l) #[] #[]] ∧ V.heap.size ≤ W'.heap.size := fun W' h1 h2 h3 =>
   ⟨⟨h3.size, fun k o hk => h3.same k o (by omega)⟩, h2.weaken (by omega), h1, h2.2 _ _ _ (by omega) (.inr rfl) hy, by have := h3.size; omega⟩
  have HF := Lib.hid hfin
  by_cases h5 : K1 = 5
  · subst h5
    rw [hs1 (.inl rfl)] at HF ⊢
    gi_wp2_with (refine hR.mono ?_; rintro e W' ⟨rfl, hJ', hkp, hkf⟩)
    exact HF.out _ hJ' hkp hkf
  · by_cases h6 : K1 = 6
    · subst h6
      rw [hs1 (.inr rfl)] at HF ⊢
      gi_wp2_with (refine hR.mono ?_; rintro e W' ⟨rfl, hJ', hkp, hkf⟩)
      exact HF.out _ hJ' hkp hkf
    · have d5 : decide (K1 = 5) = false := decide_eq_false h5
      have d6 : decide (K1 = 6) = false := decide_eq_false h6
      have d7 : (K1 == 5) = false := by rw [beq_eq_false_iff_ne]; exact h5
      have d8 : (K1 == 6) = false := by rw [beq_eq_false_iff_ne]; exact h6
      rw [hs2 (by simp [h5, h6])] at HF ⊢
      gi_wp2
      refine ⟨fun _ h => (by cases h), ?_⟩
      gi_wp2
      exact HF.out _ hi (KpN.refl _ _ _ _) (KeepsFrom.refl _ _)
 case done =>
  rintro D ys X hD rfl ⟨hi, hy, hs⟩ hK
  gi_wp2
  refine ⟨by simp, .inl ⟨_, _, rfl, run_takeDeferred hK, ?_⟩⟩
  exact ⟨_, results_none rfl _ _ _, ⟨_, rfl⟩, hJ.putObj _ hi (by omega) hK rfl⟩
 case stop =>
  rintro D c pre X _ _ h _
  exact h.elim
end Go.Proofs.YtiinkhmgemoamaaDoor
