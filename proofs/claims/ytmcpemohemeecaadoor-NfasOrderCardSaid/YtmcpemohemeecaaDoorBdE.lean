/- The contract of bodies.Ends: a node that lies whole, at most 100000 deep, ends. -/
import Derived.Test.YtmcpemohemeecaaDoorNdV
namespace Go.Proofs.YtmcpemohemeecaaDoor
open Go Go.RowKit Go.Shelf
attribute [local go_sem] Oper.semAt_some
set_option maxRecDepth 100000

def lvls {w : World} {M : Nat} (xs : List (Item w M)) : List (Nat × Nd.T) := xs.map fun x => (x.1.1, x.1.2.1)
theorem lvls_all {w : World} {M : Nat} {t : Nd.T} {v : Value} {xs : List (Item w M)} (h : xs.map (·.1) = Nd.partsV w 1 t v) : lvls xs = Nd.parts 1 t := by
  rw [← Nd.partsV_map w 1 t v, ← h]
  unfold lvls
  simp
theorem lvls_snoc {w : World} {M : Nat} (xs : List (Item w M)) (x : Item w M) : lvls (xs ++ [x]) = lvls xs ++ [(x.1.1, x.1.2.1)] := by unfold lvls; simp
theorem lvls_len {w : World} {M : Nat} (xs : List (Item w M)) : (lvls xs).length = xs.length := by unfold lvls; simp
theorem lvls_top {w : World} {M : Nat} (xs : List (Item w M)) : Nd.top 0 (lvls xs) ≤ M := by
  have key : ∀ (d : Nat) (l : List (Item w M)), d ≤ M → Nd.top d (lvls l) ≤ M := by
    intro d l
    induction l generalizing d with
    | nil => exact id
    | cons x l ih => intro hd; exact ih _ (Nat.max_le.2 ⟨hd, x.2.2⟩)
  exact key 0 xs (Nat.zero_le _)
set_option maxHeartbeats 2000000 in
theorem Ends_in (n : Nat) (hn : 3 ≤ n) (t : Nd.T) (v : Value) (w : World) (hA : Nd.At w t v) (hd : Nd.deep t ≤ 100000) (_hc : Nd.count t ≤ 1099511627776) :
    CallsIn Fence.wide n Tryd.prog 57 #[v] w fun e w' => e = .returned (.bool true) ∧ Below w.heap.size w w' := by
  obtain ⟨xs, hxs⟩ := items w 100000 t v hA hd
  have hall := lvls_all hxs
  have hlen : xs.length = Nd.count t := by rw [← lvls_len, hall, Nd.parts_len]
  have hst : ∀ (w1 : World) (Bt : Nat), Below w.heap.size w w1 → Bk w1 Bt 34 v.cells → SeqStopsK Fence.wide (n - 1) Tryd.prog 77 #[.pointer (some ⟨Bt, 0, none⟩)] (encI : Item w 100000 → Array Value) (KpB w.heap.size w1.heap.size) (fun ys => ys = xs) (fun pre => pre <+: xs) xs.length w1 :=
    fun w1 Bt hb hbox => parts_stops w 100000 (n - 1) (by omega) t v xs w1 Bt hA hxs hb hbox
  obtain ⟨sa, sc, ba, bc, rfl, _⟩ := hA.form
  have cP := fun w1 => parts_in (n - 1) t.kind t.name t.text sa ba t.set.length sc t.subs.length bc w1
  generalize hk1 : t.kind = sk at *
  generalize hk2 : t.name = sn at *
  generalize hk3 : t.text = sx at *
  generalize hk4 : t.set.length = sl at *
  generalize hk5 : t.subs.length = sm at *
  have h1 : 1 ≤ n := by omega
  have h2 : 1 ≤ n - 1 - 1 := by omega
  have hF : Fence.wide.fn 66 := trivial
  refine callsIn_of_wp_marks Tryd.func57 rfl trivial ?_ rfl
  simp only [Tryd.ntmps57, List.size_toArray, List.length_cons, List.length_nil, Nat.reduceAdd, Nat.reduceSub, Array.replicate_succ, Array.replicate_zero, List.push_toArray, List.append_toArray, List.nil_append, List.cons_append]
  gi_wp2_with ((try refine ⟨wide_hdd _, ?_⟩); gi_at_call 66; refine (cP _).mono ?_; clear cP; rintro e w' ⟨rfl, rfl⟩)
  have hz0 : ∀ o : Obj, Below w.heap.size w (w.alloc o) := fun o => (Below.refl _ w).alloc (Nat.le_refl _) o
  obtain ⟨W1, hW1⟩ : ∃ W1, ((w.alloc (.cells #[.int .u8 sk, .string sn, .string sx, .slice sa sl sc, .slice ba sm bc] 34)).alloc (.cells #[.bool false] 4)).alloc (.cells #[.int .u8 sk, .string sn, .string sx, .slice sa sl sc, .slice ba sm bc] 34) = W1 := ⟨_, rfl⟩
  have hB1 : Below w.heap.size w W1 := by rw [← hW1]; exact ((hz0 _).alloc (by simp) _).alloc (by simp; omega) _
  have hs1 : W1.heap.size = w.heap.size + 3 := by rw [← hW1]; simp
  have hk1 : Bk W1 (w.heap.size + 1) 4 #[.bool false] := by
    have := (Bk.made (w.alloc (.cells #[.int .u8 sk, .string sn, .string sx, .slice sa sl sc, .slice ba sm bc] 34)) 4 #[.bool false]).alloc (.cells #[.int .u8 sk, .string sn, .string sx, .slice sa sl sc, .slice ba sm bc] 34)
    rw [hW1] at this
    simpa using this
  have hk3 : Bk W1 (w.heap.size + 2) 34 #[.int .u8 sk, .string sn, .string sx, .slice sa sl sc, .slice ba sm bc] := by
    have := Bk.made ((w.alloc (.cells #[.int .u8 sk, .string sn, .string sx, .slice sa sl sc, .slice ba sm bc] 34)).alloc (.cells #[.bool false] 4)) 34 #[.int .u8 sk, .string sn, .string sx, .slice sa sl sc, .slice ba sm bc]
    rw [hW1] at this
    simpa using this
  rw [hW1]
  clear hW1 hz0
  refine wpIn_rangeFunc_ownF rfl h1 (gf := 77) (lb := #[.pointer (some ⟨w.heap.size + 1 + 1, 0, none⟩)]) rfl trivial (enters_of Tryd.func77 (by kernel_rfl) rfl)
    (hst W1 (w.heap.size + 1 + 1) hB1 hk3) (fun h k => h.trans k) (fun W l o o' hl h hc hw => KpB.put (by omega) W l o o' hl h hc hw) (Below.refl _ _) (fun _ => rfl)
    (fun pre W => Bk W (w.heap.size + 1) 4 #[.bool false] ∧ Below w.heap.size w W)
    (fun _ _ _ => False)
    (OwnFrom.and (Own.from (fun s A B row hs hg hr => hs.kept hg hr) _) (ownFrom_below (Nat.le_refl _) (by omega)))
    (fun _ _ _ _ _ hs _ _ => hs)
    ⟨hk1, hB1⟩
    (fun x => { tmps := #[.agg #[.int .u8 sk, .string sn, .string sx, .slice sa sl sc, .slice ba sm bc], .pointer (some ⟨w.heap.size, 0, none⟩), .pointer (some ⟨w.heap.size + 1, 0, none⟩), .int .i64 x.1.1, .agg #[.int .u8 sk, .string sn, .string sx, .slice sa sl sc, .slice ba sm bc], .func (.func 77) #[] #[.pointer (some ⟨w.heap.size + 1 + 1, 0, none⟩)], .int .i64 x.1.1, x.1.2.2, undef, undef], defers := [] }) ?assign ?body ?done ?stop
  case assign =>
    intro l x W K hK
    simp only [encI]
    gi_wp2
    exact hK
  case body =>
    rintro l pre ⟨⟨lv, tt, vv⟩, hx1, hx2⟩ W ⟨hc1, hB⟩ hlt
    dsimp only at hx1 hx2 ⊢
    obtain ⟨L, hL⟩ : ∃ P : Int, (lv : Int) = P := ⟨_, rfl⟩
    rw [hL]
    have d0 : decide (131072 < L) = false := by rw [decide_eq_false_iff_not]; omega
    have d1 : ¬ 131072 < L := by omega
    have c1 := hc1.cell 0
    have f1 := hc1.free 0
    simp at c1
    clear hlt hL
    gi_wp2
    exact ⟨KeepsOthers.refl _, KpB.refl _ _ _, hc1, hB⟩
  case done =>
    rintro D ys W hD rfl ⟨hc1, hB⟩ hK
    have c1 := hc1.cell 0
    have f1 := hc1.free 0
    simp at c1
    gi_wp2
    have hk1' : Bk (W.setCell ⟨w.heap.size + 1, 0, none⟩ (.bool true)) (w.heap.size + 1) 4 _ := hc1.set 0 (.bool true)
    have hK2 : (W.setCell ⟨w.heap.size + 1, 0, none⟩ (.bool true)).heap[D]? = some (.deferred (some [])) := (KeepsOthers.setCell W ⟨w.heap.size + 1, 0, none⟩ (.bool true)).same D _ hK rfl
    have hB2 : Below w.heap.size w (W.setCell ⟨w.heap.size + 1, 0, none⟩ (.bool true)) := hB.setCell (by simp) _
    have hD2 : w.heap.size ≤ D := by omega
    refine ⟨by simp, .inl ⟨_, _, rfl, run_takeDeferred hK2, ?_⟩⟩
    have g1 := (hk1'.kept (grownBy_putObj' _ D (.deferred none)) (fun r e => by cases e; exact ⟨_, hK2, rfl⟩)).cell 0
    simp at g1
    refine ⟨.bool true, ?_, rfl, hB2.trans (belowK_b (w := w) (Nat.le_refl _) _ D _ _ hD2 hK2 rfl rfl)⟩
    simp [results, Tryd.results57, go_sem, g1]
  case stop =>
    rintro D c pre W _ _ h _
    exact h.elim
theorem Ends_any (t : Nd.T) (v : Value) (w : World) (hA : Nd.At w t v) (hd : Nd.deep t ≤ 100000) (hc : Nd.count t ≤ 1099511627776) :
    Calls Tryd.prog 57 #[v] w fun e w' => e = .returned (.bool true) ∧ Below w.heap.size w w' := callsIn_wide.1 (Ends_in 3 (by omega) t v w hA hd hc)
end Go.Proofs.YtmcpemohemeecaaDoor
