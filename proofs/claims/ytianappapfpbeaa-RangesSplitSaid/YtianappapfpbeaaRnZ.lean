/- The law's book: pages of lists of ranges; its Ranges, number, Apart. -/
import Derived.Test.YtianappapfpbeaaRnY
namespace Go.Proofs.Ytianappapfpbeaa
open Go Go.RowKit Rn
set_option maxRecDepth 100000

set_option maxHeartbeats 1000000 in
theorem LeftRn_any (l : List (Int × Int)) (vt v : Value) (B : Nat) (w : World) (hT : TwV w B vt l) (hR : RL w v l) (hl : l.length ≤ 1000000) :
    Calls Try.prog 16 #[vt, v] w fun e w' => e = .returned (.bool true) ∧ Below w.heap.size w w' := by
  have hC := Lib.hid (leftRn_any l vt v B w hT hR hl)
  obtain ⟨a, c, rfl, _, _⟩ := hR
  obtain ⟨a1, c1, rfl, _, _⟩ := hT.hld.rl
  generalize l.length = N at *
  clear hT
  go_enter Try.func16, Try.ntmps16
  go_wp2_with (go_at_call 36; refine hC.out.mono ?_; rintro e w' ⟨rfl, hb⟩)
  go_ret
  exact ⟨rfl, hb⟩
theorem infoPage : (Try.prog.info? 58).map (fun i => (i.zero, i.size, i.bytes)) = some (some .nilIface, 1, 16) := by kernel_rfl
namespace Rn
def rowV (n : Int) (v : Value) : Value := .agg #[v, .int .i32 n, .int .i32 0, .int .i32 0, .int .i32 n]
def pageV (n : Nat) (v : Value) : Value := .iface 55 (rowV n v)
def pgs : Nat → List Value → List Value
  | _, [] => []
  | n, v :: r => pageV n v :: pgs (n + 1) r
theorem pgs_len : ∀ (n : Nat) (vs : List Value), (pgs n vs).length = vs.length
  | _, [] => rfl
  | n, v :: r => by simp [pgs, pgs_len (n + 1) r]
theorem pgs_snoc : ∀ (n : Nat) (a : List Value) (v : Value), pgs n (a ++ [v]) = pgs n a ++ [pageV (n + a.length) v]
  | n, [], v => by simp [pgs]
  | n, x :: a, v => by
    have := pgs_snoc (n + 1) a v
    simp only [List.cons_append, pgs, this, List.length_cons]
    rw [show n + 1 + a.length = n + (a.length + 1) by omega]
theorem pgs_get : ∀ (n : Nat) (vs : List Value) (i : Nat) (v : Value), vs[i]? = some v → (pgs n vs)[i]? = some (pageV (n + i) v)
  | n, [], i, v, h => by simp at h
  | n, x :: r, 0, v, h => by simp at h; subst h; rfl
  | n, x :: r, i + 1, v, h => by
    have := pgs_get (n + 1) r i v (by simpa using h)
    simp only [pgs, List.getElem?_cons_succ, this]
    rw [show n + 1 + i = n + (i + 1) by omega]
/-- A book of the pages vs at bk; all that it has lies from bk on. -/
def BkS (w : World) (bk : Nat) (vs : List Value) : Prop := ∃ vp, Bk w bk 31 #[vp] ∧ w.ownsRow (bk + 1) 58 1 vp vs.length (pgs 1 vs)
theorem BkS.below {w w' : World} {bk : Nat} {vs : List Value} (h : BkS w bk vs) (hb : Below w.heap.size w w') : BkS w' bk vs := by
  obtain ⟨vp, h1, h2⟩ := h
  exact ⟨vp, h1.below hb h1.lt, own_below h2 hb⟩
theorem BkS.grown {w w' : World} {bk : Nat} {vs : List Value} {row : Option Nat} (h : BkS w bk vs) (hg : w.grownBy w' row) (hr : ∀ k, row = some k → k < bk) : BkS w' bk vs := by
  obtain ⟨vp, h1, h2⟩ := h
  refine ⟨vp, h1.grown hg (fun e => by have := hr bk e.symm; omega), h2.kept hg ?_⟩
  cases hv : vp.ownBlock with
  | none => exact .inl rfl
  | some k =>
    refine .inr fun e => ?_
    have h3 := (h2.lt k hv).1
    have := hr k e.symm
    omega
theorem BkS.lt {w : World} {bk : Nat} {vs : List Value} (h : BkS w bk vs) : bk < w.heap.size := by
  obtain ⟨vp, h1, _⟩ := h
  exact h1.lt
theorem BkS.start (w : World) : BkS (w.alloc (.cells #[.slice none 0 0] 31)) w.heap.size [] := ⟨_, Bk.made _ _ _, World.ownsRow_nil _ _ _ _⟩
/-- What is read at the book. -/
theorem BkS.read {w : World} {bk : Nat} {vs : List Value} (h : BkS w bk vs) : ∃ A c, (w.cell? ⟨bk, 0, none⟩ = some (.slice A vs.length c) ∧ w.frozen? ⟨bk, 0, none⟩ = false) ∧ ∀ i v, vs[i]? = some v → ∃ g, A = some ⟨g, 0, none⟩ ∧ w.cell? ⟨g, i, none⟩ = some (pageV (i + 1) v) := by
  obtain ⟨vp, h1, h2⟩ := h
  have h3 := h1.cell 0
  simp at h3
  rcases h2.2 with ⟨h4, h5⟩ | ⟨g, cap, cur, h4, h5, h6, _⟩
  · refine ⟨none, 0, ⟨by rw [h3, h4, h5], h1.free 0⟩, fun i v hi => ?_⟩
    have := (List.getElem?_eq_some_iff.1 hi).1
    omega
  · refine ⟨_, cap, ⟨by rw [h3, h4], h1.free 0⟩, fun i v hi => ⟨g, rfl, ?_⟩⟩
    have hlt := (List.getElem?_eq_some_iff.1 hi).1
    subst h4
    rw [h2.cellAt i (by omega), pgs_get 1 vs i v hi, Nat.add_comm]
end Rn
set_option maxHeartbeats 1000000 in
theorem numberRn_any (bk : Nat) (vs : List Value) (w : World) (h : BkS w bk vs) (hn : vs.length ≤ 1000) :
    Calls Try.prog 34 #[.pointer (some ⟨bk, 0, none⟩)] w fun e w' => e = .returned (.int .i64 ((vs.length : Int) + 1)) ∧ w' = w := by
  obtain ⟨A, c, ⟨h1, _⟩, _⟩ := h.read
  generalize vs.length = N at *
  have e1 : IntKind.i64.wrap ((N : Int) + 1) = (N : Int) + 1 := by simp [IntKind.wrap, IntKind.bits, IntKind.signed]; omega
  clear h
  go_enter Try.func34, Try.ntmps34
  go_wp2_with fail
  go_ret
  exact ⟨rfl, rfl⟩
set_option maxHeartbeats 4000000 in
theorem RangesRn_any (bk : Nat) (vs : List Value) (A : Option Addr) (n c : Nat) (w : World) (h : BkS w bk vs) (hn : vs.length ≤ 1000) :
    Calls Try.prog 14 #[.pointer (some ⟨bk, 0, none⟩), .slice A n c] w fun e w' => e = .returned (.tuple #[]) ∧ BkS w' bk (vs ++ [.slice A n c]) ∧ Below bk w w' := by
  obtain ⟨i0, hi, hz0, hz1, hz2⟩ := info_partsRn infoPage
  have hNum := Lib.hid (numberRn_any bk vs w h hn)
  have hlt := h.lt
  obtain ⟨AP, cP, ⟨h1, h2⟩, _⟩ := h.read
  have hrow : w.ownsRow (bk + 1) 58 1 (.slice AP vs.length cP) vs.length (pgs 1 vs) := by
    obtain ⟨vp, k1, k2⟩ := h
    have k3 := k1.cell 0
    rw [h1] at k3
    simp at k3
    rw [k3]
    exact k2
  have hbk : Hid (Bk w bk 31 #[.slice AP vs.length cP]) := Lib.hid (by
    obtain ⟨vp, k1, k2⟩ := h
    have k3 := k1.cell 0
    rw [h1] at k3
    simp at k3
    rw [k3]
    exact k1)
  have HSn := Lib.hid (show ∀ (w' : World) (v' : Value), Bk w' bk 31 #[v'] → w'.ownsRow (bk + 1) 58 1 v' (vs.length + 1) (pgs 1 vs ++ [pageV (vs.length + 1) (.slice A n c)]) → BkS w' bk (vs ++ [.slice A n c]) from fun w' v' k1 k2 => ⟨v', k1, by rw [List.length_append, pgs_snoc, Nat.add_comm 1]; exact k2⟩)
  have cn := cells_newRn w [pageV (vs.length + 1) (.slice A n c)] 58
  have HCN := Lib.hid cn
  clear cn h
  generalize hM : vs.length = M at *
  obtain ⟨PG, hPG⟩ : ∃ x, pgs 1 vs = x := ⟨_, rfl⟩
  rw [hPG] at hrow HSn
  have e2 : wrap32 ((M : Int) + 1) = (M : Int) + 1 := wrap_id (by omega)
  have hpv : pageV (M + 1) (.slice A n c) = .iface 55 (.agg #[.slice A n c, .int .i32 ((M : Int) + 1), .int .i32 0, .int .i32 0, .int .i32 ((M : Int) + 1)]) := rfl
  rw [hpv] at HSn HCN
  clear hpv hM hPG
  have ha : ∀ o, (w.alloc o).cell? ⟨bk, 0, none⟩ = some (.slice AP M cP) := fun o => Nd.cell_keeps ((Below.refl _ w).alloc (Nat.le_refl _) o) h1
  go_enter Try.func14, Try.ntmps14
  go_wp2_with (first
    | (go_at_call 34; refine hNum.out.mono ?_; rintro e w2 ⟨rfl, hww⟩; replace hww := hww.symm; subst hww)
    | (at_builtin; refine wpList_append_own _ rfl _ _ 29 rfl (bk + 1) 58 i0 .nilIface 1 16 Try.underlying29 hi hz0 hz1 hz2 rfl (by decide) _ _ _ rfl (hrow.alloc _) ⟨w.heap.size, 0, none⟩ 1 1 [.iface 55 (.agg #[.slice A n c, .int .i32 ((M : Int) + 1), .int .i32 0, .int .i32 0, .int .i32 ((M : Int) + 1)])] rfl rfl HCN.out (fun x hx => by simp at hx; subst hx; rfl) (by unfold maxLen; omega) (by omega) (by simp; omega) ?_; intro v' w3 hown3 hg3 _; obtain ⟨g3, cap3, hv3⟩ : ∃ g cap, v' = .slice (some ⟨g, 0, none⟩) (M + 1) cap := (by
          rcases hown3.2 with ⟨_, k2⟩ | ⟨g, cap, _, k2, _⟩
          · omega
          · exact ⟨g, cap, k2⟩); subst hv3; have hk3 := (hbk.out.alloc (.cells #[.iface 55 (.agg #[.slice A n c, .int .i32 ((M : Int) + 1), .int .i32 0, .int .i32 0, .int .i32 ((M : Int) + 1)])] 58)).grown hg3 (fun e => by have := (hrow.lt _ e.symm).1; omega); have q0 := hk3.cell 0; have q1 := hk3.free 0; simp at q0; have HOW := Lib.hid hown3; have HK3 := Lib.hid hk3; have HBL := Lib.hid (show Below bk w w3 from ((Below.refl bk w).alloc (Nat.le_of_lt hlt) _).grown hg3 (by simp; omega) (fun k hk => by have := (hrow.lt k hk).1; omega)); clear hown3 hk3 hg3))
  go_end0
  refine ⟨rfl, HSn.out _ (.slice (some ⟨g3, 0, none⟩) (M + 1) cap3) ?_ ?_, HBL.out.setCell (Nat.le_refl _) _⟩
  · have := HK3.out.set 0 (.slice (some ⟨g3, 0, none⟩) (M + 1) cap3)
    simpa using this
  · exact ownsRow_setCell_below HOW.out (by simp) _
namespace Rn
/-- A page's list, so far marked: 1: its ranges are; 2: and what stands behind them. -/
def PS (w : World) (num : Int) (v : Value) (ph : Nat) : Prop := v = .slice none 0 0 ∨ ∃ g n cap cur, v = .slice (some ⟨g, 0, none⟩) n cap ∧ n ≤ cap ∧ cap ≤ maxLen ∧ w.heap[g]? = some (.cells cur 42 (0, 0)) ∧ cap * 2 ≤ cur.size ∧
  (1 ≤ ph → ∀ j, j < n → cur[j * 2]? = some (.int .i32 num) ∧ cur[j * 2 + 1]? = some (.int .i32 0)) ∧ (2 ≤ ph → ∀ j, n ≤ j → j < cap → cur[j * 2]? = some (.int .i32 0) ∧ cur[j * 2 + 1]? = some (.int .i32 num))
theorem PS.kept {w w' : World} {num : Int} {v : Value} {ph : Nat} {row : Option Nat} (h : PS w num v ph) (hg : w.grownBy w' row) (hr : ∀ k, v.ownBlock = some k → row ≠ some k) : PS w' num v ph := by
  rcases h with h | ⟨g, n, cap, cur, h1, h2, h3, h4, h5⟩
  · exact .inl h
  · refine .inr ⟨g, n, cap, cur, h1, h2, h3, ?_, h5⟩
    rw [hg.block g (Array.getElem?_eq_some_iff.1 h4).1 (fun e => hr g (by rw [h1]; rfl) e.symm)]
    exact h4
theorem PS.of_hld {w : World} {B : Nat} {v : Value} {l : List (Int × Int)} (h : Hld w B v l) (num : Int) : PS w num v 0 := by
  rcases h with ⟨h, _⟩ | ⟨g, cap, cur, h1, h2, h3, h4, h5, h6, h7⟩
  · exact .inl h
  · exact .inr ⟨g, _, cap, cur, h1, h4, h7, h3, h5, fun h => by omega, fun h => by omega⟩
theorem heap_set {w : World} {g : Nat} {cur : Array Value} {t : TypeId} (h : w.heap[g]? = some (.cells cur t (0, 0))) (i : Nat) (v : Value) : (w.setCell ⟨g, i, none⟩ v).heap[g]? = some (.cells (cur.setIfInBounds i v) t (0, 0)) := (show Bk w g t cur from h).set i v
theorem set_two {cur : Array Value} {j : Nat} {x y : Value} (hj : (j + 1) * 2 ≤ cur.size) : ((cur.setIfInBounds (j * 2) x).setIfInBounds (j * 2 + 1) y).size = cur.size ∧ ((cur.setIfInBounds (j * 2) x).setIfInBounds (j * 2 + 1) y)[j * 2]? = some x ∧ ((cur.setIfInBounds (j * 2) x).setIfInBounds (j * 2 + 1) y)[j * 2 + 1]? = some y ∧
    ∀ i, i ≠ j * 2 → i ≠ j * 2 + 1 → ((cur.setIfInBounds (j * 2) x).setIfInBounds (j * 2 + 1) y)[i]? = cur[i]? := by
  refine ⟨by simp, ?_, ?_, fun i h1 h2 => ?_⟩
  · rw [Array.getElem?_setIfInBounds_ne (by omega), Array.getElem?_setIfInBounds_self_of_lt (by omega)]
  · rw [Array.getElem?_setIfInBounds_self_of_lt (by simp; omega)]
  · rw [Array.getElem?_setIfInBounds_ne (by omega), Array.getElem?_setIfInBounds_ne (by omega)]
end Rn
end Go.Proofs.Ytianappapfpbeaa
