/- The contracts of nodes.list at ranges and at nodes; of strings.Clone. -/
import Derived.Test.YthfkodimafmmgaaDoorNdU
import Derived.Test.YthfkodimafmmgaaDoorNuK
import Derived.Test.YthfkodimafmmgaaDoorNdH
import Derived.Test.YthfkodimafmmgaaDoorShelf
import Derived.Laws.AppendOwn
import Derived.OwnWalk
import Derived.Lib.BufferMore
import Derived.Laws.MakeOwn
namespace Go.Proofs.YthfkodimafmmgaaDoor
open Go Go.RowKit
set_option maxRecDepth 100000

namespace Nd
def cellsR (st : List (Int × Int)) : List Value := st.flatMap fun p => [.int .i32 p.1, .int .i32 p.2]
theorem cellsR_cons (p : Int × Int) (st : List (Int × Int)) : cellsR (p :: st) = .int .i32 p.1 :: .int .i32 p.2 :: cellsR st := by simp [cellsR, List.flatMap_cons]
theorem cellsR_len : ∀ st : List (Int × Int), (cellsR st).length = st.length * 2
  | [] => rfl
  | p :: st => by rw [cellsR_cons]; simp [cellsR_len st]; omega
theorem cellsR_one : ∀ (st : List (Int × Int)), ∀ u ∈ cellsR st, u.oneCell' = true
  | [], u, h => by simp [cellsR] at h
  | p :: st, u, h => by
    rw [cellsR_cons] at h
    rcases List.mem_cons.1 h with rfl | h
    · rfl
    rcases List.mem_cons.1 h with rfl | h
    · rfl
    exact cellsR_one st u h
theorem RgAt.cells {w : World} {b : Nat} : ∀ (st : List (Int × Int)) (o : Nat), RgAt w st (some ⟨b, o, none⟩) → ∀ j u, (cellsR st)[j]? = some u → w.cell? ⟨b, o + j, none⟩ = some u
  | [], _, _, j, u, h => by simp [cellsR] at h
  | p :: st, o, ⟨b', o', ha, h0, h1, hr⟩, j, u, h => by
    injection ha with ha
    injection ha with e1 e2
    subst e1 e2
    rw [cellsR_cons] at h
    match j, h with
    | 0, h => simp at h; subst h; exact h0
    | 1, h => simp at h; subst h; exact h1
    | j + 2, h =>
      have := RgAt.cells st (o + 2) hr j u (by simpa using h)
      rw [show o + (j + 2) = o + 2 + j by omega]
      exact this
theorem cellsR_at : ∀ (st : List (Int × Int)) (i : Nat) (p : Int × Int), st[i]? = some p → (cellsR st)[i * 2]? = some (.int .i32 p.1) ∧ (cellsR st)[i * 2 + 1]? = some (.int .i32 p.2)
  | [], i, p, h => by simp at h
  | q :: st, 0, p, h => by simp at h; subst h; rw [cellsR_cons]; exact ⟨rfl, rfl⟩
  | q :: st, i + 1, p, h => by
    have := cellsR_at st i p (by simpa using h)
    rw [cellsR_cons, show (i + 1) * 2 = i * 2 + 1 + 1 by omega, show i * 2 + 1 + 1 + 1 = (i * 2 + 1) + 1 + 1 by omega]
    simpa using this
def cellsN (w : World) (b : Nat) : List T → Nat → List Value
  | [], _ => []
  | _ :: r, o => cellD w b o :: cellD w b (o + 1) :: cellD w b (o + 2) :: cellD w b (o + 3) :: cellD w b (o + 4) :: cellsN w b r (o + 5)
theorem cellsN_len (w : World) (b : Nat) : ∀ (r : List T) (o : Nat), (cellsN w b r o).length = r.length * 5
  | [], _ => rfl
  | t :: r, o => by simp only [cellsN, List.length_cons, cellsN_len w b r (o + 5)]; omega
theorem cellD_of {w : World} {b o : Nat} {v : Value} (h : w.cell? ⟨b, o, none⟩ = some v) : cellD w b o = v := by simp [cellD, h]
theorem AtL.cells {w : World} {b : Nat} : ∀ (r : List T) (o : Nat), AtL w r (some ⟨b, o, none⟩) → ∀ j u, (cellsN w b r o)[j]? = some u → w.cell? ⟨b, o + j, none⟩ = some u ∧ u.oneCell' = true
  | [], _, _, j, u, h => by simp [cellsN] at h
  | t :: r, o, hA, j, u, h => by
    unfold AtL at hA
    obtain ⟨b', o', v0, v1, v2, v3, v4, ha, h0, h1, h2, h3, h4, h5, h6⟩ := hA
    injection ha with ha
    injection ha with e1 e2
    subst e1 e2
    simp only [cellsN, cellD_of h0, cellD_of h1, cellD_of h2, cellD_of h3, cellD_of h4] at h
    obtain ⟨sa, sc, ba, bc, rfl, rfl, rfl, rfl, rfl⟩ := h5.five
    match j, h with
    | 0, h => simp at h; subst h; exact ⟨h0, rfl⟩
    | 1, h => simp at h; subst h; exact ⟨h1, rfl⟩
    | 2, h => simp at h; subst h; exact ⟨h2, rfl⟩
    | 3, h => simp at h; subst h; exact ⟨h3, rfl⟩
    | 4, h => simp at h; subst h; exact ⟨h4, rfl⟩
    | j + 5, h =>
      have := AtL.cells r (o + 5) h6 j u (by simpa using h)
      rw [show o + (j + 5) = o + 5 + j by omega]
      exact this
theorem cellsN_at (w : World) (b : Nat) : ∀ (r : List T) (o i : Nat) (t : T), r[i]? = some t → (cellsN w b r o)[i * 5]? = some (cellD w b (o + i * 5)) ∧ (cellsN w b r o)[i * 5 + 1]? = some (cellD w b (o + i * 5 + 1)) ∧ (cellsN w b r o)[i * 5 + 2]? = some (cellD w b (o + i * 5 + 2)) ∧ (cellsN w b r o)[i * 5 + 3]? = some (cellD w b (o + i * 5 + 3)) ∧ (cellsN w b r o)[i * 5 + 4]? = some (cellD w b (o + i * 5 + 4))
  | [], _, i, t, h => by simp at h
  | q :: r, o, 0, t, h => by simp [cellsN]
  | q :: r, o, i + 1, t, h => by
    have := cellsN_at w b r (o + 5) i t (by simpa using h)
    rw [show o + (i + 1) * 5 = o + 5 + i * 5 by omega, show (i + 1) * 5 = i * 5 + 5 by omega]
    simp only [cellsN]
    simpa using this
end Nd
theorem Tryd.infoRange : (Tryd.prog.info? 54).map (fun i => (i.zero, i.size, i.bytes)) = some (some (.agg #[.int .i32 0, .int .i32 0]), 2, 8) := by kernel_rfl
theorem Tryd.infoNode : (Tryd.prog.info? 26).map (fun i => (i.zero, i.size, i.bytes)) = some (some (.agg #[.int .u8 0, .string ⟨#[]⟩, .string ⟨#[]⟩, .slice none 0 0, .slice none 0 0]), 5, 88) := by kernel_rfl
theorem add_pl (b o j : Nat) : (⟨b, o, none⟩ : Addr).add j = ⟨b, o + j, none⟩ := by
  unfold Addr.add
  split <;> simp_all
set_option maxHeartbeats 400000 in
theorem NClone_any (s : ByteArray) (w : World) (hs : s.size ≤ 140737488351232) :
    Calls Tryd.prog 44 #[.string s] w fun e w' => e = .returned (.string s) ∧ Below w.heap.size w w' := by
  have C := Lib.hid (Tryd.stringslite_Clone s w (by omega))
  go_enter Tryd.func44, Tryd.ntmps44
  go_wp2_with fail
  refine C.out.mono ?_
  rintro e w' ⟨rfl, hb⟩
  go_wp2_with fail
  go_ret
  exact ⟨rfl, hb⟩
theorem made_below {w w1 : World} (hg : w.grownBy w1 none) : Below w.heap.size w w1 := (Below.refl _ w).grown hg (Nat.le_refl _) (fun k e => by cases e)
theorem news_below {w w1 : World} {ad : Addr} {CS : List Value} (h : ∀ j u, CS[j]? = some u → w.cell? (ad.add j) = some u) (hb : Below w.heap.size w w1) : ∀ j u, CS[j]? = some u → w1.cell? (ad.add j) = some u := fun j u hj => by
  have h1 := h j u hj
  rw [hb.cell (World.block_lt_of_cell? _ _ h1)]
  exact h1
theorem row_out {w w2 : World} {e : TypeId} {size N g0 : Nat} {v2 : Value} {CS : List Value} (h : w2.ownsRow w.heap.size e size v2 (0 + N) ([] ++ CS)) (hn : v2 = .slice none 0 0 ↔ Value.slice (some ⟨g0, 0, none⟩) 0 N = .slice none 0 0 ∧ N = 0) (hb : Below w.heap.size w w2) :
    ∃ g cap cur, v2 = .slice (some ⟨g, 0, none⟩) N cap ∧ w.heap.size ≤ g ∧ Bk w2 g e cur ∧ N ≤ cap ∧ cur.toList.take (N * size) = CS ∧ Below w.heap.size w w2 := by
  rw [Nat.zero_add, List.nil_append] at h
  rcases h.2 with ⟨h1, _⟩ | ⟨g, cap, cur, h1, h2, h3, h4, _, _, h5⟩
  · have := (hn.1 h1).1
    cases this
  · exact ⟨g, cap, cur, h1, h2, h3, h4, h5, hb⟩
set_option maxHeartbeats 1000000 in
theorem listR_any (st : List (Int × Int)) (a : Option Addr) (cap : Nat) (w : World) (hst : st.length ≤ 1099511627) (hR : Nd.RgAt w st a) :
    Calls Tryd.prog 45 #[.slice a st.length cap] w fun e w' => ∃ a' cap', e = .returned (.slice a' st.length cap') ∧ st.length ≤ cap' ∧ Nd.RgF w.heap.size w' st a' ∧ Below w.heap.size w w' := by
  obtain ⟨i0, hi, hz0, hz1, hz2⟩ := info_parts Tryd.infoRange
  cases a with
  | none =>
    have hnil : st = [] := by
      cases st with
      | nil => rfl
      | cons p r => obtain ⟨b, o, ha, _⟩ := hR; cases ha
    subst hnil
    have hn : ∀ W, (binOp .eql 23 (.slice none 0 cap) (.slice none 0 0)).run Tryd.prog W = .ok (.bool true) W := fun W => Lib.run_eql_slice_nil_nil W _ _ Tryd.underlying23
    simp only [List.length_nil]
    go_enter Tryd.func45, Tryd.ntmps45
    go_wp2_with fail
    go_ret
    exact ⟨none, 0, rfl, Nat.le_refl _, trivial, Below.refl _ _⟩
  | some ad =>
    have hcl := Nd.cellsR_len st
    have hnews : ∀ j u, (Nd.cellsR st)[j]? = some u → w.cell? (ad.add j) = some u := by
      intro j u hj
      cases st with
      | nil => simp [Nd.cellsR] at hj
      | cons p r =>
        obtain ⟨b, o, ha, _⟩ := id hR
        injection ha with ha
        subst ha
        rw [add_pl]
        exact Nd.RgAt.cells _ _ hR j u hj
    have hone := Nd.cellsR_one st
    obtain ⟨CS, hCS⟩ : ∃ x, Nd.cellsR st = x := ⟨_, rfl⟩
    have HCS := Lib.hid hCS
    rw [hCS] at hcl hnews hone
    obtain ⟨N, hN⟩ : ∃ N, st.length = N := ⟨_, rfl⟩
    have HN := Lib.hid hN
    rw [hN] at hst hcl ⊢
    have hnil : ∀ W, (binOp .eql 23 (.slice (some ad) N cap) (.slice none 0 0)).run Tryd.prog W = .ok (.bool false) W := fun W => Lib.run_eql_slice_some_nil W _ _ _ Tryd.underlying23
    replace hnews := Lib.hid hnews
    replace hone := Lib.hid hone
    replace hcl := Lib.hid hcl
    clear hR hCS hN
    go_enter Tryd.func45, Tryd.ntmps45
    go_wp2_with (first
      | (at_make; refine wpList_make_own _ rfl _ _ 23 rfl w.heap.size 54 i0 (.agg #[.int .i32 0, .int .i32 0]) 2 Tryd.underlying23 hi hz0 hz1 .i64 .i64 _ N rfl rfl rfl (by rw [hz2]; omega) (by unfold maxLen; omega) (Nat.le_refl _) ?_; intro w1 hown1 hg1; have HB1 := Lib.hid (made_below hg1); have hs1 := HB1.out.size; have hnw := Lib.hid (news_below hnews.out HB1.out))
      | (at_builtin; refine wpList_append_own _ rfl _ _ 23 rfl w.heap.size 54 i0 (.agg #[.int .i32 0, .int .i32 0]) 2 8 Tryd.underlying23 hi hz0 hz1 hz2 rfl (by decide) _ _ _ rfl hown1 ad N cap CS rfl hcl.out hnw.out hone.out (by unfold maxLen; omega) (by omega) hs1 ?_; intro v2 w2 hown2 hg2 hn2))
    go_ret
    obtain ⟨g, cap2, cur, rfl, hg, hbk, hNc, htk, hb2⟩ := row_out hown2 hn2 (HB1.out.grown hg2 hs1 (fun k e => by cases e; exact Nat.le_refl _))
    refine ⟨some ⟨g, 0, none⟩, cap2, rfl, hNc, ?_, hb2⟩
    refine Nd.RgF.of_cells hg (fun j => hbk.free j) st 0 fun i p hp => ?_
    obtain ⟨h1, h2⟩ := Nd.cellsR_at st i p hp
    have hlt : i < N := by rw [← HN.out]; exact (List.getElem?_eq_some_iff.1 hp).1
    rw [HCS.out, ← htk] at h1 h2
    rw [List.getElem?_take_of_lt (by omega)] at h1 h2
    rw [hbk.cell, hbk.cell, Nat.zero_add, ← Array.getElem?_toList, ← Array.getElem?_toList]
    exact ⟨h1, h2⟩
set_option maxHeartbeats 1000000 in
theorem listN_any (r : List Nd.T) (a : Option Addr) (cap : Nat) (w : World) (hst : r.length ≤ 1099511627) (hR : Nd.AtL w r a) :
    Calls Tryd.prog 46 #[.slice a r.length cap] w fun e w' => Below w.heap.size w w' ∧ ((e = .returned (.slice none 0 0) ∧ r = []) ∨ ∃ g cap' cur ad, a = some ad ∧ e = .returned (.slice (some ⟨g, 0, none⟩) r.length cap') ∧ w.heap.size ≤ g ∧ Bk w' g 26 cur ∧ r.length ≤ cap' ∧ cur.toList.take (r.length * 5) = Nd.cellsN w ad.block r ad.off) := by
  obtain ⟨i0, hi, hz0, hz1, hz2⟩ := info_parts Tryd.infoNode
  cases a with
  | none =>
    have hnil : r = [] := by
      cases r with
      | nil => rfl
      | cons p r => unfold Nd.AtL at hR; obtain ⟨b, o, _, _, _, _, _, ha, _⟩ := hR; cases ha
    subst hnil
    have hn : ∀ W, (binOp .eql 24 (.slice none 0 cap) (.slice none 0 0)).run Tryd.prog W = .ok (.bool true) W := fun W => Lib.run_eql_slice_nil_nil W _ _ Tryd.underlying24
    simp only [List.length_nil]
    go_enter Tryd.func46, Tryd.ntmps46
    go_wp2_with fail
    go_ret
    exact ⟨Below.refl _ _, .inl ⟨rfl, trivial⟩⟩
  | some ad =>
    have hcl := Nd.cellsN_len w ad.block r ad.off
    have hnews : ∀ j u, (Nd.cellsN w ad.block r ad.off)[j]? = some u → w.cell? (ad.add j) = some u ∧ u.oneCell' = true := by
      intro j u hj
      cases r with
      | nil => simp [Nd.cellsN] at hj
      | cons p r =>
        have h2 := hR
        unfold Nd.AtL at h2
        obtain ⟨b, o, _, _, _, _, _, ha, _⟩ := h2
        injection ha with ha
        subst ha
        rw [add_pl]
        exact Nd.AtL.cells _ _ hR j u hj
    obtain ⟨CS, hCS⟩ : ∃ x, Nd.cellsN w ad.block r ad.off = x := ⟨_, rfl⟩
    have HCS := Lib.hid hCS
    rw [hCS] at hcl hnews
    have hone : ∀ u ∈ CS, u.oneCell' = true := fun u hu => by
      obtain ⟨j, hj⟩ := List.mem_iff_getElem?.1 hu
      exact (hnews j u hj).2
    replace hnews : ∀ j u, CS[j]? = some u → w.cell? (ad.add j) = some u := fun j u hj => (hnews j u hj).1
    obtain ⟨N, hN⟩ : ∃ N, r.length = N := ⟨_, rfl⟩
    have HN := Lib.hid hN
    rw [hN] at hst hcl ⊢
    have hnil : ∀ W, (binOp .eql 24 (.slice (some ad) N cap) (.slice none 0 0)).run Tryd.prog W = .ok (.bool false) W := fun W => Lib.run_eql_slice_some_nil W _ _ _ Tryd.underlying24
    replace hnews := Lib.hid hnews
    replace hone := Lib.hid hone
    replace hcl := Lib.hid hcl
    clear hR hCS hN
    go_enter Tryd.func46, Tryd.ntmps46
    go_wp2_with (first
      | (at_make; refine wpList_make_own _ rfl _ _ 24 rfl w.heap.size 26 i0 (.agg #[.int .u8 0, .string ⟨#[]⟩, .string ⟨#[]⟩, .slice none 0 0, .slice none 0 0]) 5 Tryd.underlying24 hi hz0 hz1 .i64 .i64 _ N rfl rfl rfl (by rw [hz2]; omega) (by unfold maxLen; omega) (Nat.le_refl _) ?_; intro w1 hown1 hg1; have HB1 := Lib.hid (made_below hg1); have hs1 := HB1.out.size; have hnw := Lib.hid (news_below hnews.out HB1.out))
      | (at_builtin; refine wpList_append_own _ rfl _ _ 24 rfl w.heap.size 26 i0 (.agg #[.int .u8 0, .string ⟨#[]⟩, .string ⟨#[]⟩, .slice none 0 0, .slice none 0 0]) 5 88 Tryd.underlying24 hi hz0 hz1 hz2 rfl (by decide) _ _ _ rfl hown1 ad N cap CS rfl hcl.out hnw.out hone.out (by unfold maxLen; omega) (by omega) hs1 ?_; intro v2 w2 hown2 hg2 hn2))
    go_ret
    obtain ⟨g, cap2, cur, rfl, hg, hbk, hNc, htk, hb2⟩ := row_out hown2 hn2 (HB1.out.grown hg2 hs1 (fun k e => by cases e; exact Nat.le_refl _))
    exact ⟨hb2, .inr ⟨g, cap2, cur, ad, rfl, rfl, hg, hbk, hNc, htk.trans HCS.out.symm⟩⟩
end Go.Proofs.YthfkodimafmmgaaDoor
