/- The contract of the function that Reach tells what is reached: a number more in its row. -/
import Derived.Test.YtiinkhmgemoamaaDoorPba
import Derived.Test.YtiinkhmgemoamaaDoorPbb
import Derived.Deep.AppendLies
import Derived.Deep.RegionLaw
import Derived.Deep.RegionHeldLaw
import Derived.RegionTactic
import Derived.Test.YtiinkhmgemoamaaDoorPz
namespace Go.Proofs.YtiinkhmgemoamaaDoor
open Go Go.RowKit Nu
set_option maxRecDepth 100000

theorem infoInt : (Tryd.prog.info? 3).map (fun i => (i.zero, i.size, i.bytes)) = some (some (.int .i64 0), 1, 8) := by kernel_rfl
def natVs (l : List Nat) : List Value := l.map fun (x : Nat) => Value.int .i64 (x : Int)
/-- The rows ss, each one's own. -/
def StO (w : World) (sr ib : Nat) (ss : List (List Nat)) : Prop := ∃ cs : Array Value, Bk w sr 40 cs ∧ cs.size = ss.length ∧
 (∀ (j : Nat) (l : List Nat), ss[j]? = some l → ∃ v, cs[j]? = some v ∧ w.ownsRow (sr + 1) 3 1 v l.length (natVs l)) ∧
 (∀ (j k : Nat) (vj vk : Value) (b : Nat), j ≠ k → cs[j]? = some vj → cs[k]? = some vk → vj.ownBlock = some b → vk.ownBlock ≠ some b) ∧
 (∀ (j : Nat) (v : Value), cs[j]? = some v → v.ownBlock ≠ some ib)
theorem StO.below {w w' : World} {sr ib : Nat} {ss : List (List Nat)} (h : StO w sr ib ss) (hb : Below w.heap.size w w') : StO w' sr ib ss := by
 obtain ⟨cs, h1, h2, h3, h4, h5⟩ := h
 refine ⟨cs, h1.below hb h1.lt, h2, fun j l hl => ?_, h4, h5⟩
 obtain ⟨v, hv, ho⟩ := h3 j l hl
 refine ⟨v, hv, ho.1, ?_⟩
 rcases ho.2 with h | ⟨g, cap, cur, h6, h7, h8, h9⟩
 · exact .inl h
 · exact .inr ⟨g, cap, cur, h6, h7, by rw [hb.block g (Array.getElem?_eq_some_iff.1 h8).1]; exact h8, h9⟩
theorem slice_form {w : World} {base e size n : Nat} {v : Value} {xs : List Value} (h : w.ownsRow base e size v n xs) : ∃ A cap, v = .slice A n cap := by
 rcases h.2 with ⟨rfl, rfl⟩ | ⟨g, cap, _, rfl, _⟩
 · exact ⟨none, 0, rfl⟩
 · exact ⟨_, cap, rfl⟩
/-- What is held while one rule's row grows. -/
def PR (n sb ib sr i : Nat) (ss : List (List Nat)) (l : List Nat) (w : World) : Prop :=
 Bk w sb 135 #[.slice (some ⟨sr, 0, none⟩) n n] ∧ Bk w ib 3 #[.int .i64 (i : Int)] ∧ StO w sr ib (ss.set i l) ∧ ss.length = n ∧ i < n
theorem PR.below {n sb ib sr i : Nat} {ss : List (List Nat)} {l : List Nat} {w w' : World} (h : PR n sb ib sr i ss l w) (hb : Below w.heap.size w w') : PR n sb ib sr i ss l w' :=
 ⟨h.1.below hb h.1.lt, h.2.1.below hb h.2.1.lt, h.2.2.1.below hb, h.2.2.2⟩
theorem own_grown {w w' : World} {base e size n : Nat} {v : Value} {xs : List Value} {row : Option Nat} (h : w.ownsRow base e size v n xs) (hg : w.grownBy w' row) (hne : ∀ b, v.ownBlock = some b → row ≠ some b) : w'.ownsRow base e size v n xs := by
 refine ⟨h.1, ?_⟩
 rcases h.2 with h1 | ⟨g, cap, cur, h5, h6, h7, h8⟩
 · exact .inl h1
 · exact .inr ⟨g, cap, cur, h5, h6, by rw [hg.block g (Array.getElem?_eq_some_iff.1 h7).1 (fun e => hne g (by rw [h5]; rfl) e.symm)]; exact h7, h8⟩
set_option maxHeartbeats 4000000 in
theorem told_any (n sb ib sr i r S0 : Nat) (ss : List (List Nat)) (l : List Nat) (w : World) (hn : n ≤ 1000) (hP : PR n sb ib sr i ss l w) (hS : S0 ≤ w.heap.size) (hl : l.length < 1000000) (hsr : S0 ≤ sr) :
 Calls Tryd.prog 69 #[.int .i64 r, .pointer (some ⟨sb, 0, none⟩), .pointer (some ⟨ib, 0, none⟩)] w fun e w' => (∃ u, e = .returned u) ∧ Below S0 w w' ∧ PR n sb ib sr i ss (l ++ [r]) w' := by
 obtain ⟨hb1, hb2, ⟨cs, h1, h2, h3, h4, h5⟩, hsl, hin⟩ := hP
 obtain ⟨v, hv, ho⟩ := h3 i l (by rw [List.getElem?_set_self (by omega)])
 obtain ⟨A, cap, rfl⟩ := slice_form ho
 have c0 := hb1.cell 0
 have c1 := hb2.cell 0
 have c2 := h1.cell i
 rw [hv] at c2
 have f2 := h1.free i
 simp at c0 c1
 have n0 : sb ≠ sr := hb1.ne h1 (by decide)
 have n1 : ib ≠ sr := hb2.ne h1 (by decide)
 have n2 : ∀ b, (Value.slice A l.length cap).ownBlock = some b → sr < b ∧ b < w.heap.size := fun b hb => by have := ho.lt b hb; omega
 have n3 : ∀ b, (Value.slice A l.length cap).ownBlock = some b → b ≠ sb ∧ b ≠ ib := fun b hb => by
  refine ⟨?_, fun e => h5 i _ hv (by rw [← e]; exact hb)⟩
  rcases ho.2 with ⟨e, _⟩ | ⟨g, cp, cur, e, _, hg, _⟩
  · rw [e] at hb; cases hb
  · rw [e] at hb
    have e2 : g = b := by simpa [Value.ownBlock] using hb
    subst e2
    exact fun e => (hb1.ne (show Bk w g 3 cur from hg) (by decide)) e.symm
 obtain ⟨i0, hi, hz0, hz1, hz2⟩ := info_parts infoInt
 obtain ⟨L, hL⟩ : ∃ k, l.length = k := ⟨_, rfl⟩
 have hn2 : (n : Int) ≤ 9223372036854775807 := by omega
 have p0 : (i : Int) < (n : Int) := by omega
 obtain ⟨R, hR⟩ : ∃ k : Int, (r : Int) = k := ⟨_, rfl⟩
 have hK : w.alloc (.cells #[.int .i64 R] 3) = w.alloc (.cells #[.int .i64 R] 3) := rfl
 obtain ⟨wb, hwb⟩ : ∃ x, w.alloc (.cells #[.int .i64 R] 3) = x := ⟨_, rfl⟩
 have hbb : Below w.heap.size w wb := by rw [← hwb]; exact (Below.refl _ w).alloc (Nat.le_refl _) _
 have hsz : wb.heap.size = w.heap.size + 1 := by rw [← hwb]; simp
 have hob : wb.ownsRow (sr + 1) 3 1 (.slice A l.length cap) l.length (natVs l) := by rw [← hwb]; exact ho.alloc _
 have HCN : ∀ j u, ([.int .i64 R] : List Value)[j]? = some u → wb.cell? ((⟨w.heap.size, 0, none⟩ : Addr).add j) = some u := by
  intro j u hj
  rw [← hwb]
  cases j with
  | zero => injection hj with hj; subst hj; exact (cell_one_new _ _ _) 0 _ rfl
  | succ j => simp at hj
 have key : ∀ (g cap2 : Nat) (w11 w12 : World), wb.grownBy w11 (Value.slice A l.length cap).ownBlock → w11.ownsRow (sr + 1) 3 1 (.slice (some ⟨g, 0, none⟩) (L + 1) cap2) (L + 1) (natVs l ++ [.int .i64 R]) → ((Value.slice A l.length cap).ownBlock = some g ∨ g = w.heap.size + 1) →
  w12.heap = (w11.setCell ⟨sr, i, none⟩ (.slice (some ⟨g, 0, none⟩) (L + 1) cap2)).heap → w12.os = w11.os → w12.tape = w11.tape → w12.output = w11.output → Below S0 w w12 ∧ PR n sb ib sr i ss (l ++ [r]) w12 := by
  intro g cap2 w11 w12 hg hown hat hh e1 e2 e3
  have hgb : sr < g ∧ w.heap.size ≤ g ∨ (Value.slice A l.length cap).ownBlock = some g := by rcases hat with h | h; exact .inr h; exact .inl ⟨by have := h1.lt; omega, by omega⟩
  have hgsr : sr < g := by rcases hgb with h | h; exact h.1; exact (n2 g h).1
  have k1 : Bk w11 sr 40 cs := (h1.below hbb h1.lt).grown hg (fun e => by have := n2 sr e.symm; omega)
  have k2 : Bk w12 sr 40 (cs.setIfInBounds i (.slice (some ⟨g, 0, none⟩) (L + 1) cap2)) := by
   have := k1.set i (.slice (some ⟨g, 0, none⟩) (L + 1) cap2)
   unfold Bk at this ⊢
   rw [hh]; exact this
  have oth : ∀ b, b ≠ sr → w12.heap[b]? = w11.heap[b]? := fun b hb => by rw [hh]; exact Below.heap_setCell _ _ _ _ hb
  have hBS : Below S0 w w12 := by
   have q1 : Below S0 w w11 := (hbb.mono hS).grown hg (by omega) (fun k e => by have := (n2 k e).1; omega)
   have q2 := q1.setCell (p := ⟨sr, i, none⟩) hsr (.slice (some ⟨g, 0, none⟩) (L + 1) cap2)
   exact ⟨by rw [e1]; exact q2.os, by rw [e2]; exact q2.tape, by rw [e3]; exact q2.output, by rw [hh]; exact q2.size, fun k hk => by rw [hh]; exact q2.block k hk⟩
  have sb2 : Bk w12 sb 135 #[.slice (some ⟨sr, 0, none⟩) n n] := by
   have := (hb1.below hbb hb1.lt).grown hg (fun e => (n3 sb e.symm).1 rfl)
   unfold Bk at this ⊢
   rw [oth sb n0]; exact this
  have ib2 : Bk w12 ib 3 #[.int .i64 (i : Int)] := by
   have := (hb2.below hbb hb2.lt).grown hg (fun e => (n3 ib e.symm).2 rfl)
   unfold Bk at this ⊢
   rw [oth ib n1]; exact this
  have own12 : ∀ {v : Value} {m : Nat} {xs : List Value}, w11.ownsRow (sr + 1) 3 1 v m xs → w12.ownsRow (sr + 1) 3 1 v m xs := fun {v m xs} h => by
   refine ⟨h.1, ?_⟩
   rcases h.2 with h1 | ⟨g', cp, cur, q1, q2, q3, q4⟩
   · exact .inl h1
   · exact .inr ⟨g', cp, cur, q1, q2, by rw [oth g' (by omega)]; exact q3, q4⟩
  have hcs : i < cs.size := by rw [h2, List.length_set]; omega
  refine ⟨hBS, sb2, ib2, ⟨_, k2, by rw [Array.size_setIfInBounds, h2, List.length_set, List.length_set], fun j l2 hj => ?_, fun j k vj vk b hjk hvj hvk hbj => ?_, fun j v hvj => ?_⟩, hsl, hin⟩
  · by_cases hji : j = i
    · subst hji
      rw [List.getElem?_set_self (by omega)] at hj
      injection hj with hj
      subst hj
      refine ⟨.slice (some ⟨g, 0, none⟩) (L + 1) cap2, by simp [hcs], ?_⟩
      have := own12 hown
      rw [List.length_append, hL, List.length_singleton]
      have e : natVs (l ++ [r]) = natVs l ++ [.int .i64 R] := by simp [natVs, hR]
      rw [e]
      exact this
    · rw [List.getElem?_set_ne (Ne.symm hji)] at hj
      obtain ⟨v2, hv2, ho2⟩ := h3 j l2 (by rw [List.getElem?_set_ne (Ne.symm hji)]; exact hj)
      refine ⟨v2, by rw [Array.getElem?_setIfInBounds_ne (Ne.symm hji)]; exact hv2, own12 (own_grown ?_ hg (fun b hb e => h4 j i _ _ b hji hv2 hv hb e))⟩
      refine ⟨ho2.1, ?_⟩
      rcases ho2.2 with q | ⟨g', cp, cur, q1, q2, q3, q4⟩
      · exact .inl q
      · exact .inr ⟨g', cp, cur, q1, q2, by rw [hbb.block g' (Array.getElem?_eq_some_iff.1 q3).1]; exact q3, q4⟩
  · have old : ∀ (q : Nat) (u : Value) (b : Nat), q ≠ i → cs[q]? = some u → u.ownBlock = some b → b < w.heap.size ∧ (Value.slice A l.length cap).ownBlock ≠ some b := fun q u b hq hu hb => by
     obtain ⟨l2, hl2⟩ : ∃ l2, (ss.set i l)[q]? = some l2 := ⟨_, List.getElem?_eq_getElem (by rw [← h2]; exact (Array.getElem?_eq_some_iff.1 hu).1)⟩
     obtain ⟨v2, hv2, ho2⟩ := h3 q l2 hl2
     rw [hu] at hv2
     injection hv2 with hv2
     subst hv2
     exact ⟨(ho2.lt b hb).2, h4 q i _ _ b hq hu hv hb⟩
    by_cases hji : j = i
    · subst hji
      rw [Array.getElem?_setIfInBounds_self, if_pos hcs] at hvj
      injection hvj with hvj
      subst hvj
      rw [Array.getElem?_setIfInBounds_ne hjk] at hvk
      have e : g = b := by simpa [Value.ownBlock] using hbj
      subst e
      intro hbk
      have := old k vk g (Ne.symm hjk) hvk hbk
      rcases hat with h | h
      · exact this.2 h
      · omega
    · rw [Array.getElem?_setIfInBounds_ne (Ne.symm hji)] at hvj
      by_cases hki : k = i
      · subst hki
        rw [Array.getElem?_setIfInBounds_self, if_pos hcs] at hvk
        injection hvk with hvk
        subst hvk
        intro hbk
        have e : g = b := by simpa [Value.ownBlock] using hbk
        subst e
        have := old j vj g hjk hvj hbj
        rcases hat with h | h
        · exact this.2 h
        · omega
      · rw [Array.getElem?_setIfInBounds_ne (Ne.symm hki)] at hvk
        exact h4 j k vj vk b hjk hvj hvk hbj
  · by_cases hji : j = i
    · subst hji
      rw [Array.getElem?_setIfInBounds_self, if_pos hcs] at hvj
      injection hvj with hvj
      subst hvj
      intro e
      have e2 : g = ib := by simpa [Value.ownBlock] using e
      subst e2
      rcases hat with h | h
      · exact (n3 g h).2 rfl
      · have := hb2.lt; omega
    · rw [Array.getElem?_setIfInBounds_ne (Ne.symm hji)] at hvj
      exact h5 j v hvj
 have zs1 : wb.cell? ⟨sb, 0, none⟩ = some (.slice (some ⟨sr, 0, none⟩) n n) := Nd.cell_keeps hbb c0
 have zs2 : wb.cell? ⟨ib, 0, none⟩ = some (.int .i64 (i : Int)) := Nd.cell_keeps hbb c1
 have zs3 : wb.cell? ⟨sr, i, none⟩ = some (.slice A l.length cap) := Nd.cell_keeps hbb c2
 have hle : sr + 1 ≤ wb.heap.size := by have := h1.lt; omega
 have HK11 := Lib.hid (fun (w11 : World) (hg : wb.grownBy w11 (Value.slice A l.length cap).ownBlock) => show w11.cell? ⟨sr, i, none⟩ = some (.slice A l.length cap) ∧ w11.frozen? ⟨sr, i, none⟩ = false ∧ w11.cell? ⟨sb, 0, none⟩ = some (.slice (some ⟨sr, 0, none⟩) n n) ∧ w11.cell? ⟨ib, 0, none⟩ = some (.int .i64 (i : Int)) from by
  have k1 : Bk w11 sr 40 cs := (h1.below hbb h1.lt).grown hg (fun e => by have := n2 sr e.symm; omega)
  have k3 := (hb1.below hbb hb1.lt).grown hg (fun e => (n3 sb e.symm).1 rfl)
  have k4 := (hb2.below hbb hb2.lt).grown hg (fun e => (n3 ib e.symm).2 rfl)
  exact ⟨by rw [k1.cell, hv], k1.free i, by rw [k3.cell]; rfl, by rw [k4.cell]; rfl⟩)
 have KEY := Lib.hid key
 have HBB := Lib.hid (And.intro hbb (And.intro n2 (And.intro n3 (And.intro hb1 (And.intro hb2 h1)))))
 have HV := Lib.hid hv
 rw [hR]
 rw [hL] at hob c2 HK11 zs3
 have n0' : sr ≠ sb := Ne.symm n0
 have n1' : sr ≠ ib := Ne.symm n1
 clear key hK hbb h1 h2 h3 h4 h5 hb1 hb2 n0 n1 n2 n3 hv ho hsl hin hS hsr
 go_enter Tryd.func69, Tryd.ntmps69
 go_wp2_with fail
 refine wp_region_held_drew (S := fun w' : World => w'.cell? ⟨sb, 0, none⟩ = some (.slice (some ⟨sr, 0, none⟩) n n) ∧ w'.cell? ⟨ib, 0, none⟩ = some (.int .i64 (i : Int))) (by kernel_rfl) ⟨c0, c1⟩ (fun hHeld => ?_)
 refine wpAnyH_take (i := 0) (v := .slice (some ⟨sr, 0, none⟩) n n) rfl (by kernel_rfl) (by kernel_rfl) (by kernel_rfl) (fun _ _ _ h => h) (Or.inl ⟨by rfl, ?_⟩) hHeld ?_
 · intro w' hSw; obtain ⟨z1, z2⟩ := hSw; go_simp
 (try simp only [Act.put, List.setIfInBounds_toArray])
 refine wpAnyH_take (i := 1) (v := .int .i64 (i : Int)) rfl (by kernel_rfl) (by kernel_rfl) (by kernel_rfl) (fun _ _ _ h => h) (Or.inl ⟨by rfl, ?_⟩) hHeld ?_
 · intro w' hSw; obtain ⟨z1, z2⟩ := hSw; go_simp
 (try simp only [Act.put])
 refine wpAnyH_take (i := 2) (v := .slice (some ⟨sr, 0, none⟩) n n) rfl (by kernel_rfl) (by kernel_rfl) (by kernel_rfl) (fun _ _ _ h => h) (Or.inl ⟨by rfl, ?_⟩) hHeld ?_
 · intro w' hSw; obtain ⟨z1, z2⟩ := hSw; go_simp
 (try simp only [Act.put])
 refine wpAnyH_take (i := 3) (v := .int .i64 (i : Int)) rfl (by kernel_rfl) (by kernel_rfl) (by kernel_rfl) (fun _ _ _ h => h) (Or.inl ⟨by rfl, ?_⟩) hHeld ?_
 · intro w' hSw; obtain ⟨z1, z2⟩ := hSw; go_simp
 (try simp only [Act.put])
 refine wpAnyH_take (i := 4) (v := .pointer (some ⟨sr, i, none⟩)) rfl (by kernel_rfl) (by kernel_rfl) (by kernel_rfl) (fun _ _ _ h => h) (Or.inl ⟨by rfl, ?_⟩) hHeld ?_
 · intro w' hSw; obtain ⟨z1, z2⟩ := hSw; go_simp
 (try simp only [Act.put])
 refine wpAnyH_take (i := 6) (v := .int .i64 R) rfl (by kernel_rfl) (by kernel_rfl) (by kernel_rfl) (fun _ _ _ h => h) (Or.inl ⟨by rfl, ?_⟩) hHeld ?_
 · intro w' hSw; obtain ⟨z1, z2⟩ := hSw; go_simp
 (try simp only [Act.put])
 refine wpAnyH_ready (rs := [5, 7]) (by kernel_rfl) (by simp) ?_
 refine AllReadyH.cons rfl (fun K hK => ?_) (AllReadyH.cons rfl (fun K hK => ?_) AllReadyH.nil)
 · go_simp
   refine hK.out _ _ hHeld (fun hHeld2 => ?_)
   clear hK K
   (try simp only [zqN])
   refine wpAnyH_ready (rs := [7]) (by kernel_rfl) (by simp) ?_
   refine AllReadyH.cons rfl (fun K hK => ?_) AllReadyH.nil
   go_simp
   refine hK.out _ _ ⟨zs1, zs2⟩ (fun hHeld3 => ?_)
   clear hK K
   (try simp only [zqN])
   refine wpAnyH_ready (rs := [8]) (by kernel_rfl) (by simp) ?_
   refine AllReadyH.cons rfl (fun K hK => ?_) AllReadyH.nil
   refine step_append_lies _ rfl _ _ 40 rfl (sr + 1) 3 i0 (.int .i64 0) 1 8 Tryd.underlying40 hi hz0 hz1 hz2 rfl (by decide) _ L _ rfl hob ⟨w.heap.size, 0, none⟩ 1 1 [.int .i64 R] rfl rfl HCN (by simp [Value.oneCell']) (by decide) (by unfold maxLen; omega) (by omega) hle _ rfl ?_
   intro g11 cap11 w11 hown11 hg11 hat11 hlt11
   have hgx : wb.grownBy w11 (Value.slice A L cap).ownBlock := ⟨hg11.os, hg11.tape, hg11.output, hg11.size, hg11.block⟩
   obtain ⟨c11, f11, c12, c13⟩ := HK11.out w11 hgx
   refine hK.out _ _ ⟨c12, c13⟩ (fun hHeld4 => ?_)
   clear hK K
   (try simp only [Act.put, List.setIfInBounds_toArray])
   refine wpAnyH_take (i := 9) (v := .pointer (some ⟨sr, i, none⟩)) rfl (by kernel_rfl) (by kernel_rfl) (by kernel_rfl) (fun _ _ _ h => h) (Or.inl ⟨by rfl, ?_⟩) hHeld4 ?_
   · intro w' hSw; obtain ⟨z1, z2⟩ := hSw; go_simp
   (try simp only [Act.put])
   refine wpAnyH_ready (rs := [10]) (by kernel_rfl) (by simp) ?_
   refine AllReadyH.cons rfl (fun K hK => ?_) AllReadyH.nil
   go_simp
   refine hK.out _ _ ⟨by rw [World.cell?_setCell_far _ _ _ _ n0']; exact c12, by rw [World.cell?_setCell_far _ _ _ _ n1']; exact c13⟩ (fun hHeld5 => ?_)
   clear hK K
   (try simp only [zqN])
   refine wpAnyH_done (by kernel_rfl) ?_ _
   have hat12 : (Value.slice A L cap).ownBlock = some g11 ∨ g11 = w.heap.size + 1 := by rw [← hsz]; exact hat11
   rw [← hL] at hgx hat12
   obtain ⟨kk1, kk2⟩ := KEY.out g11 cap11 w11 _ hgx hown11 hat12 rfl rfl rfl rfl
   go_end0
   exact ⟨⟨_, rfl⟩, kk1, kk2⟩
 · go_simp
   refine hK.out _ _ ⟨zs1, zs2⟩ (fun hHeld2 => ?_)
   clear hK K
   (try simp only [zqN])
   refine wpAnyH_ready (rs := [5]) (by kernel_rfl) (by simp) ?_
   refine AllReadyH.cons rfl (fun K hK => ?_) AllReadyH.nil
   go_simp
   refine hK.out _ _ ⟨zs1, zs2⟩ (fun hHeld3 => ?_)
   clear hK K
   (try simp only [zqN])
   refine wpAnyH_ready (rs := [8]) (by kernel_rfl) (by simp) ?_
   refine AllReadyH.cons rfl (fun K hK => ?_) AllReadyH.nil
   refine step_append_lies _ rfl _ _ 40 rfl (sr + 1) 3 i0 (.int .i64 0) 1 8 Tryd.underlying40 hi hz0 hz1 hz2 rfl (by decide) _ L _ rfl hob ⟨w.heap.size, 0, none⟩ 1 1 [.int .i64 R] rfl rfl HCN (by simp [Value.oneCell']) (by decide) (by unfold maxLen; omega) (by omega) hle _ rfl ?_
   intro g11 cap11 w11 hown11 hg11 hat11 hlt11
   have hgx : wb.grownBy w11 (Value.slice A L cap).ownBlock := ⟨hg11.os, hg11.tape, hg11.output, hg11.size, hg11.block⟩
   obtain ⟨c11, f11, c12, c13⟩ := HK11.out w11 hgx
   refine hK.out _ _ ⟨c12, c13⟩ (fun hHeld4 => ?_)
   clear hK K
   (try simp only [Act.put, List.setIfInBounds_toArray])
   refine wpAnyH_take (i := 9) (v := .pointer (some ⟨sr, i, none⟩)) rfl (by kernel_rfl) (by kernel_rfl) (by kernel_rfl) (fun _ _ _ h => h) (Or.inl ⟨by rfl, ?_⟩) hHeld4 ?_
   · intro w' hSw; obtain ⟨z1, z2⟩ := hSw; go_simp
   (try simp only [Act.put])
   refine wpAnyH_ready (rs := [10]) (by kernel_rfl) (by simp) ?_
   refine AllReadyH.cons rfl (fun K hK => ?_) AllReadyH.nil
   go_simp
   refine hK.out _ _ ⟨by rw [World.cell?_setCell_far _ _ _ _ n0']; exact c12, by rw [World.cell?_setCell_far _ _ _ _ n1']; exact c13⟩ (fun hHeld5 => ?_)
   clear hK K
   (try simp only [zqN])
   refine wpAnyH_done (by kernel_rfl) ?_ _
   have hat12 : (Value.slice A L cap).ownBlock = some g11 ∨ g11 = w.heap.size + 1 := by rw [← hsz]; exact hat11
   rw [← hL] at hgx hat12
   obtain ⟨kk1, kk2⟩ := KEY.out g11 cap11 w11 _ hgx hown11 hat12 rfl rfl rfl rfl
   go_end0
   exact ⟨⟨_, rfl⟩, kk1, kk2⟩
end Go.Proofs.YtiinkhmgemoamaaDoor
