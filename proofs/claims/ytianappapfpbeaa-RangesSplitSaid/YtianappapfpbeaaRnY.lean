/- The contracts of the law's twin and left, of lists of ranges. -/
import Derived.Test.YtianappapfpbeaaRnF
import Derived.Test.YtianappapfpbeaaRnT
import Derived.Laws.AppendOwnNone
namespace Go.Proofs.Ytianappapfpbeaa
open Go Go.RowKit Rn
set_option maxRecDepth 100000

namespace Rn
theorem rgV_one : ∀ (l : List (Int × Int)), ∀ u ∈ rgV l, u.oneCell' = true := fun l u h => by
  obtain ⟨p, _, hp⟩ := List.mem_flatMap.1 h
  simp at hp
  rcases hp with rfl | rfl <;> rfl
theorem RgAt_cells {w : World} {b : Nat} : ∀ (st : List (Int × Int)) (o : Nat), Nd.RgAt w st (some ⟨b, o, none⟩) → ∀ j u, (rgV st)[j]? = some u → w.cell? ⟨b, o + j, none⟩ = some u
  | [], _, _, j, u, h => by simp [rgV] at h
  | p :: st, o, ⟨b', o', ha, h0, h1, hr⟩, j, u, h => by
    injection ha with ha
    injection ha with e1 e2
    subst e1 e2
    rw [rgV_cons] at h
    match j, h with
    | 0, h => simp at h; subst h; exact h0
    | 1, h => simp at h; subst h; exact h1
    | j + 2, h =>
      have := RgAt_cells st (o + 2) hr j u (by simpa using h)
      rw [show o + (j + 2) = o + 2 + j by omega]
      exact this
/-- What is read at a list's address, cell by cell. -/
theorem RL.news {w : World} {a : Addr} {c : Nat} {l : List (Int × Int)} (h : Nd.RgAt w l (some a)) : ∀ j u, (rgV l)[j]? = some u → ∀ wx, Below w.heap.size w wx → wx.cell? (a.add j) = some u := by
  intro j u hj wx hb
  cases l with
  | nil => simp [rgV] at hj
  | cons p l =>
    obtain ⟨b, o, ha, _⟩ := id h
    injection ha with ha
    subst ha
    have := RgAt_cells _ _ h j u hj
    rw [show (⟨b, o, none⟩ : Addr).add j = ⟨b, o + j, none⟩ from by unfold Addr.add; split <;> simp_all]
    exact Nd.cell_keeps hb this
/-- v is a list's twin: the same ranges in memory of its own, from B on, with two marks behind. -/
def TwV (w : World) (B : Nat) (v : Value) (l : List (Int × Int)) : Prop := ∃ g cap cur, v = .slice (some ⟨g, 0, none⟩) l.length cap ∧ B ≤ g ∧ w.heap[g]? = some (.cells cur 42 (0, 0)) ∧ l.length + 2 ≤ cap ∧ cap ≤ maxLen ∧ cap * 2 ≤ cur.size ∧
  cur.toList.take (l.length * 2 + 4) = rgV l ++ [.int .i32 (-77), .int .i32 0, .int .i32 (-77), .int .i32 0]
theorem TwV.below {w w' : World} {B : Nat} {v : Value} {l : List (Int × Int)} (h : TwV w B v l) (hb : Below w.heap.size w w') : TwV w' B v l := by
  obtain ⟨g, cap, cur, h1, h2, h3, h4⟩ := h
  exact ⟨g, cap, cur, h1, h2, by rw [hb.block g (Array.getElem?_eq_some_iff.1 h3).1]; exact h3, h4⟩
theorem TwV.mono {w : World} {B B' : Nat} {v : Value} {l : List (Int × Int)} (h : TwV w B v l) (hB : B' ≤ B) : TwV w B' v l := by
  obtain ⟨g, cap, cur, h1, h2, h3⟩ := h
  exact ⟨g, cap, cur, h1, by omega, h3⟩
theorem TwV.hld {w : World} {B : Nat} {v : Value} {l : List (Int × Int)} (h : TwV w B v l) : Hld w B v l := by
  obtain ⟨g, cap, cur, h1, h2, h3, h4, h5, h6, h7⟩ := h
  refine .inr ⟨g, cap, cur, h1, h2, h3, by omega, h6, ?_, h5⟩
  have e := rgV_len l
  have := congrArg (List.take (l.length * 2)) h7
  rw [List.take_take, Nat.min_eq_left (by omega), List.take_append_of_le_length (by omega), List.take_of_length_le (l := rgV l) (by omega)] at this
  exact this
theorem TwV.cells {w : World} {B : Nat} {v : Value} {l : List (Int × Int)} (h : TwV w B v l) : ∃ g cap, v = .slice (some ⟨g, 0, none⟩) l.length cap ∧ l.length + 2 ≤ cap ∧ cap ≤ maxLen ∧ g < w.heap.size ∧
    (w.cell? ⟨g, l.length * 2, none⟩ = some (.int .i32 (-77)) ∧ w.cell? ⟨g, l.length * 2 + 1, none⟩ = some (.int .i32 0)) ∧ w.cell? ⟨g, l.length * 2 + 2, none⟩ = some (.int .i32 (-77)) ∧ w.cell? ⟨g, l.length * 2 + 2 + 1, none⟩ = some (.int .i32 0) := by
  obtain ⟨g, cap, cur, h1, h2, h3, h4, h5, h6, h7⟩ := h
  have e := rgV_len l
  have key : ∀ j, j < 4 → w.cell? ⟨g, l.length * 2 + j, none⟩ = ([.int .i32 (-77), .int .i32 0, .int .i32 (-77), .int .i32 0] : List Value)[j]? := fun j hj => by
    have k1 : cur.toList[l.length * 2 + j]? = (rgV l ++ [.int .i32 (-77), .int .i32 0, .int .i32 (-77), .int .i32 0])[l.length * 2 + j]? := by rw [← h7, List.getElem?_take_of_lt (by omega)]
    rw [List.getElem?_append_right (by omega), e, show l.length * 2 + j - l.length * 2 = j by omega] at k1
    rw [← k1]
    simp [World.cell?, h3]
  exact ⟨g, cap, h1, h4, h5, (Array.getElem?_eq_some_iff.1 h3).1, ⟨key 0 (by omega), key 1 (by omega)⟩, key 2 (by omega), key 3 (by omega)⟩
end Rn
set_option maxHeartbeats 4000000 in
theorem twinRn_any (l : List (Int × Int)) (v : Value) (w : World) (hR : RL w v l) (hz : ∀ n c, v = .slice none n c → c = 0) (hl : l.length ≤ 1000000) :
    Calls Try.prog 26 #[v, .agg #[.int .i32 (-77), .int .i32 0]] w fun e w' => ∃ v', e = .returned v' ∧ TwV w' w.heap.size v' l ∧ Below w.heap.size w w' := by
  obtain ⟨i0, hi, hz0, hz1, hz2⟩ := info_partsRn infoRg
  obtain ⟨a, c, rfl, hc, hR⟩ := hR
  have HL := Lib.hid (rgV_len l)
  have h1 := Lib.hid (rgV_one l)
  obtain ⟨N, hN⟩ : ∃ k, l.length = k := ⟨_, rfl⟩
  have HN := Lib.hid hN
  rw [hN] at hl HL ⊢
  have hbx : Below w.heap.size w (w.alloc (.cells #[.int .i32 (-77), .int .i32 0] 42)) := (Below.refl _ w).alloc (Nat.le_refl _) _
  have HBX := Lib.hid hbx
  have HBK := Lib.hid (Bk.made w 42 #[.int .i32 (-77), .int .i32 0])
  have e1 : IntKind.i64.wrap ((N : Int) + 2) = (N : Int) + 2 := by simp [IntKind.wrap, IntKind.bits, IntKind.signed]; omega
  have HMk := Lib.hid (fun (w1 : World) (hg : (w.alloc (.cells #[.int .i32 (-77), .int .i32 0] 42)).grownBy w1 none) => show Below w.heap.size w w1 ∧ Bk w1 w.heap.size 42 #[.int .i32 (-77), .int .i32 0] ∧ w.heap.size + 1 ≤ w1.heap.size from
    ⟨hbx.grown hg hbx.size (fun k e => by cases e), (Bk.made w _ _).grown hg (fun e => by cases e), by have := hg.size; rw [World.size_alloc] at this; exact this⟩)
  have HFin := Lib.hid (show ∀ (w4 : World) (g cap : Nat) (v' : Value), v' = .slice (some ⟨g, 0, none⟩) (N + 2) cap → w4.ownsRow (w.heap.size + 1) 42 2 v' (N + 2) (rgV l ++ [.int .i32 (-77), .int .i32 0, .int .i32 (-77), .int .i32 0]) → TwV w4 w.heap.size (.slice (some ⟨g, 0, none⟩) N cap) l ∧ N ≤ cap from by
    intro w4 g cap v' hv ho
    rcases ho.2 with ⟨h0, h2⟩ | ⟨g', cap', cur, h0, h2, h3, h4, h5, h6, h7⟩
    · omega
    · rw [hv] at h0
      injection h0 with h0 _ hcc
      injection h0 with h0
      injection h0 with h0
      subst h0 hcc
      refine ⟨⟨g, cap, cur, by rw [hN], by omega, h3, by rw [hN]; exact h4, h5, by omega, ?_⟩, by omega⟩
      rw [hN]
      rw [show N * 2 + 4 = (N + 2) * 2 by omega]
      exact h7)
  clear hN hbx
  cases a with
  | none =>
    have hnil : l = [] := by
      cases l with
      | nil => rfl
      | cons p r => obtain ⟨b, o, ha, _⟩ := hR; cases ha
    have HNil := Lib.hid hnil
    have HN0 : N = 0 := by rw [← HN.out, hnil]; rfl
    have HNN := Lib.hid HN0
    clear hR hnil HN0
    obtain rfl : c = 0 := hz _ _ rfl
    clear hz
    obtain rfl : N = 0 := HNN.out
    go_enter Try.func26, Try.ntmps26
    go_wp2_with (first
      | (at_make; refine wpList_make_own _ rfl _ _ 22 rfl (w.heap.size + 1) 42 i0 (.agg #[.int .i32 0, .int .i32 0]) 2 Try.underlying22 hi hz0 hz1 .i64 .i64 _ 2 rfl rfl rfl (by rw [hz2]; omega) (by unfold maxLen; omega) (by simp) ?_; intro w1 hown1 hg1; obtain ⟨hb1, hk1, hs1⟩ := HMk.out _ hg1; rw [World.size_alloc] at hown1; have HB1 := Lib.hid hb1; have HK1 := Lib.hid hk1; clear hg1 hb1 hk1)
      | (at_builtin; refine wpList_append_own_none rfl _ _ 22 rfl (w.heap.size + 1) 42 i0 2 Try.underlying22 hi _ _ _ rfl hown1 rfl ?_; have q0 := HK1.out.cell 0; have q1 := HK1.out.cell 1; simp at q0 q1; have HCN := Lib.hid (cells_newRn w1 [.int .i32 (-77), .int .i32 0, .int .i32 (-77), .int .i32 0] 42))
      | (at_builtin; have t := HCN; refine wpList_append_own _ rfl _ _ 22 rfl (w.heap.size + 1) 42 i0 (.agg #[.int .i32 0, .int .i32 0]) 2 8 Try.underlying22 hi hz0 hz1 hz2 rfl (by decide) _ 0 _ rfl (hown1.alloc _) ⟨w1.heap.size, 0, none⟩ 2 2 [.int .i32 (-77), .int .i32 0, .int .i32 (-77), .int .i32 0] rfl rfl HCN.out (fun x hx => by simp at hx; rcases hx with rfl | rfl | rfl | rfl <;> rfl) (by unfold maxLen; omega) (by omega) (by simp; omega) ?_; intro v3 w3 hown3 hg3 _; obtain ⟨g3, cap3, hv3⟩ : ∃ g cap, v3 = .slice (some ⟨g, 0, none⟩) (0 + 2) cap := (by
          rcases hown3.2 with ⟨_, h2⟩ | ⟨g, cap, _, h2, _⟩
          · omega
          · exact ⟨g, cap, h2⟩); have HF := Lib.hid (HFin.out w3 g3 cap3 v3 (by rw [hv3]) (by rw [HNil.out]; exact hown3)); subst hv3; have hle := HF.out.2; have HB3 := Lib.hid ((HB1.out.alloc HB1.out.size _).grown hg3 (by have := HB1.out.size; simp; omega) (fun k hk => by have := (hown1.lt k hk).1; omega)); clear hown3 hg3))
    go_ret
    exact ⟨_, rfl, HF.out.1, HB3.out⟩
  | some ad =>
    have hnews := Lib.hid (fun (wx : World) (hb : Below w.heap.size w wx) => show ∀ j u, (rgV l)[j]? = some u → wx.cell? (ad.add j) = some u from fun j u hj => RL.news (c := c) hR j u hj wx hb)
    obtain ⟨RV, hRV⟩ : ∃ x, rgV l = x := ⟨_, rfl⟩
    rw [hRV] at hnews HL h1 HFin
    clear hR hRV
    go_enter Try.func26, Try.ntmps26
    go_wp2_with (first
      | (at_make; refine wpList_make_own _ rfl _ _ 22 rfl (w.heap.size + 1) 42 i0 (.agg #[.int .i32 0, .int .i32 0]) 2 Try.underlying22 hi hz0 hz1 .i64 .i64 _ (N + 2) rfl rfl rfl (by rw [hz2]; omega) (by unfold maxLen; omega) (by simp) ?_; intro w1 hown1 hg1; obtain ⟨hb1, hk1, hs1⟩ := HMk.out _ hg1; rw [World.size_alloc] at hown1; have HB1 := Lib.hid hb1; have HK1 := Lib.hid hk1; clear hg1 hb1 hk1)
      | (at_builtin; have t := HB1; refine wpList_append_own _ rfl _ _ 22 rfl (w.heap.size + 1) 42 i0 (.agg #[.int .i32 0, .int .i32 0]) 2 8 Try.underlying22 hi hz0 hz1 hz2 rfl (by decide) _ 0 _ rfl hown1 ad N c RV rfl HL.out (hnews.out _ HB1.out) h1.out (by unfold maxLen; omega) (by omega) hs1 ?_; intro v2 w2 hown2 hg2 _; rw [Nat.zero_add, List.nil_append] at hown2; have HB2 := Lib.hid (HB1.out.grown hg2 HB1.out.size (fun k hk => by have := (hown1.lt k hk).1; omega)); have HK2 := Lib.hid (HK1.out.grown hg2 (fun e => by have := (hown1.lt _ e.symm).1; omega)); have hs2 := hg2.size; have q0 := HK2.out.cell 0; have q1 := HK2.out.cell 1; simp at q0 q1; have HCN := Lib.hid (cells_newRn w2 [.int .i32 (-77), .int .i32 0, .int .i32 (-77), .int .i32 0] 42); clear hg2 HB1 HK1 hown1)
      | (at_builtin; have t := HCN; refine wpList_append_own _ rfl _ _ 22 rfl (w.heap.size + 1) 42 i0 (.agg #[.int .i32 0, .int .i32 0]) 2 8 Try.underlying22 hi hz0 hz1 hz2 rfl (by decide) _ N _ rfl (hown2.alloc _) ⟨w2.heap.size, 0, none⟩ 2 2 [.int .i32 (-77), .int .i32 0, .int .i32 (-77), .int .i32 0] rfl rfl HCN.out (fun x hx => by simp at hx; rcases hx with rfl | rfl | rfl | rfl <;> rfl) (by unfold maxLen; omega) (by omega) (by simp; omega) ?_; intro v3 w3 hown3 hg3 _; obtain ⟨g3, cap3, hv3⟩ : ∃ g cap, v3 = .slice (some ⟨g, 0, none⟩) (N + 2) cap := (by
          rcases hown3.2 with ⟨_, h2⟩ | ⟨g, cap, _, h2, _⟩
          · omega
          · exact ⟨g, cap, h2⟩); have HF := Lib.hid (HFin.out w3 g3 cap3 v3 hv3 hown3); subst hv3; have hle := HF.out.2; have HB3 := Lib.hid ((HB2.out.alloc HB2.out.size _).grown hg3 (by have := HB2.out.size; simp; omega) (fun k hk => by have := (hown2.lt k hk).1; omega)); clear hown3 hg3))
    go_ret
    exact ⟨_, rfl, HF.out.1, HB3.out⟩
set_option maxHeartbeats 1000000 in
theorem TwinRn_any (l : List (Int × Int)) (v : Value) (w : World) (hR : RL w v l) (hz : ∀ n c, v = .slice none n c → c = 0) (hl : l.length ≤ 1000000) :
    Calls Try.prog 8 #[v] w fun e w' => ∃ v', e = .returned v' ∧ TwV w' w.heap.size v' l ∧ Below w.heap.size w w' := by
  have hC := Lib.hid (twinRn_any l v w hR hz hl)
  obtain ⟨a, c, rfl, _, _⟩ := hR
  generalize l.length = N at *
  clear hz
  go_enter Try.func8, Try.ntmps8
  go_wp2_with (go_at_call 26; refine hC.out.mono ?_; rintro e w' ⟨v', rfl, ht, hb⟩)
  go_ret
  exact ⟨_, rfl, ht, hb⟩
set_option maxHeartbeats 4000000 in
theorem leftRn_any (l : List (Int × Int)) (vt v : Value) (B : Nat) (w : World) (hT : TwV w B vt l) (hR : RL w v l) (hl : l.length ≤ 1000000) :
    Calls Try.prog 36 #[vt, v, .agg #[.int .i32 (-77), .int .i32 0]] w fun e w' => e = .returned (.bool true) ∧ Below w.heap.size w w' := by
  have HR1 := Lib.hid (fun wx (hb : Below w.heap.size w wx) => SameRn_any l l vt v wx (hT.hld.rl.below hb) (hR.below hb) (by omega) (by omega))
  have hsame : Hid (∀ wx (hb : Below w.heap.size w wx), Calls Try.prog 35 #[vt, v] wx fun e w' => e = .returned (.bool true) ∧ Below wx.heap.size wx w') := Lib.hid (fun wx hb => by
    obtain ⟨a1, c1, hv1, _, hr1⟩ := hT.hld.rl.below hb
    obtain ⟨a2, c2, hv2, _, hr2⟩ := hR.below hb
    rw [hv1, hv2]
    have := sameRn_any l l a1 a2 c1 c2 wx (by omega) (by omega) hr1 hr2
    simpa using this)
  clear HR1
  obtain ⟨g, cap, rfl, hc1, hc2, hgl, ⟨x0, x1⟩, x2, x3⟩ := hT.cells
  obtain ⟨a, c, rfl, _, _⟩ := hR
  obtain ⟨N, hN⟩ : ∃ k, l.length = k := ⟨_, rfl⟩
  rw [hN] at hsame hc1 x0 x1 x2 x3 hl ⊢
  clear hT hN
  unfold maxLen at hc2
  have hbx : Below w.heap.size w (w.alloc (.cells #[.int .i32 (-77), .int .i32 0] 42)) := (Below.refl _ w).alloc (Nat.le_refl _) _
  have HBX := Lib.hid hbx
  have HBK := Lib.hid (Bk.made w 42 #[.int .i32 (-77), .int .i32 0])
  have f1 : (N : Int) ≤ (cap : Int) := by omega
  have f2 : decide ((cap : Int) - (N : Int) < 2) = false := by rw [decide_eq_false_iff_not]; omega
  have f3 : (0 : Int) < (cap : Int) - (N : Int) := by omega
  have f4 : (1 : Int) < (cap : Int) - (N : Int) := by omega
  have f5 : cap - N + N = cap := by omega
  have f7 : N < cap := by omega
  have f8 : N + 1 < cap := by omega
  have f9 : 1 + N < cap := by omega
  have g1 : (N : Int) < (cap : Int) := by omega
  have g2 : (1 : Int) + (N : Int) < (cap : Int) := by omega
  have g3 : (N : Int) + 1 < (cap : Int) := by omega
  have g4 : 1 < cap - N := by omega
  have f6 : ((cap - N : Nat) : Int) = (cap : Int) - (N : Int) := by omega
  have HXC := Lib.hid (fun wx (hb : Below (w.alloc (.cells #[.int .i32 (-77), .int .i32 0] 42)).heap.size (w.alloc (.cells #[.int .i32 (-77), .int .i32 0] 42)) wx) => show (wx.cell? ⟨g, N * 2, none⟩ = some (.int .i32 (-77)) ∧ wx.cell? ⟨g, N * 2 + 1, none⟩ = some (.int .i32 0)) ∧ (wx.cell? ⟨g, N * 2 + 2, none⟩ = some (.int .i32 (-77)) ∧ wx.cell? ⟨g, N * 2 + 2 + 1, none⟩ = some (.int .i32 0)) ∧ wx.cell? ⟨w.heap.size, 0, none⟩ = some (.int .i32 (-77)) ∧ wx.cell? ⟨w.heap.size, 1, none⟩ = some (.int .i32 0) from by
    have hb2 : Below w.heap.size w wx := hbx.trans (hb.mono hbx.size)
    have k := HBK.out.below hb HBK.out.lt
    have k0 := k.cell 0
    have k1 := k.cell 1
    exact ⟨⟨Nd.cell_keeps hb2 x0, Nd.cell_keeps hb2 x1⟩, ⟨Nd.cell_keeps hb2 x2, Nd.cell_keeps hb2 x3⟩, k0, k1⟩)
  clear x0 x1 x2 x3 hbx
  go_enter Try.func36, Try.ntmps36
  obtain ⟨wb, hwb⟩ : ∃ W, w.alloc (.cells #[.int .i32 (-77), .int .i32 0] 42) = W := ⟨_, rfl⟩
  rw [hwb] at HXC HBX
  go_wp2_with fail
  try simp only [hwb]
  obtain ⟨⟨z0, z1⟩, ⟨z2, z3⟩, z4, z5⟩ := HXC.out wb (Below.refl _ _)
  refine wp_calm ?_
  refine wp_region_held_drew (S := fun w' : World => (w'.cell? ⟨g, N * 2, none⟩ = some (.int .i32 (-77)) ∧ w'.cell? ⟨g, N * 2 + 1, none⟩ = some (.int .i32 0)) ∧ (w'.cell? ⟨g, N * 2 + 2, none⟩ = some (.int .i32 (-77)) ∧ w'.cell? ⟨g, N * 2 + 2 + 1, none⟩ = some (.int .i32 0)) ∧ w'.cell? ⟨w.heap.size, 0, none⟩ = some (.int .i32 (-77)) ∧ w'.cell? ⟨w.heap.size, 1, none⟩ = some (.int .i32 0)) (by kernel_rfl) (HXC.out _ (Below.refl _ _).drew) (fun hSS => ?_)
  show wpAnyH _ _ _ _ _ 23 #[false, false, false, false, false, false, false, false, false, false, false, false, false, false, false, false, false, false, false, false, false, false, false] _ _
  refine take_one (i := 0) (d := (some 14)) (v := _) (l' := #[true, false, false, false, false, false, false, false, false, false, false, false, false, false, false, false, false, false, false, false, false, false, false]) (by rw [List.getElem?_toArray]; rfl) rfl (by kernel_rfl) (by kernel_rfl) (by kernel_rfl) rfl (fun _ _ _ h => by cases h.1) (Or.inl ⟨by rfl, fun w' hSw => by (try dsimp only at hSw); go_simp; try with_reducible rfl⟩) hSS ?_
  simp only [Act.put, List.setIfInBounds_toArray, List.set_cons_zero, List.set_cons_succ]
  refine take_one (i := 1) (d := (some 15)) (v := _) (l' := #[true, true, false, false, false, false, false, false, false, false, false, false, false, false, false, false, false, false, false, false, false, false, false]) (by rw [List.getElem?_toArray]; rfl) rfl (by kernel_rfl) (by kernel_rfl) (by kernel_rfl) rfl (fun _ _ _ h => by cases h.1) (Or.inl ⟨by rfl, fun w' hSw => by (try dsimp only at hSw); go_simp; try with_reducible rfl⟩) hSS ?_
  simp only [Act.put, List.setIfInBounds_toArray, List.set_cons_zero, List.set_cons_succ]
  refine come_one (i := 2) (l' := #[true, true, true, false, false, false, false, false, false, false, false, false, false, false, false, false, false, false, false, false, false, false, false]) (by rw [List.getElem?_toArray]; rfl) (by kernel_rfl) rfl (fun K' hK => ?_)
  go_simp
  go_at_call 35; refine (hsame.out wb.drew HBX.out.drew).mono ?_; rintro e wh ⟨rfl, hbz⟩; have hh : Below wb.heap.size wb wh := (show Below wb.heap.size wb wb.drew from (Below.refl _ _).drew).trans hbz; clear hbz
  refine hK.out _ _ (HXC.out _ hh) (fun hSS => ?_)
  try simp only [Act.put, List.setIfInBounds_toArray, List.set_cons_zero, List.set_cons_succ]
  refine take_one (i := 3) (d := (some 17)) (v := _) (l' := #[true, true, true, true, false, false, false, false, false, false, false, false, false, false, false, false, false, false, false, false, false, false, false]) (by rw [List.getElem?_toArray]; rfl) rfl (by kernel_rfl) (by kernel_rfl) (by kernel_rfl) rfl (fun _ _ _ h => by cases h.1) (Or.inl ⟨by rfl, fun w' hSw => by (try dsimp only at hSw); go_simp; try with_reducible rfl⟩) hSS ?_
  simp only [Act.put, List.setIfInBounds_toArray, List.set_cons_zero, List.set_cons_succ]
  refine take_one (i := 4) (d := (some 18)) (v := _) (l' := #[true, true, true, true, true, false, false, false, false, false, false, false, false, false, false, false, false, false, false, false, false, false, false]) (by rw [List.getElem?_toArray]; rfl) rfl (by kernel_rfl) (by kernel_rfl) (by kernel_rfl) rfl (fun _ _ _ h => by cases h.1) (Or.inl ⟨by rfl, fun w' hSw => by (try dsimp only at hSw); go_simp; try with_reducible rfl⟩) hSS ?_
  simp only [Act.put, List.setIfInBounds_toArray, List.set_cons_zero, List.set_cons_succ]
  refine take_one (i := 5) (d := (some 19)) (v := _) (l' := #[true, true, true, true, true, true, false, false, false, false, false, false, false, false, false, false, false, false, false, false, false, false, false]) (by rw [List.getElem?_toArray]; rfl) rfl (by kernel_rfl) (by kernel_rfl) (by kernel_rfl) rfl (fun _ _ _ h => by cases h.1) (Or.inl ⟨by rfl, fun w' hSw => by (try dsimp only at hSw); go_simp; try with_reducible rfl⟩) hSS ?_
  simp only [Act.put, List.setIfInBounds_toArray, List.set_cons_zero, List.set_cons_succ]
  refine take_one (i := 6) (d := (some 20)) (v := _) (l' := #[true, true, true, true, true, true, true, false, false, false, false, false, false, false, false, false, false, false, false, false, false, false, false]) (by rw [List.getElem?_toArray]; rfl) rfl (by kernel_rfl) (by kernel_rfl) (by kernel_rfl) rfl (fun _ _ _ h => by cases h.1) (Or.inl ⟨by rfl, fun w' hSw => by (try dsimp only at hSw); go_simp; try with_reducible rfl⟩) hSS ?_
  simp only [Act.put, List.setIfInBounds_toArray, List.set_cons_zero, List.set_cons_succ]
  refine take_one (i := 7) (d := (some 21)) (v := _) (l' := #[true, true, true, true, true, true, true, true, false, false, false, false, false, false, false, false, false, false, false, false, false, false, false]) (by rw [List.getElem?_toArray]; rfl) rfl (by kernel_rfl) (by kernel_rfl) (by kernel_rfl) rfl (fun _ _ _ h => by cases h.1) (Or.inl ⟨by rfl, fun w' hSw => by (try dsimp only at hSw); go_simp; try with_reducible rfl⟩) hSS ?_
  simp only [Act.put, List.setIfInBounds_toArray, List.set_cons_zero, List.set_cons_succ]
  refine take_one (i := 8) (d := (some 22)) (v := _) (l' := #[true, true, true, true, true, true, true, true, true, false, false, false, false, false, false, false, false, false, false, false, false, false, false]) (by rw [List.getElem?_toArray]; rfl) rfl (by kernel_rfl) (by kernel_rfl) (by kernel_rfl) rfl (fun _ _ _ h => by cases h.1) (Or.inl ⟨by rfl, fun w' hSw => by (try dsimp only at hSw); go_simp; try with_reducible rfl⟩) hSS ?_
  simp only [Act.put, List.setIfInBounds_toArray, List.set_cons_zero, List.set_cons_succ]
  refine take_one (i := 9) (d := (some 23)) (v := _) (l' := #[true, true, true, true, true, true, true, true, true, true, false, false, false, false, false, false, false, false, false, false, false, false, false]) (by rw [List.getElem?_toArray]; rfl) rfl (by kernel_rfl) (by kernel_rfl) (by kernel_rfl) rfl (fun _ _ _ h => by cases h.1) (Or.inl ⟨by rfl, fun w' hSw => by (try dsimp only at hSw); go_simp; try with_reducible rfl⟩) hSS ?_
  simp only [Act.put, List.setIfInBounds_toArray, List.set_cons_zero, List.set_cons_succ]
  refine take_one (i := 10) (d := (some 24)) (v := _) (l' := #[true, true, true, true, true, true, true, true, true, true, true, false, false, false, false, false, false, false, false, false, false, false, false]) (by rw [List.getElem?_toArray]; rfl) rfl (by kernel_rfl) (by kernel_rfl) (by kernel_rfl) rfl (fun _ _ _ h => by cases h.1) (Or.inl ⟨by rfl, fun w' hSw => by (try dsimp only at hSw); go_simp; try with_reducible rfl⟩) hSS ?_
  simp only [Act.put, List.setIfInBounds_toArray, List.set_cons_zero, List.set_cons_succ]
  refine take_one (i := 11) (d := (some 25)) (v := _) (l' := #[true, true, true, true, true, true, true, true, true, true, true, true, false, false, false, false, false, false, false, false, false, false, false]) (by rw [List.getElem?_toArray]; rfl) rfl (by kernel_rfl) (by kernel_rfl) (by kernel_rfl) rfl (fun _ _ _ h => by cases h.1) (Or.inl ⟨by rfl, fun w' hSw => by (try dsimp only at hSw); go_simp; try with_reducible rfl⟩) hSS ?_
  simp only [Act.put, List.setIfInBounds_toArray, List.set_cons_zero, List.set_cons_succ]
  refine take_one (i := 12) (d := (some 26)) (v := _) (l' := #[true, true, true, true, true, true, true, true, true, true, true, true, true, false, false, false, false, false, false, false, false, false, false]) (by rw [List.getElem?_toArray]; rfl) rfl (by kernel_rfl) (by kernel_rfl) (by kernel_rfl) rfl (fun _ _ _ h => by cases h.1) (Or.inl ⟨by rfl, fun w' hSw => by (try dsimp only at hSw); go_simp; try with_reducible rfl⟩) hSS ?_
  simp only [Act.put, List.setIfInBounds_toArray, List.set_cons_zero, List.set_cons_succ]
  refine take_one (i := 13) (d := (some 27)) (v := _) (l' := #[true, true, true, true, true, true, true, true, true, true, true, true, true, true, false, false, false, false, false, false, false, false, false]) (by rw [List.getElem?_toArray]; rfl) rfl (by kernel_rfl) (by kernel_rfl) (by kernel_rfl) rfl (fun _ _ _ h => by cases h.1) (Or.inl ⟨by rfl, fun w' hSw => by (try dsimp only at hSw); go_simp; try with_reducible rfl⟩) hSS ?_
  simp only [Act.put, List.setIfInBounds_toArray, List.set_cons_zero, List.set_cons_succ]
  refine take_one (i := 14) (d := (some 28)) (v := _) (l' := #[true, true, true, true, true, true, true, true, true, true, true, true, true, true, true, false, false, false, false, false, false, false, false]) (by rw [List.getElem?_toArray]; rfl) rfl (by kernel_rfl) (by kernel_rfl) (by kernel_rfl) rfl (fun _ _ _ h => by cases h.1) (Or.inl ⟨by rfl, fun w' hSw => by (try dsimp only at hSw); go_simp; try with_reducible rfl⟩) hSS ?_
  simp only [Act.put, List.setIfInBounds_toArray, List.set_cons_zero, List.set_cons_succ]
  refine take_one (i := 15) (d := (some 29)) (v := _) (l' := #[true, true, true, true, true, true, true, true, true, true, true, true, true, true, true, true, false, false, false, false, false, false, false]) (by rw [List.getElem?_toArray]; rfl) rfl (by kernel_rfl) (by kernel_rfl) (by kernel_rfl) rfl (fun _ _ _ h => by cases h.1) (Or.inl ⟨by rfl, fun w' hSw => by (try dsimp only at hSw); go_simp; try with_reducible rfl⟩) hSS ?_
  simp only [Act.put, List.setIfInBounds_toArray, List.set_cons_zero, List.set_cons_succ]
  refine take_one (i := 16) (d := (some 30)) (v := _) (l' := #[true, true, true, true, true, true, true, true, true, true, true, true, true, true, true, true, true, false, false, false, false, false, false]) (by rw [List.getElem?_toArray]; rfl) rfl (by kernel_rfl) (by kernel_rfl) (by kernel_rfl) rfl (fun _ _ _ h => by cases h.1) (Or.inl ⟨by rfl, fun w' hSw => by (try dsimp only at hSw); go_simp; try with_reducible rfl⟩) hSS ?_
  simp only [Act.put, List.setIfInBounds_toArray, List.set_cons_zero, List.set_cons_succ]
  refine take_one (i := 17) (d := (some 31)) (v := _) (l' := #[true, true, true, true, true, true, true, true, true, true, true, true, true, true, true, true, true, true, false, false, false, false, false]) (by rw [List.getElem?_toArray]; rfl) rfl (by kernel_rfl) (by kernel_rfl) (by kernel_rfl) rfl (fun _ _ _ h => by cases h.1) (Or.inl ⟨by rfl, fun w' hSw => by (try dsimp only at hSw); go_simp; try with_reducible rfl⟩) hSS ?_
  simp only [Act.put, List.setIfInBounds_toArray, List.set_cons_zero, List.set_cons_succ]
  refine take_one (i := 18) (d := (some 32)) (v := _) (l' := #[true, true, true, true, true, true, true, true, true, true, true, true, true, true, true, true, true, true, true, false, false, false, false]) (by rw [List.getElem?_toArray]; rfl) rfl (by kernel_rfl) (by kernel_rfl) (by kernel_rfl) rfl (fun _ _ _ h => by cases h.1) (Or.inl ⟨by rfl, fun w' hSw => by (try dsimp only at hSw); go_simp; try with_reducible rfl⟩) hSS ?_
  simp only [Act.put, List.setIfInBounds_toArray, List.set_cons_zero, List.set_cons_succ]
  refine take_one (i := 19) (d := (some 33)) (v := _) (l' := #[true, true, true, true, true, true, true, true, true, true, true, true, true, true, true, true, true, true, true, true, false, false, false]) (by rw [List.getElem?_toArray]; rfl) rfl (by kernel_rfl) (by kernel_rfl) (by kernel_rfl) rfl (fun _ _ _ h => by cases h.1) (Or.inl ⟨by rfl, fun w' hSw => by (try dsimp only at hSw); go_simp; try with_reducible rfl⟩) hSS ?_
  simp only [Act.put, List.setIfInBounds_toArray, List.set_cons_zero, List.set_cons_succ]
  refine take_one (i := 20) (d := (some 34)) (v := _) (l' := #[true, true, true, true, true, true, true, true, true, true, true, true, true, true, true, true, true, true, true, true, true, false, false]) (by rw [List.getElem?_toArray]; rfl) rfl (by kernel_rfl) (by kernel_rfl) (by kernel_rfl) rfl (fun _ _ _ h => by cases h.1) (Or.inl ⟨by rfl, fun w' hSw => by (try dsimp only at hSw); go_simp; try with_reducible rfl⟩) hSS ?_
  simp only [Act.put, List.setIfInBounds_toArray, List.set_cons_zero, List.set_cons_succ]
  refine take_one (i := 21) (d := (some 35)) (v := _) (l' := #[true, true, true, true, true, true, true, true, true, true, true, true, true, true, true, true, true, true, true, true, true, true, false]) (by rw [List.getElem?_toArray]; rfl) rfl (by kernel_rfl) (by kernel_rfl) (by kernel_rfl) rfl (fun _ _ _ h => by cases h.1) (Or.inl ⟨by rfl, fun w' hSw => by (try dsimp only at hSw); go_simp; try with_reducible rfl⟩) hSS ?_
  simp only [Act.put, List.setIfInBounds_toArray, List.set_cons_zero, List.set_cons_succ]
  refine take_one (i := 22) (d := (some 6)) (v := _) (l' := #[true, true, true, true, true, true, true, true, true, true, true, true, true, true, true, true, true, true, true, true, true, true, true]) (by rw [List.getElem?_toArray]; rfl) rfl (by kernel_rfl) (by kernel_rfl) (by kernel_rfl) rfl (fun _ _ _ h => by cases h.1) (Or.inl ⟨by rfl, fun w' hSw => by (try dsimp only at hSw); go_simp; try with_reducible rfl⟩) hSS ?_
  simp only [Act.put, List.setIfInBounds_toArray, List.set_cons_zero, List.set_cons_succ]
  refine wpAnyH_done (by kernel_rfl) ?_ _
  refine ⟨rfl, ?_⟩
  go_wp2_with fail
  go_ret
  exact ⟨rfl, HBX.out.trans (hh.mono HBX.out.size)⟩
end Go.Proofs.Ytianappapfpbeaa
