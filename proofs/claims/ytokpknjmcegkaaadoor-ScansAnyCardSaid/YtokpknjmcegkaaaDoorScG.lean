/- Contracts of slices.Clip and of set. -/
import Derived.Test.YtokpknjmcegkaaaDoorScF
import Derived.OwnWalk
namespace Go.Proofs.YtokpknjmcegkaaaDoor
open Go Go.RowKit Ru
set_option maxRecDepth 100000

theorem Clip_Range_some (a : Addr) (n cap : Nat) (hn : n ≤ cap) (hc : cap ≤ 9223372036854775807) (w : World) :
    Calls Tryd.prog 57 #[.slice (some a) n cap] w fun e w' => e = .returned (.slice (some a) n n) ∧ w = w' := by
  have a0 : (n : Int) ≤ (cap : Int) := by omega
  go_enter Tryd.func57, Tryd.ntmps57
  go_wp2
  go_ret
  exact ⟨rfl, rfl⟩
theorem Clip_Range_nil (w : World) :
    Calls Tryd.prog 57 #[.slice none 0 0] w fun e w' => e = .returned (.slice none 0 0) ∧ w = w' := by
  go_enter Tryd.func57, Tryd.ntmps57
  go_wp2
  go_ret
  exact ⟨rfl, rfl⟩
theorem Clip_Word_some (a : Addr) (n cap : Nat) (hn : n ≤ cap) (hc : cap ≤ 9223372036854775807) (w : World) :
    Calls Tryd.prog 18 #[.slice (some a) n cap] w fun e w' => e = .returned (.slice (some a) n n) ∧ w = w' := by
  have a0 : (n : Int) ≤ (cap : Int) := by omega
  go_enter Tryd.func18, Tryd.ntmps18
  go_wp2
  go_ret
  exact ⟨rfl, rfl⟩
theorem Clip_Word_nil (w : World) :
    Calls Tryd.prog 18 #[.slice none 0 0] w fun e w' => e = .returned (.slice none 0 0) ∧ w = w' := by
  go_enter Tryd.func18, Tryd.ntmps18
  go_wp2
  go_ret
  exact ⟨rfl, rfl⟩

theorem own_below {w w' : World} {B : Nat} {e : TypeId} {size : Nat} {v : Value} {n : Nat} {xs : List Value} (h : w.ownsRow B e size v n xs) (hb : Below w.heap.size w w') : w'.ownsRow B e size v n xs := by
  refine ⟨h.1, ?_⟩
  rcases h.2 with h1 | ⟨g, c, cur, h1, h2, h3, h4⟩
  · exact .inl h1
  · exact .inr ⟨g, c, cur, h1, h2, by rw [hb.block g (Array.getElem?_eq_some_iff.1 h3).1]; exact h3, h4⟩
theorem cells_new (w : World) (cs : List Value) (t : TypeId) (j : Nat) (u : Value) (h : cs[j]? = some u) : (w.alloc (.cells cs.toArray t)).cell? ((⟨w.heap.size, 0, none⟩ : Addr).add j) = some u := by
  have hadd : (⟨w.heap.size, 0, none⟩ : Addr).add j = ⟨w.heap.size, j, none⟩ := by unfold Addr.add; split <;> simp_all
  rw [hadd, (Bk.made w t cs.toArray).cell]
  simpa using h
theorem Tryd.infoRange : (Tryd.prog.info? 40).map (fun i => (i.zero, i.size, i.bytes)) = some (some (.agg #[.int .i32 0, .int .i32 0]), 2, 8) := by kernel_rfl

/-- What holds at the head of a round of set's loop: p is where it stands, st what was read. -/
def InSet (s : ByteArray) (w : World) (p : Nat) (st : List (Nat × Nat)) (v : Value) (wr : World) : Prop :=
  1 ≤ p ∧ p ≤ s.size ∧ st.length ≤ p ∧
  (Sc.items Sc.partL s.data.toList.length (s.data.toList.drop 1)).1 = st ++ (Sc.items Sc.partL s.data.toList.length (s.data.toList.drop p)).1 ∧
  1 + (Sc.items Sc.partL s.data.toList.length (s.data.toList.drop 1)).2 = p + (Sc.items Sc.partL s.data.toList.length (s.data.toList.drop p)).2 ∧
  Bk wr w.heap.size 38 #[.int .u8 0, .string ⟨#[]⟩, .slice none 0 0, .int .i64 0, .int .i64 0, .int .i64 0] ∧ wr.ownsRow (w.heap.size + 1) 40 2 v st.length (setCells st) ∧ Below w.heap.size w wr
theorem InSet.start (s : ByteArray) (w : World) (hs : 1 ≤ s.size) : InSet s w 1 [] (.slice none 0 0) (w.alloc (.cells #[.int .u8 0, .string ⟨#[]⟩, .slice none 0 0, .int .i64 0, .int .i64 0, .int .i64 0] 38)) := by
  refine ⟨Nat.le_refl _, hs, by simp, by simp, rfl, Bk.made _ _ _, World.ownsRow_nil _ _ _ _, (Below.refl _ w).alloc (Nat.le_refl _) _⟩
theorem InSet.below {s : ByteArray} {w : World} {p : Nat} {st : List (Nat × Nat)} {v : Value} {wr w1 : World} (h : InSet s w p st v wr) (hb : Below wr.heap.size wr w1) : InSet s w p st v w1 := by
  obtain ⟨h1, h2, h3, h5, h6, h7, h8, h10⟩ := h
  exact ⟨h1, h2, h3, h5, h6, h7.below hb h7.lt, own_below h8 hb, h10.trans (hb.mono h10.size)⟩
theorem InSet.stop {s : ByteArray} {w : World} {p : Nat} {st : List (Nat × Nat)} {v : Value} {wr : World} (h : InSet s w p st v wr) (hn : Sc.partL (s.data.toList.drop p) = none) :
    Sc.setR s.data.toList = if st = [] then .err 4 else if Lib.hasPrefix (s.data.toList.drop p) [93] = true then .ok 3 [] st (p + 1) else .err 4 := by
  obtain ⟨h1, h2, h3, h5, h6, h7, h8, h10⟩ := h
  rw [Sc.items_none hn, List.append_nil] at h5
  rw [Sc.items_none hn, Nat.add_zero] at h6
  unfold Sc.setR
  rw [h5, h6]
theorem InSet.step {s : ByteArray} {w : World} {p : Nat} {st : List (Nat × Nat)} {v v' : Value} {wr w1 w2 w3 : World} {a b k : Nat} (h : InSet s w p st v wr) (hone : Sc.partL (s.data.toList.drop p) = some ((a, b), k))
    (hb1 : Below wr.heap.size wr w1) (hb2 : Below w1.heap.size w1 w2) (hown : w3.ownsRow (w.heap.size + 1) 40 2 v' (st.length + 1) (setCells st ++ [.int .i32 a, .int .i32 b])) (hg : w2.grownBy w3 v.ownBlock) : InSet s w (p + k) (st ++ [(a, b)]) v' w3 := by
  have h' := h.below (hb1.trans (hb2.mono hb1.size))
  obtain ⟨h1, h2, h3, h5, h6, h7, h8, h10⟩ := h'
  obtain ⟨hk1, hk2, _⟩ := Sc.partL_some hone
  rw [List.length_drop, ← Lib.size_eq] at hk2
  have hit := Sc.items_some Sc.partL_nil (fun l a k h => ⟨(Sc.partL_some h).1, (Sc.partL_some h).2.1⟩) (f := s.data.toList.length) hone (by rw [List.length_drop]; omega)
  rw [List.drop_drop] at hit
  have hlt := h8.lt
  refine ⟨by omega, by omega, by rw [List.length_append, List.length_singleton]; omega, ?_, ?_, h7.grown hg ?_, ?_, h10.grown hg h10.size ?_⟩
  · rw [h5, hit]; simp
  · rw [h6, hit]; omega
  · intro e
    have := hlt _ e.symm
    omega
  · rw [setCells_snoc, List.length_append]
    exact hown
  · intro k hk
    have := hlt k hk
    omega
theorem Row.clip {w : World} {B : Nat} {e : TypeId} {size : Nat} {n g cap : Nat} {xs : List Value} (h : Row w B e size (.slice (some ⟨g, 0, none⟩) n cap) n xs) : Row w B e size (.slice (some ⟨g, 0, none⟩) n n) n xs := by
  refine ⟨h.1, ?_⟩
  rcases h.2 with ⟨h1, _⟩ | ⟨g', c, cur, h1, h2, h3, _, h5⟩
  · cases h1
  · injection h1 with h1
    injection h1 with h1
    injection h1 with h1
    subst h1
    exact .inr ⟨g, n, cur, rfl, h2, h3, Nat.le_refl _, h5⟩
theorem Row.far {w : World} {B : Nat} {e : TypeId} {size : Nat} {v : Value} {n : Nat} {xs : List Value} (h : Row w B e size v n xs) {a : Addr} (ha : a.block < B) (u : Value) : Row (w.setCell a u) B e size v n xs := by
  refine ⟨h.1, ?_⟩
  rcases h.2 with h1 | ⟨g, c, cur, h1, h2, h3, h4⟩
  · exact .inl h1
  · exact .inr ⟨g, c, cur, h1, h2, by rw [Below.heap_setCell _ _ _ _ (by omega)]; exact h3, h4⟩
def StaysSet (s : ByteArray) (w : World) (v a : Value) (wr : World) : Prop := ∃ (p : Nat) (st : List (Nat × Nat)), a = .int .i64 p ∧ InSet s w p st v wr
set_option maxHeartbeats 4000000 in
theorem set_any (s : ByteArray) (w : World) (hs : s.size ≤ 65536) (hn : 1 ≤ s.size) (hE : EnvS w) :
    Calls Tryd.prog 39 #[.string s] w (Tells (Sc.setR s.data.toList) w) := by
  have HE := Lib.hid hE
  have HI := Lib.hid (InSet.start s w hn)
  obtain ⟨i0, hi, hz0, hz1, hz2⟩ := info_parts Tryd.infoRange
  clear hE
  go_enter Tryd.func39, Tryd.ntmps39
  go_wp2_with fail
  go_loopw [5, 6] (fun v a wr => StaysSet s w v a wr) (fun _ a _ => s.size + 1 - (intOf a).toNat)
  case atStart => exact ⟨1, [], rfl, HI.out⟩
  case round =>
    obtain ⟨p, st, rfl, hI⟩ := hrel
    have hp := hI.2.1
    have hp1 := hI.1
    have hst := hI.2.2.1
    have HI2 := Lib.hid hI
    have C := part_any s p wr (by omega) hp (HE.out.below hI.2.2.2.2.2.2.2)
    clear hI HI
    cases hone : Sc.partL (s.data.toList.drop p) with
    | some d =>
      obtain ⟨⟨a, b⟩, k⟩ := d
      obtain ⟨hk1, hk2, _⟩ := Sc.partL_some hone
      rw [List.length_drop, ← Lib.size_eq] at hk2
      rw [hone] at C
      have HO := Lib.hid hone
      unfold partT at C
      dsimp only at C
      replace C := Lib.hid C
      have d0 : ((k : Int) == 0) = false := by rw [beq_eq_false_iff_ne]; omega
      clear hone
      go_wp2_with fail
      refine C.out.mono ?_
      rintro e w1 ⟨rfl, b1⟩
      have HI3 := Lib.hid (HI2.out.below b1)
      have cn := cells_new (w1.alloc (.cells #[.int .i32 a, .int .i32 b] 40)) [.int .i32 a, .int .i32 b] 40
      rw [World.size_alloc] at cn
      have HCN := Lib.hid cn
      have hw0 := HI3.out.2.2.2.2.2.1.lt
      have HB1 := Lib.hid b1
      clear cn b1
      go_wp2_with (at_builtin; refine wpList_append_own _ rfl _ _ 36 rfl (w.heap.size + 1) 40 i0 (.agg #[.int .i32 0, .int .i32 0]) 2 8 Tryd.underlying36 hi hz0 hz1 hz2 rfl (by decide) _ _ _ rfl ((HI3.out.2.2.2.2.2.2.1.alloc _).alloc _) ⟨w1.heap.size + 1, 0, none⟩ 1 1 [.int .i32 a, .int .i32 b] rfl rfl HCN.out (fun x hx => by simp at hx; rcases hx with rfl | rfl <;> rfl) (by unfold maxLen; omega) (by omega) (by simp; omega) ?_; intro v' w3 hown3 hg3 _)
      have HI4 := Lib.hid (HI2.out.step HO.out HB1.out (((Below.refl _ _).alloc (Nat.le_refl _) _).alloc (by simp) _) hown3 hg3)
      clear hown3 hg3 hw0
      exact ⟨⟨p + k, st ++ [(a, b)], by go_num, HI4.out⟩, by simp [intOf]; omega⟩
    | none =>
      have HS := HI2.out.stop hone
      rw [hone] at C
      unfold partT at C
      dsimp only at C
      replace C := Lib.hid C
      obtain ⟨N, hN⟩ : ∃ N, st.length = N := ⟨_, rfl⟩
      have HN := Lib.hid hN
      by_cases hst0 : st = []
      · rw [if_pos hst0] at HS
        replace HS := Lib.hid HS
        obtain ⟨A, cap, hv, hcap⟩ := (Row.of_own HI2.out.2.2.2.2.2.2.1).form
        rw [hN] at hv
        subst hv
        have d0 : ((N : Int) == 0) = true := by
          rw [beq_iff_eq, ← hN, hst0]; rfl
        clear hN hst0 hone
        go_wp2_with fail
        refine C.out.mono ?_
        rintro e w1 ⟨rfl, b1⟩
        have K1 := Lib.hid (HI2.out.below b1).2.2.2.2.2.1
        have hw0 := K1.out.lt
        have HI3 := Lib.hid (HI2.out.below b1)
        clear b1
        have f0 := K1.out.free 0
        have f1 := K1.out.free 1
        have f2 := K1.out.free 2
        have f3 := K1.out.free 3
        have f4 := K1.out.free 4
        have f5 := K1.out.free 5
        have c0 := K1.out.cell 0
        have c1 := K1.out.cell 1
        have c2 := K1.out.cell 2
        have c3 := K1.out.cell 3
        have c4 := K1.out.cell 4
        have c5 := K1.out.cell 5
        simp at c0 c1 c2 c3 c4 c5
        go_wp2_with fail
        have G := Lib.hid (((((((K1.out.set 0 (.int .u8 0)).set 1 (.string ⟨#[]⟩)).set 2 (.slice none 0 0)).set 3 (.int .i64 0)).set 4 (.int .i64 0)).set 5 (.int .i64 0)).alloc (.cells #[.int .i32 0, .int .i32 0] 40))
        refine bodyPost_ret (v := wrV (.err 4) (.slice none 0 0)) ?_ rfl ?_
        · have g0 := G.out.cell 0
          have g1 := G.out.cell 1
          have g2 := G.out.cell 2
          have g3 := G.out.cell 3
          have g4 := G.out.cell 4
          have g5 := G.out.cell 5
          clear c0 c1 c2 c3 c4 c5 f0 f1 f2 f3 f4 f5
          simp at g0 g1 g2 g3 g4 g5
          simp [results, wrV, Tryd.results39, go_sem, g0, g1, g2, g3, g4, g5]
        · rw [HS.out]
          refine ⟨.slice none 0 0, rfl, SetAt.none_ _ _, ?_⟩
          exact ((((((((HI3.out.2.2.2.2.2.2.2).setCell (by simp) _).setCell (by simp) _).setCell (by simp) _).setCell (by simp) _).setCell (by simp) _).setCell (by simp) _)).alloc (by simp; omega) _

      · rw [if_neg hst0] at HS
        have hpos : 0 < st.length := List.length_pos_iff.2 hst0
        obtain ⟨g, cap, hv, hcap⟩ := (Row.of_own HI2.out.2.2.2.2.2.2.1).some_ hpos
        have hcap9 : cap ≤ 9223372036854775807 := by
          rcases HI2.out.2.2.2.2.2.2.1.2 with ⟨h1, _⟩ | ⟨g', c', cur, h1, _, _, _, h5, _⟩
          · rw [h1] at hv; cases hv
          · rw [h1] at hv
            injection hv with _ _ hv
            unfold maxLen at h5
            omega
        rw [hN] at hv hcap
        subst hv
        have d0 : ((N : Int) == 0) = false := by
          rw [beq_eq_false_iff_ne]
          omega
        have a0 : (p : Int) ≤ (s.size : Int) := by omega
        clear hN hst0 hone
        cases hq : Lib.hasPrefix (s.data.toList.drop p) [93] with
        | true =>
          rw [if_pos hq] at HS
          replace HS := Lib.hid HS
          have P := Lib.hid (fun w => Prefix_at s ⟨#[93]⟩ p w true hq)
          clear hq
          go_wp2_with fail
          refine C.out.mono ?_
          rintro e w1 ⟨rfl, b1⟩
          have K1 := Lib.hid (HI2.out.below b1).2.2.2.2.2.1
          have hw0 := K1.out.lt
          have HI3 := Lib.hid (HI2.out.below b1)
          clear b1
          go_wp2_with fail
          refine (P.out _).mono ?_
          rintro e w' ⟨rfl, rfl⟩
          go_wp2_with fail
          refine (Clip_Range_some _ _ _ hcap hcap9 _).mono ?_
          rintro e w' ⟨rfl, rfl⟩
          have f0 := K1.out.free 0
          have f1 := K1.out.free 1
          have f2 := K1.out.free 2
          have f3 := K1.out.free 3
          have f4 := K1.out.free 4
          have f5 := K1.out.free 5
          have c0 := K1.out.cell 0
          have c1 := K1.out.cell 1
          have c2 := K1.out.cell 2
          have c3 := K1.out.cell 3
          have c4 := K1.out.cell 4
          have c5 := K1.out.cell 5
          simp at c0 c1 c2 c3 c4 c5
          go_wp2_with fail
          have G := Lib.hid (((((((K1.out.set 0 (.int .u8 3)).set 1 (.string ⟨#[]⟩)).set 2 (.slice (some ⟨g, 0, none⟩) N N)).set 3 (.int .i64 0)).set 4 (.int .i64 0)).set 5 (.int .i64 0)).alloc (.cells #[.int .i32 0, .int .i32 0] 40))
          refine bodyPost_ret (v := .tuple #[.agg #[.int .u8 3, .string ⟨#[]⟩, .slice (some ⟨g, 0, none⟩) N N, .int .i64 0, .int .i64 0, .int .i64 0], .int .i64 ((p : Int) + 1), .int .i64 0]) ?_ rfl ?_
          · have g0 := G.out.cell 0
            have g1 := G.out.cell 1
            have g2 := G.out.cell 2
            have g3 := G.out.cell 3
            have g4 := G.out.cell 4
            have g5 := G.out.cell 5
            clear c0 c1 c2 c3 c4 c5 f0 f1 f2 f3 f4 f5
            simp at g0 g1 g2 g3 g4 g5
            simp [results, Tryd.results39, go_sem, g0, g1, g2, g3, g4, g5]
          · rw [HS.out]
            refine ⟨.slice (some ⟨g, 0, none⟩) N N, rfl, ?_, ?_⟩
            · unfold SetAt wrSet
              dsimp only
              rw [HN.out]
              have R0 := Row.of_own HI3.out.2.2.2.2.2.2.1
              rw [HN.out] at R0
              exact (((((((R0.clip.far (by simp) _).far (by simp) _).far (by simp) _).far (by simp) _).far (by simp) _).far (by simp) _).below ((Below.refl _ _).alloc (Nat.le_refl _) _)).mono (by omega)
            · exact ((((((((HI3.out.2.2.2.2.2.2.2).setCell (by simp) _).setCell (by simp) _).setCell (by simp) _).setCell (by simp) _).setCell (by simp) _).setCell (by simp) _)).alloc (by simp; omega) _

        | false =>
          rw [if_neg (by rw [hq]; simp)] at HS
          replace HS := Lib.hid HS
          have P := Lib.hid (fun w => Prefix_at s ⟨#[93]⟩ p w false hq)
          clear hq
          go_wp2_with fail
          refine C.out.mono ?_
          rintro e w1 ⟨rfl, b1⟩
          have K1 := Lib.hid (HI2.out.below b1).2.2.2.2.2.1
          have hw0 := K1.out.lt
          have HI3 := Lib.hid (HI2.out.below b1)
          clear b1
          go_wp2_with fail
          refine (P.out _).mono ?_
          rintro e w' ⟨rfl, rfl⟩
          have f0 := K1.out.free 0
          have f1 := K1.out.free 1
          have f2 := K1.out.free 2
          have f3 := K1.out.free 3
          have f4 := K1.out.free 4
          have f5 := K1.out.free 5
          have c0 := K1.out.cell 0
          have c1 := K1.out.cell 1
          have c2 := K1.out.cell 2
          have c3 := K1.out.cell 3
          have c4 := K1.out.cell 4
          have c5 := K1.out.cell 5
          simp at c0 c1 c2 c3 c4 c5
          go_wp2_with fail
          have G := Lib.hid (((((((K1.out.set 0 (.int .u8 0)).set 1 (.string ⟨#[]⟩)).set 2 (.slice none 0 0)).set 3 (.int .i64 0)).set 4 (.int .i64 0)).set 5 (.int .i64 0)).alloc (.cells #[.int .i32 0, .int .i32 0] 40))
          refine bodyPost_ret (v := wrV (.err 4) (.slice none 0 0)) ?_ rfl ?_
          · have g0 := G.out.cell 0
            have g1 := G.out.cell 1
            have g2 := G.out.cell 2
            have g3 := G.out.cell 3
            have g4 := G.out.cell 4
            have g5 := G.out.cell 5
            clear c0 c1 c2 c3 c4 c5 f0 f1 f2 f3 f4 f5
            simp at g0 g1 g2 g3 g4 g5
            simp [results, wrV, Tryd.results39, go_sem, g0, g1, g2, g3, g4, g5]
          · rw [HS.out]
            refine ⟨.slice none 0 0, rfl, SetAt.none_ _ _, ?_⟩
            exact ((((((((HI3.out.2.2.2.2.2.2.2).setCell (by simp) _).setCell (by simp) _).setCell (by simp) _).setCell (by simp) _).setCell (by simp) _).setCell (by simp) _)).alloc (by simp; omega) _

end Go.Proofs.YtokpknjmcegkaaaDoor
