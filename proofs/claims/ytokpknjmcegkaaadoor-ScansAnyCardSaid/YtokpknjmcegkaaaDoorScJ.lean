/- Contracts of places and of what it makes. -/
import Derived.Test.YtokpknjmcegkaaaDoorScI
import Derived.Deep.RegionWith
import Derived.Deep.RegionHeld3
import Derived.Deep.DeepCutAuto
namespace Go.Proofs.YtokpknjmcegkaaaDoor
open Go Go.RowKit Ru
set_option maxRecDepth 100000

theorem far_cell (w : World) (a : Addr) (u : Value) (b o : Nat) (h : b ≠ a.block) : (w.setCell a u).cell? ⟨b, o, none⟩ = w.cell? ⟨b, o, none⟩ := World.cell?_of_block (Below.heap_setCell w a u b h)
theorem old_cells {W w1 : World} (hb : Below W.heap.size W w1) : (∀ b o, b < W.heap.size → w1.cell? ⟨b, o, none⟩ = W.cell? ⟨b, o, none⟩) ∧ (∀ b o, b < W.heap.size → w1.frozen? ⟨b, o, none⟩ = W.frozen? ⟨b, o, none⟩) :=
  ⟨fun b o h => hb.cell (p := ⟨b, o, none⟩) h, fun b o h => hb.frozen (p := ⟨b, o, none⟩) h⟩
theorem plc_le (l : List UInt8) : 1 ≤ (place l).1 ∧ 1 ≤ (place l).2 ∧ (place l).1 ≤ l.length + 1 ∧ (place l).2 ≤ l.length + 1 := by
  have := pl_le l.length l 1 1 (by omega)
  unfold place
  omega
theorem plc_join (a x : List UInt8) (ha : bad a = -1) : place (a ++ x) = ((place a).1 + (place x).1 - 1, if (place x).1 = 1 then (place a).2 + (place x).2 - 1 else (place x).2) := by
  have h := pl_app a.length a x 0 1 1 (Nat.le_refl _) ha
  have hp := pl_le a.length a 1 1 (by omega)
  unfold place
  rw [List.length_append, h, pl_from _ _ _ _ (by omega) (by omega)]
/-- A place, as Go has it. -/
def posV (l : List UInt8) (a : Nat) : Value := .agg #[.int .i64 a, .int .i64 (place (l.take a)).1, .int .i64 (place (l.take a)).2]
theorem Bk.drew {w : World} {b : Nat} {t : TypeId} {cs : Array Value} (h : Bk w b t cs) : Bk w.drew b t cs := h
theorem gb_of {w a : World} {row : Option Nat} (h : Below w.heap.size w a) : w.grownBy a row := ⟨h.os, h.tape, h.output, h.size, fun k hk _ => h.block k hk⟩
theorem gb_set {w a : World} {row : Option Nat} (h : w.grownBy a row) (p : Addr) (u : Value) (hp : w.heap.size ≤ p.block ∨ row = some p.block) : w.grownBy (a.setCell p u) row := by
  refine ⟨h.os, h.tape, h.output, by simp [World.setCell]; exact h.size, fun k hk hr => ?_⟩
  rw [Below.heap_setCell _ _ _ _ ?_]
  · exact h.block k hk hr
  · rcases hp with hp | hp
    · omega
    · intro e
      subst e
      exact hr hp.symm
theorem gb_drew {w a : World} {row : Option Nat} (h : w.grownBy a row) : w.grownBy a.drew row := ⟨h.os, h.tape, h.output, h.size, h.block⟩
/-- What stands when the inner place is known. -/
def Mid (w : World) (A L C : Int) (s5 : Value) (wx : World) : Prop := ∃ g : Nat, s5 = .pointer (some ⟨g, 0, none⟩) ∧ w.heap.size < g ∧ Bk wx g 26 #[.int .i64 A, .int .i64 L, .int .i64 C] ∧ Bk wx w.heap.size 26 #[.int .i64 0, .int .i64 0, .int .i64 0] ∧ Below w.heap.size w wx
set_option maxHeartbeats 4000000 in
theorem placed_any (s : ByteArray) (bS bL q at' : Nat) (w : World) (hs : s.size ≤ 140737488355328) (hq : q ≤ at') (ha : at' ≤ s.size) (hne : bS ≠ bL) (L C L2 C2 L3 C3 : Int)
    (hS : Bk w bS 9 #[.string s]) (hL : Bk w bL 26 #[.int .i64 q, .int .i64 L, .int .i64 C]) (hL0 : 1 ≤ L) (hL1 : L ≤ 140737488355329) (hC0 : 1 ≤ C) (hC1 : C ≤ 140737488355329)
    (hP : ∀ w, Calls Tryd.prog 14 #[.string (s.extract q at'), .int .i64 ((at' : Int) - (q : Int))] w fun e w' => e = .returned (.agg #[.int .i64 ((at' : Int) - (q : Int)), .int .i64 L2, .int .i64 C2]) ∧ Below w.heap.size w w')
    (h20 : 1 ≤ L2) (h21 : L2 ≤ 140737488355329) (h22 : 1 ≤ C2) (h23 : C2 ≤ 140737488355329)
    (h3 : L3 = L2 + L - 1) (h4 : C3 = if L2 = 1 then C2 + (C - 1) else C2) :
    Calls Tryd.prog 30 #[.int .i64 at', .pointer (some ⟨bS, 0, none⟩), .pointer (some ⟨bL, 0, none⟩)] w fun e w' => e = .returned (.agg #[.int .i64 at', .int .i64 L3, .int .i64 C3]) ∧ w.grownBy w' (some bL) ∧ Bk w' bL 26 #[.int .i64 at', .int .i64 L3, .int .i64 C3] := by
  have HS := Lib.hid hS
  have HL := Lib.hid hL
  have HP := Lib.hid hP
  have H3 := Lib.hid h3
  have H4 := Lib.hid h4
  have sl := hS.lt
  have ll := hL.lt
  have s0 := hS.cell 0
  have l0 := hL.cell 0
  have l1 := hL.cell 1
  have l2 := hL.cell 2
  have g0 := hL.free 0
  have g1 := hL.free 1
  have g2 := hL.free 2
  simp at s0 l0 l1 l2
  have a0 : (0 : Int) ≤ (q : Int) := by omega
  have a1 : (q : Int) ≤ (at' : Int) := by omega
  have a2 : (at' : Int) ≤ (s.size : Int) := by omega
  have x1 : IntKind.i64.wrap ((at' : Int) - (q : Int)) = (at' : Int) - (q : Int) := IntWalk.i64_in _ (by omega)
  have ns0 : ¬ bS = w.heap.size := by omega
  have ns1 : ¬ bS = w.heap.size + 1 := by omega
  have nl0 : ¬ bL = w.heap.size := by omega
  have nl1 : ¬ bL = w.heap.size + 1 := by omega
  clear hP h3 h4
  go_enter Tryd.func30, Tryd.ntmps30
  go_upto_region 1 with fail
  go_cut [5] (fun s5 wx => Mid w ((at' : Int) - (q : Int)) L2 C2 s5 wx)
  case first =>
    go_region_held3 (fun w' => w'.cell? ⟨bS, 0, none⟩ = some (.string s) ∧ w'.cell? ⟨bL, 0, none⟩ = some (.int .i64 q)) (first | go_keep | (refine ⟨?_, ?_⟩ <;> (rw [far_cell _ _ _ _ _ (by simp <;> omega), far_cell _ _ _ _ _ (by simp <;> omega), far_cell _ _ _ _ _ (by simp <;> omega)]; assumption)))
      (first | (go_at_call 14; refine (HP.out _).mono ?_; rintro e w2 ⟨rfl, b2⟩; obtain ⟨bc, bf⟩ := old_cells b2; have hz : w.heap.size + 1 ≤ w2.heap.size := (by have := b2.size; simp at this; omega); have ns2 : ¬ bS = w2.heap.size := (by omega); have nl2 : ¬ bL = w2.heap.size := (by omega); have k0 : w2.cell? ⟨bS, 0, none⟩ = some (.string s) := (b2.cell (p := ⟨bS, 0, none⟩) (by simp <;> omega)).trans (by simp [*]); have k1 : w2.cell? ⟨bL, 0, none⟩ = some (.int .i64 q) := (b2.cell (p := ⟨bL, 0, none⟩) (by simp <;> omega)).trans (by simp [*])))
    · have b3 : Below (w.alloc (.cells #[.int .i64 0, .int .i64 0, .int .i64 0] 26)).heap.size (w.alloc (.cells #[.int .i64 0, .int .i64 0, .int .i64 0] 26)) w2 := ⟨b2.os, b2.tape, b2.output, b2.size, b2.block⟩
      have HB := Lib.hid b3
      clear b2 b3
      go_wp2_with fail
      go_meet
      exact ⟨w2.heap.size, rfl, by omega, Bk.made _ _ _, ((Bk.made w _ _).below HB.out (by simp)).alloc _, (((Below.refl _ w).alloc (Nat.le_refl _) _).trans (HB.out.mono (by simp))).alloc (by omega) _⟩
    · have b3 : Below ((w.alloc (.cells #[.int .i64 0, .int .i64 0, .int .i64 0] 26)).alloc (.cells #[.int .i64 0, .int .i64 0, .int .i64 0] 26)).heap.size ((w.alloc (.cells #[.int .i64 0, .int .i64 0, .int .i64 0] 26)).alloc (.cells #[.int .i64 0, .int .i64 0, .int .i64 0] 26)) w2 := ⟨b2.os, b2.tape, b2.output, b2.size, b2.block⟩
      have HB := Lib.hid b3
      have K := (Bk.made (w.alloc (.cells #[.int .i64 0, .int .i64 0, .int .i64 0] 26)) 26 #[.int .i64 0, .int .i64 0, .int .i64 0]).below b3 (by simp)
      rw [World.size_alloc] at K
      have HK := Lib.hid K
      clear b2 b3 K
      go_wp2_with fail
      go_meet
      refine ⟨w.heap.size + 1, rfl, by omega, ((HK.out.set 0 _).set 1 _).set 2 _, ?_, ?_⟩
      · exact ((((((Bk.made w _ _).alloc _).below HB.out (by simp <;> omega)).other _ _ (by simp)).other _ _ (by simp)).other _ _ (by simp))
      · exact ((((((Below.refl _ w).alloc (Nat.le_refl _) _).alloc (by simp) _).trans (HB.out.mono (by simp <;> omega))).setCell (by simp) _).setCell (by simp) _).setCell (by simp) _
  case rest =>
    obtain ⟨g, rfl, hg, hK, hZ, hB⟩ := hcut
    have HK := Lib.hid hK
    have HZ := Lib.hid hZ
    have HB := Lib.hid hB
    have HL2 := Lib.hid (HL.out.below hB ll)
    have k0 := hK.cell 0
    have k1 := hK.cell 1
    have k2 := hK.cell 2
    have kf0 := hK.free 0
    have kf1 := hK.free 1
    have kf2 := hK.free 2
    have z0 := hZ.cell 0
    have z1 := hZ.cell 1
    have z2 := hZ.cell 2
    have zf0 := hZ.free 0
    have zf1 := hZ.free 1
    have zf2 := hZ.free 2
    have m0 := HL2.out.cell 0
    have m1 := HL2.out.cell 1
    have m2 := HL2.out.cell 2
    have mf0 := HL2.out.free 0
    have mf1 := HL2.out.free 1
    have mf2 := HL2.out.free 2
    simp at k0 k1 k2 m0 m1 m2 z0 z1 z2
    have n1 : ¬ g = bL := by omega
    have n2 : ¬ g = w.heap.size := by omega
    have n3 : ¬ bL = g := by omega
    have n4 : ¬ w.heap.size = g := by omega
    have n5 : ¬ w.heap.size = bL := by omega
    have sz := hZ.lt
    have sg := hK.lt
    clear hK hZ hB s0 l0 l1 l2 g0 g1 g2
    by_cases h1 : L2 = 1
    · have t1 : (L2 == 1) = true := by rw [beq_iff_eq]; exact h1
      have HC3 := Lib.hid (show C3 = C2 + (C - 1) by rw [H4.out, if_pos h1])
      clear h1
      go_wp2_with fail
      go_region
      go_wp2_with fail
      have G := Lib.hid (Bk.drew (((((((((HZ.out.other ⟨g, 2, none⟩ (.int .i64 (C2 + (C - 1))) (by simp <;> omega)).other ⟨g, 0, none⟩ (.int .i64 at') (by simp <;> omega)).other ⟨g, 1, none⟩ (.int .i64 (L2 + L - 1)) (by simp <;> omega)).other ⟨bL, 0, none⟩ (.int .i64 at') (by simp <;> omega)).other ⟨bL, 1, none⟩ (.int .i64 (L2 + L - 1)) (by simp <;> omega)).other ⟨bL, 2, none⟩ (.int .i64 (C2 + (C - 1))) (by simp <;> omega)).set 0 (.int .i64 at')).set 1 (.int .i64 (L2 + L - 1))).set 2 (.int .i64 (C2 + (C - 1)))))
      refine bodyPost_ret (v := .agg #[.int .i64 at', .int .i64 (L2 + L - 1), .int .i64 (C2 + (C - 1))]) ?_ rfl ?_
      · have y0 := G.out.cell 0
        have y1 := G.out.cell 1
        have y2 := G.out.cell 2
        clear k0 k1 k2 kf0 kf1 kf2 m0 m1 m2 mf0 mf1 mf2 z0 z1 z2 zf0 zf1 zf2
        simp at y0 y1 y2
        simp [results, Tryd.results30, go_sem, y0, y1, y2]
      · rw [H3.out, HC3.out]
        refine ⟨rfl, gb_drew ?_, ?_⟩
        · iterate 9 (refine gb_set ?_ _ _ ?far; case far => (first | exact Or.inr rfl | (refine Or.inl ?_; simp <;> omega)))
          exact gb_of HB.out
        · exact Bk.drew (((((((((HL2.out.other _ _ (by simp <;> omega)).other _ _ (by simp <;> omega)).other _ _ (by simp <;> omega)).set 0 _).set 1 _).set 2 _).other _ _ (by simp <;> omega)).other _ _ (by simp <;> omega)).other _ _ (by simp <;> omega))
    · have t1 : (L2 == 1) = false := by rw [beq_eq_false_iff_ne]; exact h1
      have HC3 := Lib.hid (show C3 = C2 by rw [H4.out, if_neg h1])
      clear h1
      go_wp2_with fail
      go_region
      go_wp2_with fail
      have G := Lib.hid (Bk.drew ((((((((HZ.out.other ⟨g, 0, none⟩ (.int .i64 at') (by simp <;> omega)).other ⟨g, 1, none⟩ (.int .i64 (L2 + L - 1)) (by simp <;> omega)).other ⟨bL, 0, none⟩ (.int .i64 at') (by simp <;> omega)).other ⟨bL, 1, none⟩ (.int .i64 (L2 + L - 1)) (by simp <;> omega)).other ⟨bL, 2, none⟩ (.int .i64 (C2)) (by simp <;> omega)).set 0 (.int .i64 at')).set 1 (.int .i64 (L2 + L - 1))).set 2 (.int .i64 (C2))))
      refine bodyPost_ret (v := .agg #[.int .i64 at', .int .i64 (L2 + L - 1), .int .i64 (C2)]) ?_ rfl ?_
      · have y0 := G.out.cell 0
        have y1 := G.out.cell 1
        have y2 := G.out.cell 2
        clear k0 k1 k2 kf0 kf1 kf2 m0 m1 m2 mf0 mf1 mf2 z0 z1 z2 zf0 zf1 zf2
        simp at y0 y1 y2
        simp [results, Tryd.results30, go_sem, y0, y1, y2]
      · rw [H3.out, HC3.out]
        refine ⟨rfl, gb_drew ?_, ?_⟩
        · iterate 8 (refine gb_set ?_ _ _ ?far; case far => (first | exact Or.inr rfl | (refine Or.inl ?_; simp <;> omega)))
          exact gb_of HB.out
        · exact Bk.drew ((((((((HL2.out.other _ _ (by simp <;> omega)).other _ _ (by simp <;> omega)).set 0 _).set 1 _).set 2 _).other _ _ (by simp <;> omega)).other _ _ (by simp <;> omega)).other _ _ (by simp <;> omega))
end Go.Proofs.YtokpknjmcegkaaaDoor
