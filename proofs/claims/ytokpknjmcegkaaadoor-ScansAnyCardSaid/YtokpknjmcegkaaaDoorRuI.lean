/- The contract of runes.Place. -/
import Derived.Test.YtokpknjmcegkaaaDoorRuH
namespace Go.Proofs.YtokpknjmcegkaaaDoor
open Go Go.RowKit Ru
set_option maxRecDepth 100000

/-- A block of three cells, known whole. -/
def Three (w : World) (b : Nat) (t : TypeId) (x y z : Value) : Prop := w.heap[b]? = some (.cells #[x, y, z] t (0, 0))
theorem Three.cell0 {w : World} {b : Nat} {t : TypeId} {x y z : Value} (h : Three w b t x y z) : w.cell? ⟨b, 0, none⟩ = some x := by unfold Three at h; simp [World.cell?, h]
theorem Three.cell1 {w : World} {b : Nat} {t : TypeId} {x y z : Value} (h : Three w b t x y z) : w.cell? ⟨b, 1, none⟩ = some y := by unfold Three at h; simp [World.cell?, h]
theorem Three.cell2 {w : World} {b : Nat} {t : TypeId} {x y z : Value} (h : Three w b t x y z) : w.cell? ⟨b, 2, none⟩ = some z := by unfold Three at h; simp [World.cell?, h]
theorem Three.free {w : World} {b : Nat} {t : TypeId} {x y z : Value} (h : Three w b t x y z) (i : Nat) : w.frozen? ⟨b, i, none⟩ = false := by unfold Three at h; simp [World.frozen?, h]
theorem Three.lt {w : World} {b : Nat} {t : TypeId} {x y z : Value} (h : Three w b t x y z) : b < w.heap.size := by unfold Three at h; exact (Array.getElem?_eq_some_iff.1 h).1
theorem Three.set0 {w : World} {b : Nat} {t : TypeId} {x y z : Value} (h : Three w b t x y z) (v : Value) : Three (w.setCell ⟨b, 0, none⟩ v) b t v y z := by
  have hl := h.lt
  unfold Three at h ⊢
  simp only [World.setCell, Array.getElem?_modify, if_true, h, Option.map_some]
  simp
theorem Three.set1 {w : World} {b : Nat} {t : TypeId} {x y z : Value} (h : Three w b t x y z) (v : Value) : Three (w.setCell ⟨b, 1, none⟩ v) b t x v z := by
  have hl := h.lt
  unfold Three at h ⊢
  simp only [World.setCell, Array.getElem?_modify, if_true, h, Option.map_some]
  simp
theorem Three.set2 {w : World} {b : Nat} {t : TypeId} {x y z : Value} (h : Three w b t x y z) (v : Value) : Three (w.setCell ⟨b, 2, none⟩ v) b t x y v := by
  have hl := h.lt
  unfold Three at h ⊢
  simp only [World.setCell, Array.getElem?_modify, if_true, h, Option.map_some]
  simp
theorem Three.other {w : World} {b : Nat} {t : TypeId} {x y z : Value} (h : Three w b t x y z) (a : Addr) (v : Value) (hne : b ≠ a.block) : Three (w.setCell a v) b t x y z := by
  unfold Three at h ⊢
  rw [Below.heap_setCell _ _ _ _ hne]; exact h
theorem Three.alloc {w : World} {b : Nat} {t : TypeId} {x y z : Value} (h : Three w b t x y z) (o : Obj) : Three (w.alloc o) b t x y z := by
  have hl := h.lt
  unfold Three at h ⊢
  rw [Below.heap_alloc _ _ _ hl]; exact h
theorem Three.made (w : World) (t : TypeId) (x y z : Value) : Three (w.alloc (.cells #[x, y, z] t)) w.heap.size t x y z := by
  unfold Three
  show (w.heap.push (Obj.cells #[x, y, z] t))[w.heap.size]? = _
  simp
theorem Three.iterAt {w : World} {b : Nat} {t : TypeId} {x y z : Value} (h : Three w b t x y z) (k : Nat) (s : ByteArray) (p : Nat) (hne : b ≠ k) : Three (w.iterAt k s p) b t x y z := by
  unfold Three at h ⊢
  rw [Lib.iterAt_other w k b s p (by omega)]; exact h
theorem iter_setCell {w : World} {k : Nat} {s : ByteArray} {p : Nat} (h : w.heap[k]? = some (.stringIter s p)) (a : Addr) (v : Value) (hne : k ≠ a.block) : (w.setCell a v).heap[k]? = some (.stringIter s p) := by
  rw [Below.heap_setCell _ _ _ _ hne]; exact h

set_option maxHeartbeats 1000000 in
theorem Place_any (s : ByteArray) (k : Int) (w : World) (hs : s.size ≤ 140737488355328) (a : Nat) (ha : (a : Int) = min (max k 0) s.size) :
    Calls Tryd.prog 14 #[.string s, .int .i64 k] w fun e w' => e = .returned (.agg #[.int .i64 a, .int .i64 (place (s.data.toList.take a)).1, .int .i64 (place (s.data.toList.take a)).2]) ∧ Below w.heap.size w w' := by
  have hle : a ≤ s.size := by omega
  have ht : (s.extract 0 a).data.toList = s.data.toList.take a := by rw [Lib.extract_data]; simp
  have htl : (s.extract 0 a).size = a := by rw [ByteArray.size_extract]; omega
  have hA := ha.symm
  have han : ((a : Int)).toNat = a := by omega
  obtain ⟨A, hAa⟩ : ∃ A : Int, A = (a : Int) := ⟨_, rfl⟩
  obtain ⟨t, htt⟩ : ∃ t, s.extract 0 a = t := ⟨_, rfl⟩
  have hmin : min (max k 0) (s.size : Int) = A := by rw [hA, hAa]
  have hex : s.extract 0 A.toNat = t := by rw [hAa, han]; exact htt
  have a0 : 0 ≤ A := by omega
  have a1 : A ≤ (s.size : Int) := by omega
  rw [htt] at ht htl
  rw [← ht, ← hAa]
  have htb : t.size ≤ 140737488355328 := by omega
  clear hA ha han htt ht hAa htl hle
  go_enter Tryd.func14, Tryd.ntmps14
  go_wp2
  clear hmin hex
  go_loopw [7] (fun _ wr => ∃ (pos ln c : Nat), pos ≤ t.size ∧ wr.heap[w.heap.size + 1 + 1]? = some (.stringIter t pos) ∧ Three wr (w.heap.size + 1) 26 (.int .i64 A) (.int .i64 ln) (.int .i64 c) ∧ Three wr w.heap.size 26 (.int .i64 0) (.int .i64 0) (.int .i64 0) ∧ Below w.heap.size w wr ∧ ln ≤ pos + 1 ∧ c ≤ pos + 1 ∧ Hid (pl (t.size - pos) (t.data.toList.drop pos) ln c = place t.data.toList)) (fun _ wr => t.size - wr.iterPos (w.heap.size + 1 + 1))
  case atStart =>
    refine ⟨0, 1, 1, Nat.zero_le _, ?_, ?_, ?_, ?_, by omega, by omega, ?_⟩
    · have h := World.iter_heap ((w.alloc (.cells #[.int .i64 0, .int .i64 0, .int .i64 0] 26)).alloc (.cells #[.int .i64 A, .int .i64 1, .int .i64 1] 26)) t 0
      simpa using h
    · have h := (Three.made (w.alloc (.cells #[.int .i64 0, .int .i64 0, .int .i64 0] 26)) 26 (.int .i64 A) (.int .i64 1) (.int .i64 1)).alloc (.stringIter t 0)
      have e : (w.alloc (.cells #[.int .i64 0, .int .i64 0, .int .i64 0] 26)).heap.size = w.heap.size + 1 := by simp
      rw [e] at h
      exact h
    · exact ((Three.made w 26 (.int .i64 0) (.int .i64 0) (.int .i64 0)).alloc _).alloc (.stringIter t 0)
    · exact (((Below.refl _ w).alloc (Nat.le_refl _) _).alloc (by simp) _).alloc (by simp; omega) (.stringIter t 0)
    · unfold place; rw [← Lib.size_eq]; rfl
  case round =>
    obtain ⟨pos, ln, c, hp, hit, hT1, hT0, hb, hl1, hl2, hpl⟩ := hrel
    have hsz1 := hT1.lt
    have hsz0 := hT0.lt
    have hsz2 : w.heap.size + 1 + 1 < wr.heap.size := (Array.getElem?_eq_some_iff.1 hit).1
    by_cases hpt : pos < t.size
    · have hps : wr.iterPos (w.heap.size + 1 + 1) = pos := by simp [World.iterPos, hit]
      have hnx := fun ty => Lib.run_next_any_at (P := Tryd.prog) wr (w.heap.size + 1 + 1) t pos ty hit hpt
      have hde := Lib.decodeL_drop t pos
      have hne : t.data.toList.drop pos ≠ [] := by
        intro e
        have := congrArg List.length e
        rw [List.length_drop, ← Lib.size_eq] at this
        simp at this
        omega
      have hll : (t.data.toList.drop pos).length = t.size - pos := by rw [List.length_drop, ← Lib.size_eq]
      have hw := Lib.decodeL_width (t.data.toList.drop pos)
      have hle2 := Lib.decodeL_le (t.data.toList.drop pos) hne
      have hstep := pl_step (t.size - pos) (t.data.toList.drop pos) ln c hne (by omega)
      rw [hll] at hle2
      rw [List.drop_drop] at hstep
      have hfu := fun l' c' => pl_fuel (t.size - pos) (t.size - (pos + (Lib.decodeL (t.data.toList.drop pos)).2)) (t.data.toList.drop (pos + (Lib.decodeL (t.data.toList.drop pos)).2)) l' c' (by rw [List.length_drop, ← Lib.size_eq]; omega) (by rw [List.length_drop, ← Lib.size_eq]; omega)
      rw [hfu, hfu, hpl.out] at hstep
      have hstep := hstep.symm
      rw [← hde] at hnx
      clear hfu hll hne hde hpl
      generalize Lib.decodeL (t.data.toList.drop pos) = d at *
      obtain ⟨r, n⟩ := d
      dsimp only at *
      have hit2 := Lib.iterAt_heap wr (w.heap.size + 1 + 1) t pos (pos + n) hit
      have hb2 := Lib.below_iterAt hb (k := w.heap.size + 1 + 1) (by omega) t (pos + n)
      have hU1 := hT1.iterAt (w.heap.size + 1 + 1) t (pos + n) (by omega)
      have hU0 := hT0.iterAt (w.heap.size + 1 + 1) t (pos + n) (by omega)
      generalize wr.iterAt (w.heap.size + 1 + 1) t (pos + n) = W2 at *
      have c1 := hU1.cell1
      have c2 := hU1.cell2
      have f1 := hU1.free 1
      have f2 := hU1.free 2
      have V1 := Lib.hid hU1
      have V0 := Lib.hid hU0
      have VI := Lib.hid hit2
      have HP := Lib.hid hps
      obtain ⟨R, hR⟩ : ∃ R : Int, R = (r : Int) := ⟨_, rfl⟩
      rw [← hR] at hnx
      clear hT1 hT0 hU1 hU0 hit hit2 hps
      by_cases hr : r = 10
      · have hr1 : (R == 10) = true := by rw [beq_iff_eq]; omega
        rw [if_pos hr] at hstep
        have HS := Lib.hid hstep
        clear hr hR hstep
        go_wp2
        refine ⟨⟨pos + n, ln + 1, 1, by omega, ?_, ?_, ?_, ?_, by omega, by omega, ?_⟩, ?_⟩
        · exact iter_setCell (iter_setCell VI.out _ _ (by simp)) _ _ (by simp)
        · exact (V1.out.set1 _).set2 _
        · exact (V0.out.other _ _ (by simp)).other _ _ (by simp)
        · exact (hb2.setCell (by simp) _).setCell (by simp) _
        · exact HS
        · have e : ((W2.setCell ⟨w.heap.size + 1, 1, none⟩ (.int .i64 ((ln : Int) + 1))).setCell ⟨w.heap.size + 1, 2, none⟩ (.int .i64 1)).iterPos (w.heap.size + 1 + 1) = pos + n := by simp [World.iterPos, iter_setCell (iter_setCell VI.out ⟨w.heap.size + 1, 1, none⟩ (.int .i64 ((ln : Int) + 1)) (by simp)) ⟨w.heap.size + 1, 2, none⟩ (.int .i64 1) (by simp)]
          rw [HP.out, e]
          omega
      · have hr1 : (R == 10) = false := by rw [beq_eq_false_iff_ne]; omega
        rw [if_neg hr] at hstep
        have HS := Lib.hid hstep
        clear hr hR hstep
        go_wp2
        refine ⟨⟨pos + n, ln, c + 1, by omega, ?_, ?_, ?_, ?_, by omega, by omega, ?_⟩, ?_⟩
        · exact iter_setCell VI.out _ _ (by simp)
        · exact V1.out.set2 _
        · exact V0.out.other _ _ (by simp)
        · exact hb2.setCell (by simp) _
        · exact HS
        · have e : (W2.setCell ⟨w.heap.size + 1, 2, none⟩ (.int .i64 ((c : Int) + 1))).iterPos (w.heap.size + 1 + 1) = pos + n := by simp [World.iterPos, iter_setCell VI.out ⟨w.heap.size + 1, 2, none⟩ (.int .i64 ((c : Int) + 1)) (by simp)]
          rw [HP.out, e]
          omega
    · have hnx := fun ty => Lib.run_next_end_at (P := Tryd.prog) wr (w.heap.size + 1 + 1) t pos ty hit hpt
      have HF := Lib.hid (show (ln, c) = place t.data.toList by
        rw [← hpl.out, List.drop_eq_nil_of_le (by rw [← Lib.size_eq]; omega), pl_nil])
      have c0 := hT1.cell0
      have c1 := hT1.cell1
      have c2 := hT1.cell2
      have d0 := hT0.cell0
      have d1 := hT0.cell1
      have d2 := hT0.cell2
      have f0 := hT0.free 0
      have f1 := hT0.free 1
      have f2 := hT0.free 2
      have hF := Lib.hid (((hT0.set0 (.int .i64 A)).set1 (.int .i64 ln)).set2 (.int .i64 c))
      clear hT1 hT0 hit hpl
      go_wp2
      refine bodyPost_ret (v := .agg #[.int .i64 A, .int .i64 ln, .int .i64 c]) ?_ rfl ⟨ret_eq (by rw [← HF.out]), ?_⟩
      · have g0 := hF.out.cell0
        have g1 := hF.out.cell1
        have g2 := hF.out.cell2
        clear d0 d1 d2
        simp [results, Tryd.results14, go_sem, g0, g1, g2]
      · exact ((hb.setCell (by simp) _).setCell (by simp) _).setCell (by simp) _
end Go.Proofs.YtokpknjmcegkaaaDoor
