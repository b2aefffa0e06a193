/- The contract of Scan. -/
import Derived.Test.YtokpknjmcegkaaaDoorScN
namespace Go.Proofs.YtokpknjmcegkaaaDoor
open Go Go.RowKit Ru
set_option maxRecDepth 100000

theorem place_nil : place [] = (1, 1) := rfl
set_option maxHeartbeats 1000000 in
theorem Scan_long (s : ByteArray) (w : World) (hs : s.size ≤ 140737488355328) (h : 65536 < s.size) :
    Calls Tryd.prog 8 #[.string s] w (Told s w) := by
  have HS := Lib.hid (show Sc.scanL s.data.toList = .err 3 0 by unfold Sc.scanL; rw [if_pos (by rw [← Lib.size_eq]; exact h)])
  have C := Lib.hid (fun w => Place_any s 0 w (by omega) 0 (by omega))
  have d0 : decide ((65536 : Int) < (s.size : Int)) = true := by rw [decide_eq_true_iff]; omega
  have h1 : (65536 : Int) < (s.size : Int) := by omega
  clear h
  go_enter Tryd.func8, Tryd.ntmps8
  go_wp2_with fail
  refine (C.out _).mono ?_
  rintro e w1 ⟨rfl, b1⟩
  rw [List.take_zero, place_nil]
  have HB := Lib.hid (((Below.refl _ w).alloc (Nat.le_refl _) _).trans (b1.mono (by simp)))
  have K := Lib.hid ((Bk.made w 28 #[.int .i64 0, .int .i64 0, .int .i64 0, .int .i64 0]).below b1 (by simp))
  clear b1
  have f0 := K.out.free 0
  have f1 := K.out.free 1
  have f2 := K.out.free 2
  have f3 := K.out.free 3
  have c0 := K.out.cell 0
  have c1 := K.out.cell 1
  have c2 := K.out.cell 2
  have c3 := K.out.cell 3
  simp at c0 c1 c2 c3
  go_wp2_with fail
  have G := Lib.hid ((((K.out.set 0 (.int .i64 3)).set 1 (.int .i64 0)).set 2 (.int .i64 1)).set 3 (.int .i64 1))
  refine bodyPost_ret (v := .tuple #[.slice none 0 0, .agg #[.int .i64 3, .int .i64 0, .int .i64 1, .int .i64 1]]) ?_ rfl ?_
  · have y0 := G.out.cell 0
    have y1 := G.out.cell 1
    have y2 := G.out.cell 2
    have y3 := G.out.cell 3
    clear c0 c1 c2 c3 f0 f1 f2 f3
    simp at y0 y1 y2 y3
    simp [results, Tryd.results8, go_sem, y0, y1, y2, y3]
  · refine .inl ⟨3, 0, HS.out, Nat.zero_le _, rfl, ?_⟩
    exact (((((HB.out).setCell (by simp) _).setCell (by simp) _).setCell (by simp) _).setCell (by simp) _)
set_option maxHeartbeats 1000000 in
theorem Scan_bad (s : ByteArray) (w : World) (hs : s.size ≤ 65536) (hE : EnvS w) (p : Nat) (h : bad s.data.toList = p) :
    Calls Tryd.prog 8 #[.string s] w (Told s w) := by
  have hp : p ≤ s.size := by
    rcases bd_range s.data.toList.length s.data.toList 0 with h1 | ⟨_, h1⟩
    · unfold bad at h; omega
    · unfold bad at h
      rw [h, ← Lib.size_eq] at h1
      omega
  have HS := Lib.hid (show Sc.scanL s.data.toList = .err 4 p by
    unfold Sc.scanL
    rw [if_neg (by rw [← Lib.size_eq]; omega), if_pos (by rw [h]; omega), h]
    rfl)
  have B := fun w hE => Bad_any s w (by omega) hE
  rw [h] at B
  replace B := Lib.hid B
  have HE := Lib.hid hE
  have C := fun w => Place_any s p w (by omega) p (by omega)
  obtain ⟨L, hL⟩ : ∃ L : Int, ((place (s.data.toList.take p)).1 : Int) = L := ⟨_, rfl⟩
  obtain ⟨CC, hC⟩ : ∃ C : Int, ((place (s.data.toList.take p)).2 : Int) = C := ⟨_, rfl⟩
  rw [hL, hC] at C
  replace C := Lib.hid C
  have HL := Lib.hid hL
  have HC := Lib.hid hC
  have h0 : ¬ 65536 < s.size := by omega
  have d0 : decide ((65536 : Int) < (s.size : Int)) = false := by rw [decide_eq_false_iff_not]; omega
  have d1 : decide ((0 : Int) ≤ (p : Int)) = true := by rw [decide_eq_true_iff]; omega
  clear h hL hC hE
  go_enter Tryd.func8, Tryd.ntmps8
  go_wp2_with fail
  refine (B.out _ (HE.out.alloc _).env).mono ?_
  rintro e w1 ⟨rfl, b1⟩
  have HB1 := Lib.hid b1
  clear b1
  go_wp2_with fail
  refine (C.out _).mono ?_
  rintro e w2 ⟨rfl, b2⟩
  have b12 := HB1.out.trans (b2.mono HB1.out.size)
  have HB := Lib.hid (((Below.refl _ w).alloc (Nat.le_refl _) _).trans (b12.mono (by simp)))
  have K := Lib.hid ((Bk.made w 28 #[.int .i64 0, .int .i64 0, .int .i64 0, .int .i64 0]).below b12 (by simp))
  clear b2 b12
  have f0 := K.out.free 0
  have f1 := K.out.free 1
  have f2 := K.out.free 2
  have f3 := K.out.free 3
  have c0 := K.out.cell 0
  have c1 := K.out.cell 1
  have c2 := K.out.cell 2
  have c3 := K.out.cell 3
  simp at c0 c1 c2 c3
  go_wp2_with fail
  have G := Lib.hid ((((K.out.set 0 (.int .i64 4)).set 1 (.int .i64 p)).set 2 (.int .i64 L)).set 3 (.int .i64 CC))
  refine bodyPost_ret (v := .tuple #[.slice none 0 0, .agg #[.int .i64 4, .int .i64 p, .int .i64 L, .int .i64 CC]]) ?_ rfl ?_
  · have y0 := G.out.cell 0
    have y1 := G.out.cell 1
    have y2 := G.out.cell 2
    have y3 := G.out.cell 3
    clear c0 c1 c2 c3 f0 f1 f2 f3
    simp at y0 y1 y2 y3
    simp [results, Tryd.results8, go_sem, y0, y1, y2, y3]
  · refine .inl ⟨4, p, HS.out, hp, by rw [HL.out, HC.out]; rfl, ?_⟩
    exact (((((HB.out).setCell (by simp) _).setCell (by simp) _).setCell (by simp) _).setCell (by simp) _)
/-- How far Scan is. -/
def Far (s : ByteArray) (k : Nat) (ds : List Sc.W) : Prop := k ≤ s.size ∧ ds.length ≤ k ∧ Sc.scanL s.data.toList = (Sc.scanF s.data.toList.length (s.data.toList.drop k) k).app ds ∧ Sc.At s.data.toList k
theorem Far.gap {s : ByteArray} {k : Nat} {ds : List Sc.W} (hG : Sc.Good s.data.toList) (h : Far s k ds) : Sc.At s.data.toList (k + (Sc.gapL (s.data.toList.drop k)).1) := Sc.gap_at _ _ _ (Nat.le_refl _) hG h.2.2.2
theorem Far.fail {s : ByteArray} {k : Nat} {ds : List Sc.W} (h : Far s k ds) (hg : (Sc.gapL (s.data.toList.drop k)).2 = false) : Sc.scanL s.data.toList = .err 4 (k + (Sc.gapL (s.data.toList.drop k)).1) := by
  rw [h.2.2.1, Sc.scan_fail _ _ (by rw [List.length_drop]; omega) hg]
  rfl
theorem Far.done {s : ByteArray} {k : Nat} {ds : List Sc.W} (h : Far s k ds) (hg : (Sc.gapL (s.data.toList.drop k)).2 = true) (he : k + (Sc.gapL (s.data.toList.drop k)).1 = s.size) : Sc.scanL s.data.toList = .ok ds := by
  rw [h.2.2.1, Sc.scan_done _ _ hg (by rw [List.drop_drop]; exact drop_nil (by rw [← Lib.size_eq]; omega))]
  show Sc.SR.ok (ds ++ []) = _
  rw [List.append_nil]
theorem Far.err {s : ByteArray} {k : Nat} {ds : List Sc.W} {e : Nat} (h : Far s k ds) (hg : (Sc.gapL (s.data.toList.drop k)).2 = true) (he : k + (Sc.gapL (s.data.toList.drop k)).1 < s.size) (hw : Sc.wordR (s.data.toList.drop (k + (Sc.gapL (s.data.toList.drop k)).1)) = .err e) : Sc.scanL s.data.toList = .err e (k + (Sc.gapL (s.data.toList.drop k)).1) := by
  rw [h.2.2.1, Sc.scan_err _ _ e (by rw [List.length_drop]; omega) hg (by rw [List.drop_drop]; exact drop_ne (by rw [← Lib.size_eq]; exact he)) (by rw [List.drop_drop]; exact hw)]
  rfl
theorem Far.step {s : ByteArray} {k : Nat} {ds : List Sc.W} {kd : Nat} {t : List UInt8} {st : List (Nat × Nat)} {z : Nat} (hG : Sc.Good s.data.toList) (h : Far s k ds) (hg : (Sc.gapL (s.data.toList.drop k)).2 = true) (he : k + (Sc.gapL (s.data.toList.drop k)).1 < s.size) (hw : Sc.wordR (s.data.toList.drop (k + (Sc.gapL (s.data.toList.drop k)).1)) = .ok kd t st z) :
    Far s (k + (Sc.gapL (s.data.toList.drop k)).1 + z) (ds ++ [⟨kd, t, st, k + (Sc.gapL (s.data.toList.drop k)).1⟩]) := by
  have hz := Sc.wordR_ok hw
  rw [List.length_drop, ← Lib.size_eq] at hz
  have ha := Sc.word_at hG hw
  refine ⟨by omega, by have := h.2.1; simp; omega, ?_, ha⟩
  rw [h.2.2.1, Sc.scan_ok _ _ kd t st z (by rw [List.length_drop]; omega) hg (by rw [List.drop_drop]; exact drop_ne (by rw [← Lib.size_eq]; exact he)) (by rw [List.drop_drop]; exact hw), List.drop_drop, Sc.SR.app_cons, Nat.add_assoc]
theorem wordR_err {l : List UInt8} {e : Nat} (h : Sc.wordR l = .err e) : e = 3 ∨ e = 4 := by
  unfold Sc.wordR Sc.runR Sc.textR Sc.setR Sc.markR at h
  repeat' split at h
  all_goals first
  | (cases h; done)
  | (cases h; first | exact Or.inl rfl | exact Or.inr rfl)
end Go.Proofs.YtokpknjmcegkaaaDoor
