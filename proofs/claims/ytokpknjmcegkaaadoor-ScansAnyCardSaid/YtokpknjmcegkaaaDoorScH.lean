/- The contract of word. -/
import Derived.Test.YtokpknjmcegkaaaDoorScG
namespace Go.Proofs.YtokpknjmcegkaaaDoor
open Go Go.RowKit Ru
set_option maxRecDepth 100000

/-- What is told of a word, part by part. -/
theorem wrV_form (r : Sc.WR) (sv : Value) (hsv : ∃ a n cap, sv = .slice a n cap) : ∃ (a0 : Int) (a1 : ByteArray) (a : Option Addr) (n cap : Nat) (z e : Int),
    wrV r sv = .tuple #[.agg #[.int .u8 a0, .string a1, .slice a n cap, .int .i64 0, .int .i64 0, .int .i64 0], .int .i64 z, .int .i64 e] := by
  cases r with
  | err e => exact ⟨0, ⟨#[]⟩, none, 0, 0, 0, e, rfl⟩
  | ok kd t st z =>
    obtain ⟨a, n, cap, rfl⟩ := hsv
    exact ⟨kd, ⟨t.toArray⟩, a, n, cap, z, 0, rfl⟩
/-- The rest of word's walk, behind the call that reads it. -/
def Handed (r : Sc.WR) (w : World) (e : Ending) (w1 : World) : Prop := ∃ (a0 : Int) (a1 : ByteArray) (a : Option Addr) (n cap : Nat) (z e' : Int),
  e = .returned (.tuple #[.agg #[.int .u8 a0, .string a1, .slice a n cap, .int .i64 0, .int .i64 0, .int .i64 0], .int .i64 z, .int .i64 e']) ∧
  Below (w.heap.size + 1) (w.alloc (.cells #[.int .u8 0, .string ⟨#[]⟩, .slice none 0 0, .int .i64 0, .int .i64 0, .int .i64 0] 38)) w1 ∧
  ∃ sv, wrV r sv = .tuple #[.agg #[.int .u8 a0, .string a1, .slice a n cap, .int .i64 0, .int .i64 0, .int .i64 0], .int .i64 z, .int .i64 e'] ∧ SetAt w1 (w.heap.size + 1) sv (wrSet r)
theorem Handed.of {r : Sc.WR} {w : World} {e : Ending} {w1 : World} (h : Tells r (w.alloc (.cells #[.int .u8 0, .string ⟨#[]⟩, .slice none 0 0, .int .i64 0, .int .i64 0, .int .i64 0] 38)) e w1) : Handed r w e w1 := by
  obtain ⟨sv, he, hset, hb⟩ := h
  obtain ⟨A, cap, hsv, _⟩ := Row.form hset
  obtain ⟨a0, a1, a, n, cap, z, e', hf⟩ := wrV_form r sv ⟨_, _, _, hsv⟩
  rw [World.size_alloc] at hb hset
  exact ⟨a0, a1, a, n, cap, z, e', by rw [he, hf], hb, sv, hf, hset⟩
set_option maxHeartbeats 1000000 in
theorem word_name (s : ByteArray) (w : World) (hs : s.size ≤ 65536) (hn : 1 ≤ s.size) (hE : EnvS w) (c : Int) (hc : c = ((s.data.toList.getD 0 0).toNat : Int)) (hl : letZ c = true) :
    Calls Tryd.prog 19 #[.string s] w (Tells (Sc.runR 0 64 Sc.folB s.data.toList) w) := by
  have hi : ∀ (wx : World), (Instr.index 9 (.string s) (.int .i64 0)).run Tryd.prog wx = .ok (.int .u8 c) wx := byte_at s 0 (by omega) c hc
  obtain ⟨r, hr⟩ : ∃ r, Sc.runR 0 64 Sc.folB s.data.toList = r := ⟨_, rfl⟩
  rw [hr]
  have C : Calls Tryd.prog 35 #[.string s, .int .u8 (0 : Nat), .func (.func 36) #[] #[], .int .i64 (64 : Nat)] (w.alloc (.cells #[.int .u8 0, .string ⟨#[]⟩, .slice none 0 0, .int .i64 0, .int .i64 0, .int .i64 0] 38)) (Handed r w) := by
    refine (run_follower s 0 64 (by omega) _ (by omega)).mono fun e w1 h => Handed.of ?_
    rw [← hr]
    exact h
  replace C := Lib.hid C
  have HL := fun w => letter_any c w
  rw [hl] at HL
  replace HL := Lib.hid HL
  clear hl
  have a0 : (1 : Int) ≤ (s.size : Int) := by omega
  clear hr hc hE
  go_enter Tryd.func19, Tryd.ntmps19
  go_wp2_with fail
  refine (HL.out _).mono ?_
  rintro e w' ⟨rfl, rfl⟩
  go_wp2_with fail
  refine C.out.mono ?_
  rintro e w1 ⟨b0, b1, A, N, cap, z, e', rfl, hb1, hsv⟩
  have HV := Lib.hid hsv
  have HB := Lib.hid hb1
  have K := Lib.hid (Bk.below (Bk.made w 38 #[.int .u8 0, .string ⟨#[]⟩, .slice none 0 0, .int .i64 0, .int .i64 0, .int .i64 0]) hb1 (by omega))
  clear hsv hb1
  have f0 := K.out.free 0
  have f1 := K.out.free 1
  have f2 := K.out.free 2
  have f3 := K.out.free 3
  have f4 := K.out.free 4
  have f5 := K.out.free 5
  have c0 := K.out.cell 0
  have c1 := K.out.cell 1
  have c2 := K.out.cell 2
  have c3 := K.out.cell 3
  have c4 := K.out.cell 4
  have c5 := K.out.cell 5
  simp at c0 c1 c2 c3 c4 c5
  go_wp2_with fail
  have G := Lib.hid ((((((K.out.set 0 (.int .u8 b0)).set 1 (.string b1)).set 2 (.slice A N cap)).set 3 (.int .i64 0)).set 4 (.int .i64 0)).set 5 (.int .i64 0))
  refine bodyPost_ret (v := .tuple #[.agg #[.int .u8 b0, .string b1, .slice A N cap, .int .i64 0, .int .i64 0, .int .i64 0], .int .i64 z, .int .i64 e']) ?_ rfl ?_
  · have g0 := G.out.cell 0
    have g1 := G.out.cell 1
    have g2 := G.out.cell 2
    have g3 := G.out.cell 3
    have g4 := G.out.cell 4
    have g5 := G.out.cell 5
    clear c0 c1 c2 c3 c4 c5 f0 f1 f2 f3 f4 f5
    simp at g0 g1 g2 g3 g4 g5
    simp [results, Tryd.results19, go_sem, g0, g1, g2, g3, g4, g5]
  · obtain ⟨sv, hv, hset⟩ := HV.out
    refine ⟨sv, by rw [hv], ?_, ?_⟩
    · exact ((((((Row.far hset (by simp) _).far (by simp) _).far (by simp) _).far (by simp) _).far (by simp) _).far (by simp) _).mono (by omega)
    · exact ((((((((((Below.refl _ w).alloc (Nat.le_refl _) _).trans (HB.out.mono (by omega)))).setCell (by simp) _).setCell (by simp) _).setCell (by simp) _).setCell (by simp) _).setCell (by simp) _).setCell (by simp) _)
set_option maxHeartbeats 1000000 in
theorem word_num (s : ByteArray) (w : World) (hs : s.size ≤ 65536) (hn : 1 ≤ s.size) (hE : EnvS w) (c : Int) (hc : c = ((s.data.toList.getD 0 0).toNat : Int)) (hl : letZ c = false) (hd : digZ c = true) :
    Calls Tryd.prog 19 #[.string s] w (Tells (Sc.runR 1 9 Sc.digitB s.data.toList) w) := by
  have hi : ∀ (wx : World), (Instr.index 9 (.string s) (.int .i64 0)).run Tryd.prog wx = .ok (.int .u8 c) wx := byte_at s 0 (by omega) c hc
  obtain ⟨r, hr⟩ : ∃ r, Sc.runR 1 9 Sc.digitB s.data.toList = r := ⟨_, rfl⟩
  rw [hr]
  have C : Calls Tryd.prog 35 #[.string s, .int .u8 (1 : Nat), .func (.func 37) #[] #[], .int .i64 (9 : Nat)] (w.alloc (.cells #[.int .u8 0, .string ⟨#[]⟩, .slice none 0 0, .int .i64 0, .int .i64 0, .int .i64 0] 38)) (Handed r w) := by
    refine (run_digit s 1 9 (by omega) _ (by omega)).mono fun e w1 h => Handed.of ?_
    rw [← hr]
    exact h
  replace C := Lib.hid C
  have HL := fun w => letter_any c w
  rw [hl] at HL
  replace HL := Lib.hid HL
  clear hl
  have HD := fun w => digit_any c w
  rw [hd] at HD
  replace HD := Lib.hid HD
  clear hd
  have a0 : (1 : Int) ≤ (s.size : Int) := by omega
  clear hr hc hE
  go_enter Tryd.func19, Tryd.ntmps19
  go_wp2_with fail
  refine (HL.out _).mono ?_
  rintro e w' ⟨rfl, rfl⟩
  go_wp2_with fail
  refine (HD.out _).mono ?_
  rintro e w' ⟨rfl, rfl⟩
  go_wp2_with fail
  refine C.out.mono ?_
  rintro e w1 ⟨b0, b1, A, N, cap, z, e', rfl, hb1, hsv⟩
  have HV := Lib.hid hsv
  have HB := Lib.hid hb1
  have K := Lib.hid (Bk.below (Bk.made w 38 #[.int .u8 0, .string ⟨#[]⟩, .slice none 0 0, .int .i64 0, .int .i64 0, .int .i64 0]) hb1 (by omega))
  clear hsv hb1
  have f0 := K.out.free 0
  have f1 := K.out.free 1
  have f2 := K.out.free 2
  have f3 := K.out.free 3
  have f4 := K.out.free 4
  have f5 := K.out.free 5
  have c0 := K.out.cell 0
  have c1 := K.out.cell 1
  have c2 := K.out.cell 2
  have c3 := K.out.cell 3
  have c4 := K.out.cell 4
  have c5 := K.out.cell 5
  simp at c0 c1 c2 c3 c4 c5
  go_wp2_with fail
  have G := Lib.hid ((((((K.out.set 0 (.int .u8 b0)).set 1 (.string b1)).set 2 (.slice A N cap)).set 3 (.int .i64 0)).set 4 (.int .i64 0)).set 5 (.int .i64 0))
  refine bodyPost_ret (v := .tuple #[.agg #[.int .u8 b0, .string b1, .slice A N cap, .int .i64 0, .int .i64 0, .int .i64 0], .int .i64 z, .int .i64 e']) ?_ rfl ?_
  · have g0 := G.out.cell 0
    have g1 := G.out.cell 1
    have g2 := G.out.cell 2
    have g3 := G.out.cell 3
    have g4 := G.out.cell 4
    have g5 := G.out.cell 5
    clear c0 c1 c2 c3 c4 c5 f0 f1 f2 f3 f4 f5
    simp at g0 g1 g2 g3 g4 g5
    simp [results, Tryd.results19, go_sem, g0, g1, g2, g3, g4, g5]
  · obtain ⟨sv, hv, hset⟩ := HV.out
    refine ⟨sv, by rw [hv], ?_, ?_⟩
    · exact ((((((Row.far hset (by simp) _).far (by simp) _).far (by simp) _).far (by simp) _).far (by simp) _).far (by simp) _).mono (by omega)
    · exact ((((((((((Below.refl _ w).alloc (Nat.le_refl _) _).trans (HB.out.mono (by omega)))).setCell (by simp) _).setCell (by simp) _).setCell (by simp) _).setCell (by simp) _).setCell (by simp) _).setCell (by simp) _)
set_option maxHeartbeats 1000000 in
theorem word_text (s : ByteArray) (w : World) (hs : s.size ≤ 65536) (hn : 1 ≤ s.size) (hE : EnvS w) (c : Int) (hc : c = ((s.data.toList.getD 0 0).toNat : Int)) (hl : letZ c = false) (hd : digZ c = false) (hq : c = 39) :
    Calls Tryd.prog 19 #[.string s] w (Tells (Sc.textR s.data.toList) w) := by
  have hi : ∀ (wx : World), (Instr.index 9 (.string s) (.int .i64 0)).run Tryd.prog wx = .ok (.int .u8 c) wx := byte_at s 0 (by omega) c hc
  obtain ⟨r, hr⟩ : ∃ r, Sc.textR s.data.toList = r := ⟨_, rfl⟩
  rw [hr]
  have C : Calls Tryd.prog 38 #[.string s] (w.alloc (.cells #[.int .u8 0, .string ⟨#[]⟩, .slice none 0 0, .int .i64 0, .int .i64 0, .int .i64 0] 38)) (Handed r w) := by
    refine (text_any s _ hs hn (hE.alloc _)).mono fun e w1 h => Handed.of ?_
    rw [← hr]
    exact h
  replace C := Lib.hid C
  have HL := fun w => letter_any c w
  rw [hl] at HL
  replace HL := Lib.hid HL
  clear hl
  have HD := fun w => digit_any c w
  rw [hd] at HD
  replace HD := Lib.hid HD
  clear hd
  have t1 : (c == 39) = true := by rw [beq_iff_eq]; exact hq
  clear hq
  have a0 : (1 : Int) ≤ (s.size : Int) := by omega
  clear hr hc hE
  go_enter Tryd.func19, Tryd.ntmps19
  go_wp2_with fail
  refine (HL.out _).mono ?_
  rintro e w' ⟨rfl, rfl⟩
  go_wp2_with fail
  refine (HD.out _).mono ?_
  rintro e w' ⟨rfl, rfl⟩
  go_wp2_with fail
  refine C.out.mono ?_
  rintro e w1 ⟨b0, b1, A, N, cap, z, e', rfl, hb1, hsv⟩
  have HV := Lib.hid hsv
  have HB := Lib.hid hb1
  have K := Lib.hid (Bk.below (Bk.made w 38 #[.int .u8 0, .string ⟨#[]⟩, .slice none 0 0, .int .i64 0, .int .i64 0, .int .i64 0]) hb1 (by omega))
  clear hsv hb1
  have f0 := K.out.free 0
  have f1 := K.out.free 1
  have f2 := K.out.free 2
  have f3 := K.out.free 3
  have f4 := K.out.free 4
  have f5 := K.out.free 5
  have c0 := K.out.cell 0
  have c1 := K.out.cell 1
  have c2 := K.out.cell 2
  have c3 := K.out.cell 3
  have c4 := K.out.cell 4
  have c5 := K.out.cell 5
  simp at c0 c1 c2 c3 c4 c5
  go_wp2_with fail
  have G := Lib.hid ((((((K.out.set 0 (.int .u8 b0)).set 1 (.string b1)).set 2 (.slice A N cap)).set 3 (.int .i64 0)).set 4 (.int .i64 0)).set 5 (.int .i64 0))
  refine bodyPost_ret (v := .tuple #[.agg #[.int .u8 b0, .string b1, .slice A N cap, .int .i64 0, .int .i64 0, .int .i64 0], .int .i64 z, .int .i64 e']) ?_ rfl ?_
  · have g0 := G.out.cell 0
    have g1 := G.out.cell 1
    have g2 := G.out.cell 2
    have g3 := G.out.cell 3
    have g4 := G.out.cell 4
    have g5 := G.out.cell 5
    clear c0 c1 c2 c3 c4 c5 f0 f1 f2 f3 f4 f5
    simp at g0 g1 g2 g3 g4 g5
    simp [results, Tryd.results19, go_sem, g0, g1, g2, g3, g4, g5]
  · obtain ⟨sv, hv, hset⟩ := HV.out
    refine ⟨sv, by rw [hv], ?_, ?_⟩
    · exact ((((((Row.far hset (by simp) _).far (by simp) _).far (by simp) _).far (by simp) _).far (by simp) _).far (by simp) _).mono (by omega)
    · exact ((((((((((Below.refl _ w).alloc (Nat.le_refl _) _).trans (HB.out.mono (by omega)))).setCell (by simp) _).setCell (by simp) _).setCell (by simp) _).setCell (by simp) _).setCell (by simp) _).setCell (by simp) _)
set_option maxHeartbeats 1000000 in
theorem word_set (s : ByteArray) (w : World) (hs : s.size ≤ 65536) (hn : 1 ≤ s.size) (hE : EnvS w) (c : Int) (hc : c = ((s.data.toList.getD 0 0).toNat : Int)) (hl : letZ c = false) (hd : digZ c = false) (hq : c ≠ 39) (hb : c = 91) :
    Calls Tryd.prog 19 #[.string s] w (Tells (Sc.setR s.data.toList) w) := by
  have hi : ∀ (wx : World), (Instr.index 9 (.string s) (.int .i64 0)).run Tryd.prog wx = .ok (.int .u8 c) wx := byte_at s 0 (by omega) c hc
  obtain ⟨r, hr⟩ : ∃ r, Sc.setR s.data.toList = r := ⟨_, rfl⟩
  rw [hr]
  have C : Calls Tryd.prog 39 #[.string s] (w.alloc (.cells #[.int .u8 0, .string ⟨#[]⟩, .slice none 0 0, .int .i64 0, .int .i64 0, .int .i64 0] 38)) (Handed r w) := by
    refine (set_any s _ hs hn (hE.alloc _)).mono fun e w1 h => Handed.of ?_
    rw [← hr]
    exact h
  replace C := Lib.hid C
  have HL := fun w => letter_any c w
  rw [hl] at HL
  replace HL := Lib.hid HL
  clear hl
  have HD := fun w => digit_any c w
  rw [hd] at HD
  replace HD := Lib.hid HD
  clear hd
  have t1 : (c == 39) = false := by rw [beq_eq_false_iff_ne]; exact hq
  have t2 : (c == 91) = true := by rw [beq_iff_eq]; exact hb
  clear hq hb
  have a0 : (1 : Int) ≤ (s.size : Int) := by omega
  clear hr hc hE
  go_enter Tryd.func19, Tryd.ntmps19
  go_wp2_with fail
  refine (HL.out _).mono ?_
  rintro e w' ⟨rfl, rfl⟩
  go_wp2_with fail
  refine (HD.out _).mono ?_
  rintro e w' ⟨rfl, rfl⟩
  go_wp2_with fail
  refine C.out.mono ?_
  rintro e w1 ⟨b0, b1, A, N, cap, z, e', rfl, hb1, hsv⟩
  have HV := Lib.hid hsv
  have HB := Lib.hid hb1
  have K := Lib.hid (Bk.below (Bk.made w 38 #[.int .u8 0, .string ⟨#[]⟩, .slice none 0 0, .int .i64 0, .int .i64 0, .int .i64 0]) hb1 (by omega))
  clear hsv hb1
  have f0 := K.out.free 0
  have f1 := K.out.free 1
  have f2 := K.out.free 2
  have f3 := K.out.free 3
  have f4 := K.out.free 4
  have f5 := K.out.free 5
  have c0 := K.out.cell 0
  have c1 := K.out.cell 1
  have c2 := K.out.cell 2
  have c3 := K.out.cell 3
  have c4 := K.out.cell 4
  have c5 := K.out.cell 5
  simp at c0 c1 c2 c3 c4 c5
  go_wp2_with fail
  have G := Lib.hid ((((((K.out.set 0 (.int .u8 b0)).set 1 (.string b1)).set 2 (.slice A N cap)).set 3 (.int .i64 0)).set 4 (.int .i64 0)).set 5 (.int .i64 0))
  refine bodyPost_ret (v := .tuple #[.agg #[.int .u8 b0, .string b1, .slice A N cap, .int .i64 0, .int .i64 0, .int .i64 0], .int .i64 z, .int .i64 e']) ?_ rfl ?_
  · have g0 := G.out.cell 0
    have g1 := G.out.cell 1
    have g2 := G.out.cell 2
    have g3 := G.out.cell 3
    have g4 := G.out.cell 4
    have g5 := G.out.cell 5
    clear c0 c1 c2 c3 c4 c5 f0 f1 f2 f3 f4 f5
    simp at g0 g1 g2 g3 g4 g5
    simp [results, Tryd.results19, go_sem, g0, g1, g2, g3, g4, g5]
  · obtain ⟨sv, hv, hset⟩ := HV.out
    refine ⟨sv, by rw [hv], ?_, ?_⟩
    · exact ((((((Row.far hset (by simp) _).far (by simp) _).far (by simp) _).far (by simp) _).far (by simp) _).far (by simp) _).mono (by omega)
    · exact ((((((((((Below.refl _ w).alloc (Nat.le_refl _) _).trans (HB.out.mono (by omega)))).setCell (by simp) _).setCell (by simp) _).setCell (by simp) _).setCell (by simp) _).setCell (by simp) _).setCell (by simp) _)
set_option maxHeartbeats 1000000 in
theorem word_mark (s : ByteArray) (w : World) (hs : s.size ≤ 65536) (hn : 1 ≤ s.size) (hE : EnvS w) (c : Int) (hc : c = ((s.data.toList.getD 0 0).toNat : Int)) (hl : letZ c = false) (hd : digZ c = false) (hq : c ≠ 39) (hb : c ≠ 91) :
    Calls Tryd.prog 19 #[.string s] w (Tells (Sc.markR s.data.toList) w) := by
  have hi : ∀ (wx : World), (Instr.index 9 (.string s) (.int .i64 0)).run Tryd.prog wx = .ok (.int .u8 c) wx := byte_at s 0 (by omega) c hc
  obtain ⟨r, hr⟩ : ∃ r, Sc.markR s.data.toList = r := ⟨_, rfl⟩
  rw [hr]
  have C : Calls Tryd.prog 40 #[.string s] (w.alloc (.cells #[.int .u8 0, .string ⟨#[]⟩, .slice none 0 0, .int .i64 0, .int .i64 0, .int .i64 0] 38)) (Handed r w) := by
    refine (mark_any s _ (by omega) hn).mono fun e w1 h => Handed.of ?_
    rw [← hr]
    exact h
  replace C := Lib.hid C
  have HL := fun w => letter_any c w
  rw [hl] at HL
  replace HL := Lib.hid HL
  clear hl
  have HD := fun w => digit_any c w
  rw [hd] at HD
  replace HD := Lib.hid HD
  clear hd
  have t1 : (c == 39) = false := by rw [beq_eq_false_iff_ne]; exact hq
  have t2 : (c == 91) = false := by rw [beq_eq_false_iff_ne]; exact hb
  clear hq hb
  have a0 : (1 : Int) ≤ (s.size : Int) := by omega
  clear hr hc hE
  go_enter Tryd.func19, Tryd.ntmps19
  go_wp2_with fail
  refine (HL.out _).mono ?_
  rintro e w' ⟨rfl, rfl⟩
  go_wp2_with fail
  refine (HD.out _).mono ?_
  rintro e w' ⟨rfl, rfl⟩
  go_wp2_with fail
  refine C.out.mono ?_
  rintro e w1 ⟨b0, b1, A, N, cap, z, e', rfl, hb1, hsv⟩
  have HV := Lib.hid hsv
  have HB := Lib.hid hb1
  have K := Lib.hid (Bk.below (Bk.made w 38 #[.int .u8 0, .string ⟨#[]⟩, .slice none 0 0, .int .i64 0, .int .i64 0, .int .i64 0]) hb1 (by omega))
  clear hsv hb1
  have f0 := K.out.free 0
  have f1 := K.out.free 1
  have f2 := K.out.free 2
  have f3 := K.out.free 3
  have f4 := K.out.free 4
  have f5 := K.out.free 5
  have c0 := K.out.cell 0
  have c1 := K.out.cell 1
  have c2 := K.out.cell 2
  have c3 := K.out.cell 3
  have c4 := K.out.cell 4
  have c5 := K.out.cell 5
  simp at c0 c1 c2 c3 c4 c5
  go_wp2_with fail
  have G := Lib.hid ((((((K.out.set 0 (.int .u8 b0)).set 1 (.string b1)).set 2 (.slice A N cap)).set 3 (.int .i64 0)).set 4 (.int .i64 0)).set 5 (.int .i64 0))
  refine bodyPost_ret (v := .tuple #[.agg #[.int .u8 b0, .string b1, .slice A N cap, .int .i64 0, .int .i64 0, .int .i64 0], .int .i64 z, .int .i64 e']) ?_ rfl ?_
  · have g0 := G.out.cell 0
    have g1 := G.out.cell 1
    have g2 := G.out.cell 2
    have g3 := G.out.cell 3
    have g4 := G.out.cell 4
    have g5 := G.out.cell 5
    clear c0 c1 c2 c3 c4 c5 f0 f1 f2 f3 f4 f5
    simp at g0 g1 g2 g3 g4 g5
    simp [results, Tryd.results19, go_sem, g0, g1, g2, g3, g4, g5]
  · obtain ⟨sv, hv, hset⟩ := HV.out
    refine ⟨sv, by rw [hv], ?_, ?_⟩
    · exact ((((((Row.far hset (by simp) _).far (by simp) _).far (by simp) _).far (by simp) _).far (by simp) _).far (by simp) _).mono (by omega)
    · exact ((((((((((Below.refl _ w).alloc (Nat.le_refl _) _).trans (HB.out.mono (by omega)))).setCell (by simp) _).setCell (by simp) _).setCell (by simp) _).setCell (by simp) _).setCell (by simp) _).setCell (by simp) _)
theorem byte_eq (b : UInt8) (n : Nat) (hn : n < 256) : b = UInt8.ofNat n ↔ (b.toNat : Int) = n := by
  rw [← UInt8.toNat_inj]
  have : (UInt8.ofNat n).toNat = n := by simp; omega
  omega
theorem word_any (s : ByteArray) (w : World) (hs : s.size ≤ 65536) (hn : 1 ≤ s.size) (hE : EnvS w) :
    Calls Tryd.prog 19 #[.string s] w (Tells (Sc.wordR s.data.toList) w) := by
  have e39 := byte_eq (s.data.toList.getD 0 0) 39 (by omega)
  have e91 := byte_eq (s.data.toList.getD 0 0) 91 (by omega)
  unfold Sc.wordR
  cases hl : Sc.letterB (s.data.toList.getD 0 0) with
  | true =>
    rw [if_pos rfl]
    exact word_name s w hs hn hE _ rfl (by rw [letZ_of]; exact hl)
  | false =>
    rw [if_neg (by simp)]
    cases hd : Sc.digitB (s.data.toList.getD 0 0) with
    | true =>
      rw [if_pos rfl]
      exact word_num s w hs hn hE _ rfl (by rw [letZ_of]; exact hl) (by rw [digZ_of]; exact hd)
    | false =>
      rw [if_neg (by simp)]
      by_cases hq : s.data.toList.getD 0 0 = 39
      · rw [if_pos hq]
        exact word_text s w hs hn hE _ rfl (by rw [letZ_of]; exact hl) (by rw [digZ_of]; exact hd) (e39.1 hq)
      · rw [if_neg hq]
        by_cases hb : s.data.toList.getD 0 0 = 91
        · rw [if_pos hb]
          exact word_set s w hs hn hE _ rfl (by rw [letZ_of]; exact hl) (by rw [digZ_of]; exact hd) (fun h => hq (e39.2 h)) (e91.1 hb)
        · rw [if_neg hb]
          exact word_mark s w hs hn hE _ rfl (by rw [letZ_of]; exact hl) (by rw [digZ_of]; exact hd) (fun h => hq (e39.2 h)) (fun h => hb (e91.2 h))
end Go.Proofs.YtokpknjmcegkaaaDoor
