/- Rows of memory that are read; contracts of run. -/
import Derived.Test.YtokpknjmcegkaaaDoorScC
import Derived.Laws.AppendOwn
import Derived.Outline
namespace Go.Proofs.YtokpknjmcegkaaaDoor
open Go Go.RowKit Ru
set_option maxRecDepth 100000

/-- v is a slice of n elements of type e, each of so many cells, at the head of a block from B on that nothing else writes: the cells xs. -/
def Row (w : World) (B : Nat) (e : TypeId) (size : Nat) (v : Value) (n : Nat) (xs : List Value) : Prop :=
  xs.length = n * size ∧ ((v = .slice none 0 0 ∧ n = 0) ∨ ∃ g cap cur, v = .slice (some ⟨g, 0, none⟩) n cap ∧ B ≤ g ∧ w.heap[g]? = some (.cells cur e (0, 0)) ∧ n ≤ cap ∧ cur.toList.take (n * size) = xs)
theorem Row.none_ (w : World) (B : Nat) (e : TypeId) (size : Nat) : Row w B e size (.slice none 0 0) 0 [] := ⟨by simp, .inl ⟨rfl, rfl⟩⟩
theorem Row.lt {w : World} {B : Nat} {e : TypeId} {size : Nat} {v : Value} {n : Nat} {xs : List Value} {g cap : Nat} (h : Row w B e size v n xs) (hv : v = .slice (some ⟨g, 0, none⟩) n cap) : B ≤ g ∧ g < w.heap.size := by
  rcases h.2 with ⟨h1, _⟩ | ⟨g', c', cur, h1, h2, h3, _, _⟩
  · rw [h1] at hv; cases hv
  · rw [h1] at hv
    injection hv with hv
    injection hv with hv
    injection hv with hv
    subst hv
    exact ⟨h2, (Array.getElem?_eq_some_iff.1 h3).1⟩
theorem Row.below {w w' : World} {B : Nat} {e : TypeId} {size : Nat} {v : Value} {n : Nat} {xs : List Value} (h : Row w B e size v n xs) (hb : Below w.heap.size w w') : Row w' B e size v n xs := by
  refine ⟨h.1, ?_⟩
  rcases h.2 with h1 | ⟨g, c, cur, h1, h2, h3, h4, h5⟩
  · exact .inl h1
  · exact .inr ⟨g, c, cur, h1, h2, by rw [hb.block g (Array.getElem?_eq_some_iff.1 h3).1]; exact h3, h4, h5⟩
theorem Row.mono {w : World} {B B' : Nat} {e : TypeId} {size : Nat} {v : Value} {n : Nat} {xs : List Value} (h : Row w B e size v n xs) (hB : B' ≤ B) : Row w B' e size v n xs := by
  refine ⟨h.1, ?_⟩
  rcases h.2 with h1 | ⟨g, c, cur, h1, h2, h3⟩
  · exact .inl h1
  · exact .inr ⟨g, c, cur, h1, by omega, h3⟩
theorem Row.of_own {w : World} {B : Nat} {e : TypeId} {size : Nat} {v : Value} {n : Nat} {xs : List Value} (h : w.ownsRow B e size v n xs) : Row w B e size v n xs := by
  refine ⟨h.1, ?_⟩
  rcases h.2 with h1 | ⟨g, c, cur, h1, h2, h3, h4, _, _, h5⟩
  · exact .inl h1
  · exact .inr ⟨g, c, cur, h1, h2, h3, h4, h5⟩
theorem Row.cell {w : World} {B : Nat} {e : TypeId} {size : Nat} {n g cap : Nat} {xs : List Value} (h : Row w B e size (.slice (some ⟨g, 0, none⟩) n cap) n xs) (j : Nat) (hj : j < n * size) : w.cell? ⟨g, j, none⟩ = xs[j]? := by
  rcases h.2 with ⟨h1, _⟩ | ⟨g', c', cur, h1, h2, h3, _, h5⟩
  · cases h1
  · injection h1 with h1
    injection h1 with h1
    injection h1 with h1
    subst h1
    rw [← h5, List.getElem?_take_of_lt hj]
    simp [World.cell?, h3]
theorem Row.some_ {w : World} {B : Nat} {e : TypeId} {size : Nat} {v : Value} {n : Nat} {xs : List Value} (h : Row w B e size v n xs) (hn : 0 < n) : ∃ g cap, v = .slice (some ⟨g, 0, none⟩) n cap ∧ n ≤ cap := by
  rcases h.2 with ⟨_, h1⟩ | ⟨g, c, cur, h1, _, _, h4, _⟩
  · omega
  · exact ⟨g, c, h1, h4⟩
theorem Row.form {w : World} {B : Nat} {e : TypeId} {size : Nat} {v : Value} {n : Nat} {xs : List Value} (h : Row w B e size v n xs) : ∃ a cap, v = .slice a n cap ∧ n ≤ cap := by
  rcases h.2 with ⟨h0, h1⟩ | ⟨g, c, cur, h1, _, _, h4, _⟩
  · exact ⟨none, 0, by rw [h0, h1], by omega⟩
  · exact ⟨_, c, h1, h4⟩

def setCells (st : List (Nat × Nat)) : List Value := st.flatMap fun p => [.int .i32 p.1, .int .i32 p.2]
theorem setCells_len (st : List (Nat × Nat)) : (setCells st).length = st.length * 2 := by
  unfold setCells
  induction st with
  | nil => rfl
  | cons p st ih => simp [List.flatMap_cons] at ih ⊢; omega
theorem setCells_snoc (st : List (Nat × Nat)) (a b : Nat) : setCells (st ++ [(a, b)]) = setCells st ++ [.int .i32 a, .int .i32 b] := by simp [setCells]
/-- The ranges st at v. -/
def SetAt (w : World) (B : Nat) (v : Value) (st : List (Nat × Nat)) : Prop := Row w B 40 2 v st.length (setCells st)
theorem SetAt.none_ (w : World) (B : Nat) : SetAt w B (.slice none 0 0) [] := Row.none_ w B _ _
theorem SetAt.below {w w' : World} {B : Nat} {v : Value} {st : List (Nat × Nat)} (h : SetAt w B v st) (hb : Below w.heap.size w w') : SetAt w' B v st := Row.below h hb
theorem SetAt.mono {w : World} {B B' : Nat} {v : Value} {st : List (Nat × Nat)} (h : SetAt w B v st) (hB : B' ≤ B) : SetAt w B' v st := Row.mono h hB

/-- What is told of a word. -/
def wrV : Sc.WR → Value → Value
  | .err e, _ => .tuple #[.agg #[.int .u8 0, .string ⟨#[]⟩, .slice none 0 0, .int .i64 0, .int .i64 0, .int .i64 0], .int .i64 0, .int .i64 e]
  | .ok kd t _ z, sv => .tuple #[.agg #[.int .u8 kd, .string ⟨t.toArray⟩, sv, .int .i64 0, .int .i64 0, .int .i64 0], .int .i64 z, .int .i64 0]
def wrSet : Sc.WR → List (Nat × Nat)
  | .err _ => []
  | .ok _ _ st _ => st
def Tells (r : Sc.WR) (w : World) (e : Ending) (w' : World) : Prop := ∃ sv, e = .returned (wrV r sv) ∧ SetAt w' w.heap.size sv (wrSet r) ∧ Below w.heap.size w w'

theorem tw_lt {p : UInt8 → Bool} : ∀ (l : List UInt8) (n : Nat), n ≤ (l.takeWhile p).length → n < l.length → (p (l.getD n 0) = true ↔ n < (l.takeWhile p).length)
  | [], n, _, h => by simp at h
  | c :: l, n, h1, h2 => by
    cases hc : p c with
    | false =>
      simp [List.takeWhile_cons, hc] at h1 ⊢
      subst h1
      simp [hc]
    | true =>
      simp [List.takeWhile_cons, hc] at h1 ⊢
      cases n with
      | zero => simp [hc]
      | succ n =>
        have := tw_lt (p := p) l n (by omega) (by simpa using h2)
        simp at this ⊢
        exact this
theorem tw_le {p : UInt8 → Bool} : ∀ (l : List UInt8), (l.takeWhile p).length ≤ l.length
  | [] => by simp
  | c :: l => by
    have := tw_le (p := p) l
    cases hc : p c <;> simp [List.takeWhile_cons, hc]
    exact this
theorem tw_take {p : UInt8 → Bool} : ∀ (l : List UInt8), l.take (l.takeWhile p).length = l.takeWhile p
  | [] => by simp
  | c :: l => by
    have := tw_take (p := p) l
    cases hc : p c <;> simp [List.takeWhile_cons, hc]
    exact this
theorem extract_take (s : ByteArray) (m : Nat) : s.extract 0 m = ⟨(s.data.toList.take m).toArray⟩ := by
  have h : (s.extract 0 m).data.toList = s.data.toList.take m := by rw [Lib.extract_data]; simp
  have e : ∀ b : ByteArray, b = ⟨b.data.toList.toArray⟩ := fun b => by cases b; simp
  rw [e (s.extract 0 m), h]
theorem byte_at (u : ByteArray) (i : Nat) (h : i < u.size) (c : Int) (hc : c = ((u.data.toList.getD i 0).toNat : Int)) (wx : World) : (Instr.index 9 (.string u) (.int .i64 i)).run Tryd.prog wx = .ok (.int .u8 c) wx := by
  rw [hc]
  exact index_at u i h wx
set_option maxHeartbeats 2000000 in
theorem run_digit (s : ByteArray) (kd most : Nat) (hmost : most ≤ 1000) (w : World) (hs : s.size ≤ 140737488355328) :
    Calls Tryd.prog 35 #[.string s, .int .u8 kd, .func (.func 37) #[] #[], .int .i64 most] w (Tells (Sc.runR kd most Sc.digitB s.data.toList) w) := by
  obtain ⟨m, hm⟩ : ∃ m, (s.data.toList.takeWhile Sc.digitB).length = m := ⟨_, rfl⟩
  have hml : m ≤ s.size := by rw [← hm, Lib.size_eq]; exact tw_le _
  have HT := Lib.hid (show (⟨(s.data.toList.takeWhile Sc.digitB).toArray⟩ : ByteArray) = s.extract 0 m by rw [extract_take, ← hm, tw_take])
  have HM := Lib.hid hm
  have HR : Sc.runR kd most Sc.digitB s.data.toList = if most < m then .err 3 else .ok kd (s.data.toList.takeWhile Sc.digitB) [] m := by unfold Sc.runR; rw [hm]
  have HR0 := Lib.hid HR
  clear hm HR
  go_enter Tryd.func35, Tryd.ntmps35
  go_wp2_with fail
  go_loop [9] (fun z => ∃ n : Nat, n ≤ m ∧ z = .int .i64 n) (fun z => s.size - (intOf z).toNat)
  case atStart => exact ⟨0, Nat.zero_le _, rfl⟩
  case round =>
    obtain ⟨n, hn, rfl⟩ := hrel
    by_cases hlt : n < m
    · obtain ⟨c, hc⟩ : ∃ c : Int, c = ((s.data.toList.getD n 0).toNat : Int) := ⟨_, rfl⟩
      have hi := byte_at s n (by omega) c hc
      have hp := (tw_lt (p := Sc.digitB) s.data.toList n (by rw [HM.out]; omega) (by rw [← Lib.size_eq]; omega)).2 (by rw [HM.out]; exact hlt)
      rw [← digZ_of, ← hc] at hp
      have C := fun w => digit_any c w
      rw [hp] at C
      have C := Lib.hid C
      have d0 : decide ((n : Int) < (s.size : Int)) = true := by rw [decide_eq_true_iff]; omega
      have a0 : (n : Int) < (s.size : Int) := by omega
      clear hp hc
      go_wp2_with (go_at_call 37; refine (C.out _).mono ?_; rintro e w' ⟨rfl, rfl⟩)
      go_round
      case rel => exact ⟨n + 1, by omega, by go_num⟩
      case measure => simp [intOf]; omega
    · obtain rfl : n = m := by omega
      have hend : ∀ (W : World), (Calls Tryd.prog 51 #[.string (s.extract 0 n)] W fun e w' => e = .returned (.string (s.extract 0 n)) ∧ Below W.heap.size W w') := fun W => Clone_any _ (by rw [ByteArray.size_extract]; omega) W
      have HC := Lib.hid hend
      have HR := HR0.out
      clear hend hlt HR0
      have a0 : (n : Int) ≤ (s.size : Int) := by omega
      by_cases hs2 : n < s.size
      · obtain ⟨c, hc⟩ : ∃ c : Int, c = ((s.data.toList.getD n 0).toNat : Int) := ⟨_, rfl⟩
        have hi := byte_at s n hs2 c hc
        have hp : Sc.digitB (s.data.toList.getD n 0) = false := by
          rw [Bool.eq_false_iff]
          intro h
          have := (tw_lt (p := Sc.digitB) s.data.toList n (by rw [HM.out]; omega) (by rw [← Lib.size_eq]; omega)).1 h
          rw [HM.out] at this
          omega
        rw [← digZ_of, ← hc] at hp
        have C := fun w => digit_any c w
        rw [hp] at C
        have C := Lib.hid C
        have d0 : decide ((n : Int) < (s.size : Int)) = true := by rw [decide_eq_true_iff]; omega
        clear hp hc
        by_cases hmn : most < n
        · have d1 : decide (most < n) = true := by rw [decide_eq_true_iff]; omega
          rw [if_pos hmn] at HR
          replace HR := Lib.hid HR
          go_wp2_with (go_at_call 37; refine (C.out _).mono ?_; rintro e w' ⟨rfl, rfl⟩)
          refine bodyPost_ret (v := wrV (.err 3) (.slice none 0 0)) (by simp [results, wrV, Tryd.results35, go_sem]) rfl ?_
          rw [HR.out]
          exact ⟨.slice none 0 0, rfl, SetAt.none_ _ _, (Below.refl _ w).alloc (Nat.le_refl _) _⟩
        · have d1 : decide (most < n) = false := by rw [decide_eq_false_iff_not]; omega
          rw [if_neg hmn] at HR
          replace HR := Lib.hid HR
          go_wp2_with (go_at_call 37; refine (C.out _).mono ?_; rintro e w' ⟨rfl, rfl⟩)
          refine (HC.out _).mono ?_
          rintro e w2 ⟨rfl, b2⟩
          have K := Lib.hid (Bk.below (Bk.made w 38 #[.int .u8 0, .string ⟨#[]⟩, .slice none 0 0, .int .i64 0, .int .i64 0, .int .i64 0]) b2 (by simp))
          have f0 := K.out.free 0
          have f1 := K.out.free 1
          have f2 := K.out.free 2
          have f3 := K.out.free 3
          have f4 := K.out.free 4
          have f5 := K.out.free 5
          have c0 := K.out.cell 0
          have c1 := K.out.cell 1
          have c2 := K.out.cell 2
          have c3 := K.out.cell 3
          have c4 := K.out.cell 4
          have c5 := K.out.cell 5
          simp at c0 c1 c2 c3 c4 c5
          go_wp2_with fail
          have G := Lib.hid ((((((K.out.set 0 (.int .u8 kd)).set 1 (.string (s.extract 0 n))).set 2 (.slice none 0 0)).set 3 (.int .i64 0)).set 4 (.int .i64 0)).set 5 (.int .i64 0))
          refine bodyPost_ret (v := .tuple #[.agg #[.int .u8 kd, .string (s.extract 0 n), .slice none 0 0, .int .i64 0, .int .i64 0, .int .i64 0], .int .i64 n, .int .i64 0]) ?_ rfl ?_
          · have g0 := G.out.cell 0
            have g1 := G.out.cell 1
            have g2 := G.out.cell 2
            have g3 := G.out.cell 3
            have g4 := G.out.cell 4
            have g5 := G.out.cell 5
            clear c0 c1 c2 c3 c4 c5 f0 f1 f2 f3 f4 f5
            simp at g0 g1 g2 g3 g4 g5
            simp [results, Tryd.results35, go_sem, g0, g1, g2, g3, g4, g5]
          · rw [HR.out]
            refine ⟨.slice none 0 0, by unfold wrV; dsimp only; rw [HT.out], SetAt.none_ _ _, ?_⟩
            exact (((((((((Below.refl _ w).alloc (Nat.le_refl _) _).trans (b2.mono (by simp))).setCell (by simp) _).setCell (by simp) _).setCell (by simp) _).setCell (by simp) _).setCell (by simp) _).setCell (by simp) _)

      · have d0 : decide (n < s.size) = false := by rw [decide_eq_false_iff_not]; exact hs2
        by_cases hmn : most < n
        · have d1 : decide (most < n) = true := by rw [decide_eq_true_iff]; omega
          rw [if_pos hmn] at HR
          replace HR := Lib.hid HR
          go_wp2_with fail
          refine bodyPost_ret (v := wrV (.err 3) (.slice none 0 0)) (by simp [results, wrV, Tryd.results35, go_sem]) rfl ?_
          rw [HR.out]
          exact ⟨.slice none 0 0, rfl, SetAt.none_ _ _, (Below.refl _ w).alloc (Nat.le_refl _) _⟩
        · have d1 : decide (most < n) = false := by rw [decide_eq_false_iff_not]; omega
          rw [if_neg hmn] at HR
          replace HR := Lib.hid HR
          go_wp2_with fail
          refine (HC.out _).mono ?_
          rintro e w2 ⟨rfl, b2⟩
          have K := Lib.hid (Bk.below (Bk.made w 38 #[.int .u8 0, .string ⟨#[]⟩, .slice none 0 0, .int .i64 0, .int .i64 0, .int .i64 0]) b2 (by simp))
          have f0 := K.out.free 0
          have f1 := K.out.free 1
          have f2 := K.out.free 2
          have f3 := K.out.free 3
          have f4 := K.out.free 4
          have f5 := K.out.free 5
          have c0 := K.out.cell 0
          have c1 := K.out.cell 1
          have c2 := K.out.cell 2
          have c3 := K.out.cell 3
          have c4 := K.out.cell 4
          have c5 := K.out.cell 5
          simp at c0 c1 c2 c3 c4 c5
          go_wp2_with fail
          have G := Lib.hid ((((((K.out.set 0 (.int .u8 kd)).set 1 (.string (s.extract 0 n))).set 2 (.slice none 0 0)).set 3 (.int .i64 0)).set 4 (.int .i64 0)).set 5 (.int .i64 0))
          refine bodyPost_ret (v := .tuple #[.agg #[.int .u8 kd, .string (s.extract 0 n), .slice none 0 0, .int .i64 0, .int .i64 0, .int .i64 0], .int .i64 n, .int .i64 0]) ?_ rfl ?_
          · have g0 := G.out.cell 0
            have g1 := G.out.cell 1
            have g2 := G.out.cell 2
            have g3 := G.out.cell 3
            have g4 := G.out.cell 4
            have g5 := G.out.cell 5
            clear c0 c1 c2 c3 c4 c5 f0 f1 f2 f3 f4 f5
            simp at g0 g1 g2 g3 g4 g5
            simp [results, Tryd.results35, go_sem, g0, g1, g2, g3, g4, g5]
          · rw [HR.out]
            refine ⟨.slice none 0 0, by unfold wrV; dsimp only; rw [HT.out], SetAt.none_ _ _, ?_⟩
            exact (((((((((Below.refl _ w).alloc (Nat.le_refl _) _).trans (b2.mono (by simp))).setCell (by simp) _).setCell (by simp) _).setCell (by simp) _).setCell (by simp) _).setCell (by simp) _).setCell (by simp) _)

set_option maxHeartbeats 2000000 in
theorem run_follower (s : ByteArray) (kd most : Nat) (hmost : most ≤ 1000) (w : World) (hs : s.size ≤ 140737488355328) :
    Calls Tryd.prog 35 #[.string s, .int .u8 kd, .func (.func 36) #[] #[], .int .i64 most] w (Tells (Sc.runR kd most Sc.folB s.data.toList) w) := by
  obtain ⟨m, hm⟩ : ∃ m, (s.data.toList.takeWhile Sc.folB).length = m := ⟨_, rfl⟩
  have hml : m ≤ s.size := by rw [← hm, Lib.size_eq]; exact tw_le _
  have HT := Lib.hid (show (⟨(s.data.toList.takeWhile Sc.folB).toArray⟩ : ByteArray) = s.extract 0 m by rw [extract_take, ← hm, tw_take])
  have HM := Lib.hid hm
  have HR : Sc.runR kd most Sc.folB s.data.toList = if most < m then .err 3 else .ok kd (s.data.toList.takeWhile Sc.folB) [] m := by unfold Sc.runR; rw [hm]
  have HR0 := Lib.hid HR
  clear hm HR
  go_enter Tryd.func35, Tryd.ntmps35
  go_wp2_with fail
  go_loop [9] (fun z => ∃ n : Nat, n ≤ m ∧ z = .int .i64 n) (fun z => s.size - (intOf z).toNat)
  case atStart => exact ⟨0, Nat.zero_le _, rfl⟩
  case round =>
    obtain ⟨n, hn, rfl⟩ := hrel
    by_cases hlt : n < m
    · obtain ⟨c, hc⟩ : ∃ c : Int, c = ((s.data.toList.getD n 0).toNat : Int) := ⟨_, rfl⟩
      have hi := byte_at s n (by omega) c hc
      have hp := (tw_lt (p := Sc.folB) s.data.toList n (by rw [HM.out]; omega) (by rw [← Lib.size_eq]; omega)).2 (by rw [HM.out]; exact hlt)
      rw [← folZ_of, ← hc] at hp
      have C := fun w => follower_any c w
      rw [hp] at C
      have C := Lib.hid C
      have d0 : decide ((n : Int) < (s.size : Int)) = true := by rw [decide_eq_true_iff]; omega
      have a0 : (n : Int) < (s.size : Int) := by omega
      clear hp hc
      go_wp2_with (go_at_call 36; refine (C.out _).mono ?_; rintro e w' ⟨rfl, rfl⟩)
      go_round
      case rel => exact ⟨n + 1, by omega, by go_num⟩
      case measure => simp [intOf]; omega
    · obtain rfl : n = m := by omega
      have hend : ∀ (W : World), (Calls Tryd.prog 51 #[.string (s.extract 0 n)] W fun e w' => e = .returned (.string (s.extract 0 n)) ∧ Below W.heap.size W w') := fun W => Clone_any _ (by rw [ByteArray.size_extract]; omega) W
      have HC := Lib.hid hend
      have HR := HR0.out
      clear hend hlt HR0
      have a0 : (n : Int) ≤ (s.size : Int) := by omega
      by_cases hs2 : n < s.size
      · obtain ⟨c, hc⟩ : ∃ c : Int, c = ((s.data.toList.getD n 0).toNat : Int) := ⟨_, rfl⟩
        have hi := byte_at s n hs2 c hc
        have hp : Sc.folB (s.data.toList.getD n 0) = false := by
          rw [Bool.eq_false_iff]
          intro h
          have := (tw_lt (p := Sc.folB) s.data.toList n (by rw [HM.out]; omega) (by rw [← Lib.size_eq]; omega)).1 h
          rw [HM.out] at this
          omega
        rw [← folZ_of, ← hc] at hp
        have C := fun w => follower_any c w
        rw [hp] at C
        have C := Lib.hid C
        have d0 : decide ((n : Int) < (s.size : Int)) = true := by rw [decide_eq_true_iff]; omega
        clear hp hc
        by_cases hmn : most < n
        · have d1 : decide (most < n) = true := by rw [decide_eq_true_iff]; omega
          rw [if_pos hmn] at HR
          replace HR := Lib.hid HR
          go_wp2_with (go_at_call 36; refine (C.out _).mono ?_; rintro e w' ⟨rfl, rfl⟩)
          refine bodyPost_ret (v := wrV (.err 3) (.slice none 0 0)) (by simp [results, wrV, Tryd.results35, go_sem]) rfl ?_
          rw [HR.out]
          exact ⟨.slice none 0 0, rfl, SetAt.none_ _ _, (Below.refl _ w).alloc (Nat.le_refl _) _⟩
        · have d1 : decide (most < n) = false := by rw [decide_eq_false_iff_not]; omega
          rw [if_neg hmn] at HR
          replace HR := Lib.hid HR
          go_wp2_with (go_at_call 36; refine (C.out _).mono ?_; rintro e w' ⟨rfl, rfl⟩)
          refine (HC.out _).mono ?_
          rintro e w2 ⟨rfl, b2⟩
          have K := Lib.hid (Bk.below (Bk.made w 38 #[.int .u8 0, .string ⟨#[]⟩, .slice none 0 0, .int .i64 0, .int .i64 0, .int .i64 0]) b2 (by simp))
          have f0 := K.out.free 0
          have f1 := K.out.free 1
          have f2 := K.out.free 2
          have f3 := K.out.free 3
          have f4 := K.out.free 4
          have f5 := K.out.free 5
          have c0 := K.out.cell 0
          have c1 := K.out.cell 1
          have c2 := K.out.cell 2
          have c3 := K.out.cell 3
          have c4 := K.out.cell 4
          have c5 := K.out.cell 5
          simp at c0 c1 c2 c3 c4 c5
          go_wp2_with fail
          have G := Lib.hid ((((((K.out.set 0 (.int .u8 kd)).set 1 (.string (s.extract 0 n))).set 2 (.slice none 0 0)).set 3 (.int .i64 0)).set 4 (.int .i64 0)).set 5 (.int .i64 0))
          refine bodyPost_ret (v := .tuple #[.agg #[.int .u8 kd, .string (s.extract 0 n), .slice none 0 0, .int .i64 0, .int .i64 0, .int .i64 0], .int .i64 n, .int .i64 0]) ?_ rfl ?_
          · have g0 := G.out.cell 0
            have g1 := G.out.cell 1
            have g2 := G.out.cell 2
            have g3 := G.out.cell 3
            have g4 := G.out.cell 4
            have g5 := G.out.cell 5
            clear c0 c1 c2 c3 c4 c5 f0 f1 f2 f3 f4 f5
            simp at g0 g1 g2 g3 g4 g5
            simp [results, Tryd.results35, go_sem, g0, g1, g2, g3, g4, g5]
          · rw [HR.out]
            refine ⟨.slice none 0 0, by unfold wrV; dsimp only; rw [HT.out], SetAt.none_ _ _, ?_⟩
            exact (((((((((Below.refl _ w).alloc (Nat.le_refl _) _).trans (b2.mono (by simp))).setCell (by simp) _).setCell (by simp) _).setCell (by simp) _).setCell (by simp) _).setCell (by simp) _).setCell (by simp) _)

      · have d0 : decide (n < s.size) = false := by rw [decide_eq_false_iff_not]; exact hs2
        by_cases hmn : most < n
        · have d1 : decide (most < n) = true := by rw [decide_eq_true_iff]; omega
          rw [if_pos hmn] at HR
          replace HR := Lib.hid HR
          go_wp2_with fail
          refine bodyPost_ret (v := wrV (.err 3) (.slice none 0 0)) (by simp [results, wrV, Tryd.results35, go_sem]) rfl ?_
          rw [HR.out]
          exact ⟨.slice none 0 0, rfl, SetAt.none_ _ _, (Below.refl _ w).alloc (Nat.le_refl _) _⟩
        · have d1 : decide (most < n) = false := by rw [decide_eq_false_iff_not]; omega
          rw [if_neg hmn] at HR
          replace HR := Lib.hid HR
          go_wp2_with fail
          refine (HC.out _).mono ?_
          rintro e w2 ⟨rfl, b2⟩
          have K := Lib.hid (Bk.below (Bk.made w 38 #[.int .u8 0, .string ⟨#[]⟩, .slice none 0 0, .int .i64 0, .int .i64 0, .int .i64 0]) b2 (by simp))
          have f0 := K.out.free 0
          have f1 := K.out.free 1
          have f2 := K.out.free 2
          have f3 := K.out.free 3
          have f4 := K.out.free 4
          have f5 := K.out.free 5
          have c0 := K.out.cell 0
          have c1 := K.out.cell 1
          have c2 := K.out.cell 2
          have c3 := K.out.cell 3
          have c4 := K.out.cell 4
          have c5 := K.out.cell 5
          simp at c0 c1 c2 c3 c4 c5
          go_wp2_with fail
          have G := Lib.hid ((((((K.out.set 0 (.int .u8 kd)).set 1 (.string (s.extract 0 n))).set 2 (.slice none 0 0)).set 3 (.int .i64 0)).set 4 (.int .i64 0)).set 5 (.int .i64 0))
          refine bodyPost_ret (v := .tuple #[.agg #[.int .u8 kd, .string (s.extract 0 n), .slice none 0 0, .int .i64 0, .int .i64 0, .int .i64 0], .int .i64 n, .int .i64 0]) ?_ rfl ?_
          · have g0 := G.out.cell 0
            have g1 := G.out.cell 1
            have g2 := G.out.cell 2
            have g3 := G.out.cell 3
            have g4 := G.out.cell 4
            have g5 := G.out.cell 5
            clear c0 c1 c2 c3 c4 c5 f0 f1 f2 f3 f4 f5
            simp at g0 g1 g2 g3 g4 g5
            simp [results, Tryd.results35, go_sem, g0, g1, g2, g3, g4, g5]
          · rw [HR.out]
            refine ⟨.slice none 0 0, by unfold wrV; dsimp only; rw [HT.out], SetAt.none_ _ _, ?_⟩
            exact (((((((((Below.refl _ w).alloc (Nat.le_refl _) _).trans (b2.mono (by simp))).setCell (by simp) _).setCell (by simp) _).setCell (by simp) _).setCell (by simp) _).setCell (by simp) _).setCell (by simp) _)

end Go.Proofs.YtokpknjmcegkaaaDoor
