/- The contracts of the law's same, SameRanges, and neat. -/
import Derived.Test.YtianappapfpbeaaRnB
namespace Go.Proofs.Ytianappapfpbeaa
open Go Go.RowKit Rn
set_option maxRecDepth 100000

set_option maxHeartbeats 1000000 in
theorem sameRn_any (st su : List (Int × Int)) (a c : Option Addr) (cap cap2 : Nat) (w : World) (hst : st.length ≤ 140737488351232) (hsu : su.length ≤ 140737488351232) (hR : Nd.RgAt w st a) (hQ : Nd.RgAt w su c) :
    Calls Try.prog 35 #[.slice a st.length cap, .slice c su.length cap2] w fun e w' => e = .returned (.bool (decide (st = su))) ∧ Below w.heap.size w w' := by
  obtain ⟨N, hN⟩ : ∃ N, st.length = N := ⟨_, rfl⟩
  obtain ⟨M, hM⟩ : ∃ N, su.length = N := ⟨_, rfl⟩
  have HN := Lib.hid hN
  have HM := Lib.hid hM
  rw [hN] at hst ⊢
  rw [hM] at hsu ⊢
  by_cases hne : N = M
  · subst hne
    have n1 : (N : Int) ≤ 9223372036854775807 := by omega
    have HR := Lib.hid hR
    have HQ := Lib.hid hQ
    have q9 : ((N : Int) != (N : Int)) = false := by simp
    clear hR hQ hN hM
    go_enter Try.func35, Try.ntmps35
    go_wp2_with fail
    go_loopw [5] (fun i wr => ∃ (k n : Nat), k ≤ N ∧ i = .int .i64 k ∧ wr = w.drewN n ∧ Hid (st.take k = su.take k)) (fun i _ => N - (intOf i).toNat)
    case atStart => exact ⟨0, 0, Nat.zero_le _, rfl, rfl, Lib.hid (by simp)⟩
    case round =>
      obtain ⟨k, n, hk, rfl, rfl, hT⟩ := hrel
      by_cases hlt : k < N
      · obtain ⟨p, hp⟩ : ∃ p, st[k]? = some p := ⟨_, List.getElem?_eq_getElem (by rw [HN.out]; exact hlt)⟩
        obtain ⟨q, hq⟩ : ∃ p, su[k]? = some p := ⟨_, List.getElem?_eq_getElem (by rw [HM.out]; exact hlt)⟩
        obtain ⟨g1, o1, rfl, x1, x2⟩ := HR.out.get k p hp
        obtain ⟨g2, o2, rfl, y1, y2⟩ := HQ.out.get k q hq
        obtain ⟨pa, pb⟩ := p
        obtain ⟨qa, qb⟩ := q
        dsimp only at x1 x2 y1 y2
        have d0 : decide (k < N) = true := by rw [decide_eq_true_iff]; exact hlt
        have a0 : (k : Int) < (N : Int) := by omega
        have hgetne : (pa, pb) ≠ (qa, qb) → st ≠ su := by
          intro h e
          rw [e, hq] at hp
          exact h (Option.some.inj hp).symm
        have hstep : (pa, pb) = (qa, qb) → st.take (k + 1) = su.take (k + 1) := by
          intro h
          rw [List.take_add_one, List.take_add_one, hp, hq, hT.out, h]
        have HG := Lib.hid hgetne
        have HSt := Lib.hid hstep
        clear hgetne hstep hp hq hT
        by_cases hac : pa = qa
        · by_cases hbd : pb = qb
          · subst hac hbd
            have HT := Lib.hid (HSt.out rfl)
            go_wp2_with fail
            go_quiet (fail)
            go_wp2_with fail
            exact ⟨⟨k + 1, n + nq, by omega, by go_num, rfl, HT⟩, by simp [intOf]; omega⟩
          · have HF := Lib.hid (show decide (st = su) = false from decide_eq_false (HG.out (fun e => hbd (Prod.mk.inj e).2)))
            have q0 : (pb == qb) = false := by rw [beq_eq_false_iff_ne]; exact hbd
            subst hac
            go_wp2_with fail
            go_quiet (fail)
            go_wp2_with fail
            go_ret
            exact ⟨by rw [HF.out]; rfl, below_drewN (below_drewN (Below.refl _ _) _) _⟩
        · have HF := Lib.hid (show decide (st = su) = false from decide_eq_false (HG.out (fun e => hac (Prod.mk.inj e).1)))
          have q0 : (pa == qa) = false := by rw [beq_eq_false_iff_ne]; exact hac
          go_wp2_with fail
          go_quiet (fail)
          go_wp2_with fail
          go_ret
          exact ⟨by rw [HF.out]; rfl, below_drewN (below_drewN (Below.refl _ _) _) _⟩
      · have d0 : decide (k < N) = false := by rw [decide_eq_false_iff_not]; exact hlt
        have HF := Lib.hid (show decide (st = su) = true from decide_eq_true (by
          have := hT.out
          rw [List.take_of_length_le (by rw [HN.out]; omega), List.take_of_length_le (by rw [HM.out]; omega)] at this
          exact this))
        clear hT
        go_wp2_with fail
        go_ret
        exact ⟨by rw [HF.out]; rfl, below_drewN (Below.refl _ _) _⟩
  · have hf : decide (st = su) = false := decide_eq_false (fun e => hne (by rw [← hN, ← hM, e]))
    rw [hf]
    have q0 : ((N : Int) == (M : Int)) = false := by rw [beq_eq_false_iff_ne]; omega
    have q1 : ((N : Int) != (M : Int)) = true := by rw [bne_iff_ne]; omega
    clear hf
    go_enter Try.func35, Try.ntmps35
    go_wp2_with fail
    go_ret
    exact ⟨rfl, Below.refl _ _⟩
set_option maxHeartbeats 400000 in
theorem SameRn_any (l m : List (Int × Int)) (u v : Value) (w : World) (hu : RL w u l) (hv : RL w v m) (hl : l.length ≤ 140737488351232) (hm : m.length ≤ 140737488351232) :
    Calls Try.prog 15 #[u, v] w fun e w' => e = .returned (.bool (decide (l = m))) ∧ Below w.heap.size w w' := by
  obtain ⟨a, c, rfl, _, hR⟩ := hu
  obtain ⟨a', c', rfl, _, hQ⟩ := hv
  have hC := Lib.hid (sameRn_any l m a a' c c' w hl hm hR hQ)
  generalize decide (l = m) = B at *
  generalize l.length = N at *
  generalize m.length = M at *
  clear hR hQ
  go_enter Try.func15, Try.ntmps15
  go_wp2_with (go_at_call 35; refine hC.out.mono ?_; rintro e w' ⟨rfl, hb⟩)
  go_ret
  exact ⟨rfl, hb⟩
namespace Rn
theorem neatB_drop : ∀ (l : List (Int × Int)) (i : Nat), neatB l = true → neatB (l.drop i) = true
  | l, 0, h => h
  | [], i + 1, h => rfl
  | r :: t, i + 1, h => by
    simp only [neatB, Bool.and_eq_true] at h
    rw [List.drop_succ_cons]
    exact neatB_drop t i h.2
theorem neatB_at {l : List (Int × Int)} (h : neatB l = true) {i : Nat} {p : Int × Int} (hp : l[i]? = some p) : p.1 ≤ p.2 ∧ ∀ q, l[i + 1]? = some q → p.2 + 1 < q.1 := by
  have h1 := neatB_drop l i h
  rw [Nd.drop_some hp] at h1
  simp only [neatB, Bool.and_eq_true, decide_eq_true_eq] at h1
  refine ⟨h1.1.1, fun q hq => ?_⟩
  have h2 := h1.1.2
  rw [Nd.drop_some hq] at h2
  simpa using h2
end Rn
set_option maxHeartbeats 4000000 in
/-- A list that is neat is so. -/
theorem neatRn_yes (l : List (Int × Int)) (v : Value) (w : World) (hv : RL w v l) (hl : l.length ≤ 140737488351232) (hn : neatB l = true) (hI : I32 l) :
    Calls Try.prog 24 #[v] w fun e w' => e = .returned (.bool true) ∧ Below w.heap.size w w' := by
  obtain ⟨a, c, rfl, _, hR⟩ := hv
  obtain ⟨N, hN⟩ : ∃ N, l.length = N := ⟨_, rfl⟩
  have HN := Lib.hid hN
  rw [hN] at hl ⊢
  have n1 : (N : Int) ≤ 9223372036854775807 := by omega
  have HR := Lib.hid hR
  have HNe := Lib.hid hn
  have HI := Lib.hid hI
  clear hR hN hn hI
  go_enter Try.func24, Try.ntmps24
  go_wp2_with fail
  go_loopw [3] (fun i wr => ∃ (k n : Nat), k ≤ N ∧ i = .int .i64 k ∧ wr = w.drewN n) (fun i _ => N - (intOf i).toNat)
  case atStart => exact ⟨0, 0, Nat.zero_le _, rfl, rfl⟩
  case round =>
    obtain ⟨k, n, hk, rfl, rfl⟩ := hrel
    by_cases hlt : k < N
    · obtain ⟨p, hp⟩ : ∃ p, l[k]? = some p := ⟨_, List.getElem?_eq_getElem (by rw [HN.out]; exact hlt)⟩
      obtain ⟨g1, o1, rfl, x1, x2⟩ := HR.out.get k p hp
      obtain ⟨hle, hnx⟩ := neatB_at HNe.out hp
      have hI := HI.out p (List.mem_of_getElem? hp)
      obtain ⟨pa, pb⟩ := p
      dsimp only at x1 x2 hle hnx hI
      have d0 : decide (k < N) = true := by rw [decide_eq_true_iff]; exact hlt
      have a0 : (k : Int) < (N : Int) := by omega
      have d1 : decide (pb < pa) = false := by rw [decide_eq_false_iff_not]; omega
      have e1 : IntKind.i64.wrap pa = pa := by simp [IntKind.wrap, IntKind.bits, IntKind.signed]; omega
      cases k with
      | zero =>
        have d2 : decide ((0 : Int) < 0) = false := by decide
        simp only [Nat.zero_mul, Nat.add_zero] at x1 x2
        clear hp hnx
        go_wp2_with fail
        go_quiet (fail)
        go_wp2_with fail
        exact ⟨⟨1, n + nq, by omega, by go_num, rfl⟩, by simp [intOf]; omega⟩
      | succ k =>
        obtain ⟨q, hq⟩ : ∃ p, l[k]? = some p := ⟨_, List.getElem?_eq_getElem (by rw [HN.out]; omega)⟩
        obtain ⟨g2, o2, hgo, y1, y2⟩ := HR.out.get k q hq
        injection hgo with hgo
        injection hgo with hg1 hg2
        subst hg1 hg2
        have hI2 := HI.out q (List.mem_of_getElem? hq)
        have hnq := (neatB_at HNe.out hq).2 _ hp
        obtain ⟨qa, qb⟩ := q
        dsimp only at y1 y2 hI2 hnq
        have d2 : decide ((0 : Int) < (k : Int) + 1) = true := by rw [decide_eq_true_iff]; omega
        have d3 : decide (pa ≤ qb + 1) = false := by rw [decide_eq_false_iff_not]; omega
        have e2 : IntKind.i64.wrap qb = qb := by simp [IntKind.wrap, IntKind.bits, IntKind.signed]; omega
        have e3 : IntKind.i64.wrap (qb + 1) = qb + 1 := by simp [IntKind.wrap, IntKind.bits, IntKind.signed]; omega
        have f1 : (k : Int) + 1 - 1 = k := by omega
        have f2 : IntKind.i64.wrap (k : Int) = k := by simp [IntKind.wrap, IntKind.bits, IntKind.signed]; omega
        have a1 : (k : Int) < (N : Int) := by omega
        have a2 : (k : Int) + 1 < (N : Int) := by omega
        have a3 : (0 : Int) ≤ (k : Int) := by omega
        clear hp hq hnx
        go_wp2_with fail
        go_quiet (fail)
        go_wp2_with fail
        exact ⟨⟨k + 1 + 1, n + nq, by omega, by go_num, rfl⟩, by simp [intOf]; omega⟩
    · have d0 : decide (k < N) = false := by rw [decide_eq_false_iff_not]; exact hlt
      go_wp2_with fail
      go_ret
      exact ⟨rfl, below_drewN (Below.refl _ _) _⟩
end Go.Proofs.Ytianappapfpbeaa
