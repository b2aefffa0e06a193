/- The contracts of the chapter's own Class, Has, Changes. -/
import Derived.Test.YtianappapfpbeaaRnB
import Derived.Test.YtianappapfpbeaaRnU
namespace Go.Proofs.Ytianappapfpbeaa
open Go Go.RowKit Rn
set_option maxRecDepth 100000

set_option maxHeartbeats 2000000 in
theorem refClassRn_any (l : List (Int × Int)) (v : Value) (x : Int) (w : World) (hR : RL w v l) (hl : l.length ≤ 140737488351232) :
    Calls Try.prog 21 #[v, .int .i32 x] w fun e w' => e = .returned (.int .i64 (cls l x)) ∧ w' = w := by
  obtain ⟨a, cap, rfl, _, hR⟩ := hR
  obtain ⟨N, hN⟩ : ∃ k, l.length = k := ⟨_, rfl⟩
  have HN := Lib.hid hN
  rw [hN] at hl ⊢
  have n1 : (N : Int) ≤ 9223372036854775807 := by omega
  have HR := Lib.hid hR
  have HT : Hid (atI (clsF x 0 l) = cls l x) := Lib.hid rfl
  obtain ⟨TT, hTT⟩ : ∃ k, cls l x = k := ⟨_, rfl⟩
  rw [hTT] at HT ⊢
  clear hTT hN hR
  go_enter Try.func21, Try.ntmps21
  go_wp2_with fail
  go_loop [5] (fun i => ∃ p : Nat, p ≤ N ∧ i = .int .i64 p ∧ Hid (atI (clsF x p (l.drop p)) = TT)) (fun i => N - (intOf i).toNat)
  case atStart => exact ⟨0, Nat.zero_le _, rfl, by rw [List.drop_zero]; exact HT⟩
  case round =>
    obtain ⟨p, hp, rfl, hT⟩ := hrel
    by_cases hlt : p < N
    · have d2 : decide (p < N) = true := by rw [decide_eq_true_iff]; exact hlt
      have p0 : (p : Int) < (N : Int) := by omega
      obtain ⟨r, hr⟩ : ∃ r, l[p]? = some r := ⟨_, List.getElem?_eq_getElem (by rw [HN.out]; exact hlt)⟩
      obtain ⟨g, o, rfl, x1, x2⟩ := HR.out.get p r hr
      obtain ⟨ra, rb⟩ := r
      dsimp only at x1 x2
      have hst : atI (if ra ≤ x ∧ x ≤ rb then some p else clsF x (p + 1) (l.drop (p + 1))) = TT := by
        rw [← hT.out, Nd.drop_some hr]
        simp only [clsF]
      by_cases h1 : ra ≤ x
      · have d3 : decide (ra ≤ x) = true := decide_eq_true h1
        by_cases h2 : x ≤ rb
        · have d4 : decide (x ≤ rb) = true := decide_eq_true h2
          rw [if_pos ⟨h1, h2⟩] at hst
          have HST := Lib.hid hst
          clear hst hr hT HT h1 h2
          go_wp2_with fail
          go_ret
          exact ⟨by rw [← HST.out]; rfl, rfl⟩
        · have d4 : decide (x ≤ rb) = false := decide_eq_false h2
          rw [if_neg (fun h => h2 h.2)] at hst
          have HST := Lib.hid hst
          clear hst hr hT HT h1 h2
          go_wp2_with fail
          go_round
          case rel => exact ⟨p + 1, by omega, by go_num, HST⟩
          case measure => simp [intOf]; omega
      · have d3 : decide (ra ≤ x) = false := decide_eq_false h1
        rw [if_neg (fun h => h1 h.1)] at hst
        have HST := Lib.hid hst
        clear hst hr hT HT h1
        go_wp2_with fail
        go_round
        case rel => exact ⟨p + 1, by omega, by go_num, HST⟩
        case measure => simp [intOf]; omega
    · have d2 : decide (p < N) = false := by rw [decide_eq_false_iff_not]; exact hlt
      have hfin : (-1 : Int) = TT := by
        rw [← hT.out, List.drop_eq_nil_of_le (by rw [HN.out]; omega)]
        simp only [clsF, atI]
      have HF := Lib.hid hfin
      clear hfin hT HT
      go_wp2_with fail
      go_ret
      exact ⟨by rw [← HF.out]; rfl, rfl⟩
set_option maxHeartbeats 1000000 in
theorem refHasRn_any (l : List (Int × Int)) (v : Value) (x : Int) (w : World) (hR : RL w v l) (hl : l.length ≤ 140737488351232) :
    Calls Try.prog 23 #[v, .int .i32 x] w fun e w' => e = .returned (.bool (hasB l x)) ∧ w' = w := by
  have hC := Lib.hid (refClassRn_any l v x w hR hl)
  rw [← cls_has l x]
  obtain ⟨a, c, rfl, hc, hR⟩ := hR
  generalize cls l x = I at *
  generalize l.length = N at *
  clear hR
  go_enter Try.func23, Try.ntmps23
  go_wp2_with (go_at_call 21; refine hC.out.mono ?_; rintro e w' ⟨rfl, rfl⟩)
  go_ret
  exact ⟨rfl, rfl⟩
theorem infoI64 : (Try.prog.info? 2).map (fun i => (i.zero, i.size, i.bytes)) = some (some (.int .i64 0), 1, 8) := by kernel_rfl
namespace Rn
def numV (A : List Int) : List Value := A.map fun x => .int .i64 x
/-- X is behind x, and no end of the first p lists, and of the first q ranges of the next one, stands between. -/
def Nx (ls : List (List (Int × Int))) (x X : Int) (p q : Nat) : Prop := (x < X ∧ X ≤ 2147483648) ∧ ∀ (i j : Nat) (l : List (Int × Int)) (r : Int × Int), ls[i]? = some l → l[j]? = some r → (i < p ∨ (i = p ∧ j < q)) → (r.1 ≤ x ∨ X ≤ r.1) ∧ (r.2 + 1 ≤ x ∨ X ≤ r.2 + 1)
theorem Nx.start {ls : List (List (Int × Int))} {x : Int} (h : x < 2147483648) : Nx ls x 2147483648 0 0 := ⟨⟨h, Int.le_refl _⟩, fun i j l r _ _ h => by omega⟩
theorem Nx.row {ls : List (List (Int × Int))} {x X : Int} {p : Nat} {l : List (Int × Int)} (hl : ls[p]? = some l) (h : Nx ls x X p l.length) : Nx ls x X (p + 1) 0 :=
  ⟨h.1, fun i j l' r h1 h2 h3 => by
    refine h.2 i j l' r h1 h2 ?_
    rcases h3 with h3 | h3
    · by_cases k : i < p
      · exact .inl k
      · have e : i = p := by omega
        subst e
        rw [hl] at h1
        injection h1 with h1
        subst h1
        exact .inr ⟨rfl, (List.getElem?_eq_some_iff.1 h2).1⟩
    · omega⟩
theorem Nx.one {ls : List (List (Int × Int))} {x X X1 X2 : Int} {p q : Nat} {l : List (Int × Int)} {a b : Int} (hl : ls[p]? = some l) (hr : l[q]? = some (a, b)) (h : Nx ls x X p q) (h1 : X1 = if x < a ∧ a < X then a else X) (h2 : X2 = if x < b + 1 ∧ b + 1 < X1 then b + 1 else X1) : Nx ls x X2 p (q + 1) := by
  have e1 : x < X1 ∧ X1 ≤ X ∧ (a ≤ x ∨ X1 ≤ a) := by
    have := h.1
    rw [h1]
    split <;> omega
  have e2 : x < X2 ∧ X2 ≤ X1 ∧ (b + 1 ≤ x ∨ X2 ≤ b + 1) := by
    rw [h2]
    split <;> omega
  have h0 := h.1
  refine ⟨by omega, fun i j l' r k1 k2 k3 => ?_⟩
  by_cases c : i < p ∨ (i = p ∧ j < q)
  · have := h.2 i j l' r k1 k2 c
    omega
  · obtain ⟨rfl, rfl⟩ : i = p ∧ j = q := by omega
    rw [hl] at k1
    injection k1 with k1
    subst k1
    rw [hr] at k2
    injection k2 with k2
    subst k2
    simp only
    omega
theorem Nx.calm {ls : List (List (Int × Int))} {x X : Int} (h : Nx ls x X ls.length 0) : Calm ls x X :=
  ⟨h.1.1, fun l hl r hr => by
    obtain ⟨i, hi⟩ := List.getElem?_of_mem hl
    obtain ⟨j, hj⟩ := List.getElem?_of_mem hr
    exact h.2 i j l r hi hj (.inl (List.getElem?_eq_some_iff.1 hi).1)⟩
end Rn
set_option maxHeartbeats 8000000 in
theorem ChangesRn_any (ls : List (List (Int × Int))) (v : Value) (w : World) (hL : RLL w v ls) (hlen : ls.length ≤ 1000000) (hin : ∀ l ∈ ls, I32 l ∧ l.length ≤ 1000000) :
    Calls Try.prog 33 #[v] w fun e w' => ∃ v' A, e = .returned v' ∧ Chg ls A ∧ A.length ≤ 4294967297 ∧ w'.ownsRow w.heap.size 2 1 v' A.length (numV A) ∧ Below w.heap.size w w' := by
  obtain ⟨i0, hi, hz0, hz1, hz2⟩ := info_partsRn infoI64
  obtain ⟨a, c, rfl, hc, hL⟩ := hL
  obtain ⟨LN, hLN⟩ : ∃ k, ls.length = k := ⟨_, rfl⟩
  have HLN := Lib.hid hLN
  rw [hLN] at hc hlen ⊢
  have HL := Lib.hid hL
  have HI := Lib.hid hin
  clear hL hLN hin
  have n1 : (LN : Int) ≤ 9223372036854775807 := by omega
  go_enter Try.func33, Try.ntmps33
  go_wp2_with fail
  go_loopw [3, 4] (fun v3 at_ wr => ∃ (A : List Int) (x : Int), at_ = .int .i64 x ∧ Hid (Gat ls A x ∧ (A.length : Int) ≤ x + 2147483648 ∧ wr.ownsRow w.heap.size 2 1 v3 A.length (numV A) ∧ Below w.heap.size w wr)) (fun _ at_ _ => (2147483648 - intOf at_).toNat)
  case atStart => exact ⟨[], -2147483648, rfl, Gat.start ls, by simp, World.ownsRow_nil w _ _ _, Below.refl _ _⟩
  case round =>
    obtain ⟨A, x, rfl, hG⟩ := hrel
    have hx := hG.out.1.low x (by simp)
    have hal := hG.out.2.1
    unfold lowest at hx
    by_cases hlt : x < 2147483648
    · have d2 : decide (x < 2147483648) = true := by rw [decide_eq_true_iff]; exact hlt
      have hNx0 := Lib.hid (Nx.start (ls := ls) hlt)
      go_wp2_with fail
      go_loop [5, 6] (fun nx i => ∃ (X : Int) (p : Nat), p ≤ LN ∧ nx = .int .i64 X ∧ i = .int .i64 p ∧ Hid (Nx ls x X p 0)) (fun _ i => LN - (intOf i).toNat)
      case atStart => exact ⟨2147483648, 0, Nat.zero_le _, rfl, rfl, hNx0⟩
      case round =>
        obtain ⟨X, p, hp, rfl, rfl, hN⟩ := hrel
        by_cases hlp : p < LN
        · have d3 : decide (p < LN) = true := by rw [decide_eq_true_iff]; exact hlp
          have p0 : (p : Int) < (LN : Int) := by omega
          obtain ⟨l, hl⟩ : ∃ l, ls[p]? = some l := ⟨_, List.getElem?_eq_getElem (by rw [HLN.out]; exact hlp)⟩
          obtain ⟨g, o, u, rfl, x1, la, lc, rfl, hlc, hR⟩ := HL.out p l hl
          have y1 := Nd.cell_keeps hG.out.2.2.2 x1
          obtain ⟨hI, hll⟩ := HI.out l (List.mem_of_getElem? hl)
          have HRow := Lib.hid (fun X (h : Nx ls x X p l.length) => h.row hl)
          have HOne := Lib.hid (fun q a b X X1 X2 (hr : l[q]? = some (a, b)) (h : Nx ls x X p q) (h1 : X1 = if x < a ∧ a < X then a else X) (h2 : X2 = if x < b + 1 ∧ b + 1 < X1 then b + 1 else X1) => h.one hl hr h1 h2)
          obtain ⟨N, hNN⟩ : ∃ k, l.length = k := ⟨_, rfl⟩
          have HN := Lib.hid hNN
          rw [hNN] at y1 hlc hll HRow
          have n2 : (N : Int) ≤ 9223372036854775807 := by omega
          have HR := Lib.hid hR
          have HI2 := Lib.hid hI
          clear hl hR hI hNN x1
          go_wp2_with fail
          go_loop [5, 7] (fun nx i => ∃ (X : Int) (q : Nat), q ≤ N ∧ nx = .int .i64 X ∧ i = .int .i64 q ∧ Hid (Nx ls x X p q)) (fun _ i => N - (intOf i).toNat)
          case atStart => exact ⟨X, 0, Nat.zero_le _, rfl, rfl, hN⟩
          case round =>
            obtain ⟨X, q, hq, rfl, rfl, hN⟩ := hrel
            by_cases hlq : q < N
            · have d4 : decide (q < N) = true := by rw [decide_eq_true_iff]; exact hlq
              have q0 : (q : Int) < (N : Int) := by omega
              obtain ⟨r, hr⟩ : ∃ r, l[q]? = some r := ⟨_, List.getElem?_eq_getElem (by rw [HN.out]; exact hlq)⟩
              obtain ⟨rg, ro, hra, z1, z2⟩ := HR.out.get q r hr
              subst hra
              have z3 := Nd.cell_keeps hG.out.2.2.2 z1
              have z4 := Nd.cell_keeps hG.out.2.2.2 z2
              have hr32 := HI2.out r (List.mem_of_getElem? hr)
              obtain ⟨ra, rb⟩ := r
              dsimp only at z3 z4 hr32
              have HO := Lib.hid (fun X1 X2 (h1 : X1 = if x < ra ∧ ra < X then ra else X) (h2 : X2 = if x < rb + 1 ∧ rb + 1 < X1 then rb + 1 else X1) => HOne.out q ra rb X X1 X2 hr hN.out h1 h2)
              have e3 : IntKind.i64.wrap (rb + 1) = rb + 1 := by simp [IntKind.wrap, IntKind.bits, IntKind.signed]; omega
              have e4 : IntKind.i64.wrap ra = ra := by simp [IntKind.wrap, IntKind.bits, IntKind.signed]; omega
              have e5 : IntKind.i64.wrap rb = rb := by simp [IntKind.wrap, IntKind.bits, IntKind.signed]; omega
              clear hr z1 z2 hN
              by_cases c1 : x < ra
              · have cd1 : decide (x < ra) = true := decide_eq_true c1
                by_cases c2 : ra < X
                · have cd2 : decide (ra < X) = true := decide_eq_true c2
                  have HO2 := HO.out ra _ (by rw [if_pos ⟨c1, c2⟩]) rfl
                  by_cases b1 : x < rb + 1
                  · have bd1 : decide (x < rb + 1) = true := decide_eq_true b1
                    by_cases b2 : rb + 1 < ra
                    · have bd2 : decide (rb + 1 < ra) = true := decide_eq_true b2
                      rw [if_pos ⟨b1, b2⟩] at HO2
                      have HO3 := Lib.hid HO2
                      clear HO2
                      go_wp2_with fail
                      go_round
                      case rel => exact ⟨_, q + 1, by omega, rfl, by go_num, HO3⟩
                      case measure => simp [intOf]; omega
                    · have bd2 : decide (rb + 1 < ra) = false := decide_eq_false b2
                      rw [if_neg (fun h => b2 h.2)] at HO2
                      have HO3 := Lib.hid HO2
                      clear HO2
                      go_wp2_with fail
                      go_round
                      case rel => exact ⟨_, q + 1, by omega, rfl, by go_num, HO3⟩
                      case measure => simp [intOf]; omega
                  · have bd1 : decide (x < rb + 1) = false := decide_eq_false b1
                    rw [if_neg (fun h => b1 h.1)] at HO2
                    have HO3 := Lib.hid HO2
                    clear HO2
                    go_wp2_with fail
                    go_round
                    case rel => exact ⟨_, q + 1, by omega, rfl, by go_num, HO3⟩
                    case measure => simp [intOf]; omega
                · have cd2 : decide (ra < X) = false := decide_eq_false c2
                  have HO2 := HO.out X _ (by rw [if_neg (fun h => c2 h.2)]) rfl
                  by_cases b1 : x < rb + 1
                  · have bd1 : decide (x < rb + 1) = true := decide_eq_true b1
                    by_cases b2 : rb + 1 < X
                    · have bd2 : decide (rb + 1 < X) = true := decide_eq_true b2
                      rw [if_pos ⟨b1, b2⟩] at HO2
                      have HO3 := Lib.hid HO2
                      clear HO2
                      go_wp2_with fail
                      go_round
                      case rel => exact ⟨_, q + 1, by omega, rfl, by go_num, HO3⟩
                      case measure => simp [intOf]; omega
                    · have bd2 : decide (rb + 1 < X) = false := decide_eq_false b2
                      rw [if_neg (fun h => b2 h.2)] at HO2
                      have HO3 := Lib.hid HO2
                      clear HO2
                      go_wp2_with fail
                      go_round
                      case rel => exact ⟨_, q + 1, by omega, rfl, by go_num, HO3⟩
                      case measure => simp [intOf]; omega
                  · have bd1 : decide (x < rb + 1) = false := decide_eq_false b1
                    rw [if_neg (fun h => b1 h.1)] at HO2
                    have HO3 := Lib.hid HO2
                    clear HO2
                    go_wp2_with fail
                    go_round
                    case rel => exact ⟨_, q + 1, by omega, rfl, by go_num, HO3⟩
                    case measure => simp [intOf]; omega
              · have cd1 : decide (x < ra) = false := decide_eq_false c1
                have HO2 := HO.out X _ (by rw [if_neg (fun h => c1 h.1)]) rfl
                by_cases b1 : x < rb + 1
                · have bd1 : decide (x < rb + 1) = true := decide_eq_true b1
                  by_cases b2 : rb + 1 < X
                  · have bd2 : decide (rb + 1 < X) = true := decide_eq_true b2
                    rw [if_pos ⟨b1, b2⟩] at HO2
                    have HO3 := Lib.hid HO2
                    clear HO2
                    go_wp2_with fail
                    go_round
                    case rel => exact ⟨_, q + 1, by omega, rfl, by go_num, HO3⟩
                    case measure => simp [intOf]; omega
                  · have bd2 : decide (rb + 1 < X) = false := decide_eq_false b2
                    rw [if_neg (fun h => b2 h.2)] at HO2
                    have HO3 := Lib.hid HO2
                    clear HO2
                    go_wp2_with fail
                    go_round
                    case rel => exact ⟨_, q + 1, by omega, rfl, by go_num, HO3⟩
                    case measure => simp [intOf]; omega
                · have bd1 : decide (x < rb + 1) = false := decide_eq_false b1
                  rw [if_neg (fun h => b1 h.1)] at HO2
                  have HO3 := Lib.hid HO2
                  clear HO2
                  go_wp2_with fail
                  go_round
                  case rel => exact ⟨_, q + 1, by omega, rfl, by go_num, HO3⟩
                  case measure => simp [intOf]; omega
            · have d4 : decide (q < N) = false := by rw [decide_eq_false_iff_not]; exact hlq
              obtain rfl : q = N := by omega
              have HF := Lib.hid (HRow.out X hN.out)
              clear hN
              go_wp2_with fail
              go_round
              case rel => exact ⟨X, p + 1, by omega, rfl, by go_num, HF⟩
              case measure => simp [intOf]; omega
        · have d3 : decide (p < LN) = false := by rw [decide_eq_false_iff_not]; exact hlp
          obtain rfl : p = LN := by omega
          have hcalm : Rn.Calm ls x X := (show Nx ls x X ls.length 0 by rw [HLN.out]; exact hN.out).calm
          have hX := hN.out.1
          have cn := cells_newRn wr [.int .i64 x] 2
          have HCN := Lib.hid cn
          have HGP := Lib.hid (hG.out.1.push hcalm hX.2)
          have hrow := hG.out.2.2.1
          have hbl := hG.out.2.2.2
          have hws := hbl.size
          have HB := Lib.hid hbl
          have hcl := hcalm.1
          clear cn hcalm hN hG hbl
          go_wp2_with (at_builtin; refine wpList_append_own _ rfl _ _ 50 rfl w.heap.size 2 i0 (.int .i64 0) 1 8 Try.underlying50 hi hz0 hz1 hz2 rfl (by decide) _ _ _ rfl (hrow.alloc _) ⟨wr.heap.size, 0, none⟩ 1 1 [.int .i64 x] rfl rfl HCN.out (fun x hx => by simp at hx; subst hx; rfl) (by unfold maxLen; omega) (by omega) (by simp; omega) ?_; intro v' w3 hown3 hg3 _)
          refine ⟨⟨A ++ [x], X, rfl, Lib.hid ⟨HGP.out, by rw [List.length_append, List.length_singleton]; omega, ?_, ?_⟩⟩, by simp [intOf]; omega⟩
          · rw [List.length_append, List.length_singleton]
            rw [show numV (A ++ [x]) = numV A ++ [.int .i64 x] by simp [numV]]
            exact hown3
          · exact (HB.out.alloc hws _).grown hg3 (by simp; omega) (fun k hk => (hrow.lt k hk).1)
    · obtain rfl : x = 2147483648 := by omega
      have d2 : decide ((2147483648 : Int) < 2147483648) = false := by decide
      have cn := cells_newRn wr [.int .i64 2147483648] 2
      have HCN := Lib.hid cn
      have HD := Lib.hid hG.out.1.done
      have hrow := hG.out.2.2.1
      have hbl := hG.out.2.2.2
      have hws := hbl.size
      have HB := Lib.hid hbl
      clear cn hG hbl
      go_wp2_with (at_builtin; refine wpList_append_own _ rfl _ _ 50 rfl w.heap.size 2 i0 (.int .i64 0) 1 8 Try.underlying50 hi hz0 hz1 hz2 rfl (by decide) _ _ _ rfl (hrow.alloc _) ⟨wr.heap.size, 0, none⟩ 1 1 [.int .i64 2147483648] rfl rfl HCN.out (fun x hx => by simp at hx; subst hx; rfl) (by unfold maxLen; omega) (by omega) (by simp; omega) ?_; intro v' w3 hown3 hg3 _)
      go_ret
      refine ⟨_, rfl, A ++ [2147483648], HD.out, by rw [List.length_append, List.length_singleton]; omega, ?_, ?_⟩
      · rw [List.length_append, List.length_singleton]
        rw [show numV (A ++ [2147483648]) = numV A ++ [.int .i64 2147483648] by simp [numV]]
        exact hown3
      · exact (HB.out.alloc hws _).grown hg3 (by simp; omega) (fun k hk => (hrow.lt k hk).1)
end Go.Proofs.Ytianappapfpbeaa
