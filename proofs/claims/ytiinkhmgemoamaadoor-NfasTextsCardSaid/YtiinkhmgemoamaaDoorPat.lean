/- The law's own: one of both holds; a step over a rune. -/
import Derived.Test.YtiinkhmgemoamaaDoorPas
namespace Go.Proofs.YtiinkhmgemoamaaDoor.Gl
open Go Go.RowKit Nd Nu Nf
attribute [local go_sem] Oper.semAt_some
set_option maxRecDepth 100000

/-- A row, place by place. -/
def tab (N : Nat) (f : Nat → Bool) : List Bool := (List.range N).map f
theorem tab_len (N : Nat) (f : Nat → Bool) : (tab N f).length = N := by simp [tab]
theorem tab_get {N : Nat} {f : Nat → Bool} {k : Nat} (h : k < N) : (tab N f)[k]? = some (f k) := by simp [tab, h]
theorem tab_getD (N : Nat) (f : Nat → Bool) (k : Nat) : (tab N f).getD k false = (decide (k < N) && f k) := by
 by_cases h : k < N
 · rw [List.getD_eq_getElem?_getD, tab_get h]; simp [h]
 · rw [List.getD_eq_getElem?_getD, List.getElem?_eq_none (by rw [tab_len]; omega)]; simp [h]
theorem tab_congr {N : Nat} {f g : Nat → Bool} (h : ∀ k, k < N → f k = g k) : tab N f = tab N g := by
 unfold tab
 exact List.map_congr_left fun k hk => h k (List.mem_range.1 hk)
theorem tab_set (N : Nat) (f : Nat → Bool) (k : Nat) (v : Bool) : (tab N f).set k v = tab N fun j => if j = k then v else f j := by
 apply List.ext_getElem?
 intro j
 by_cases hj : j < N
 · rw [tab_get hj]
   by_cases hk : j = k
   · subst hk
     rw [List.getElem?_set_self (by rw [tab_len]; exact hj)]
     simp
   · rw [List.getElem?_set_ne (fun e => hk e.symm), tab_get hj]
     simp [hk]
 · rw [List.getElem?_eq_none (by rw [List.length_set, tab_len]; omega), List.getElem?_eq_none (by rw [tab_len]; omega)]
theorem tab_none (N : Nat) : List.replicate N false = tab N fun _ => false := by
 unfold tab
 rw [List.map_const', List.length_range]
theorem BoV.get {w : World} {v : Value} {m : List Bool} (h : BoV w v m) : ∃ b c, v = .slice (some ⟨b, 0, none⟩) m.length c ∧ ∀ (i : Nat), i < m.length → w.cell? ⟨b, i, none⟩ = some (.bool (m.getD i false)) := by
 obtain ⟨b, c, h1, h2⟩ := h
 exact ⟨b, c, h1, fun i hi => by rw [h2.cell, bools_get hi]⟩
def orT (a b : List Bool) : List Bool := tab a.length fun j => a.getD j false || b.getD j false
set_option maxHeartbeats 4000000 in
theorem one_any (a b : List Bool) (u v : Value) (w : World) (hu : BoV w u a) (hv : BoV w v b) (hl : a.length ≤ 1000000) (hab : b.length = a.length) :
 Calls Tryd.prog 24 #[u, v] w fun e w' => (∃ x, e = .returned x ∧ BoV w' x (orT a b)) ∧ Below w.heap.size w w' := by
 obtain ⟨g1, c1, rfl, hA⟩ := hu.get
 obtain ⟨g2, c2, rfl, hB⟩ := hv.get
 rw [hab] at hB ⊢
 have hlt1 : g1 < w.heap.size := by obtain ⟨x, _, e, h⟩ := hu; cases e; exact h.lt
 have hlt2 : g2 < w.heap.size := by obtain ⟨x, _, e, h⟩ := hv; cases e; exact h.lt
 obtain ⟨N, hN⟩ : ∃ N, a.length = N := ⟨_, rfl⟩
 rw [hN] at hA hB hl ⊢
 have HN := Lib.hid hN
 have HA := Lib.hid (fun (wr : World) (hb : Below w.heap.size w wr) (i : Nat) (hi : i < N) => And.intro (Nd.cell_keeps hb (hA i hi)) (Nd.cell_keeps hb (hB i hi)))
 have n1 : (N : Int) ≤ 9223372036854775807 := by omega
 have hmk := run_make_row' (P := Tryd.prog) 52 4 (.bool false) 1 Tryd.underlying52 infoBool rfl .i64 .i64 N (by omega) (by omega)
 have HD0 := Lib.hid (show Bk (w.alloc (.cells (madeCells #[.bool false] N) 4)) w.heap.size 4 (bools (tab N fun j => decide (j < 0) && (a.getD j false || b.getD j false))) ∧ Below w.heap.size w (w.alloc (.cells (madeCells #[.bool false] N) 4)) from ⟨by
  rw [show (tab N fun j => decide (j < 0) && (a.getD j false || b.getD j false)) = List.replicate N false from by rw [tab_none]; exact tab_congr fun k _ => by simp, ← made_bools]
  exact Bk.made w 4 (madeCells #[.bool false] N), (Below.refl _ _).alloc (Nat.le_refl _) _⟩)
 clear hN hA hB hu hv
 go_enter Tryd.func24, Tryd.ntmps24
 go_wp2_with fail
 go_loopw [6] (fun i wr => ∃ (k : Nat), k ≤ N ∧ i = .int .i64 k ∧ Hid (Bk wr w.heap.size 4 (bools (tab N fun j => decide (j < k) && (a.getD j false || b.getD j false))) ∧ Below w.heap.size w wr)) (fun i _ => N - (intOf i).toNat)
 case atStart => exact ⟨0, Nat.zero_le _, rfl, HD0⟩
 case round =>
  obtain ⟨k, hk, rfl, hJ⟩ := hrel
  by_cases hlt : k < N
  · obtain ⟨x0, x1⟩ := HA.out wr hJ.out.2 k hlt
    have y0 := hJ.out.1.cell k
    rw [bools_get (by rw [tab_len]; exact hlt)] at y0
    have y1 := hJ.out.1.free k
    have d0 : decide (k < N) = true := by rw [decide_eq_true_iff]; exact hlt
    have a0 : (k : Int) < (N : Int) := by omega
    have a1 : (0 : Int) ≤ (k : Int) := by omega
    obtain ⟨p, hp⟩ : ∃ p, a.getD k false = p := ⟨_, rfl⟩
    obtain ⟨q, hq⟩ : ∃ q, b.getD k false = q := ⟨_, rfl⟩
    rw [hp] at x0
    rw [hq] at x1
    have HF := Lib.hid (show ∀ z, z = (p || q) → Bk (wr.setCell ⟨w.heap.size, k, none⟩ (.bool z)) w.heap.size 4 (bools (tab N fun j => decide (j < k + 1) && (a.getD j false || b.getD j false))) ∧ Below w.heap.size w (wr.setCell ⟨w.heap.size, k, none⟩ (.bool z)) from fun z hz => by
     refine ⟨?_, hJ.out.2.setCell (Nat.le_refl _) _⟩
     have := hJ.out.1.set k (.bool z)
     rw [bools_set, tab_set] at this
     rw [show (tab N fun j => decide (j < k + 1) && (a.getD j false || b.getD j false)) = tab N fun j => if j = k then z else decide (j < k) && (a.getD j false || b.getD j false) from tab_congr fun j _ => by
      by_cases hj : j = k
      · subst hj; rw [hz, hp, hq]; simp
      · rw [if_neg hj, show decide (j < k + 1) = decide (j < k) from decide_eq_decide.2 (by omega)]]
     exact this)
    generalize (tab N fun j => decide (j < k) && (a.getD j false || b.getD j false)).getD k false = old at y0
    clear hJ hp hq
    cases p with
    | true =>
     go_wp2_with fail
     exact ⟨⟨k + 1, by omega, by go_num, Lib.hid (HF.out true rfl)⟩, by simp [intOf]; omega⟩
    | false =>
     go_wp2_with fail
     exact ⟨⟨k + 1, by omega, by go_num, Lib.hid (HF.out q (by simp))⟩, by simp [intOf]; omega⟩
  · obtain rfl : k = N := by omega
    have d0 : decide (k < k) = false := by simp
    go_wp2_with fail
    go_ret
    refine ⟨⟨_, rfl, w.heap.size, k, ?_, ?_⟩, hJ.out.2⟩
    · rw [orT, tab_len, HN.out]; rfl
    · rw [orT, HN.out]
      rw [show (tab k fun j => a.getD j false || b.getD j false) = tab k fun j => decide (j < k) && (a.getD j false || b.getD j false) from tab_congr fun j hj => by simp [hj]]
      exact hJ.out.1
/-- A step over a rune of a set. -/
def stT (m : List Bool) (l : List Int) (set : List (Int × Int)) : List Bool := tab m.length fun j => decide (0 < j) && (m.getD (j - 1) false && match l[j - 1]? with | some r => inS set r | none => false)
set_option maxHeartbeats 4000000 in
theorem step_any (m : List Bool) (l : List Int) (set : List (Int × Int)) (u v : Value) (a : Option Addr) (c : Nat) (w : World) (hu : BoV w u m) (hv : LiV w v l) (hR : Nd.RgAt w set a) (hml : m.length = l.length + 1) (hl : l.length ≤ 100000) (hsl : set.length ≤ 140737488351232) :
 Calls Tryd.prog 26 #[u, v, .slice a set.length c] w fun e w' => (∃ x, e = .returned x ∧ BoV w' x (stT m l set)) ∧ Below w.heap.size w w' := by
 obtain ⟨g1, c1, rfl, hA⟩ := hu.get
 obtain ⟨la, c2, rfl, hB⟩ := hv
 obtain ⟨N, hN⟩ : ∃ N, l.length = N := ⟨_, rfl⟩
 rw [hml] at hA ⊢
 rw [hN] at hA hl hml ⊢
 have HN := Lib.hid (And.intro hN hml)
 have HA := Lib.hid (fun (wr : World) (hb : Below w.heap.size w wr) (i : Nat) (hi : i < N) => show wr.cell? ⟨g1, i, none⟩ = some (.bool (m.getD i false)) ∧ ∃ r lb lo, l[i]? = some r ∧ la = some ⟨lb, lo, none⟩ ∧ wr.cell? ⟨lb, lo + i, none⟩ = some (.int .i32 r) from by
  obtain ⟨r, hr⟩ : ∃ r, l[i]? = some r := ⟨_, List.getElem?_eq_getElem (by omega)⟩
  obtain ⟨lb, lo, e1, e2⟩ := hB i r hr
  exact ⟨Nd.cell_keeps hb (hA i (by omega)), r, lb, lo, hr, e1, Nd.cell_keeps hb e2⟩)
 have HH := Lib.hid (fun (wr : World) (hb : Below w.heap.size w wr) (r : Int) => holds_any set a c r wr (hR.below hb) hsl)
 generalize set.length = SL at *
 obtain ⟨M, hM⟩ : ∃ M, N + 1 = M := ⟨_, rfl⟩
 have n1 : (N : Int) ≤ 9223372036854775807 := by omega
 have n2 : (M : Int) ≤ 9223372036854775807 := by omega
 rw [hM]
 have hmk := run_make_row' (P := Tryd.prog) 52 4 (.bool false) 1 Tryd.underlying52 infoBool rfl .i64 .i64 M (by omega) (by omega)
 obtain ⟨G, hG⟩ : ∃ G : Nat → Nat → Bool, G = fun k j => decide (0 < j) && decide (j < k + 1) && (m.getD (j - 1) false && match l[j - 1]? with | some r => inS set r | none => false) := ⟨_, rfl⟩
 have HG := Lib.hid hG
 have HM := Lib.hid hM
 have HD0 := Lib.hid (show Bk (w.alloc (.cells (madeCells #[.bool false] M) 4)) w.heap.size 4 (bools (tab M (G 0))) ∧ Below w.heap.size w (w.alloc (.cells (madeCells #[.bool false] M) 4)) from ⟨by
  rw [show tab M (G 0) = List.replicate M false from by
   rw [tab_none]
   exact tab_congr fun k _ => by
    rw [hG]
    by_cases h : k = 0
    · simp [h]
    · simp [show ¬ k < 0 + 1 by omega], ← made_bools]
  exact Bk.made w 4 (madeCells #[.bool false] M), (Below.refl _ _).alloc (Nat.le_refl _) _⟩)
 clear hN hA hB hu hR hml hG hM
 go_enter Tryd.func26, Tryd.ntmps26
 go_wp2_with fail
 go_loopw [8] (fun i wr => ∃ (k : Nat), k ≤ N ∧ i = .int .i64 k ∧ Hid (Bk wr w.heap.size 4 (bools (tab M (G k))) ∧ Below w.heap.size w wr)) (fun i _ => N - (intOf i).toNat)
 case atStart => exact ⟨0, Nat.zero_le _, rfl, HD0⟩
 case round =>
  obtain ⟨k, hk, rfl, hJ⟩ := hrel
  by_cases hlt : k < N
  · obtain ⟨x0, r, lb, lo, hr, rfl, x1⟩ := HA.out wr hJ.out.2 k hlt
    have hkM : k + 1 < M := by have := HM.out; omega
    have y0 := hJ.out.1.cell (k + 1)
    rw [bools_get (by rw [tab_len]; exact hkM)] at y0
    have y1 := hJ.out.1.free (k + 1)
    have d0 : decide (k < N) = true := by rw [decide_eq_true_iff]; exact hlt
    have a0 : (k : Int) < (N : Int) := by omega
    have a1 : (0 : Int) ≤ (k : Int) := by omega
    have a2 : (k : Int) < (M : Int) := by omega
    have a3 : (k : Int) + 1 < (M : Int) := by omega
    obtain ⟨p, hp⟩ : ∃ p, m.getD k false = p := ⟨_, rfl⟩
    obtain ⟨q, hq⟩ : ∃ q, inS set r = q := ⟨_, rfl⟩
    rw [hp] at x0
    have HC := HH.out wr hJ.out.2 r
    rw [hq] at HC
    have HCh := Lib.hid HC
    have hpq : ∀ j, G (k + 1) j = if j = k + 1 then (p && q) else G k j := fun j => by
     rw [HG.out]
     dsimp only
     by_cases hj : j = k + 1
     · subst hj
       rw [if_pos rfl, Nat.add_sub_cancel, hp, hr]
       simp [hq]
     · rw [if_neg hj]
       rw [show decide (j < k + 1 + 1) = decide (j < k + 1) from decide_eq_decide.2 (by omega)]
    have HT := Lib.hid (show (p && q) = true → Bk (wr.setCell ⟨w.heap.size, k + 1, none⟩ (.bool true)) w.heap.size 4 (bools (tab M (G (k + 1)))) ∧ Below w.heap.size w (wr.setCell ⟨w.heap.size, k + 1, none⟩ (.bool true)) from fun h => by
     refine ⟨?_, hJ.out.2.setCell (Nat.le_refl _) _⟩
     have := hJ.out.1.set (k + 1) (.bool true)
     rw [bools_set, tab_set] at this
     rw [show tab M (G (k + 1)) = tab M fun j => if j = k + 1 then true else G k j from tab_congr fun j _ => by rw [hpq, h]]
     exact this)
    have HF := Lib.hid (show (p && q) = false → Bk wr w.heap.size 4 (bools (tab M (G (k + 1)))) ∧ Below w.heap.size w wr from fun h => by
     refine ⟨?_, hJ.out.2⟩
     rw [show tab M (G (k + 1)) = tab M (G k) from tab_congr fun j _ => by
      rw [hpq, h]
      by_cases hj : j = k + 1
      · rw [if_pos hj, hj, HG.out]; simp
      · rw [if_neg hj]]
     exact hJ.out.1)
    generalize (tab M (G k)).getD (k + 1) false = old at y0
    clear hJ hp hq hpq HC hr hkM
    cases p with
    | false =>
     go_wp2_with fail
     exact ⟨⟨k + 1, by omega, by go_num, Lib.hid (HF.out rfl)⟩, by simp [intOf]; omega⟩
    | true =>
     cases q with
     | false =>
      go_wp2_with (go_at_call 11; refine HCh.out.mono ?_; rintro e w' ⟨rfl, hw'⟩; rw [hw'])
      exact ⟨⟨k + 1, by omega, by go_num, Lib.hid (HF.out rfl)⟩, by simp [intOf]; omega⟩
     | true =>
      go_wp2_with (go_at_call 11; refine HCh.out.mono ?_; rintro e w' ⟨rfl, hw'⟩; rw [hw'])
      exact ⟨⟨k + 1, by omega, by go_num, Lib.hid (HT.out rfl)⟩, by simp [intOf]; omega⟩
  · obtain rfl : k = N := by omega
    have d0 : decide (k < k) = false := by simp
    go_wp2_with fail
    go_ret
    refine ⟨⟨_, rfl, w.heap.size, M, ?_, ?_⟩, hJ.out.2⟩
    · rw [stT, tab_len, HN.out.2, HM.out]; rfl
    · rw [stT, HN.out.2, HM.out]
      rw [show (tab M fun j => decide (0 < j) && (m.getD (j - 1) false && match l[j - 1]? with | some r => inS set r | none => false)) = tab M (G k) from tab_congr fun j hj => by rw [HG.out]; have := HM.out; simp [show j < k + 1 by omega]]
      exact hJ.out.1
end Go.Proofs.YtiinkhmgemoamaaDoor.Gl
