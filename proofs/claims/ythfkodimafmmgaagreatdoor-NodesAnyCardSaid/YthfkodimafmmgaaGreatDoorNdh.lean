/- The chapter's own Plain. -/
import Derived.Test.YthfkodimafmmgaaGreatDoorNdg
import Derived.Test.YthfkodimafmmgaaGreatDoorNdP
namespace Go.Proofs.YthfkodimafmmgaaGreatDoor
open Go Go.RowKit Ru
set_option maxRecDepth 100000

namespace Nd
theorem okP_len (tok : Bool) : ∀ (n : Nat) (l : List (Nat × T)), okP tok n l = true → l = [] ∨ n + l.length ≤ 2048
  | _, [], _ => .inl rfl
  | n, q :: r, h => by
    simp only [okP, Bool.and_eq_true, decide_eq_true_eq] at h
    rcases okP_len tok (n + 1) r h.2 with hr | hr
    · subst hr; right; simp; omega
    · right; simp only [List.length_cons]; omega
theorem okP_lvl (tok : Bool) : ∀ (n : Nat) (l : List (Nat × T)), okP tok n l = true → ∀ p ∈ l, p.1 ≤ 64
  | _, [], _, p, hp => by simp at hp
  | n, q :: r, h, p, hp => by
    simp only [okP, Bool.and_eq_true, decide_eq_true_eq] at h
    rcases List.mem_cons.1 hp with rfl | hp
    · exact h.1.1.2
    · exact okP_lvl tok (n + 1) r h.2 p hp
theorem top_most (m : Nat) : ∀ (l : List (Nat × T)) (d : Nat), d ≤ m → (∀ p ∈ l, p.1 ≤ m) → top d l ≤ m
  | [], d, h, _ => h
  | q :: r, d, h, hl => by
    simp only [top]
    exact top_most m r _ (Nat.max_le.2 ⟨h, hl q (by simp)⟩) fun p hp => hl p (by simp [hp])
/-- What is in a node, itself the first. -/
def all (t : T) : List T := (parts 1 t).map (·.2)
theorem plain_iff (t : T) (tok : Bool) : plainB t tok = true ↔ count t ≤ 2048 ∧ deep t ≤ 64 ∧ ∀ x ∈ all t, fitsB x tok = true := by
  constructor
  · intro h
    refine ⟨?_, ?_, ?_⟩
    · have h1 := okP_len tok 0 _ h
      have h2 := parts_len 1 t
      have h3 := count_pos t
      rcases h1 with h1 | h1
      · rw [h1] at h2; simp at h2; omega
      · omega
    · rw [← top_all]
      exact top_most 64 _ 0 (by omega) (okP_lvl tok 0 _ h)
    · intro x hx
      obtain ⟨p, hp, rfl⟩ := List.mem_map.1 hx
      exact okP_fits tok 0 _ h p hp
  · rintro ⟨h1, h2, h3⟩
    refine okP_mk tok 0 _ (by rw [parts_len]; omega) fun p hp => ⟨?_, h3 _ (List.mem_map.2 ⟨p, hp, rfl⟩)⟩
    have := parts_lvl 1 t p hp
    omega
theorem partsL_map (l : Nat) : ∀ b : List T, (partsL l b).map (·.2) = b.flatMap all
  | [] => by simp [partsL]
  | t :: r => by
    simp only [partsL, List.map_append, List.flatMap_cons, partsL_map l r]
    rw [parts_snd l 1 t]
    rfl
theorem all_mk (k : Int) (n x : ByteArray) (s : List (Int × Int)) (b : List T) : all (.mk k n x s b) = .mk k n x s b :: b.flatMap all := by
  unfold all
  simp only [parts, List.map_cons]
  rw [partsL_map]
  rfl
theorem plain_subs (k : Int) (n x : ByteArray) (s : List (Int × Int)) (b : List T) (tok : Bool) :
    plainB (.mk k n x s b) tok = true ↔ count (.mk k n x s b) ≤ 2048 ∧ deep (.mk k n x s b) ≤ 64 ∧ fitsB (.mk k n x s b) tok = true ∧ ∀ t ∈ b, plainB t tok = true := by
  rw [plain_iff, all_mk]
  have e1 : count (.mk k n x s b) = 1 + countL b := by simp only [count]
  have e2 : deep (.mk k n x s b) = 1 + deepL b := by simp only [deep]
  constructor
  · rintro ⟨h1, h2, h3⟩
    refine ⟨h1, h2, h3 _ (by simp), fun t ht => (plain_iff t tok).2 ⟨?_, ?_, fun y hy => h3 y (List.mem_cons_of_mem _ (List.mem_flatMap.2 ⟨t, ht, hy⟩))⟩⟩
    · have := count_mem ht; omega
    · have := deep_mem ht; omega
  · rintro ⟨h1, h2, h3, h4⟩
    refine ⟨h1, h2, fun y hy => ?_⟩
    rcases List.mem_cons.1 hy with rfl | hy
    · exact h3
    · obtain ⟨t, ht, hy⟩ := List.mem_flatMap.1 hy
      exact ((plain_iff t tok).1 (h4 t ht)).2.2 y hy
end Nd
set_option maxHeartbeats 4000000 in
theorem refPlain_any (tok : Bool) (t : Nd.T) : ∀ (v : Value) (w : World), Nd.At w t v → Nd.count t ≤ 1000000 → Nd.deep t ≤ 1000000 →
    Calls Tryz.prog 11 #[v, .bool tok] w fun e w' => e = .returned (.bool (Nd.plainB t tok)) ∧ Below w.heap.size w w' := by
  induction t using Nd.T.ind with | _ k nm tx st sb ih => ?_
  intro v w hA hc hd
  have hsub := hA.subs
  have hps := Nd.plain_subs k nm tx st sb tok
  have ec : Nd.count (.mk k nm tx st sb) = 1 + Nd.countL sb := by simp only [Nd.count]
  have ed : Nd.deep (.mk k nm tx st sb) = 1 + Nd.deepL sb := by simp only [Nd.deep]
  have CC := fun (wx : World) (h : Below w.heap.size w wx) => refCount_any _ v wx (hA.below h) hc
  have CD := fun (wx : World) (h : Below w.heap.size w wx) => refDeep_any _ v wx (hA.below h) hd
  have CH := fun (wx : World) (h : Below w.heap.size w wx) => refHere_any _ v tok wx (hA.below h)
  obtain ⟨R, hRR⟩ : ∃ b, Nd.plainB (.mk k nm tx st sb) tok = b := ⟨_, rfl⟩
  obtain ⟨F, hF⟩ : ∃ b, Nd.fitsB (.mk k nm tx st sb) tok = b := ⟨_, rfl⟩
  obtain ⟨CN, hCN⟩ : ∃ b, Nd.count (.mk k nm tx st sb) = b := ⟨_, rfl⟩
  obtain ⟨DN, hDN⟩ : ∃ b, Nd.deep (.mk k nm tx st sb) = b := ⟨_, rfl⟩
  rw [hRR, hF, hCN, hDN] at hps
  rw [hCN] at CC hc ec
  rw [hDN] at CD hd ed
  rw [hF] at CH
  rw [hRR]
  unfold Nd.At at hA
  obtain ⟨sa, sc, ba, bc, rfl, _, _, _, _, hbc, _, _⟩ := hA
  have e0 : Nd.subsA (.agg #[.int .u8 k, .string nm, .string tx, .slice sa st.length sc, .slice ba sb.length bc]) = ba := rfl
  rw [e0] at hsub
  obtain ⟨SN, hSN⟩ : ∃ k, sb.length = k := ⟨_, rfl⟩
  have HSN := Lib.hid hSN
  rw [hSN] at hbc CC CD CH ⊢
  generalize st.length = SL at *
  have HPS := Lib.hid hps
  have n1 : (SN : Int) ≤ 9223372036854775807 := by omega
  have HB := Lib.hid (show Below w.heap.size w (w.alloc (.cells #[.int .u8 k, .string nm, .string tx, .slice sa SL sc, .slice ba SN bc] 26)) from (Below.refl _ w).alloc (Nat.le_refl _) _)
  have HBk := Lib.hid (Bk.made w 26 #[.int .u8 k, .string nm, .string tx, .slice sa SL sc, .slice ba SN bc])
  replace CC := Lib.hid CC
  replace CD := Lib.hid CD
  replace CH := Lib.hid CH
  clear hps hRR hF hCN hDN hSN e0
  obtain ⟨CI, hCI⟩ : ∃ c : Int, (CN : Int) = c := ⟨_, rfl⟩
  obtain ⟨DI, hDI⟩ : ∃ c : Int, (DN : Int) = c := ⟨_, rfl⟩
  rw [hCI] at CC
  rw [hDI] at CD
  have CELLS := Lib.hid (fun (w1 : World) (h : Bk w1 w.heap.size 26 #[.int .u8 k, .string nm, .string tx, .slice sa SL sc, .slice ba SN bc]) => show w1.cell? ⟨w.heap.size, 0, none⟩ = some (.int .u8 k) ∧ w1.cell? ⟨w.heap.size, 1, none⟩ = some (.string nm) ∧ w1.cell? ⟨w.heap.size, 2, none⟩ = some (.string tx) ∧ w1.cell? ⟨w.heap.size, 3, none⟩ = some (.slice sa SL sc) ∧ w1.cell? ⟨w.heap.size, 4, none⟩ = some (.slice ba SN bc) from by
    refine ⟨?_, ?_, ?_, ?_, ?_⟩ <;> rw [h.cell] <;> rfl)
  by_cases hc2 : 2048 < CN
  · have d0 : decide (2048 < CI) = true := by rw [decide_eq_true_iff]; omega
    have HF := Lib.hid (show R = false from by
      cases h : R with
      | false => rfl
      | true => have := (HPS.out.1 h).1; omega)
    clear hCI hDI
    go_enter Tryz.func11, Tryz.ntmps11
    go_wp2_with fail
    refine (CC.out _ HB.out).mono ?_
    rintro e w1 ⟨rfl, hb1⟩
    go_wp2_with fail
    go_ret
    exact ⟨by rw [HF.out]; rfl, HB.out.trans (hb1.mono HB.out.size)⟩
  have d0 : decide (2048 < CI) = false := by rw [decide_eq_false_iff_not]; omega
  by_cases hd2 : 64 < DN
  · have d1 : decide (64 < DI) = true := by rw [decide_eq_true_iff]; omega
    have HF := Lib.hid (show R = false from by
      cases h : R with
      | false => rfl
      | true => have := (HPS.out.1 h).2.1; omega)
    clear hCI hDI
    go_enter Tryz.func11, Tryz.ntmps11
    go_wp2_with fail
    refine (CC.out _ HB.out).mono ?_
    rintro e w1 ⟨rfl, hb1⟩
    have HB1 := Lib.hid (HB.out.trans (hb1.mono HB.out.size))
    obtain ⟨x0, x1, x2, x3, x4⟩ := CELLS.out w1 (HBk.out.below hb1 HBk.out.lt)
    clear hb1
    go_wp2_with fail
    refine (CD.out _ HB1.out).mono ?_
    rintro e w2 ⟨rfl, hb2⟩
    go_wp2_with fail
    go_ret
    exact ⟨by rw [HF.out]; rfl, HB1.out.trans (hb2.mono HB1.out.size)⟩
  have d1 : decide (64 < DI) = false := by rw [decide_eq_false_iff_not]; omega
  have HDN := Lib.hid (show CN ≤ 2048 ∧ DN ≤ 64 by omega)
  have HC := Lib.hid (show Nd.countL sb ≤ 1000000 ∧ Nd.deepL sb ≤ 1000000 by omega)
  clear hCI hDI hc2 hd2 ec ed hc hd
  cases F with
  | false =>
    have HF := Lib.hid (show R = false from by
      cases h : R with
      | false => rfl
      | true => have := (HPS.out.1 h).2.2.1; cases this)
    go_enter Tryz.func11, Tryz.ntmps11
    go_wp2_with fail
    refine (CC.out _ HB.out).mono ?_
    rintro e w1 ⟨rfl, hb1⟩
    have HB1 := Lib.hid (HB.out.trans (hb1.mono HB.out.size))
    have HK1 := Lib.hid (HBk.out.below hb1 HBk.out.lt)
    obtain ⟨x0, x1, x2, x3, x4⟩ := CELLS.out w1 HK1.out
    clear hb1
    go_wp2_with fail
    refine (CD.out _ HB1.out).mono ?_
    rintro e w2 ⟨rfl, hb2⟩
    have HB2 := Lib.hid (HB1.out.trans (hb2.mono HB1.out.size))
    have HK2 := Lib.hid (HK1.out.below hb2 HK1.out.lt)
    clear x0 x1 x2 x3 x4
    obtain ⟨x0, x1, x2, x3, x4⟩ := CELLS.out w2 HK2.out
    clear hb2
    go_wp2_with fail
    refine (CH.out _ HB2.out).mono ?_
    rintro e w3 ⟨rfl, hb3⟩
    go_wp2_with fail
    go_ret
    exact ⟨by rw [HF.out]; rfl, HB2.out.trans (hb3.mono HB2.out.size)⟩
  | true =>
    go_enter Tryz.func11, Tryz.ntmps11
    go_wp2_with fail
    refine (CC.out _ HB.out).mono ?_
    rintro e w1 ⟨rfl, hb1⟩
    have HB1 := Lib.hid (HB.out.trans (hb1.mono HB.out.size))
    have HK1 := Lib.hid (HBk.out.below hb1 HBk.out.lt)
    obtain ⟨x0, x1, x2, x3, x4⟩ := CELLS.out w1 HK1.out
    clear hb1
    go_wp2_with fail
    refine (CD.out _ HB1.out).mono ?_
    rintro e w2 ⟨rfl, hb2⟩
    have HB2 := Lib.hid (HB1.out.trans (hb2.mono HB1.out.size))
    have HK2 := Lib.hid (HK1.out.below hb2 HK1.out.lt)
    clear x0 x1 x2 x3 x4
    obtain ⟨x0, x1, x2, x3, x4⟩ := CELLS.out w2 HK2.out
    clear hb2
    go_wp2_with fail
    refine (CH.out _ HB2.out).mono ?_
    rintro e w3 ⟨rfl, hb3⟩
    have HB3 := Lib.hid (HB2.out.trans (hb3.mono HB2.out.size))
    have HK3 := Lib.hid (HK2.out.below hb3 HK2.out.lt)
    clear x0 x1 x2 x3 x4 hb3
    go_wp2_with fail
    go_loopw [5] (fun i wr => ∃ p : Nat, p ≤ SN ∧ i = .int .i64 p ∧ Hid (∀ t ∈ sb.take p, Nd.plainB t tok = true) ∧ Bk wr w.heap.size 26 #[.int .u8 k, .string nm, .string tx, .slice sa SL sc, .slice ba SN bc] ∧ Below w.heap.size w wr) (fun i _ => SN - (intOf i).toNat)
    case atStart => exact ⟨0, Nat.zero_le _, rfl, Lib.hid (by simp), HK3.out, HB3.out⟩
    case round =>
      obtain ⟨p, hp, rfl, hT, hK, hB⟩ := hrel
      have c4 := hK.cell 4
      simp at c4
      by_cases hlt : p < SN
      · have d2 : decide (p < SN) = true := by rw [decide_eq_true_iff]; exact hlt
        have p0 : (p : Int) < (SN : Int) := by omega
        obtain ⟨s, hs⟩ : ∃ s, sb[p]? = some s := ⟨_, List.getElem?_eq_getElem (by rw [HSN.out]; exact hlt)⟩
        obtain ⟨g, o, v0, v1, v2, v3, v4, rfl, h0, h1, h2, h3, h4, _, hAs⟩ := hsub.val p s hs
        replace h0 := Nd.cell_keeps hB h0
        replace h1 := Nd.cell_keeps hB h1
        replace h2 := Nd.cell_keeps hB h2
        replace h3 := Nd.cell_keeps hB h3
        replace h4 := Nd.cell_keeps hB h4
        have hmem := List.mem_of_getElem? hs
        have h5 := Nd.count_mem hmem
        have h6 := Nd.deep_mem hmem
        have C := ih s hmem _ wr (hAs.below hB) (by have := HC.out.1; omega) (by have := HC.out.2; omega)
        have htk : sb.take (p + 1) = sb.take p ++ [s] := by rw [List.take_add_one, hs]; rfl
        obtain ⟨b, hb⟩ : ∃ b, Nd.plainB s tok = b := ⟨_, rfl⟩
        have HS := Lib.hid (And.intro hb (And.intro hmem htk))
        rw [hb] at C
        obtain ⟨sa1, sc1, ba1, bc1, rfl, rfl, rfl, rfl, rfl⟩ := hAs.five
        generalize s.kind = sk at *
        generalize s.name = sn at *
        generalize s.text = sx at *
        generalize s.set.length = sl at *
        generalize s.subs.length = sm at *
        replace C := Lib.hid C
        clear hAs hs hmem htk hb h5 h6
        cases b with
        | false =>
          have HF := Lib.hid (show R = false from by
            cases h : R with
            | false => rfl
            | true =>
              have := (HPS.out.1 h).2.2.2 s HS.out.2.1
              rw [HS.out.1] at this
              cases this)
          go_wp2_with fail
          refine C.out.mono ?_
          rintro e w5 ⟨rfl, hb5⟩
          go_wp2_with fail
          go_ret
          exact ⟨by rw [HF.out]; rfl, hB.trans (hb5.mono hB.size)⟩
        | true =>
          have HT := Lib.hid (show ∀ t ∈ sb.take (p + 1), Nd.plainB t tok = true from by
            intro t ht
            rw [HS.out.2.2] at ht
            rcases List.mem_append.1 ht with ht | ht
            · exact hT.out t ht
            · rw [List.mem_singleton.1 ht]; exact HS.out.1)
          go_wp2_with fail
          refine C.out.mono ?_
          rintro e w5 ⟨rfl, hb5⟩
          go_wp2_with fail
          exact ⟨⟨p + 1, by omega, by go_num, HT, hK.below hb5 hK.lt, hB.trans (hb5.mono hB.size)⟩, by simp [intOf]; omega⟩
      · have d2 : decide (p < SN) = false := by rw [decide_eq_false_iff_not]; exact hlt
        have HF := Lib.hid (show R = true from HPS.out.2 ⟨HDN.out.1, HDN.out.2, by first | rfl | trivial, fun t ht => hT.out t (by rw [List.take_of_length_le (by rw [HSN.out]; omega)]; exact ht)⟩)
        clear hT
        go_wp2_with fail
        go_ret
        exact ⟨by rw [HF.out]; rfl, hB⟩
end Go.Proofs.YthfkodimafmmgaaGreatDoor
