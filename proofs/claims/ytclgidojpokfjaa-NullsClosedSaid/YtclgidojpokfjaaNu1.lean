/- NullsClosed: the walk. -/
import Derived.Test.YtclgidojpokfjaaNu2
import Derived.Test.YtclgidojpokfjaaNu5
namespace Go.Proofs.Ytclgidojpokfjaa
open Go Go.RowKit Nu
set_option maxRecDepth 100000

set_option maxHeartbeats 8000000 in
theorem Closed_many (nm : ByteArray) (o1 o2 : Int) (rs : List Nu.Rl) (v : Value) (w : World) (hG : GrV w nm o1 o2 rs v) (hg5 : g5 nm rs = false) :
    Calls Try.prog 3 #[v] w fun e w' => e = .returned (.bool true) ∧ Below w.heap.size w w' := by
  have hsm := small_of hg5
  have hGr := Lib.hid (fun o => (Great5_any nm o1 o2 rs v (w.alloc o) (hG.below ((Below.refl _ w).alloc (Nat.le_refl _) o))).mono (R' := fun e w' => e = .returned (.bool false) ∧ Below (w.alloc o).heap.size (w.alloc o) w') (by rintro e w' ⟨rfl, hb⟩; exact ⟨by rw [hg5], hb⟩))
  have hcs : ∀ r ∈ rs, Nd.deep r.body ≤ 101 ∧ Nd.count r.body ≤ 500 := fun r hr => ⟨(hsm.2.1 r hr).1, Nat.le_trans (count_le_sum rs r hr) hsm.2.2.1⟩
  have hEm := Lib.hid (fun (wx : World) (hb : Below w.heap.size w wx) => Empty_any nm o1 o2 rs v wx (hG.below hb) ⟨by omega, fun r hr => by have := hcs r hr; omega⟩)
  have hRe := Lib.hid (fun (wx : World) (hb : Below w.heap.size w wx) => Reach_any nm o1 o2 rs v wx (hG.below hb) ⟨by omega, fun r hr => by have := hcs r hr; omega⟩)
  have hMy := Lib.hid (fun (p : Nat) (r : Nu.Rl) (nv : Value) (wx : World) (hr : rs[p]? = some r) (hb : Below w.heap.size w wx) (hA : Nd.At w r.body nv) => (May_any nm o1 o2 rs v nv p r r.body wx (hG.below hb) ⟨by omega, fun r hr => by have := hcs r hr; omega⟩ hr (Nd.At.below hb _ hA) (by have := hcs r (List.mem_of_getElem? hr); omega)).mono (R' := fun e w' => e = .returned (.bool ((emp rs).getD p false)) ∧ Below wx.heap.size wx w') (by rintro e w' ⟨rfl, hb'⟩; exact ⟨by rw [emp_is rs hr], hb'⟩))
  obtain ⟨ra, rc, rfl, hnm, hrc, hR⟩ := hG
  obtain ⟨RN, hRN⟩ : ∃ k, rs.length = k := ⟨_, rfl⟩
  have HRN := Lib.hid hRN
  rw [hRN] at hrc hEm hGr hRe hMy hsm ⊢
  have n1 : (RN : Int) ≤ 9223372036854775807 := by omega
  clear hRN
  go_enter Try.func3, Try.ntmps3
  go_wp2_with (first
    | (go_at_call 5; refine (hGr.out _).mono ?_; rintro e w1 ⟨rfl, hb1⟩; have hB1 : Below w.heap.size w w1 := ((Below.refl _ w).alloc (Nat.le_refl _) _).trans (hb1.mono (by simp)); have gk := (Bk.made w 26 #[.string nm, .int .i64 o1, .int .i64 o2, .slice ra RN rc]).below hb1 (by simp); have g0 := gk.cell 0; have g1 := gk.cell 1; have g2 := gk.cell 2; have g3 := gk.cell 3; simp at g0 g1 g2 g3)
    | (go_at_call 7; refine (hEm.out _ hB1).mono ?_; rintro e w2 ⟨⟨eb, rfl, hk2, hlo2⟩, hb2⟩; have gk2 := gk.below hb2 gk.lt; have hB2 := hB1.trans (hb2.mono hB1.size); clear g0 g1 g2 g3 hB1 gk; have g0 := gk2.cell 0; have g1 := gk2.cell 1; have g2 := gk2.cell 2; have g3 := gk2.cell 3; simp at g0 g1 g2 g3)
    | (go_at_call 8; refine (hRe.out _ hB2).mono ?_; rintro e w3 ⟨⟨rr, rfl, hR3, hlr⟩, hb3⟩; have gk3 := gk2.below hb3 gk2.lt; have ek3 := hk2.below hb3 hk2.lt; have hB3 := hB2.trans (hb3.mono hB2.size); clear g0 g1 g2 g3 hB2 gk2 hk2; have g0 := gk3.cell 0; have g1 := gk3.cell 1; have g2 := gk3.cell 2; have g3 := gk3.cell 3; simp at g0 g1 g2 g3))
  obtain ⟨cs3, rk3, rs3, rf3⟩ := hR3
  have hrow : ∀ p, p < RN → ∃ rb, cs3[p]? = some (.slice (some ⟨rb, 0, none⟩) RN RN) ∧ ∀ k, k < RN → ∀ wr : World, Below w3.heap.size w3 wr → wr.cell? ⟨rb, k, none⟩ = some (.bool (reaAt rs p k)) := fun p hp => by
    obtain ⟨row, hrw⟩ : ∃ row, (rea rs)[p]? = some row := ⟨_, List.getElem?_eq_getElem (by rw [rea_length, HRN.out]; exact hp)⟩
    obtain ⟨rb, h1, h2, _⟩ := rf3 p row hp hrw
    refine ⟨rb, h1, fun k hk wr hb => Nd.cell_keeps hb ?_⟩
    rw [h2.cell, bools_get (by rw [rea_row_len hrw, HRN.out]; exact hk), reaAt_row hrw]
  have HRow := Lib.hid hrow
  have HK := Lib.hid (show ∀ wr : World, Below w3.heap.size w3 wr → (wr.cell? ⟨w.heap.size, 0, none⟩ = some (.string nm) ∧ wr.cell? ⟨w.heap.size, 1, none⟩ = some (.int .i64 o1) ∧ wr.cell? ⟨w.heap.size, 2, none⟩ = some (.int .i64 o2) ∧ wr.cell? ⟨w.heap.size, 3, none⟩ = some (.slice ra RN rc)) ∧ (∀ p, p < RN → wr.cell? ⟨eb, p, none⟩ = some (.bool ((emp rs).getD p false))) ∧ (∀ p, p < RN → ∃ rb, wr.cell? ⟨rr, p, none⟩ = some (.slice (some ⟨rb, 0, none⟩) RN RN)) ∧ Below w.heap.size w wr from fun wr hb => by
    refine ⟨⟨Nd.cell_keeps hb g0, Nd.cell_keeps hb g1, Nd.cell_keeps hb g2, Nd.cell_keeps hb g3⟩, fun p hp => Nd.cell_keeps hb ?_, fun p hp => ?_, hB3.trans (hb.mono hB3.size)⟩
    · rw [ek3.cell, bools_get (by rw [emp_len, HRN.out]; exact hp)]
    · obtain ⟨rb, h1, _⟩ := hrow p hp
      exact ⟨rb, Nd.cell_keeps hb (by rw [rk3.cell]; exact h1)⟩)
  clear hrow g0 g1 g2 g3
  go_loopw [5] (fun i wr => ∃ p : Nat, p ≤ RN ∧ i = .int .i64 p ∧ Below w3.heap.size w3 wr) (fun i _ => RN - (intOf i).toNat)
  case atStart => exact ⟨0, Nat.zero_le _, rfl, Below.refl _ _⟩
  case round =>
    obtain ⟨p, hp, rfl, hB⟩ := hrel
    by_cases hlt : p < RN
    · have d2 : decide (p < RN) = true := by rw [decide_eq_true_iff]; exact hlt
      have p1 : (p : Int) < (RN : Int) := by omega
      obtain ⟨⟨g0, g1, g2, g3⟩, he, hr3, hBw⟩ := HK.out _ hB
      obtain ⟨r, hr⟩ : ∃ r, rs[p]? = some r := ⟨_, List.getElem?_eq_getElem (by rw [HRN.out]; exact hlt)⟩
      obtain ⟨b, o, rfl, v0, v1, v2, v3, v4, _, _, a0, a1, a2, a3, a4, _, _, _, hA, _⟩ := hR p r hr
      obtain ⟨sa1, sc1, ba1, bc1, rfl, rfl, rfl, rfl, rfl⟩ := hA.five
      have e0 := he p hlt
      obtain ⟨rb, e1⟩ := hr3 p hlt
      have b0 := Nd.cell_keeps hBw a0
      have b1 := Nd.cell_keeps hBw a1
      have b2 := Nd.cell_keeps hBw a2
      have b3 := Nd.cell_keeps hBw a3
      have b4 := Nd.cell_keeps hBw a4
      have hM := Lib.hid (fun (wx : World) (hb : Below w.heap.size w wx) => hMy.out p r _ wx hr hb hA)
      have HBw := Lib.hid hBw
      clear hBw he hr3 a0 a1 a2 a3 a4 hR HK HRow rf3 rs3 rk3 ek3 gk3
      generalize (emp rs).getD p false = X at *
      have hX : (X != X) = false := by cases X <;> rfl
      go_wp2_with fail
      go_region_held3 (fun w' => w'.cell? ⟨w.heap.size, 0, none⟩ = some (.string nm) ∧ w'.cell? ⟨w.heap.size, 1, none⟩ = some (.int .i64 o1) ∧ w'.cell? ⟨w.heap.size, 2, none⟩ = some (.int .i64 o2) ∧ w'.cell? ⟨w.heap.size, 3, none⟩ = some (.slice (some ⟨b, o, none⟩) RN rc) ∧ w'.cell? ⟨b, o + p * 10 + 2, none⟩ = some (.int .u8 r.body.kind) ∧ w'.cell? ⟨b, o + p * 10 + 3, none⟩ = some (.string r.body.name) ∧ w'.cell? ⟨b, o + p * 10 + 4, none⟩ = some (.string r.body.text) ∧ w'.cell? ⟨b, o + p * 10 + 5, none⟩ = some (.slice sa1 r.body.set.length sc1) ∧ w'.cell? ⟨b, o + p * 10 + 6, none⟩ = some (.slice ba1 r.body.subs.length bc1) ∧ w'.cell? ⟨eb, p, none⟩ = some (.bool X) ∧ w'.cell? ⟨rr, p, none⟩ = some (.slice (some ⟨rb, 0, none⟩) RN RN))
        (first | (go_keep; done) | exact ⟨Nd.cell_keeps hb4 g0, Nd.cell_keeps hb4 g1, Nd.cell_keeps hb4 g2, Nd.cell_keeps hb4 g3, Nd.cell_keeps hb4 b0, Nd.cell_keeps hb4 b1, Nd.cell_keeps hb4 b2, Nd.cell_keeps hb4 b3, Nd.cell_keeps hb4 b4, Nd.cell_keeps hb4 e0, Nd.cell_keeps hb4 e1⟩)
        (first | (go_at_call 9; refine (hM.out _ (by first | exact HBw.out.drew | exact HBw.out)).mono ?_; rintro e w4 ⟨rfl, hb4⟩))
      all_goals go_wp2_with fail
      exact ⟨⟨p + 1, by omega, by go_num, hB.drew.trans (hb4.mono hB.drew.size)⟩, by simp [intOf]; omega⟩
    · have d2 : decide (p < RN) = false := by rw [decide_eq_false_iff_not]; exact hlt
      go_wp2_with fail
      clear d2 hlt hp
      go_loopw [6] (fun i wr => ∃ q : Nat, q ≤ RN ∧ i = .int .i64 q ∧ Below w3.heap.size w3 wr) (fun i _ => RN - (intOf i).toNat)
      case atStart => exact ⟨0, Nat.zero_le _, rfl, hB⟩
      case round =>
        obtain ⟨q, hq, rfl, hB2⟩ := hrel
        by_cases hlq : q < RN
        · have d3 : decide (q < RN) = true := by rw [decide_eq_true_iff]; exact hlq
          have q1 : (q : Int) < (RN : Int) := by omega
          go_wp2_with fail
          go_loopw [7] (fun i wr => ∃ s : Nat, s ≤ RN ∧ i = .int .i64 s ∧ Below w3.heap.size w3 wr) (fun i _ => RN - (intOf i).toNat)
          case atStart => exact ⟨0, Nat.zero_le _, rfl, hB2⟩
          case round =>
            obtain ⟨s, hs, rfl, hB3'⟩ := hrel
            by_cases hls : s < RN
            · have d4 : decide (s < RN) = true := by rw [decide_eq_true_iff]; exact hls
              have s1 : (s : Int) < (RN : Int) := by omega
              go_wp2_with fail
              go_loopw [8] (fun i wr => ∃ t : Nat, t ≤ RN ∧ i = .int .i64 t ∧ Below w3.heap.size w3 wr) (fun i _ => RN - (intOf i).toNat)
              case atStart => exact ⟨0, Nat.zero_le _, rfl, hB3'⟩
              case round =>
                obtain ⟨t, ht, rfl, hB4⟩ := hrel
                by_cases hlt : t < RN
                · have d5 : decide (t < RN) = true := by rw [decide_eq_true_iff]; exact hlt
                  have t1 : (t : Int) < (RN : Int) := by omega
                  obtain ⟨qb, c1, c2⟩ := HRow.out q hlq
                  obtain ⟨sb, c3, c4⟩ := HRow.out s hls
                  have e1 := Nd.cell_keeps hB4 ((rk3.cell q).trans c1)
                  have e2 := Nd.cell_keeps hB4 ((rk3.cell s).trans c3)
                  have e3 := c2 s hls _ hB4
                  have e4 := c4 t hlt _ hB4
                  have e5 := c2 t hlt _ hB4
                  have e6 : reaAt rs q s = true → reaAt rs s t = true → reaAt rs q t = true := fun h1 h2 => rea_trans rs (by rw [HRN.out]; exact hlq) (by rw [HRN.out]; exact hls) h1 h2
                  clear c1 c2 c3 c4
                  generalize reaAt rs q s = X at *
                  generalize reaAt rs s t = Y at *
                  generalize reaAt rs q t = Z at *
                  have e7 : (X = false) ∨ (X = true ∧ Y = false) ∨ (X = true ∧ Y = true ∧ Z = true) := by
                    cases X <;> cases Y <;> simp_all
                  clear e6
                  rcases e7 with rfl | ⟨rfl, rfl⟩ | ⟨rfl, rfl, rfl⟩
                  · go_wp2_with fail
                    exact ⟨⟨t + 1, by omega, by go_num, hB4⟩, by simp [intOf]; omega⟩
                  · go_wp2_with fail
                    exact ⟨⟨t + 1, by omega, by go_num, hB4⟩, by simp [intOf]; omega⟩
                  · go_wp2_with fail
                    exact ⟨⟨t + 1, by omega, by go_num, hB4⟩, by simp [intOf]; omega⟩
                · have d5 : decide (t < RN) = false := by rw [decide_eq_false_iff_not]; exact hlt
                  go_wp2_with fail
                  exact ⟨⟨s + 1, by omega, by go_num, hB4⟩, by simp [intOf]; omega⟩
            · have d4 : decide (s < RN) = false := by rw [decide_eq_false_iff_not]; exact hls
              go_wp2_with fail
              exact ⟨⟨q + 1, by omega, by go_num, hB3'⟩, by simp [intOf]; omega⟩
        · have d3 : decide (q < RN) = false := by rw [decide_eq_false_iff_not]; exact hlq
          obtain ⟨⟨g0, g1, g2, g3⟩, he, _, hBw⟩ := HK.out _ hB2
          have lw := World.block_lt_of_cell? _ _ g0
          rcases row_read0 hR with ⟨rfl, hrs0⟩ | ⟨ad, xs, rfl, hxl, hxg, hx1, hx2⟩
          · have h0 : RN = 0 := by rw [← HRN.out, hrs0]; rfl
            subst h0
            go_wp2_with fail
            obtain ⟨cap, hcap⟩ : ∃ c, (Question.appendCap 1 0 43).cut (wr.tape wr.drawn (Question.appendCap 1 0 43)) = c := ⟨_, rfl⟩
            rw [hcap]
            have hcap1 : 1 ≤ cap := by rw [← hcap]; exact Nat.le_add_right 1 _
            clear hcap
            generalize Builtin.zeroCells _ _ = zc
            obtain ⟨w8, hw8⟩ : ∃ W, (((wr.alloc (.cells #[.string nm, .int .i64 o1, .int .i64 o2, .slice (some ⟨wr.heap.size + 1 + 1, 0, none⟩) 1 cap] 26)).alloc (.cells #[.string ⟨#[45]⟩, .int .u8 0, .int .u8 1, .string ⟨#[]⟩, .string ⟨#[]⟩, .slice none 0 0, .slice none 0 0, .int .i64 0, .int .i64 0, .int .i64 0] 43)).alloc
              (.cells (#[.string ⟨#[45]⟩, .int .u8 0, .int .u8 1, .string ⟨#[]⟩, .string ⟨#[]⟩, .slice none 0 0, .slice none 0 0, .int .i64 0, .int .i64 0, .int .i64 0] ++ zc) 43)).drew = W := ⟨_, rfl⟩
            rw [hw8]
            have hk8 : Bk w8 (wr.heap.size + 1 + 1) 43 (dashV.toArray ++ zc) := by
              rw [← hw8]
              have := Bk.made ((wr.alloc (.cells #[.string nm, .int .i64 o1, .int .i64 o2, .slice (some ⟨wr.heap.size + 1 + 1, 0, none⟩) 1 cap] 26)).alloc (.cells #[.string ⟨#[45]⟩, .int .u8 0, .int .u8 1, .string ⟨#[]⟩, .string ⟨#[]⟩, .slice none 0 0, .slice none 0 0, .int .i64 0, .int .i64 0, .int .i64 0] 43)) 43 (dashV.toArray ++ zc)
              rw [World.size_alloc, World.size_alloc] at this
              exact this
            have B8 : Below w3.heap.size w3 w8 := by
              rw [← hw8]
              have h1 := hB2.alloc hB2.size (.cells #[.string nm, .int .i64 o1, .int .i64 o2, .slice (some ⟨wr.heap.size + 1 + 1, 0, none⟩) 1 cap] 26)
              have h2 := h1.alloc h1.size (.cells #[.string ⟨#[45]⟩, .int .u8 0, .int .u8 1, .string ⟨#[]⟩, .string ⟨#[]⟩, .slice none 0 0, .slice none 0 0, .int .i64 0, .int .i64 0, .int .i64 0] 43)
              exact (h2.alloc h2.size _).drew
            have hBw8 := (HK.out _ B8).2.2.2
            have hrow8 : RowC w8 (rs ++ [dashR]) (dashV.toArray ++ zc) := by
              rw [hrs0]
              exact RowC_snoc (rs := []) (fun i r h => by simp at h) (fun k u h => by
                have hk := (List.getElem?_eq_some_iff.1 h).1
                rw [List.length_nil, Nat.zero_mul, Nat.zero_add, Array.getElem?_append_left (by simpa using hk)]
                simpa using h)
            clear hw8
            have hl8 : (rs ++ [dashR]).length = 1 := by rw [List.length_append, HRN.out]; rfl
            have hG8 : GrV w8 nm o1 o2 (rs ++ [dashR]) (.agg #[.string nm, .int .i64 o1, .int .i64 o2, .slice (some ⟨wr.heap.size + 1 + 1, 0, none⟩) (1) cap]) := ⟨some ⟨wr.heap.size + 1 + 1, 0, none⟩, cap, by rw [hl8], hnm, by rw [hl8]; omega, RuL_row hk8 hrow8⟩
            have hE8 := Empty_any nm o1 o2 _ _ w8 hG8 ⟨by omega, fun r hr => by have := dash_small (rs := rs) (D := 101) (N := 500) hcs (by omega) r hr; omega⟩
            rw [hl8] at hE8
            refine hE8.mono ?_
            rintro e w9 ⟨⟨fb, rfl, fk, hlf⟩, hb9⟩
            have B9 : Below w3.heap.size w3 w9 := B8.trans (hb9.mono B8.size)
            clear hE8 hG8 hk8 he g0 g1 g2 g3 lw hBw
            go_wp2_with fail
            have hB0 : Hid (false = (rs.take 0).any (fun r => nms ⟨#[45]⟩ r.body)) := Lib.hid rfl
            go_loopw [11, 12] (fun a i wr => ∃ (p : Nat) (B : Bool), p ≤ 0 ∧ a = .bool B ∧ i = .int .i64 p ∧ Hid (B = (rs.take p).any (fun r => nms ⟨#[45]⟩ r.body)) ∧ Below w9.heap.size w9 wr) (fun _ i _ => 0 - (intOf i).toNat)
            case atStart => exact ⟨0, false, Nat.zero_le _, rfl, rfl, hB0, Below.refl _ _⟩
            case round =>
              obtain ⟨p5, B, hp5, rfl, rfl, hBv, hB10⟩ := hrel
              obtain ⟨⟨g0, g1, g2, g3⟩, he, _, hBw10⟩ := HK.out _ (B9.trans (hB10.mono B9.size))
              · have d5 : decide (p5 < 0) = false := by rw [decide_eq_false_iff_not]; omega
                have hall : (rs.take p5) = rs := List.take_of_length_le (by rw [HRN.out]; omega)
                rw [hall] at hBv
                clear hall
                cases B
                · have hemp : emp (rs ++ [dashR]) = emp rs ++ [true] := emp_app rs dashR (fun e => dash_thr _ _ e) (fun r hr => by
                    have h1 := hBv.out
                    cases h2 : nms ⟨#[45]⟩ r.body with
                    | false => exact h2
                    | true => rw [(List.any_eq_true).2 ⟨r, hr, h2⟩] at h1; cases h1)
                  rw [hemp] at fk
                  have hel : (emp rs).length = 0 := by rw [emp_len, HRN.out]
                  have f1 : ∀ i, i < 0 → wr.cell? ⟨fb, i, none⟩ = some (.bool ((emp rs).getD i false)) := fun i hi => Nd.cell_keeps hB10 (by rw [fk.cell, bools_get (by rw [List.length_append, hel]; simp; omega), getD_app _ _ _ (by rw [hel]; exact hi)])
                  have f2 : wr.cell? ⟨fb, 0, none⟩ = some (.bool true) := Nd.cell_keeps hB10 (by
                    rw [fk.cell, bools_get (by rw [List.length_append, hel]; simp), List.getD_eq_getElem?_getD, List.getElem?_append_right (by omega), hel]; simp)
                  have hF := Lib.hid (Flags_same fb eb 0 (1) 0 (fun i => (emp rs).getD i false) (by omega) wr f1 he)
                  clear f1 he hemp
                  go_wp2_with (first
                    | (go_at_call 12; refine (hF.out).mono ?_; rintro e w12 ⟨rfl, hb12⟩)
                    | (go_at_call 6; refine (lives_true _).mono ?_; rintro e w13 ⟨rfl, hb13⟩))
                  go_ret
                  exact ⟨rfl, hBw10.trans ((hb12.trans (hb13.mono hb12.size)).mono hBw10.size)⟩
                · go_wp2_with (go_at_call 6; refine (lives_true _).mono ?_; rintro e w12 ⟨rfl, hb12⟩)
                  go_ret
                  exact ⟨rfl, hBw10.trans (hb12.mono hBw10.size)⟩
          · obtain ⟨i0, hi, hz0, hz1, hz2⟩ := info_parts infoRule
            rw [HRN.out] at hxl
            have hxgH := Lib.hid (fun (wx : World) (hb : Below w.heap.size w wx) => show ∀ j u, xs[j]? = some u → wx.cell? (ad.add j) = some u from fun j u h => hxg j u h wx hb)
            have hd1 : ∀ u ∈ dashV, u.oneCell' = true := by simp [dashV, Value.oneCell']
            have hw3 : w3.heap.size ≤ wr.heap.size := hB2.size
            go_wp2_with (first
              | (at_builtin; refine wpList_append_own _ rfl _ _ 24 rfl (wr.heap.size + 1) 43 i0 (.agg #[.string ⟨#[]⟩, .int .u8 0, .int .u8 0, .string ⟨#[]⟩, .string ⟨#[]⟩, .slice none 0 0, .slice none 0 0, .int .i64 0, .int .i64 0, .int .i64 0]) 10 136 Try.underlying24 hi hz0 hz1 hz2 rfl (by decide) _ 0 _ rfl (nil_row _ _) ad RN rc xs rfl hxl (hxgH.out _ (hBw.alloc (Nat.le_of_lt lw) _)) hx1 (by unfold maxLen; omega) (by omega) (by simp) ?_; intro v5 w5 hown hg hnil
                 rw [Nat.zero_add, List.nil_append] at hown
                 obtain ⟨A5, cap5, rfl⟩ := slice_form hown
                 have hk5 := (Bk.made wr 26 #[.string nm, .int .i64 o1, .int .i64 o2, .slice (some ad) RN rc]).grown hg (fun e => by cases e)
                 have B5 : Below w3.heap.size w3 w5 := (hB2.alloc hB2.size _).grown hg (by simp; omega) (fun k e => by cases e))
              | (at_builtin; have t := hk5; refine wpList_append_own _ rfl _ _ 24 rfl (wr.heap.size + 1) 43 i0 (.agg #[.string ⟨#[]⟩, .int .u8 0, .int .u8 0, .string ⟨#[]⟩, .string ⟨#[]⟩, .slice none 0 0, .slice none 0 0, .int .i64 0, .int .i64 0, .int .i64 0]) 10 136 Try.underlying24 hi hz0 hz1 hz2 rfl (by decide) _ RN _ rfl (hown.alloc _) ⟨w5.heap.size, 0, none⟩ 1 1 dashV rfl rfl (dash_cells w5) hd1 (by unfold maxLen; omega) (by omega) (by have := hk5.lt; simp; omega) ?_; intro v7 w7 hown7 hg7 hnil7
                 obtain ⟨g, cap, cur, hv7, hgb, hck, hcap, hrow⟩ := dash_got (rs := rs) (by rw [HRN.out]; exact hown7) (by rw [HRN.out]; exact hxl) hx2
                 rw [HRN.out] at hv7 hcap
                 subst hv7
                 have hk7 := (hk5.alloc (.cells #[.string ⟨#[45]⟩, .int .u8 0, .int .u8 1, .string ⟨#[]⟩, .string ⟨#[]⟩, .slice none 0 0, .slice none 0 0, .int .i64 0, .int .i64 0, .int .i64 0] 43)).grown hg7 (fun e => by have := hown.lt _ e.symm; omega)
                 have B7 : Below w3.heap.size w3 w7 := (B5.alloc B5.size _).grown hg7 (by have := B5.size; simp; omega) (fun k e => by have := hown.lt k e; omega)
                 have q0 := hk7.cell 0; have q1 := hk7.cell 1; have q2 := hk7.cell 2; have q3 := hk7.cell 3; have qf := hk7.free 3; simp at q0 q1 q2 q3))
            have ne1 : g ≠ wr.heap.size := by omega
            obtain ⟨w8, hw8⟩ : ∃ W, w7.setCell ⟨wr.heap.size, 3, none⟩ (.slice (some ⟨g, 0, none⟩) (RN + 1) cap) = W := ⟨_, rfl⟩
            rw [hw8]
            have B8 : Below w3.heap.size w3 w8 := by rw [← hw8]; exact B7.setCell hw3 _
            have hk8 : Bk w8 g 43 cur := by rw [← hw8]; exact hck.other _ _ (by simpa using ne1)
            have hBw8 := (HK.out _ B8).2.2.2
            have hl8 : (rs ++ [dashR]).length = RN + 1 := by rw [List.length_append, HRN.out]; rfl
            have hG8 : GrV w8 nm o1 o2 (rs ++ [dashR]) (.agg #[.string nm, .int .i64 o1, .int .i64 o2, .slice (some ⟨g, 0, none⟩) (RN + 1) cap]) := ⟨some ⟨g, 0, none⟩, cap, by rw [hl8], hnm, by rw [hl8]; omega, RuL_row hk8 (RowC.below hBw8 hrow)⟩
            have hE8 := Empty_any nm o1 o2 _ _ w8 hG8 ⟨by omega, fun r hr => by have := dash_small (rs := rs) (D := 101) (N := 500) hcs (by omega) r hr; omega⟩
            rw [hl8] at hE8
            refine hE8.mono ?_
            rintro e w9 ⟨⟨fb, rfl, fk, hlf⟩, hb9⟩
            have B9 : Below w3.heap.size w3 w9 := B8.trans (hb9.mono B8.size)
            clear hE8 hG8 hw8 hk8 hck hown hown7 hg hg7 hnil hnil7 hk5 hk7 q0 q1 q2 q3 qf B5 B7 hxgH hx1 hxl hxg hi hz0 hz1 hz2 he g0 g1 g2 g3 lw hBw
            go_wp2_with fail
            have hB0 : Hid (false = (rs.take 0).any (fun r => nms ⟨#[45]⟩ r.body)) := Lib.hid rfl
            go_loopw [11, 12] (fun a i wr => ∃ (p : Nat) (B : Bool), p ≤ RN ∧ a = .bool B ∧ i = .int .i64 p ∧ Hid (B = (rs.take p).any (fun r => nms ⟨#[45]⟩ r.body)) ∧ Below w9.heap.size w9 wr) (fun _ i _ => RN - (intOf i).toNat)
            case atStart => exact ⟨0, false, Nat.zero_le _, rfl, rfl, hB0, Below.refl _ _⟩
            case round =>
              obtain ⟨p5, B, hp5, rfl, rfl, hBv, hB10⟩ := hrel
              obtain ⟨⟨g0, g1, g2, g3⟩, he, _, hBw10⟩ := HK.out _ (B9.trans (hB10.mono B9.size))
              by_cases hl5 : p5 < RN
              · have d5 : decide (p5 < RN) = true := by rw [decide_eq_true_iff]; exact hl5
                have t5 : (p5 : Int) < (RN : Int) := by omega
                obtain ⟨r, hr⟩ : ∃ r, rs[p5]? = some r := ⟨_, List.getElem?_eq_getElem (by rw [HRN.out]; exact hl5)⟩
                obtain ⟨b, o, had, v0, v1, v2, v3, v4, _, _, a0, a1, a2, a3, a4, _, _, _, hA, _⟩ := hR p5 r hr
                injection had with had
                subst had
                obtain ⟨sa1, sc1, ba1, bc1, rfl, rfl, rfl, rfl, rfl⟩ := hA.five
                have b0 := Nd.cell_keeps hBw10 a0
                have b1 := Nd.cell_keeps hBw10 a1
                have b2 := Nd.cell_keeps hBw10 a2
                have b3 := Nd.cell_keeps hBw10 a3
                have b4 := Nd.cell_keeps hBw10 a4
                have hN := Lib.hid (names_any ⟨#[45]⟩ r.body _ _ (Nd.At.below hBw10 _ hA))
                have hnext : (rs.take (p5 + 1)).any (fun r => nms ⟨#[45]⟩ r.body) = (B || nms ⟨#[45]⟩ r.body) := by
                  rw [List.take_add_one, hr, List.any_append, ← hBv.out]; simp
                have HN := Lib.hid hnext
                clear a0 a1 a2 a3 a4 hnext he
                cases B
                · go_wp2_with (go_at_call 10; refine (hN.out).mono ?_; rintro e w11 ⟨rfl, hb11⟩)
                  exact ⟨⟨p5 + 1, _, by omega, rfl, by go_num, Lib.hid (by rw [HN.out]; rfl), hB10.trans (hb11.mono hB10.size)⟩, by simp [intOf]; omega⟩
                · go_wp2_with fail
                  exact ⟨⟨p5 + 1, _, by omega, rfl, by go_num, Lib.hid (by rw [HN.out]; rfl), hB10⟩, by simp [intOf]; omega⟩
              · have d5 : decide (p5 < RN) = false := by rw [decide_eq_false_iff_not]; exact hl5
                have hall : (rs.take p5) = rs := List.take_of_length_le (by rw [HRN.out]; omega)
                rw [hall] at hBv
                clear hall
                cases B
                · have hemp : emp (rs ++ [dashR]) = emp rs ++ [true] := emp_app rs dashR (fun e => dash_thr _ _ e) (fun r hr => by
                    have h1 := hBv.out
                    cases h2 : nms ⟨#[45]⟩ r.body with
                    | false => exact h2
                    | true => rw [(List.any_eq_true).2 ⟨r, hr, h2⟩] at h1; cases h1)
                  rw [hemp] at fk
                  have hel : (emp rs).length = RN := by rw [emp_len, HRN.out]
                  have f1 : ∀ i, i < RN → wr.cell? ⟨fb, i, none⟩ = some (.bool ((emp rs).getD i false)) := fun i hi => Nd.cell_keeps hB10 (by rw [fk.cell, bools_get (by rw [List.length_append, hel]; simp; omega), getD_app _ _ _ (by rw [hel]; exact hi)])
                  have f2 : wr.cell? ⟨fb, RN, none⟩ = some (.bool true) := Nd.cell_keeps hB10 (by
                    rw [fk.cell, bools_get (by rw [List.length_append, hel]; simp), List.getD_eq_getElem?_getD, List.getElem?_append_right (by omega), hel]; simp)
                  have hF := Lib.hid (Flags_same fb eb RN (RN + 1) RN (fun i => (emp rs).getD i false) (by omega) wr f1 he)
                  clear f1 he hemp
                  go_wp2_with (first
                    | (go_at_call 12; refine (hF.out).mono ?_; rintro e w12 ⟨rfl, hb12⟩)
                    | (go_at_call 6; refine (lives_true _).mono ?_; rintro e w13 ⟨rfl, hb13⟩))
                  go_ret
                  exact ⟨rfl, hBw10.trans ((hb12.trans (hb13.mono hb12.size)).mono hBw10.size)⟩
                · go_wp2_with (go_at_call 6; refine (lives_true _).mono ?_; rintro e w12 ⟨rfl, hb12⟩)
                  go_ret
                  exact ⟨rfl, hBw10.trans (hb12.mono hBw10.size)⟩
end Go.Proofs.Ytclgidojpokfjaa
