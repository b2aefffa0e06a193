/- The walk of ScansBack. -/
import Derived.Test.YtokpknjmcegkaaaDoorSbW
namespace Go.Proofs.YtokpknjmcegkaaaDoor
open Go Go.RowKit Ru
set_option maxRecDepth 100000

def gapB (j : Nat) : ByteArray := ⟨(Sc.gapsL.getD j []).toArray⟩
abbrev gapsC : Array Value := #[.string ⟨#[32]⟩, .string ⟨#[10]⟩, .string ⟨#[47, 42, 32, 39, 32, 42, 47]⟩, .string ⟨#[47, 47, 32, 91, 10]⟩, .string ⟨#[9, 13]⟩, .string ⟨#[47, 42, 42, 47]⟩]
theorem gapB_at (j : Nat) (h : j < 6) : gapsC[j]? = some (.string (gapB j)) := by
  have : j = 0 ∨ j = 1 ∨ j = 2 ∨ j = 3 ∨ j = 4 ∨ j = 5 := by omega
  rcases this with rfl | rfl | rfl | rfl | rfl | rfl <;> rfl
theorem gapB_in (j : Nat) (h : j < 6) : Sc.gapsL.getD j [] ∈ Sc.gapsL := by
  have : j = 0 ∨ j = 1 ∨ j = 2 ∨ j = 3 ∨ j = 4 ∨ j = 5 := by omega
  rcases this with rfl | rfl | rfl | rfl | rfl | rfl <;> decide
theorem gapB_size (j : Nat) (h : j < 6) : (gapB j).size ≤ 7 := by
  unfold gapB
  rw [mk_size]
  exact (Sc.gap_first (gapB_in j h)).2.1
/-- The bytes of gaps, as the walk reads them. -/
def GapsAt (w : World) (A : Option Addr) (n : Nat) : Prop := ∀ i, i < n → ∃ g o z, A = some ⟨g, o, none⟩ ∧ g < w.heap.size ∧ w.cell? ⟨g, o + i, none⟩ = some (.int .u8 z) ∧ 0 ≤ z ∧ z ≤ 255
theorem cell_lt {w : World} {a : Addr} {v : Value} (h : w.cell? a = some v) : a.block < w.heap.size := by
  rcases Nat.lt_or_ge a.block w.heap.size with h0 | h0
  · exact h0
  · have h1 : w.heap[a.block]? = none := Array.getElem?_eq_none h0
    unfold World.cell? at h
    rw [h1] at h
    simp at h
theorem Words.lk {w : World} {B : Nat} {A : Option Addr} {N cap : Nat} {l : List UInt8} {ds : List Sc.W} (h : Words w B (.slice A N cap) l ds) (hN : N = ds.length) : Lk w (.slice A N cap) ds := by
  subst hN
  refine ⟨A, cap, rfl, fun i d hd => ?_⟩
  have hi := (List.getElem?_eq_some_iff.1 hd).1
  obtain ⟨g, hA, _, _, hc⟩ := h.at (by omega)
  obtain ⟨sv, hs, c0, c1, c2, _⟩ := hc i d hd
  exact ⟨g, 0, sv, hA, by rw [Nat.zero_add]; exact c0, by rw [Nat.zero_add]; exact c1, by rw [Nat.zero_add]; exact c2, hs.read⟩
theorem text_small {s : ByteArray} {ds : List Sc.W} (h : Sc.scanL s.data.toList = .ok ds) (i : Nat) (d : Sc.W) (hd : ds[i]? = some d) : d.text.length ≤ 4 * s.size := by
  obtain ⟨_, _, h2⟩ := Sc.scanL_ok h
  obtain ⟨a1, a2, ⟨z, a3⟩, _⟩ := Sc.scan_words _ _ _ _ (Nat.le_refl _) h2 i d hd
  rw [Nat.sub_zero] at a3
  have b := (Sc.wordR_is a3).2.2.1
  have c := (Sc.wordR_ok a3).2.1
  rw [List.length_drop, ← Lib.size_eq] at c
  omega
theorem join_snoc (xs : List (Sc.W × List UInt8)) (d : Sc.W) (G : List UInt8) : Sc.joinL (xs ++ [(d, G)]) = Sc.joinL xs ++ Sc.writL d ++ G := by simp [Sc.joinL]
theorem Back_long (s : ByteArray) (A : Option Addr) (n cap : Nat) (w : World) (hE : EnvS w) (h : 2000 < (s.size : Int)) : Calls Tryd.prog 4 #[.string s, .slice A n cap] w fun e w' => e = .returned (.bool true) ∧ Below w.heap.size w w' := by
  have HE := Lib.hid hE
  clear hE
  go_enter Tryd.func4, Tryd.ntmps4
  go_wp2_with fail
  refine (lives_true _ HE.out).mono ?_
  rintro e w1 ⟨rfl, b1⟩
  go_wp2_with fail
  go_ret
  exact ⟨rfl, b1⟩
theorem Back_err (s : ByteArray) (A : Option Addr) (n cap : Nat) (w : World) (hE : EnvS w) (hs : s.size ≤ 2000) (c p : Nat) (hr : Sc.scanL s.data.toList = .err c p) : Calls Tryd.prog 4 #[.string s, .slice A n cap] w fun e w' => e = .returned (.bool true) ∧ Below w.heap.size w w' := by
  have HE := Lib.hid hE
  have h0 : ¬ (2000 : Int) < (s.size : Int) := by omega
  have hc := scanL_err hr
  obtain ⟨ci, hci⟩ : ∃ ci : Int, (c : Int) = ci := ⟨_, rfl⟩
  have n0 : (ci == 0) = false := by rw [beq_eq_false_iff_ne]; omega
  have n1 : (ci != 0) = true := by rw [bne_iff_ne]; omega
  have n2 : ¬ ci = 0 := by omega
  have C1 := Lib.hid (fun w hE => (Scan_any s w (by omega) hE).mono fun _ _ h => Told.err h hr)
  rw [hci] at C1
  clear hE hr hci hc
  go_enter Tryd.func4, Tryd.ntmps4
  go_wp2_with fail
  refine (C1.out _ HE.out).mono ?_
  rintro e w1 ⟨rfl, b1⟩
  obtain ⟨L, hL⟩ : ∃ L : Int, ((place (s.data.toList.take p)).1 : Int) = L := ⟨_, rfl⟩
  obtain ⟨C, hC⟩ : ∃ C : Int, ((place (s.data.toList.take p)).2 : Int) = C := ⟨_, rfl⟩
  rw [hL, hC]
  have b1' := b1.alloc b1.size (FaultV ci p L C)
  have E1 := Lib.hid (HE.out.below b1')
  have B1 := Lib.hid b1'
  clear b1 b1' hL hC
  go_wp2_with fail
  refine (lives_true _ E1.out).mono ?_
  rintro e w4 ⟨rfl, b4⟩
  go_wp2_with fail
  go_ret
  exact ⟨rfl, B1.out.trans (b4.mono B1.out.size)⟩
set_option maxHeartbeats 8000000 in
theorem Back_ok (s : ByteArray) (A : Option Addr) (n cap : Nat) (w : World) (hE : EnvS w) (hs : s.size ≤ 2000) (hG : GapsAt w A n) (hn : n ≤ 9223372036854775807) (ds : List Sc.W) (hr : Sc.scanL s.data.toList = .ok ds) : Calls Tryd.prog 4 #[.string s, .slice A n cap] w fun e w' => e = .returned (.bool true) ∧ Below w.heap.size w w' := by
  have HE := Lib.hid hE
  have h0 : ¬ (2000 : Int) < (s.size : Int) := by omega
  have HG := Lib.hid hG
  have HR := Lib.hid hr
  have L1 := (Stand.of hr).len
  have C1 := fun w hE => (Scan_any s w (by omega) hE).mono fun _ _ h => Told.ok h hr
  obtain ⟨N, hN⟩ : ∃ N, ds.length = N := ⟨_, rfl⟩
  have HN := Lib.hid hN
  rw [hN] at C1 L1
  replace C1 := Lib.hid C1
  clear hE hr hN hG
  go_enter Tryd.func4, Tryd.ntmps4
  go_wp2_with fail
  refine (C1.out _ HE.out).mono ?_
  rintro e w1 ⟨A1, cap1, rfl, W1, b1⟩
  have b1' := b1.alloc b1.size (FaultV 0 0 0 0)
  have E1 := Lib.hid (HE.out.below b1')
  have B1 := Lib.hid b1'
  have X1 := Lib.hid (W1.below ((Below.refl _ w1).alloc (Nat.le_refl _) (FaultV 0 0 0 0)))
  have hcap := W1.cap
  clear b1 b1' W1
  have HA := Lib.hid (Bk.made (w1.alloc (FaultV 0 0 0 0)) 9 gapsC)
  have E2 := Lib.hid (E1.out.alloc (.cells gapsC 9))
  have X2 := Lib.hid (X1.out.below ((Below.refl _ (w1.alloc (FaultV 0 0 0 0))).alloc (Nat.le_refl _) (.cells gapsC 9)))
  have B2 := Lib.hid (B1.out.alloc B1.out.size (.cells gapsC 9))
  go_wp2_with fail
  generalize (w1.alloc (FaultV 0 0 0 0)).alloc (.cells gapsC 9) = w2 at HA E2 X2 B2 ⊢
  rw [show (w1.alloc (FaultV 0 0 0 0)).heap.size = w1.heap.size + 1 by simp] at HA
  clear E1 X1 B1
  go_loopw [8, 9] (fun v a wr => ∃ (i : Nat) (xs : List (Sc.W × List UInt8)), v = .string ⟨(Sc.joinL xs).toArray⟩ ∧ a = .int .i64 i ∧ i ≤ N ∧ Hid (xs.map (·.1) = ds.take i ∧ ∀ p ∈ xs, p.2 ∈ Sc.gapsL) ∧ Below w2.heap.size w2 wr) (fun _ a _ => N - (intOf a).toNat)
  case atStart => exact ⟨0, [], rfl, rfl, Nat.zero_le _, ⟨rfl, by simp⟩, Below.refl _ _⟩
  case round =>
    obtain ⟨i, xs, rfl, rfl, hi, hx, hb⟩ := hrel
    by_cases hlt : i < N
    · have d0 : decide (i < N) = true := by rw [decide_eq_true_iff]; exact hlt
      obtain ⟨d, hd⟩ : ∃ d, ds[i]? = some d := ⟨ds[i]'(by rw [HN.out]; exact hlt), List.getElem?_eq_getElem _⟩
      obtain ⟨g, rfl, _, sg, hc⟩ := (X2.out.below hb).at (by rw [HN.out]; omega)
      obtain ⟨sv, f0, c0, c1, c2, c3, c4, c5⟩ := hc i d hd
      have hW := (Sc.scan_total _ _ _ _ (Nat.le_refl _) (Sc.scanL_ok HR.out).2.2).2 d (List.mem_of_getElem? hd)
      obtain ⟨z, z0, z1, hz⟩ : ∃ z : Int, 0 ≤ z ∧ z ≤ 255 ∧ ((i < n ∧ ∃ gg o, A = some ⟨gg, o, none⟩ ∧ wr.cell? ⟨gg, o + i, none⟩ = some (.int .u8 z)) ∨ (¬ i < n ∧ z = 0)) := by
        by_cases hin : i < n
        · obtain ⟨gg, o, z, h1, h2, h3, h4, h5⟩ := HG.out i hin
          refine ⟨z, h4, h5, Or.inl ⟨hin, gg, o, h1, ?_⟩⟩
          rw [(B2.out.trans (hb.mono B2.out.size)).cell (p := ⟨gg, o + i, none⟩) h2]
          exact h3
        · exact ⟨0, by omega, by omega, Or.inr ⟨hin, rfl⟩⟩
      obtain ⟨j, hj6, hjz⟩ : ∃ j : Nat, j < 6 ∧ z.tmod 6 = (j : Int) := ⟨(z % 6).toNat, by omega, by rw [Int.tmod_eq_emod_of_nonneg z0]; omega⟩
      have hts := text_small HR.out i d hd
      have hss := (set_small HR.out i d hd).1
      have E0 := E2.out.below hb
      have CW := Lib.hid (fun (p l c : Int) (w' : World) (h : Below wr.heap.size wr w') => Written_any d hW sv p l c w' _ (E0.below h) (f0.below h) (by omega) (by omega))
      have hxs : (xs ++ [(d, Sc.gapsL.getD j [])]).map (·.1) = ds.take (i + 1) ∧ ∀ p ∈ xs ++ [(d, Sc.gapsL.getD j [])], p.2 ∈ Sc.gapsL := by
        refine ⟨by rw [take_snoc hd, List.map_append, hx.out.1]; rfl, ?_⟩
        intro p hp
        rcases List.mem_append.1 hp with hp | hp
        · exact hx.out.2 p hp
        · rw [List.mem_singleton] at hp
          subst hp
          exact gapB_in j hj6
      have hlen := Sc.back_len HR.out (i + 1) hxs.1 hxs.2
      rw [join_snoc, List.length_append, List.length_append, ← Lib.size_eq] at hlen
      have hsz1 := mk_size (Sc.joinL xs)
      have hsz2 := mk_size (Sc.writL d)
      have hsz3 := mk_size (Sc.gapsL.getD j [])
      have hfin : (⟨(Sc.joinL xs).toArray⟩ : ByteArray) ++ ⟨(Sc.writL d).toArray⟩ ++ gapB j = ⟨(Sc.joinL (xs ++ [(d, Sc.gapsL.getD j [])])).toArray⟩ := by
        unfold gapB
        rw [join_snoc, app_mk, app_mk]
      have HX := Lib.hid hxs
      have ka := ((HA.out.below hb HA.out.lt).cell j).trans (gapB_at j hj6)
      obtain ⟨V, hV⟩ : ∃ V : ByteArray, (⟨(Sc.joinL xs).toArray⟩ : ByteArray) = V := ⟨_, rfl⟩
      obtain ⟨WL, hWL⟩ : ∃ V : ByteArray, (⟨(Sc.writL d).toArray⟩ : ByteArray) = V := ⟨_, rfl⟩
      obtain ⟨GB, hGB⟩ : ∃ V : ByteArray, gapB j = V := ⟨_, rfl⟩
      have hsz4 : GB.size = (Sc.gapsL.getD j []).length := by rw [← hGB]; exact hsz3
      rw [hV] at hsz1 hfin ⊢
      rw [hWL] at hsz2 hfin CW
      rw [hGB] at hfin ka
      have a1 : ∀ wx, (Op.stringOp .add V WL).run Tryd.prog wx = .ok (.string (V ++ WL)) wx := fun wx => run_string_add_sum wx _ _ (by omega)
      have a2 : ∀ wx, (Op.stringOp .add (V ++ WL) GB).run Tryd.prog wx = .ok (.string (V ++ WL ++ GB)) wx := fun wx => run_string_add_sum wx _ _ (by rw [ByteArray.size_append]; omega)
      have HFIN := Lib.hid hfin
      obtain ⟨T, hT⟩ : ∃ T : ByteArray, (⟨d.text.toArray⟩ : ByteArray) = T := ⟨_, rfl⟩
      rw [hT] at c1 CW
      obtain ⟨Pd, hPd⟩ : ∃ C : Int, (d.pos : Int) = C := ⟨_, rfl⟩
      obtain ⟨L5, hL5⟩ : ∃ L : Int, ((place (s.data.toList.take d.pos)).1 : Int) = L := ⟨_, rfl⟩
      obtain ⟨C5, hC5⟩ : ∃ C : Int, ((place (s.data.toList.take d.pos)).2 : Int) = C := ⟨_, rfl⟩
      rw [hPd] at c3
      rw [hL5] at c4
      rw [hC5] at c5
      have sa : w1.heap.size + 1 < wr.heap.size := (HA.out.below hb HA.out.lt).lt
      have r1 : IntKind.i64.wrap z = z := IntWalk.i64_in _ (by omega)
      have HB := Lib.hid hb
      have jz : (j : Int) < 6 := by omega
      clear hb hd hc hW hts hss E0 f0 hxs hlen hsz1 hsz2 hsz3 hsz4 hV hWL hGB hfin hT hPd hL5 hC5 hx
      rcases hz with ⟨hin, gg, o, rfl, hz⟩ | ⟨hin, rfl⟩
      · have d1 : decide (i < n) = true := by rw [decide_eq_true_iff]; exact hin
        have i9 : (i : Int) < (n : Int) := by omega
        go_upto_region 14 with fail
        go_region_held3 (fun w' => w'.cell? ⟨g, i * 6, none⟩ = some (.int .u8 d.kind) ∧ w'.cell? ⟨g, i * 6 + 1, none⟩ = some (.string T) ∧ w'.cell? ⟨g, i * 6 + 2, none⟩ = some (sv) ∧ w'.cell? ⟨g, i * 6 + 3, none⟩ = some (.int .i64 Pd) ∧ w'.cell? ⟨g, i * 6 + 4, none⟩ = some (.int .i64 L5) ∧ w'.cell? ⟨g, i * 6 + 5, none⟩ = some (.int .i64 C5) ∧ w'.cell? ⟨w1.heap.size + 1, j, none⟩ = some (.string GB)) (go_keep)
          (first | (go_at_call 11; refine (CW.out _ _ _ _ (by exact ⟨rfl, rfl, rfl, Nat.le_refl _, fun _ _ => rfl⟩)).mono ?_; rintro e w4 ⟨rfl, b4⟩; have b5 : Below wr.heap.size wr w4 := ⟨b4.os, b4.tape, b4.output, b4.size, b4.block⟩; have k0 : w4.cell? ⟨g, i * 6, none⟩ = some (.int .u8 d.kind) := (b5.cell (p := ⟨g, i * 6, none⟩) sg).trans c0; have k1 : w4.cell? ⟨g, i * 6 + 1, none⟩ = some (.string T) := (b5.cell (p := ⟨g, i * 6 + 1, none⟩) sg).trans c1; have k2 : w4.cell? ⟨g, i * 6 + 2, none⟩ = some (sv) := (b5.cell (p := ⟨g, i * 6 + 2, none⟩) sg).trans c2; have k3 : w4.cell? ⟨g, i * 6 + 3, none⟩ = some (.int .i64 Pd) := (b5.cell (p := ⟨g, i * 6 + 3, none⟩) sg).trans c3; have k4 : w4.cell? ⟨g, i * 6 + 4, none⟩ = some (.int .i64 L5) := (b5.cell (p := ⟨g, i * 6 + 4, none⟩) sg).trans c4; have k5 : w4.cell? ⟨g, i * 6 + 5, none⟩ = some (.int .i64 C5) := (b5.cell (p := ⟨g, i * 6 + 5, none⟩) sg).trans c5; have k6 : w4.cell? ⟨w1.heap.size + 1, j, none⟩ = some (.string GB) := (b5.cell (p := ⟨w1.heap.size + 1, j, none⟩) sa).trans ka))
        have HB6 := Lib.hid (HB.out.trans (b5.mono HB.out.size))
        clear c0 c1 c2 c3 c4 c5 ka k0 k1 k2 k3 k4 k5 k6 b4 b5
        go_wp2_with fail
        exact ⟨⟨i + 1, _, congrArg Value.string HFIN.out, by go_num, by omega, HX, HB6.out⟩, by simp [intOf]; omega⟩
      · have d1 : decide (i < n) = false := by rw [decide_eq_false_iff_not]; exact hin
        go_upto_region 14 with fail
        go_region_held3 (fun w' => w'.cell? ⟨g, i * 6, none⟩ = some (.int .u8 d.kind) ∧ w'.cell? ⟨g, i * 6 + 1, none⟩ = some (.string T) ∧ w'.cell? ⟨g, i * 6 + 2, none⟩ = some (sv) ∧ w'.cell? ⟨g, i * 6 + 3, none⟩ = some (.int .i64 Pd) ∧ w'.cell? ⟨g, i * 6 + 4, none⟩ = some (.int .i64 L5) ∧ w'.cell? ⟨g, i * 6 + 5, none⟩ = some (.int .i64 C5) ∧ w'.cell? ⟨w1.heap.size + 1, j, none⟩ = some (.string GB)) (go_keep)
          (first | (go_at_call 11; refine (CW.out _ _ _ _ (by exact ⟨rfl, rfl, rfl, Nat.le_refl _, fun _ _ => rfl⟩)).mono ?_; rintro e w4 ⟨rfl, b4⟩; have b5 : Below wr.heap.size wr w4 := ⟨b4.os, b4.tape, b4.output, b4.size, b4.block⟩; have k0 : w4.cell? ⟨g, i * 6, none⟩ = some (.int .u8 d.kind) := (b5.cell (p := ⟨g, i * 6, none⟩) sg).trans c0; have k1 : w4.cell? ⟨g, i * 6 + 1, none⟩ = some (.string T) := (b5.cell (p := ⟨g, i * 6 + 1, none⟩) sg).trans c1; have k2 : w4.cell? ⟨g, i * 6 + 2, none⟩ = some (sv) := (b5.cell (p := ⟨g, i * 6 + 2, none⟩) sg).trans c2; have k3 : w4.cell? ⟨g, i * 6 + 3, none⟩ = some (.int .i64 Pd) := (b5.cell (p := ⟨g, i * 6 + 3, none⟩) sg).trans c3; have k4 : w4.cell? ⟨g, i * 6 + 4, none⟩ = some (.int .i64 L5) := (b5.cell (p := ⟨g, i * 6 + 4, none⟩) sg).trans c4; have k5 : w4.cell? ⟨g, i * 6 + 5, none⟩ = some (.int .i64 C5) := (b5.cell (p := ⟨g, i * 6 + 5, none⟩) sg).trans c5; have k6 : w4.cell? ⟨w1.heap.size + 1, j, none⟩ = some (.string GB) := (b5.cell (p := ⟨w1.heap.size + 1, j, none⟩) sa).trans ka))
        have HB6 := Lib.hid (HB.out.trans (b5.mono HB.out.size))
        clear c0 c1 c2 c3 c4 c5 ka k0 k1 k2 k3 k4 k5 k6 b4 b5
        go_wp2_with fail
        exact ⟨⟨i + 1, _, congrArg Value.string HFIN.out, by go_num, by omega, HX, HB6.out⟩, by simp [intOf]; omega⟩
    · have d0 : decide (i < N) = false := by rw [decide_eq_false_iff_not]; exact hlt
      have hdone : xs.map (·.1) = ds := by rw [hx.out.1, List.take_of_length_le (by rw [HN.out]; omega)]
      have hlen := Sc.back_len HR.out i hx.out.1 hx.out.2
      obtain ⟨ws, hws, hwl, hal⟩ := Sc.back_ok HR.out (by rw [← Lib.size_eq]; exact hs) hdone hx.out.2
      obtain ⟨V, hV⟩ : ∃ V : ByteArray, (⟨(Sc.joinL xs).toArray⟩ : ByteArray) = V := ⟨_, rfl⟩
      have hVd : V.data.toList = Sc.joinL xs := by rw [← hV]
      rw [← hVd] at hws hlen
      rw [← Lib.size_eq, ← Lib.size_eq] at hlen
      have C2 := fun w hE => (Scan_any V w (by omega) hE).mono fun _ _ h => Told.ok h hws
      rw [← hwl.symm, HN.out] at C2
      replace C2 := Lib.hid C2
      have HL := Lib.hid (fun (w' : World) (u v : Value) (hu : Lk w' u ds) (hv : Lk w' v ws) => like_yes ds ws u v w' hwl.symm (by rw [HN.out]; omega) (fun k e he => by have := (set_small HR.out k e he).1; omega) (fun k e f he hf => hal k e f he hf) hu hv)
      have HWL := Lib.hid (hwl.trans HN.out)
      have HB := Lib.hid hb
      have E3 := Lib.hid (E2.out.below hb)
      have X3 := Lib.hid (X2.out.below hb)
      rw [hV]
      clear hdone hlen hws hwl hal hV hVd hb hx
      go_wp2_with fail
      refine (C2.out _ E3.out).mono ?_
      rintro e w4 ⟨A4, cap4, rfl, W4, b4⟩
      have b4' := b4.alloc b4.size (FaultV 0 0 0 0)
      have K4 := Lib.hid (Bk.made w4 28 #[.int .i64 0, .int .i64 0, .int .i64 0, .int .i64 0])
      have E4 := Lib.hid (E3.out.below b4')
      have B4 := Lib.hid (HB.out.trans (b4'.mono HB.out.size))
      have LU := (X3.out.below b4').lk HN.out.symm
      have LV := (W4.below ((Below.refl _ w4).alloc (Nat.le_refl _) (FaultV 0 0 0 0))).lk HWL.out.symm
      have CL := Lib.hid (HL.out _ _ _ LU LV)
      have z0 := K4.out.zero
      clear b4 b4' W4 LU LV
      go_wp2_with fail
      refine CL.out.mono ?_
      rintro e w5 ⟨rfl, nn, rfl⟩
      have E5 := Lib.hid (E4.out.drewN nn)
      go_wp2_with fail
      refine (lives_true _ E5.out).mono ?_
      rintro e w6 ⟨rfl, b6⟩
      go_wp2_with fail
      go_ret
      have b7 := below_drewN B4.out nn
      have b8 := B2.out.trans (b7.mono B2.out.size)
      exact ⟨rfl, b8.trans (b6.mono b8.size)⟩
theorem Back_any (s : ByteArray) (A : Option Addr) (n cap : Nat) (w : World) (hE : EnvS w) (hG : GapsAt w A n) (hn : n ≤ 9223372036854775807) : Calls Tryd.prog 4 #[.string s, .slice A n cap] w fun e w' => e = .returned (.bool true) ∧ Below w.heap.size w w' := by
  by_cases hs : s.size ≤ 2000
  · cases hr : Sc.scanL s.data.toList with
    | err c p => exact Back_err s A n cap w hE hs c p hr
    | ok ds => exact Back_ok s A n cap w hE hs hG hn ds hr
  · exact Back_long s A n cap w hE (by omega)
end Go.Proofs.YtokpknjmcegkaaaDoor
