/- Apart: a copy in blocks of its own shares nothing with the node; what is written to it is written back. -/

import Derived.Test.YthfkodimafmmgaaGreatDoorNdU
import Derived.Test.YthfkodimafmmgaaGreatDoorNuK
import Derived.Test.YthfkodimafmmgaaGreatDoorNdH
import Derived.Deep.RegionHeld3
import Derived.Deep.RegionWith
import Derived.Deep.DeepCutAuto
namespace Go.Proofs.YthfkodimafmmgaaGreatDoor
open Go Go.RowKit Ru
set_option maxRecDepth 100000

theorem block_set (w : World) (g o : Nat) (v : Value) {c : Array Value} {e : TypeId} {f : Nat × Nat} (h : w.heap[g]? = some (.cells c e f)) : (w.setCell ⟨g, o, none⟩ v).heap[g]? = some (.cells (c.setIfInBounds o v) e f) := by
  simp [World.setCell, Array.getElem?_modify, h]
theorem block_of {w : World} {g o : Nat} {v : Value} (h : w.cell? ⟨g, o, none⟩ = some v) : ∃ c e f, w.heap[g]? = some (.cells c e f) ∧ c[o]? = some v := by
  unfold World.cell? at h
  split at h
  · rename_i c e f hc
    exact ⟨c, e, f, hc, by simpa using h⟩
  · cases h
theorem put_back {c : Array Value} {o : Nat} {v : Value} (u : Value) (h : c[o]? = some v) : (c.setIfInBounds o u).setIfInBounds o v = c := by
  apply Array.ext_getElem?
  intro i
  by_cases hi : o = i
  · subst hi
    have := (Array.getElem?_eq_some_iff.1 h).1
    rw [Array.getElem?_setIfInBounds_self_of_lt (by simpa using this), h]
  · rw [Array.getElem?_setIfInBounds_ne hi, Array.getElem?_setIfInBounds_ne hi]
theorem put_same {c : Array Value} {o : Nat} {v : Value} (h : c[o]? = some v) : c.setIfInBounds o v = c := by
  apply Array.ext_getElem?
  intro i
  by_cases hi : o = i
  · subst hi
    have := (Array.getElem?_eq_some_iff.1 h).1
    rw [Array.getElem?_setIfInBounds_self_of_lt this, h]
  · rw [Array.getElem?_setIfInBounds_ne hi]
/-- A cell is written, all else stays, and it is written back. -/
theorem back_one {wr wi : World} {g o : Nat} {v u : Value} (h : wr.cell? ⟨g, o, none⟩ = some v) (hb : Below wr.heap.size (wr.setCell ⟨g, o, none⟩ u) wi) : Below wr.heap.size wr (wi.setCell ⟨g, o, none⟩ v) := by
  obtain ⟨c, e, f, hc, ho⟩ := block_of h
  have hg := (Array.getElem?_eq_some_iff.1 hc).1
  refine ⟨hb.os, hb.tape, hb.output, ?_, fun k hk => ?_⟩
  · have := hb.size
    rw [World.size_setCell] at this ⊢
    exact this
  · by_cases hk' : k = g
    · subst hk'
      have h1 := hb.block k hk
      rw [block_set wr k o u hc] at h1
      rw [block_set wi k o v h1, put_back u ho, hc]
    · rw [Below.heap_setCell _ _ _ _ hk', hb.block k hk, Below.heap_setCell _ _ _ _ hk']
theorem back_two {wr wi : World} {g o : Nat} {v u x : Value} (h : wr.cell? ⟨g, o, none⟩ = some v) (h1 : wr.cell? ⟨g, o + 1, none⟩ = some x) (hb : Below wr.heap.size (wr.setCell ⟨g, o, none⟩ u) wi) : Below wr.heap.size wr ((wi.setCell ⟨g, o, none⟩ v).setCell ⟨g, o + 1, none⟩ x) := by
  have k := back_one h hb
  obtain ⟨c, e, f, hc, ho⟩ := block_of h1
  have hg := (Array.getElem?_eq_some_iff.1 hc).1
  refine ⟨k.os, k.tape, k.output, ?_, fun i hi => ?_⟩
  · have := k.size
    rw [World.size_setCell] at this ⊢
    rw [World.size_setCell]
    exact this
  · by_cases hi' : i = g
    · subst hi'
      have h1 := k.block i hi
      rw [hc] at h1
      rw [block_set _ i (o + 1) x h1, put_same ho, hc]
    · rw [Below.heap_setCell _ _ _ _ hi']
      exact k.block i hi
namespace Nd
theorem RgF.get {n : Nat} {w : World} : ∀ {st : List (Int × Int)} {a : Option Addr}, RgF n w st a → ∀ (i : Nat) (p : Int × Int), st[i]? = some p →
    ∃ b o, a = some ⟨b, o, none⟩ ∧ n ≤ b ∧ (∀ j, w.frozen? ⟨b, j, none⟩ = false) ∧ w.cell? ⟨b, o + i * 2, none⟩ = some (.int .i32 p.1) ∧ w.cell? ⟨b, o + i * 2 + 1, none⟩ = some (.int .i32 p.2)
  | [], _, _, i, p, hi => by simp at hi
  | q :: r, _, ⟨b, o, ha, hn, hz, h0, h1, hr⟩, 0, p, hi => by
    obtain rfl : q = p := by simpa using hi
    exact ⟨b, o, ha, hn, hz, by simpa using h0, by simpa using h1⟩
  | q :: r, _, ⟨b, o, ha, hn, hz, h0, h1, hr⟩, i + 1, p, hi => by
    obtain ⟨b', o', ha', hn', hz', h0', h1'⟩ := hr.get i p (by simpa using hi)
    injection ha' with ha'
    injection ha' with e1 e2 e3
    subst e1 e2
    refine ⟨b, o, ha, hn, hz, ?_, ?_⟩
    · rw [show o + (i + 1) * 2 = o + 2 + i * 2 by omega]; exact h0'
    · rw [show o + (i + 1) * 2 + 1 = o + 2 + i * 2 + 1 by omega]; exact h1'
theorem AtLF.get {n : Nat} {w : World} : ∀ {r : List T} {a : Option Addr}, AtLF n w r a → ∀ (i : Nat) (t : T), r[i]? = some t →
    ∃ b o v0 v1 v2 v3 v4, a = some ⟨b, o, none⟩ ∧ n ≤ b ∧ (∀ j, w.frozen? ⟨b, j, none⟩ = false) ∧ w.cell? ⟨b, o + i * 5, none⟩ = some v0 ∧ w.cell? ⟨b, o + i * 5 + 1, none⟩ = some v1 ∧ w.cell? ⟨b, o + i * 5 + 2, none⟩ = some v2 ∧ w.cell? ⟨b, o + i * 5 + 3, none⟩ = some v3 ∧ w.cell? ⟨b, o + i * 5 + 4, none⟩ = some v4 ∧ AtF n w t (.agg #[v0, v1, v2, v3, v4])
  | [], _, _, i, p, hi => by simp at hi
  | q :: r, _, ⟨b, o, v0, v1, v2, v3, v4, ha, hn, hz, h0, h1, h2, h3, h4, hA, hr⟩, 0, p, hi => by
    obtain rfl : q = p := by simpa using hi
    exact ⟨b, o, v0, v1, v2, v3, v4, ha, hn, hz, by simpa using h0, by simpa using h1, by simpa using h2, by simpa using h3, by simpa using h4, hA⟩
  | q :: r, _, ⟨b, o, _, _, _, _, _, ha, hn, hz, _, _, _, _, _, _, hr⟩, i + 1, p, hi => by
    obtain ⟨b', o', v0, v1, v2, v3, v4, ha', hn', hz', h0, h1, h2, h3, h4, hA⟩ := hr.get i p (by simpa using hi)
    injection ha' with ha'
    injection ha' with e1 e2 e3
    subst e1 e2
    refine ⟨b, o, v0, v1, v2, v3, v4, ha, hn, hz, ?_, ?_, ?_, ?_, ?_, hA⟩
    · rw [show o + (i + 1) * 5 = o + 5 + i * 5 by omega]; exact h0
    · rw [show o + (i + 1) * 5 + 1 = o + 5 + i * 5 + 1 by omega]; exact h1
    · rw [show o + (i + 1) * 5 + 2 = o + 5 + i * 5 + 2 by omega]; exact h2
    · rw [show o + (i + 1) * 5 + 3 = o + 5 + i * 5 + 3 by omega]; exact h3
    · rw [show o + (i + 1) * 5 + 4 = o + 5 + i * 5 + 4 by omega]; exact h4
end Nd
/-- One more is another number, in 32 bits, and in 8. -/
theorem more32 (x : Int) : (IntKind.i32.wrap (x + 1) == x) = false := by
  rw [beq_eq_false_iff_ne]
  intro h
  simp only [IntKind.wrap, IntKind.signed, IntKind.bits] at h
  omega
theorem more8 (x : Int) : (IntKind.u8.wrap (x + 1) == x) = false := by
  rw [beq_eq_false_iff_ne]
  intro h
  simp only [IntKind.wrap, IntKind.signed, IntKind.bits] at h
  omega
def ApartOk (t : Nd.T) : Prop := ∀ (m : Nat) (w0 : World) (v v2 : Value) (w : World), Nd.AtF m w t v → Nd.At w0 t v2 → w0.heap.size ≤ m → Below w0.heap.size w0 w →
  Calls Tryz.prog 17 #[v, v2] w fun e w' => e = .returned (.bool true) ∧ Below w.heap.size w w'
set_option maxHeartbeats 2000000 in
theorem Apart_any (t : Nd.T) : ApartOk t := by
  induction t using Nd.T.ind with | _ k nm tx st sb ih => ?_
  intro m w0 v v2 w hA hA' hm hw
  unfold Nd.AtF at hA
  unfold Nd.At at hA'
  obtain ⟨sa, sc, ba, bc, rfl, hk, _, _, hsc, hbc, hR, hL⟩ := hA
  obtain ⟨sa', sc', ba', bc', rfl, _, _, _, hsc', hbc', hR', hL'⟩ := hA'
  obtain ⟨SL, hSL⟩ : ∃ n, st.length = n := ⟨_, rfl⟩
  obtain ⟨SN, hSN⟩ : ∃ n, sb.length = n := ⟨_, rfl⟩
  have HSL := Lib.hid hSL
  have HSN := Lib.hid hSN
  rw [hSL] at hsc hsc' ⊢
  rw [hSN] at hbc hbc' ⊢
  have HB := Lib.hid (((Below.refl _ w).alloc (Nat.le_refl _) (.cells #[.int .u8 k, .string nm, .string tx, .slice sa SL sc, .slice ba SN bc] 26)).alloc (by rw [World.size_alloc]; omega) (.cells #[.int .u8 k, .string nm, .string tx, .slice sa' SL sc', .slice ba' SN bc'] 26))
  have HK1 := Lib.hid ((Bk.made w 26 #[.int .u8 k, .string nm, .string tx, .slice sa SL sc, .slice ba SN bc]).alloc (.cells #[.int .u8 k, .string nm, .string tx, .slice sa' SL sc', .slice ba' SN bc'] 26))
  have HK2 := Lib.hid (show Bk ((w.alloc (.cells #[.int .u8 k, .string nm, .string tx, .slice sa SL sc, .slice ba SN bc] 26)).alloc (.cells #[.int .u8 k, .string nm, .string tx, .slice sa' SL sc', .slice ba' SN bc'] 26)) (w.heap.size + 1) 26 _ from by
    have := Bk.made (w.alloc (.cells #[.int .u8 k, .string nm, .string tx, .slice sa SL sc, .slice ba SN bc] 26)) 26 #[.int .u8 k, .string nm, .string tx, .slice sa' SL sc', .slice ba' SN bc']
    rwa [World.size_alloc] at this)
  have HR := Lib.hid hR
  have HR' := Lib.hid hR'
  have HL := Lib.hid hL
  have HL' := Lib.hid hL'
  have HM := Lib.hid (And.intro hm hw)
  have n1 : (SN : Int) ≤ 9223372036854775807 := by omega
  have n2 : (SL : Int) ≤ 9223372036854775807 := by omega
  clear hL hL' hR hR' hSL hSN hm hw
  go_enter Tryz.func17, Tryz.ntmps17
  go_wp2_with fail
  go_loopw [5] (fun i wr => ∃ p : Nat, p ≤ SL ∧ i = .int .i64 p ∧ Bk wr w.heap.size 26 #[.int .u8 k, .string nm, .string tx, .slice sa SL sc, .slice ba SN bc] ∧ Bk wr (w.heap.size + 1) 26 #[.int .u8 k, .string nm, .string tx, .slice sa' SL sc', .slice ba' SN bc'] ∧ Below w.heap.size w wr) (fun i _ => SL - (intOf i).toNat)
  case atStart => exact ⟨0, Nat.zero_le _, rfl, HK1.out, HK2.out, HB.out⟩
  case round =>
    obtain ⟨p, hp, rfl, hK1, hK2, hB⟩ := hrel
    obtain ⟨wo, hwo⟩ : ∃ z, z = wr := ⟨_, rfl⟩
    subst hwo
    have c3 := hK1.cell 3
    have c4 := hK1.cell 4
    have d3 := hK2.cell 3
    have d4 := hK2.cell 4
    simp at c3 c4 d3 d4
    by_cases hlt : p < SL
    · obtain ⟨pp, hp1⟩ : ∃ x, st[p]? = some x := ⟨_, List.getElem?_eq_getElem (by rw [HSL.out]; exact hlt)⟩
      obtain ⟨g, o, rfl, hmg, hz, x1, x2⟩ := HR.out.get p pp hp1
      obtain ⟨pa, pb⟩ := pp
      dsimp only at x1 x2
      have hgl : g < w.heap.size := World.block_lt_of_cell? _ _ x1
      have hf1 := hz (o + p * 2)
      have hf2 := hz (o + p * 2 + 1)
      rw [← hB.frozen (p := ⟨g, o + p * 2, none⟩) hgl] at hf1
      rw [← hB.frozen (p := ⟨g, o + p * 2 + 1, none⟩) hgl] at hf2
      replace x1 := Nd.cell_keeps hB x1
      replace x2 := Nd.cell_keeps hB x2
      have d0 : decide (p < SL) = true := by rw [decide_eq_true_iff]; exact hlt
      have a0 : (p : Int) < (SL : Int) := by omega
      obtain ⟨XI, hXI⟩ : ∃ x, IntKind.i32.wrap (pa + 1) = x := ⟨_, rfl⟩
      have hne : (pa == XI) = false := by
        rw [← hXI, beq_eq_false_iff_ne]
        intro h
        have := more32 pa
        rw [← h] at this
        simp at this
      obtain ⟨A, hA⟩ : ∃ a : Addr, a = ⟨g, o + p * 2, none⟩ := ⟨_, rfl⟩
      have hW1 := (Below.refl wo.heap.size wo).alloc (Nat.le_refl _) (.cells #[.int .i32 pa, .int .i32 pb] 44)
      have e3 := Nd.cell_keeps hW1 c3
      have q1 := hW1.frozen (p := ⟨g, o + p * 2, none⟩) (World.block_lt_of_cell? _ _ x1)
      rw [hf1] at q1
      have q2 := Nd.cell_keeps hW1 x1
      have hK1l := hK1.lt
      have hK2l := hK2.lt
      have s3 : (wo.setCell ⟨g, o + p * 2, none⟩ (.int .i32 XI)).cell? ⟨w.heap.size, 3, none⟩ = some (.slice (some ⟨g, o, none⟩) SL sc) := (World.cell?_setCell_other _ _ _ _ (fun e => absurd (congrArg Addr.block e) (show g ≠ w.heap.size by omega))).trans c3
      have t3 : (wo.setCell ⟨g, o + p * 2, none⟩ (.int .i32 XI)).cell? ⟨w.heap.size + 1, 3, none⟩ = some (.slice sa' SL sc') := (World.cell?_setCell_other _ _ _ _ (fun e => absurd (congrArg Addr.block e) (show g ≠ w.heap.size + 1 by omega))).trans d3
      have s1 : (wo.setCell ⟨g, o + p * 2, none⟩ (.int .i32 XI)).cell? ⟨g, o + p * 2, none⟩ = some (.int .i32 XI) := World.cell?_setCell_same _ _ _ x1
      have s2 : (wo.setCell ⟨g, o + p * 2, none⟩ (.int .i32 XI)).cell? ⟨g, o + p * 2 + 1, none⟩ = some (.int .i32 pb) := (World.cell?_setCell_other _ _ _ _ (fun e => by have := congrArg Addr.off e; simp at this)).trans x2
      have sf1 : (wo.setCell ⟨g, o + p * 2, none⟩ (.int .i32 XI)).frozen? ⟨g, o + p * 2, none⟩ = false := by rw [World.frozen?_setCell]; exact hf1
      have sf2 : (wo.setCell ⟨g, o + p * 2, none⟩ (.int .i32 XI)).frozen? ⟨g, o + p * 2 + 1, none⟩ = false := by rw [World.frozen?_setCell]; exact hf2
      have hgr : g < wo.heap.size := World.block_lt_of_cell? _ _ x1
      have HS := Lib.hid (fun wi (h : Below wo.heap.size (wo.setCell ⟨g, o + p * 2, none⟩ (.int .i32 XI)) wi) => show wi.cell? ⟨w.heap.size, 3, none⟩ = some (.slice (some ⟨g, o, none⟩) SL sc) ∧ wi.cell? ⟨w.heap.size + 1, 3, none⟩ = some (.slice sa' SL sc') ∧ wi.cell? ⟨g, o + p * 2, none⟩ = some (.int .i32 XI) ∧ wi.cell? ⟨g, o + p * 2 + 1, none⟩ = some (.int .i32 pb) ∧ wi.frozen? ⟨g, o + p * 2, none⟩ = false ∧ wi.frozen? ⟨g, o + p * 2 + 1, none⟩ = false from ⟨(h.cell (p := ⟨w.heap.size, 3, none⟩) hK1l).trans s3, (h.cell (p := ⟨w.heap.size + 1, 3, none⟩) hK2l).trans t3, (h.cell (p := ⟨g, o + p * 2, none⟩) hgr).trans s1, (h.cell (p := ⟨g, o + p * 2 + 1, none⟩) hgr).trans s2, (h.frozen (p := ⟨g, o + p * 2, none⟩) hgr).trans sf1, (h.frozen (p := ⟨g, o + p * 2 + 1, none⟩) hgr).trans sf2⟩)
      have HBK := Lib.hid (fun wi (h : Below wo.heap.size (wo.setCell ⟨g, o + p * 2, none⟩ (.int .i32 XI)) wi) => back_two x1 x2 h)
      have HFIN := Lib.hid (fun wi (h : Below wo.heap.size wo wi) => And.intro (hK1.below h hK1l) (And.intro (hK2.below h hK2l) (hB.trans (h.mono hB.size))))
      have HGET := Lib.hid (fun (q : Nat) (xy : Int × Int) (hq : st[q]? = some xy) wi (h : Below wo.heap.size (wo.setCell ⟨g, o + p * 2, none⟩ (.int .i32 XI)) wi) => show ∃ g2 o2, sa' = some ⟨g2, o2, none⟩ ∧ wi.cell? ⟨g2, o2 + q * 2, none⟩ = some (.int .i32 xy.1) ∧ wi.cell? ⟨g2, o2 + q * 2 + 1, none⟩ = some (.int .i32 xy.2) from by
        obtain ⟨g2, o2, ha, y1, y2⟩ := HR'.out.get q xy hq
        have hg2 : g2 < w0.heap.size := World.block_lt_of_cell? _ _ y1
        have hmm := HM.out.1
        have z1 := Nd.cell_keeps hB (Nd.cell_keeps HM.out.2 y1)
        have z2 := Nd.cell_keeps hB (Nd.cell_keeps HM.out.2 y2)
        have hl2 : g2 < wo.heap.size := World.block_lt_of_cell? _ _ z1
        exact ⟨g2, o2, ha, (h.cell (p := ⟨g2, o2 + q * 2, none⟩) hl2).trans ((World.cell?_setCell_other _ _ _ _ (fun e => absurd (congrArg Addr.block e) (show g ≠ g2 by omega))).trans z1), (h.cell (p := ⟨g2, o2 + q * 2 + 1, none⟩) hl2).trans ((World.cell?_setCell_other _ _ _ _ (fun e => absurd (congrArg Addr.block e) (show g ≠ g2 by omega))).trans z2)⟩)
      have HP := Lib.hid hp1
      have HRN : Hid (Below wo.heap.size (wo.setCell ⟨g, o + p * 2, none⟩ (.int .i32 XI)) ((wo.setCell ⟨g, o + p * 2, none⟩ (.int .i32 XI)).alloc (.cells #[.int .i32 pa, .int .i32 pb] 44)) ∧ Bk ((wo.setCell ⟨g, o + p * 2, none⟩ (.int .i32 XI)).alloc (.cells #[.int .i32 pa, .int .i32 pb] 44)) wo.heap.size 44 #[.int .i32 pa, .int .i32 pb]) := by
        have z := World.size_setCell wo ⟨g, o + p * 2, none⟩ (.int .i32 XI)
        refine ⟨(Below.refl _ _).alloc (by rw [z]; exact Nat.le_refl _) _, ?_⟩
        have := Bk.made (wo.setCell ⟨g, o + p * 2, none⟩ (.int .i32 XI)) 44 #[.int .i32 pa, .int .i32 pb]
        rwa [z] at this
      have n3 : wo.heap.size ≠ g := by omega
      clear hA s1 s2 s3 t3 sf1 sf2 hp1 hK1 hK2 hB hz hW1
      go_wp2_with fail
      go_loopw [7] (fun i wi => ∃ q : Nat, q ≤ SL ∧ i = .int .i64 q ∧ Bk wi wo.heap.size 44 #[.int .i32 pa, .int .i32 pb] ∧ Below wo.heap.size (wo.setCell ⟨g, o + p * 2, none⟩ (.int .i32 XI)) wi) (fun i _ => SL - (intOf i).toNat)
      case atStart => exact ⟨0, Nat.zero_le _, rfl, HRN.out.2, HRN.out.1⟩
      case round =>
        clear c3 d3 e3 q1 q2 x1 x2 hf1 hf2 c4 d4
        obtain ⟨q, hq, rfl, hK, hb⟩ := hrel
        obtain ⟨c3, d3, x1, x2, hf1, hf2⟩ := HS.out _ hb
        by_cases hlq : q < SL
        · have d1 : decide (q < SL) = true := by rw [decide_eq_true_iff]; exact hlq
          have b0 : (q : Int) < (SL : Int) := by omega
          by_cases hpq : p = q
          · subst hpq
            have i1 : ((p : Int) == (p : Int)) = true := by simp
            obtain ⟨g2, o2, rfl, y1, y2⟩ := HGET.out p _ HP.out _ hb
            dsimp only at y1 y2
            have HKP := Lib.hid (fun n => And.intro (hK.below (below_drewN (Below.refl wr.heap.size wr) n) hK.lt) (hb.trans ((below_drewN (Below.refl wr.heap.size wr) n).mono (by have := hb.size; rw [World.size_setCell] at this; exact this))))
            go_wp2_with fail
            go_quiet (fail)
            go_wp2_with fail
            exact ⟨⟨p + 1, by omega, by go_num, (HKP.out _).1, (HKP.out _).2⟩, by simp [intOf]; omega⟩
          · have i1 : ((p : Int) == (q : Int)) = false := by rw [beq_eq_false_iff_ne]; omega
            have HKP := Lib.hid (fun n => And.intro (hK.below (below_drewN (Below.refl wr.heap.size wr) n) hK.lt) (hb.trans ((below_drewN (Below.refl wr.heap.size wr) n).mono (by have := hb.size; rw [World.size_setCell] at this; exact this))))
            go_wp2_with fail
            go_quiet (fail)
            go_wp2_with fail
            exact ⟨⟨q + 1, by omega, by go_num, (HKP.out _).1, (HKP.out _).2⟩, by simp [intOf]; omega⟩
        · have d1 : decide (q < SL) = false := by rw [decide_eq_false_iff_not]; exact hlq
          have l1 := hK.cell 0
          have l2 := hK.cell 1
          simp at l1 l2
          have HE := Lib.hid (HFIN.out _ (HBK.out _ hb))
          clear hK hb
          go_wp2_with fail
          exact ⟨⟨p + 1, by omega, by go_num, HE.out.1, HE.out.2.1, HE.out.2.2⟩, by simp [intOf]; omega⟩
    · have d0 : decide (p < SL) = false := by rw [decide_eq_false_iff_not]; exact hlt
      go_wp2_with fail
      go_loopw [8] (fun i wr => ∃ p : Nat, p ≤ SN ∧ i = .int .i64 p ∧ Bk wr w.heap.size 26 #[.int .u8 k, .string nm, .string tx, .slice sa SL sc, .slice ba SN bc] ∧ Bk wr (w.heap.size + 1) 26 #[.int .u8 k, .string nm, .string tx, .slice sa' SL sc', .slice ba' SN bc'] ∧ Below w.heap.size w wr) (fun i _ => SN - (intOf i).toNat)
      case atStart => exact ⟨0, Nat.zero_le _, rfl, hK1, hK2, hB⟩
      case round =>
        clear c3 c4 d3 d4 hK1 hK2 hB
        obtain ⟨j, hj, rfl, hK1, hK2, hB⟩ := hrel
        have c4 := hK1.cell 4
        have d4 := hK2.cell 4
        simp at c4 d4
        by_cases hlj : j < SN
        · obtain ⟨s, hs⟩ : ∃ s, sb[j]? = some s := ⟨_, List.getElem?_eq_getElem (by rw [HSN.out]; exact hlj)⟩
          obtain ⟨g, o, v0, v1, v2, v3, v4, rfl, hmg, hz, h0, h1, h2, h3, h4, hAs⟩ := HL.out.get j s hs
          obtain ⟨g2, o2, u0, u1, u2, u3, u4, rfl, i0, i1, i2, i3, i4, _, hAu⟩ := HL'.out.val j s hs
          have hgl : g < w.heap.size := World.block_lt_of_cell? _ _ h0
          have hg2 : g2 < w0.heap.size := World.block_lt_of_cell? _ _ i0
          have hmm := HM.out.1
          have hf := hz (o + j * 5)
          rw [← hB.frozen (p := ⟨g, o + j * 5, none⟩) hgl] at hf
          replace h0 := Nd.cell_keeps hB h0
          replace h1 := Nd.cell_keeps hB h1
          replace h2 := Nd.cell_keeps hB h2
          replace h3 := Nd.cell_keeps hB h3
          replace h4 := Nd.cell_keeps hB h4
          replace i0 := Nd.cell_keeps hB (Nd.cell_keeps HM.out.2 i0)
          replace i1 := Nd.cell_keeps hB (Nd.cell_keeps HM.out.2 i1)
          replace i2 := Nd.cell_keeps hB (Nd.cell_keeps HM.out.2 i2)
          replace i3 := Nd.cell_keeps hB (Nd.cell_keeps HM.out.2 i3)
          replace i4 := Nd.cell_keeps hB (Nd.cell_keeps HM.out.2 i4)
          have dj : decide (j < SN) = true := by rw [decide_eq_true_iff]; exact hlj
          have a0 : (j : Int) < (SN : Int) := by omega
          have C := fun (wx : World) (h : Below wr.heap.size wr wx) => (ih s (List.mem_of_getElem? hs) m w0 _ _ wx (Nd.AtF.keep (Nat.le_refl _) (Nd.From.below (hB.trans (h.mono hB.size))) _ hAs) hAu hmm (HM.out.2.trans ((hB.trans (h.mono hB.size)).mono HM.out.2.size))).mono (R' := fun e w' => e = .returned (.bool true) ∧ Below wr.heap.size wr w') fun e w' q => ⟨q.1, h.trans (q.2.mono h.size)⟩
          obtain ⟨sa1, sc1, ba1, bc1, rfl, rfl, rfl, rfl, rfl⟩ := (Nd.AtF.to _ hAs).five
          obtain ⟨sa2, sc2, ba2, bc2, rfl, rfl, rfl, rfl, rfl⟩ := hAu.five
          obtain ⟨_, _, _, _, _, hsk, _⟩ := hAu.form
          generalize s.kind = sk at *
          generalize s.name = sn at *
          generalize s.text = sx at *
          generalize s.set.length = sl at *
          generalize s.subs.length = sm at *
          obtain ⟨KI, hKI⟩ : ∃ x, IntKind.u8.wrap (sk + 1) = x := ⟨_, rfl⟩
          have hne : (sk == KI) = false := by
            rw [← hKI, beq_eq_false_iff_ne]
            intro h
            have := more8 sk
            rw [← h] at this
            simp at this
          have HW : Hid (Below wr.heap.size wr ((wr.setCell ⟨g, o + j * 5, none⟩ (.int .u8 KI)).setCell ⟨g, o + j * 5, none⟩ (.int .u8 sk))) := back_one h0 (Below.refl _ _)
          have HKP := Lib.hid (fun w3 (b : Below wr.heap.size wr w3) => And.intro (hK1.below b hK1.lt) (And.intro (hK2.below b hK2.lt) (hB.trans (b.mono hB.size))))
          have l1 : w.heap.size < wr.heap.size := hK1.lt
          have l2 : w.heap.size + 1 < wr.heap.size := hK2.lt
          have e4 : (wr.setCell ⟨g, o + j * 5, none⟩ (.int .u8 KI)).cell? ⟨w.heap.size, 4, none⟩ = some (.slice (some ⟨g, o, none⟩) SN bc) := (World.cell?_setCell_other _ _ _ _ (fun e => absurd (congrArg Addr.block e) (show g ≠ w.heap.size by omega))).trans c4
          have f4 : (wr.setCell ⟨g, o + j * 5, none⟩ (.int .u8 KI)).cell? ⟨w.heap.size + 1, 4, none⟩ = some (.slice (some ⟨g2, o2, none⟩) SN bc') := (World.cell?_setCell_other _ _ _ _ (fun e => absurd (congrArg Addr.block e) (show g ≠ w.heap.size + 1 by omega))).trans d4
          have e0 : (wr.setCell ⟨g, o + j * 5, none⟩ (.int .u8 KI)).cell? ⟨g2, o2 + j * 5, none⟩ = some (.int .u8 sk) := (World.cell?_setCell_other _ _ _ _ (fun e => absurd (congrArg Addr.block e) (show g ≠ g2 by omega))).trans i0
          have f0 : (wr.setCell ⟨g, o + j * 5, none⟩ (.int .u8 KI)).frozen? ⟨g, o + j * 5, none⟩ = false := by rw [World.frozen?_setCell]; exact hf
          have e1 : (wr.setCell ⟨g, o + j * 5, none⟩ (.int .u8 KI)).cell? ⟨g, o + j * 5, none⟩ = some (.int .u8 KI) := World.cell?_setCell_same _ _ _ h0
          have HALL := Lib.hid (fun w3 (b : Below wr.heap.size wr w3) => show w3.cell? ⟨w.heap.size, 4, none⟩ = some (.slice (some ⟨g, o, none⟩) SN bc) ∧ w3.cell? ⟨w.heap.size + 1, 4, none⟩ = some (.slice (some ⟨g2, o2, none⟩) SN bc') ∧ w3.cell? ⟨g, o + j * 5, none⟩ = some (.int .u8 sk) ∧ w3.cell? ⟨g, o + j * 5 + 1, none⟩ = some (.string sn) ∧ w3.cell? ⟨g, o + j * 5 + 2, none⟩ = some (.string sx) ∧ w3.cell? ⟨g, o + j * 5 + 3, none⟩ = some (.slice sa1 sl sc1) ∧ w3.cell? ⟨g, o + j * 5 + 4, none⟩ = some (.slice ba1 sm bc1) ∧ w3.cell? ⟨g2, o2 + j * 5, none⟩ = some (.int .u8 sk) ∧ w3.cell? ⟨g2, o2 + j * 5 + 1, none⟩ = some (.string sn) ∧ w3.cell? ⟨g2, o2 + j * 5 + 2, none⟩ = some (.string sx) ∧ w3.cell? ⟨g2, o2 + j * 5 + 3, none⟩ = some (.slice sa2 sl sc2) ∧ w3.cell? ⟨g2, o2 + j * 5 + 4, none⟩ = some (.slice ba2 sm bc2) from ⟨Nd.cell_keeps b c4, Nd.cell_keeps b d4, Nd.cell_keeps b h0, Nd.cell_keeps b h1, Nd.cell_keeps b h2, Nd.cell_keeps b h3, Nd.cell_keeps b h4, Nd.cell_keeps b i0, Nd.cell_keeps b i1, Nd.cell_keeps b i2, Nd.cell_keeps b i3, Nd.cell_keeps b i4⟩)
          replace C := Lib.hid C
          clear hAs hAu hs hz hK1 hK2 hB
          go_upto_region 19 with fail
          obtain ⟨WB, hWB⟩ : ∃ z, (wr.setCell ⟨g, o + j * 5, none⟩ (.int .u8 KI)).setCell ⟨g, o + j * 5, none⟩ (.int .u8 sk) = z := ⟨_, rfl⟩
          rw [hWB] at HW ⊢
          clear c4 d4 h0 h1 h2 h3 h4 i0 i1 i2 i3 i4 e4 f4 e0 f0 e1 hf hWB
          obtain ⟨c4, d4, h0, h1, h2, h3, h4, i0, i1, i2, i3, i4⟩ := HALL.out _ HW.out
          go_region_held3 (fun w' => w'.cell? ⟨w.heap.size, 4, none⟩ = some (.slice (some ⟨g, o, none⟩) SN bc) ∧ w'.cell? ⟨w.heap.size + 1, 4, none⟩ = some (.slice (some ⟨g2, o2, none⟩) SN bc') ∧ w'.cell? ⟨g, o + j * 5, none⟩ = some (.int .u8 sk) ∧ w'.cell? ⟨g, o + j * 5 + 1, none⟩ = some (.string sn) ∧ w'.cell? ⟨g, o + j * 5 + 2, none⟩ = some (.string sx) ∧ w'.cell? ⟨g, o + j * 5 + 3, none⟩ = some (.slice sa1 sl sc1) ∧ w'.cell? ⟨g, o + j * 5 + 4, none⟩ = some (.slice ba1 sm bc1) ∧ w'.cell? ⟨g2, o2 + j * 5, none⟩ = some (.int .u8 sk) ∧ w'.cell? ⟨g2, o2 + j * 5 + 1, none⟩ = some (.string sn) ∧ w'.cell? ⟨g2, o2 + j * 5 + 2, none⟩ = some (.string sx) ∧ w'.cell? ⟨g2, o2 + j * 5 + 3, none⟩ = some (.slice sa2 sl sc2) ∧ w'.cell? ⟨g2, o2 + j * 5 + 4, none⟩ = some (.slice ba2 sm bc2)) (go_keep)
            (first | (go_at_call 17; refine (C.out _ (by first | exact HW.out | exact HW.out.drew | exact ⟨HW.out.os, HW.out.tape, HW.out.output, HW.out.size, HW.out.block⟩)).mono ?_; rintro e w3 ⟨rfl, b3⟩; obtain ⟨kc4, kd4, kh0, kh1, kh2, kh3, kh4, ki0, ki1, ki2, ki3, ki4⟩ := HALL.out _ b3))
          have HX := Lib.hid (HKP.out _ b3)
          clear c4 d4 h0 h1 h2 h3 h4 i0 i1 i2 i3 i4 kc4 kd4 kh0 kh1 kh2 kh3 kh4 ki0 ki1 ki2 ki3 ki4 b3
          go_wp2_with fail
          exact ⟨⟨j + 1, by omega, by go_num, HX.out.1, HX.out.2.1, HX.out.2.2⟩, by simp [intOf]; omega⟩
        · have d1 : decide (j < SN) = false := by rw [decide_eq_false_iff_not]; exact hlj
          go_wp2_with fail
          go_ret
          exact ⟨rfl, hB⟩
end Go.Proofs.YthfkodimafmmgaaGreatDoor
