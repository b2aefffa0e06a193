/- Lexers: a lexer in memory; the contracts of made, step, stray. -/
import Derived.Test.YtagbpkabfjnplaaDoorLxE
import Derived.Test.YtagbpkabfjnplaaDoorLxG
namespace Go.Proofs.YtagbpkabfjnplaaDoor
open Go Go.RowKit Rn Lx
set_option maxRecDepth 100000

namespace Lx
/-- A lexer, at its block. -/
def LV (w : World) (g : Nat) (t : Tb) (dr : List Bool) : Prop :=
  ∃ rv cv nv ev dv, Bk w g 53 #[rv, cv, nv, ev, dv] ∧ TL w rv cv nv ev t ∧ BV w dv dr
theorem LV.below {w w' : World} {g : Nat} {t : Tb} {dr : List Bool} (h : LV w g t dr) (hb : Below w.heap.size w w') : LV w' g t dr := by
  obtain ⟨rv, cv, nv, ev, dv, h1, h2, h3⟩ := h
  exact ⟨rv, cv, nv, ev, dv, h1.below hb h1.lt, h2.below hb, h3.below hb⟩
/-- What New asks of what is dropped. -/
def Dr (t : Tb) (dr : List Bool) : Prop := ∀ st : Nat, st < t.ns.length → t.es.getD st 0 < dr.length
end Lx
theorem made_any (t : Tb) (dr : List Bool) (g : Nat) (w : World) (h : LV w g t dr) (hm : 0 < t.ns.length) (hs : Sm t) :
    Calls Tryd.prog 32 #[.pointer (some ⟨g, 0, none⟩)] w fun e w' => e = .returned (.bool true) ∧ w' = w := by
  obtain ⟨rv, cv, nv, ev, dv, hk, ⟨_, _, ⟨na, nc, rfl, _, _⟩, _⟩, _⟩ := h
  have y := hk.cell 2
  rw [show (#[rv, cv, Value.slice na t.ns.length nc, ev, dv] : Array Value)[2]? = some (Value.slice na t.ns.length nc) from rfl] at y
  have l3 := hs.ns
  clear hk hs
  generalize t.ns.length = N at *
  have d1 : decide (0 < N) = true := decide_eq_true hm
  have d2 : decide ((0 : Int) < (N : Int)) = true := decide_eq_true (by omega)
  go_enter Tryd.func32, Tryd.ntmps32
  go_wp2_with fail
  go_ret
  exact ⟨rfl, rfl⟩
theorem made_nil (w : World) :
    Calls Tryd.prog 32 #[.pointer none] w fun e w' => e = .returned (.bool false) ∧ w' = w := by
  go_enter Tryd.func32, Tryd.ntmps32
  go_wp2_with fail
  go_ret
  exact ⟨rfl, rfl⟩
theorem made_none (g : Nat) (w : World) (hc : w.cell? ⟨g, 2, none⟩ = some (.slice none 0 0)) :
    Calls Tryd.prog 32 #[.pointer (some ⟨g, 0, none⟩)] w fun e w' => e = .returned (.bool false) ∧ w' = w := by
  go_enter Tryd.func32, Tryd.ntmps32
  go_wp2_with fail
  go_ret
  exact ⟨rfl, rfl⟩
set_option maxHeartbeats 4000000 in
theorem step_any (t : Tb) (dr : List Bool) (g : Nat) (st : Nat) (x : Int) (w : World) (h : LV w g t dr) (hm : May t) (hs : Sm t) (hst : st < t.ns.length) :
    Calls Tryd.prog 34 #[.pointer (some ⟨g, 0, none⟩), .int .i64 st, .int .i32 x] w fun e w' => e = .returned (.int .i64 (stp t st x)) ∧ Below w.heap.size w w' := by
  have hq := hm.stp (st := (st : Int)) (x := x) (by omega) (by omega)
  rw [hq]
  obtain ⟨rv, cv, nv, ev, dv, hk, hT, _⟩ := h
  have HT := Lib.hid (fun (W : World) (hb : Below w.heap.size w W) => hT.below hb)
  have HB := Lib.hid (bs_any t.rs rv x w hT.1 (Nat.le_trans hs.rs (by omega)) hm.up hm.low)
  have HK := Lib.hid (fun (W : World) (hb : Below w.heap.size w W) => show W.cell? ⟨g, 0, none⟩ = some rv ∧ W.cell? ⟨g, 1, none⟩ = some cv ∧ W.cell? ⟨g, 2, none⟩ = some nv from by
    have k := hk.below hb hk.lt
    exact ⟨by rw [k.cell]; rfl, by rw [k.cell]; rfl, by rw [k.cell]; rfl⟩)
  obtain ⟨k0, k1, k2⟩ := HK.out w (Below.refl _ _)
  obtain ⟨⟨ra, rc, rfl, _, _⟩, ⟨ca, cc, rfl, _, _⟩, ⟨na, nc, rfl, _, _⟩, _⟩ := hT
  have l1 := hs.rs
  have l2 := hs.cs
  have l3 := hs.ns
  have LR := Lib.hid hs.row
  have LC := Lib.hid hm.lc
  have LX := Lib.hid (fun i (hi : clF x 0 t.rs = some i) => clF_lt x t.rs 0 i hi)
  have LW := Lib.hid (hm.row st hst)
  clear hk hm hs hq
  obtain ⟨R, hR⟩ : ∃ R, t.rs.length = R := ⟨_, rfl⟩
  obtain ⟨C, hC⟩ : ∃ R, t.cs.length = R := ⟨_, rfl⟩
  obtain ⟨N, hN⟩ : ∃ R, t.ns.length = R := ⟨_, rfl⟩
  have LN := Lib.hid hN
  have LCC := Lib.hid hC
  have LRR := Lib.hid hR
  rw [hR] at HT HB HK k0 l1
  rw [hC] at HT HK k1 l2
  rw [hN] at HT HK k2 l3 hst
  cases hF : clF x 0 t.rs with
  | none =>
    rw [hF] at HB
    dsimp only
    clear hR hC hN hF
    go_enter Tryd.func34, Tryd.ntmps34
    go_wp2_with fail
    refine HB.out.mono ?_
    rintro e w2 ⟨⟨j, rfl⟩, b2⟩
    have B2 := Lib.hid b2
    simp only [bsT]
    clear b2
    go_wp2_with fail
    go_ret
    exact ⟨rfl, B2.out⟩
  | some i =>
    rw [hF] at HB
    dsimp only
    have hi := LX.out i hF
    have hi2 : i < C := by have := LC.out; omega
    obtain ⟨l, hl⟩ : ∃ l, t.ns[st]? = some l := ⟨_, List.getElem?_eq_getElem (by omega)⟩
    obtain ⟨y, hy⟩ : ∃ y, t.cs[i]? = some y := ⟨_, List.getElem?_eq_getElem (by omega)⟩
    have g1 : t.ns.getD st [] = l := by rw [List.getD_eq_getElem?_getD, hl]; rfl
    have g2 : t.cs.getD i 0 = y := by rw [List.getD_eq_getElem?_getD, hy]; rfl
    have hyl := LW.out y (List.mem_of_getElem? hy)
    rw [g1] at hyl
    rw [show ((st : Int)).toNat = st from rfl, g1, g2]
    obtain ⟨z, hz⟩ : ∃ z, l[y.toNat]? = some z := ⟨_, List.getElem?_eq_getElem (by omega)⟩
    rw [show l.getD y.toNat 0 = z from by rw [List.getD_eq_getElem?_getD, hz]; rfl]
    have G1 := Lib.hid hl
    have G2 := Lib.hid hy
    have G3 := Lib.hid hz
    have hll := LR.out l (List.mem_of_getElem? hl)
    obtain ⟨ll, hl2⟩ : ∃ q, l.length = q := ⟨_, rfl⟩
    have HL2 := Lib.hid hl2
    rw [hl2] at hyl hll
    obtain ⟨Y, hY⟩ : ∃ Y : Nat, y = (Y : Int) := ⟨y.toNat, by omega⟩
    subst hY
    have G3' := Lib.hid (show l[Y]? = some z from G3.out)
    clear hR hC hN hF hl hy g1 g2 hz hl2 G3 hi
    have s4 : (st : Int) < (N : Int) := by omega
    have s5 : (i : Int) < (C : Int) := by omega
    have s6 : (Y : Int) < (ll : Int) := by omega
    clear hyl
    go_enter Tryd.func34, Tryd.ntmps34
    go_wp2_with fail
    refine HB.out.mono ?_
    rintro e w2 ⟨⟨j, rfl⟩, b2⟩
    simp only [bsT]
    obtain ⟨_, zC, zN, _⟩ := HT.out _ b2
    obtain ⟨na', nc', en, _, zN⟩ := zN
    injection en with en1 en2 en3
    subst en1
    obtain ⟨ca', cc', ee, _, zC⟩ := zC
    injection ee with ee1 ee2 ee3
    subst ee1
    clear en2 en3 ee2 ee3
    obtain ⟨c0, c1, c2⟩ := HK.out _ b2
    obtain ⟨g1, o, qa, qc, rfl, y1, zl⟩ := zN st l G1.out
    obtain ⟨g2, o2, rfl, y2⟩ := zC i Y G2.out
    rw [HL2.out] at y1
    obtain ⟨qa', qc', ez, _, zl⟩ := zl
    injection ez with ez1 ez2 ez3
    subst ez1
    clear ez2 ez3
    obtain ⟨g3, o3, rfl, y3⟩ := zl Y z G3'.out
    have B2 := Lib.hid b2
    clear b2 zC zN zl k0 k1 k2
    go_wp2_with fail
    go_quiet (fail)
    go_wp2_with fail
    go_ret
    exact ⟨rfl, below_drewN B2.out _⟩
set_option maxHeartbeats 1000000 in
theorem stray_any (s : ByteArray) (k : Nat) (w : World) (hs : s.size ≤ 9223372036854775807) (hk : k < s.size) (hE : EnvL w) :
    Calls Tryd.prog 33 #[.string s, .int .i64 k, .int .i32 ((Lib.decodeL (s.data.toList.drop k)).1 : Nat)] w fun e w' => e = .returned (.bool (decide (Lib.decodeL (s.data.toList.drop k) = (65533, 1)))) ∧ Below w.heap.size w w' := by
  have HC := Lib.hid (DecodeL_in s k w hs hk hE)
  clear hE
  by_cases h1 : Lib.decodeL (s.data.toList.drop k) = (65533, 1)
  · rw [decide_eq_true h1, h1]
    rw [decT_bad h1] at HC
    clear h1
    go_enter Tryd.func33, Tryd.ntmps33
    go_wp2_with fail
    refine HC.out.mono ?_
    rintro e w2 ⟨rfl, b2⟩
    have B2 := Lib.hid b2
    clear b2
    go_wp2_with fail
    go_ret
    exact ⟨rfl, B2.out⟩
  · rw [decide_eq_false h1]
    rw [decT_ok h1] at HC
    clear h1
    obtain ⟨R, hR⟩ : ∃ R : Int, R = ((Lib.decodeL (s.data.toList.drop k)).1 : Int) := ⟨_, rfl⟩
    rw [← hR] at HC ⊢
    clear hR
    by_cases h2 : R = 65533
    · subst h2
      go_enter Tryd.func33, Tryd.ntmps33
      go_wp2_with fail
      refine HC.out.mono ?_
      rintro e w2 ⟨rfl, b2⟩
      have B2 := Lib.hid b2
      clear b2
      go_wp2_with fail
      go_ret
      exact ⟨rfl, B2.out⟩
    · have e1 : (R == 65533) = false := by rw [beq_eq_false_iff_ne]; exact h2
      have e2 : (R != 65533) = true := by simp [bne, e1]
      go_enter Tryd.func33, Tryd.ntmps33
      go_wp2_with fail
      go_ret
      exact ⟨rfl, Below.refl _ _⟩
end Go.Proofs.YtagbpkabfjnplaaDoor
