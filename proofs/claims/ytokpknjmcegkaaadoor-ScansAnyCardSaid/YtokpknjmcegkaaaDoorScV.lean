/- The contract of like, where the two are alike. -/
import Derived.Test.YtokpknjmcegkaaaDoorScQ
import Derived.Deep.QuietTactic
import Derived.BigQuiet
namespace Go.Proofs.YtokpknjmcegkaaaDoor
open Go Go.RowKit Ru
set_option maxRecDepth 100000

/-- v reads as the words ds, but for their places. -/
def Lk (w : World) (v : Value) (ds : List Sc.W) : Prop := ∃ a cap, v = .slice a ds.length cap ∧
  ∀ (i : Nat) d, ds[i]? = some d → ∃ g o sv, a = some ⟨g, o, none⟩ ∧ w.cell? ⟨g, o + i * 6, none⟩ = some (.int .u8 d.kind) ∧ w.cell? ⟨g, o + i * 6 + 1, none⟩ = some (.string ⟨d.text.toArray⟩) ∧ w.cell? ⟨g, o + i * 6 + 2, none⟩ = some sv ∧ ReadSet w sv d.set
/-- Two words are alike, but for their places. -/
def Alike (d e : Sc.W) : Prop := d.kind = e.kind ∧ d.text = e.text ∧ d.set = e.set
theorem ReadSet.drewN {w : World} {v : Value} {st : List (Nat × Nat)} (h : ReadSet w v st) (n : Nat) : ReadSet (w.drewN n) v st := h
/-- A quiet call that draws, in a world that draws have already turned. -/
theorem quiet_at {P : Program} {f : FuncId} {args : Array Value} {w : World} {a n : Nat} {v : Value}
    (h : Calls P f args (w.drewN (a + n)) fun e w' => e = .returned v ∧ ∃ k, w' = (w.drewN (a + n)).drewN k) :
    Calls P f args (w.drewN (a + n)) fun e w'' => e = .returned v ∧ ∃ m, w'' = w.drewN (a + m) :=
  h.mono fun _ _ ⟨he, k, hk⟩ => ⟨he, n + k, by rw [hk, World.drewN_drewN, Nat.add_assoc]⟩
set_option maxHeartbeats 2000000 in
theorem like_yes (ds es : List Sc.W) (u v : Value) (w : World) (hl : ds.length = es.length) (hN : ds.length ≤ 1000000) (hst : ∀ (i : Nat) d, ds[i]? = some d → d.set.length ≤ 1000000)
    (hal : ∀ (i : Nat) d e, ds[i]? = some d → es[i]? = some e → Alike d e) (hu : Lk w u ds) (hv : Lk w v es) :
    Calls Tryd.prog 12 #[u, v] w fun e w' => e = .returned (.bool true) ∧ ∃ n, w' = w.drewN n := by
  obtain ⟨a, c, rfl, ha⟩ := hu
  obtain ⟨b, c', rfl, hb⟩ := hv
  rw [← hl]
  obtain ⟨N, hNe⟩ : ∃ N, ds.length = N := ⟨_, rfl⟩
  have HN := Lib.hid hNe
  have HL := Lib.hid hl
  have HA := Lib.hid ha
  have HB := Lib.hid hb
  have HST := Lib.hid hst
  have HAL := Lib.hid hal
  rw [hNe] at hN ⊢
  clear hNe hl ha hb hst hal
  go_enter Tryd.func12, Tryd.ntmps12
  go_wp2_with fail
  go_loopw [5] (fun i wr => ∃ k n : Nat, k ≤ N ∧ i = .int .i64 k ∧ wr = w.drewN n) (fun i _ => N - (intOf i).toNat)
  case atStart => exact ⟨0, 0, Nat.zero_le _, rfl, rfl⟩
  case round =>
    obtain ⟨k, n, hk, rfl, rfl⟩ := hrel
    by_cases hlt : k < N
    · obtain ⟨d, hd⟩ : ∃ d, ds[k]? = some d := ⟨ds[k]'(by have := HN.out; omega), List.getElem?_eq_getElem _⟩
      obtain ⟨e, he⟩ : ∃ e, es[k]? = some e := ⟨es[k]'(by have := HN.out; have := HL.out; omega), List.getElem?_eq_getElem _⟩
      obtain ⟨g1, o1, s1, rfl, x0, x1, x2, x3⟩ := HA.out k d hd
      obtain ⟨g2, o2, s2, rfl, y0, y1, y2, y3⟩ := HB.out k e he
      obtain ⟨z0, z1, z2⟩ := HAL.out k d e hd he
      have zs := HST.out k d hd
      rw [← z0] at y0
      rw [← z1] at y1
      rw [← z2] at y3
      obtain ⟨T, hT⟩ : ∃ T : ByteArray, (⟨d.text.toArray⟩ : ByteArray) = T := ⟨_, rfl⟩
      rw [hT] at x1 y1
      have C := Lib.hid (fun m => SameSet_yes d.set s1 s2 (w.drewN m) zs (x3.drewN m) (y3.drewN m))
      have d0 : decide (k < N) = true := by rw [decide_eq_true_iff]; exact hlt
      have a0 : (k : Int) < (N : Int) := by omega
      clear hd he z0 z1 z2 x3 y3 zs hT
      go_wp2_with fail
      go_quiet ((go_at_call 15; exact quiet_at (C.out _)))
      go_wp2_with fail
      exact ⟨⟨k + 1, n + nq, by omega, by go_num, rfl⟩, by simp [intOf]; omega⟩
    · have d0 : decide (k < N) = false := by rw [decide_eq_false_iff_not]; exact hlt
      go_wp2_with fail
      go_ret
      exact ⟨rfl, n, rfl⟩
end Go.Proofs.YtokpknjmcegkaaaDoor
