/- What is read at the type of a list of ranges is one, of a rune's numbers. -/
import Derived.Test.YtagbpkabfjnplaaDoorRnA
import Derived.Test.YtagbpkabfjnplaaDoorChecked
import Derived.ProofKit
import Derived.OpenShut
import Derived.ChangeSlices
import Derived.ChangeArms
namespace Go.Proofs.YtagbpkabfjnplaaDoor
open Go Go.RowKit Rn

theorem cells_spotRn {w : World} {a : Addr} {n : Nat} {cs : List Value} (h : w.cells? 0 a n = some cs) (hn : 0 < n) : ∃ b o, a = ⟨b, o, none⟩ := by
  obtain ⟨_, hl, hc⟩ := World.cells?_some h
  obtain ⟨b, o, s⟩ := a
  have h0 := hc 0 hn
  rw [List.getElem?_eq_getElem (by omega)] at h0
  have hs : s = none := by simpa [Addr.add] using World.cell?_spot h0
  subst hs
  exact ⟨b, o, rfl⟩
theorem cells_plainRn {w : World} {b o i n : Nat} {cs : List Value} (h : w.cells? 0 ((⟨b, o, none⟩ : Addr).add i) n = some cs) : cs.length = n ∧ ∀ j, j < n → w.cell? ⟨b, o + i + j, none⟩ = cs[j]? := by
  obtain ⟨_, hl, hc⟩ := World.cells?_some h
  refine ⟨hl, fun j hj => ?_⟩
  have := hc j hj
  rw [Go.WideShapes.add_plain, Go.WideShapes.add_plain] at this
  exact this
theorem two_cellsRn {α : Type} {l : List α} (h : l.length = 2) : ∃ a b, l = [a, b] := by
  match l, h with
  | [a, b], _ => exact ⟨a, b, rfl⟩
theorem RgAt_ofRn {w : World} : ∀ (len b o : Nat), (∀ i, i < len → ∃ p : Int × Int, (w.cell? ⟨b, o + i * 2, none⟩ = some (.int .i32 p.1) ∧ w.cell? ⟨b, o + i * 2 + 1, none⟩ = some (.int .i32 p.2)) ∧ (-2147483648 ≤ p.1 ∧ p.1 ≤ 2147483647) ∧ (-2147483648 ≤ p.2 ∧ p.2 ≤ 2147483647)) →
    ∃ st : List (Int × Int), st.length = len ∧ Nd.RgAt w st (some ⟨b, o, none⟩) ∧ I32 st
  | 0, _, _, _ => ⟨[], rfl, trivial, fun _ h => by simp at h⟩
  | len + 1, b, o, h => by
    obtain ⟨p, ⟨h0, h1⟩, h2⟩ := h 0 (by omega)
    obtain ⟨st, hl, hr, hi⟩ := RgAt_ofRn len b (o + 2) fun i hi => by
      obtain ⟨q, ⟨g0, g1⟩, g2⟩ := h (i + 1) (by omega)
      exact ⟨q, ⟨by rw [show o + 2 + i * 2 = o + (i + 1) * 2 by omega]; exact g0, by rw [show o + 2 + i * 2 + 1 = o + (i + 1) * 2 + 1 by omega]; exact g1⟩, g2⟩
    refine ⟨p :: st, by simp [hl], ⟨b, o, rfl, by simpa using h0, by simpa using h1, hr⟩, fun r hr => ?_⟩
    rcases List.mem_cons.1 hr with rfl | hr
    · exact h2
    · exact hi r hr
section
variable {H : Type} {enc : TypeId × Value → H} {W : World}
theorem bytes_rg : Tryd.prog.bytesOf 63 = 8 := by kernel_rfl
theorem cells_rg : Tryd.prog.cellsOf 63 = 2 := by kernel_rfl
theorem cells_i32Rn : Tryd.prog.cellsOf 21 = 1 := by kernel_rfl
theorem cells_rgs : Tryd.prog.cellsOf 22 = 1 := by kernel_rfl
/-- What is read as ranges. -/
theorem open_rgs {fuel : Nat} {v : Value} {d : DataW H} {p : List MemPlace} (h : DataW.trod enc Tryd.prog W 0 (fun _ => true) true fuel 22 [v] = some (d, p)) (hw : ∀ x ∈ d.weights Tryd.prog 22, x ≤ reachBytes) :
    ∃ (st : List (Int × Int)), RL W v st ∧ I32 st ∧ st.length ≤ 140737488351232 := by
  rcases DataW.trod_slice Tryd.underlying22 h with ⟨hv, _⟩ | ⟨a, len, cap, elems, rest, n, _, hv, hx, _, hlc, _, hel, hcell, hrest, _⟩
  · simp only [List.cons.injEq, and_true] at hv
    subst hv
    exact ⟨[], RL.nil W, fun _ h => by simp at h, by simp⟩
  · simp only [List.cons.injEq, and_true] at hv
    subst hv
    simp only [Prod.mk.injEq] at hx
    obtain ⟨rfl, _⟩ := hx
    have hlw : len ≤ 140737488351232 := by
      have := hw ((elems.length + rest.length) * 8) (by simp [DataW.weights, Tryd.underlying22, bytes_rg])
      unfold reachBytes at this
      omega
    by_cases h0 : len = 0
    · subst h0
      exact ⟨[], ⟨some a, cap, rfl, by simp, trivial⟩, fun _ h => by simp at h, by simp⟩
    obtain ⟨b, o, rfl⟩ : ∃ b o, a = ⟨b, o, none⟩ := by
      have key := hcell 0 (by omega)
      rw [List.getElem?_eq_getElem (by omega)] at key
      obtain ⟨cs', h1, _⟩ := Option.bind_eq_some_iff.1 key
      rw [Nat.zero_mul] at h1
      exact cells_spotRn (a := a) (by simpa [Addr.add] using h1) (by rw [cells_rg]; omega)
    have hone : ∀ i, i < len → ∃ q : Int × Int, (W.cell? ⟨b, o + i * 2, none⟩ = some (.int .i32 q.1) ∧ W.cell? ⟨b, o + i * 2 + 1, none⟩ = some (.int .i32 q.2)) ∧ (-2147483648 ≤ q.1 ∧ q.1 ≤ 2147483647) ∧ (-2147483648 ≤ q.2 ∧ q.2 ≤ 2147483647) := by
      intro i hi
      have key := hcell i hi
      rw [List.getElem?_eq_getElem (by omega), cells_rg] at key
      obtain ⟨cs', h1, h2⟩ := Option.bind_eq_some_iff.1 key
      obtain ⟨hl2, hc⟩ := cells_plainRn h1
      obtain ⟨xs, m, _, _, _, hxl, hf⟩ := DataW.trod_struct Tryd.underlying63 h2
      obtain ⟨c0, c1, rfl⟩ := two_cellsRn hl2
      obtain ⟨y0, y1, rfl⟩ := two_cellsRn hxl
      have f0 := hf 0 _ rfl
      have f1 := hf 1 _ rfl
      simp [cells_i32Rn] at f0 f1
      obtain ⟨z0, e0, _, w0⟩ := DataW.trod_int (x := y0) Tryd.underlying21 f0
      obtain ⟨z1, e1, _, w1⟩ := DataW.trod_int (x := y1) Tryd.underlying21 f1
      simp only [List.cons.injEq, and_true] at e0 e1
      subst e0
      subst e1
      exact ⟨(z0, z1), ⟨hc 0 (by omega), hc 1 (by omega)⟩, bounds_i32 w0, bounds_i32 w1⟩
    obtain ⟨st, hl, hr, hi⟩ := RgAt_ofRn (w := W) len b o hone
    subst hl
    exact ⟨st, ⟨some ⟨b, o, none⟩, cap, rfl, hlc, hr⟩, hi, hlw⟩
end
end Go.Proofs.YtagbpkabfjnplaaDoor
