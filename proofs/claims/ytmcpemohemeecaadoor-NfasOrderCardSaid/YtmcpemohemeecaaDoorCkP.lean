/- What the checker holds of the rules; the contract of fits. -/
import Derived.Test.YtmcpemohemeecaaDoorCkT
import Derived.Test.YtmcpemohemeecaaDoorRgB
import Derived.Test.YtmcpemohemeecaaDoorNuQ
import Derived.Test.YtmcpemohemeecaaDoorNuO
import Derived.Deep.RegionHeld3
import Derived.Stop.RegionWithIn
namespace Go.Proofs.YtmcpemohemeecaaDoor
open Go Go.RowKit Go.Shelf Ck Nu
attribute [local go_sem] Oper.semAt_some
set_option maxRecDepth 100000

/-- What the checker holds of the rules. -/
structure CkS (w : World) (cv : CkV) (rs : List Rl) : Prop where
  gr : GrV w cv.nm cv.o1 cv.o2 rs (.agg #[.string cv.nm, .int .i64 cv.o1, .int .i64 cv.o2, .slice cv.ra cv.rn cv.rc])
  em : ∃ eb, cv.em = .slice (some ⟨eb, 0, none⟩) rs.length rs.length ∧ Bk w eb 4 (bools (emp rs))
  re : ∃ rr, cv.re = .slice (some ⟨rr, 0, none⟩) rs.length rs.length ∧ Rea w rr rs.length (rea rs) rs.length
  wi : ∃ rr, cv.wi = .slice (some ⟨rr, 0, none⟩) rs.length rs.length ∧ Rea w rr rs.length (rea (nmR rs)) rs.length
set_option maxHeartbeats 400000 in
theorem fits_any (k s t : Int) (w : World) : Calls Tryd.prog 72 #[.int .u8 k, .int .u8 s, .int .u8 t] w fun e w' => e = .returned (.bool (Ck.fits k s t)) ∧ Below w.heap.size w w' := by
  unfold Ck.fits
  obtain ⟨b5, d5⟩ : ∃ b, decide (k = 5) = b := ⟨_, rfl⟩
  obtain ⟨b0, d0⟩ : ∃ b, decide (s = 0) = b := ⟨_, rfl⟩
  obtain ⟨b1, d1⟩ : ∃ b, decide (t = 0) = b := ⟨_, rfl⟩
  obtain ⟨b2, d2⟩ : ∃ b, decide (t = 1) = b := ⟨_, rfl⟩
  obtain ⟨b3, d3⟩ : ∃ b, decide (t = 2) = b := ⟨_, rfl⟩
  have q5 : (k == 5) = b5 := by rw [← d5]; rfl
  have q0 : (s == 0) = b0 := by rw [← d0]; rfl
  have q1 : (t == 0) = b1 := by rw [← d1]; rfl
  have q2 : (t == 1) = b2 := by rw [← d2]; rfl
  have q3 : (t == 2) = b3 := by rw [← d3]; rfl
  have e : (if k = 5 then decide (s = 0 ∧ t = 0) else if s = 0 then decide (t = 1) else decide (t = 2)) = (if b5 = true then (b0 && b1) else if b0 = true then b2 else b3) := by
    subst d5 d0 d1 d2 d3
    simp
  rw [e]
  clear e
  cases b5 <;> cases b0 <;> cases b1
  all_goals
    go_enter Tryd.func72, Tryd.ntmps72
    go_wp2_with fail
    all_goals (try go_ret)
    all_goals exact ⟨by simp, Below.refl _ _⟩
theorem noneP_snoc (rs : List Rl) (i : Nat) (l : List Nd.T) (n : Nd.T) : noneP rs i (l ++ [n]) = noneP rs i l ++ (if fnd rs n.name = none then [⟨2, i, n.name⟩] else []) := by
  unfold noneP
  rw [List.filterMap_append]
  congr 1
  by_cases h : fnd rs n.name = none <;> simp [h]
theorem sortP_snoc (rs : List Rl) (s : Int) (i : Nat) (l : List Nd.T) (n : Nd.T) : sortP rs s i (l ++ [n]) = sortP rs s i l ++ (if sortB rs s n then [⟨3, i, n.name⟩] else []) := by
  unfold sortP
  rw [List.filterMap_append]
  congr 1
  by_cases h : sortB rs s n <;> simp [h]
theorem GrV2_below {w w' : World} {nm : ByteArray} {o1 o2 : Int} {rs : List Rl} {v : Value} (h : GrV w nm o1 o2 rs v) (hb : Below w.heap.size w w') : GrV w' nm o1 o2 rs v := by
  obtain ⟨ra, rc, h1, h2, h3, h4⟩ := h
  exact ⟨ra, rc, h1, h2, h3, h4.below hb⟩
end Go.Proofs.YtmcpemohemeecaaDoor
