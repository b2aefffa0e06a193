/- The chapter's example: lives answers true. -/
import Derived.Test.YtmcpemohemeecaaDoorNuS
import Derived.Test.YtmcpemohemeecaaDoorNuO
import Derived.Test.YtmcpemohemeecaaDoorNuQ
import Derived.Test.YtmcpemohemeecaaDoorNuR
namespace Go.Proofs.YtmcpemohemeecaaDoor
open Go Go.RowKit Nu
set_option maxRecDepth 100000

def allocs (w : World) : List Obj → World
  | [] => w
  | o :: l => allocs (w.alloc o) l
theorem allocs_below : ∀ (l : List Obj) (w : World), Below w.heap.size w (allocs w l)
  | [], w => Below.refl _ _
  | o :: l, w => ((Below.refl _ w).alloc (Nat.le_refl _) o).trans ((allocs_below l (w.alloc o)).mono (by simp))
theorem allocs_bk : ∀ (l : List Obj) (w : World) (i : Nat) (cs : Array Value) (t : TypeId), l[i]? = some (.cells cs t (0, 0)) → Bk (allocs w l) (w.heap.size + i) t cs
  | [], _, _, _, _, h => by simp at h
  | o :: l, w, 0, cs, t, h => by
    injection h with h
    subst h
    have k := Bk.made w t cs
    exact k.below (allocs_below l _) k.lt
  | o :: l, w, i + 1, cs, t, h => by
    have := allocs_bk l (w.alloc o) i cs t (by simpa using h)
    rw [World.size_alloc, Nat.add_assoc, Nat.add_comm 1 i] at this
    exact this
def lfT (k : Int) (s : ByteArray) : Nd.T := .mk k s ⟨#[]⟩ [] []
def exA : Nd.T := .mk 0 ⟨#[]⟩ ⟨#[]⟩ [] [.mk 1 ⟨#[]⟩ ⟨#[]⟩ [] [.mk 2 ⟨#[]⟩ ⟨#[]⟩ [] [lfT 5 ⟨#[98]⟩], lfT 6 ⟨#[67]⟩], lfT 1 ⟨#[]⟩]
def exB : Nd.T := .mk 1 ⟨#[]⟩ ⟨#[]⟩ [] [lfT 5 ⟨#[97]⟩, lfT 6 ⟨#[68]⟩]
def exR : List Nu.Rl := [⟨⟨#[97]⟩, 0, exA, 0, 0, 0⟩, ⟨⟨#[98]⟩, 0, exB, 0, 0, 0⟩]
theorem fa : fnd exR ⟨#[97]⟩ = some 0 := by simp [fnd, fndF, exR, ByteArray.toList_eq]
theorem fb : fnd exR ⟨#[98]⟩ = some 1 := by simp [fnd, fndF, exR, ByteArray.toList_eq]
theorem fC : fnd exR ⟨#[67]⟩ = none := by simp [fnd, fndF, exR, ByteArray.toList_eq]
theorem fD : fnd exR ⟨#[68]⟩ = none := by simp [fnd, fndF, exR, ByteArray.toList_eq]
theorem fc : fnd exR ⟨#[99]⟩ = none := by simp [fnd, fndF, exR, ByteArray.toList_eq]
theorem s0 : sortAt exR 0 = 0 := rfl
theorem s1 : sortAt exR 1 = 0 := rfl
theorem thA (e : List Bool) : thr exR 0 e exA = true := by simp [thr, thrA, thrO, exA, lfT]
theorem thB (e : List Bool) : thr exR 0 e exB = false := by simp [thr, thrA, exB, lfT, nmd, fD]
theorem ex_p1 : pass exR 0 [false, false] false exR = ([true, false], true) := by
  show pass exR 0 [false, false] false [⟨⟨#[97]⟩, 0, exA, 0, 0, 0⟩, ⟨⟨#[98]⟩, 0, exB, 0, 0, 0⟩] = _
  simp [pass, thA, thB]
theorem ex_p2 : pass exR 0 [true, false] false exR = ([true, false], false) := by
  show pass exR 0 [true, false] false [⟨⟨#[97]⟩, 0, exA, 0, 0, 0⟩, ⟨⟨#[98]⟩, 0, exB, 0, 0, 0⟩] = _
  simp [pass, thB]
theorem ex_emp : emp exR = [true, false] := by
  show grow exR 3 [false, false] = _
  simp [grow, ex_p1, ex_p2]
theorem rcA : rch exR 0 [true, false] exA = [1] := by simp [rch, rchA, rchO, thr, exA, lfT, nmd, fb, fC, s1]
theorem rcB : rch exR 0 [true, false] exB = [0] := by simp [rch, rchA, thr, exB, lfT, nmd, fa, fD, s0]
theorem ex_stp : stp exR = [[1], [0]] := by
  unfold stp
  rw [ex_emp]
  show [rch exR 0 [true, false] exA, rch exR 0 [true, false] exB] = _
  rw [rcA, rcB]
theorem ex_rea : rea exR = [[true, true], [true, true]] := by
  unfold rea
  rw [ex_stp, show exR.length = 2 from rfl]
  simp [spr]
theorem leaf_at (k : Int) (hk : 0 ≤ k ∧ k < 256) (s : ByteArray) (w : World) (hs : s.size ≤ 140737488351232) : Nd.At w (lfT k s) (.agg #[.int .u8 k, .string s, .string ⟨#[]⟩, .slice none 0 0, .slice none 0 0]) := by
  unfold lfT Nd.At
  exact ⟨none, 0, none, 0, rfl, hk, hs, by simp [ByteArray.size], ⟨by simp, by simp⟩, ⟨by simp, by simp⟩, trivial, by unfold Nd.AtL; trivial⟩
theorem pair_at {k : Int} {t u : Nd.T} {w : World} {g : Nat} {tt : TypeId} {v0 v1 v2 v3 v4 u0 u1 u2 u3 u4 : Value} (hk : 0 ≤ k ∧ k < 256) (hb : Bk w g tt #[v0, v1, v2, v3, v4, u0, u1, u2, u3, u4]) (ht : Nd.At w t (.agg #[v0, v1, v2, v3, v4])) (hu : Nd.At w u (.agg #[u0, u1, u2, u3, u4])) :
    Nd.At w (.mk k ⟨#[]⟩ ⟨#[]⟩ [] [t, u]) (.agg #[.int .u8 k, .string ⟨#[]⟩, .string ⟨#[]⟩, .slice none 0 0, .slice (some ⟨g, 0, none⟩) 2 2]) := by
  unfold Nd.At
  refine ⟨none, 0, some ⟨g, 0, none⟩, 2, rfl, hk, by simp [ByteArray.size], by simp [ByteArray.size], ⟨by simp, by simp⟩, ⟨by simp, by simp⟩, trivial, ?_⟩
  unfold Nd.AtL
  refine ⟨g, 0, v0, v1, v2, v3, v4, rfl, hb.cell 0, hb.cell 1, hb.cell 2, hb.cell 3, hb.cell 4, ht, ?_⟩
  unfold Nd.AtL
  exact ⟨g, 5, u0, u1, u2, u3, u4, rfl, hb.cell 5, hb.cell 6, hb.cell 7, hb.cell 8, hb.cell 9, hu, by unfold Nd.AtL; trivial⟩
theorem sole_at {k : Int} {t : Nd.T} {w : World} {g : Nat} {tt : TypeId} {v0 v1 v2 v3 v4 : Value} (hk : 0 ≤ k ∧ k < 256) (hb : Bk w g tt #[v0, v1, v2, v3, v4]) (ht : Nd.At w t (.agg #[v0, v1, v2, v3, v4])) :
    Nd.At w (.mk k ⟨#[]⟩ ⟨#[]⟩ [] [t]) (.agg #[.int .u8 k, .string ⟨#[]⟩, .string ⟨#[]⟩, .slice none 0 0, .slice (some ⟨g, 0, none⟩) 1 1]) := by
  unfold Nd.At
  refine ⟨none, 0, some ⟨g, 0, none⟩, 1, rfl, hk, by simp [ByteArray.size], by simp [ByteArray.size], ⟨by simp, by simp⟩, ⟨by simp, by simp⟩, trivial, ?_⟩
  unfold Nd.AtL
  exact ⟨g, 0, v0, v1, v2, v3, v4, rfl, hb.cell 0, hb.cell 1, hb.cell 2, hb.cell 3, hb.cell 4, ht, by unfold Nd.AtL; trivial⟩
theorem ex_small : exR.length ≤ 1000 ∧ ∀ r ∈ exR, Nd.deep r.body ≤ 100000 ∧ Nd.count r.body ≤ 100000 := by
  refine ⟨by show 2 ≤ 1000; omega, fun r hr => ?_⟩
  simp only [exR, List.mem_cons, List.not_mem_nil, or_false] at hr
  rcases hr with rfl | rfl
  · simp [exA, lfT, Nd.deep, Nd.deepL, Nd.count, Nd.countL]
  · simp [exB, lfT, Nd.deep, Nd.deepL, Nd.count, Nd.countL]
/-- The example's cells, made from block n on. -/
def exO (n : Nat) : List Obj := [
  .cells #[.int .u8 5, .string ⟨#[98]⟩, .string ⟨#[]⟩, .slice none 0 0, .slice none 0 0] 34,
  .cells #[.int .u8 5, .string ⟨#[98]⟩, .string ⟨#[]⟩, .slice none 0 0, .slice none 0 0] 34,
  .cells #[.int .u8 2, .string ⟨#[]⟩, .string ⟨#[]⟩, .slice none 0 0, .slice (some ⟨n + 1, 0, none⟩) 1 1, .int .u8 6, .string ⟨#[67]⟩, .string ⟨#[]⟩, .slice none 0 0, .slice none 0 0] 34,
  .cells #[.int .u8 1, .string ⟨#[]⟩, .string ⟨#[]⟩, .slice none 0 0, .slice (some ⟨n + 1 + 1, 0, none⟩) 2 2, .int .u8 1, .string ⟨#[]⟩, .string ⟨#[]⟩, .slice none 0 0, .slice none 0 0] 34,
  .cells #[.int .u8 0, .string ⟨#[]⟩, .string ⟨#[]⟩, .slice none 0 0, .slice (some ⟨n + 1 + 1 + 1, 0, none⟩) 2 2] 34,
  .cells #[.int .u8 5, .string ⟨#[97]⟩, .string ⟨#[]⟩, .slice none 0 0, .slice none 0 0, .int .u8 6, .string ⟨#[68]⟩, .string ⟨#[]⟩, .slice none 0 0, .slice none 0 0] 34,
  .cells #[.int .u8 1, .string ⟨#[]⟩, .string ⟨#[]⟩, .slice none 0 0, .slice (some ⟨n + 1 + 1 + 1 + 1 + 1, 0, none⟩) 2 2] 34,
  .cells #[.string ⟨#[97]⟩, .int .u8 0, .int .u8 0, .string ⟨#[]⟩, .string ⟨#[]⟩, .slice none 0 0, .slice (some ⟨n + 1 + 1 + 1, 0, none⟩) 2 2, .int .i64 0, .int .i64 0, .int .i64 0,
    .string ⟨#[98]⟩, .int .u8 0, .int .u8 1, .string ⟨#[]⟩, .string ⟨#[]⟩, .slice none 0 0, .slice (some ⟨n + 1 + 1 + 1 + 1 + 1, 0, none⟩) 2 2, .int .i64 0, .int .i64 0, .int .i64 0] 38,
  .cells #[.string ⟨#[]⟩, .int .i64 0, .int .i64 0, .slice (some ⟨n + 1 + 1 + 1 + 1 + 1 + 1 + 1, 0, none⟩) 2 2] 26]
/-- The example, as its value. -/
def exV (n : Nat) : Value := .agg #[.string ⟨#[]⟩, .int .i64 0, .int .i64 0, .slice (some ⟨n + 1 + 1 + 1 + 1 + 1 + 1 + 1, 0, none⟩) 2 2]
theorem exGr (w : World) : GrV (allocs w (exO w.heap.size)) ⟨#[]⟩ 0 0 exR (exV w.heap.size) := by
  have b1 := allocs_bk (exO w.heap.size) w 1 _ _ rfl
  have b2 := allocs_bk (exO w.heap.size) w 2 _ _ rfl
  have b3 := allocs_bk (exO w.heap.size) w 3 _ _ rfl
  have b5 := allocs_bk (exO w.heap.size) w 5 _ _ rfl
  have b7 := allocs_bk (exO w.heap.size) w 7 _ _ rfl
  generalize allocs w (exO w.heap.size) = W at *
  generalize w.heap.size = n at *
  have tA : Nd.At W exA (.agg #[.int .u8 0, .string ⟨#[]⟩, .string ⟨#[]⟩, .slice none 0 0, .slice (some ⟨n + 3, 0, none⟩) 2 2]) :=
    pair_at (by omega) b3 (pair_at (by omega) b2 (sole_at (by omega) b1 (leaf_at 5 (by omega) ⟨#[98]⟩ W (by simp [ByteArray.size]))) (leaf_at 6 (by omega) ⟨#[67]⟩ W (by simp [ByteArray.size]))) (leaf_at 1 (by omega) ⟨#[]⟩ W (by simp [ByteArray.size]))
  have tB : Nd.At W exB (.agg #[.int .u8 1, .string ⟨#[]⟩, .string ⟨#[]⟩, .slice none 0 0, .slice (some ⟨n + 5, 0, none⟩) 2 2]) :=
    pair_at (by omega) b5 (leaf_at 5 (by omega) ⟨#[97]⟩ W (by simp [ByteArray.size])) (leaf_at 6 (by omega) ⟨#[68]⟩ W (by simp [ByteArray.size]))
  refine ⟨some ⟨n + 7, 0, none⟩, 2, rfl, by simp [ByteArray.size], ⟨Nat.le_refl 2, by show 2 ≤ 140737488351232; omega⟩, fun i r hr => ?_⟩
  match i, hr with
  | 0, hr =>
    injection hr with hr
    subst hr
    exact ⟨n + 7, 0, rfl, _, _, _, _, _, b7.cell 0, b7.cell 1, b7.cell 2, b7.cell 3, b7.cell 4, b7.cell 5, b7.cell 6, b7.cell 7, b7.cell 8, b7.cell 9, tA, by decide, by simp [ByteArray.size]⟩
  | 1, hr =>
    injection hr with hr
    subst hr
    exact ⟨n + 7, 0, rfl, _, _, _, _, _, b7.cell 10, b7.cell 11, b7.cell 12, b7.cell 13, b7.cell 14, b7.cell 15, b7.cell 16, b7.cell 17, b7.cell 18, b7.cell 19, tB, by decide, by simp [ByteArray.size]⟩
  | i + 2, hr => cases hr
end Go.Proofs.YtmcpemohemeecaaDoor
