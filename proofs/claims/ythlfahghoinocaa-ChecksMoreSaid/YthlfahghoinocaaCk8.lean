/- The chapter's examples: lives answers true. -/
import Derived.Test.YthlfahghoinocaaCk7
import Derived.Test.YthlfahghoinocaaNuX
namespace Go.Proofs.Ythlfahghoinocaa
open Go Go.RowKit Go.Shelf Ck Nu
attribute [local go_sem] Oper.semAt_some
set_option maxRecDepth 100000

namespace Ck
def l1T : Nd.T := .mk 1 ⟨#[]⟩ ⟨#[]⟩ [] [.mk 2 ⟨#[]⟩ ⟨#[]⟩ [] [lfT 5 ⟨#[98]⟩], lfT 5 ⟨#[97]⟩]
def l1R : List Rl := [⟨⟨#[97]⟩, 0, l1T, 0, 0, 0⟩]
def l2T : Nd.T := .mk 3 ⟨#[]⟩ ⟨#[]⟩ [] [.mk 8 ⟨#[]⟩ ⟨#[120]⟩ [] []]
def l2R : List Rl := [⟨⟨#[65]⟩, 1, l2T, 0, 0, 0⟩]
theorem l1a : fnd l1R ⟨#[97]⟩ = some 0 := by simp [fnd, fndF, l1R, ByteArray.toList_eq]
theorem l1b : fnd l1R ⟨#[98]⟩ = none := by simp [fnd, fndF, l1R, ByteArray.toList_eq]
theorem l1s : sortAt l1R 0 = 0 := rfl
theorem l1nam : nam l1T = [lfT 5 ⟨#[98]⟩, lfT 5 ⟨#[97]⟩] := by simp [nam, namL, l1T, lfT]
theorem emp_one (r : Rl) : emp [r] = [thr [r] r.sort [false] r.body] := by
  show grow [r] 2 [false] = _
  by_cases hb : thr [r] r.sort [false] r.body = true
  · rw [hb]
    simp [grow, pass, hb]
  · simp [grow, pass, hb]
theorem l1thr (e : List Bool) : thr l1R 0 e l1T = (thr l1R 0 e (lfT 5 ⟨#[97]⟩)) := by simp [thr, thrA, l1T, lfT]
theorem l1emp : emp l1R = [false] := by
  rw [show emp l1R = [thr l1R 0 [false] l1T] from emp_one _, l1thr]
  simp [thr, lfT, nmd, l1a, l1s]
theorem l1rch : rch l1R 0 [false] l1T = [0] := by simp [rch, rchA, rchO, thr, l1T, lfT, nmd, l1a, l1b, l1s]
theorem l1stp : stp l1R = [[0]] := by
  unfold stp
  rw [l1emp]
  show [rch l1R 0 [false] l1T] = _
  rw [l1rch]
theorem l1rea : reaAt l1R 0 0 = true := by
  unfold reaAt rea
  rw [l1stp]
  simp [l1R, spr]
theorem nm_fnd (rs : List Rl) (n : ByteArray) : fnd (nmR rs) n = fnd rs n := by
  have key : ∀ (l : List Rl) (k : Nat), fndF n k (l.map fun r => { r with body := allT r.body }) = fndF n k l := by
    intro l
    induction l with
    | nil => intro k; rfl
    | cons r l ih => intro k; simp only [List.map_cons, fndF, ih]
  exact key rs 0
theorem l1nrea : reaAt (nmR l1R) 0 0 = false := by
  have hs : sortAt (nmR l1R) 0 = 0 := rfl
  have h6 : ∀ n : ByteArray, nmd (nmR l1R) 0 6 n = none := fun n => by
    unfold nmd
    cases h : fnd (nmR l1R) n with
    | none => rfl
    | some i => simp
  refine rea_none (nmR l1R) (by simp [nmR, l1R]) ?_ 0
  unfold stp
  show [rch (nmR l1R) 0 (emp (nmR l1R)) (allT l1T)].getD 0 [] = []
  simp only [List.getD_cons_zero]
  unfold allT
  rw [l1nam]
  simp [rch, rchO, lfT, h6, Nd.T.name]
theorem l1lp (e : Nd.T → Bool) : lpN e l1T = 0 := by simp [lpN, lpNL, l1T, lfT, isLoop]
theorem l1chk : chk l1R = [⟨2, 0, ⟨#[98]⟩⟩, ⟨4, 0, ⟨#[97]⟩⟩] := by
  unfold chk
  have h1 : Ck.start l1R = some 0 := by simp [Ck.start, l1R]
  rw [h1]
  show rulesF l1R 0 [⟨⟨#[97]⟩, 0, l1T, 0, 0, 0⟩] ++ _ = _
  simp only [rulesF, rulP, l1nam, l1a, l1rea, l1nrea, l1lp]
  simp [noneP, sortP, sortB, lfT, l1a, l1b, l1s, fits, Nd.T.name, Nd.T.kind]
theorem l2nam : nam l2T = [] := by simp [nam, namL, l2T]
theorem l2emp : emp l2R = [true] := by
  rw [show emp l2R = [thr l2R 1 [false] l2T] from emp_one _]
  simp [thr, l2T]
theorem l2a : fnd l2R ⟨#[65]⟩ = some 0 := by simp [fnd, fndF, l2R, ByteArray.toList_eq]
theorem l2nrea : reaAt (nmR l2R) 0 0 = false := by
  refine rea_none (nmR l2R) (by simp [nmR, l2R]) ?_ 0
  unfold stp
  show [rch (nmR l2R) 1 (emp (nmR l2R)) (allT l2T)].getD 0 [] = []
  simp only [List.getD_cons_zero]
  unfold allT
  rw [l2nam]
  simp [rch, rchO]
theorem l2lp : lpN (shE l2R ⟨⟨#[65]⟩, 1, l2T, 0, 0, 0⟩) l2T = 0 := by
  have : ∀ r s b, shE l2R r (.mk 8 s ⟨#[120]⟩ [] b) = false := fun r s b => by
    unfold shE
    simp [thr, ByteArray.toList_eq]
  simp [lpN, lpNL, l2T, isLoop, lpT, lpL, this]
theorem l2chk : chk l2R = [⟨7, 0, ⟨#[65]⟩⟩, ⟨8, -1, ⟨#[]⟩⟩] := by
  unfold chk
  have h1 : Ck.start l2R = none := by simp [Ck.start, l2R]
  rw [h1]
  show rulesF l2R 0 [⟨⟨#[65]⟩, 1, l2T, 0, 0, 0⟩] ++ _ = _
  simp only [rulesF, rulP, l2nam, l2a, l2nrea, l2lp, l2emp]
  simp [noneP, sortP]
end Ck
theorem one_gr {W : World} {g : Nat} {n : ByteArray} {s : Int} {t : Nd.T} {v0 v1 v2 v3 v4 : Value} (hk : Bk W g 44 #[.string n, .int .u8 s, v0, v1, v2, v3, v4, .int .i64 0, .int .i64 0, .int .i64 0]) (hA : Nd.At W t (.agg #[v0, v1, v2, v3, v4])) (hs : 0 ≤ s ∧ s < 256) (hn : n.size ≤ 140737488351232) :
    GrV W ⟨#[]⟩ 0 0 [⟨n, s, t, 0, 0, 0⟩] (.agg #[.string ⟨#[]⟩, .int .i64 0, .int .i64 0, .slice (some ⟨g, 0, none⟩) 1 1]) := by
  refine ⟨some ⟨g, 0, none⟩, 1, rfl, by simp [ByteArray.size], ⟨Nat.le_refl 1, by show 1 ≤ 140737488351232; omega⟩, fun i r hr => ?_⟩
  match i, hr with
  | 0, hr =>
    injection hr with hr
    subst hr
    exact ⟨g, 0, rfl, _, _, _, _, _, hk.cell 0, hk.cell 1, hk.cell 2, hk.cell 3, hk.cell 4, hk.cell 5, hk.cell 6, hk.cell 7, hk.cell 8, hk.cell 9, hA, hs, hn⟩
  | i + 1, hr => cases hr
def l1O (n : Nat) : List Obj := [
  .cells #[.int .u8 5, .string ⟨#[98]⟩, .string ⟨#[]⟩, .slice none 0 0, .slice none 0 0] 40,
  .cells #[.int .u8 2, .string ⟨#[]⟩, .string ⟨#[]⟩, .slice none 0 0, .slice (some ⟨n, 0, none⟩) 1 1, .int .u8 5, .string ⟨#[97]⟩, .string ⟨#[]⟩, .slice none 0 0, .slice none 0 0] 40,
  .cells #[.int .u8 1, .string ⟨#[]⟩, .string ⟨#[]⟩, .slice none 0 0, .slice (some ⟨n + 1, 0, none⟩) 2 2] 40,
  .cells #[.string ⟨#[97]⟩, .int .u8 0, .int .u8 1, .string ⟨#[]⟩, .string ⟨#[]⟩, .slice none 0 0, .slice (some ⟨n + 1, 0, none⟩) 2 2, .int .i64 0, .int .i64 0, .int .i64 0] 44]
def l2O (n : Nat) : List Obj := [
  .cells #[.int .u8 8, .string ⟨#[]⟩, .string ⟨#[120]⟩, .slice none 0 0, .slice none 0 0] 40,
  .cells #[.int .u8 3, .string ⟨#[]⟩, .string ⟨#[]⟩, .slice none 0 0, .slice (some ⟨n, 0, none⟩) 1 1] 40,
  .cells #[.string ⟨#[65]⟩, .int .u8 1, .int .u8 3, .string ⟨#[]⟩, .string ⟨#[]⟩, .slice none 0 0, .slice (some ⟨n, 0, none⟩) 1 1, .int .i64 0, .int .i64 0, .int .i64 0] 44]
theorem l1Gr (w : World) : GrV (allocs w (l1O w.heap.size)) ⟨#[]⟩ 0 0 Ck.l1R (.agg #[.string ⟨#[]⟩, .int .i64 0, .int .i64 0, .slice (some ⟨w.heap.size + 1 + 1 + 1, 0, none⟩) 1 1]) := by
  have b0 := allocs_bk (l1O w.heap.size) w 0 _ _ rfl
  have b1 := allocs_bk (l1O w.heap.size) w 1 _ _ rfl
  have b3 := allocs_bk (l1O w.heap.size) w 3 _ _ rfl
  exact one_gr b3 (pair_at (by omega) b1 (sole_at (by omega) b0 (leaf_at 5 (by omega) ⟨#[98]⟩ _ (by simp [ByteArray.size]))) (leaf_at 5 (by omega) ⟨#[97]⟩ _ (by simp [ByteArray.size]))) (by omega) (by simp [ByteArray.size])
theorem l2Gr (w : World) : GrV (allocs w (l2O w.heap.size)) ⟨#[]⟩ 0 0 Ck.l2R (.agg #[.string ⟨#[]⟩, .int .i64 0, .int .i64 0, .slice (some ⟨w.heap.size + 1 + 1, 0, none⟩) 1 1]) := by
  have b0 := allocs_bk (l2O w.heap.size) w 0 _ _ rfl
  have b2 := allocs_bk (l2O w.heap.size) w 2 _ _ rfl
  refine one_gr b2 (sole_at (by omega) b0 ?_) (by omega) (by simp [ByteArray.size])
  unfold Nd.At
  exact ⟨none, 0, none, 0, rfl, by omega, by simp [ByteArray.size], by simp [ByteArray.size], ⟨by simp, by simp⟩, ⟨by simp, by simp⟩, trivial, by unfold Nd.AtL; trivial⟩
theorem l1_small : Ck.l1R.length ≤ 999 ∧ ∀ r ∈ Ck.l1R, Nd.deep r.body ≤ 100000 ∧ Nd.count r.body ≤ 90000 := by
  refine ⟨by show 1 ≤ 999; omega, fun r hr => ?_⟩
  simp only [Ck.l1R, List.mem_cons, List.not_mem_nil, or_false] at hr
  subst hr
  simp [Ck.l1T, lfT, Nd.deep, Nd.deepL, Nd.count, Nd.countL]
theorem l2_small : Ck.l2R.length ≤ 999 ∧ ∀ r ∈ Ck.l2R, Nd.deep r.body ≤ 100000 ∧ Nd.count r.body ≤ 90000 := by
  refine ⟨by show 1 ≤ 999; omega, fun r hr => ?_⟩
  simp only [Ck.l2R, List.mem_cons, List.not_mem_nil, or_false] at hr
  subst hr
  simp [Ck.l2T, Nd.deep, Nd.deepL, Nd.count, Nd.countL]
theorem rules_le (rs : List Rl) {n : Nat} (h : (chk rs).length = n) : (rulesF rs 0 rs).length ≤ n := by unfold chk at h; rw [List.length_append] at h; omega
set_option maxHeartbeats 4000000 in
theorem lives06_true (w : World) : Calls Try.prog 7 #[] w fun e w' => e = .returned (.bool true) ∧ Below w.heap.size w w' := by
  have H1 := Lib.hid (show Calls Try.prog 13 #[.agg #[.string ⟨#[]⟩, .int .i64 0, .int .i64 0, .slice (some ⟨w.heap.size + 1 + 1 + 1, 0, none⟩) 1 1]] (allocs w (l1O w.heap.size)) fun e w' => (∃ b, e = .returned (.slice (some ⟨b, 0, none⟩) 2 2) ∧ (w'.cell? ⟨b, 0, none⟩ = some (.int .u8 2) ∧ w'.cell? ⟨b, 1, none⟩ = some (.int .i64 0) ∧ w'.cell? ⟨b, 2, none⟩ = some (.string ⟨#[98]⟩) ∧ w'.cell? ⟨b, 3, none⟩ = some (.int .u8 4) ∧ w'.cell? ⟨b, 4, none⟩ = some (.int .i64 0) ∧ w'.cell? ⟨b, 5, none⟩ = some (.string ⟨#[97]⟩))) ∧ Below w.heap.size w w' from by
    refine (Check_any _ _ _ Ck.l1R _ _ (l1Gr w) l1_small (by have := rules_le Ck.l1R (n := 2) (by rw [l1chk]; rfl); omega)).mono ?_
    rintro e w' ⟨⟨pv, rfl, a, rfl, hP⟩, hb⟩
    rw [l1chk] at hP ⊢
    obtain ⟨b, rfl, c0⟩ := hP 0 _ rfl
    refine ⟨⟨b, rfl, c0, ?_, ?_, ?_, ?_, ?_⟩, (allocs_below _ w).trans (hb.mono (allocs_below _ w).size)⟩
    · obtain ⟨b', e, c⟩ := hP 1 _ rfl; cases e; exact c
    · obtain ⟨b', e, c⟩ := hP 2 _ rfl; cases e; exact c
    · obtain ⟨b', e, c⟩ := hP 3 _ rfl; cases e; exact c
    · obtain ⟨b', e, c⟩ := hP 4 _ rfl; cases e; exact c
    · obtain ⟨b', e, c⟩ := hP 5 _ rfl; cases e; exact c)
  have H2 := Lib.hid (fun X : World => show Calls Try.prog 13 #[.agg #[.string ⟨#[]⟩, .int .i64 0, .int .i64 0, .slice (some ⟨X.heap.size + 1 + 1, 0, none⟩) 1 1]] (allocs X (l2O X.heap.size)) fun e w' => (∃ b, e = .returned (.slice (some ⟨b, 0, none⟩) 2 2) ∧ (w'.cell? ⟨b, 0, none⟩ = some (.int .u8 7) ∧ w'.cell? ⟨b, 3, none⟩ = some (.int .u8 8) ∧ w'.cell? ⟨b, 4, none⟩ = some (.int .i64 (-1)) ∧ w'.cell? ⟨b, 5, none⟩ = some (.string ⟨#[]⟩))) ∧ Below X.heap.size X w' from by
    refine (Check_any _ _ _ Ck.l2R _ _ (l2Gr X) l2_small (by have := rules_le Ck.l2R (n := 2) (by rw [l2chk]; rfl); omega)).mono ?_
    rintro e w' ⟨⟨pv, rfl, a, rfl, hP⟩, hb⟩
    rw [l2chk] at hP ⊢
    obtain ⟨b, rfl, c0⟩ := hP 0 _ rfl
    refine ⟨⟨b, rfl, c0, ?_, ?_, ?_⟩, (allocs_below _ X).trans (hb.mono (allocs_below _ X).size)⟩
    · obtain ⟨b', e, c⟩ := hP 3 _ rfl; cases e; exact c
    · obtain ⟨b', e, c⟩ := hP 4 _ rfl; cases e; exact c
    · obtain ⟨b', e, c⟩ := hP 5 _ rfl; cases e; exact c)
  go_enter Try.func7, Try.ntmps7
  go_wp2_with fail
  refine (H1.out).mono ?_
  rintro e w1 ⟨⟨b, rfl, ⟨c0, c1, c2, c3, c4, c5⟩⟩, hb⟩
  have HB := Lib.hid hb
  clear hb
  go_wp2_with fail
  refine (H2.out w1).mono ?_
  rintro e w2 ⟨⟨b2, rfl, ⟨d0, d3, d4, d5⟩⟩, hb⟩
  have e0 := Nd.cell_keeps hb c0
  have e1 := Nd.cell_keeps hb c1
  have e2 := Nd.cell_keeps hb c2
  have e3 := Nd.cell_keeps hb c3
  have e4 := Nd.cell_keeps hb c4
  have e5 := Nd.cell_keeps hb c5
  have HB2 := Lib.hid hb
  clear hb c0 c1 c2 c3 c4 c5
  go_wp2_with fail
  go_ret
  exact ⟨rfl, HB.out.trans (HB2.out.mono HB.out.size)⟩
end Go.Proofs.Ythlfahghoinocaa
