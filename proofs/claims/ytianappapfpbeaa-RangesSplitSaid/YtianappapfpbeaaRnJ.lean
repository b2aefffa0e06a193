/- The contract of ranges.Split. -/
import Derived.Test.YtianappapfpbeaaRnI
import Derived.Test.YtianappapfpbeaaRnK
import Derived.OwnWalk
namespace Go.Proofs.Ytianappapfpbeaa
open Go Go.RowKit Rn
set_option maxRecDepth 100000

theorem infoRs : (Try.prog.info? 22).map (fun i => (i.zero, i.size, i.bytes)) = some (some (.slice none 0 0), 1, 24) := by kernel_rfl
namespace Rn
/-- The lists that have been made neat so far, in a row of slices at g. -/
structure SplR (w wr : World) (ls : List (List (Int × Int))) (LN g p : Nat) (vs : List Value) (ns : List (List (Int × Int))) : Prop where
  own : wr.ownsRow w.heap.size 22 1 (.slice (some ⟨g, 0, none⟩) LN LN) LN (vs ++ List.replicate (LN - p) (.slice none 0 0))
  lv : vs.length = p
  ln : ns.length = p
  ple : p ≤ LN
  el : ∀ (i : Nat) (v : Value) (n : List (Int × Int)), vs[i]? = some v → ns[i]? = some n → Hld wr (g + 1) v n
  nt : ∀ (i : Nat) (l n : List (Int × Int)), ls[i]? = some l → ns[i]? = some n → Runs false (hasB l) lowest n ∧ I32 n ∧ I32 l ∧ n.length ≤ 2 * l.length
  below : Below w.heap.size w wr
theorem Hld.other {w : World} {B : Nat} {v : Value} {l : List (Int × Int)} (h : Hld w B v l) {a : Addr} (ha : a.block < B) (u : Value) : Hld (w.setCell a u) B v l := by
  rcases h with h | ⟨g, cap, cur, h1, h2, h3, h4⟩
  · exact .inl h
  · exact .inr ⟨g, cap, cur, h1, h2, by rw [Below.heap_setCell _ _ _ _ (by omega)]; exact h3, h4⟩
theorem getElem?_snoc {α : Type} {l : List α} {x y : α} {i : Nat} (h : (l ++ [x])[i]? = some y) : l[i]? = some y ∨ (i = l.length ∧ x = y) := by
  by_cases hi : i < l.length
  · rw [List.getElem?_append_left hi] at h
    exact .inl h
  · rw [List.getElem?_append_right (by omega)] at h
    by_cases e : i - l.length = 0
    · rw [e] at h
      exact .inr ⟨by omega, by simpa using h⟩
    · rw [List.getElem?_eq_none (by simp; omega)] at h
      cases h
/-- A list more. -/
theorem SplR.push {w wr w1 : World} {ls : List (List (Int × Int))} {LN g p : Nat} {vs : List Value} {ns : List (List (Int × Int))} (h : SplR w wr ls LN g p vs ns) (hp : p < LN) {l n : List (Int × Int)} {v : Value} (hl : ls[p]? = some l) (hb : Below wr.heap.size wr w1) (hv : Hld w1 wr.heap.size v n)
    (hr : Runs false (hasB l) lowest n) (hi : I32 n) (hi2 : I32 l) (hn : n.length ≤ 2 * l.length) : SplR w (w1.setCell ⟨g, p, none⟩ v) ls LN g (p + 1) (vs ++ [v]) (ns ++ [n]) := by
  have hg := h.own.lt g rfl
  have hlv := h.lv
  have hln := h.ln
  have h1 := own_below h.own hb
  obtain ⟨s1, s2⟩ := h1.stored p v
  refine ⟨?_, by simp [hlv], by simp [hln], by omega, fun i v' n' hi1 hi2 => ?_, fun i l' n' hi1 hi2' => ?_, (h.below.trans (hb.mono h.below.size)).setCell hg.1 v⟩
  · have e : (vs ++ List.replicate (LN - p) (Value.slice none 0 0)).set p v = vs ++ [v] ++ List.replicate (LN - (p + 1)) (.slice none 0 0) := by
      rw [List.set_append_right _ _ (by omega), hlv, Nat.sub_self, show LN - p = (LN - (p + 1)) + 1 by omega, List.replicate_succ, List.set_cons_zero, List.append_assoc]
      rfl
    rw [e] at s1
    exact s1
  · rcases getElem?_snoc hi1 with k1 | ⟨k1, k2⟩
    · rcases getElem?_snoc hi2 with j1 | ⟨j1, j2⟩
      · exact ((h.el i v' n' k1 j1).below hb).other (by simp only; omega) v
      · have := (List.getElem?_eq_some_iff.1 k1).1
        omega
    · rcases getElem?_snoc hi2 with j1 | ⟨j1, j2⟩
      · have := (List.getElem?_eq_some_iff.1 j1).1
        omega
      · subst k2 j2
        exact (hv.mono (by omega)).other (by simp only; omega) _
  · rcases getElem?_snoc hi2' with j1 | ⟨j1, j2⟩
    · exact h.nt i l' n' hi1 j1
    · subst j2
      have : l' = l := by rw [j1, hln, hl] at hi1; exact (Option.some.inj hi1).symm
      subst this
      exact ⟨hr, hi, hi2, hn⟩
theorem SplR.rll {w wr : World} {ls : List (List (Int × Int))} {LN g : Nat} {vs : List Value} {ns : List (List (Int × Int))} (h : SplR w wr ls LN g LN vs ns) : RLL wr (.slice (some ⟨g, 0, none⟩) LN LN) ns := by
  refine ⟨_, LN, by rw [h.ln], by rw [h.ln]; exact Nat.le_refl _, fun i n hn => ?_⟩
  have hi := (List.getElem?_eq_some_iff.1 hn).1
  rw [h.ln] at hi
  obtain ⟨v, hv⟩ : ∃ v, vs[i]? = some v := ⟨_, List.getElem?_eq_getElem (by rw [h.lv]; exact hi)⟩
  refine ⟨g, 0, v, rfl, ?_, (h.el i v n hv hn).rl⟩
  rw [Nat.zero_add, h.own.cellAt i (by omega), List.getElem?_append_left (by rw [h.lv]; exact hi)]
  exact hv
theorem total_two : ∀ (ls ns : List (List (Int × Int))), ns.length = ls.length → (∀ (i : Nat) (l n : List (Int × Int)), ls[i]? = some l → ns[i]? = some n → n.length ≤ 2 * l.length) → total ns ≤ 2 * total ls
  | [], [], _, _ => by simp [total]
  | [], n :: ns, h, _ => by simp at h
  | l :: ls, [], h, _ => by simp at h
  | l :: ls, n :: ns, h, hh => by
    have h0 := hh 0 l n rfl rfl
    have := total_two ls ns (by simpa using h) (fun i a b ha hb => hh (i + 1) a b (by simpa using ha) (by simpa using hb))
    simp only [total]
    omega
end Rn
set_option maxHeartbeats 4000000 in
theorem SplitRn_any (ls : List (List (Int × Int))) (v : Value) (w : World) (hL : RLL w v ls) (hsz : total ls ≤ 100000) (hlen : ls.length ≤ 100000) (hin : ∀ l ∈ ls, I32 l) :
    Calls Try.prog 18 #[v] w (Made (noSig ls) (sig ls) (4 * total ls) w) := by
  obtain ⟨i0, hi, hz0, hz1, hz2⟩ := info_partsRn infoRs
  obtain ⟨a, c, rfl, hc, hL⟩ := hL
  obtain ⟨LN, hLN⟩ : ∃ k, ls.length = k := ⟨_, rfl⟩
  have HLN := Lib.hid hLN
  rw [hLN] at hc hlen ⊢
  have HL := Lib.hid hL
  have HS := Lib.hid hsz
  have HI := Lib.hid hin
  clear hL hLN hin hsz
  have n1 : (LN : Int) ≤ 9223372036854775807 := by omega
  go_enter Try.func18, Try.ntmps18
  go_wp2_with (at_make; refine wpList_make_full _ rfl _ _ 25 rfl w.heap.size 22 i0 (.slice none 0 0) 1 Try.underlying25 hi hz0 hz1 .i64 .i64 _ _ LN rfl rfl rfl rfl (by rw [hz2]; omega) (by unfold maxLen; omega) (Nat.le_refl _) ?_; intro w1 hown1 hg1)
  have hst : SplR w w1 ls LN w.heap.size 0 [] [] := ⟨by
    have e : (madeCells (Value.slice none 0 0).cells (LN * 1)).toList = [] ++ List.replicate (LN - 0) (.slice none 0 0) := by
      rw [Nat.mul_one, List.nil_append, Nat.sub_zero]
      exact toList_madeCells_one _ _
    rw [e] at hown1
    exact hown1, rfl, rfl, Nat.zero_le _, fun i v n h => by simp at h, fun i l n _ h => by simp at h, (Below.refl _ w).grown hg1 (Nat.le_refl _) (fun k e => by cases e)⟩
  have HST := Lib.hid hst
  clear hst hown1 hg1
  go_loopw [12] (fun i wr => ∃ (p : Nat) (vs : List Value) (ns : List (List (Int × Int))), i = .int .i64 p ∧ Hid (SplR w wr ls LN w.heap.size p vs ns)) (fun i _ => LN - (intOf i).toNat)
  case atStart => exact ⟨0, [], [], rfl, HST⟩
  case round =>
    obtain ⟨p, vs, ns, rfl, hS⟩ := hrel
    have hple := hS.out.ple
    by_cases hlt : p < LN
    · have d2 : decide (p < LN) = true := by rw [decide_eq_true_iff]; exact hlt
      have p0 : (p : Int) < (LN : Int) := by omega
      obtain ⟨l, hl⟩ : ∃ l, ls[p]? = some l := ⟨_, List.getElem?_eq_getElem (by rw [HLN.out]; exact hlt)⟩
      obtain ⟨g, o, u, rfl, x1, hR⟩ := HL.out p l hl
      have y1 := Nd.cell_keeps hS.out.below x1
      have hl2 := total_take ls p l hl
      have hN := Lib.hid (NeatRn_any l u wr (hR.below hS.out.below) (by have := HS.out; omega) (HI.out l (List.mem_of_getElem? hl)))
      have HP := Lib.hid (fun (w1 : World) (v : Value) (n : List (Int × Int)) (hb : Below wr.heap.size wr w1) (hv : Hld w1 wr.heap.size v n) (hr : Runs false (hasB l) lowest n) (hi : I32 n) (hn : n.length ≤ 2 * l.length) => hS.out.push hlt hl hb hv hr hi (HI.out l (List.mem_of_getElem? hl)) hn)
      have hgl := (hS.out.own.lt _ rfl).2
      have hown := Lib.hid (fun (w1 : World) (hb : Below wr.heap.size wr w1) => show (∃ u, w1.cell? ⟨w.heap.size, p, none⟩ = some u) ∧ w1.frozen? ⟨w.heap.size, p, none⟩ = false from by
        have h1 := own_below hS.out.own hb
        refine ⟨⟨.slice none 0 0, ?_⟩, h1.frozenAt _⟩
        rw [h1.cellAt p (by omega), List.getElem?_append_right (by rw [hS.out.lv]; exact Nat.le_refl _), hS.out.lv, Nat.sub_self, List.getElem?_replicate]
        rw [if_pos (by omega)])
      obtain ⟨ua, uc, hu, _, _⟩ := id hR
      subst hu
      clear hl x1 hR hl2 hS hple
      generalize hll : l.length = N at *
      clear hll
      go_wp2_with (go_at_call 9; refine hN.out.mono ?_; rintro e w2 ⟨v2, n, rfl, ho, hr, hi3, hn, hb⟩; obtain ⟨⟨u0, z1⟩, z2⟩ := hown.out _ hb; obtain ⟨va, vc, hv2, _, _⟩ := ho.rl; have HF := Lib.hid (HP.out _ _ _ hb ho hr hi3 hn); subst hv2; clear ho hr hi3 hn hb)
      exact ⟨⟨p + 1, _, _, by go_num, HF⟩, by simp [intOf]; omega⟩
    · have hpn : p = LN := by omega
      have d2 : decide (p < LN) = false := by rw [decide_eq_false_iff_not]; exact hlt
      subst hpn
      have hRLL := hS.out.rll
      have hN : Neated ls ns := ⟨by rw [hS.out.ln, HLN.out], fun i l n hl hn => ⟨(hS.out.nt i l n hl hn).1, (hS.out.nt i l n hl hn).2.1, (hS.out.nt i l n hl hn).2.2.1⟩⟩
      have htot : total ns ≤ 2 * total ls := total_two ls ns hN.1 (fun i l n hl hn => (hS.out.nt i l n hl hn).2.2.2)
      have hwr := hS.out.below.size
      have HB := Lib.hid hS.out.below
      have hbx : Below wr.heap.size wr (wr.alloc (.cells #[.int .i64 (0 : Nat)] 3)) := (Below.refl _ _).alloc (Nat.le_refl _) _
      have hE := Lib.hid (ends_any 1 ns _ (wr.alloc (.cells #[.int .i64 (0 : Nat)] 3)) (by omega) (hRLL.below hbx) (by have := HS.out; omega) (by rw [hS.out.ln]; omega) (fun n hn => (hN.mem hn).2))
      have hlen2 := endsLL_len 1 ns
      have hSt := Lib.hid (fun (v' : Value) (w1 : World) (h : Gath (wr.alloc (.cells #[.int .i64 (0 : Nat)] 3)) (endsLL 1 ns) v' w1) => stretchI_any wr.heap.size (endsLL 1 ns) v' (wr.alloc (.cells #[.int .i64 (0 : Nat)] 3)).heap.size w1 h.1 (by have := HS.out; omega) (fun p hp => ⟨endsLL_in (fun n hn => (hN.mem hn).2) p hp, endsLL_more (by omega) p hp⟩) ((Bk.made wr 3 #[.int .i64 (0 : Nat)]).below h.2 (by simp)) (fun e => by have := (h.1.lt _ e).1; rw [World.size_alloc] at this; omega))
      have HF := Lib.hid (fun d (hp : (endsLL 1 ns).Perm d) (hu : Up d) => emit_label hN hp hu)
      have HL2 := Lib.hid (show (endsLL 1 ns).length ≤ 4 * total ls from by omega)
      have HBX := Lib.hid hbx
      clear hS hRLL hN htot hbx hlen2 HST
      go_wp2_with (first
        | (go_at_call 28; refine hE.out.mono ?_; rintro e w1 ⟨v1, rfl, hG⟩; have HG := Lib.hid hG; clear hG)
        | (go_at_call 37; refine (hSt.out _ _ HG.out).mono ?_; rintro e w2 ⟨d, v2, w3, hp, hu, rfl, ho, hg, hb⟩))
      go_ret
      obtain ⟨r1, r2, r3⟩ := HF.out d hp hu
      have hb1 : Below w.heap.size w w1 := (HB.out.trans (HBX.out.mono HB.out.size)).trans (HG.out.2.mono (by rw [World.size_alloc]; omega))
      have hb3 : Below w.heap.size w w3 := hb1.grown hg hb1.size (fun k hk => by have := (HG.out.1.lt k hk).1; rw [World.size_alloc] at this; omega)
      exact ⟨_, _, rfl, ho.mono hb1.size, r1, r2, Nat.le_trans r3 HL2.out, hb3.grown hb hb3.size (fun k hk => by injection hk with hk; omega)⟩
end Go.Proofs.Ytianappapfpbeaa
