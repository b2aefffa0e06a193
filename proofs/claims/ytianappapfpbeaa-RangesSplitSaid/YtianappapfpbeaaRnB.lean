/- ranges.ends: the ends of all ranges that hold something. -/
import Derived.Test.YtianappapfpbeaaRnS
namespace Go.Proofs.Ytianappapfpbeaa
open Go Go.RowKit Rn
set_option maxRecDepth 100000

theorem infoEnd : (Try.prog.info? 65).map (fun i => (i.zero, i.size, i.bytes)) = some (some (.agg #[.int .i64 0, .int .i64 0]), 2, 16) := by kernel_rfl
theorem infoRg : (Try.prog.info? 42).map (fun i => (i.zero, i.size, i.bytes)) = some (some (.agg #[.int .i32 0, .int .i32 0]), 2, 8) := by kernel_rfl
theorem info_partsRn {P : Program} {t : TypeId} {z : Value} {s b : Nat} (h : (P.info? t).map (fun i => (i.zero, i.size, i.bytes)) = some (some z, s, b)) : ∃ i, P.info? t = some i ∧ i.zero = some z ∧ i.size = s ∧ i.bytes = b := by
  cases e : P.info? t with
  | none => rw [e] at h; cases h
  | some i =>
    rw [e] at h
    simp only [Option.map_some, Option.some.injEq, Prod.mk.injEq] at h
    exact ⟨i, rfl, h.1, h.2.1, h.2.2⟩
theorem cells_newRn (w : World) (cs : List Value) (t : TypeId) (j : Nat) (u : Value) (h : cs[j]? = some u) : (w.alloc (.cells cs.toArray t)).cell? ((⟨w.heap.size, 0, none⟩ : Addr).add j) = some u := by
  have := (Bk.made w t cs.toArray).cell j
  rw [show (⟨w.heap.size, 0, none⟩ : Addr).add j = ⟨w.heap.size, j, none⟩ from by unfold Addr.add; split <;> simp_all]
  rw [this]
  simpa using h
namespace Rn
/-- What has been gathered at v. -/
def Gath (w : World) (d : List (Int × Int)) (v : Value) (wr : World) : Prop := wr.ownsRow w.heap.size 65 2 v d.length (endV d) ∧ Below w.heap.size w wr
theorem Gath.start (w : World) : Gath w [] (.slice none 0 0) w := ⟨World.ownsRow_nil w _ _ _, Below.refl _ _⟩
theorem Gath.below {w wr w' : World} {d : List (Int × Int)} {v : Value} (h : Gath w d v wr) (hb : Below wr.heap.size wr w') : Gath w d v w' := by
  refine ⟨?_, h.2.trans (hb.mono h.2.size)⟩
  refine ⟨h.1.1, ?_⟩
  rcases h.1.2 with h1 | ⟨g, c, cur, h1, h2, h3, h4⟩
  · exact .inl h1
  · exact .inr ⟨g, c, cur, h1, h2, by rw [hb.block g (Array.getElem?_eq_some_iff.1 h3).1]; exact h3, h4⟩
theorem endsL_take {e : Int} {l : List (Int × Int)} {p : Nat} {r : Int × Int} (h : l[p]? = some r) : endsL e (l.take (p + 1)) = endsL e (l.take p) ++ endsR e r := by
  rw [List.take_add_one, h]
  simp [endsL]
theorem endsLL_take {e : Int} {ls : List (List (Int × Int))} {p : Nat} {l : List (Int × Int)} (h : ls[p]? = some l) : endsLL e (ls.take (p + 1)) = endsLL e (ls.take p) ++ endsL e l := by
  rw [List.take_add_one, h]
  simp [endsLL]
theorem total_take : ∀ (ls : List (List (Int × Int))) (p : Nat) (l : List (Int × Int)), ls[p]? = some l → total (ls.take p) + l.length ≤ total ls
  | [], p, l, h => by simp at h
  | q :: ls, 0, l, h => by
    simp only [List.getElem?_cons_zero, Option.some.injEq] at h
    subst h
    simp [total]
  | q :: ls, p + 1, l, h => by
    have := total_take ls p l (by simpa using h)
    simp only [List.take_succ_cons, total]
    omega
theorem total_take_le : ∀ (ls : List (List (Int × Int))) (p : Nat), total (ls.take p) ≤ total ls
  | [], p => by simp
  | q :: ls, 0 => by simp [total]
  | q :: ls, p + 1 => by
    have := total_take_le ls p
    simp only [List.take_succ_cons, total]
    omega
end Rn
set_option maxHeartbeats 4000000 in
theorem ends_any (e : Int) (ls : List (List (Int × Int))) (v : Value) (w : World) (he : -10 ≤ e ∧ e ≤ 10) (hL : RLL w v ls) (hsz : total ls ≤ 1000000) (hlen : ls.length ≤ 1000000) (hin : ∀ l ∈ ls, I32 l) :
    Calls Try.prog 28 #[.int .i64 e, v] w fun e' w' => ∃ v', e' = .returned v' ∧ Gath w (endsLL e ls) v' w' := by
  obtain ⟨i0, hi, hz0, hz1, hz2⟩ := info_partsRn infoEnd
  obtain ⟨a, c, rfl, hc, hL⟩ := hL
  obtain ⟨LN, hLN⟩ : ∃ k, ls.length = k := ⟨_, rfl⟩
  have HLN := Lib.hid hLN
  rw [hLN] at hc hlen ⊢
  have HL := Lib.hid hL
  have HS := Lib.hid hsz
  have HI := Lib.hid hin
  clear hL hLN hin
  have n1 : (LN : Int) ≤ 9223372036854775807 := by omega
  have e1 : IntKind.i64.wrap (-e) = -e := by simp [IntKind.wrap, IntKind.bits, IntKind.signed]; omega
  go_enter Try.func28, Try.ntmps28
  go_wp2_with fail
  go_loopw [5, 12] (fun v5 i wr => ∃ p : Nat, p ≤ LN ∧ i = .int .i64 p ∧ Hid (Gath w (endsLL e (ls.take p)) v5 wr)) (fun _ i _ => LN - (intOf i).toNat)
  case atStart => exact ⟨0, Nat.zero_le _, rfl, Gath.start w⟩
  case round =>
    obtain ⟨p, hp, rfl, hG⟩ := hrel
    by_cases hlt : p < LN
    · have d2 : decide (p < LN) = true := by rw [decide_eq_true_iff]; exact hlt
      have p0 : (p : Int) < (LN : Int) := by omega
      obtain ⟨l, hl⟩ : ∃ l, ls[p]? = some l := ⟨_, List.getElem?_eq_getElem (by rw [HLN.out]; exact hlt)⟩
      obtain ⟨g, o, u, rfl, x1, la, lc, rfl, hlc, hR⟩ := HL.out p l hl
      have y1 := Nd.cell_keeps hG.out.2 x1
      have ht1 := total_take ls p l hl
      have hI := HI.out l (List.mem_of_getElem? hl)
      have HT := Lib.hid (endsLL_take (e := e) hl)
      have ht2 := endsLL_len e (ls.take p)
      obtain ⟨N, hN⟩ : ∃ k, l.length = k := ⟨_, rfl⟩
      have HN := Lib.hid hN
      rw [hN] at y1 hlc ht1
      have n2 : (N : Int) ≤ 9223372036854775807 := by omega
      have HR := Lib.hid hR
      have HI2 := Lib.hid hI
      have HE := Lib.hid ht2
      have HG := hG
      clear hl hR hI hN x1 hG ht2
      go_wp2_with fail
      go_loopw [5, 18] (fun v5 i wr => ∃ q : Nat, q ≤ N ∧ i = .int .i64 q ∧ Hid (Gath w (endsLL e (ls.take p) ++ endsL e (l.take q)) v5 wr)) (fun _ i _ => N - (intOf i).toNat)
      case atStart => exact ⟨0, Nat.zero_le _, rfl, Lib.hid (by rw [List.take_zero]; simpa [endsL] using HG.out)⟩
      case round =>
        obtain ⟨q, hq, rfl, hG⟩ := hrel
        by_cases hlq : q < N
        · have d3 : decide (q < N) = true := by rw [decide_eq_true_iff]; exact hlq
          have q0 : (q : Int) < (N : Int) := by omega
          obtain ⟨r, hr⟩ : ∃ r, l[q]? = some r := ⟨_, List.getElem?_eq_getElem (by rw [HN.out]; exact hlq)⟩
          obtain ⟨rg, ro, hra, z1, z2⟩ := HR.out.get q r hr
          subst hra
          have z3 := Nd.cell_keeps hG.out.2 z1
          have z4 := Nd.cell_keeps hG.out.2 z2
          have hr32 := HI2.out r (List.mem_of_getElem? hr)
          have HT2 := Lib.hid (endsL_take (e := e) hr)
          have hlen2 := endsL_len e (l.take q)
          obtain ⟨ra, rb⟩ := r
          dsimp only at z3 z4 hr32
          have HG2 := hG
          have hle := List.length_take_le q l
          have HE2 := Lib.hid (show (endsLL e (ls.take p) ++ endsL e (l.take q)).length ≤ 2000000 from by rw [List.length_append]; have := HE.out; have := HS.out; have := HN.out; omega)
          clear hr z1 z2 hG hlen2 hle
          by_cases hab : ra ≤ rb
          · have d4 : decide (ra ≤ rb) = true := decide_eq_true hab
            have e2 : endsR e (ra, rb) = [(ra, e), (rb + 1, -e)] := by unfold endsR; rw [if_pos hab]
            have e3 : IntKind.i64.wrap (rb + 1) = rb + 1 := by simp [IntKind.wrap, IntKind.bits, IntKind.signed]; omega
            have e4 : IntKind.i64.wrap ra = ra := by simp [IntKind.wrap, IntKind.bits, IntKind.signed]; omega
            have e5 : IntKind.i64.wrap rb = rb := by simp [IntKind.wrap, IntKind.bits, IntKind.signed]; omega
            have cn := cells_newRn (wr.alloc (.cells #[.int .i32 ra, .int .i32 rb] 42)) [.int .i64 ra, .int .i64 e, .int .i64 (rb + 1), .int .i64 (-e)] 65
            rw [World.size_alloc] at cn
            have HCN := Lib.hid cn
            have hw0 := HG2.out.2.size
            have hnl := HE2.out
            have HE3 := Lib.hid e2
            clear cn e2
            go_wp2_with (at_builtin; refine wpList_append_own _ rfl _ _ 46 rfl w.heap.size 65 i0 (.agg #[.int .i64 0, .int .i64 0]) 2 16 Try.underlying46 hi hz0 hz1 hz2 rfl (by decide) _ _ _ rfl ((HG2.out.1.alloc _).alloc _) ⟨wr.heap.size + 1, 0, none⟩ 2 2 [.int .i64 ra, .int .i64 e, .int .i64 (rb + 1), .int .i64 (-e)] rfl rfl HCN.out (fun x hx => by simp at hx; rcases hx with rfl | rfl | rfl | rfl <;> rfl) (by unfold maxLen; omega) (by omega) (by simp; omega) ?_; intro v' w3 hown3 hg3 _)
            refine ⟨⟨q + 1, by omega, by go_num, Lib.hid ?_⟩, by simp [intOf]; omega⟩
            rw [HT2.out, HE3.out, ← List.append_assoc]
            refine ⟨?_, ((HG2.out.2.alloc hw0 _).alloc (by simp; omega) _).grown hg3 (by simp; omega) (fun k hk => (HG2.out.1.lt k hk).1)⟩
            rw [List.length_append, endV_append]
            exact hown3
          · have d4 : decide (ra ≤ rb) = false := decide_eq_false hab
            have e2 : endsR e (ra, rb) = [] := by unfold endsR; rw [if_neg hab]
            have HE3 := Lib.hid e2
            clear e2
            go_wp2_with fail
            refine ⟨⟨q + 1, by omega, by go_num, Lib.hid ?_⟩, by simp [intOf]; omega⟩
            rw [HT2.out, HE3.out, List.append_nil]
            exact HG2.out.below ((Below.refl _ _).alloc (Nat.le_refl _) _)
        · have d3 : decide (q < N) = false := by rw [decide_eq_false_iff_not]; exact hlq
          have hfin : Gath w (endsLL e (ls.take (p + 1))) u5 wr := by
            rw [HT.out]
            have := hG.out
            rwa [show l.take q = l from List.take_of_length_le (by rw [HN.out]; omega)] at this
          have HF := Lib.hid hfin
          clear hfin hG
          go_wp2_with fail
          exact ⟨⟨p + 1, by omega, by go_num, HF⟩, by simp [intOf]; omega⟩
    · have d2 : decide (p < LN) = false := by rw [decide_eq_false_iff_not]; exact hlt
      have hfin : Gath w (endsLL e ls) u5 wr := by
        have := hG.out
        rwa [List.take_of_length_le (by rw [HLN.out]; omega)] at this
      have HF := Lib.hid hfin
      clear hfin hG
      go_wp2_with fail
      go_ret
      exact ⟨_, rfl, HF.out⟩
end Go.Proofs.Ytianappapfpbeaa
