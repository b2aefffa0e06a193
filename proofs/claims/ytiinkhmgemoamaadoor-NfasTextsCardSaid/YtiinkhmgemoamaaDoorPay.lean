/- Where the builder comes to an end, Ends does too. Pure. -/
import Derived.Test.YtiinkhmgemoamaaDoorPau
import Derived.Test.YtiinkhmgemoamaaDoorPax
namespace Go.Proofs.YtiinkhmgemoamaaDoor.Gl
open Go Go.RowKit Nd Nu Nf Ck
set_option maxRecDepth 100000

theorem can_of {fd : ByteArray → Option T} (rns : ByteArray → List Int) (kind : Nat) (hfd : ∀ nm b, fd nm = some b → Whl b ∧ Nmd fd b) : ∀ (F : Nat) (s : St) (n : T), Whl n → Nmd fd n → (partF fd rns kind F s n).1.over = false → Can fd F n
 | 0, _, _, _, _, h => by cases h
 | F + 1, s, n, hw, hn, h => by
  have ih := can_of rns kind hfd F
  rw [part_eq] at h
  unfold partB at h
  generalize ({ s with nodes := s.nodes + 1, over := s.over || decide (65536 < s.nodes + 1) } : St) = s1 at h
  by_cases hov : s1.over = true
  · rw [if_pos hov] at h
    exact absurd (hov.symm.trans h) (by decide)
  rw [if_neg hov] at h
  refine ⟨fun hk m hm => ?_, fun hk => ?_, fun hk => ?_⟩
  · by_cases k1 : n.kind = 1
    · rw [if_pos k1] at h
      exact row_not (P := fun x => Whl x → Nmd fd x → Can fd F x) (fun s x h h1 h2 => ih s x h1 h2 h) n.subs _ _ h m hm (hw.subs m hm) (hn.subs m hm)
    · have k0 : n.kind = 0 := hk.resolve_right k1
      rw [if_neg k1, if_pos k0] at h
      exact choice_not (P := fun x => Whl x → Nmd fd x → Can fd F x) (fun s x h h1 h2 => ih s x h1 h2 h) n.subs _ _ h m hm (hw.subs m hm) (hn.subs m hm)
  · obtain ⟨m, hm⟩ := hw.one hk
    rw [if_neg (show ¬ n.kind = 1 by omega), if_neg (show ¬ n.kind = 0 by omega), if_pos hk, hm] at h
    dsimp only at h
    have hm2 : m ∈ n.subs := by rw [hm]; exact List.mem_singleton_self _
    refine ⟨m, hm, ih s1 m (hw.subs m hm2) (hn.subs m hm2) ?_⟩
    by_cases q2 : n.kind = 2
    · rw [if_pos q2] at h; exact h
    · rw [if_neg q2] at h; exact h
  · rw [if_neg (show ¬ n.kind = 1 by omega), if_neg (show ¬ n.kind = 0 by omega), if_neg (show ¬ (n.kind = 2 ∨ n.kind = 3 ∨ n.kind = 4) by omega), if_pos hk] at h
    obtain ⟨b, hb⟩ := Option.isSome_iff_exists.1 (hn.self hk)
    rw [hb] at h
    exact ⟨b, hb, ih s1 b (hfd _ b hb).1 (hfd _ b hb).2 h⟩
theorem all_can {fd : ByteArray → Option T} (rns : ByteArray → List Int) (hfd : ∀ nm b, fd nm = some b → Whl b ∧ Nmd fd b) : ∀ (ns : List T) (s : St) (a : (Nat → Bool) × (Nat → Bool)) (k : Nat), (∀ n ∈ ns, Whl n ∧ Nmd fd n) → (allF fd rns s a k ns).1.over = false → ∀ n ∈ ns, Can fd 65537 n
 | [], _, _, _, _, _, n, hn => by cases hn
 | b :: ns, s, a, k, hw, h, n, hn => by
  rw [all_cons] at h
  rcases List.mem_cons.1 hn with e | hn
  · rw [e]
    exact can_of rns k hfd 65537 s b (hw b List.mem_cons_self).1 (hw b List.mem_cons_self).2 (all_over fd rns ns _ _ _ h)
  · exact all_can rns hfd ns _ _ _ (fun x hx => hw x (List.mem_cons_of_mem _ hx)) h n hn
/-- In a grammar with which nothing is wrong all that names stand for is there. -/
theorem named_fine {rs : List Rl} (h : chk rs = []) : ∀ r ∈ rs, Nmd (bodyOf rs) r.body := by
 obtain ⟨_, hw⟩ := fine_of h
 intro r hr n hn _
 obtain ⟨i, hi⟩ := List.mem_iff_getElem?.1 hr
 obtain ⟨k, hk, _⟩ := (hw i r hi).nms n hn
 unfold bodyOf
 rw [hk]
 have hlt : k < rs.length := fnd_lt hk
 simp [List.getElem?_eq_getElem hlt]
theorem body_mem {rs : List Rl} {nm : ByteArray} {b : T} (h : bodyOf rs nm = some b) : ∃ r ∈ rs, r.body = b := by
 unfold bodyOf at h
 cases hf : fnd rs nm with
 | none => rw [hf] at h; cases h
 | some k =>
  rw [hf] at h
  cases hr : rs[k]? with
  | none => simp [hr] at h
  | some r =>
   simp [hr] at h
   exact ⟨r, List.mem_of_getElem? hr, h⟩
/-- What the law asks of a token, as far as ways and ends go. -/
theorem tok_ends {rs : List Rl} (hc : chk rs = []) (hw : ∀ r ∈ rs, Whl r.body) (ho : (autoF runesOf rs).1.over = false) (l : List Int) (t : Nat) (r : Rl) (ht : (toks rs)[t]? = some r) :
 Can (bodyOf rs) 65537 r.body ∧ ∃ b e p A, Tok (autoF runesOf rs).1 (autoF runesOf rs).2.1 (autoF runesOf rs).2.2 t l (den (bodyOf rs) runesOf l 65537 r.body) b e p A := by
 refine ⟨?_, auto_tells runesOf rs l ho t r ht⟩
 have hm : r ∈ toks rs := List.mem_of_getElem? ht
 have hnm := named_fine hc
 refine all_can runesOf (fun nm b hb => ?_) ((toks rs).map fun r : Rl => r.body) _ _ _ (fun n hn => ?_) ho r.body (List.mem_map.2 ⟨r, hm, rfl⟩)
 · obtain ⟨q, hq, rfl⟩ := body_mem hb
   exact ⟨hw q hq, hnm q hq⟩
 · obtain ⟨q, hq, rfl⟩ := List.mem_map.1 hn
   have hq' : q ∈ rs := (List.mem_filter.1 hq).1
   exact ⟨hw q hq', hnm q hq'⟩
end Go.Proofs.YtiinkhmgemoamaaDoor.Gl
namespace Go.Proofs.YtiinkhmgemoamaaDoor.Gl
open Go Go.RowKit Nd Nu Nf
attribute [local go_sem] Oper.semAt_some
set_option maxRecDepth 100000

def asks (k : Int) : Bool := k == 2 || k == 3 || k == 4
/-- Has each node what it asks for, as deep as d? -/
def whB : Nat → T → Bool
 | 0, _ => true
 | d + 1, t => !(asks t.kind && !(t.subs.length == 1)) && t.subs.all (whB d)
theorem deepL_mem : ∀ {b : List T} {m : T}, m ∈ b → Nd.deep m ≤ Nd.deepL b
 | x :: b, m, h => by
  simp only [Nd.deepL]
  rcases List.mem_cons.1 h with e | h
  · rw [e]; exact Nat.le_max_left _ _
  · exact Nat.le_trans (deepL_mem h) (Nat.le_max_right _ _)
theorem sub_deep {t m : T} (h : m ∈ t.subs) : Nd.deep m + 1 ≤ Nd.deep t := by
 cases t with
 | mk k n x s b =>
  have := deepL_mem (b := b) (m := m) h
  simp only [Nd.deep]
  omega
theorem whl_of : ∀ (d : Nat) (t : T), Nd.deep t ≤ d → whB d t = true → Whl t
 | 0, .mk k n x s b, h, _ => by simp only [Nd.deep] at h; omega
 | d + 1, .mk k n x s b, h, hw => by
  simp only [whB, Bool.and_eq_true, List.all_eq_true] at hw
  refine .mk (fun hk => ?_) fun m hm => whl_of d m (by have := sub_deep (t := .mk k n x s b) (m := m) hm; omega) (hw.2 m hm)
  have h1 := hw.1
  have h2 : asks k = true := by unfold asks; rcases hk with rfl | rfl | rfl <;> rfl
  rw [show asks (T.mk k n x s b).kind = true from h2] at h1
  have h3 : (b.length == 1) = true := by
   have h4 : (!(true && !(b.length == 1))) = true := h1
   simpa using h4
  simpa using h3
set_option maxHeartbeats 4000000 in
theorem Whole_any : ∀ (d : Nat) (t : T) (v : Value) (w : World), Nd.deep t ≤ d → Nd.At w t v →
 Calls Tryd.prog 10 #[v] w fun e w' => e = .returned (.bool (whB d t)) ∧ Below w.heap.size w w'
 | 0, .mk k n x s b, _, _, h, _ => by simp only [Nd.deep] at h; omega
 | d + 1, t, v, w, h, hA => by
  have ih := Whole_any d
  obtain ⟨sa, sc, ba, bc, rfl, hk, hn, hx, hs, hb, hR, hL⟩ := hA.form
  have HI := Lib.hid (fun (wr : World) (hw : Below w.heap.size w wr) (i : Nat) (m : T) (hm : t.subs[i]? = some m) => show ∃ g o v0 v1 v2 v3 v4, ba = some ⟨g, o, none⟩ ∧ (wr.cell? ⟨g, o + i * 5, none⟩ = some v0 ∧ wr.cell? ⟨g, o + i * 5 + 1, none⟩ = some v1 ∧ wr.cell? ⟨g, o + i * 5 + 2, none⟩ = some v2 ∧ wr.cell? ⟨g, o + i * 5 + 3, none⟩ = some v3 ∧ wr.cell? ⟨g, o + i * 5 + 4, none⟩ = some v4) ∧
   Calls Tryd.prog 10 #[.agg #[v0, v1, v2, v3, v4]] wr fun e w' => e = .returned (.bool (whB d m)) ∧ Below wr.heap.size wr w' from by
   obtain ⟨g, o, v0, v1, v2, v3, v4, e, c0, c1, c2, c3, c4, hm'⟩ := hL.get i m hm
   exact ⟨g, o, v0, v1, v2, v3, v4, e, ⟨Nd.cell_keeps hw c0, Nd.cell_keeps hw c1, Nd.cell_keeps hw c2, Nd.cell_keeps hw c3, Nd.cell_keeps hw c4⟩, ih m _ wr (by have := sub_deep (List.mem_of_getElem? hm); omega) (Nd.At.below hw m hm')⟩)
  obtain ⟨N, hN⟩ : ∃ N, t.subs.length = N := ⟨_, rfl⟩
  obtain ⟨TT, hTT⟩ : ∃ x, t.subs.all (whB d) = x := ⟨_, rfl⟩
  have hres : whB (d + 1) t = (!(asks t.kind && !(N == 1)) && TT) := by rw [whB, hN, hTT]
  rw [hN] at hb ⊢
  rw [hres]
  have HN := Lib.hid hN
  have HT := Lib.hid hTT
  have n1 : (N : Int) ≤ 9223372036854775807 := by omega
  generalize t.set.length = SL at *
  generalize t.name = qn at *
  generalize t.text = qx at *
  obtain ⟨K, hK⟩ : ∃ K, t.kind = K := ⟨_, rfl⟩
  rw [hK]
  have hB0 : ∀ ob, Below w.heap.size w (w.alloc ob) := fun ob => (Below.refl _ w).alloc (Nat.le_refl _) ob
  have HK := Lib.hid (show ∀ wr : World, Below (w.heap.size + 1) (w.alloc (.cells #[.int .u8 K, .string qn, .string qx, .slice sa SL sc, .slice ba N bc] 34)) wr → wr.cell? ⟨w.heap.size, 0, none⟩ = some (.int .u8 K) ∧ wr.cell? ⟨w.heap.size, 4, none⟩ = some (.slice ba N bc) ∧ Below w.heap.size w wr from fun wr hw => by
   have hk := (Bk.made w 34 #[.int .u8 K, .string qn, .string qx, .slice sa SL sc, .slice ba N bc]).below hw (by omega)
   exact ⟨hk.cell 0, hk.cell 4, (hB0 _).trans (hw.mono (by omega))⟩)
  obtain ⟨W, hW⟩ : ∃ W, w.alloc (.cells #[.int .u8 K, .string qn, .string qx, .slice sa SL sc, .slice ba N bc] 34) = W := ⟨_, rfl⟩
  have hWs : W.heap.size = w.heap.size + 1 := by rw [← hW]; simp
  rw [hW] at HK
  obtain ⟨x0, x4, hwW⟩ := HK.out W (Below.refl _ _)
  have HW := Lib.hid hW
  have d1 : ((N : Int) != 1) = !(N == 1) := by
   by_cases h : N = 1
   · subst h; rfl
   · rw [show (N == 1) = false by simpa using h]; simp; omega
  clear hN hTT hres ih hA hR hL hk hn hx hs h hB0 hK hW
  obtain ⟨bad, hbad⟩ : ∃ x, (asks K && !(N == 1)) = x := ⟨_, rfl⟩
  rw [hbad]
  have n0 : (N : Int) = 1 ∨ ¬ (N : Int) = 1 := by omega
  have HLp : ∀ (W' : World), Below W.heap.size W W' → Hid ((t.subs.drop 0).all (whB d) = TT) := fun _ _ => Lib.hid (by rw [List.drop_zero]; exact HT.out)
  have HLoop : bad = false → ∀ fin : Prop, True := fun _ _ => trivial
  clear HLoop
  cases bad with
  | true =>
   have hb1 : asks K = true ∧ (N == 1) = false := by simpa using hbad
   have hk3 : K = 2 ∨ K = 3 ∨ K = 4 := by
    have := hb1.1
    unfold asks at this
    simp only [Bool.or_eq_true, beq_iff_eq] at this
    omega
   have e1 : ((N : Int) != 1) = true := by have := hb1.2; simp at this; simp; omega
   have e2 : ¬ (N : Int) = 1 := by have := hb1.2; simp at this; omega
   clear hbad hb1 d1 n0
   rcases hk3 with rfl | rfl | rfl <;>
   · go_enter Tryd.func10, Tryd.ntmps10
     go_upto_region 1 with fail
     rw [HW.out]
     go_wp2_with fail
     go_ret
     exact ⟨rfl, hwW⟩
  | false =>
   rw [show (!false && TT) = TT from rfl]
   have hk3 : (K = 2 ∧ N = 1) ∨ (K = 3 ∧ N = 1) ∨ (K = 4 ∧ N = 1) ∨ (K ≠ 2 ∧ K ≠ 3 ∧ K ≠ 4) := by
    by_cases h2 : K = 2
    · subst h2; left; refine ⟨rfl, ?_⟩; simpa [asks] using hbad
    by_cases h3 : K = 3
    · subst h3; right; left; refine ⟨rfl, ?_⟩; simpa [asks] using hbad
    by_cases h4 : K = 4
    · subst h4; right; right; left; refine ⟨rfl, ?_⟩; simpa [asks] using hbad
    exact .inr (.inr (.inr ⟨h2, h3, h4⟩))
   have HS := Lib.hid (show Below W.heap.size W W ∧ (t.subs.drop 0).all (whB d) = TT from ⟨Below.refl _ _, by rw [List.drop_zero]; exact HT.out⟩)
   clear hbad d1 n0 HLp
   rcases hk3 with ⟨rfl, hN1⟩ | ⟨rfl, hN1⟩ | ⟨rfl, hN1⟩ | ⟨k2, k3, k4⟩
   all_goals
    try have e1 : ((N : Int) != 1) = false := by rw [hN1]; rfl
    try have e2 : (N : Int) = 1 := by rw [hN1]; rfl
    try clear hN1
    try have q2 : (K == 2) = false := by simpa using k2
    try have q3 : (K == 3) = false := by simpa using k3
    try have q4 : (K == 4) = false := by simpa using k4
    go_enter Tryd.func10, Tryd.ntmps10
    go_upto_region 1 with fail
    rw [HW.out]
    go_wp2_with fail
    go_loopw [3] (fun i wr => ∃ p : Nat, p ≤ N ∧ i = .int .i64 p ∧ Hid (Below W.heap.size W wr ∧ (t.subs.drop p).all (whB d) = TT)) (fun i _ => N - (intOf i).toNat)
    case atStart => exact ⟨0, Nat.zero_le _, rfl, HS⟩
    case round =>
     obtain ⟨p, hp, rfl, hJ⟩ := hrel
     obtain ⟨hb2, hall⟩ := hJ.out
     obtain ⟨x0, x4, hw2⟩ := HK.out _ (by rw [← hWs]; exact hb2)
     by_cases hlt : p < N
     · have dp : decide (p < N) = true := by rw [decide_eq_true_iff]; exact hlt
       have p1 : (p : Int) < (N : Int) := by omega
       have p2 : (0 : Int) ≤ (p : Int) := by omega
       obtain ⟨m, hm⟩ : ∃ m, t.subs[p]? = some m := ⟨_, List.getElem?_eq_getElem (by rw [HN.out]; exact hlt)⟩
       obtain ⟨g, o, v0, v1, v2, v3, v4, rfl, ⟨c0, c1, c2, c3, c4⟩, hC⟩ := HI.out _ hw2 p m hm
       have hJ2 : (whB d m && (t.subs.drop (p + 1)).all (whB d)) = TT := by rw [← hall, Nd.drop_some hm]; rfl
       obtain ⟨z, hz⟩ : ∃ z, whB d m = z := ⟨_, rfl⟩
       rw [hz] at hJ2 hC
       have HC := Lib.hid hC
       replace hb2 := Lib.hid hb2
       clear hall hz hm hJ hC
       cases z with
       | true =>
        have HF := Lib.hid (show (t.subs.drop (p + 1)).all (whB d) = TT from hJ2)
        clear hJ2
        go_wp2_with (go_at_call 10; refine HC.out.mono ?_; rintro e w5 ⟨rfl, hb5⟩)
        exact ⟨⟨p + 1, by omega, by go_num, Lib.hid ⟨hb2.out.trans (hb5.mono hb2.out.size), HF.out⟩⟩, by simp [intOf]; omega⟩
       | false =>
        have HF := Lib.hid (show TT = false from hJ2.symm)
        clear hJ2
        go_wp2_with (go_at_call 10; refine HC.out.mono ?_; rintro e w5 ⟨rfl, hb5⟩)
        go_ret
        exact ⟨by rw [HF.out]; rfl, hw2.trans (hb5.mono hw2.size)⟩
     · have dp : decide (p < N) = false := by rw [decide_eq_false_iff_not]; exact hlt
       have HF := Lib.hid (show TT = true from by rw [← hall, List.drop_eq_nil_of_le (by rw [HN.out]; omega)]; rfl)
       clear hall hJ
       go_wp2_with fail
       go_ret
       exact ⟨by rw [HF.out]; rfl, hw2⟩
end Go.Proofs.YtiinkhmgemoamaaDoor.Gl
namespace Go.Proofs.YtiinkhmgemoamaaDoor.Gl
open Go Go.RowKit Nd Nu Nf
attribute [local go_sem] Oper.semAt_some
set_option maxRecDepth 100000

/-- What Ends of n comes to with what comes in. -/
def EndsAt (w : World) (gv nv lv : Value) (inv : Value) (out : List Bool) : Prop :=
 Calls Tryd.prog 12 #[gv, nv, lv, inv] w fun e w' => (∃ x, e = .returned x ∧ BoV w' x out) ∧ Below w.heap.size w w'
/-- The worlds of Ends' beginning: the grammar, the node, a row of nothing. -/
theorem ends_start (w : World) (g0 g1 g2 g3 : Value) (n0 n1 n2 n3 n4 : Value) (M : Nat) (W : World) (hW : W = ((w.alloc (.cells #[g0, g1, g2, g3] 26)).alloc (.cells #[n0, n1, n2, n3, n4] 34)).alloc (.cells (madeCells #[.bool false] M) 4)) :
 Below w.heap.size w W ∧ W.heap.size = w.heap.size + 3 ∧ Bk W w.heap.size 26 #[g0, g1, g2, g3] ∧ Bk W (w.heap.size + 1) 34 #[n0, n1, n2, n3, n4] ∧ BoV W (.slice (some ⟨w.heap.size + 1 + 1, 0, none⟩) M M) (tab M fun _ => false) := by
 have k0 := Bk.made w 26 #[g0, g1, g2, g3]
 have k1 := Bk.made (w.alloc (.cells #[g0, g1, g2, g3] 26)) 34 #[n0, n1, n2, n3, n4]
 have k2 := Bk.made ((w.alloc (.cells #[g0, g1, g2, g3] 26)).alloc (.cells #[n0, n1, n2, n3, n4] 34)) 4 (madeCells #[.bool false] M)
 have b0 : Below w.heap.size w (w.alloc (.cells #[g0, g1, g2, g3] 26)) := (Below.refl _ _).alloc (Nat.le_refl _) _
 have e1 : (w.alloc (.cells #[g0, g1, g2, g3] 26)).heap.size = w.heap.size + 1 := by simp
 have e2 : ((w.alloc (.cells #[g0, g1, g2, g3] 26)).alloc (.cells #[n0, n1, n2, n3, n4] 34)).heap.size = w.heap.size + 1 + 1 := by simp
 rw [e1] at k1
 rw [e2] at k2
 subst hW
 refine ⟨(b0.alloc (by omega) _).alloc (by omega) _, by simp, (k0.alloc _).alloc _, k1.alloc _, w.heap.size + 1 + 1, M, by rw [tab_len], ?_⟩
 rw [← tab_none, ← made_bools]
 exact k2
set_option maxHeartbeats 4000000 in
theorem Ends_zero (w : World) (g0 g1 g2 g3 : Value) (n0 n1 n2 n3 n4 : Value) (lv inv : Value) (m : List Bool) (hv : BoV w inv m) (hm : m.length ≤ 1000) (ha : m.any id = false) :
 EndsAt w (.agg #[g0, g1, g2, g3]) (.agg #[n0, n1, n2, n3, n4]) lv inv (tab m.length fun _ => false) := by
 obtain ⟨M, hM⟩ : ∃ M, m.length = M := ⟨_, rfl⟩
 have HS := Lib.hid (fun (wx : World) (hb : Below w.heap.size w wx) => some_any m inv wx (hv.below hb) (by omega))
 have HV := Lib.hid hv
 obtain ⟨b, c, rfl, _⟩ := hv
 rw [ha, hM] at HS
 rw [hM] at hm ⊢
 have n1' : (M : Int) ≤ 9223372036854775807 := by omega
 have hmk := run_make_row' (P := Tryd.prog) 52 4 (.bool false) 1 Tryd.underlying52 infoBool rfl .i64 .i64 M (by omega) (by omega)
 obtain ⟨W, hW⟩ : ∃ W, ((w.alloc (.cells #[g0, g1, g2, g3] 26)).alloc (.cells #[n0, n1, n2, n3, n4] 34)).alloc (.cells (madeCells #[.bool false] M) 4) = W := ⟨_, rfl⟩
 obtain ⟨hb, hs, hkg, hkn, ho⟩ := ends_start w g0 g1 g2 g3 n0 n1 n2 n3 n4 M W hW.symm
 have HW := Lib.hid hW
 have HO := Lib.hid ho
 clear ha hM hW hkg hkn ho HV
 unfold EndsAt
 go_enter Tryd.func12, Tryd.ntmps12
 go_upto_region 2 with fail
 rw [HW.out]
 go_wp2_with (go_at_call 23; refine (HS.out _ hb).mono ?_; rintro e w' ⟨rfl, hw'⟩; rw [hw'])
 go_ret
 exact ⟨⟨_, rfl, HO.out⟩, hb⟩
set_option maxHeartbeats 4000000 in
theorem Ends_set (w : World) (g0 g1 g2 g3 : Value) (qn qx : ByteArray) (set : List (Int × Int)) (sa : Option Addr) (sc : Nat) (n4 : Value) (l : List Int) (lv inv : Value) (m : List Bool) (hv : BoV w inv m) (hl : LiV w lv l) (hR : Nd.RgAt w set sa) (hs : set.length ≤ 140737488351232)
 (hml : m.length = l.length + 1) (hll : l.length ≤ 12) (ha : m.any id = true) :
 EndsAt w (.agg #[g0, g1, g2, g3]) (.agg #[.int .u8 9, .string qn, .string qx, .slice sa set.length sc, n4]) lv inv (stT m l set) := by
 obtain ⟨M, hM⟩ : ∃ M, m.length = M := ⟨_, rfl⟩
 have HS := Lib.hid (fun (wx : World) (hb : Below w.heap.size w wx) => some_any m inv wx (hv.below hb) (by omega))
 have HT := Lib.hid (fun (wx : World) (hb : Below w.heap.size w wx) => step_any m l set inv lv sa sc wx (hv.below hb) (hl.below hb) (hR.below hb) hml (by omega) hs)
 obtain ⟨b, c, rfl, _⟩ := hv
 obtain ⟨la, lc, rfl, _⟩ := hl
 rw [ha, hM] at HS
 rw [hM] at HT
 obtain ⟨OUT, hOUT⟩ : ∃ o, stT m l set = o := ⟨_, rfl⟩
 rw [hOUT] at HT ⊢
 rw [hM] at hml ⊢
 have hm : M ≤ 1000 := by omega
 generalize set.length = SL at *
 generalize l.length = LL at *
 have n1' : (M : Int) ≤ 9223372036854775807 := by omega
 have hmk := run_make_row' (P := Tryd.prog) 52 4 (.bool false) 1 Tryd.underlying52 infoBool rfl .i64 .i64 M (by omega) (by omega)
 obtain ⟨W, hW⟩ : ∃ W, ((w.alloc (.cells #[g0, g1, g2, g3] 26)).alloc (.cells #[.int .u8 9, .string qn, .string qx, .slice sa SL sc, n4] 34)).alloc (.cells (madeCells #[.bool false] M) 4) = W := ⟨_, rfl⟩
 obtain ⟨hb, _, _, hkn, _⟩ := ends_start w g0 g1 g2 g3 (.int .u8 9) (.string qn) (.string qx) (.slice sa SL sc) n4 M W hW.symm
 have HW := Lib.hid hW
 have x0 := hkn.cell 0
 have x3 := hkn.cell 3
 simp at x0 x3
 clear ha hM hW hkn hR hml hOUT
 unfold EndsAt
 go_enter Tryd.func12, Tryd.ntmps12
 go_upto_region 2 with fail
 rw [HW.out]
 go_wp2_with (first
  | (go_at_call 23; refine (HS.out _ hb).mono ?_; rintro e w' ⟨rfl, hw'⟩; rw [hw'])
  | (go_at_call 26; refine (HT.out _ hb).mono ?_; rintro e w6 ⟨⟨xv, rfl, hxv⟩, hb6⟩))
 go_ret
 exact ⟨⟨_, rfl, hxv⟩, hb.trans (hb6.mono hb.size)⟩
set_option maxHeartbeats 4000000 in
theorem Ends_other (w : World) (g0 g1 g2 g3 : Value) (K : Int) (n1 n2 n3 n4 : Value) (lv inv : Value) (m : List Bool) (hv : BoV w inv m) (hm : m.length ≤ 1000) (ha : m.any id = true)
 (hK : ¬ (K = 0 ∨ K = 1 ∨ K = 2 ∨ K = 3 ∨ K = 4 ∨ K = 6 ∨ K = 8 ∨ K = 9)) :
 EndsAt w (.agg #[g0, g1, g2, g3]) (.agg #[.int .u8 K, n1, n2, n3, n4]) lv inv m := by
 obtain ⟨M, hM⟩ : ∃ M, m.length = M := ⟨_, rfl⟩
 have HS := Lib.hid (fun (wx : World) (hb : Below w.heap.size w wx) => some_any m inv wx (hv.below hb) (by omega))
 have HV := Lib.hid hv
 obtain ⟨b, c, rfl, _⟩ := hv
 rw [ha, hM] at HS
 rw [hM] at hm HV
 have n1' : (M : Int) ≤ 9223372036854775807 := by omega
 have hmk := run_make_row' (P := Tryd.prog) 52 4 (.bool false) 1 Tryd.underlying52 infoBool rfl .i64 .i64 M (by omega) (by omega)
 obtain ⟨W, hW⟩ : ∃ W, ((w.alloc (.cells #[g0, g1, g2, g3] 26)).alloc (.cells #[.int .u8 K, n1, n2, n3, n4] 34)).alloc (.cells (madeCells #[.bool false] M) 4) = W := ⟨_, rfl⟩
 obtain ⟨hb, _, _, hkn, _⟩ := ends_start w g0 g1 g2 g3 (.int .u8 K) n1 n2 n3 n4 M W hW.symm
 have HW := Lib.hid hW
 have x0 := hkn.cell 0
 simp at x0
 have q0 : (K == 0) = false := by simp; omega
 have q1 : (K == 1) = false := by simp; omega
 have q2 : (K == 2) = false := by simp; omega
 have q3 : (K == 3) = false := by simp; omega
 have q4 : (K == 4) = false := by simp; omega
 have q6 : (K == 6) = false := by simp; omega
 have q8 : (K == 8) = false := by simp; omega
 have q9 : (K == 9) = false := by simp; omega
 rw [hM]
 clear ha hM hW hkn hK
 unfold EndsAt
 go_enter Tryd.func12, Tryd.ntmps12
 go_upto_region 2 with fail
 rw [HW.out]
 go_wp2_with (go_at_call 23; refine (HS.out _ hb).mono ?_; rintro e w' ⟨rfl, hw'⟩; rw [hw'])
 go_ret
 exact ⟨⟨_, rfl, HV.out.below hb⟩, hb⟩
end Go.Proofs.YtiinkhmgemoamaaDoor.Gl
