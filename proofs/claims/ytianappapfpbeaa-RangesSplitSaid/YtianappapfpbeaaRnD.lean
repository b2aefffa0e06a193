/- ranges.stretches at bool: what ends are gone through as, whatever is counted. -/
import Derived.Test.YtianappapfpbeaaRnB
namespace Go.Proofs.Ytianappapfpbeaa
open Go Go.RowKit Rn
set_option maxRecDepth 100000

namespace Rn
def wrapR (p : Int × Int) : Int × Int := (wrap32 p.1, wrap32 p.2)
/-- The range that is not at its end yet. -/
def opn (s : Bool) (lo : Int) : List (Int × Int) := if s then [(wrap32 lo, 0)] else []
theorem wrap0 : wrap32 0 = 0 := by unfold wrap32; omega
theorem emit_nil {S : Type} [DecidableEq S] (z : S) (c : Nat → Int → S) (k : Nat) (o : Int) (s : S) (lo : Int) : (emit z c [] k o s lo).map wrapR = if s = z then [] else [(wrap32 lo, 0)] := by
  simp only [emit]
  by_cases h : s = z
  · rw [if_pos h, if_pos h]; rfl
  · rw [if_neg h, if_neg h]; simp [wrapR, wrap0]
/-- Where stretches stands: p ends have been gone through, o is open, s was counted last. -/
def Swp (w1 : World) (c : Int → Bool) (d TT : List (Int × Int)) (p : Nat) (o : Int) (s : Bool) (K : List (Int × Int)) (lo : Int) (v5 : Value) (wr : World) : Prop :=
  wr.ownsRow w1.heap.size 42 2 v5 (K ++ opn s lo).length (rgV (K ++ opn s lo)) ∧ Below w1.heap.size w1 wr ∧ (∃ k, K ++ (emit false (fun _ => c) (d.drop p) k o s lo).map wrapR = TT) ∧ (-10 * (p : Int) ≤ o ∧ o ≤ 10 * p) ∧ (K ++ opn s lo).length ≤ p
theorem own_below {w w' : World} {B : Nat} {e : TypeId} {size n : Nat} {v : Value} {xs : List Value} (h : w.ownsRow B e size v n xs) (hb : Below w.heap.size w w') : w'.ownsRow B e size v n xs := by
  refine ⟨h.1, ?_⟩
  rcases h.2 with h1 | ⟨g, c, cur, h1, h2, h3, h4⟩
  · exact .inl h1
  · exact .inr ⟨g, c, cur, h1, h2, by rw [hb.block g (Array.getElem?_eq_some_iff.1 h3).1]; exact h3, h4⟩
theorem more_drop {d : List (Int × Int)} {p : Nat} (a : Int) : more a (d.drop p) = match d[p]? with | some q => decide (q.1 = a) | none => false := by
  cases h : d[p]? with
  | none =>
    rw [List.drop_eq_nil_of_le (List.getElem?_eq_none_iff.1 h)]
    rfl
  | some q => rw [Nd.drop_some h]; rfl
/-- An end more at the same number, or what is counted is the same: nothing is told. -/
theorem Swp.go {w1 wr w' : World} {c : Int → Bool} {d TT K : List (Int × Int)} {p : Nat} {o a m lo : Int} {s : Bool} {v5 : Value} (h : Swp w1 c d TT p o s K lo v5 wr) (hd : d[p]? = some (a, m)) (hm : -10 ≤ m ∧ m ≤ 10) (hb : Below wr.heap.size wr w')
    (hc : more a (d.drop (p + 1)) = true ∨ c (o + m) = s) : Swp w1 c d TT (p + 1) (o + m) s K lo v5 w' := by
  obtain ⟨h1, h2, ⟨k, h3⟩, h4, h5⟩ := h
  refine ⟨own_below h1 hb, h2.trans (hb.mono h2.size), ?_, by omega, by omega⟩
  rw [Nd.drop_some hd] at h3
  simp only [emit] at h3
  by_cases q : more a (d.drop (p + 1)) = true
  · rw [if_pos q] at h3; exact ⟨k, h3⟩
  · rw [if_neg q] at h3
    rcases hc with hc | hc
    · exact absurd hc q
    · rw [if_pos hc] at h3; exact ⟨k + 1, h3⟩
theorem Swp.open_ {w1 wr w2 w' : World} {c : Int → Bool} {d TT K : List (Int × Int)} {p : Nat} {o a m lo : Int} {v5 v' : Value} (h : Swp w1 c d TT p o false K lo v5 wr) (hd : d[p]? = some (a, m)) (hm : -10 ≤ m ∧ m ≤ 10) (hb : Below wr.heap.size wr w2)
    (hq : more a (d.drop (p + 1)) = false) (hc : c (o + m) = true) (hown : w'.ownsRow w1.heap.size 42 2 v' (K.length + 1) (rgV K ++ [.int .i32 (wrap32 a), .int .i32 0])) (hg : w2.grownBy w' v5.ownBlock) : Swp w1 c d TT (p + 1) (o + m) true K a v' w' := by
  obtain ⟨h1, h2, ⟨k, h3⟩, h4, h5⟩ := h
  have e0 : opn false lo = [] := rfl
  rw [e0, List.append_nil] at h1 h5
  refine ⟨?_, ?_, ?_, by omega, ?_⟩
  · have e1 : opn true a = [(wrap32 a, 0)] := rfl
    rw [e1, List.length_append, rgV_append]
    exact hown
  · exact (h2.trans (hb.mono h2.size)).grown hg (Nat.le_trans h2.size hb.size) (fun k hk => (h1.lt k hk).1)
  · rw [Nd.drop_some hd] at h3
    simp only [emit] at h3
    rw [if_neg (by rw [hq]; decide), if_neg (by rw [hc]; decide), if_pos trivial, hc] at h3
    exact ⟨k + 1, h3⟩
  · rw [List.length_append]
    have : (opn true a).length = 1 := rfl
    omega
theorem rgV_set (K : List (Int × Int)) (lo x h : Int) : (rgV (K ++ [(lo, x)])).set (K.length * 2 + 1) (.int .i32 h) = rgV (K ++ [(lo, h)]) := by
  rw [rgV_append, rgV_append]
  have e := rgV_len K
  rw [List.set_append_right _ _ (by omega), e, show K.length * 2 + 1 - K.length * 2 = 1 by omega]
  rfl
theorem Swp.shut {w1 wr w2 : World} {c : Int → Bool} {d TT K : List (Int × Int)} {p : Nat} {o a m lo : Int} {b cap : Nat} (h : Swp w1 c d TT p o true K lo (.slice (some ⟨b, 0, none⟩) (K.length + 1) cap) wr) (hd : d[p]? = some (a, m)) (hm : -10 ≤ m ∧ m ≤ 10) (hb : Below wr.heap.size wr w2)
    (hq : more a (d.drop (p + 1)) = false) (hc : c (o + m) = false) (x : Int) : Swp w1 c d TT (p + 1) (o + m) false (K ++ [(wrap32 lo, wrap32 (a - 1))]) x (.slice (some ⟨b, 0, none⟩) (K.length + 1) cap) (w2.setCell ⟨b, K.length * 2 + 1, none⟩ (.int .i32 (wrap32 (a - 1)))) := by
  obtain ⟨h1, h2, ⟨k, h3⟩, h4, h5⟩ := h
  have e0 : ∀ x, opn false x = [] := fun _ => rfl
  have e1 : opn true lo = [(wrap32 lo, 0)] := rfl
  rw [e1, List.length_append, List.length_singleton] at h1 h5
  have h1' := own_below h1 hb
  obtain ⟨s1, s2⟩ := h1'.stored (K.length * 2 + 1) (.int .i32 (wrap32 (a - 1)))
  rw [rgV_set] at s1
  refine ⟨?_, ?_, ?_, by omega, ?_⟩
  · rw [e0, List.append_nil, List.length_append, List.length_singleton]
    exact s1
  · exact (h2.trans (hb.mono h2.size)).grown s2 (Nat.le_trans h2.size hb.size) (fun k hk => by injection hk with hk; subst hk; exact (h1.lt _ rfl).1)
  · rw [Nd.drop_some hd] at h3
    simp only [emit] at h3
    rw [if_neg (by rw [hq]; decide), if_neg (by rw [hc]; decide), if_neg (by decide), hc] at h3
    refine ⟨k + 1, ?_⟩
    rw [← h3, List.append_assoc]
    rw [emit_lo _ _ _ x a]
    rfl
  · rw [e0, List.append_nil, List.length_append, List.length_singleton]
    omega
end Rn
set_option maxHeartbeats 8000000 in
theorem stretchB_any (g : Nat) (eg : ∀ args w, (callFunc g args).run Try.prog w = .ok (.enter g args) w) (c : Int → Bool) (hF : ∀ (o : Int) (w : World), Calls Try.prog g #[.int .i64 o] w fun e w' => e = .returned (.bool (c o)) ∧ w' = w)
    (d0 : List (Int × Int)) (v : Value) (B : Nat) (w : World) (hown : w.ownsRow B 65 2 v d0.length (endV d0)) (hl : d0.length ≤ 10000000) (hin : ∀ p ∈ d0, (lowest ≤ p.1 ∧ p.1 ≤ 2147483648) ∧ (-10 ≤ p.2 ∧ p.2 ≤ 10)) :
    Calls Try.prog 27 #[v, .func (.func g) #[] #[]] w fun e w' => ∃ d v' w1, d0.Perm d ∧ Up d ∧ e = .returned v' ∧ Hld w' w.heap.size v' ((emit false (fun _ => c) d 0 0 false 0).map wrapR) ∧ w.grownBy w1 v.ownBlock ∧ Below w1.heap.size w1 w' := by
  have HSort := Lib.hid (sortRn_any _ enterB closureB d0 v B w hown (by omega))
  have HFN := Lib.hid hF
  obtain ⟨i0, hi, hz0, hz1, hz2⟩ := info_partsRn infoRg
  obtain ⟨N, hN⟩ : ∃ k, d0.length = k := ⟨_, rfl⟩
  have HN0 := Lib.hid hN
  obtain ⟨A, cap, hv, hcap⟩ : ∃ A cap, v = .slice A N cap ∧ N ≤ cap := by
    rw [hN] at hown
    rcases hown.2 with ⟨h0, h1⟩ | ⟨g, c, cur, h1, _, _, h4, _⟩
    · exact ⟨none, 0, by rw [h0, h1], by omega⟩
    · exact ⟨_, c, h1, h4⟩
  subst hv
  rw [hN] at HSort hl
  clear hF hN hown
  have n1 : (N : Int) ≤ 9223372036854775807 := by omega
  have HV := Lib.hid (show ∀ k, (Value.slice A N cap).ownBlock = some k → True from fun _ _ => trivial)
  go_enter Try.func27, Try.ntmps27
  go_wp2_with fail
  refine HSort.out.mono ?_
  rintro e w1 ⟨rfl, d, hperm, hup, hown1, hg1⟩
  have hln : d.length = N := by rw [← hperm.length_eq]; exact HN0.out
  have HD := Lib.hid (show ∀ (p : Nat) (a m : Int), d[p]? = some (a, m) → ((lowest ≤ a ∧ a ≤ 2147483648) ∧ (-10 ≤ m ∧ m ≤ 10)) ∧ ∃ b, A = some ⟨b, 0, none⟩ ∧ ∀ wx, Below w1.heap.size w1 wx → wx.cell? ⟨b, p * 2, none⟩ = some (.int .i64 a) ∧ wx.cell? ⟨b, p * 2 + 1, none⟩ = some (.int .i64 m) from by
    intro p a m hp
    refine ⟨hin (a, m) (hperm.mem_iff.2 (List.mem_of_getElem? hp)), ?_⟩
    have hi := (List.getElem?_eq_some_iff.1 hp).1
    rcases hown1.2 with ⟨_, h0⟩ | ⟨b, c', cur, h1, _⟩
    · omega
    · injection h1 with h1 _ hc'
      subst h1 hc'
      refine ⟨b, rfl, fun wx hb => ?_⟩
      obtain ⟨x1, x2⟩ := endV_get d p (a, m) hp
      exact ⟨Nd.cell_keeps hb (by rw [hown1.cellAt _ (by omega)]; exact x1), Nd.cell_keeps hb (by rw [hown1.cellAt _ (by omega)]; exact x2)⟩)
  have HP := Lib.hid (show d0.Perm d ∧ Up d ∧ w.grownBy w1 (Value.slice A N cap).ownBlock from ⟨hperm, hup, hg1⟩)
  have HLN := Lib.hid hln
  obtain ⟨TT, hTT⟩ : ∃ k, (emit false (fun _ => c) d 0 0 false 0).map wrapR = k := ⟨_, rfl⟩
  have HTT := Lib.hid hTT
  have hw1 := hg1.size
  clear hperm hup hown1 hg1 hln hTT HSort hin
  go_wp2_with fail
  go_loopw [5, 7, 8, 16] (fun v5 s o i wr => ∃ (p : Nat) (S : Bool) (O : Int) (K : List (Int × Int)) (lo : Int), p ≤ N ∧ i = .int .i64 p ∧ s = .bool S ∧ o = .int .i64 O ∧ Hid (Swp w1 c d TT p O S K lo v5 wr)) (fun _ _ _ i _ => N - (intOf i).toNat)
  case atStart => exact ⟨0, false, 0, [], 0, Nat.zero_le _, rfl, rfl, rfl, ⟨World.ownsRow_nil _ _ _ _, Below.refl _ _, ⟨0, by rw [List.drop_zero]; exact HTT.out⟩, by omega, Nat.le_refl _⟩⟩
  case round =>
    obtain ⟨p, S, O, K, lo, hp, rfl, rfl, rfl, hS⟩ := hrel
    by_cases hlt : p < N
    · have d2 : decide (p < N) = true := by rw [decide_eq_true_iff]; exact hlt
      have p0 : (p : Int) < (N : Int) := by omega
      obtain ⟨⟨a, m⟩, hd⟩ : ∃ x, d[p]? = some x := ⟨_, List.getElem?_eq_getElem (by rw [HLN.out]; exact hlt)⟩
      obtain ⟨⟨⟨ha1, ha2⟩, hm⟩, b, rfl, hcells⟩ := HD.out p a m hd
      unfold lowest at ha1
      obtain ⟨x1, x2⟩ := hcells wr hS.out.2.1
      have hO := hS.out.2.2.2.1
      have e1 : IntKind.i64.wrap (O + m) = O + m := by simp [IntKind.wrap, IntKind.bits, IntKind.signed]; omega
      have e2 : IntKind.i64.wrap (a - 1) = a - 1 := by simp [IntKind.wrap, IntKind.bits, IntKind.signed]; omega
      have HDP := Lib.hid hd
      have hB := hS.out.2.1
      have x3 : ∀ o1, (wr.alloc o1).cell? ⟨b, p * 2, none⟩ = some (.int .i64 a) := fun o1 => (hcells (wr.alloc o1) (hB.alloc hB.size _)).1
      clear hd
      by_cases hlt2 : p + 1 < N
      · obtain ⟨⟨a', m'⟩, hd'⟩ : ∃ x, d[p + 1]? = some x := ⟨_, List.getElem?_eq_getElem (by rw [HLN.out]; exact hlt2)⟩
        obtain ⟨_, b', hbb, hcells'⟩ := HD.out (p + 1) a' m' hd'
        injection hbb with hbb
        injection hbb with hbb
        subst hbb
        have y1 : ∀ o1, (wr.alloc o1).cell? ⟨b, (p + 1) * 2, none⟩ = some (.int .i64 a') := fun o1 => (hcells' (wr.alloc o1) (hB.alloc hB.size _)).1
        have d3 : decide ((p : Int) + 1 < (N : Int)) = true := by rw [decide_eq_true_iff]; omega
        have p1 : (p : Int) + 1 < (N : Int) := by omega
        have hmore : more a (d.drop (p + 1)) = decide (a' = a) := by rw [more_drop, hd']
        clear hd' hcells hcells'
        by_cases haa : a' = a
        · subst haa
          have HM := Lib.hid (show more a' (d.drop (p + 1)) = true by rw [hmore]; simp)
          have q0 : (a' == a') = true := by simp
          clear hmore
          go_wp2_with fail
          go_quiet (fail)
          go_wp2_with fail
          exact ⟨⟨p + 1, S, O + m, K, lo, by omega, by go_num, rfl, rfl, Lib.hid (hS.out.go HDP.out hm (below_drewN ((Below.refl _ _).alloc (Nat.le_refl _) _) _) (.inl HM.out))⟩, by simp [intOf]; omega⟩
        · have HM := Lib.hid (show more a (d.drop (p + 1)) = false by rw [hmore]; simp [haa])
          have q0 : (a' == a) = false := by simp [haa]
          clear hmore
          obtain ⟨C, hC⟩ : ∃ C, c (O + m) = C := ⟨_, rfl⟩
          have hCall := HFN.out (O + m)
          rw [hC] at hCall
          replace hCall := Lib.hid hCall
          have HC := Lib.hid hC
          have hal : ∀ (nq : Nat) o1, Below wr.heap.size wr ((wr.alloc o1).drewN nq) := fun nq o1 => below_drewN ((Below.refl _ _).alloc (Nat.le_refl _) _) _
          have HAL := Lib.hid hal
          clear hC hal
          cases C <;> cases S
          · go_wp2_with fail
            go_quiet (fail)
            go_wp2_with (go_at_fn g; refine (hCall.out _).mono ?_; rintro e w' ⟨rfl, rfl⟩)
            exact ⟨⟨p + 1, false, O + m, K, lo, by omega, by go_num, rfl, rfl, Lib.hid (hS.out.go HDP.out hm (HAL.out _ _) (.inr HC.out))⟩, by simp [intOf]; omega⟩
          · obtain ⟨b2, cap2, hv5⟩ : ∃ b2 cap2, u5 = .slice (some ⟨b2, 0, none⟩) (K.length + 1) cap2 := by
              rcases hS.out.1.2 with ⟨_, h0⟩ | ⟨b2, cap2, _, h1, _⟩
              · simp [opn] at h0
              · exact ⟨b2, cap2, by rw [h1]; simp [opn]⟩
            subst hv5
            have hrow : wr.ownsRow w1.heap.size 42 2 (.slice (some ⟨b2, 0, none⟩) (K.length + 1) cap2) (K.length + 1) (rgV (K ++ opn true lo)) := by
              have := hS.out.1
              rwa [List.length_append] at this
            have hKp := hS.out.2.2.2.2
            rw [List.length_append] at hKp
            have hk1 : (opn true lo).length = 1 := rfl
            have zc : ∀ (nq : Nat) o1, ((wr.alloc o1).drewN nq).cell? ⟨b2, K.length * 2 + 1, none⟩ = some (.int .i32 0) := fun nq o1 => Nd.cell_keeps (HAL.out nq o1) (by
              rw [hrow.cellAt _ (by omega), rgV_append, List.getElem?_append_right (by rw [rgV_len]; omega), rgV_len, show K.length * 2 + 1 - K.length * 2 = 1 by omega]; rfl)
            have zf : ∀ (nq : Nat) o1, ((wr.alloc o1).drewN nq).frozen? ⟨b2, K.length * 2 + 1, none⟩ = false := fun nq o1 => by
              rw [(HAL.out nq o1).frozen (p := ⟨b2, K.length * 2 + 1, none⟩) (hrow.lt _ rfl).2]; exact hrow.frozenAt _
            have HSH := Lib.hid (fun (nq : Nat) (o1 : Obj) => hS.out.shut HDP.out hm (HAL.out nq o1) HM.out HC.out 0)
            clear hrow hk1 hS
            obtain ⟨KN, hKN⟩ : ∃ k, K.length = k := ⟨_, rfl⟩
            rw [hKN] at HSH zc zf hKp ⊢
            have f1 : (KN : Int) + 1 - 1 = KN := by omega
            have f2 : IntKind.i64.wrap (KN : Int) = KN := by simp [IntKind.wrap, IntKind.bits, IntKind.signed]; omega
            have f3 : (KN : Int) < (KN : Int) + 1 := by omega
            clear hKN
            go_wp2_with fail
            go_quiet (fail)
            go_wp2_with (go_at_fn g; refine (hCall.out _).mono ?_; rintro e w' ⟨rfl, rfl⟩)
            exact ⟨⟨p + 1, false, O + m, _, 0, by omega, by go_num, rfl, rfl, Lib.hid (HSH.out _ _)⟩, by simp [intOf]; omega⟩
          · obtain ⟨A5, cap5, hv5⟩ : ∃ A5 cap5, u5 = .slice A5 K.length cap5 := by
              have := hS.out.1
              rw [show opn false lo = [] from rfl, List.append_nil] at this
              rcases this.2 with ⟨h0, h1⟩ | ⟨b2, cap2, _, h1, _⟩
              · exact ⟨none, 0, by rw [h0, h1]⟩
              · exact ⟨_, cap2, h1⟩
            subst hv5
            have hrow : wr.ownsRow w1.heap.size 42 2 (.slice A5 K.length cap5) K.length (rgV K) := by
              have := hS.out.1
              rwa [show opn false lo = [] from rfl, List.append_nil] at this
            have hKp := hS.out.2.2.2.2
            rw [show opn false lo = [] from rfl, List.append_nil] at hKp
            have HROW := Lib.hid (fun (nq : Nat) (o1 o2 : Obj) => (own_below hrow (HAL.out nq o1)).alloc o2)
            have hsz : ∀ (nq : Nat) (o1 : Obj), ((wr.alloc o1).drewN nq).heap.size = wr.heap.size + 1 := fun nq o1 => World.size_alloc wr o1
            have cn : ∀ (nq : Nat) (o1 : Obj) (j : Nat) (u : Value), [Value.int .i32 (wrap32 a), .int .i32 0][j]? = some u → (((wr.alloc o1).drewN nq).alloc (.cells #[.int .i32 (wrap32 a), .int .i32 0] 42)).cell? ((⟨wr.heap.size + 1, 0, none⟩ : Addr).add j) = some u := fun nq o1 => by
              have := cells_newRn ((wr.alloc o1).drewN nq) [.int .i32 (wrap32 a), .int .i32 0] 42
              rw [hsz] at this
              exact this
            have HCN := Lib.hid cn
            have HOP := Lib.hid (fun (nq : Nat) (o1 o2 : Obj) (v' : Value) (w3 : World) (hown : w3.ownsRow w1.heap.size 42 2 v' (K.length + 1) (rgV K ++ [.int .i32 (wrap32 a), .int .i32 0])) (hg : (((wr.alloc o1).drewN nq).alloc o2).grownBy w3 (Value.slice A5 K.length cap5).ownBlock) => hS.out.open_ HDP.out hm ((HAL.out nq o1).alloc (HAL.out nq o1).size o2) HM.out HC.out hown hg)
            have hw9 := hB.size
            clear cn hrow hS hsz
            generalize rgV K = RK at *
            generalize hKN : K.length = KN at *
            clear hKN
            go_wp2_with fail
            go_quiet (fail)
            go_wp2_with (first
              | (go_at_fn g; refine (hCall.out _).mono ?_; rintro e w' ⟨rfl, rfl⟩)
              | (at_builtin; refine wpList_append_own _ rfl _ _ 22 rfl w1.heap.size 42 i0 (.agg #[.int .i32 0, .int .i32 0]) 2 8 Try.underlying22 hi hz0 hz1 hz2 rfl (by decide) _ _ _ rfl (HROW.out nq _ _) ⟨wr.heap.size + 1, 0, none⟩ 1 1 [.int .i32 (wrap32 a), .int .i32 0] rfl rfl (HCN.out nq _) (fun x hx => by simp at hx; rcases hx with rfl | rfl <;> rfl) (by unfold maxLen; omega) (by omega) (by simp; omega) ?_; intro v' w3 hown3 hg3 _))
            exact ⟨⟨p + 1, true, O + m, K, a, by omega, by go_num, rfl, rfl, Lib.hid (HOP.out nq _ _ _ _ hown3 hg3)⟩, by simp [intOf]; omega⟩
          · go_wp2_with fail
            go_quiet (fail)
            go_wp2_with (go_at_fn g; refine (hCall.out _).mono ?_; rintro e w' ⟨rfl, rfl⟩)
            exact ⟨⟨p + 1, true, O + m, K, lo, by omega, by go_num, rfl, rfl, Lib.hid (hS.out.go HDP.out hm (HAL.out _ _) (.inr HC.out))⟩, by simp [intOf]; omega⟩
      · have d3 : decide ((p : Int) + 1 < (N : Int)) = false := by rw [decide_eq_false_iff_not]; omega
        have hmore : more a (d.drop (p + 1)) = false := by
          rw [List.drop_eq_nil_of_le (by rw [HLN.out]; omega)]; rfl
        have HM := Lib.hid hmore
        clear hmore hcells
        obtain ⟨C, hC⟩ : ∃ C, c (O + m) = C := ⟨_, rfl⟩
        have hCall := HFN.out (O + m)
        rw [hC] at hCall
        replace hCall := Lib.hid hCall
        have HC := Lib.hid hC
        have hal : ∀ (nq : Nat) o1, Below wr.heap.size wr ((wr.alloc o1).drewN nq) := fun nq o1 => below_drewN ((Below.refl _ _).alloc (Nat.le_refl _) _) _
        have HAL := Lib.hid hal
        clear hC hal
        cases C <;> cases S
        · go_wp2_with fail
          go_quiet (fail)
          go_wp2_with (go_at_fn g; refine (hCall.out _).mono ?_; rintro e w' ⟨rfl, rfl⟩)
          exact ⟨⟨p + 1, false, O + m, K, lo, by omega, by go_num, rfl, rfl, Lib.hid (hS.out.go HDP.out hm (HAL.out _ _) (.inr HC.out))⟩, by simp [intOf]; omega⟩
        · obtain ⟨b2, cap2, hv5⟩ : ∃ b2 cap2, u5 = .slice (some ⟨b2, 0, none⟩) (K.length + 1) cap2 := by
            rcases hS.out.1.2 with ⟨_, h0⟩ | ⟨b2, cap2, _, h1, _⟩
            · simp [opn] at h0
            · exact ⟨b2, cap2, by rw [h1]; simp [opn]⟩
          subst hv5
          have hrow : wr.ownsRow w1.heap.size 42 2 (.slice (some ⟨b2, 0, none⟩) (K.length + 1) cap2) (K.length + 1) (rgV (K ++ opn true lo)) := by
            have := hS.out.1
            rwa [List.length_append] at this
          have hKp := hS.out.2.2.2.2
          rw [List.length_append] at hKp
          have hk1 : (opn true lo).length = 1 := rfl
          have zc : ∀ (nq : Nat) o1, ((wr.alloc o1).drewN nq).cell? ⟨b2, K.length * 2 + 1, none⟩ = some (.int .i32 0) := fun nq o1 => Nd.cell_keeps (HAL.out nq o1) (by
            rw [hrow.cellAt _ (by omega), rgV_append, List.getElem?_append_right (by rw [rgV_len]; omega), rgV_len, show K.length * 2 + 1 - K.length * 2 = 1 by omega]; rfl)
          have zf : ∀ (nq : Nat) o1, ((wr.alloc o1).drewN nq).frozen? ⟨b2, K.length * 2 + 1, none⟩ = false := fun nq o1 => by
            rw [(HAL.out nq o1).frozen (p := ⟨b2, K.length * 2 + 1, none⟩) (hrow.lt _ rfl).2]; exact hrow.frozenAt _
          have HSH := Lib.hid (fun (nq : Nat) (o1 : Obj) => hS.out.shut HDP.out hm (HAL.out nq o1) HM.out HC.out 0)
          clear hrow hk1 hS
          obtain ⟨KN, hKN⟩ : ∃ k, K.length = k := ⟨_, rfl⟩
          rw [hKN] at HSH zc zf hKp ⊢
          have f1 : (KN : Int) + 1 - 1 = KN := by omega
          have f2 : IntKind.i64.wrap (KN : Int) = KN := by simp [IntKind.wrap, IntKind.bits, IntKind.signed]; omega
          have f3 : (KN : Int) < (KN : Int) + 1 := by omega
          clear hKN
          go_wp2_with fail
          go_quiet (fail)
          go_wp2_with (go_at_fn g; refine (hCall.out _).mono ?_; rintro e w' ⟨rfl, rfl⟩)
          exact ⟨⟨p + 1, false, O + m, _, 0, by omega, by go_num, rfl, rfl, Lib.hid (HSH.out _ _)⟩, by simp [intOf]; omega⟩
        · obtain ⟨A5, cap5, hv5⟩ : ∃ A5 cap5, u5 = .slice A5 K.length cap5 := by
            have := hS.out.1
            rw [show opn false lo = [] from rfl, List.append_nil] at this
            rcases this.2 with ⟨h0, h1⟩ | ⟨b2, cap2, _, h1, _⟩
            · exact ⟨none, 0, by rw [h0, h1]⟩
            · exact ⟨_, cap2, h1⟩
          subst hv5
          have hrow : wr.ownsRow w1.heap.size 42 2 (.slice A5 K.length cap5) K.length (rgV K) := by
            have := hS.out.1
            rwa [show opn false lo = [] from rfl, List.append_nil] at this
          have hKp := hS.out.2.2.2.2
          rw [show opn false lo = [] from rfl, List.append_nil] at hKp
          have HROW := Lib.hid (fun (nq : Nat) (o1 o2 : Obj) => (own_below hrow (HAL.out nq o1)).alloc o2)
          have hsz : ∀ (nq : Nat) (o1 : Obj), ((wr.alloc o1).drewN nq).heap.size = wr.heap.size + 1 := fun nq o1 => World.size_alloc wr o1
          have cn : ∀ (nq : Nat) (o1 : Obj) (j : Nat) (u : Value), [Value.int .i32 (wrap32 a), .int .i32 0][j]? = some u → (((wr.alloc o1).drewN nq).alloc (.cells #[.int .i32 (wrap32 a), .int .i32 0] 42)).cell? ((⟨wr.heap.size + 1, 0, none⟩ : Addr).add j) = some u := fun nq o1 => by
            have := cells_newRn ((wr.alloc o1).drewN nq) [.int .i32 (wrap32 a), .int .i32 0] 42
            rw [hsz] at this
            exact this
          have HCN := Lib.hid cn
          have HOP := Lib.hid (fun (nq : Nat) (o1 o2 : Obj) (v' : Value) (w3 : World) (hown : w3.ownsRow w1.heap.size 42 2 v' (K.length + 1) (rgV K ++ [.int .i32 (wrap32 a), .int .i32 0])) (hg : (((wr.alloc o1).drewN nq).alloc o2).grownBy w3 (Value.slice A5 K.length cap5).ownBlock) => hS.out.open_ HDP.out hm ((HAL.out nq o1).alloc (HAL.out nq o1).size o2) HM.out HC.out hown hg)
          have hw9 := hB.size
          clear cn hrow hS hsz
          generalize rgV K = RK at *
          generalize hKN : K.length = KN at *
          clear hKN
          go_wp2_with fail
          go_quiet (fail)
          go_wp2_with (first
            | (go_at_fn g; refine (hCall.out _).mono ?_; rintro e w' ⟨rfl, rfl⟩)
            | (at_builtin; refine wpList_append_own _ rfl _ _ 22 rfl w1.heap.size 42 i0 (.agg #[.int .i32 0, .int .i32 0]) 2 8 Try.underlying22 hi hz0 hz1 hz2 rfl (by decide) _ _ _ rfl (HROW.out nq _ _) ⟨wr.heap.size + 1, 0, none⟩ 1 1 [.int .i32 (wrap32 a), .int .i32 0] rfl rfl (HCN.out nq _) (fun x hx => by simp at hx; rcases hx with rfl | rfl <;> rfl) (by unfold maxLen; omega) (by omega) (by simp; omega) ?_; intro v' w3 hown3 hg3 _))
          exact ⟨⟨p + 1, true, O + m, K, a, by omega, by go_num, rfl, rfl, Lib.hid (HOP.out nq _ _ _ _ hown3 hg3)⟩, by simp [intOf]; omega⟩
        · go_wp2_with fail
          go_quiet (fail)
          go_wp2_with (go_at_fn g; refine (hCall.out _).mono ?_; rintro e w' ⟨rfl, rfl⟩)
          exact ⟨⟨p + 1, true, O + m, K, lo, by omega, by go_num, rfl, rfl, Lib.hid (hS.out.go HDP.out hm (HAL.out _ _) (.inr HC.out))⟩, by simp [intOf]; omega⟩
    · have d2 : decide (p < N) = false := by rw [decide_eq_false_iff_not]; exact hlt
      have hend : K ++ opn S lo = TT := by
        obtain ⟨k, hk⟩ := hS.out.2.2.1
        rw [List.drop_eq_nil_of_le (by rw [HLN.out]; omega), emit_nil] at hk
        rw [← hk]
        cases S <;> rfl
      have hfin : u5 = .slice none 0 0 ∧ TT = [] ∨ ∃ b n cap cur, u5 = .slice (some ⟨b, 0, none⟩) n cap ∧ n = TT.length ∧ w1.heap.size ≤ b ∧ wr.heap[b]? = some (.cells cur 42 (0, 0)) ∧ (n ≤ cap ∧ cap ≤ maxLen) ∧ cap * 2 = cur.size ∧ cur.toList.take (n * 2) = rgV TT := by
        rw [← hend]
        rcases hS.out.1.2 with ⟨h0, h1⟩ | ⟨b, cap, cur, h1, h2, h3, h4, h5, h6, h7⟩
        · exact .inl ⟨h0, List.eq_nil_of_length_eq_zero h1⟩
        · exact .inr ⟨b, _, cap, cur, h1, rfl, h2, h3, ⟨h4, h5⟩, h6.symm, h7⟩
      have HB := Lib.hid hS.out.2.1
      have HT2 := Lib.hid hend
      clear hS hend
      rcases hfin with ⟨rfl, hnil⟩ | ⟨b, n, cap2, cur, rfl, hn, hb, hcur, ⟨hn1, hn2⟩, hn3, hn4⟩
      · have HNil := Lib.hid hnil
        clear hnil
        go_wp2_with (go_at_call 44; refine (ClipRn_nil _).mono ?_; rintro e w' ⟨rfl, rfl⟩)
        go_ret
        exact ⟨d, _, w1, HP.out.1, HP.out.2.1, rfl, .inl ⟨rfl, by rw [HTT.out]; exact HNil.out⟩, HP.out.2.2, HB.out⟩
      · have HOwn : Hid (Hld wr w.heap.size (.slice (some ⟨b, 0, none⟩) n n) TT) := Lib.hid (.inr ⟨b, n, cur, by rw [hn], by omega, hcur, by omega, by omega, by rw [← hn]; exact hn4, by omega⟩)
        have hn2' : cap2 ≤ 9223372036854775807 := by unfold maxLen at hn2; omega
        clear hn hcur hn4 hn3 hn2
        go_wp2_with (go_at_call 44; refine (ClipRn_some _ _ _ hn1 hn2' _).mono ?_; rintro e w' ⟨rfl, rfl⟩)
        go_ret
        exact ⟨d, _, w1, HP.out.1, HP.out.2.1, rfl, by rw [HTT.out]; exact HOwn.out, HP.out.2.2, HB.out⟩
end Go.Proofs.Ytianappapfpbeaa
