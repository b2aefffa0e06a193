/- ranges.stretches at int, as Split has it: each number at which ends stand is counted by a label of its own, which a box counts. -/
import Derived.Test.YtianappapfpbeaaRnG
namespace Go.Proofs.Ytianappapfpbeaa
open Go Go.RowKit Rn
set_option maxRecDepth 100000

namespace Rn
theorem grown_trans {a b c : World} {row : Option Nat} (h : a.grownBy b row) (k : b.grownBy c row) : a.grownBy c row :=
  ⟨k.os.trans h.os, k.tape.trans h.tape, k.output.trans h.output, Nat.le_trans h.size k.size, fun i hi hr => (k.block i (Nat.lt_of_lt_of_le hi h.size) hr).trans (h.block i hi hr)⟩
theorem grown_of {a b : World} (row : Option Nat) (h : Below a.heap.size a b) : a.grownBy b row := ⟨h.os, h.tape, h.output, h.size, fun i hi _ => h.block i hi⟩
theorem own_kept {w w' : World} {B q : Nat} {e : TypeId} {size n : Nat} {v : Value} {xs : List Value} (h : w.ownsRow B e size v n xs) (hg : w.grownBy w' (some q)) (hq : q < B) : w'.ownsRow B e size v n xs := by
  refine h.kept hg ?_
  cases hv : v.ownBlock with
  | none => exact .inl rfl
  | some k =>
    refine .inr fun e => ?_
    injection e with e
    have := (h.lt k hv).1
    omega
def opnI (s : Int) (lo : Int) : List (Int × Int) := if s = 0 then [] else [(wrap32 lo, 0)]
theorem opnI_0 (lo : Int) : opnI 0 lo = [] := rfl
theorem opnI_1 {s : Int} (h : s ≠ 0) (lo : Int) : opnI s lo = [(wrap32 lo, 0)] := if_neg h
/-- Where stretches stands: p ends have been gone through, k numbers, o is open, s was counted last; q is the box that counts. -/
structure SwpI (w1 : World) (q : Nat) (d TT : List (Int × Int)) (p k : Nat) (o s : Int) (K : List (Int × Int)) (lo : Int) (v5 : Value) (wr : World) : Prop where
  own : wr.ownsRow w1.heap.size 42 2 v5 (K ++ opnI s lo).length (rgV (K ++ opnI s lo))
  grown : w1.grownBy wr (some q)
  box : Bk wr q 3 #[.int .i64 k]
  out : K ++ (emit 0 labelC (d.drop p) k o s lo).map wrapR = TT
  bnd : -10 * (p : Int) ≤ o ∧ o ≤ 10 * p
  len : (K ++ opnI s lo).length ≤ p
  kle : k ≤ p
  low : q < w1.heap.size
/-- An end more at the same number. -/
theorem SwpI.again {w1 wr w' : World} {q : Nat} {d TT K : List (Int × Int)} {p k : Nat} {o s a m lo : Int} {v5 : Value} (h : SwpI w1 q d TT p k o s K lo v5 wr) (hd : d[p]? = some (a, m)) (hm : -10 ≤ m ∧ m ≤ 10) (hb : Below wr.heap.size wr w') (hc : more a (d.drop (p + 1)) = true) : SwpI w1 q d TT (p + 1) k (o + m) s K lo v5 w' := by
  refine ⟨own_below h.own hb, grown_trans h.grown (grown_of _ hb), h.box.below hb h.box.lt, ?_, by have := h.bnd; omega, by have := h.len; omega, by have := h.kle; omega, h.low⟩
  have h3 := h.out
  rw [Nd.drop_some hd] at h3
  simp only [emit] at h3
  rw [if_pos hc] at h3
  exact h3
/-- What is counted is the same. -/
theorem SwpI.same {w1 wr w2 : World} {q : Nat} {d TT K : List (Int × Int)} {p k : Nat} {o s a m lo : Int} {v5 : Value} (h : SwpI w1 q d TT p k o s K lo v5 wr) (hd : d[p]? = some (a, m)) (hm : -10 ≤ m ∧ m ≤ 10) (hg : wr.grownBy w2 (some q)) (hk : Bk w2 q 3 #[.int .i64 (k + 1 : Nat)])
    (hq : more a (d.drop (p + 1)) = false) (hc : labelC k (o + m) = s) : SwpI w1 q d TT (p + 1) (k + 1) (o + m) s K lo v5 w2 := by
  refine ⟨own_kept h.own hg h.low, grown_trans h.grown hg, hk, ?_, by have := h.bnd; omega, by have := h.len; omega, by have := h.kle; omega, h.low⟩
  have h3 := h.out
  rw [Nd.drop_some hd] at h3
  simp only [emit] at h3
  rw [if_neg (by rw [hq]; decide), if_pos hc] at h3
  exact h3
theorem grow_row {w1 wa w' : World} {q : Nat} {row : Option Nat} (h : w1.grownBy wa (some q)) (hg : wa.grownBy w' row) (hr : ∀ k, row = some k → w1.heap.size ≤ k) : w1.grownBy w' (some q) :=
  ⟨hg.os.trans h.os, hg.tape.trans h.tape, hg.output.trans h.output, Nat.le_trans h.size hg.size, fun i hi hne => (hg.block i (Nat.lt_of_lt_of_le hi h.size) (fun e => by have := hr i e.symm; omega)).trans (h.block i hi hne)⟩
/-- A range begins. -/
theorem SwpI.open_ {w1 wr w2 w3 w' : World} {q : Nat} {d TT K : List (Int × Int)} {p k : Nat} {o a m lo C : Int} {v5 v' : Value} (h : SwpI w1 q d TT p k o 0 K lo v5 wr) (hd : d[p]? = some (a, m)) (hm : -10 ≤ m ∧ m ≤ 10) (hg : wr.grownBy w2 (some q)) (hk : Bk w2 q 3 #[.int .i64 (k + 1 : Nat)])
    (hq : more a (d.drop (p + 1)) = false) (hc : labelC k (o + m) = C) (hC : C ≠ 0) (h3b : Below w2.heap.size w2 w3) (hown : w'.ownsRow w1.heap.size 42 2 v' (K.length + 1) (rgV K ++ [.int .i32 (wrap32 a), .int .i32 0])) (hg' : w3.grownBy w' v5.ownBlock) : SwpI w1 q d TT (p + 1) (k + 1) (o + m) C K a v' w' := by
  have hlt := h.own.lt
  have hrow : ∀ k, v5.ownBlock = some k → w1.heap.size ≤ k := fun k hk => (hlt k hk).1
  refine ⟨?_, grow_row (grown_trans (grown_trans h.grown hg) (grown_of _ h3b)) hg' hrow, ?_, ?_, by have := h.bnd; omega, ?_, by have := h.kle; omega, h.low⟩
  · rw [opnI_1 hC, List.length_append, rgV_append]
    exact hown
  · exact (hk.below h3b hk.lt).grown hg' (fun e => by have := hrow q e.symm; have := h.low; omega)
  · have h3 := h.out
    rw [Nd.drop_some hd] at h3
    simp only [emit] at h3
    rw [if_neg (by rw [hq]; decide), hc, if_neg hC, if_pos trivial] at h3
    exact h3
  · have := h.len
    rw [opnI_0, List.append_nil] at this
    rw [opnI_1 hC, List.length_append, List.length_singleton]
    omega
theorem SwpI.row {w1 wr : World} {q : Nat} {d TT K : List (Int × Int)} {p k : Nat} {o s lo : Int} {b cap : Nat} (h : SwpI w1 q d TT p k o s K lo (.slice (some ⟨b, 0, none⟩) (K.length + 1) cap) wr) (hs : s ≠ 0) : wr.ownsRow w1.heap.size 42 2 (.slice (some ⟨b, 0, none⟩) (K.length + 1) cap) (K.length + 1) (rgV (K ++ [(wrap32 lo, 0)])) := by
  have := h.own
  rw [opnI_1 hs, List.length_append, List.length_singleton] at this
  exact this
/-- A range ends. -/
theorem SwpI.shut {w1 wr w2 : World} {q : Nat} {d TT K : List (Int × Int)} {p k : Nat} {o s a m lo : Int} {b cap : Nat} (h : SwpI w1 q d TT p k o s K lo (.slice (some ⟨b, 0, none⟩) (K.length + 1) cap) wr) (hs : s ≠ 0) (hd : d[p]? = some (a, m)) (hm : -10 ≤ m ∧ m ≤ 10) (hg : wr.grownBy w2 (some q)) (hk : Bk w2 q 3 #[.int .i64 (k + 1 : Nat)])
    (hq : more a (d.drop (p + 1)) = false) (hc : labelC k (o + m) = 0) (x : Int) : SwpI w1 q d TT (p + 1) (k + 1) (o + m) 0 (K ++ [(wrap32 lo, wrap32 (a - 1))]) x (.slice (some ⟨b, 0, none⟩) (K.length + 1) cap) (w2.setCell ⟨b, K.length * 2 + 1, none⟩ (.int .i32 (wrap32 (a - 1)))) := by
  have h1' := own_kept (h.row hs) hg h.low
  have hlt := (h1'.lt b rfl).1
  obtain ⟨s1, s2⟩ := h1'.stored (K.length * 2 + 1) (.int .i32 (wrap32 (a - 1)))
  rw [rgV_set] at s1
  refine ⟨?_, grow_row (grown_trans h.grown hg) s2 (fun k hk => by injection hk with hk; omega), hk.other _ _ (by have := h.low; simp only; omega), ?_, by have := h.bnd; omega, ?_, by have := h.kle; omega, h.low⟩
  · rw [opnI_0, List.append_nil, List.length_append, List.length_singleton]
    exact s1
  · have h3 := h.out
    rw [Nd.drop_some hd] at h3
    simp only [emit] at h3
    rw [if_neg (by rw [hq]; decide), hc, if_neg (fun e => hs e.symm), if_neg hs] at h3
    rw [← h3, List.append_assoc]
    rw [emit_lo _ _ _ x a]
    rfl
  · have := h.len
    rw [opnI_1 hs, List.length_append, List.length_singleton] at this
    rw [opnI_0, List.append_nil, List.length_append, List.length_singleton]
    omega
/-- A range ends, another one begins. -/
theorem SwpI.both {w1 wr w2 w3 w' : World} {q : Nat} {d TT K : List (Int × Int)} {p k : Nat} {o s a m lo C : Int} {b cap : Nat} {v' : Value} (h : SwpI w1 q d TT p k o s K lo (.slice (some ⟨b, 0, none⟩) (K.length + 1) cap) wr) (hs : s ≠ 0) (hd : d[p]? = some (a, m)) (hm : -10 ≤ m ∧ m ≤ 10) (hg : wr.grownBy w2 (some q)) (hk : Bk w2 q 3 #[.int .i64 (k + 1 : Nat)])
    (hq : more a (d.drop (p + 1)) = false) (hc : labelC k (o + m) = C) (hC : C ≠ 0) (hCs : C ≠ s) (h3b : Below (w2.setCell ⟨b, K.length * 2 + 1, none⟩ (.int .i32 (wrap32 (a - 1)))).heap.size (w2.setCell ⟨b, K.length * 2 + 1, none⟩ (.int .i32 (wrap32 (a - 1)))) w3)
    (hown : w'.ownsRow w1.heap.size 42 2 v' (K.length + 1 + 1) (rgV (K ++ [(wrap32 lo, wrap32 (a - 1))]) ++ [.int .i32 (wrap32 a), .int .i32 0])) (hg' : w3.grownBy w' (some b)) : SwpI w1 q d TT (p + 1) (k + 1) (o + m) C (K ++ [(wrap32 lo, wrap32 (a - 1))]) a v' w' := by
  have h1' := own_kept (h.row hs) hg h.low
  have hlt := (h1'.lt b rfl).1
  obtain ⟨s1, s2⟩ := h1'.stored (K.length * 2 + 1) (.int .i32 (wrap32 (a - 1)))
  have hk2 : Bk (w2.setCell ⟨b, K.length * 2 + 1, none⟩ (.int .i32 (wrap32 (a - 1)))) q 3 #[.int .i64 (k + 1 : Nat)] := hk.other _ _ (by have := h.low; simp only; omega)
  refine ⟨?_, grow_row (grown_trans (grow_row (grown_trans h.grown hg) s2 (fun k hk => by injection hk with hk; omega)) (grown_of _ h3b)) hg' (fun k hk => by injection hk with hk; omega), (hk2.below h3b hk2.lt).grown hg' (fun e => by injection e with e; have := h.low; omega), ?_, by have := h.bnd; omega, ?_, by have := h.kle; omega, h.low⟩
  · rw [opnI_1 hC, List.length_append, List.length_append, rgV_append]
    exact hown
  · have h3 := h.out
    rw [Nd.drop_some hd] at h3
    simp only [emit] at h3
    rw [if_neg (by rw [hq]; decide), hc, if_neg hCs, if_neg hs] at h3
    rw [← h3, List.append_assoc]
    rfl
  · have := h.len
    rw [opnI_1 hs, List.length_append, List.length_singleton] at this
    rw [opnI_1 hC, List.length_append, List.length_append, List.length_singleton, List.length_singleton]
    omega
/-- What the row holds where a range is open. -/
theorem row_high {w : World} {B b cap : Nat} {K : List (Int × Int)} {lo : Int} (h : w.ownsRow B 42 2 (.slice (some ⟨b, 0, none⟩) (K.length + 1) cap) (K.length + 1) (rgV (K ++ [(wrap32 lo, 0)]))) : w.cell? ⟨b, K.length * 2 + 1, none⟩ = some (.int .i32 0) ∧ w.frozen? ⟨b, K.length * 2 + 1, none⟩ = false := by
  refine ⟨?_, h.frozenAt _⟩
  rw [h.cellAt _ (by omega), rgV_append, List.getElem?_append_right (by rw [rgV_len]; omega), rgV_len, show K.length * 2 + 1 - K.length * 2 = 1 by omega]
  rfl
end Rn
set_option maxHeartbeats 1000000 in
theorem Split1_any (o : Int) (k q : Nat) (w : World) (hq : Bk w q 3 #[.int .i64 k]) (hk : k ≤ 1000000000) :
    Calls Try.prog 38 #[.int .i64 o, .pointer (some ⟨q, 0, none⟩)] w fun e w' => e = .returned (.int .i64 (labelC k o)) ∧ w.grownBy w' (some q) ∧ Bk w' q 3 #[.int .i64 (k + 1 : Nat)] := by
  have c0 := hq.cell 0
  have f0 := hq.free 0
  simp at c0
  have HQ := Lib.hid hq
  have e1 : IntKind.i64.wrap ((k : Int) + 1) = (k : Int) + 1 := by simp [IntKind.wrap, IntKind.bits, IntKind.signed]; omega
  have hfin : Hid (w.grownBy (w.setCell ⟨q, 0, none⟩ (.int .i64 ((k : Int) + 1))) (some q) ∧ Bk (w.setCell ⟨q, 0, none⟩ (.int .i64 ((k : Int) + 1))) q 3 #[.int .i64 (k + 1 : Nat)]) := Lib.hid ⟨⟨rfl, rfl, rfl, by simp, fun i _ hi => Below.heap_setCell _ _ _ _ (fun e => hi (by simp [e]))⟩, by have := hq.set 0 (.int .i64 ((k : Int) + 1)); simpa using this⟩
  clear hq
  by_cases ho : o = 0
  · have h1 : labelC k o = 0 := by unfold labelC; rw [if_pos ho]
    rw [h1]
    have q0 : (o == 0) = true := by rw [beq_iff_eq]; exact ho
    clear h1
    go_enter Try.func38, Try.ntmps38
    go_wp2_with fail
    go_ret
    exact ⟨rfl, hfin.out⟩
  · have h1 : labelC k o = (k : Int) + 1 := by unfold labelC; rw [if_neg ho]
    rw [h1]
    have q0 : (o == 0) = false := by rw [beq_eq_false_iff_ne]; exact ho
    clear h1
    go_enter Try.func38, Try.ntmps38
    go_wp2_with fail
    go_ret
    exact ⟨rfl, hfin.out⟩
set_option maxHeartbeats 16000000 in
theorem stretchI_any (q : Nat) (d0 : List (Int × Int)) (v : Value) (B : Nat) (w : World) (hown : w.ownsRow B 65 2 v d0.length (endV d0)) (hl : d0.length ≤ 10000000) (hin : ∀ p ∈ d0, (lowest ≤ p.1 ∧ p.1 ≤ 2147483648) ∧ (-10 ≤ p.2 ∧ p.2 ≤ 10)) (hbox : Bk w q 3 #[.int .i64 (0 : Nat)]) (hqv : v.ownBlock ≠ some q) :
    Calls Try.prog 37 #[v, .func (.func 38) #[] #[.pointer (some ⟨q, 0, none⟩)]] w fun e w' => ∃ d v' w1, d0.Perm d ∧ Up d ∧ e = .returned v' ∧ Hld w' w.heap.size v' ((emit 0 labelC d 0 0 0 0).map wrapR) ∧ w.grownBy w1 v.ownBlock ∧ w1.grownBy w' (some q) := by
  have HSort := Lib.hid (sortRn_any _ enterI closureI d0 v B w hown (by omega))
  obtain ⟨i0, hi, hz0, hz1, hz2⟩ := info_partsRn infoRg
  obtain ⟨N, hN⟩ : ∃ k, d0.length = k := ⟨_, rfl⟩
  have HN0 := Lib.hid hN
  obtain ⟨A, cap, hv, hcap⟩ : ∃ A cap, v = .slice A N cap ∧ N ≤ cap := by
    rw [hN] at hown
    rcases hown.2 with ⟨h0, h1⟩ | ⟨g, c, cur, h1, _, _, h4, _⟩
    · exact ⟨none, 0, by rw [h0, h1], by omega⟩
    · exact ⟨_, c, h1, h4⟩
  subst hv
  rw [hN] at HSort hl
  have HBox := Lib.hid hbox
  have HQV := Lib.hid hqv
  clear hN hown hbox hqv
  have n1 : (N : Int) ≤ 9223372036854775807 := by omega
  go_enter Try.func37, Try.ntmps37
  go_wp2_with fail
  refine HSort.out.mono ?_
  rintro e w1 ⟨rfl, d, hperm, hup, hown1, hg1⟩
  have hln : d.length = N := by rw [← hperm.length_eq]; exact HN0.out
  have HD := Lib.hid (show ∀ (p : Nat) (a m : Int), d[p]? = some (a, m) → ((lowest ≤ a ∧ a ≤ 2147483648) ∧ (-10 ≤ m ∧ m ≤ 10)) ∧ ∃ b, A = some ⟨b, 0, none⟩ ∧ ∀ wx, w1.grownBy wx (some q) → wx.cell? ⟨b, p * 2, none⟩ = some (.int .i64 a) ∧ wx.cell? ⟨b, p * 2 + 1, none⟩ = some (.int .i64 m) from by
    intro p a m hp
    refine ⟨hin (a, m) (hperm.mem_iff.2 (List.mem_of_getElem? hp)), ?_⟩
    have hi := (List.getElem?_eq_some_iff.1 hp).1
    rcases hown1.2 with ⟨_, h0⟩ | ⟨b, c', cur, h1, _⟩
    · omega
    · injection h1 with h1 _ hc'
      subst h1 hc'
      refine ⟨b, rfl, fun wx hb => ?_⟩
      obtain ⟨x1, x2⟩ := endV_get d p (a, m) hp
      exact ⟨hb.cell (a := ⟨b, p * 2, none⟩) (by rw [hown1.cellAt _ (by omega)]; exact x1) HQV.out, hb.cell (a := ⟨b, p * 2 + 1, none⟩) (by rw [hown1.cellAt _ (by omega)]; exact x2) HQV.out⟩)
  have HP := Lib.hid (show d0.Perm d ∧ Up d ∧ w.grownBy w1 (Value.slice A N cap).ownBlock from ⟨hperm, hup, hg1⟩)
  have HLN := Lib.hid hln
  obtain ⟨TT, hTT⟩ : ∃ k, (emit 0 labelC d 0 0 0 0).map wrapR = k := ⟨_, rfl⟩
  have HTT := Lib.hid hTT
  have hw1 := hg1.size
  have hbox1 : Bk w1 q 3 #[.int .i64 (0 : Nat)] := HBox.out.grown hg1 (fun e => HQV.out e.symm)
  have HBox1 := Lib.hid hbox1
  clear hperm hup hown1 hg1 hln hTT HSort hin hbox1
  go_wp2_with fail
  go_loopw [5, 7, 8, 16] (fun v5 s o i wr => ∃ (p k : Nat) (S : Int) (O : Int) (K : List (Int × Int)) (lo : Int), p ≤ N ∧ i = .int .i64 p ∧ s = .int .i64 S ∧ o = .int .i64 O ∧ Hid (SwpI w1 q d TT p k O S K lo v5 wr)) (fun _ _ _ i _ => N - (intOf i).toNat)
  case atStart => exact ⟨0, 0, 0, 0, [], 0, Nat.zero_le _, rfl, rfl, rfl, ⟨World.ownsRow_nil _ _ _ _, grown_of _ (Below.refl _ _), HBox1.out, by rw [List.drop_zero]; exact HTT.out, by omega, Nat.le_refl _, Nat.le_refl _, HBox1.out.lt⟩⟩
  case round =>
    obtain ⟨p, k, S, O, K, lo, hp, rfl, rfl, rfl, hS⟩ := hrel
    by_cases hlt : p < N
    · have d2 : decide (p < N) = true := by rw [decide_eq_true_iff]; exact hlt
      have p0 : (p : Int) < (N : Int) := by omega
      obtain ⟨⟨a, m⟩, hd⟩ : ∃ x, d[p]? = some x := ⟨_, List.getElem?_eq_getElem (by rw [HLN.out]; exact hlt)⟩
      obtain ⟨⟨⟨ha1, ha2⟩, hm⟩, b, rfl, hcells⟩ := HD.out p a m hd
      unfold lowest at ha1
      obtain ⟨x1, x2⟩ := hcells wr hS.out.grown
      have hO := hS.out.bnd
      have hkp := hS.out.kle
      have e1 : IntKind.i64.wrap (O + m) = O + m := by simp [IntKind.wrap, IntKind.bits, IntKind.signed]; omega
      have e2 : IntKind.i64.wrap (a - 1) = a - 1 := by simp [IntKind.wrap, IntKind.bits, IntKind.signed]; omega
      have HDP := Lib.hid hd
      have hal0 : ∀ o1, w1.grownBy (wr.alloc o1) (some q) := fun o1 => grown_trans hS.out.grown (World.grownBy_alloc _ _ _)
      have x3 : ∀ o1, (wr.alloc o1).cell? ⟨b, p * 2, none⟩ = some (.int .i64 a) := fun o1 => (hcells (wr.alloc o1) (hal0 o1)).1
      clear hd
      by_cases hlt2 : p + 1 < N
      · obtain ⟨⟨a', m'⟩, hd'⟩ : ∃ x, d[p + 1]? = some x := ⟨_, List.getElem?_eq_getElem (by rw [HLN.out]; exact hlt2)⟩
        obtain ⟨_, b', hbb, hcells'⟩ := HD.out (p + 1) a' m' hd'
        injection hbb with hbb
        injection hbb with hbb
        subst hbb
        have y1 : ∀ o1, (wr.alloc o1).cell? ⟨b, (p + 1) * 2, none⟩ = some (.int .i64 a') := fun o1 => (hcells' (wr.alloc o1) (hal0 o1)).1
        have d3 : decide ((p : Int) + 1 < (N : Int)) = true := by rw [decide_eq_true_iff]; omega
        have p1 : (p : Int) + 1 < (N : Int) := by omega
        have hmore : more a (d.drop (p + 1)) = decide (a' = a) := by rw [more_drop, hd']
        clear hd' hcells hcells' hal0
        by_cases haa : a' = a
        · subst haa
          have HM := Lib.hid (show more a' (d.drop (p + 1)) = true by rw [hmore]; simp)
          have q0 : (a' == a') = true := by simp
          clear hmore
          go_wp2_with fail
          go_quiet (fail)
          go_wp2_with fail
          exact ⟨⟨p + 1, k, S, O + m, K, lo, by omega, by go_num, rfl, rfl, Lib.hid (hS.out.again HDP.out hm (below_drewN ((Below.refl _ _).alloc (Nat.le_refl _) _) _) HM.out)⟩, by simp [intOf]; omega⟩
        · have HM := Lib.hid (show more a (d.drop (p + 1)) = false by rw [hmore]; simp [haa])
          have q0 : (a' == a) = false := by simp [haa]
          clear hmore
          obtain ⟨C, hC⟩ : ∃ C, labelC k (O + m) = C := ⟨_, rfl⟩
          have hqr : q < wr.heap.size := hS.out.box.lt
          have hqe : ∀ nq (o1 : Obj), wr.grownBy ((wr.alloc o1).drewN nq) (some q) := fun nq o1 => grown_of _ (below_drewN ((Below.refl _ _).alloc (Nat.le_refl _) _) _)
          have hCall := fun (nq : Nat) (o1 : Obj) => Split1_any (O + m) k q ((wr.alloc o1).drewN nq) (hS.out.box.below (below_drewN ((Below.refl _ wr).alloc (Nat.le_refl _) o1) nq) hS.out.box.lt) (by omega)
          rw [hC] at hCall
          have HCall := Lib.hid (fun (nq : Nat) => (hCall nq (.cells #[.int .i64 a, .int .i64 m] 65)).mono (R' := fun e w2 => e = .returned (.int .i64 C) ∧ wr.grownBy w2 (some q) ∧ Bk w2 q 3 #[.int .i64 (k + 1 : Nat)] ∧ w2.cell? ⟨wr.heap.size, 0, none⟩ = some (.int .i64 a) ∧ wr.heap.size + 1 ≤ w2.heap.size) (by
            rintro e w2 ⟨rfl, h1, h2⟩
            refine ⟨rfl, grown_trans (hqe nq _) h1, h2, h1.cell (a := ⟨wr.heap.size, 0, none⟩) ?_ (by intro e; injection e with e; change wr.heap.size = q at e; omega), ?_⟩
            · have := (Bk.made wr 65 #[.int .i64 a, .int .i64 m]).cell 0
              exact this
            · have := h1.size
              rw [show ((wr.alloc (.cells #[.int .i64 a, .int .i64 m] 65)).drewN nq).heap.size = wr.heap.size + 1 from World.size_alloc wr _] at this
              exact this))
          have HC := Lib.hid hC
          clear hC hCall hqe
          by_cases hCS : C = S
          · have q1 : (C == S) = true := by rw [beq_iff_eq]; exact hCS
            go_wp2_with fail
            go_quiet (fail)
            go_wp2_with (go_at_call 38; refine (HCall.out _).mono ?_; rintro e w2 ⟨rfl, hg2, hk2, hc2, hs2⟩)
            exact ⟨⟨p + 1, k + 1, S, O + m, K, lo, by omega, by go_num, rfl, rfl, Lib.hid (hS.out.same HDP.out hm hg2 hk2 HM.out (HC.out.trans hCS))⟩, by simp [intOf]; omega⟩
          have q1 : (C == S) = false := by rw [beq_eq_false_iff_ne]; exact hCS
          by_cases hS0 : S = 0
          · subst hS0
            have q2 : ((0 : Int) != 0) = false := by simp
            have q3 : (C != 0) = true := by rw [bne_iff_ne]; exact hCS
            obtain ⟨A5, cap5, hv5⟩ : ∃ A5 cap5, u5 = .slice A5 K.length cap5 := by
              have := hS.out.own
              rw [opnI_0, List.append_nil] at this
              rcases this.2 with ⟨h0, h1⟩ | ⟨b2, cap2, _, h1, _⟩
              · exact ⟨none, 0, by rw [h0, h1]⟩
              · exact ⟨_, cap2, h1⟩
            subst hv5
            have hrow : wr.ownsRow w1.heap.size 42 2 (.slice A5 K.length cap5) K.length (rgV K) := by
              have := hS.out.own
              rwa [opnI_0, List.append_nil] at this
            have hKp := hS.out.len
            rw [opnI_0, List.append_nil] at hKp
            have HROW := Lib.hid (fun (w2 : World) (o2 : Obj) (hg : wr.grownBy w2 (some q)) => (own_kept hrow hg hS.out.low).alloc o2)
            have HCN := Lib.hid (fun (w2 : World) => cells_newRn w2 [.int .i32 (wrap32 a), .int .i32 0] 42)
            have HOP := Lib.hid (fun (w2 : World) (hg2 : wr.grownBy w2 (some q)) (hk2 : Bk w2 q 3 #[.int .i64 (k + 1 : Nat)]) (o2 : Obj) (v' : Value) (w3 : World) (hown : w3.ownsRow w1.heap.size 42 2 v' (K.length + 1) (rgV K ++ [.int .i32 (wrap32 a), .int .i32 0])) (hg : (w2.alloc o2).grownBy w3 (Value.slice A5 K.length cap5).ownBlock) => hS.out.open_ HDP.out hm hg2 hk2 HM.out HC.out hCS ((Below.refl _ _).alloc (Nat.le_refl _) o2) hown hg)
            have hw9 := hS.out.grown.size
            clear hrow hS
            generalize rgV K = RK at *
            generalize hKN : K.length = KN at *
            clear hKN
            go_wp2_with fail
            go_quiet (fail)
            go_wp2_with (first
              | (go_at_call 38; refine (HCall.out _).mono ?_; rintro e w2 ⟨rfl, hg2, hk2, hc2, hs2⟩; have HG2 := Lib.hid hg2; have HK2 := Lib.hid hk2; clear hg2 hk2)
              | (at_builtin; refine wpList_append_own _ rfl _ _ 22 rfl w1.heap.size 42 i0 (.agg #[.int .i32 0, .int .i32 0]) 2 8 Try.underlying22 hi hz0 hz1 hz2 rfl (by decide) _ _ _ rfl (HROW.out w2 _ HG2.out) ⟨w2.heap.size, 0, none⟩ 1 1 [.int .i32 (wrap32 a), .int .i32 0] rfl rfl (HCN.out w2) (fun x hx => by simp at hx; rcases hx with rfl | rfl <;> rfl) (by unfold maxLen; omega) (by omega) (by simp; omega) ?_; intro v' w3 hown3 hg3 _))
            exact ⟨⟨p + 1, k + 1, C, O + m, K, a, by omega, by go_num, rfl, rfl, Lib.hid (HOP.out w2 HG2.out HK2.out _ _ _ hown3 hg3)⟩, by simp [intOf]; omega⟩
          have q2 : (S != 0) = true := by rw [bne_iff_ne]; exact hS0
          obtain ⟨b2, cap2, hv5⟩ : ∃ b2 cap2, u5 = .slice (some ⟨b2, 0, none⟩) (K.length + 1) cap2 := by
            rcases hS.out.own.2 with ⟨_, h0⟩ | ⟨b2, cap2, _, h1, _⟩
            · rw [opnI_1 hS0] at h0; simp at h0
            · exact ⟨b2, cap2, by rw [h1, opnI_1 hS0]; simp⟩
          subst hv5
          have hKp := hS.out.len
          rw [opnI_1 hS0, List.length_append, List.length_singleton] at hKp
          have HZ := Lib.hid (fun (w2 : World) (hg : wr.grownBy w2 (some q)) => row_high (own_kept (hS.out.row hS0) hg hS.out.low))
          by_cases hC0 : C = 0
          · subst hC0
            have q3 : ((0 : Int) != 0) = false := by simp
            have HSH := Lib.hid (fun (w2 : World) (hg2 : wr.grownBy w2 (some q)) (hk2 : Bk w2 q 3 #[.int .i64 (k + 1 : Nat)]) => hS.out.shut hS0 HDP.out hm hg2 hk2 HM.out HC.out 0)
            clear hS
            obtain ⟨KN, hKN⟩ : ∃ k, K.length = k := ⟨_, rfl⟩
            rw [hKN] at HSH HZ hKp ⊢
            have f1 : (KN : Int) + 1 - 1 = KN := by omega
            have f2 : IntKind.i64.wrap (KN : Int) = KN := by simp [IntKind.wrap, IntKind.bits, IntKind.signed]; omega
            have f3 : (KN : Int) < (KN : Int) + 1 := by omega
            clear hKN
            go_wp2_with fail
            go_quiet (fail)
            go_wp2_with (go_at_call 38; refine (HCall.out _).mono ?_; rintro e w2 ⟨rfl, hg2, hk2, hc2, hs2⟩; have HG2 := Lib.hid hg2; have HK2 := Lib.hid hk2; obtain ⟨zc, zf⟩ := HZ.out _ hg2; clear hg2 hk2)
            exact ⟨⟨p + 1, k + 1, 0, O + m, _, 0, by omega, by go_num, rfl, rfl, Lib.hid (HSH.out _ HG2.out HK2.out)⟩, by simp [intOf]; omega⟩
          · have q3 : (C != 0) = true := by rw [bne_iff_ne]; exact hC0
            have HROW := Lib.hid (fun (w2 : World) (o2 : Obj) (hg : wr.grownBy w2 (some q)) => show ((w2.setCell ⟨b2, K.length * 2 + 1, none⟩ (.int .i32 (wrap32 (a - 1)))).alloc o2).ownsRow w1.heap.size 42 2 (.slice (some ⟨b2, 0, none⟩) (K.length + 1) cap2) (K.length + 1) (rgV (K ++ [(wrap32 lo, wrap32 (a - 1))])) from by
              have := ((own_kept (hS.out.row hS0) hg hS.out.low).stored (K.length * 2 + 1) (.int .i32 (wrap32 (a - 1)))).1
              rw [rgV_set] at this
              exact this.alloc o2)
            have HCN := Lib.hid (fun (w2 : World) => cells_newRn w2 [.int .i32 (wrap32 a), .int .i32 0] 42)
            have HBO := Lib.hid (fun (w2 : World) (hg2 : wr.grownBy w2 (some q)) (hk2 : Bk w2 q 3 #[.int .i64 (k + 1 : Nat)]) (o2 : Obj) (v' : Value) (w3 : World) (hown : w3.ownsRow w1.heap.size 42 2 v' (K.length + 1 + 1) (rgV (K ++ [(wrap32 lo, wrap32 (a - 1))]) ++ [.int .i32 (wrap32 a), .int .i32 0])) (hg : ((w2.setCell ⟨b2, K.length * 2 + 1, none⟩ (.int .i32 (wrap32 (a - 1)))).alloc o2).grownBy w3 (some b2)) => hS.out.both hS0 HDP.out hm hg2 hk2 HM.out HC.out hC0 hCS ((Below.refl _ _).alloc (Nat.le_refl _) o2) hown hg)
            have hw9 := hS.out.grown.size
            have hb2 : ∀ w2 : World, wr.grownBy w2 (some q) → b2 ≠ wr.heap.size := fun w2 _ => by
              have := ((hS.out.row hS0).lt b2 rfl).2
              omega
            have HB2 := Lib.hid hb2
            clear hS hb2
            generalize rgV (K ++ [(wrap32 lo, wrap32 (a - 1))]) = RK at *
            obtain ⟨K2, hK2⟩ : ∃ x, K ++ [(wrap32 lo, wrap32 (a - 1))] = x := ⟨_, rfl⟩
            rw [hK2] at HBO
            obtain ⟨KN, hKN⟩ : ∃ k, K.length = k := ⟨_, rfl⟩
            rw [hKN] at HBO HROW HZ hKp ⊢
            have f1 : (KN : Int) + 1 - 1 = KN := by omega
            have f2 : IntKind.i64.wrap (KN : Int) = KN := by simp [IntKind.wrap, IntKind.bits, IntKind.signed]; omega
            have f3 : (KN : Int) < (KN : Int) + 1 := by omega
            clear hKN hK2
            go_wp2_with fail
            go_quiet (fail)
            go_wp2_with (first
              | (go_at_call 38; refine (HCall.out _).mono ?_; rintro e w2 ⟨rfl, hg2, hk2, hc2, hs2⟩; have HG2 := Lib.hid hg2; have HK2 := Lib.hid hk2; obtain ⟨zc, zf⟩ := HZ.out _ hg2; have hne := HB2.out w2 hg2; have hne2 := hne.symm; clear hg2 hk2)
              | (at_builtin; refine wpList_append_own _ rfl _ _ 22 rfl w1.heap.size 42 i0 (.agg #[.int .i32 0, .int .i32 0]) 2 8 Try.underlying22 hi hz0 hz1 hz2 rfl (by decide) _ _ _ rfl (HROW.out w2 _ HG2.out) ⟨w2.heap.size, 0, none⟩ 1 1 [.int .i32 (wrap32 a), .int .i32 0] rfl rfl (by first | exact HCN.out _ | (have t := HCN.out (w2.setCell ⟨b2, KN * 2 + 1, none⟩ (.int .i32 (wrap32 (a - 1)))); rw [World.size_setCell] at t; exact t)) (fun x hx => by simp at hx; rcases hx with rfl | rfl <;> rfl) (by unfold maxLen; omega) (by omega) (by simp; omega) ?_; intro v' w3 hown3 hg3 _))
            exact ⟨⟨p + 1, k + 1, C, O + m, K2, a, by omega, by go_num, rfl, rfl, Lib.hid (HBO.out w2 HG2.out HK2.out _ _ _ hown3 hg3)⟩, by simp [intOf]; omega⟩
      · have d3 : decide ((p : Int) + 1 < (N : Int)) = false := by rw [decide_eq_false_iff_not]; omega
        have hmore : more a (d.drop (p + 1)) = false := by
          rw [List.drop_eq_nil_of_le (by rw [HLN.out]; omega)]; rfl
        have HM := Lib.hid hmore
        clear hmore hcells hal0
        obtain ⟨C, hC⟩ : ∃ C, labelC k (O + m) = C := ⟨_, rfl⟩
        have hqr : q < wr.heap.size := hS.out.box.lt
        have hqe : ∀ nq (o1 : Obj), wr.grownBy ((wr.alloc o1).drewN nq) (some q) := fun nq o1 => grown_of _ (below_drewN ((Below.refl _ _).alloc (Nat.le_refl _) _) _)
        have hCall := fun (nq : Nat) (o1 : Obj) => Split1_any (O + m) k q ((wr.alloc o1).drewN nq) (hS.out.box.below (below_drewN ((Below.refl _ wr).alloc (Nat.le_refl _) o1) nq) hS.out.box.lt) (by omega)
        rw [hC] at hCall
        have HCall := Lib.hid (fun (nq : Nat) => (hCall nq (.cells #[.int .i64 a, .int .i64 m] 65)).mono (R' := fun e w2 => e = .returned (.int .i64 C) ∧ wr.grownBy w2 (some q) ∧ Bk w2 q 3 #[.int .i64 (k + 1 : Nat)] ∧ w2.cell? ⟨wr.heap.size, 0, none⟩ = some (.int .i64 a) ∧ wr.heap.size + 1 ≤ w2.heap.size) (by
          rintro e w2 ⟨rfl, h1, h2⟩
          refine ⟨rfl, grown_trans (hqe nq _) h1, h2, h1.cell (a := ⟨wr.heap.size, 0, none⟩) ?_ (by intro e; injection e with e; change wr.heap.size = q at e; omega), ?_⟩
          · have := (Bk.made wr 65 #[.int .i64 a, .int .i64 m]).cell 0
            exact this
          · have := h1.size
            rw [show ((wr.alloc (.cells #[.int .i64 a, .int .i64 m] 65)).drewN nq).heap.size = wr.heap.size + 1 from World.size_alloc wr _] at this
            exact this))
        have HC := Lib.hid hC
        clear hC hCall hqe
        by_cases hCS : C = S
        · have q1 : (C == S) = true := by rw [beq_iff_eq]; exact hCS
          go_wp2_with fail
          go_quiet (fail)
          go_wp2_with (go_at_call 38; refine (HCall.out _).mono ?_; rintro e w2 ⟨rfl, hg2, hk2, hc2, hs2⟩)
          exact ⟨⟨p + 1, k + 1, S, O + m, K, lo, by omega, by go_num, rfl, rfl, Lib.hid (hS.out.same HDP.out hm hg2 hk2 HM.out (HC.out.trans hCS))⟩, by simp [intOf]; omega⟩
        have q1 : (C == S) = false := by rw [beq_eq_false_iff_ne]; exact hCS
        by_cases hS0 : S = 0
        · subst hS0
          have q2 : ((0 : Int) != 0) = false := by simp
          have q3 : (C != 0) = true := by rw [bne_iff_ne]; exact hCS
          obtain ⟨A5, cap5, hv5⟩ : ∃ A5 cap5, u5 = .slice A5 K.length cap5 := by
            have := hS.out.own
            rw [opnI_0, List.append_nil] at this
            rcases this.2 with ⟨h0, h1⟩ | ⟨b2, cap2, _, h1, _⟩
            · exact ⟨none, 0, by rw [h0, h1]⟩
            · exact ⟨_, cap2, h1⟩
          subst hv5
          have hrow : wr.ownsRow w1.heap.size 42 2 (.slice A5 K.length cap5) K.length (rgV K) := by
            have := hS.out.own
            rwa [opnI_0, List.append_nil] at this
          have hKp := hS.out.len
          rw [opnI_0, List.append_nil] at hKp
          have HROW := Lib.hid (fun (w2 : World) (o2 : Obj) (hg : wr.grownBy w2 (some q)) => (own_kept hrow hg hS.out.low).alloc o2)
          have HCN := Lib.hid (fun (w2 : World) => cells_newRn w2 [.int .i32 (wrap32 a), .int .i32 0] 42)
          have HOP := Lib.hid (fun (w2 : World) (hg2 : wr.grownBy w2 (some q)) (hk2 : Bk w2 q 3 #[.int .i64 (k + 1 : Nat)]) (o2 : Obj) (v' : Value) (w3 : World) (hown : w3.ownsRow w1.heap.size 42 2 v' (K.length + 1) (rgV K ++ [.int .i32 (wrap32 a), .int .i32 0])) (hg : (w2.alloc o2).grownBy w3 (Value.slice A5 K.length cap5).ownBlock) => hS.out.open_ HDP.out hm hg2 hk2 HM.out HC.out hCS ((Below.refl _ _).alloc (Nat.le_refl _) o2) hown hg)
          have hw9 := hS.out.grown.size
          clear hrow hS
          generalize rgV K = RK at *
          generalize hKN : K.length = KN at *
          clear hKN
          go_wp2_with fail
          go_quiet (fail)
          go_wp2_with (first
            | (go_at_call 38; refine (HCall.out _).mono ?_; rintro e w2 ⟨rfl, hg2, hk2, hc2, hs2⟩; have HG2 := Lib.hid hg2; have HK2 := Lib.hid hk2; clear hg2 hk2)
            | (at_builtin; refine wpList_append_own _ rfl _ _ 22 rfl w1.heap.size 42 i0 (.agg #[.int .i32 0, .int .i32 0]) 2 8 Try.underlying22 hi hz0 hz1 hz2 rfl (by decide) _ _ _ rfl (HROW.out w2 _ HG2.out) ⟨w2.heap.size, 0, none⟩ 1 1 [.int .i32 (wrap32 a), .int .i32 0] rfl rfl (HCN.out w2) (fun x hx => by simp at hx; rcases hx with rfl | rfl <;> rfl) (by unfold maxLen; omega) (by omega) (by simp; omega) ?_; intro v' w3 hown3 hg3 _))
          exact ⟨⟨p + 1, k + 1, C, O + m, K, a, by omega, by go_num, rfl, rfl, Lib.hid (HOP.out w2 HG2.out HK2.out _ _ _ hown3 hg3)⟩, by simp [intOf]; omega⟩
        have q2 : (S != 0) = true := by rw [bne_iff_ne]; exact hS0
        obtain ⟨b2, cap2, hv5⟩ : ∃ b2 cap2, u5 = .slice (some ⟨b2, 0, none⟩) (K.length + 1) cap2 := by
          rcases hS.out.own.2 with ⟨_, h0⟩ | ⟨b2, cap2, _, h1, _⟩
          · rw [opnI_1 hS0] at h0; simp at h0
          · exact ⟨b2, cap2, by rw [h1, opnI_1 hS0]; simp⟩
        subst hv5
        have hKp := hS.out.len
        rw [opnI_1 hS0, List.length_append, List.length_singleton] at hKp
        have HZ := Lib.hid (fun (w2 : World) (hg : wr.grownBy w2 (some q)) => row_high (own_kept (hS.out.row hS0) hg hS.out.low))
        by_cases hC0 : C = 0
        · subst hC0
          have q3 : ((0 : Int) != 0) = false := by simp
          have HSH := Lib.hid (fun (w2 : World) (hg2 : wr.grownBy w2 (some q)) (hk2 : Bk w2 q 3 #[.int .i64 (k + 1 : Nat)]) => hS.out.shut hS0 HDP.out hm hg2 hk2 HM.out HC.out 0)
          clear hS
          obtain ⟨KN, hKN⟩ : ∃ k, K.length = k := ⟨_, rfl⟩
          rw [hKN] at HSH HZ hKp ⊢
          have f1 : (KN : Int) + 1 - 1 = KN := by omega
          have f2 : IntKind.i64.wrap (KN : Int) = KN := by simp [IntKind.wrap, IntKind.bits, IntKind.signed]; omega
          have f3 : (KN : Int) < (KN : Int) + 1 := by omega
          clear hKN
          go_wp2_with fail
          go_quiet (fail)
          go_wp2_with (go_at_call 38; refine (HCall.out _).mono ?_; rintro e w2 ⟨rfl, hg2, hk2, hc2, hs2⟩; have HG2 := Lib.hid hg2; have HK2 := Lib.hid hk2; obtain ⟨zc, zf⟩ := HZ.out _ hg2; clear hg2 hk2)
          exact ⟨⟨p + 1, k + 1, 0, O + m, _, 0, by omega, by go_num, rfl, rfl, Lib.hid (HSH.out _ HG2.out HK2.out)⟩, by simp [intOf]; omega⟩
        · have q3 : (C != 0) = true := by rw [bne_iff_ne]; exact hC0
          have HROW := Lib.hid (fun (w2 : World) (o2 : Obj) (hg : wr.grownBy w2 (some q)) => show ((w2.setCell ⟨b2, K.length * 2 + 1, none⟩ (.int .i32 (wrap32 (a - 1)))).alloc o2).ownsRow w1.heap.size 42 2 (.slice (some ⟨b2, 0, none⟩) (K.length + 1) cap2) (K.length + 1) (rgV (K ++ [(wrap32 lo, wrap32 (a - 1))])) from by
            have := ((own_kept (hS.out.row hS0) hg hS.out.low).stored (K.length * 2 + 1) (.int .i32 (wrap32 (a - 1)))).1
            rw [rgV_set] at this
            exact this.alloc o2)
          have HCN := Lib.hid (fun (w2 : World) => cells_newRn w2 [.int .i32 (wrap32 a), .int .i32 0] 42)
          have HBO := Lib.hid (fun (w2 : World) (hg2 : wr.grownBy w2 (some q)) (hk2 : Bk w2 q 3 #[.int .i64 (k + 1 : Nat)]) (o2 : Obj) (v' : Value) (w3 : World) (hown : w3.ownsRow w1.heap.size 42 2 v' (K.length + 1 + 1) (rgV (K ++ [(wrap32 lo, wrap32 (a - 1))]) ++ [.int .i32 (wrap32 a), .int .i32 0])) (hg : ((w2.setCell ⟨b2, K.length * 2 + 1, none⟩ (.int .i32 (wrap32 (a - 1)))).alloc o2).grownBy w3 (some b2)) => hS.out.both hS0 HDP.out hm hg2 hk2 HM.out HC.out hC0 hCS ((Below.refl _ _).alloc (Nat.le_refl _) o2) hown hg)
          have hw9 := hS.out.grown.size
          have hb2 : ∀ w2 : World, wr.grownBy w2 (some q) → b2 ≠ wr.heap.size := fun w2 _ => by
            have := ((hS.out.row hS0).lt b2 rfl).2
            omega
          have HB2 := Lib.hid hb2
          clear hS hb2
          generalize rgV (K ++ [(wrap32 lo, wrap32 (a - 1))]) = RK at *
          obtain ⟨K2, hK2⟩ : ∃ x, K ++ [(wrap32 lo, wrap32 (a - 1))] = x := ⟨_, rfl⟩
          rw [hK2] at HBO
          obtain ⟨KN, hKN⟩ : ∃ k, K.length = k := ⟨_, rfl⟩
          rw [hKN] at HBO HROW HZ hKp ⊢
          have f1 : (KN : Int) + 1 - 1 = KN := by omega
          have f2 : IntKind.i64.wrap (KN : Int) = KN := by simp [IntKind.wrap, IntKind.bits, IntKind.signed]; omega
          have f3 : (KN : Int) < (KN : Int) + 1 := by omega
          clear hKN hK2
          go_wp2_with fail
          go_quiet (fail)
          go_wp2_with (first
            | (go_at_call 38; refine (HCall.out _).mono ?_; rintro e w2 ⟨rfl, hg2, hk2, hc2, hs2⟩; have HG2 := Lib.hid hg2; have HK2 := Lib.hid hk2; obtain ⟨zc, zf⟩ := HZ.out _ hg2; have hne := HB2.out w2 hg2; have hne2 := hne.symm; clear hg2 hk2)
            | (at_builtin; refine wpList_append_own _ rfl _ _ 22 rfl w1.heap.size 42 i0 (.agg #[.int .i32 0, .int .i32 0]) 2 8 Try.underlying22 hi hz0 hz1 hz2 rfl (by decide) _ _ _ rfl (HROW.out w2 _ HG2.out) ⟨w2.heap.size, 0, none⟩ 1 1 [.int .i32 (wrap32 a), .int .i32 0] rfl rfl (by first | exact HCN.out _ | (have t := HCN.out (w2.setCell ⟨b2, KN * 2 + 1, none⟩ (.int .i32 (wrap32 (a - 1)))); rw [World.size_setCell] at t; exact t)) (fun x hx => by simp at hx; rcases hx with rfl | rfl <;> rfl) (by unfold maxLen; omega) (by omega) (by simp; omega) ?_; intro v' w3 hown3 hg3 _))
          exact ⟨⟨p + 1, k + 1, C, O + m, K2, a, by omega, by go_num, rfl, rfl, Lib.hid (HBO.out w2 HG2.out HK2.out _ _ _ hown3 hg3)⟩, by simp [intOf]; omega⟩
    · have d2 : decide (p < N) = false := by rw [decide_eq_false_iff_not]; exact hlt
      have hend : K ++ opnI S lo = TT := by
        have hk := hS.out.out
        rw [List.drop_eq_nil_of_le (by rw [HLN.out]; omega), emit_nil] at hk
        rw [← hk]
        rfl
      have hfin : u5 = .slice none 0 0 ∧ TT = [] ∨ ∃ b n cap cur, u5 = .slice (some ⟨b, 0, none⟩) n cap ∧ n = TT.length ∧ w1.heap.size ≤ b ∧ wr.heap[b]? = some (.cells cur 42 (0, 0)) ∧ (n ≤ cap ∧ cap ≤ maxLen) ∧ cap * 2 = cur.size ∧ cur.toList.take (n * 2) = rgV TT := by
        rw [← hend]
        rcases hS.out.own.2 with ⟨h0, h1⟩ | ⟨b, cap, cur, h1, h2, h3, h4, h5, h6, h7⟩
        · exact .inl ⟨h0, List.eq_nil_of_length_eq_zero h1⟩
        · exact .inr ⟨b, _, cap, cur, h1, rfl, h2, h3, ⟨h4, h5⟩, h6.symm, h7⟩
      have HB := Lib.hid hS.out.grown
      clear hS hend
      rcases hfin with ⟨rfl, hnil⟩ | ⟨b, n, cap2, cur, rfl, hn, hb, hcur, ⟨hn1, hn2⟩, hn3, hn4⟩
      · have HNil := Lib.hid hnil
        clear hnil
        go_wp2_with (go_at_call 44; refine (ClipRn_nil _).mono ?_; rintro e w' ⟨rfl, rfl⟩)
        go_ret
        exact ⟨d, _, w1, HP.out.1, HP.out.2.1, rfl, .inl ⟨rfl, by rw [HTT.out]; exact HNil.out⟩, HP.out.2.2, HB.out⟩
      · have HOwn : Hid (Hld wr w.heap.size (.slice (some ⟨b, 0, none⟩) n n) TT) := Lib.hid (.inr ⟨b, n, cur, by rw [hn], by omega, hcur, by omega, by omega, by rw [← hn]; exact hn4, by omega⟩)
        have hn2' : cap2 ≤ 9223372036854775807 := by unfold maxLen at hn2; omega
        clear hn hcur hn4 hn3 hn2
        go_wp2_with (go_at_call 44; refine (ClipRn_some _ _ _ hn1 hn2' _).mono ?_; rintro e w' ⟨rfl, rfl⟩)
        go_ret
        exact ⟨d, _, w1, HP.out.1, HP.out.2.1, rfl, by rw [HTT.out]; exact HOwn.out, HP.out.2.2, HB.out⟩
end Go.Proofs.Ytianappapfpbeaa
