/- What is written into a Builder: the contracts of WriteByte and WriteString in that form; of nodes.wrapped. -/
import Derived.Test.YthfkodimafmmgaaDoorNdJ
import Derived.Test.YthfkodimafmmgaaDoorNdB
import Derived.Test.YthfkodimafmmgaaDoorShelf
namespace Go.Proofs.YthfkodimafmmgaaDoor
open Go Go.RowKit Ru
set_option maxRecDepth 100000

theorem builder_below {T e : TypeId} {B b : Nat} {bs : List Value} {w w' : World} (h : Lib.IsBuilderF T e B b bs w) (hb : Below w.heap.size w w') : Lib.IsBuilderF T e B b bs w' := by
  have key : ∀ p, Lib.BuilderAtF T e B b p bs w → Lib.BuilderAtF T e B b p bs w' := by
    rintro p ⟨hB, v, hh, hown, hne⟩
    refine ⟨hB, v, ?_, ⟨hown.1, ?_⟩, hne⟩
    · rw [hb.block b (Array.getElem?_eq_some_iff.1 hh).1]; exact hh
    · rcases hown.2 with hn | ⟨g, cap, cur, fz, hv, hbg, hg, rest⟩
      · exact .inl hn
      · exact .inr ⟨g, cap, cur, fz, hv, hbg, by rw [hb.block g (Array.getElem?_eq_some_iff.1 hg).1]; exact hg, rest⟩
  exact h.elim (fun x => .inl (key _ x)) (fun x => .inr (key _ x))
theorem byteCells_app (a b : List UInt8) : Lib.byteCells (a ++ b) = Lib.byteCells a ++ Lib.byteCells b := by simp [Lib.byteCells]

/-- The Builder at b holds the bytes l. -/
def Bd (B b : Nat) (l : List UInt8) (w : World) : Prop := Lib.IsBuilderF 44 5 B b (Lib.byteCells l) w
/-- What a call that writes leaves of the world: more than B lies as it lay, all but the Builder and bytes. -/
def Kept (B b : Nat) (w w' : World) : Prop := Below B w w' ∧ Lib.OthersKept 5 (some b) w w'
theorem Kept.refl (B b : Nat) (w : World) : Kept B b w w := ⟨Below.refl _ _, Lib.OthersKept.refl _ _ _⟩
theorem Kept.trans {B b : Nat} {w w' w'' : World} (h : Kept B b w w') (k : Kept B b w' w'') : Kept B b w w'' := ⟨h.1.trans k.1, h.2.trans k.2⟩
theorem Kept.of_below {B b : Nat} {w w' : World} (h : Below w.heap.size w w') (hB : B ≤ w.heap.size) : Kept B b w w' := ⟨h.mono hB, fun k o hk _ _ => by rw [h.block k (Array.getElem?_eq_some_iff.1 hk).1]; exact hk⟩
theorem Kept.alloc {B b : Nat} (w : World) (hB : B ≤ w.heap.size) (o : Obj) : Kept B b w (w.alloc o) := Kept.of_below ((Below.refl _ _).alloc (Nat.le_refl _) _) hB
theorem Kept.bk {B b : Nat} {w w' : World} (h : Kept B b w w') {k : Nat} {t : TypeId} {cs : Array Value} (hk : Bk w k t cs) (hne : k ≠ b) (ht : t ≠ 5) : Bk w' k t cs :=
  h.2 k _ hk (fun e => hne (Option.some.inj e)) (fun c fz e => by injection e with _ e; exact ht e)
/-- The call has written x behind l. -/
def Puts (B b : Nat) (l x : List UInt8) (w : World) (e : Ending) (w' : World) : Prop := (∃ v, e = .returned v) ∧ Bd B b (l ++ x) w' ∧ Kept B b w w'
theorem putByte (B b : Nat) (l : List UInt8) (c : UInt8) (C : Int) (hC : (c.toNat : Int) = C) (w : World) (h : Bd B b l w) (hlen : l.length ≤ 1099511627776) (hBw : B ≤ w.heap.size) :
    Calls Tryd.prog 33 #[.pointer (some ⟨b, 0, none⟩), .int .u8 C] w (Puts B b l [c] w) :=
  (Tryd.WriteByte_k B b (Lib.byteCells l) C w h (by rw [Lib.byteCells_length]; omega) hBw).mono fun e w' ⟨he, h1, h2, h3⟩ => ⟨⟨_, he⟩, .inr (by
    rw [byteCells_app]
    have e2 : Lib.byteCells [c] = [.int .u8 C] := by simp [Lib.byteCells, hC]
    rw [e2]
    exact h1), h2, h3⟩
theorem putText (B b : Nat) (l : List UInt8) (s : ByteArray) (w : World) (h : Bd B b l w) (hlen : l.length ≤ 1099511627776) (hs : s.size ≤ 1099511627776) (hBw : B ≤ w.heap.size) :
    Calls Tryd.prog 31 #[.pointer (some ⟨b, 0, none⟩), .string s] w (Puts B b l s.data.toList w) :=
  (Tryd.WriteString_k B b (Lib.byteCells l) s w h (by rw [Lib.byteCells_length]; omega) hBw).mono fun e w' ⟨he, h1, h2, h3⟩ => ⟨⟨_, he⟩, .inr (by
    rw [byteCells_app]
    exact h1), h2, h3⟩

namespace Nd
/-- Has a Sub's text brackets round it in a node of kind k? -/
def wrappedB (k : Int) (t : T) : Bool :=
  if k = 0 then decide (t.kind = 0)
  else if k = 1 then decide (t.kind = 0) || (decide (t.kind = 1) && decide (0 < t.subs.length))
  else if k = 2 ∨ k = 3 ∨ k = 4 then
    if t.kind = 5 ∨ t.kind = 6 ∨ t.kind = 8 ∨ t.kind = 9 then false
    else if t.kind = 1 then decide (0 < t.subs.length) else true
  else false
end Nd
set_option maxHeartbeats 2000000 in
theorem wrapped_any (k : Int) (t : Nd.T) (v : Value) (w : World) (hA : Nd.At w t v) :
    Calls Tryd.prog 61 #[.int .u8 k, v] w fun e w' => e = .returned (.bool (Nd.wrappedB k t)) ∧ Below w.heap.size w w' := by
  obtain ⟨sa, sc, ba, bc, rfl, _⟩ := hA.form
  unfold Nd.wrappedB
  generalize t.kind = sk at *
  generalize t.name = sn at *
  generalize t.text = sx at *
  generalize t.set.length = sl at *
  generalize t.subs.length = sm at *
  have hB : Below w.heap.size w (w.alloc (.cells #[.int .u8 sk, .string sn, .string sx, .slice sa sl sc, .slice ba sm bc] 26)) := (Below.refl _ w).alloc (Nat.le_refl _) _
  obtain ⟨P, hP⟩ : ∃ b, decide (0 < sm) = b := ⟨_, rfl⟩
  have hP2 : decide ((0 : Int) < (sm : Int)) = P := by rw [← hP]; by_cases h : 0 < sm <;> simp [h]
  rw [hP]
  have fin : ∀ (R : Bool), R = (if k = 0 then decide (sk = 0) else if k = 1 then decide (sk = 0) || (decide (sk = 1) && P) else if k = 2 ∨ k = 3 ∨ k = 4 then if sk = 5 ∨ sk = 6 ∨ sk = 8 ∨ sk = 9 then false else if sk = 1 then P else true else false) →
      Calls Tryd.prog 61 #[.int .u8 k, .agg #[.int .u8 sk, .string sn, .string sx, .slice sa sl sc, .slice ba sm bc]] w (fun e w' => e = .returned (.bool R) ∧ Below w.heap.size w w') → Calls Tryd.prog 61 #[.int .u8 k, .agg #[.int .u8 sk, .string sn, .string sx, .slice sa sl sc, .slice ba sm bc]] w (fun e w' => e = .returned (.bool (if k = 0 then decide (sk = 0) else if k = 1 then decide (sk = 0) || (decide (sk = 1) && P) else if k = 2 ∨ k = 3 ∨ k = 4 then if sk = 5 ∨ sk = 6 ∨ sk = 8 ∨ sk = 9 then false else if sk = 1 then P else true else false)) ∧ Below w.heap.size w w') := by
    rintro R rfl h
    exact h
  by_cases k0 : k = 0
  · subst k0
    refine fin (decide (sk = 0)) (if_pos rfl).symm ?_
    by_cases s1 : sk = 1
    · subst s1
      go_enter Tryd.func61, Tryd.ntmps61
      go_wp2_with fail
      go_ret
      exact ⟨rfl, hB⟩
    · have q1 : (sk == 1) = false := by rw [beq_eq_false_iff_ne]; exact s1
      have q0 : (sk == 0) = decide (sk = 0) := rfl
      generalize decide (sk = 0) = D at *
      go_enter Tryd.func61, Tryd.ntmps61
      go_wp2_with fail
      go_ret
      exact ⟨rfl, hB⟩
  have k0' : (k == 0) = false := by rw [beq_eq_false_iff_ne]; exact k0
  by_cases k1 : k = 1
  · subst k1
    by_cases s1 : sk = 1
    · subst s1
      refine fin P (by rw [if_neg k0, if_pos rfl]; rfl) ?_
      go_enter Tryd.func61, Tryd.ntmps61
      go_wp2_with fail
      go_ret
      exact ⟨rfl, hB⟩
    · have q1 : (sk == 1) = false := by rw [beq_eq_false_iff_ne]; exact s1
      by_cases s0 : sk = 0
      · subst s0
        refine fin true (by rw [if_neg k0, if_pos rfl]; rfl) ?_
        go_enter Tryd.func61, Tryd.ntmps61
        go_wp2_with fail
        go_ret
        exact ⟨rfl, hB⟩
      · have q0 : (sk == 0) = false := by rw [beq_eq_false_iff_ne]; exact s0
        refine fin false (by rw [if_neg k0, if_pos rfl, decide_eq_false s0, decide_eq_false s1]; rfl) ?_
        go_enter Tryd.func61, Tryd.ntmps61
        go_wp2_with fail
        go_ret
        exact ⟨rfl, hB⟩
  have k1' : (k == 1) = false := by rw [beq_eq_false_iff_ne]; exact k1
  by_cases k2 : k = 2 ∨ k = 3 ∨ k = 4
  · by_cases s4 : sk = 5 ∨ sk = 6 ∨ sk = 8 ∨ sk = 9
    · refine fin false (by rw [if_neg k0, if_neg k1, if_pos k2, if_pos s4]) ?_
      clear fin
      rcases k2 with rfl | rfl | rfl <;> rcases s4 with rfl | rfl | rfl | rfl
      all_goals
        go_enter Tryd.func61, Tryd.ntmps61
        go_wp2_with fail
        go_ret
        exact ⟨rfl, hB⟩
    · have a5 : (sk == 5) = false := by rw [beq_eq_false_iff_ne]; exact fun h => s4 (.inl h)
      have a6 : (sk == 6) = false := by rw [beq_eq_false_iff_ne]; exact fun h => s4 (.inr (.inl h))
      have a8 : (sk == 8) = false := by rw [beq_eq_false_iff_ne]; exact fun h => s4 (.inr (.inr (.inl h)))
      have a9 : (sk == 9) = false := by rw [beq_eq_false_iff_ne]; exact fun h => s4 (.inr (.inr (.inr h)))
      by_cases s1 : sk = 1
      · subst s1
        refine fin P (by rw [if_neg k0, if_neg k1, if_pos k2, if_neg s4, if_pos rfl]) ?_
        clear fin
        rcases k2 with rfl | rfl | rfl
        all_goals
          go_enter Tryd.func61, Tryd.ntmps61
          go_wp2_with fail
          go_ret
          exact ⟨rfl, hB⟩
      · have q1 : (sk == 1) = false := by rw [beq_eq_false_iff_ne]; exact s1
        refine fin true (by rw [if_neg k0, if_neg k1, if_pos k2, if_neg s4, if_neg s1]) ?_
        clear fin
        rcases k2 with rfl | rfl | rfl
        all_goals
          go_enter Tryd.func61, Tryd.ntmps61
          go_wp2_with fail
          go_ret
          exact ⟨rfl, hB⟩
  · have k2' : (k == 2) = false := by rw [beq_eq_false_iff_ne]; exact fun h => k2 (.inl h)
    have k3' : (k == 3) = false := by rw [beq_eq_false_iff_ne]; exact fun h => k2 (.inr (.inl h))
    have k4' : (k == 4) = false := by rw [beq_eq_false_iff_ne]; exact fun h => k2 (.inr (.inr h))
    refine fin false (by rw [if_neg k0, if_neg k1, if_neg k2]) ?_
    by_cases s1 : sk = 1
    · subst s1
      go_enter Tryd.func61, Tryd.ntmps61
      go_wp2_with fail
      go_ret
      exact ⟨rfl, hB⟩
    · have q1 : (sk == 1) = false := by rw [beq_eq_false_iff_ne]; exact s1
      go_enter Tryd.func61, Tryd.ntmps61
      go_wp2_with fail
      go_ret
      exact ⟨rfl, hB⟩
end Go.Proofs.YthfkodimafmmgaaDoor
