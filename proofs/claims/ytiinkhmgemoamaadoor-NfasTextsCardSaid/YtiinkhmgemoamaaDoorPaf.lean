/- The contracts of bodies.walk, of parts, and of what parts hands back: a node and all that is in it come, in order; or some of them come, a round having said 'no more'. -/
import Derived.RangeFuncNested
import Derived.RangeFuncBound
import Derived.RangeFuncCalls
import Derived.RangeFuncLeaves
import Derived.Shelf.Abstract
import Derived.Shelf.RegionOpen
import Derived.WalkKit
import Derived.OwnWalkIn
import Derived.TacticsInMore
import Derived.LoopNIn
import Derived.LoopIn
import Derived.Test.YtiinkhmgemoamaaDoorPaa
import Derived.Test.YtiinkhmgemoamaaDoorPac
namespace Go.Proofs.YtiinkhmgemoamaaDoor
open Go Go.RowKit Go.Shelf
attribute [local go_sem] Oper.semAt_some
set_option maxRecDepth 100000

theorem yield_any {m m' : Nat} {P : Program} {l : Nat} {args : Array Value} {W : World} {R : Ending → World → Prop} (h : YieldAt Fence.wide m P l args W R) : YieldAt Fence.wide m' P l args W R := by
 obtain ⟨fn, tmps, assign, body, hy, hR⟩ := h
 exact ⟨fn, tmps, assign, body, hy, hR.1, fun c cs _ => hR.2 c cs (room_wide _)⟩

/-- What a round keeps: all below n₀, and all cells from B on that are there. -/
def KpB (n₀ B : Nat) (W W' : World) : Prop := Below n₀ W W' ∧ ∀ b cs t f, B ≤ b → W.heap[b]? = some (.cells cs t f) → W'.heap[b]? = some (.cells cs t f)
theorem KpB.refl (n₀ B : Nat) (W : World) : KpB n₀ B W W := ⟨Below.refl _ _, fun _ _ _ _ _ h => h⟩
theorem KpB.trans {n₀ B : Nat} {W W' W'' : World} (h : KpB n₀ B W W') (k : KpB n₀ B W' W'') : KpB n₀ B W W'' := ⟨h.1.trans k.1, fun b cs t f hb hc => k.2 b cs t f hb (h.2 b cs t f hb hc)⟩
theorem KpB.alloc {n₀ B : Nat} (W : World) (hn : n₀ ≤ W.heap.size) (o : Obj) : KpB n₀ B W (W.alloc o) :=
 ⟨(Below.refl _ _).alloc hn _, fun b cs t f _ h => by rw [Below.heap_alloc _ _ _ (Array.getElem?_eq_some_iff.1 h).1]; exact h⟩
theorem KpB.setCell {n₀ B : Nat} (W : World) (a : Addr) (v : Value) (h0 : n₀ ≤ a.block) (h1 : a.block < B) : KpB n₀ B W (W.setCell a v) :=
 ⟨(Below.refl _ _).setCell h0 _, fun b cs t f hb h => by rw [Below.heap_setCell _ _ _ _ (by omega)]; exact h⟩
theorem KpB.put {n₀ B : Nat} (hn : n₀ ≤ B) (W : World) (l : Nat) (o o' : Obj) (hl : B ≤ l) (h : W.heap[l]? = some o) (hc : o.isCells = false) (_hw : o.isWalk = false) : KpB n₀ B W (W.putObj l o') :=
 ⟨(Below.refl n₀ W).grown (grownBy_putObj' W l o') (by have := (Array.getElem?_eq_some_iff.1 h).1; omega) (fun k e => by cases e; omega), fun b cs t f _ hb => by
  have hne : b ≠ l := by
   rintro rfl
   rw [h] at hb
   injection hb with hb
   subst hb
   simp [Obj.isCells] at hc
  show (W.heap.setIfInBounds l o')[b]? = _
  rw [Array.getElem?_setIfInBounds_ne (by omega)]
  exact hb⟩

/-- What a round keeps, as far as the walk asks: what lies below n₀, and the boxes of nodes from B on. -/
structure KpOk (n₀ B : Nat) (Kp : World → World → Prop) : Prop where
 trans : ∀ {X Y Z : World}, Kp X Y → Kp Y Z → Kp X Z
 bel : ∀ {X Y : World}, Kp X Y → Below n₀ X Y
 alloc : ∀ (W : World) (o : Obj), n₀ ≤ W.heap.size → Kp W (W.alloc o)
 box : ∀ (X Y : World) (b : Nat) (cs : Array Value), B ≤ b → cs.size = 5 → X.heap[b]? = some (.cells cs 34 (0, 0)) → Kp X Y → Y.heap[b]? = some (.cells cs 34 (0, 0))
theorem KpB.ok (n₀ B : Nat) : KpOk n₀ B (KpB n₀ B) := ⟨fun h k => h.trans k, fun h => h.1, fun W o hn => KpB.alloc W hn o, fun _ _ _ _ hB _ hb hk => hk.2 _ _ _ _ hB hb⟩
/-- What a round keeps that writes rows: the blocks of the kinds that are named. -/
def KpN (keep : Array Value → TypeId → Prop) (n₀ B : Nat) (W W' : World) : Prop := Below n₀ W W' ∧ ∀ (b : Nat) (cs : Array Value) (t : TypeId), B ≤ b → keep cs t → W.heap[b]? = some (.cells cs t (0, 0)) → W'.heap[b]? = some (.cells cs t (0, 0))
theorem KpN.refl (keep : Array Value → TypeId → Prop) (n₀ B : Nat) (W : World) : KpN keep n₀ B W W := ⟨Below.refl _ _, fun _ _ _ _ _ h => h⟩
theorem KpN.trans {keep : Array Value → TypeId → Prop} {n₀ B : Nat} {W W' W'' : World} (h : KpN keep n₀ B W W') (k : KpN keep n₀ B W' W'') : KpN keep n₀ B W W'' := ⟨h.1.trans k.1, fun b cs t hb hs hc => k.2 b cs t hb hs (h.2 b cs t hb hs hc)⟩
theorem KpN.alloc {keep : Array Value → TypeId → Prop} {n₀ B : Nat} (W : World) (hn : n₀ ≤ W.heap.size) (o : Obj) : KpN keep n₀ B W (W.alloc o) :=
 ⟨(Below.refl _ _).alloc hn _, fun b cs t _ _ h => by rw [Below.heap_alloc _ _ _ (Array.getElem?_eq_some_iff.1 h).1]; exact h⟩
theorem KpN.below {keep : Array Value → TypeId → Prop} {n₀ B : Nat} {W W' : World} (hn : n₀ ≤ W.heap.size) (h : Below W.heap.size W W') : KpN keep n₀ B W W' :=
 ⟨h.mono hn, fun b cs t _ _ hc => by rw [h.block b (Array.getElem?_eq_some_iff.1 hc).1]; exact hc⟩
theorem KpN.setCell {keep : Array Value → TypeId → Prop} {n₀ B : Nat} (W : World) (a : Addr) (v : Value) (h0 : n₀ ≤ a.block) (h1 : a.block < B) : KpN keep n₀ B W (W.setCell a v) :=
 ⟨(Below.refl _ _).setCell h0 _, fun b cs t hb _ h => by rw [Below.heap_setCell _ _ _ _ (by omega)]; exact h⟩
theorem KpN.put {keep : Array Value → TypeId → Prop} {n₀ B : Nat} (W : World) (l : Nat) (o o' : Obj) (hn : n₀ ≤ l) (h : W.heap[l]? = some o) (hc : o.isCells = false) : KpN keep n₀ B W (W.putObj l o') :=
 ⟨(Below.refl n₀ W).grown (grownBy_putObj' W l o') (by have := (Array.getElem?_eq_some_iff.1 h).1; omega) (fun k e => by cases e; omega), fun b cs t _ _ hb => by
  have hne : b ≠ l := by
   rintro rfl
   rw [h] at hb
   injection hb with hb
   subst hb
   simp [Obj.isCells] at hc
  show (W.heap.setIfInBounds l o')[b]? = _
  rw [Array.getElem?_setIfInBounds_ne (by omega)]
  exact hb⟩
theorem KpN.ok {keep : Array Value → TypeId → Prop} (hk : ∀ cs : Array Value, cs.size = 5 → keep cs 34) (n₀ B : Nat) : KpOk n₀ B (KpN keep n₀ B) := ⟨fun h k => h.trans k, fun h => h.1, fun W o hn => KpN.alloc W hn o, fun _ _ _ _ hB hs hb h => h.2 _ _ _ hB (hk _ hs) hb⟩
theorem KpN.weaken {keep : Array Value → TypeId → Prop} {n₀ B B' : Nat} {W W' : World} (h : KpN keep n₀ B W W') (hB : B ≤ B') : KpN keep n₀ B' W W' := ⟨h.1, fun b cs t hb => h.2 b cs t (by omega)⟩

/-- A part that comes: it lies in w; its level is M at most. -/
abbrev Item (w : World) (M : Nat) := { x : Nat × Nd.T × Value // Nd.At w x.2.1 x.2.2 ∧ x.1 ≤ M }
def encI {w : World} {M : Nat} (x : Item w M) : Array Value := #[.int .i64 (x.1.1 : Int), x.1.2.2]
theorem wide_hdd (k : Nat) : Fence.wide.depth.isSome = true → 1 ≤ k := fun h => by simp [Fence.wide] at h

set_option maxHeartbeats 2000000 in
theorem walk_gen (Kp : World → World → Prop) (w0 : World) (M N l B C : Nat) (hKp : KpOk w0.heap.size B Kp) (hM : M < 1099511627776) (J Jx : List (Item w0 M) → World → Prop) (hJ : AbidesFrom C J)
 (hY : ∀ m pre x W, J pre W → pre.length < N → YieldAt Fence.wide m Tryd.prog l (encI x) W fun e W' =>
  (e = .returned (.bool true) ∧ J (pre ++ [x]) W' ∧ Kp W W') ∨ (e = .returned (.bool false) ∧ Jx (pre ++ [x]) W')) (t : Nd.T) :
 ∀ (n lv : Nat) (v : Value) (pre xs : List (Item w0 M)) (W : World), Nd.At w0 t v → xs.map (·.1) = Nd.partsV w0 lv t v → Below w0.heap.size w0 W → B ≤ W.heap.size → J pre W → pre.length + xs.length ≤ N →
  CallsIn Fence.wide n Tryd.prog 78 #[v, .int .i64 lv, .func (.yield l) #[] #[]] W fun e W' =>
   (e = .returned (.bool true) ∧ J (pre ++ xs) W' ∧ Kp W W') ∨ (e = .returned (.bool false) ∧ ∃ q, q <+: xs ∧ Jx (pre ++ q) W') := by
 induction t using Nd.T.ind with | _ k nm tx st sb ih => ?_
 intro n lv v pre xs W hA hxs hb hBW hJp hN
 have hsub := hA.subs
 obtain ⟨x, ys, rfl, hx, hys⟩ : ∃ x ys, xs = x :: ys ∧ x.1 = (lv, .mk k nm tx st sb, v) ∧ ys.map (·.1) = Nd.partsVL w0 (lv + 1) sb (Nd.subsA v) := by
  cases xs with
  | nil => simp [Nd.partsV] at hxs
  | cons x ys =>
   simp only [Nd.partsV, List.map_cons, List.cons.injEq] at hxs
   exact ⟨x, ys, rfl, hxs.1, hxs.2⟩
 have hlv : lv ≤ M := by have := x.2.2; rw [hx] at this; exact this
 unfold Nd.At at hA
 obtain ⟨sa, sc, ba, bc, rfl, _, hnm, htx, hsc, hbc, _, _⟩ := hA
 have hsz := hb.size
 have e0 : Nd.subsA (.agg #[.int .u8 k, .string nm, .string tx, .slice sa st.length sc, .slice ba sb.length bc]) = ba := rfl
 rw [e0] at hsub hys
 have hex : encI x = #[.int .i64 (lv : Int), .agg #[.int .u8 k, .string nm, .string tx, .slice sa st.length sc, .slice ba sb.length bc]] := by simp only [encI, hx]
 simp only [List.length_cons] at hN
 have hg0 := World.grownBy_alloc W (.cells #[.int .u8 k, .string nm, .string tx, .slice sa st.length sc, .slice ba sb.length bc] 34) none
 have hJ1 := hJ pre W _ none hJp hg0 (fun r e => by cases e)
 have hy0 := hY (n - 1) pre x _ hJ1 (by omega)
 rw [hex] at hy0
 obtain ⟨L, hL⟩ : ∃ L : Int, (lv : Int) = L := ⟨_, rfl⟩
 have w1 : IntKind.i64.wrap (L + 1) = L + 1 := IntWalk.i64_in _ (by omega)
 have hL1 : ((lv + 1 : Nat) : Int) = L + 1 := by omega
 rw [hL] at hy0 ⊢
 have HB1 : Kp W (W.alloc (.cells #[.int .u8 k, .string nm, .string tx, .slice sa st.length sc, .slice ba sb.length bc] 34)) := hKp.alloc W _ hsz
 have hbox : (W.alloc (.cells #[.int .u8 k, .string nm, .string tx, .slice sa st.length sc, .slice ba sb.length bc] 34)).heap[W.heap.size]? = some (.cells #[.int .u8 k, .string nm, .string tx, .slice sa st.length sc, .slice ba sb.length bc] 34 (0, 0)) := by
  show (W.heap.push _)[W.heap.size]? = _
  simp
 have hy1 := hy0.mono (R' := fun e W2 => (e = .returned (.bool true) ∧ J (pre ++ [x]) W2 ∧ Kp W W2 ∧ W2.cell? ⟨W.heap.size, 4, none⟩ = some (.slice ba sb.length bc)) ∨ (e = .returned (.bool false) ∧ Jx (pre ++ [x]) W2)) (fun e W2 h => h.elim
  (fun ⟨he, hj, hk2⟩ => .inl ⟨he, hj, hKp.trans HB1 hk2, by simp [World.cell?, hKp.box _ _ _ _ hBW rfl hbox hk2]⟩) .inr)
 obtain ⟨fn, tmps, assign, body, hy, hR⟩ := hy1
 clear hg0 hJ1 hx hy0 HB1 hbox
 have hF : Fence.wide.fn 78 := trivial
 refine callsIn_of_wp Tryd.func78 rfl trivial ?_ rfl
 simp only [Tryd.ntmps78, List.size_toArray, List.length_cons, List.length_nil, Nat.reduceAdd, Nat.reduceSub, Array.replicate_succ, Array.replicate_zero, List.push_toArray, List.append_toArray, List.nil_append, List.cons_append]
 gi_wp2_with ((try refine ⟨wide_hdd _, ?_⟩); refine hR.mono ?_; clear hR; rintro e W2 (⟨rfl, hJ2, hk, c4⟩ | ⟨rfl, hx2⟩))
 · clear hy c4
   obtain ⟨SN, hSN⟩ : ∃ k, sb.length = k := ⟨_, rfl⟩
   have HSN := Lib.hid hSN
   rw [hSN] at hbc ⊢
   have n1 : (SN : Int) ≤ 9223372036854775807 := by omega
   clear hSN
   gi_loopw [17] (fun p wr => ∃ (i : Nat) (done rest : List (Item w0 M)), i ≤ SN ∧ p = .int .i64 i ∧ ys = done ++ rest ∧ rest.map (·.1) = Nd.partsVL w0 (lv + 1) (sb.drop i) (Nd.plusA i ba) ∧ J (pre ++ [x] ++ done) wr ∧ Kp W wr)
    (fun p _ => SN - (intOf p).toNat)
   case atStart => exact ⟨0, [], ys, Nat.zero_le _, rfl, rfl, by rw [List.drop_zero, Nd.plusA_zero]; exact hys, by simpa using hJ2, hk⟩
   case round =>
    obtain ⟨i, done, rest, hi, rfl, hyd, hrest, hJr, hkr⟩ := hrel
    by_cases hlt : i < SN
    · have d0 : decide (i < SN) = true := by rw [decide_eq_true_iff]; exact hlt
      have a0 : (i : Int) < (SN : Int) := by omega
      obtain ⟨s, hs⟩ : ∃ s, sb[i]? = some s := ⟨_, List.getElem?_eq_getElem (by rw [HSN.out]; exact hlt)⟩
      obtain ⟨g, o, v0, v1, v2, v3, v4, rfl, h0, h1, h2, h3, h4, hv, hAs⟩ := hsub.val i s hs
      rw [Nd.partsVL_drop w0 (lv + 1) sb _ i s hs, hv] at hrest
      obtain ⟨zs, rest', rfl, hz, hr'⟩ := List.map_eq_append_iff.1 hrest
      have hb2 := hb.trans (hKp.bel hkr)
      have c0 := Nd.cell_keeps hb2 h0
      have c1 := Nd.cell_keeps hb2 h1
      have c2 := Nd.cell_keeps hb2 h2
      have c3 := Nd.cell_keeps hb2 h3
      have c4 := Nd.cell_keeps hb2 h4
      have hsz2 := hb2.size
      have hsz3 := (hKp.bel hkr).size
      obtain ⟨sa1, sc1, ba1, bc1, rfl, rfl, rfl, rfl, rfl⟩ := hAs.five
      generalize s.kind = sk at *
      generalize s.name = sn at *
      generalize s.text = sx at *
      generalize s.set.length = sl at *
      generalize s.subs.length = sm at *
      have hih := ih s (List.mem_of_getElem? hs) (n - 1) (lv + 1) (.agg #[.int .u8 sk, .string sn, .string sx, .slice sa1 sl sc1, .slice ba1 sm bc1]) (pre ++ [x] ++ done) zs (wr.alloc (.cells #[.int .u8 sk, .string sn, .string sx, .slice sa1 sl sc1, .slice ba1 sm bc1] 34)) hAs hz (hb2.alloc hsz2 _)
       (by rw [World.size_alloc]; omega) (hJ _ wr _ none hJr (World.grownBy_alloc wr _ none) (fun r e => by cases e)) (by rw [hyd] at hN; simp at hN ⊢; omega)
      have hka : Kp W (wr.alloc (.cells #[.int .u8 sk, .string sn, .string sx, .slice sa1 sl sc1, .slice ba1 sm bc1] 34)) := hKp.trans hkr (hKp.alloc wr _ hsz2)
      rw [hL1] at hih
      clear h0 h1 h2 h3 h4 hv hAs hrest hz
      gi_wp2_with ((try refine ⟨wide_hdd _, ?_⟩); gi_at_call 78; refine hih.mono ?_; clear hih; rintro e W3 (⟨rfl, hJ3, hk3⟩ | ⟨rfl, q, hq, hx3⟩))
      · go_roundw
        case rel => exact ⟨i + 1, done ++ zs, rest', by omega, by go_num, by rw [List.append_assoc]; exact hyd, hr', by rw [← List.append_assoc]; exact hJ3, hKp.trans hka hk3⟩
        case measure => simp [intOf]; omega
      · go_ret
        obtain ⟨z, hz⟩ := hq
        exact .inr ⟨rfl, x :: (done ++ q), ⟨z ++ rest', by rw [hyd, ← hz]; simp⟩, by simpa using hx3⟩
    · have d0 : decide (i < SN) = false := by rw [decide_eq_false_iff_not]; exact hlt
      have hnil : rest = [] := by
       rw [List.drop_eq_nil_of_le (by rw [HSN.out]; omega)] at hrest
       simpa [Nd.partsVL] using hrest
      subst hnil
      rw [List.append_nil] at hyd
      subst hyd
      gi_wp2
      go_ret
      exact .inl ⟨rfl, by simpa using hJr, hkr⟩
 · clear hy
   go_ret
   exact .inr ⟨rfl, [x], ⟨ys, rfl⟩, hx2⟩
end Go.Proofs.YtiinkhmgemoamaaDoor
