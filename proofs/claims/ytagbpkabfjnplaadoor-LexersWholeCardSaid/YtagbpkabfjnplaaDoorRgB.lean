/- A range over a function all of whose rounds go on, where the iterator itself ranges over another function: what such an iterator promises (its caller's word may speak of whatever the iterator's own loops turn), and the caller's law. A region of a round: what holds of it outside a round holds within, where it defers nothing; so its operations may be taken in one order, where each gives the same in all worlds of a kind. A region's operations in one order, where what they look at is held only until the region's own last store (number B) has come up: that store may turn what was looked at. -/
import Derived.RangeFuncNested
import Derived.RangeFuncWrites
import Derived.RangeFuncCalls
import Derived.Test.YtagbpkabfjnplaaDoorProg
import Derived.OrdersIn
import Derived.OrdersHeld
import Derived.Deep.RegionHeld
import Derived.RegionTactic
namespace Go.Proofs.YtagbpkabfjnplaaDoor
open Go Go.RowKit

/-- The iterator hands out xs, one by one, to whatever rounds that all go on. -/
def SeqAll {α : Type} (F : Fence) (n : Nat) (P : Program) (g : Nat) (lb : Array Value) (encs : α → Array Value) (Kp : World → World → Prop) (xs : List α) (N : Nat) (w : World) : Prop :=
  ∀ (l : Nat) (J : List α → World → Prop) (W : World), Below w.heap.size w W → OwnFrom W.heap.size J →
    (∀ pre x W1, J pre W1 → pre.length < N → YieldAt F (n - 1) P l (encs x) W1 fun e W' => e = .returned (.bool true) ∧ J (pre ++ [x]) W' ∧ Kp W1 W' ∧ KeepsFrom W.heap.size W1 W') →
    J [] W → CallsIn F n P g (#[.func (.yield l) #[] #[]] ++ lb) W fun e W' => (∃ v, e = .returned v) ∧ J xs W'

theorem range_all {F : Fence} {n : Nat} {P : Program} {w : World} {α : Type} {g : Operand} {ps : Array Tmp} {assign body : Code} {Q : Exit → Act → World → Prop} {a : Act}
    (hro : F.round = none) (h1 : 1 ≤ n) {gf : Nat} {lb : Array Value} (hg : a.eval g = .func (.func gf) #[] lb) (hFg : F.fn gf) (eg : ∀ args w, (callFunc gf args).run P w = .ok (.enter gf args) w)
    {encs : α → Array Value} {Kp : World → World → Prop} {xs : List α} {N : Nat} {w0 : World} (hseq : SeqAll F (n - 1) P gf lb encs Kp xs N w0)
    (hKt : ∀ {X Y Z : World}, Kp X Y → Kp Y Z → Kp X Z) (hKb : ∀ (W : World) (l : Nat) (o o' : Obj), w.heap.size ≤ l → W.heap[l]? = some o → o.isCells = false → Kp W (W.putObj l o'))
    (hb0 : Below w0.heap.size w0 w) (hps : ∀ x, (encs x).size = ps.size)
    (I : List α → World → Prop) (hI : OwnFrom w.heap.size I) (h0 : I [] w) (Ax : α → Act → World → Prop) (hAx : ∀ x a', OwnFrom w.heap.size (fun (_ : Unit) W => Ax x a' W))
    (hassign : ∀ (l : Nat) (pre : List α) (x : α) (W : World) (K : Act → World → Prop), I pre W → (∀ a' W', KeepsFrom w.heap.size W W' → Kp W W' → I pre W' → Ax x a' W' → K a' W') →
      assign.wpIn (F.inRound l) (n - 1 - 1) P (Exit.then K (fun _ _ _ => False)) { tmps := (ps.zip (encs x)).foldl (fun t (p, v) => t.setIfInBounds p v) a.tmps, defers := [] } W)
    (hbody : ∀ (l : Nat) (pre : List α) (x : α) (a' : Act) (W : World), I pre W → Ax x a' W → pre.length < N → body.wpIn (F.inRound l) (n - 1 - 1) P (ownPostG w.heap.size Kp I (fun _ _ _ => False) (pre ++ [x]) W) a' W)
    (hdone : ∀ (D : Nat) (W : World), w.heap.size ≤ D → I xs W → W.heap[D]? = some (.deferred (some [])) → Q .normal { a with defers := { target := .collected D, args := #[] } :: a.defers } W) :
    (Code.rangeFunc g ps assign body).wpIn F n P Q a w := by
  refine wpIn_rangeFunc fun fn hfn => ?_
  rw [hro]
  obtain ⟨S, hS⟩ : ∃ S, w.heap.size = S := ⟨_, rfl⟩
  obtain ⟨lp, hlp⟩ : ∃ lp : LoopState → Loop, lp = fun st => { state := st, pending := none, fn, tmps := a.tmps, params := ps, assign, body, defers := w.heap.size } := ⟨_, rfl⟩
  obtain ⟨V, hV⟩ : ∃ V, (w.alloc (.deferred (some []))).alloc (.loop (lp .ready)) = V := ⟨_, rfl⟩
  have hVs : V.heap.size = S + 2 := by rw [← hV]; simp [hS]
  have v1 : V.heap[S + 1]? = some (.loop (lp .ready)) := by
    have := World.alloc_heap_new (w.alloc (.deferred (some []))) (.loop (lp .ready))
    rwa [World.size_alloc, hV, hS] at this
  have v0 : V.heap[S]? = some (.deferred (some [])) := by
    rw [← hV, ← hS]; exact (Below.heap_alloc _ _ _ (by simp)).trans (World.alloc_heap_new w _)
  have vb : Below w0.heap.size w0 V := by
    rw [← hV]; exact hb0.trans ((((Below.refl _ w).alloc (Nat.le_refl _) _).alloc (by simp) _).mono hb0.size)
  have vI : I [] V := by rw [← hV]; exact hI.alloc _ (hI.alloc _ h0)
  -- what lies ahead of the iterator's own blocks stays, whatever of these turns
  have stay : ∀ {X Y : World} {row : Option Nat} {k : Nat} {o : Obj}, X.grownBy Y row → (∀ r, row = some r → V.heap.size ≤ r ∧ ∃ o : Obj, X.heap[r]? = some o ∧ o.isCells = false) → k < S + 2 → X.heap[k]? = some o → Y.heap[k]? = some o := by
    intro X Y row k o hgr hr hk ho
    rw [hgr.block k (Array.getElem?_eq_some_iff.1 ho).1 (fun e => by have := (hr k e.symm).1; omega)]
    exact ho
  refine ⟨S + 1, [{ target := .collected S, args := #[] }], V, { target := .fn (.func gf) lb, args := #[.func (.yield (S + 1)) #[] #[]] }, V, gf, #[.func (.yield (S + 1)) #[] #[]] ++ lb, V, ?enter, ?res, ?leads, ?inv, fun _ => h1, ?call⟩
  case enter =>
    have := run_enterLoop_outer (P := P) (w := w) fn a.tmps ps assign body
    rw [← hV, hlp, ← hS]
    exact this
  case res =>
    simp only [resolve, hg]
    simp [go_sem]
  case leads => intro f' hf'; simp [Target.leads] at hf'; subst hf'; exact hFg
  case inv => simp [invoke, go_sem, eg]
  case call =>
    refine (hseq (S + 1) (fun pre W => I pre W ∧ W.heap[S + 1]? = some (.loop (lp .ready)) ∧ W.heap[S]? = some (.deferred (some []))) V vb ?own ?round ⟨vI, v1, v0⟩).mono ?behind
    case own =>
      intro s X Y row hs hgr hr
      exact ⟨hI s X Y row hs.1 hgr (fun r e => ⟨by have := (hr r e).1; omega, (hr r e).2⟩), stay hgr hr (by omega) hs.2.1, stay hgr hr (by omega) hs.2.2⟩
    case round =>
      rintro pre x W ⟨wI, wl, wd⟩ hlen
      have hlt : S + 1 < W.heap.size := (Array.getElem?_eq_some_iff.1 wl).1
      have hy := run_yield (P := P) (args := encs x) wl (by rw [hlp]; exact hps x)
      rw [hlp] at hy
      refine ⟨fn, _, assign, body, hy, roundIn_of_wpIn hfn (hassign _ pre x W _ wI ?_)⟩
      intro a' Z zk zp zI zA
      replace wl := zk.same _ _ (by omega) wl rfl
      replace wd := zk.same _ _ (by omega) wd rfl
      replace hlt : S + 1 < Z.heap.size := (Array.getElem?_eq_some_iff.1 wl).1
      obtain ⟨X, hX⟩ : ∃ X, Z.putObj (S + 1) (.loop (lp .busy)) = X := ⟨_, rfl⟩
      have x1 : X.heap[S + 1]? = some (.loop (lp .busy)) := by rw [← hX]; exact World.putObj_heap_same hlt
      have x0 : X.heap[S]? = some (.deferred (some [])) := by rw [← hX]; exact (World.putObj_heap_other (by omega)).trans wd
      have xI : I pre X := by rw [← hX]; exact hI.putObj _ zI (by omega) wl rfl
      have xA : Ax x a' X := by rw [← hX]; exact (hAx x a').putObj (s := ()) _ zA (by omega) wl rfl
      have xk : Kp W X := by rw [← hX]; exact hKt zp (hKb _ _ _ _ (by omega) wl rfl)
      have xf : KeepsFrom V.heap.size W X := by
        rw [← hX]
        exact KeepsFrom.trans (show KeepsFrom V.heap.size W Z from ⟨zk.size, fun k o hk => zk.same k o (by omega)⟩) (KeepsFrom.of_grownBy (grownBy_putObj' Z (S + 1) _) (fun j e => by cases e; omega))
      have hbr := run_beginRound (P := P) wl (by rw [hlp])
      rw [hlp] at hbr
      refine ⟨X, ?_, wpIn_mono (hbody (S + 1) pre x a' X xI xA hlen) ?_⟩
      · rw [← hX, hlp]; exact hbr
      rintro e a3 Y hp
      cases e with
      | normal =>
        obtain ⟨yk, yp, yI⟩ := hp
        have y1 := yk.same _ _ (by omega) x1 rfl
        have y0 := yk.same _ _ (by omega) x0 rfl
        have her := run_endRound (P := P) none y1
        rw [hlp] at her y1
        have hy1 : S + 1 < Y.heap.size := (Array.getElem?_eq_some_iff.1 y1).1
        refine ⟨_, _, her, rfl, ⟨hI.putObj _ yI (by omega) y1 rfl, ?_, (World.putObj_heap_other (by omega)).trans y0⟩, hKt (hKt xk yp) (hKb _ _ _ _ (by omega) y1 rfl), ?_⟩
        · rw [World.putObj_heap_same hy1, hlp]; rfl
        · exact (xf.trans ⟨yk.size, fun k o hk => yk.same k o (by omega)⟩).trans (KeepsFrom.of_grownBy (grownBy_putObj' Y (S + 1) _) (fun j e => by cases e; omega))
      | ret => exact hp.2.elim
      | exit id => exact hp.2.elim
      | goto t => exact hp.2.elim
      | panic ch => exact hp.elim
      | outgrown => exact hp.elim
    case behind =>
      rintro e W2 ⟨⟨v, rfl⟩, wI, wl, wd⟩
      have hel := run_endLoop (P := P) wl (by rw [hlp]; simp)
      rw [hlp] at hel
      refine ⟨none, _, hel, ?_⟩
      exact hdone S _ (by omega) (hI.putObj _ wI (by omega) wl rfl) ((World.putObj_heap_other (by omega)).trans wd)
end Go.Proofs.YtagbpkabfjnplaaDoor
namespace Go.Proofs.YtagbpkabfjnplaaDoor
open Go Go.RowKit

theorem rows_wide {n : Nat} {P : Program} {row : String} {args : Array Value} {w : World} {R : Value → World → Prop} (h : Rows P row args w R) : RowsIn Fence.wide n P row args w R :=
  fun c cs _ => let ⟨v, w', r, s⟩ := h c cs; ⟨v, w', r, stepsIn_wide.2 s⟩
theorem oper_round {l n : Nat} {P : Program} {o : Oper} {a : Act} {w : World} {K : Act → World → Prop} {Q : Exit → Act → World → Prop} (hd : ∀ c, o.op ≠ .defer c) (h : o.wp P a w K Q) :
    o.wpIn (Fence.wide.inRound l) n P a w K Q := by
  refine ⟨fun _ _ => trivial, ?_⟩
  have e : o.semAt (Fence.wide.inRound l).round a.eval = execOp a.eval o := Oper.semAt_eq _ _ _ hd
  rw [e]
  unfold Oper.wp at h
  generalize (execOp a.eval o).run P w = r at h ⊢
  have h1 : (Fence.wide.inRound l).depth.isSome = true → 1 ≤ n := fun h => by simp [Fence.wide] at h
  cases r with
  | ok x w' =>
    cases x with
    | value v => exact h
    | skip => exact h
    | defer d => exact h
    | enter f args => exact ⟨h1, (CallsIn.inRound l (callsIn_wide.2 h)).mono fun e w'' he => by cases e <;> exact he⟩
    | row row args => exact ⟨h1, rows_wide h⟩
    | round => exact h.elim
    | _ => exact h.elim
  | halt x w' => cases x <;> exact h
theorem any_round {l n : Nat} {P : Program} {md : Region.Mode} {ops : Array Oper} {Q : Exit → Act → World → Prop} (hd : ∀ (i : Nat) (o : Oper), ops[i]? = some o → ∀ c, o.op ≠ .defer c) (hQ : ¬ LetsOut Q) :
    ∀ (fuel : Nat) (listed : Array Bool) (a : Act) (w : World), wpAny P md ops Q fuel listed a w → wpAnyIn (Fence.wide.inRound l) n P md ops Q fuel listed a w
  | 0, _, _, _, h => h
  | fuel + 1, listed, a, w, h => ⟨h.1, fun i hi => by
    have hw := h.2 i hi
    unfold wpOp at hw
    unfold wpOpIn
    cases ho : ops[i]? with
    | none =>
      rw [ho] at hw
      exact any_round hd hQ fuel _ _ _ hw
    | some o =>
      rw [ho] at hw
      dsimp only at hw ⊢
      split
      · rename_i hwt
        rw [if_pos hwt] at hw
        exact Oper.wpIn_mono (fun a w h => any_round hd hQ fuel _ a w h) (oper_round (hd i o ho) (hw.resolve_right fun h => hQ h.2))
      · rename_i hwt
        rw [if_neg hwt] at hw
        exact ⟨fun _ _ => trivial, any_round hd hQ fuel _ _ _ hw⟩⟩
/-- A region within a round, its operations held to one order as far as S tells. -/
theorem round_held {l n : Nat} {P : Program} {S : World → Prop} {id : Nat} {ops : Array Oper} {Q : Exit → Act → World → Prop} {a : Act} {w : World} (hm : P.follows .mixedOrders = true)
    (hd : ops.all (fun o => match o.op with | .defer _ => false | _ => true) = true) (hQ : ¬ LetsOut Q) (hS : S w.drew)
    (h : S w.drew → wpAnyH P .any ops Q S ops.size (Array.replicate ops.size false) a w.drew) : (Code.region id ops true).wpIn (Fence.wide.inRound l) n P Q a w :=
  wpIn_region_any hm (any_round (fun i o ho c e => by
    have := Array.all_eq_true.1 hd i (Array.getElem?_eq_some_iff.1 ho).1
    rw [(Array.getElem?_eq_some_iff.1 ho).2, e] at this
    cases this) hQ _ _ _ _ (wpAny_of_held _ _ _ _ (h hS)))
/-- One operation taken first, its temporary and the array of those taken written out. -/
theorem take_one {P : Program} {md : Region.Mode} {ops : Array Oper} {Q : Exit → Act → World → Prop} {S : World → Prop} {i : Nat} {d : Option Tmp} {v : Value} {l' : Array Bool} {oi : Oper} {fuel : Nat} {listed : Array Bool} {a : Act} {w : World}
    (hi : ops[i]? = some oi) (hd : oi.dst = d) (hs : Region.noSelect ops = true) (hf : Region.free md ops listed i = true) (hr : (Region.ready md ops listed).contains i = true) (hl : listed.setIfInBounds i true = l')
    (hQ : ∀ c a w, ¬ Q (.panic c) a w) (hy : YieldsIf P ops S oi v a) (hS : S w) (h : wpAnyH P md ops Q S fuel l' (a.put d v) w) : wpAnyH P md ops Q S (fuel + 1) listed a w := by
  subst hd hl
  exact wpAnyH_take hi hs hf hr (fun c a w hq => (hQ c _ w hq).elim) hy hS h
/-- One operation that alone may come up. -/
theorem come_one {P : Program} {md : Region.Mode} {ops : Array Oper} {Q : Exit → Act → World → Prop} {S : World → Prop} {i : Nat} {l' : Array Bool} {oi : Oper} {fuel : Nat} {listed : Array Bool} {a : Act} {w : World}
    (hi : ops[i]? = some oi) (hr : Region.ready md ops listed = [i]) (hl : listed.setIfInBounds i true = l')
    (h : ∀ K' : Act → World → Prop, Shut (∀ a w, S w → (S w → wpAnyH P md ops Q S fuel l' a w) → K' a w) → if Region.wanted oi (yielded ops a.tmps) = true then Oper.wp P oi a w K' Q else K' (a.put oi.dst undef) w) : wpAnyH P md ops Q S (fuel + 1) listed a w := by
  subst hl
  exact wpAnyH_ready hr (by simp) (AllReadyH.cons hi h AllReadyH.nil)
end Go.Proofs.YtagbpkabfjnplaaDoor
namespace Go.Proofs.YtagbpkabfjnplaaDoor
open Go Go.RowKit

section
variable {P : Program} {md : Region.Mode} {ops : Array Oper} {Q : Exit → Act → World → Prop} {S : World → Prop} {B : Nat}
/-- Does operation B wait for operation i? -/
def waitsB (md : Region.Mode) (ops : Array Oper) (B i : Nat) : Bool := match ops[B]? with
  | some o => o.after.any fun e => Region.binds md e && e.on == i
  | none => false
/-- Whatever order is picked; behind each operation S holds, or B has come up. -/
def wpAnyB (P : Program) (md : Region.Mode) (ops : Array Oper) (Q : Exit → Act → World → Prop) (S : World → Prop) (B : Nat) : Nat → Array Bool → Act → World → Prop
  | 0, listed, a, w => Region.ready md ops listed = [] ∧ Q .normal a w
  | fuel + 1, listed, a, w => (Region.ready md ops listed = [] → Q .normal a w) ∧
    ∀ j ∈ Region.ready md ops listed, wpOp P ops Q j (fun a' w' => ((listed.setIfInBounds j true).getD B false = true ∨ S w') ∧ wpAnyB P md ops Q S B fuel (listed.setIfInBounds j true) a' w') a w
theorem wpAny_of_B : ∀ (fuel : Nat) (listed : Array Bool) (a : Act) (w : World), wpAnyB P md ops Q S B fuel listed a w → wpAny P md ops Q fuel listed a w
  | 0, _, _, _, h => h
  | fuel + 1, _, _, _, h => ⟨h.1, fun j hj => wpOp_mono (fun a' w' h' => wpAny_of_B fuel _ a' w' h'.2) (h.2 j hj)⟩
theorem wpAnyB_first {i : Nat} {oi : Oper} {v : Value} (hi : ops[i]? = some oi) (hsel : ∀ (j : Nat) (o : Oper) cs b, ops[j]? = some o → o.op ≠ .select cs b)
    (hQ : ∀ c a w, Q (.panic c) (a.put oi.dst v) w → Q (.panic c) a w) (hwt : waitsB md ops B i = true) (fuel : Nat) : ∀ (listed : Array Bool) (a : Act) (w : World),
      (∀ j oj, ops[j]? = some oj → j ≠ i → listed.getD j true = false → (∀ e ∈ oj.after, Region.binds md e = true → e.on ≠ i) → oi.apart ops oj = true) →
      listed.getD B true = false → i ∈ Region.ready md ops listed → YieldsIf P ops S oi v a → S w →
      wpAnyB P md ops Q S B fuel (listed.setIfInBounds i true) (a.put oi.dst v) w → wpAnyB P md ops Q S B (fuel + 1) listed a w := by
  have hni : ∀ {listed : Array Bool} {j : Nat} {oj : Oper}, i ∈ Region.ready md ops listed → j ∈ Region.ready md ops listed → ops[j]? = some oj → ∀ e ∈ oj.after, Region.binds md e = true → e.on ≠ i := by
    intro listed j oj hr hj hoj e he hb heq
    obtain ⟨_, o2, ho2, hall⟩ := mem_ready.1 hj
    rw [hoj] at ho2
    injection ho2 with ho2
    subst ho2
    have h1 := hall e he hb
    have h0 := (mem_ready.1 hr).1
    rw [heq] at h1
    rcases Nat.lt_or_ge i listed.size with h' | h'
    · simp [h'] at h0 h1; rw [h0] at h1; cases h1
    · simp [Array.getElem?_eq_none h'] at h1
  have hnB : ∀ {listed : Array Bool} {j : Nat}, i ∈ Region.ready md ops listed → j ∈ Region.ready md ops listed → j ≠ B := by
    intro listed j hr hj e
    subst e
    unfold waitsB at hwt
    cases ho : ops[j]? with
    | none => rw [ho] at hwt; cases hwt
    | some o =>
      rw [ho] at hwt
      simp only [Array.any_eq_true, Bool.and_eq_true, beq_iff_eq] at hwt
      obtain ⟨k, hk, hb, hon⟩ := hwt
      exact hni hr hj ho _ (Array.getElem_mem hk) hb hon
  induction fuel with
  | zero =>
    intro listed a w _ _ hr hy hS H
    refine ⟨fun h => (by rw [h] at hr; cases hr), fun j hj => ?_⟩
    by_cases hji : j = i
    · subst hji; exact hy.wpOp hi hS ⟨.inr hS, H⟩
    · have := ready_mono hj hji
      rw [H.1] at this
      cases this
  | succ fuel ih =>
    intro listed a w hfree hBl hr hy hS H
    refine ⟨fun h => (by rw [h] at hr; cases hr), fun j hj => ?_⟩
    by_cases hji : j = i
    · subst hji; exact hy.wpOp hi hS ⟨.inr hS, H⟩
    · have h1 := H.2 j (ready_mono hj hji)
      obtain ⟨hjun, oj, hoj, _⟩ := mem_ready.1 hj
      have h2 := wpOp_putIf hoj (hfree j oj hoj hji hjun (hni hr hj hoj)) (fun cs b => hsel i oi cs b hi) (fun cs b => hsel j oj cs b hoj) hQ hy h1
      have hjB := hnB hr hj
      have hiB := hnB hr hr
      have hBl' : (listed.setIfInBounds j true).getD B true = false := by rw [getD_set_ne true hjB]; exact hBl
      have hBf : ¬ (((listed.setIfInBounds i true).setIfInBounds j true).getD B false = true) := by
        intro h
        rw [getD_set_ne false hjB, getD_set_ne false hiB] at h
        rcases Nat.lt_or_ge B listed.size with h' | h'
        · simp [h'] at h hBl; rw [h] at hBl; cases hBl
        · simp [Array.getElem?_eq_none h'] at h
      have hfree' : ∀ k ok, ops[k]? = some ok → k ≠ i → (listed.setIfInBounds j true).getD k true = false →
          (∀ e ∈ ok.after, Region.binds md e = true → e.on ≠ i) → oi.apart ops ok = true := fun k ok hk hki hun hno => by
        refine hfree k ok hk hki ?_ hno
        by_cases hjk : j = k
        · subst hjk; exact hjun
        · rw [getD_set_ne true hjk] at hun; exact hun
      refine wpOp_mono (fun a' w' h3 => ?_) h2
      have hS' : S w' := h3.2.1.resolve_left hBf
      refine ⟨.inr hS', ih (listed.setIfInBounds j true) a' w' hfree' hBl' (ready_mono hr (Ne.symm hji)) h3.1 hS' ?_⟩
      rw [Array.setIfInBounds_comm _ _ hji]
      exact h3.2.2
/-- What yields in whatever world may be taken first too. -/
theorem wpAnyB_pure {i : Nat} {oi : Oper} {v : Value} (hi : ops[i]? = some oi) (hsel : ∀ (j : Nat) (o : Oper) cs b, ops[j]? = some o → o.op ≠ .select cs b)
    (hQ : ∀ c a w, Q (.panic c) (a.put oi.dst v) w → Q (.panic c) a w) (hiB : i ≠ B) (fuel : Nat) : ∀ (listed : Array Bool) (a : Act) (w : World),
      (∀ j oj, ops[j]? = some oj → j ≠ i → listed.getD j true = false → (∀ e ∈ oj.after, Region.binds md e = true → e.on ≠ i) → oi.apart ops oj = true) →
      i ∈ Region.ready md ops listed → YieldsIf P ops (fun _ => True) oi v a → (listed.getD B false = true ∨ S w) →
      wpAnyB P md ops Q S B fuel (listed.setIfInBounds i true) (a.put oi.dst v) w → wpAnyB P md ops Q S B (fuel + 1) listed a w := by
  have hni : ∀ {listed : Array Bool} {j : Nat} {oj : Oper}, i ∈ Region.ready md ops listed → j ∈ Region.ready md ops listed → ops[j]? = some oj → ∀ e ∈ oj.after, Region.binds md e = true → e.on ≠ i := by
    intro listed j oj hr hj hoj e he hb heq
    obtain ⟨_, o2, ho2, hall⟩ := mem_ready.1 hj
    rw [hoj] at ho2
    injection ho2 with ho2
    subst ho2
    have h1 := hall e he hb
    have h0 := (mem_ready.1 hr).1
    rw [heq] at h1
    rcases Nat.lt_or_ge i listed.size with h' | h'
    · simp [h'] at h0 h1; rw [h0] at h1; cases h1
    · simp [Array.getElem?_eq_none h'] at h1
  have hself : ∀ {listed : Array Bool} {w : World}, (listed.getD B false = true ∨ S w) → ((listed.setIfInBounds i true).getD B false = true ∨ S w) := fun h => by rw [getD_set_ne false hiB]; exact h
  induction fuel with
  | zero =>
    intro listed a w _ hr hy hS H
    refine ⟨fun h => (by rw [h] at hr; cases hr), fun j hj => ?_⟩
    by_cases hji : j = i
    · subst hji; exact hy.wpOp hi trivial ⟨hself hS, H⟩
    · have := ready_mono hj hji
      rw [H.1] at this
      cases this
  | succ fuel ih =>
    intro listed a w hfree hr hy hS H
    refine ⟨fun h => (by rw [h] at hr; cases hr), fun j hj => ?_⟩
    by_cases hji : j = i
    · subst hji; exact hy.wpOp hi trivial ⟨hself hS, H⟩
    · have h1 := H.2 j (ready_mono hj hji)
      obtain ⟨hjun, oj, hoj, _⟩ := mem_ready.1 hj
      have h2 := wpOp_putIf hoj (hfree j oj hoj hji hjun (hni hr hj hoj)) (fun cs b => hsel i oi cs b hi) (fun cs b => hsel j oj cs b hoj) hQ hy h1
      have hfree' : ∀ k ok, ops[k]? = some ok → k ≠ i → (listed.setIfInBounds j true).getD k true = false →
          (∀ e ∈ ok.after, Region.binds md e = true → e.on ≠ i) → oi.apart ops ok = true := fun k ok hk hki hun hno => by
        refine hfree k ok hk hki ?_ hno
        by_cases hjk : j = k
        · subst hjk; exact hjun
        · rw [getD_set_ne true hjk] at hun; exact hun
      refine wpOp_mono (fun a' w' h3 => ?_) h2
      have hS' : (listed.setIfInBounds j true).getD B false = true ∨ S w' := by
        have := h3.2.1
        rw [Array.setIfInBounds_comm _ _ (Ne.symm hji), getD_set_ne false hiB] at this
        exact this
      refine ⟨hS', ih (listed.setIfInBounds j true) a' w' hfree' (ready_mono hr (Ne.symm hji)) h3.1 hS' ?_⟩
      rw [Array.setIfInBounds_comm _ _ hji]
      exact h3.2.2
theorem pureB {i : Nat} {d : Option Tmp} {v : Value} {l' : Array Bool} {oi : Oper} {fuel : Nat} {listed : Array Bool} {a : Act} {w : World}
    (hi : ops[i]? = some oi) (hd : oi.dst = d) (hs : Region.noSelect ops = true) (hf : Region.free md ops listed i = true) (hr : (Region.ready md ops listed).contains i = true) (hiB : i ≠ B) (hl : listed.setIfInBounds i true = l')
    (hQ : ∀ c a w, ¬ Q (.panic c) a w) (hy : YieldsIf P ops (fun _ => True) oi v a) (hS : listed.getD B false = true ∨ S w) (h : wpAnyB P md ops Q S B fuel l' (a.put d v) w) : wpAnyB P md ops Q S B (fuel + 1) listed a w := by
  subst hd hl
  exact wpAnyB_pure hi (Region.noSelect_spec hs) (fun c a w hq => (hQ c _ w hq).elim) hiB fuel listed a w (Region.free_spec hi hf) (by simpa using hr) hy hS h
/-- An operation of the builtin append, carried out. -/
theorem step_append {o : Oper} {a : Act} {K : Act → World → Prop} {E : Prop} {w : World} (hgd : o.guard = none) (s x : Operand) (t : TypeId) (ho : o.op = .call { callee := .builtin .append, args := #[s, x], argTypes := #[t, t] })
    (v u : Value) (hs : a.eval s = v) (hx : a.eval x = u) (v' : Value) (w' : World) (hrun : (Builtin.append_ #[t, t] o.type #[v, u]).run P w = .ok v' w') (h : K (a.put o.dst v') w') :
    if Region.wanted o (yielded ops a.tmps) = true then Oper.wp P o a w K Q else E := by
  have hw : Region.wanted o (yielded ops a.tmps) = true := by simp [Region.wanted, hgd]
  rw [if_pos hw]
  unfold Oper.wp
  simp [execOp, ho, resolve, invoke, builtin, hs, hx, hrun, Result.andThen]
  exact h
/-- One operation taken first. -/
theorem takeB {i : Nat} {d : Option Tmp} {v : Value} {l' : Array Bool} {oi : Oper} {fuel : Nat} {listed : Array Bool} {a : Act} {w : World}
    (hi : ops[i]? = some oi) (hd : oi.dst = d) (hs : Region.noSelect ops = true) (hf : Region.free md ops listed i = true) (hr : (Region.ready md ops listed).contains i = true) (hBl : listed.getD B true = false) (hwt : waitsB md ops B i = true) (hl : listed.setIfInBounds i true = l')
    (hQ : ∀ c a w, ¬ Q (.panic c) a w) (hy : YieldsIf P ops S oi v a) (hS : S w) (h : wpAnyB P md ops Q S B fuel l' (a.put d v) w) : wpAnyB P md ops Q S B (fuel + 1) listed a w := by
  subst hd hl
  exact wpAnyB_first hi (Region.noSelect_spec hs) (fun c a w hq => (hQ c _ w hq).elim) hwt fuel listed a w (Region.free_spec hi hf) hBl (by simpa using hr) hy hS h
/-- Operations that may come up. -/
def ReadyB (P : Program) (md : Region.Mode) (ops : Array Oper) (Q : Exit → Act → World → Prop) (S : World → Prop) (B fuel : Nat) (listed : Array Bool) (a : Act) (w : World) (rs : List Nat) : Prop :=
  ∀ j ∈ rs, wpOp P ops Q j (fun a' w' => ((listed.setIfInBounds j true).getD B false = true ∨ S w') ∧ wpAnyB P md ops Q S B fuel (listed.setIfInBounds j true) a' w') a w
theorem ReadyB.nil {fuel : Nat} {listed : Array Bool} {a : Act} {w : World} : ReadyB P md ops Q S B fuel listed a w [] := fun _ h => by cases h
theorem ReadyB.cons {fuel : Nat} {listed l' : Array Bool} {a : Act} {w : World} {i : Nat} {o : Oper} {rs : List Nat} (ho : ops[i]? = some o) (hl : listed.setIfInBounds i true = l')
    (h : ∀ K' : Act → World → Prop, Shut (∀ a w, (l'.getD B false = true ∨ S w) → ((l'.getD B false = true ∨ S w) → wpAnyB P md ops Q S B fuel l' a w) → K' a w) → if Region.wanted o (yielded ops a.tmps) = true then Oper.wp P o a w K' Q else K' (a.put o.dst undef) w)
    (hs : ReadyB P md ops Q S B fuel listed a w rs) : ReadyB P md ops Q S B fuel listed a w (i :: rs) := fun j hj => by
  subst hl
  rcases List.mem_cons.1 hj with rfl | hj
  · exact wpOp_step ho (fun K' hK => h K' (fun a w hS hW => hK a w ⟨hS, hW hS⟩))
  · exact hs j hj
theorem wpAnyB_ready {rs : List Nat} {fuel : Nat} {listed : Array Bool} {a : Act} {w : World} (hr : Region.ready md ops listed = rs) (hne : rs ≠ [])
    (h : ReadyB P md ops Q S B fuel listed a w rs) : wpAnyB P md ops Q S B (fuel + 1) listed a w := ⟨fun h0 => absurd (hr ▸ h0) hne, hr ▸ h⟩
theorem wpAnyB_done {listed : Array Bool} {a : Act} {w : World} (hr : Region.ready md ops listed = []) (h : Q .normal a w) : ∀ fuel, wpAnyB P md ops Q S B fuel listed a w
  | 0 => ⟨hr, h⟩
  | _ + 1 => ⟨fun _ => h, by rw [hr]; simp⟩
theorem comeB {i : Nat} {l' : Array Bool} {oi : Oper} {fuel : Nat} {listed : Array Bool} {a : Act} {w : World} (hi : ops[i]? = some oi) (hr : Region.ready md ops listed = [i]) (hl : listed.setIfInBounds i true = l')
    (h : ∀ K' : Act → World → Prop, Shut (∀ a w, (l'.getD B false = true ∨ S w) → ((l'.getD B false = true ∨ S w) → wpAnyB P md ops Q S B fuel l' a w) → K' a w) → if Region.wanted oi (yielded ops a.tmps) = true then Oper.wp P oi a w K' Q else K' (a.put oi.dst undef) w) : wpAnyB P md ops Q S B (fuel + 1) listed a w :=
  wpAnyB_ready hr (by simp) (ReadyB.cons hi hl h ReadyB.nil)
theorem comeB2 {i j : Nat} {l1 l2 : Array Bool} {oi oj : Oper} {fuel : Nat} {listed : Array Bool} {a : Act} {w : World} (hi : ops[i]? = some oi) (hj : ops[j]? = some oj) (hr : Region.ready md ops listed = [i, j]) (hl1 : listed.setIfInBounds i true = l1) (hl2 : listed.setIfInBounds j true = l2)
    (h1 : ∀ K' : Act → World → Prop, Shut (∀ a w, (l1.getD B false = true ∨ S w) → ((l1.getD B false = true ∨ S w) → wpAnyB P md ops Q S B fuel l1 a w) → K' a w) → if Region.wanted oi (yielded ops a.tmps) = true then Oper.wp P oi a w K' Q else K' (a.put oi.dst undef) w)
    (h2 : ∀ K' : Act → World → Prop, Shut (∀ a w, (l2.getD B false = true ∨ S w) → ((l2.getD B false = true ∨ S w) → wpAnyB P md ops Q S B fuel l2 a w) → K' a w) → if Region.wanted oj (yielded ops a.tmps) = true then Oper.wp P oj a w K' Q else K' (a.put oj.dst undef) w) : wpAnyB P md ops Q S B (fuel + 1) listed a w :=
  wpAnyB_ready hr (by simp) (ReadyB.cons hi hl1 h1 (ReadyB.cons hj hl2 h2 ReadyB.nil))
/-- The beginning, outside a round. -/
theorem region_B {id : Nat} {a : Act} {w : World} (B : Nat) (hm : P.follows .mixedOrders = true) (hS : S w.drew) (h : S w.drew → wpAnyB P .any ops Q S B ops.size (Array.replicate ops.size false) a w.drew) : (Code.region id ops true).wp P Q a w :=
  wp_region_any hm (wpAny_of_B _ _ _ _ (h hS))
/-- The beginning, within a round. -/
theorem round_B {l n id : Nat} {a : Act} {w : World} (B : Nat) (hm : P.follows .mixedOrders = true) (hd : ops.all (fun o => match o.op with | .defer _ => false | _ => true) = true) (hQ : ¬ LetsOut Q) (hS : S w.drew)
    (h : S w.drew → wpAnyB P .any ops Q S B ops.size (Array.replicate ops.size false) a w.drew) : (Code.region id ops true).wpIn (Fence.wide.inRound l) n P Q a w :=
  wpIn_region_any hm (any_round (fun i o ho c e => by
    have := Array.all_eq_true.1 hd i (Array.getElem?_eq_some_iff.1 ho).1
    rw [(Array.getElem?_eq_some_iff.1 ho).2, e] at this
    cases this) hQ _ _ _ _ (wpAny_of_B _ _ _ _ (h hS)))
end
end Go.Proofs.YtagbpkabfjnplaaDoor
