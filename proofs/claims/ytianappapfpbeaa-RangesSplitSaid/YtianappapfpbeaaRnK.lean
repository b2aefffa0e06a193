/- Ranges, pure: what Split's labels tell. -/
import Derived.Test.YtianappapfpbeaaRnG
namespace Go.Proofs.Ytianappapfpbeaa.Rn
open Go Go.RowKit

/-- ns are ls, each neat. -/
def Neated (ls ns : List (List (Int × Int))) : Prop := ns.length = ls.length ∧ ∀ (i : Nat) (l n : List (Int × Int)), ls[i]? = some l → ns[i]? = some n → Runs false (hasB l) lowest n ∧ I32 n ∧ I32 l
/-- Which of the lists hold a number. -/
def sig (ls : List (List (Int × Int))) (y : Int) : List Bool := ls.map fun l => hasB l y
/-- None does. -/
def noSig (ls : List (List (Int × Int))) : List Bool := ls.map fun _ => false
theorem Neated.sig {ls ns : List (List (Int × Int))} (h : Neated ls ns) (y : Int) : sig ns y = Rn.sig ls y := by
  unfold Rn.sig
  apply List.ext_getElem?
  intro i
  rw [List.getElem?_map, List.getElem?_map]
  cases hl : ls[i]? with
  | none =>
    rw [List.getElem?_eq_none (by have := List.getElem?_eq_none_iff.1 hl; rw [h.1]; exact this)]
  | some l =>
    have hi := (List.getElem?_eq_some_iff.1 hl).1
    obtain ⟨n, hn⟩ : ∃ n, ns[i]? = some n := ⟨_, List.getElem?_eq_getElem (by rw [h.1]; exact hi)⟩
    obtain ⟨h1, h2, h3⟩ := h.2 i l n hl hn
    rw [hn, Option.map_some, Option.map_some, h1.all h3 h2]
theorem Neated.no {ls ns : List (List (Int × Int))} (h : Neated ls ns) : noSig ns = noSig ls := by
  unfold noSig
  rw [List.map_const', List.map_const', h.1]
theorem sig_no (ls : List (List (Int × Int))) (y : Int) : sig ls y = noSig ls ↔ anyB ls y = false := by
  unfold sig noSig anyB
  induction ls with
  | nil => simp
  | cons l ls ih =>
    rw [List.map_cons, List.map_cons, List.any_cons, List.cons.injEq, ih, Bool.or_eq_false_iff]
theorem Neated.mem {ls ns : List (List (Int × Int))} (h : Neated ls ns) {n : List (Int × Int)} (hn : n ∈ ns) : neatB n = true ∧ I32 n := by
  obtain ⟨i, hi⟩ := List.getElem?_of_mem hn
  have hlt := (List.getElem?_eq_some_iff.1 hi).1
  obtain ⟨l, hl⟩ : ∃ l, ls[i]? = some l := ⟨_, List.getElem?_eq_getElem (by rw [← h.1]; exact hlt)⟩
  obtain ⟨h1, h2, _⟩ := h.2 i l n hl hi
  exact ⟨h1.neat, h2⟩
theorem tau_none {S : Type} {c : Nat → Int → S} : ∀ (d : List (Int × Int)) (k : Nat) (o : Int) (s : S) (y : Int), (∀ p ∈ d, y < p.1) → tau c d k o s y = s
  | [], _, _, _, _, _ => rfl
  | (a, m) :: t, k, o, s, y, h => by
    simp only [tau]
    rw [if_pos (h (a, m) (by simp))]
theorem emit_label {ls ns : List (List (Int × Int))} {d : List (Int × Int)} (hN : Neated ls ns) (hp : (endsLL 1 ns).Perm d) (hu : Up d) :
    Runs (noSig ls) (sig ls) lowest ((emit 0 labelC d 0 0 0 0).map wrapR) ∧ I32 ((emit 0 labelC d 0 0 0 0).map wrapR) ∧ ((emit 0 labelC d 0 0 0 0).map wrapR).length ≤ (endsLL 1 ns).length := by
  have hI : ∀ n ∈ ns, I32 n := fun n hn => (hN.mem hn).2
  have hup : ∀ y, upto y d = upto y (endsLL 1 ns) := fun y => (upto_perm y hp).symm
  have hno : ∀ y, sig ns y = noSig ns ↔ upto y d = 0 := fun y => by
    have := upto_ends2 y ns
    rw [sig_no, hup]
    unfold anyB
    cases e : ns.any (fun l => hasB l y) with
    | true => have := this.2.2 e; simp; omega
    | false => simp; have h1 := this.1; by_cases k : 0 < upto y (endsLL 1 ns)
               · have := this.2.1 k; rw [e] at this; cases this
               · omega
  have hover : ∀ y, (∀ p ∈ d, p.1 ≤ y) → upto y d = 0 := fun y hy => by
    rw [← hno, sig_no, ← Bool.not_eq_true]
    intro h
    obtain ⟨l, hl, h1⟩ := List.any_eq_true.1 h
    rw [ends_over (e := 1) (fun p h => hy p (hp.mem_iff.1 (List.mem_flatMap.2 ⟨l, hl, h⟩)))] at h1
    cases h1
  have hzero : ∀ y, tau labelC d 0 0 0 y = 0 ↔ upto y d = 0 := fun y => by
    by_cases h : ∃ p ∈ d, p.1 ≤ y
    · have := tau_label d 0 0 0 y hu h
      rw [Int.zero_add] at this
      constructor
      · intro k
        by_cases e : upto y d = 0
        · exact e
        · have := this.2 e; omega
      · exact this.1
    · have hlow : ∀ p ∈ d, y < p.1 := fun p hp => by
        by_cases k : p.1 ≤ y
        · exact absurd ⟨p, hp, k⟩ h
        · omega
      rw [tau_none d 0 0 0 y hlow, upto_low y d hlow]
  have hR := (emit_runs (z := (0 : Int)) (c := labelC) d 0 0 0 0 lowest hu (fun p h => (endsLL_in hI p (hp.mem_iff.2 h)).1) (fun y hy => (hzero y).2 (hover y hy))).1 rfl
  have hstep : ∀ y, lowest ≤ y → (tau labelC d 0 0 0 (y + 1) = tau labelC d 0 0 0 y ↔ sig ns (y + 1) = sig ns y) := fun y _ => by
    by_cases h : ∃ p ∈ d, p.1 = y + 1
    · obtain ⟨p, hpd, hpy⟩ := h
      obtain ⟨n, hn, hpn⟩ := List.mem_flatMap.1 (hp.mem_iff.2 hpd)
      have hne := neat_end (hN.mem hn).1 1 hpn
      rw [hpy, show y + 1 - 1 = y by omega] at hne
      have hs : sig ns (y + 1) ≠ sig ns y := fun e => by
        obtain ⟨i, hi⟩ := List.getElem?_of_mem hn
        have h1 : (sig ns (y + 1))[i]? = some (hasB n (y + 1)) := by unfold sig; rw [List.getElem?_map, hi]; rfl
        have h2 : (sig ns y)[i]? = some (hasB n y) := by unfold sig; rw [List.getElem?_map, hi]; rfl
        rw [e, h2] at h1
        injection h1 with h1
        exact hne h1
      have ho : tau labelC d 0 0 0 (y + 1) ≠ tau labelC d 0 0 0 y := by
        refine tau_other d 0 0 0 y hu (by omega) (fun _ => by simp) ⟨p, hpd, hpy⟩ ?_
        rw [Int.zero_add, Int.zero_add]
        by_cases k : upto y d = 0
        · refine .inr fun k2 => ?_
          apply hs
          rw [(hno y).2 k, (hno (y + 1)).2 k2]
        · exact .inl k
      exact ⟨fun e => absurd e ho, fun e => absurd e hs⟩
    · have h1 : ∀ p ∈ d, p.1 ≠ y + 1 := fun p hp e => h ⟨p, hp, e⟩
      have h2 : sig ns (y + 1) = sig ns y := by
        unfold sig
        apply List.map_congr_left
        intro n hn
        exact noend fun p hpn => h1 p (hp.mem_iff.1 (List.mem_flatMap.2 ⟨n, hn, hpn⟩))
      exact ⟨fun _ => h2, fun _ => tau_same d 0 0 0 y h1⟩
  have hT := Runs.turn (z' := noSig ns) (τ := sig ns) _ _ (fun y _ => (hzero y).trans (hno y).symm) hstep hR
  have h32 : I32 (emit 0 labelC d 0 0 0 0) := Runs.in (fun y hy => anyB_in hI (by
    have := mt (sig_no ns y).2 hy
    simpa using this)) _ _ hT
  rw [map_wrap h32]
  refine ⟨?_, h32, ?_⟩
  · rw [← hN.no]
    exact Runs.congr _ _ (fun y _ => hN.sig y) hT
  · have := emit_len (z := (0 : Int)) (c := labelC) d 0 0 0 0
    rw [if_pos rfl, ← hp.length_eq] at this
    exact this
end Go.Proofs.Ytianappapfpbeaa.Rn
