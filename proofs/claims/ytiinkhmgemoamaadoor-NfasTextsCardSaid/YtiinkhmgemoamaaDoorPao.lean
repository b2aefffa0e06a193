/- Pure: words of bits as predicates. wd f n: the number whose bit i is f i, below n. The builder of places as a function (nfas): of a grammar it looks at the tokens' bodies in their order, and at the bodies that names stand for: nothing else. So the order of the other rules makes no difference. Pure. Sets of places as the program holds them: 64 words of 64 bits. Sets of places: one joined to another one, in another block. math/bits.TrailingZeros64 as the library's shelf tells it, laid at this program. The iterator of a set of places: all of them, rising. What the builder of places holds, as it lies in memory. Behind each of some places each of others may come: the contract of link. Where texts of nodes begin and end, joined: the contract of ends.join. -/
import Derived.Lib.TrailingZeros
import Derived.Test.YtiinkhmgemoamaaDoorPad
import Derived.Test.YtiinkhmgemoamaaDoorPac
import Derived.Test.YtiinkhmgemoamaaDoorPae
import Derived.Test.YtiinkhmgemoamaaDoorChecked
import Derived.Laws.Bits64b
import Derived.BigQuiet
import Derived.Deep.QuietTactic
import Derived.Test.YtiinkhmgemoamaaDoorProg
import Derived.Shelf.Spec.TrailingZeros
import Derived.RangeFuncNested
import Derived.RangeFuncBound
import Derived.RangeFuncCalls
import Derived.RangeFuncLeaves
import Derived.Shelf.Abstract
import Derived.Shelf.RegionOpen
import Derived.OwnWalkIn
import Derived.TacticsInMore
import Derived.LoopNIn
import Derived.LoopIn
import Derived.Test.YtiinkhmgemoamaaDoorPan
import Derived.Deep.AppendLies
import Derived.Test.YtiinkhmgemoamaaDoorPz
namespace Go.Proofs.YtiinkhmgemoamaaDoor.Nf
def wd (f : Nat → Bool) : Nat → Nat
 | 0 => 0
 | n + 1 => wd f n + (if f n then 2 ^ n else 0)
theorem wd_lt (f : Nat → Bool) : ∀ n, wd f n < 2 ^ n
 | 0 => by simp [wd]
 | n + 1 => by
  have := wd_lt f n
  unfold wd
  rw [Nat.pow_succ]
  split <;> omega
theorem testBit_wd (f : Nat → Bool) : ∀ n i, (wd f n).testBit i = (decide (i < n) && f i)
 | 0, i => by simp [wd]
 | n + 1, i => by
  have hl := wd_lt f n
  unfold wd
  cases hf : f n with
  | false =>
   simp only [Bool.false_eq_true, if_false, Nat.add_zero]
   rw [testBit_wd f n i]
   by_cases h : i = n
   · subst h; simp [hf]
   · have : decide (i < n + 1) = decide (i < n) := by simp; omega
     rw [this]
  | true =>
   simp only [if_true]
   rw [show wd f n + 2 ^ n = 2 ^ n * 1 + wd f n from by omega, Nat.testBit_two_pow_mul_add 1 hl i, testBit_wd f n i]
   by_cases h : i < n
   · simp [h]; omega
   · by_cases h2 : i = n
     · subst h2; simp [hf]
     · have h3 : i - n ≠ 0 := by omega
       have h4 : ¬ i < n + 1 := by omega
       obtain ⟨k, hk⟩ : ∃ k, i - n = k + 1 := ⟨i - n - 1, by omega⟩
       simp [h, h4, hk, Nat.testBit_succ]
theorem wd_ext {f g : Nat → Bool} {n : Nat} (h : ∀ i, i < n → f i = g i) : wd f n = wd g n := by
 apply Nat.eq_of_testBit_eq
 intro i
 rw [testBit_wd, testBit_wd]
 by_cases hi : i < n
 · rw [h i hi]
 · simp [hi]
theorem wd_or (f g : Nat → Bool) (n : Nat) : wd f n ||| wd g n = wd (fun i => f i || g i) n := by
 apply Nat.eq_of_testBit_eq
 intro i
 rw [Nat.testBit_or, testBit_wd, testBit_wd, testBit_wd]
 cases decide (i < n) <;> simp
theorem wd_one {n k : Nat} (h : k < n) : wd (fun i => i == k) n = 2 ^ k := by
 apply Nat.eq_of_testBit_eq
 intro i
 rw [testBit_wd, Nat.testBit_two_pow]
 by_cases e : i = k
 · subst e; simp [h]
 · have : ¬ k = i := fun h => e h.symm
   simp [e, this]
theorem wd_zero {f : Nat → Bool} {n : Nat} : wd f n = 0 ↔ ∀ i, i < n → f i = false := by
 constructor
 · intro h i hi
   have := testBit_wd f n i
   rw [h] at this
   simpa [hi] using this.symm
 · intro h
   rw [wd_ext (g := fun _ => false) h]
   apply Nat.eq_of_testBit_eq
   intro i
   rw [testBit_wd]; simp
/-- What is left without the lowest bit. -/
theorem wd_clear {f : Nat → Bool} {n t : Nat} (ht : t < n) (hf : f t = true) (hl : ∀ i, i < t → f i = false) : wd f n &&& (wd f n - 1) = wd (fun i => f i && !(i == t)) n := by
 obtain ⟨m, hm⟩ : ∃ m, wd f n = 2 ^ t * (2 * m + 1) + 0 := by
  refine ⟨wd f n / 2 ^ (t + 1), ?_⟩
  apply Nat.eq_of_testBit_eq
  intro i
  rw [Nat.testBit_two_pow_mul_add _ (Nat.two_pow_pos t) i, testBit_wd]
  by_cases h1 : i < t
  · simp [h1, hl i h1]
  · rw [if_neg h1]
    by_cases h2 : i = t
    · subst h2; simp [ht, hf]
    · obtain ⟨k, hk⟩ : ∃ k, i - t = k + 1 := ⟨i - t - 1, by omega⟩
      rw [hk, Nat.testBit_succ, show (2 * (wd f n / 2 ^ (t + 1)) + 1) / 2 = wd f n / 2 ^ (t + 1) from by omega, Nat.testBit_div_two_pow, testBit_wd, show k + (t + 1) = i from by omega]
 have hp := Nat.two_pow_pos t
 have hm1 : wd f n - 1 = 2 ^ t * (2 * m) + (2 ^ t - 1) := by rw [hm, Nat.mul_add, Nat.mul_one]; omega
 apply Nat.eq_of_testBit_eq
 intro i
 rw [Nat.testBit_and, hm1, Nat.testBit_two_pow_mul_add _ (by omega) i, testBit_wd, testBit_wd]
 by_cases h1 : i < t
 · simp [h1, hl i h1]
 · rw [if_neg h1]
   by_cases h2 : i = t
   · subst h2; simp
   · obtain ⟨k, hk⟩ : ∃ k, i - t = k + 1 := ⟨i - t - 1, by omega⟩
     have hb := testBit_wd f n i
     rw [hm, Nat.testBit_two_pow_mul_add _ hp i, if_neg h1, hk, Nat.testBit_succ, show (2 * m + 1) / 2 = m from by omega] at hb
     rw [hk, Nat.testBit_succ, show 2 * m / 2 = m from by omega, hb]
     have h3 : (i == t) = false := by simpa using h2
     rw [h3]
     simp
/-- The bits of a word, rising, from a number on. -/
def ups (f : Nat → Bool) (n : Nat) : List Nat := (List.range n).filter f
theorem ups_nil {f : Nat → Bool} {n : Nat} (h : wd f n = 0) : ups f n = [] := by
 unfold ups
 rw [List.filter_eq_nil_iff]
 intro i hi
 rw [wd_zero.1 h i (List.mem_range.1 hi)]
 simp
theorem ups_cons {f : Nat → Bool} {n t : Nat} (ht : t < n) (hf : f t = true) (hl : ∀ i, i < t → f i = false) : ups f n = t :: ups (fun i => f i && !(i == t)) n := by
 obtain ⟨k, rfl⟩ : ∃ k, n = t + 1 + k := ⟨n - t - 1, by omega⟩
 unfold ups
 rw [List.range_add, List.range_succ]
 simp only [List.filter_append, List.filter_map]
 have h0 : (List.range t).filter f = [] := by
  rw [List.filter_eq_nil_iff]
  intro i hi
  rw [hl i (List.mem_range.1 hi)]; simp
 have h1 : (List.range t).filter (fun i => f i && !(i == t)) = [] := by
  rw [List.filter_eq_nil_iff]
  intro i hi
  rw [hl i (List.mem_range.1 hi)]; simp
 rw [h0, h1]
 have h2 : ∀ i, (f ∘ fun x => t + 1 + x) i = ((fun i => f i && !(i == t)) ∘ fun x => t + 1 + x) i := fun i => by
  have : ((t + 1 + i) == t) = false := by simp; omega
  simp [Function.comp, this]
 rw [List.filter_congr (fun i _ => h2 i)]
 simp [hf]
/-- Its lowest bit is what the library counts. -/
theorem wd_ctz {f : Nat → Bool} {n : Nat} (h : wd f n ≠ 0) : Go.Lib.ctz n (wd f n) < n ∧ f (Go.Lib.ctz n (wd f n)) = true ∧ ∀ i, i < Go.Lib.ctz n (wd f n) → f i = false := by
 obtain ⟨m, hm, hk⟩ := Go.Lib.ctzFrom_spec n (wd f n) (by omega) (wd_lt f n)
 have e : Go.Lib.ctz n (wd f n) = Go.Lib.ctzFrom n (wd f n) := by simp [Go.Lib.ctz, h]
 rw [e]
 generalize Go.Lib.ctzFrom n (wd f n) = c at *
 have hb : ∀ i, (wd f n).testBit i = if i < c then false else (2 * m + 1).testBit (i - c) := fun i => by
  have := Nat.testBit_two_pow_mul_add (2 * m + 1) (Nat.two_pow_pos c) i
  rw [← Nat.add_zero (wd f n), hm, this]
  simp
 refine ⟨hk, ?_, fun i hi => ?_⟩
 · have := hb c
   rw [testBit_wd, if_neg (by omega), Nat.sub_self] at this
   simpa [hk] using this
 · have := hb i
   rw [testBit_wd, if_pos hi] at this
   have h2 : i < n := by omega
   simpa [h2] using this
/-- The words of a set: the bits of word i are the numbers from 64 i on. -/
def word (S : Nat → Bool) (i : Nat) : Nat := wd (fun j => S (i * 64 + j)) 64
theorem word_lt (S : Nat → Bool) (i : Nat) : word S i < 18446744073709551616 := wd_lt _ 64
def jn (S T : Nat → Bool) : Nat → Bool := fun p => S p || T p
def ad (S : Nat → Bool) (p : Nat) : Nat → Bool := fun q => S q || q == p
def none_ : Nat → Bool := fun _ => false
theorem word_none (i : Nat) : word none_ i = 0 := wd_zero.2 fun _ _ => rfl
theorem word_jn (S T : Nat → Bool) (i : Nat) : word S i ||| word T i = word (jn S T) i := wd_or _ _ 64
theorem word_ad {S : Nat → Bool} {p i : Nat} : word (ad S p) i = if i = p / 64 then word S i ||| 2 ^ (p % 64) else word S i := by
 split
 · rename_i h
   subst h
   unfold word
   rw [← wd_one (Nat.mod_lt p (by omega : 64 > 0)), wd_or]
   refine wd_ext fun j hj => ?_
   unfold ad
   have : (p / 64 * 64 + j == p) = (j == p % 64) := by
    rw [Bool.eq_iff_iff]; simp only [beq_iff_eq]; omega
   rw [this]
 · rename_i h
   unfold word
   refine wd_ext fun j hj => ?_
   unfold ad
   have : (i * 64 + j == p) = false := by
    rw [beq_eq_false_iff_ne]; omega
   rw [this, Bool.or_false]
/-- All of a set below 64 N, rising, are those of its words one behind the other. -/
theorem ups_words (S : Nat → Bool) : ∀ N, ups S (N * 64) = (List.range N).flatMap fun i => (ups (fun j => S (i * 64 + j)) 64).map (i * 64 + ·)
 | 0 => by simp [ups]
 | N + 1 => by
  rw [List.range_succ, List.flatMap_append, ← ups_words S N]
  unfold ups
  rw [show (N + 1) * 64 = N * 64 + 64 from by omega, List.range_add]
  simp only [List.filter_append, List.filter_map, List.flatMap_cons, List.flatMap_nil, List.append_nil]
  rfl
theorem ups_mem {S : Nat → Bool} {n p : Nat} : p ∈ ups S n ↔ p < n ∧ S p = true := by
 unfold ups
 rw [List.mem_filter, List.mem_range]
end Go.Proofs.YtiinkhmgemoamaaDoor.Nf
namespace Go.Proofs.YtiinkhmgemoamaaDoor.Nf
open Go Go.RowKit Nd Nu

/-- What the builder holds: nodes gone through, the places (their sets and kinds), what follows each, whether it is over. -/
structure St where
 nodes : Nat
 made : List (List (Int × Int) × Nat)
 follow : List (Nat → Bool)
 over : Bool
/-- What a node is made to. -/
structure Pt where
 first : Nat → Bool
 last : Nat → Bool
 empty : Bool
def Pt.zero : Pt := ⟨none_, none_, false⟩
def Pt.void : Pt := ⟨none_, none_, true⟩
def placeF (kind : Nat) (s : St) (set : List (Int × Int)) : St × Pt :=
 if s.made.length = 4096 then ({ s with over := true }, .zero)
 else ({ s with made := s.made ++ [(set, kind)], follow := s.follow ++ [none_] }, ⟨ad none_ s.made.length, ad none_ s.made.length, false⟩)
/-- Behind each of some places each of others may come. -/
def linkF (s : St) (fr to : Nat → Bool) : St := { s with follow := s.follow.mapIdx fun p S => if fr p then jn S to else S }
def behindF (s : St) (p q : Pt) : St × Pt :=
 (linkF s p.last q.first, ⟨if p.empty then jn p.first q.first else p.first, jn (if q.empty then p.last else none_) q.last, p.empty && q.empty⟩)
/-- Nodes one behind the other: `pt` makes one. -/
def rowF {α : Type} (pt : St → α → St × Pt) : St → Pt → List α → St × Pt
 | s, p, [] => (s, p)
 | s, p, n :: l =>
  let (s1, q) := pt s n
  if s1.over then (s1, p) else
   let (s2, p2) := behindF s1 p q
   rowF pt s2 p2 l
/-- Nodes of which one is there. -/
def choiceF {α : Type} (pt : St → α → St × Pt) : St → Pt → List α → St × Pt
 | s, p, [] => (s, p)
 | s, p, n :: l =>
  let (s1, q) := pt s n
  if s1.over then (s1, p) else choiceF pt s1 ⟨jn p.first q.first, jn p.last q.last, p.empty || q.empty⟩ l
/-- A node made: `fd` the body that a name stands for, `rns` a text's runes. The fuel is what is left of the nodes that may be gone through. -/
def partF (fd : ByteArray → Option T) (rns : ByteArray → List Int) (kind : Nat) : Nat → St → T → St × Pt
 | 0, s, _ => ({ s with nodes := s.nodes + 1, over := true }, .zero)
 | F + 1, s, n =>
  let s1 : St := { s with nodes := s.nodes + 1, over := s.over || decide (65536 < s.nodes + 1) }
  if s1.over then (s1, .zero) else
  if n.kind = 1 then rowF (partF fd rns kind F) s1 .void n.subs
  else if n.kind = 0 then choiceF (partF fd rns kind F) s1 .zero n.subs
  else if n.kind = 2 ∨ n.kind = 3 ∨ n.kind = 4 then
   let (s2, p) := match n.subs with | [] => (s1, Pt.zero) | m :: _ => partF fd rns kind F s1 m
   let s3 := if n.kind = 2 then s2 else linkF s2 p.last p.first
   (s3, if n.kind = 4 then p else { p with empty := true })
  else if n.kind = 6 then match fd n.name with | some b => partF fd rns kind F s1 b | none => (s1, .void)
  else if n.kind = 8 then rowF (fun s r => placeF kind s [(r, r)]) s1 .void (rns n.text)
  else if n.kind = 9 then placeF kind s1 n.set
  else (s1, .void)
/-- The tokens' bodies, one after the other. -/
def allF (fd : ByteArray → Option T) (rns : ByteArray → List Int) : St → (Nat → Bool) × (Nat → Bool) → Nat → List T → St × ((Nat → Bool) × (Nat → Bool))
 | s, a, _, [] => (s, a)
 | s, a, k, b :: l =>
  let (s1, p) := partF fd rns k 65537 s b
  allF fd rns s1 (jn a.1 p.first, jn a.2 p.last) (k + 1) l
/-- The body that a name stands for. -/
def bodyOf (rs : List Rl) (nm : ByteArray) : Option T := ((fnd rs nm).bind fun k => rs[k]?).map (·.body)
def toks (rs : List Rl) : List Rl := rs.filter fun r => decide (r.sort = 1 ∨ r.sort = 3)
/-- What all is made to. -/
def autoF (rns : ByteArray → List Int) (rs : List Rl) : St × ((Nat → Bool) × (Nat → Bool)) := allF (bodyOf rs) rns ⟨0, [], [], false⟩ (none_, none_) 0 ((toks rs).map (·.body))
/-- Fragments ahead of all, rules for parsing behind. -/
def sorted (rs : List Rl) : List Rl := rs.filter (fun r => decide (r.sort = 2)) ++ toks rs ++ rs.filter fun r => decide (¬ (r.sort = 2) ∧ ¬ (r.sort = 1 ∨ r.sort = 3))

theorem mem_sorted (rs : List Rl) (r : Rl) : r ∈ rs ↔ r ∈ sorted rs := by
 unfold sorted toks
 simp only [List.mem_append, List.mem_filter, decide_eq_true_iff]
 constructor
 · intro h
   by_cases h1 : r.sort = 2
   · exact .inl (.inl ⟨h, h1⟩)
   · by_cases h2 : r.sort = 1 ∨ r.sort = 3
     · exact .inl (.inr ⟨h, h2⟩)
     · exact .inr ⟨h, h1, h2⟩
 · rintro ((h | h) | h) <;> exact h.1

def Bd (N : Nat) (S : Nat → Bool) : Prop := ∀ p, S p = true → p < N
theorem Bd.none (N : Nat) : Bd N none_ := fun _ h => by cases h
theorem Bd.jn {N : Nat} {S T : Nat → Bool} (h : Bd N S) (h' : Bd N T) : Bd N (jn S T) := fun p hp => by
 unfold Nf.jn at hp
 rw [Bool.or_eq_true] at hp
 exact hp.elim (h p) (h' p)
theorem Bd.ad {N p : Nat} {S : Nat → Bool} (h : Bd N S) (hp : p < N) : Bd N (ad S p) := fun q hq => by
 unfold Nf.ad at hq
 rw [Bool.or_eq_true, beq_iff_eq] at hq
 exact hq.elim (h q) (fun e => e ▸ hp)
theorem Bd.mono {N M : Nat} {S : Nat → Bool} (h : Bd N S) (hm : N ≤ M) : Bd M S := fun p hp => Nat.lt_of_lt_of_le (h p hp) hm
structure Ok (s : St) : Prop where
 len : s.follow.length = s.made.length
 bd : ∀ S, S ∈ s.follow → Bd s.made.length S
 cap : s.made.length ≤ 4096
def Pok (N : Nat) (p : Pt) : Prop := Bd N p.first ∧ Bd N p.last
theorem Pok.zero (N : Nat) : Pok N .zero := ⟨Bd.none N, Bd.none N⟩
theorem Pok.void (N : Nat) : Pok N .void := ⟨Bd.none N, Bd.none N⟩
theorem Pok.mono {N M : Nat} {p : Pt} (h : Pok N p) (hm : N ≤ M) : Pok M p := ⟨h.1.mono hm, h.2.mono hm⟩
/-- What a step of the builder keeps. -/
def Stp (s : St) (x : St × Pt) : Prop := Ok x.1 ∧ s.made.length ≤ x.1.made.length ∧ Pok x.1.made.length x.2
theorem linkF_ok {s : St} (h : Ok s) {fr to : Nat → Bool} (ht : Bd s.made.length to) : Ok (linkF s fr to) := by
 refine ⟨by unfold linkF; simp only [List.length_mapIdx]; exact h.len, fun S hS => ?_, h.cap⟩
 unfold linkF at hS ⊢
 simp only at hS ⊢
 obtain ⟨i, hi, rfl⟩ := List.mem_mapIdx.1 hS
 split
 · exact (h.bd _ (List.getElem_mem hi)).jn ht
 · exact h.bd _ (List.getElem_mem hi)
theorem placeF_ok (kind : Nat) {s : St} (h : Ok s) (set : List (Int × Int)) : Stp s (placeF kind s set) := by
 unfold placeF
 split
 · exact ⟨⟨h.len, h.bd, h.cap⟩, Nat.le_refl _, Pok.zero _⟩
 · rename_i hn
   have hc := h.cap
   refine ⟨⟨by simp [h.len], fun S hS => ?_, by simp; omega⟩, by simp, ?_, ?_⟩
   · simp only [List.length_append, List.length_cons, List.length_nil]
     rw [List.mem_append] at hS
     rcases hS with hS | hS
     · exact (h.bd S hS).mono (by omega)
     · rw [List.mem_singleton.1 hS]; exact Bd.none _
   · exact (Bd.none _).ad (by simp)
   · exact (Bd.none _).ad (by simp)
theorem behindF_ok {s : St} (h : Ok s) {p q : Pt} (hp : Pok s.made.length p) (hq : Pok s.made.length q) : Stp s (behindF s p q) := by
 refine ⟨linkF_ok h hq.1, Nat.le_refl _, ?_, ?_⟩
 · show Bd s.made.length (if p.empty then jn p.first q.first else p.first)
   split
   · exact hp.1.jn hq.1
   · exact hp.1
 · show Bd s.made.length (jn (if q.empty then p.last else none_) q.last)
   split
   · exact hp.2.jn hq.2
   · exact (Bd.none _).jn hq.2
theorem rowF_ok {α : Type} {pt : St → α → St × Pt} (hpt : ∀ s n, Ok s → Stp s (pt s n)) : ∀ (l : List α) (s : St) (p : Pt), Ok s → Pok s.made.length p → Stp s (rowF pt s p l)
 | [], s, p, h, hp => ⟨h, Nat.le_refl _, hp⟩
 | n :: l, s, p, h, hp => by
  have h1 := hpt s n h
  unfold rowF
  generalize pt s n = x at h1 ⊢
  obtain ⟨s1, q⟩ := x
  obtain ⟨h2, h3, h4⟩ := h1
  simp only at h2 h3 h4 ⊢
  split
  · exact ⟨h2, h3, hp.mono h3⟩
  · have h5 := behindF_ok h2 (hp.mono h3) h4
    generalize behindF s1 p q = y at h5 ⊢
    obtain ⟨s2, p2⟩ := y
    obtain ⟨h6, h7, h8⟩ := h5
    simp only at h6 h7 h8 ⊢
    obtain ⟨a, b, c⟩ := rowF_ok hpt l s2 p2 h6 h8
    exact ⟨a, by omega, c⟩
theorem choiceF_ok {α : Type} {pt : St → α → St × Pt} (hpt : ∀ s n, Ok s → Stp s (pt s n)) : ∀ (l : List α) (s : St) (p : Pt), Ok s → Pok s.made.length p → Stp s (choiceF pt s p l)
 | [], s, p, h, hp => ⟨h, Nat.le_refl _, hp⟩
 | n :: l, s, p, h, hp => by
  have h1 := hpt s n h
  unfold choiceF
  generalize pt s n = x at h1 ⊢
  obtain ⟨s1, q⟩ := x
  obtain ⟨h2, h3, h4⟩ := h1
  simp only at h2 h3 h4 ⊢
  split
  · exact ⟨h2, h3, hp.mono h3⟩
  · obtain ⟨a, b, c⟩ := choiceF_ok hpt l s1 ⟨jn p.first q.first, jn p.last q.last, p.empty || q.empty⟩ h2 ⟨(hp.1.mono h3).jn h4.1, (hp.2.mono h3).jn h4.2⟩
    exact ⟨a, by omega, c⟩
theorem partF_ok (fd : ByteArray → Option T) (rns : ByteArray → List Int) (kind : Nat) : ∀ (F : Nat) (s : St) (n : T), Ok s → Stp s (partF fd rns kind F s n)
 | 0, s, n, h => ⟨⟨h.len, h.bd, h.cap⟩, Nat.le_refl _, Pok.zero _⟩
 | F + 1, s, n, h => by
  have ih := partF_ok fd rns kind F
  have hs : Ok { s with nodes := s.nodes + 1, over := s.over || decide (65536 < s.nodes + 1) } := ⟨h.len, h.bd, h.cap⟩
  unfold partF
  simp only
  split
  · exact ⟨hs, Nat.le_refl _, Pok.zero _⟩
  split
  · exact rowF_ok ih n.subs _ _ hs (Pok.void _)
  split
  · exact choiceF_ok ih n.subs _ _ hs (Pok.zero _)
  split
  · have key : ∀ x : St × Pt, Stp s x → Stp s ((if n.kind = 2 then x.1 else linkF x.1 x.2.last x.2.first), if n.kind = 4 then x.2 else { x.2 with empty := true }) := by
     rintro ⟨s2, p⟩ ⟨h2, h3, h4⟩
     simp only at h2 h3 h4 ⊢
     have h5 : Pok s2.made.length (if n.kind = 4 then p else { p with empty := true }) := by
      split
      · exact h4
      · exact h4
     split
     · exact ⟨h2, h3, h5⟩
     · exact ⟨linkF_ok h2 h4.1, h3, h5⟩
    cases n.subs with
    | nil => exact key (_, Pt.zero) ⟨hs, Nat.le_refl _, Pok.zero _⟩
    | cons m _ => exact key _ (ih _ m hs)
  split
  · cases fd n.name with
    | none => exact ⟨hs, Nat.le_refl _, Pok.void _⟩
    | some b => exact ih _ b hs
  split
  · exact rowF_ok (fun s r h => placeF_ok kind h [(r, r)]) (rns n.text) _ _ hs (Pok.void _)
  split
  · exact placeF_ok kind hs n.set
  · exact ⟨hs, Nat.le_refl _, Pok.void _⟩
theorem allF_ok (fd : ByteArray → Option T) (rns : ByteArray → List Int) : ∀ (l : List T) (s : St) (a : (Nat → Bool) × (Nat → Bool)) (k : Nat), Ok s → Bd s.made.length a.1 → Bd s.made.length a.2 →
 Ok (allF fd rns s a k l).1 ∧ Bd (allF fd rns s a k l).1.made.length (allF fd rns s a k l).2.1 ∧ Bd (allF fd rns s a k l).1.made.length (allF fd rns s a k l).2.2
 | [], _, _, _, h, h1, h2 => ⟨h, h1, h2⟩
 | b :: l, s, a, k, h, h1, h2 => by
  have hp := partF_ok fd rns k 65537 s b h
  unfold allF
  generalize partF fd rns k 65537 s b = x at hp ⊢
  obtain ⟨s1, p⟩ := x
  obtain ⟨h3, h4, h5⟩ := hp
  exact allF_ok fd rns l s1 _ (k + 1) h3 ((h1.mono h4).jn h5.1) ((h2.mono h4).jn h5.2)
end Go.Proofs.YtiinkhmgemoamaaDoor.Nf
namespace Go.Proofs.YtiinkhmgemoamaaDoor.Nf
open Go Go.RowKit
attribute [local go_sem] Oper.semAt_some
set_option maxRecDepth 100000

/-- The set S lies at ⟨b, o⟩. -/
def Wds (w : World) (b o : Nat) (S : Nat → Bool) : Prop := ∀ i, i < 64 → w.cell? ⟨b, o + i, none⟩ = some (.int .u64 (word S i : Int)) ∧ w.frozen? ⟨b, o + i, none⟩ = false
theorem wp_cutN {P : Program} {c : Code} {Q : Exit → Act → World → Prop} {a : Act} {w : World} (R : Act → Act → World → Prop)
 (first : Code.wp P c (fun e a' w' => match e with | .normal => R a a' w' | _ => False) a w) (next : ∀ a' w', R a a' w' → Q .normal a' w') : Code.wp P c Q a w :=
 Code.wp_mono (fun e a' w' h => by cases e <;> first | exact next a' w' h | exact h.elim) first
theorem add_any (b o p : Nat) (S : Nat → Bool) (w : World) (hS : Wds w b o S) (hp : p < 4096) :
 Calls Tryd.prog 52 #[.pointer (some ⟨b, o, none⟩), .int .i64 p] w fun e w' => e = .returned (.tuple #[]) ∧ w' = w.drew.setCell ⟨b, o + p / 64, none⟩ (.int .u64 (word (ad S p) (p / 64) : Int)) := by
 have hw := hS (p / 64) (by omega)
 rw [word_ad, if_pos rfl]
 have hq : Int.tdiv (p : Int) 64 = ((p / 64 : Nat) : Int) := by rw [Int.tdiv_eq_ediv_of_nonneg (by omega)]; omega
 have hr : Int.tmod (p : Int) 64 = ((p % 64 : Nat) : Int) := by rw [Int.tmod_eq_emod_of_nonneg (by omega)]; omega
 have hQ : p / 64 < 64 := by omega
 have hR : p % 64 < 64 := Nat.mod_lt _ (by omega)
 have hA := word_lt S (p / 64)
 generalize word S (p / 64) = A at *
 generalize p / 64 = Q at *
 generalize p % 64 = R at *
 have h0 := hw.1
 have h1 := hw.2
 have p0 : (Q : Int) < 64 := by omega
 have p1 : (R : Int) < 64 := by omega
 have w0 : IntKind.i64.wrap (Q : Int) = (Q : Int) := by rw [IntKind.wrap_i64]; omega
 have w1 : IntKind.i64.wrap (R : Int) = (R : Int) := by rw [IntKind.wrap_i64]; omega
 have hv : bits BinOp.or IntKind.u64 (A : Int) (IntKind.u64.wrap (2 ^ R)) = ((A ||| 2 ^ R : Nat) : Int) := by
  have h2 : (2 : Nat) ^ R < 18446744073709551616 := Nat.pow_lt_pow_right (by omega) hR
  have h3 : IntKind.u64.wrap ((2 : Int) ^ R) = ((2 ^ R : Nat) : Int) := by
   rw [IntKind.wrap_u64, show ((2 : Int) ^ R) = ((2 ^ R : Nat) : Int) from by rw [Int.natCast_pow]; rfl]
   obtain ⟨m, hm⟩ : ∃ m, 2 ^ R = m := ⟨_, rfl⟩
   rw [hm] at h2 ⊢
   omega
  rw [h3, bits_or_u64_nat A (2 ^ R) hA h2]
 have b0 : (0 : Int) ≤ (Q : Int) ∧ (Q : Int) < 64 := ⟨by omega, p0⟩
 clear hS hw
 go_enter Tryd.func52, Tryd.ntmps52
 refine wp_cutN (fun a a' w' => a'.defers = [] ∧ w' = w.drew.setCell ⟨b, o + Q, none⟩ (.int .u64 ((A ||| 2 ^ R : Nat) : Int))) ?first ?next
 case first =>
  refine region_B (S := fun w' : World => (w'.cell? ⟨b, o + Q, none⟩ = some (.int .u64 (A : Int)) ∧ w'.frozen? ⟨b, o + Q, none⟩ = false)) 12 (by kernel_rfl) ⟨h0, h1⟩ (fun hSS => ?_)
  show wpAnyB _ _ _ _ _ 12 13 #[false, false, false, false, false, false, false, false, false, false, false, false, false] _ _
  refine zqB 0 (some 4) _ (zqF 13 1) (by rw [List.getElem?_toArray]; rfl) rfl (by kernel_rfl) rfl (fun _ _ _ h => h) (Or.inl ⟨by rfl, fun w' hSw => by (try dsimp only at hSw); go_simp; try with_reducible rfl⟩) hSS ?_
  simp only [zqN]
  refine zqB 1 (some 5) _ (zqF 13 2) (by rw [List.getElem?_toArray]; rfl) rfl (by kernel_rfl) rfl (fun _ _ _ h => h) (Or.inl ⟨by rfl, fun w' hSw => by (try dsimp only at hSw); go_simp; try with_reducible rfl⟩) hSS ?_
  simp only [zqN]
  refine zqB 2 (some 6) _ (zqF 13 3) (by rw [List.getElem?_toArray]; rfl) rfl (by kernel_rfl) rfl (fun _ _ _ h => h) (Or.inl ⟨by rfl, fun w' hSw => by (try dsimp only at hSw); go_simp; try with_reducible rfl⟩) hSS ?_
  simp only [zqN]
  refine zqB 3 (some 7) _ (zqF 13 4) (by rw [List.getElem?_toArray]; rfl) rfl (by kernel_rfl) rfl (fun _ _ _ h => h) (Or.inl ⟨by rfl, fun w' hSw => by (try dsimp only at hSw); go_simp; try with_reducible rfl⟩) hSS ?_
  simp only [zqN]
  refine zqB 4 (some 8) _ (zqF 13 5) (by rw [List.getElem?_toArray]; rfl) rfl (by kernel_rfl) rfl (fun _ _ _ h => h) (Or.inl ⟨by rfl, fun w' hSw => by (try dsimp only at hSw); go_simp; try with_reducible rfl⟩) hSS ?_
  simp only [zqN]
  refine zqB 5 (some 9) _ (zqF 13 6) (by rw [List.getElem?_toArray]; rfl) rfl (by kernel_rfl) rfl (fun _ _ _ h => h) (Or.inl ⟨by rfl, fun w' hSw => by (try dsimp only at hSw); go_simp; try with_reducible rfl⟩) hSS ?_
  simp only [zqN]
  refine zqB 6 (some 10) _ (zqF 13 7) (by rw [List.getElem?_toArray]; rfl) rfl (by kernel_rfl) rfl (fun _ _ _ h => h) (Or.inl ⟨by rfl, fun w' hSw => by (try dsimp only at hSw); go_simp; try with_reducible rfl⟩) hSS ?_
  simp only [zqN]
  refine zqB 7 (some 11) _ (zqF 13 8) (by rw [List.getElem?_toArray]; rfl) rfl (by kernel_rfl) rfl (fun _ _ _ h => h) (Or.inl ⟨by rfl, fun w' hSw => by (try dsimp only at hSw); go_simp; try with_reducible rfl⟩) hSS ?_
  simp only [zqN]
  refine zqB 8 (some 12) _ (zqF 13 9) (by rw [List.getElem?_toArray]; rfl) rfl (by kernel_rfl) rfl (fun _ _ _ h => h) (Or.inl ⟨by rfl, fun w' hSw => by (try dsimp only at hSw); go_simp; try with_reducible rfl⟩) hSS ?_
  simp only [zqN]
  refine zqB 9 (some 13) _ (zqF 13 10) (by rw [List.getElem?_toArray]; rfl) rfl (by kernel_rfl) rfl (fun _ _ _ h => h) (Or.inl ⟨by rfl, fun w' hSw => by (try dsimp only at hSw); go_simp; try with_reducible rfl⟩) hSS ?_
  simp only [zqN]
  refine pureB (i := 10) (d := (some 14)) (v := _) (l' := #[true, true, true, true, true, true, true, true, true, true, true, false, false]) (by rw [List.getElem?_toArray]; rfl) rfl (by kernel_rfl) (by kernel_rfl) (by kernel_rfl) (by decide) rfl (fun _ _ _ h => h) (Or.inl ⟨by rfl, fun w' _ => by go_simp; try with_reducible rfl⟩) (Or.inr hSS) ?_
  simp only [zqN]
  refine zqB 11 (some 15) _ (zqF 13 12) (by rw [List.getElem?_toArray]; rfl) rfl (by kernel_rfl) rfl (fun _ _ _ h => h) (Or.inl ⟨by rfl, fun w' hSw => by (try dsimp only at hSw); go_simp; try with_reducible rfl⟩) hSS ?_
  simp only [zqN]
  refine comeB (i := 12) (l' := #[true, true, true, true, true, true, true, true, true, true, true, true, true]) (by rw [List.getElem?_toArray]; rfl) (by kernel_rfl) rfl (fun K' hK => ?_)
  go_simp
  refine hK.out _ _ (Or.inl rfl) (fun _ => ?_)
  try simp only [zqN]
  refine wpAnyB_done (by kernel_rfl) ?_ _
  exact ⟨rfl, by first | rfl | rw [hv]⟩
 case next =>
  rintro a' w' ⟨hd, rfl⟩
  exact bodyPost_end (results_none rfl _ _ _) hd ⟨rfl, rfl⟩
end Go.Proofs.YtiinkhmgemoamaaDoor.Nf
namespace Go.Proofs.YtiinkhmgemoamaaDoor.Nf
open Go Go.RowKit
attribute [local go_sem] Oper.semAt_some
set_option maxRecDepth 100000

/-- The set S lies among cells from o on. -/
def WdA (cs : Array Value) (o : Nat) (S : Nat → Bool) : Prop := ∀ i, i < 64 → cs[o + i]? = some (.int .u64 (word S i : Int))
/-- At most block b is otherwise. -/
structure Only (b : Nat) (w w' : World) : Prop where
 os : w'.os = w.os
 tape : w'.tape = w.tape
 output : w'.output = w.output
 size : w'.heap.size = w.heap.size
 same : ∀ k, k ≠ b → w'.heap[k]? = w.heap[k]?
theorem Only.refl (b : Nat) (w : World) : Only b w w := ⟨rfl, rfl, rfl, rfl, fun _ _ => rfl⟩
theorem Only.trans {b : Nat} {u v w : World} (h : Only b u v) (k : Only b v w) : Only b u w := ⟨k.os.trans h.os, k.tape.trans h.tape, k.output.trans h.output, k.size.trans h.size, fun j hj => (k.same j hj).trans (h.same j hj)⟩
theorem Only.set (b i : Nat) (w : World) (v : Value) : Only b w (w.setCell ⟨b, i, none⟩ v) := ⟨rfl, rfl, rfl, by simp, fun k hk => Below.heap_setCell _ _ _ _ hk⟩
theorem Only.bk {b k : Nat} {w w' : World} {t : TypeId} {cs : Array Value} (h : Only b w w') (hk : Bk w k t cs) (hne : k ≠ b) : Bk w' k t cs := by
 unfold Bk at hk ⊢
 rw [h.same k hne]; exact hk
/-- Cells but for 64 from o on are as they were. -/
def Else (o : Nat) (cs cs' : Array Value) : Prop := cs'.size = cs.size ∧ ∀ j, (j < o ∨ o + 64 ≤ j) → cs'[j]? = cs[j]?
/-- What is joined as far as word q. -/
def Jn (w : World) (b o : Nat) (t : TypeId) (cs : Array Value) (S T : Nat → Bool) (q : Nat) (wr : World) : Prop :=
 Only b w wr ∧ ∃ cs', Bk wr b t cs' ∧ Else o cs cs' ∧ ∀ i, i < 64 → cs'[o + i]? = some (.int .u64 ((if i < q then word (jn S T) i else word S i : Nat) : Int))
theorem Jn.step {w : World} {b o : Nat} {t : TypeId} {cs : Array Value} {S T : Nat → Bool} {q : Nat} {wr : World} (h : Jn w b o t cs S T q wr) (hq : q < 64) (v : Value) (hv : v = .int .u64 ((word S q ||| word T q : Nat) : Int)) :
 Jn w b o t cs S T (q + 1) (wr.setCell ⟨b, o + q, none⟩ v) := by
 obtain ⟨h1, cs', h2, ⟨h3, h4⟩, h5⟩ := h
 subst hv
 have hlt : o + q < cs'.size := by
  have := h5 q hq
  exact (Array.getElem?_eq_some_iff.1 this).1
 refine ⟨h1.trans (Only.set _ _ _ _), _, h2.set _ _, ⟨by simpa using h3, fun j hj => ?_⟩, fun i hi => ?_⟩
 · rw [Array.getElem?_setIfInBounds_ne (by omega)]; exact h4 j hj
 · by_cases e : i = q
   · subst e
     rw [Array.getElem?_setIfInBounds_self_of_lt hlt, if_pos (by omega), word_jn]
   · rw [Array.getElem?_setIfInBounds_ne (by omega), h5 i hi]
     by_cases e2 : i < q
     · rw [if_pos e2, if_pos (by omega)]
     · rw [if_neg e2, if_neg (by omega)]
theorem Jn.drewN {w : World} {b o : Nat} {t : TypeId} {cs : Array Value} {S T : Nat → Bool} {q n : Nat} {wr : World} (h : Jn w b o t cs S T q wr) : Jn w b o t cs S T q (wr.drewN n) := by
 have e : (wr.drewN n).heap = wr.heap := by simp
 obtain ⟨h1, cs', h2, h3⟩ := h
 exact ⟨⟨h1.os, h1.tape, h1.output, by rw [e]; exact h1.size, fun k hk => by rw [e]; exact h1.same k hk⟩, cs', by unfold Bk at h2 ⊢; rw [e]; exact h2, h3⟩
set_option maxHeartbeats 2000000 in
theorem join_any (b c o p : Nat) (t u : TypeId) (cs ds : Array Value) (S T : Nat → Bool) (w : World) (hb : Bk w b t cs) (hc : Bk w c u ds) (hne : c ≠ b) (hS : WdA cs o S) (hT : WdA ds p T) :
 Calls Tryd.prog 31 #[.pointer (some ⟨b, o, none⟩), .pointer (some ⟨c, p, none⟩)] w fun e w' => e = .returned (.tuple #[]) ∧ Only b w w' ∧ ∃ cs', Bk w' b t cs' ∧ Else o cs cs' ∧ WdA cs' o (jn S T) := by
 have H0 : Jn w b o t cs S T 0 w := ⟨Only.refl _ _, cs, hb, ⟨rfl, fun _ _ => rfl⟩, fun i hi => by rw [if_neg (by omega)]; exact hS i hi⟩
 have HC := Lib.hid (show ∀ (q : Nat) (wr : World), q < 64 → Only b w wr → wr.cell? ⟨c, p + q, none⟩ = some (.int .u64 (word T q : Int)) from fun q wr hq h => by
  rw [(h.bk hc hne).cell]; exact hT q hq)
 clear hb hc hne hS hT
 go_enter Tryd.func31, Tryd.ntmps31
 go_wp2_with fail
 go_loopw [7] (fun i wr => ∃ q : Nat, q ≤ 64 ∧ i = .int .i64 q ∧ Hid (Jn w b o t cs S T q wr)) (fun i _ => 64 - (intOf i).toNat)
 case atStart => exact ⟨0, Nat.zero_le _, rfl, Lib.hid H0⟩
 case round =>
  obtain ⟨q, hq, rfl, hJ⟩ := hrel
  by_cases hlt : q < 64
  · have p0 : (q : Int) < 64 := by omega
    have p1 : (0 : Int) ≤ (q : Int) := by omega
    have x0 := HC.out q wr hlt hJ.out.1
    have x1 : ∀ n, (wr.drewN n).cell? ⟨c, p + q, none⟩ = some (.int .u64 (word T q : Int)) := fun n => HC.out q (wr.drewN n) hlt hJ.out.drewN.1
    have hA := word_lt S q
    have hB := word_lt T q
    have hc0 : wr.cell? ⟨b, o + q, none⟩ = some (.int .u64 (word S q : Int)) := by
     obtain ⟨_, cs', h2, _, h5⟩ := hJ.out
     rw [h2.cell, h5 q hlt, if_neg (by omega)]
    have hc1 : wr.frozen? ⟨b, o + q, none⟩ = false := by
     obtain ⟨_, cs', h2, _, h5⟩ := hJ.out
     exact h2.free _
    have HST := Lib.hid (show ∀ n v, v = .int .u64 ((word S q ||| word T q : Nat) : Int) → Jn w b o t cs S T (q + 1) ((wr.drewN n).drew.setCell ⟨b, o + q, none⟩ v) from fun n v hv => (hJ.out.drewN (n := n + 1)).step hlt v hv)
    generalize word S q = A at *
    generalize word T q = B at *
    have hv : bits BinOp.or IntKind.u64 (A : Int) (B : Int) = ((A ||| B : Nat) : Int) := bits_or_u64_nat A B hA hB
    go_wp2_with fail
    go_quiet (fail)
    go_wp2_with fail
    have c0 : (wr.drewN nq).drew.cell? ⟨b, o + q, none⟩ = some (.int .u64 (A : Int)) := hc0
    have c1 : (wr.drewN nq).drew.frozen? ⟨b, o + q, none⟩ = false := hc1
    refine wp_cutN (fun a a' w' => (∃ z0 z1 z2 z3 z4 z5 z6 z7 z8 : Value, a' = (((((((((a.put (some 13) z0).put (some 14) z1).put (some 15) z2).put (some 16) z3).put (some 17) z4).put (some 18) z5).put (some 19) z6).put (some 20) z7).put (some 21) z8)) ∧ w' = (wr.drewN nq).drew.setCell ⟨b, o + q, none⟩ (.int .u64 ((A ||| B : Nat) : Int))) ?first ?next
    case first =>
     refine region_B (S := fun w' : World => ((w'.cell? ⟨b, o + q, none⟩ = some (.int .u64 (A : Int)) ∧ w'.frozen? ⟨b, o + q, none⟩ = false))) 9 (by kernel_rfl) ⟨c0, c1⟩ (fun hSS => ?_)
     show wpAnyB _ _ _ _ _ 9 10 #[false, false, false, false, false, false, false, false, false, false] _ _
     refine zqB 0 (some 13) _ (zqF 10 1) (by rw [List.getElem?_toArray]; rfl) rfl (by kernel_rfl) rfl (fun _ _ _ h => h) (Or.inl ⟨by rfl, fun w' hSw => by (try dsimp only at hSw); go_simp; try with_reducible rfl⟩) hSS ?_
     simp only [zqN]
     refine zqB 1 (some 14) _ (zqF 10 2) (by rw [List.getElem?_toArray]; rfl) rfl (by kernel_rfl) rfl (fun _ _ _ h => h) (Or.inl ⟨by rfl, fun w' hSw => by (try dsimp only at hSw); go_simp; try with_reducible rfl⟩) hSS ?_
     simp only [zqN]
     refine zqB 2 (some 15) _ (zqF 10 3) (by rw [List.getElem?_toArray]; rfl) rfl (by kernel_rfl) rfl (fun _ _ _ h => h) (Or.inl ⟨by rfl, fun w' hSw => by (try dsimp only at hSw); go_simp; try with_reducible rfl⟩) hSS ?_
     simp only [zqN]
     refine zqB 3 (some 16) _ (zqF 10 4) (by rw [List.getElem?_toArray]; rfl) rfl (by kernel_rfl) rfl (fun _ _ _ h => h) (Or.inl ⟨by rfl, fun w' hSw => by (try dsimp only at hSw); go_simp; try with_reducible rfl⟩) hSS ?_
     simp only [zqN]
     refine zqB 4 (some 17) _ (zqF 10 5) (by rw [List.getElem?_toArray]; rfl) rfl (by kernel_rfl) rfl (fun _ _ _ h => h) (Or.inl ⟨by rfl, fun w' hSw => by (try dsimp only at hSw); go_simp; try with_reducible rfl⟩) hSS ?_
     simp only [zqN]
     refine zqB 5 (some 18) _ (zqF 10 6) (by rw [List.getElem?_toArray]; rfl) rfl (by kernel_rfl) rfl (fun _ _ _ h => h) (Or.inl ⟨by rfl, fun w' hSw => by (try dsimp only at hSw); go_simp; try with_reducible rfl⟩) hSS ?_
     simp only [zqN]
     refine zqB 6 (some 19) _ (zqF 10 7) (by rw [List.getElem?_toArray]; rfl) rfl (by kernel_rfl) rfl (fun _ _ _ h => h) (Or.inl ⟨by rfl, fun w' hSw => by (try dsimp only at hSw); go_simp; try with_reducible rfl⟩) hSS ?_
     simp only [zqN]
     refine pureB (i := 7) (d := (some 20)) (v := _) (l' := #[true, true, true, true, true, true, true, true, false, false]) (by rw [List.getElem?_toArray]; rfl) rfl (by kernel_rfl) (by kernel_rfl) (by kernel_rfl) (by decide) rfl (fun _ _ _ h => h) (Or.inl ⟨by rfl, fun w' _ => by go_simp; try with_reducible rfl⟩) (Or.inr hSS) ?_
     simp only [zqN]
     refine zqB 8 (some 21) _ (zqF 10 9) (by rw [List.getElem?_toArray]; rfl) rfl (by kernel_rfl) rfl (fun _ _ _ h => h) (Or.inl ⟨by rfl, fun w' hSw => by (try dsimp only at hSw); go_simp; try with_reducible rfl⟩) hSS ?_
     simp only [zqN]
     refine comeB (i := 9) (l' := #[true, true, true, true, true, true, true, true, true, true]) (by rw [List.getElem?_toArray]; rfl) (by kernel_rfl) rfl (fun K' hK => ?_)
     go_simp
     refine hK.out _ _ (Or.inl rfl) (fun _ => ?_)
     try simp only [zqN]
     refine wpAnyB_done (by kernel_rfl) ?_ _
     exact ⟨⟨_, _, _, _, _, _, _, _, _, rfl⟩, by first | rfl | rw [hv]⟩
    rintro a' w' ⟨⟨z0, z1, z2, z3, z4, z5, z6, z7, z8, rfl⟩, rfl⟩
    simp only [zqN]
    go_wp2_with fail
    exact ⟨⟨q + 1, by omega, by go_num, Lib.hid (HST.out nq _ rfl)⟩, by simp [intOf]; omega⟩
  · obtain rfl : q = 64 := by omega
    go_wp2_with fail
    obtain ⟨h1, cs', h2, h3, h4⟩ := hJ.out
    first
     | exact bodyPost_end (results_none rfl _ _ _) rfl ⟨rfl, h1, cs', h2, h3, fun i hi => by rw [h4 i hi, if_pos hi]⟩
     | exact ⟨_, results_none rfl _ _ _, rfl, h1, cs', h2, h3, fun i hi => by rw [h4 i hi, if_pos hi]⟩
end Go.Proofs.YtiinkhmgemoamaaDoor.Nf
namespace Go.Proofs.YtiinkhmgemoamaaDoor.Nf
open Go Go.RowKit Go.Shelf
def tzren : Go.Shelf.Ren := ⟨fun | 29 => 54 | n => n, fun | 0 => 0 | 3 => 3 | 4 => 4 | 5 => 5 | 22 => 62 | 25 => 126 | 54 => 125 | n => n, fun | 1 => 0 | n => n⟩
theorem tzlays : Go.Proofs.Lays7.n29 Tryd.prog tzren := {
 mixed := by kernel_rfl
 f29 := Tryd.func54.trans (congrArg some (by kernel_rfl))
 t0 := Tryd.underlying0
 a0 := Tryd.isAgg0
 z0 := Tryd.sizeOf0
 v0 := Tryd.zeroValue0
 i0 := by kernel_rfl
 t3 := Tryd.underlying3
 a3 := Tryd.isAgg3
 z3 := Tryd.sizeOf3
 v3 := Tryd.zeroValue3
 i3 := by kernel_rfl
 t4 := Tryd.underlying4
 a4 := Tryd.isAgg4
 z4 := Tryd.sizeOf4
 v4 := Tryd.zeroValue4
 i4 := by kernel_rfl
 t5 := Tryd.underlying5
 a5 := Tryd.isAgg5
 z5 := Tryd.sizeOf5
 v5 := Tryd.zeroValue5
 i5 := by kernel_rfl
 t22 := Tryd.underlying62
 a22 := Tryd.isAgg62
 z22 := Tryd.sizeOf62
 v22 := Tryd.zeroValue62
 i22 := by kernel_rfl
 t25 := Tryd.underlying126
 a25 := Tryd.isAgg126
 z25 := Tryd.sizeOf126
 v25 := Tryd.zeroValue126
 i25 := by kernel_rfl
 t54 := Tryd.underlying125
 a54 := Tryd.isAgg125
 z54 := Tryd.sizeOf125
 g1 := by kernel_rfl }
/-- The library's table lies in its variable. -/
def Tab (w : World) : Prop := ∀ j, j < 64 → w.cell? ⟨0, j, none⟩ = some (.int .u8 (Lib.deBruijn64tab.getD j 0))
theorem tz_any (x : Nat) (hx : x < 18446744073709551616) (w : World) (hT : Tab w) :
 Calls Tryd.prog 54 #[.int .u64 x] w fun e w' => e = .returned (.int .i64 (Lib.ctz 64 x)) ∧ w' = w :=
 Any7.bits_TrailingZeros64 tzlays x hx w (fun _ => fun j hj => hT j (Nat.lt_of_lt_of_le hj (by decide)))
theorem tz_in (x n : Nat) (hx : x < 18446744073709551616) (w : World) (hT : Tab w) :
 CallsIn Fence.wide n Tryd.prog 54 #[.int .u64 x] w fun e w' => e = .returned (.int .i64 (Lib.ctz 64 x)) ∧ w' = w := callsIn_wide.2 (tz_any x hx w hT)
end Go.Proofs.YtiinkhmgemoamaaDoor.Nf
namespace Go.Proofs.YtiinkhmgemoamaaDoor.Nf
open Go Go.RowKit Go.Shelf
attribute [local go_sem] Oper.semAt_some
set_option maxRecDepth 100000

/-- The blocks of sort K lie as they lay. -/
def KpS (K : Nat → Prop) (W W' : World) : Prop := ∀ k, K k → W'.heap[k]? = W.heap[k]?
theorem KpS.refl (K : Nat → Prop) (W : World) : KpS K W W := fun _ _ => rfl
theorem KpS.trans {K : Nat → Prop} {X Y Z : World} (h : KpS K X Y) (k : KpS K Y Z) : KpS K X Z := fun j hj => (k j hj).trans (h j hj)
theorem KpS.bk {K : Nat → Prop} {W W' : World} (h : KpS K W W') {b : Nat} {t : TypeId} {cs : Array Value} (hb : Bk W b t cs) (hk : K b) : Bk W' b t cs := by
 unfold Bk at hb ⊢
 rw [h b hk]; exact hb
theorem KpS.tab {K : Nat → Prop} {W W' : World} (h : KpS K W W') (hT : Tab W) (hk : K 0) : Tab W' := fun j hj => by
 have := hT j hj
 simp only [World.cell?] at this ⊢
 rw [h _ hk]; exact this
/-- A place of a set. -/
abbrev PlS (S : Nat → Bool) := { x : Nat // x < 4096 ∧ S x = true }
def encP {S : Nat → Bool} (x : PlS S) : Array Value := #[.int .i64 (x.1 : Int)]
def vals {S : Nat → Bool} (xs : List (PlS S)) : List Nat := xs.map (·.1)
theorem vals_inj {S : Nat → Bool} : ∀ {xs ys : List (PlS S)}, vals xs = vals ys → xs = ys
 | [], [], _ => rfl
 | [], _ :: _, h => by simp [vals] at h
 | _ :: _, [], h => by simp [vals] at h
 | x :: xs, y :: ys, h => by
  simp only [vals, List.map_cons, List.cons.injEq] at h
  rw [Subtype.ext h.1, vals_inj h.2]
theorem vals_of (S : Nat → Bool) : ∃ xs : List (PlS S), vals xs = ups S 4096 :=
 ⟨(ups S 4096).attach.map fun x => ⟨x.1, ups_mem.1 x.2⟩, by unfold vals; rw [List.map_map]; exact List.attach_map_subtype_val _⟩
theorem yield_wide {m m' : Nat} {P : Program} {l : Nat} {args : Array Value} {W : World} {R : Ending → World → Prop} (h : YieldAt Fence.wide m P l args W R) : YieldAt Fence.wide m' P l args W R := by
 obtain ⟨fn, tmps, assign, body, hy, hR⟩ := h
 exact ⟨fn, tmps, assign, body, hy, hR.1, fun c cs _ => hR.2 c cs (room_wide _)⟩
theorem ups_next (S : Nat → Bool) (q : Nat) : ups S ((q + 1) * 64) = ups S (q * 64) ++ (ups (fun j => S (q * 64 + j)) 64).map (q * 64 + ·) := by
 rw [ups_words, ups_words, List.range_succ, List.flatMap_append]
 simp
theorem ups_len (S : Nat → Bool) (n : Nat) : (ups S n).length ≤ n := by
 unfold ups
 exact Nat.le_trans (List.length_filter_le _ _) (by simp)
theorem fdep (n : Nat) : Fence.wide.depth.isSome = true → 1 ≤ n := fun h => by simp [Fence.wide] at h
set_option maxHeartbeats 4000000 in
theorem all_in (K : Nat → Prop) (b o Bt l n : Nat) (t : TypeId) (cs : Array Value) (S : Nat → Bool) (J : List (PlS S) → World → Prop) (hJ : ∀ s W n, J s W → J s (W.drewN n))
 (hY : ∀ m pre x W, J pre W → pre.length < 4096 → YieldAt Fence.wide m Tryd.prog l (encP x) W fun e W' => e = .returned (.bool true) ∧ J (pre ++ [x]) W' ∧ KpS K W W') (W : World)
 (hb : Bk W b t cs) (hS : WdA cs o S) (hbox : Bk W Bt 75 #[.pointer (some ⟨b, o, none⟩)]) (hT : Tab W) (kb : K b) (_kB : K Bt) (kT : K 0) (h0 : J [] W) :
 CallsIn Fence.wide n Tryd.prog 53 #[.func (.yield l) #[] #[], .pointer (some ⟨Bt, 0, none⟩)] W fun e W' => (∃ u, e = .returned u) ∧ ∃ ys, vals ys = ups S 4096 ∧ J ys W' := by
 have c0 := hbox.cell 0
 simp at c0
 have HC := Lib.hid (show ∀ (q : Nat) (wr : World), q < 64 → KpS K W wr → wr.cell? ⟨b, o + q, none⟩ = some (.int .u64 (word S q : Int)) from fun q wr hq h => by
  rw [(h.bk hb kb).cell]; exact hS q hq)
 have HT := Lib.hid (show ∀ (wr : World), KpS K W wr → Tab wr from fun wr h => h.tab hT kT)
 have hk0 : KpS K W W := KpS.refl _ _
 clear hb hS hbox hT kb _kB kT
 have hF : Fence.wide.fn 54 := trivial
 refine callsIn_of_wp Tryd.func53 rfl trivial ?_ rfl
 simp only [Tryd.ntmps53, List.size_toArray, List.length_cons, List.length_nil, Nat.reduceAdd, Nat.reduceSub, Array.replicate_succ, Array.replicate_zero, List.push_toArray, List.append_toArray, List.nil_append, List.cons_append]
 gi_wp2
 gi_loopw [6] (fun i wr => ∃ (q : Nat) (pre : List (PlS S)), q ≤ 64 ∧ i = .int .i64 q ∧ Hid (vals pre = ups S (q * 64)) ∧ J pre wr ∧ KpS K W wr) (fun i _ => 64 - (intOf i).toNat)
 case atStart => exact ⟨0, [], Nat.zero_le _, rfl, Lib.hid (by simp [vals, ups]), h0, hk0⟩
 case round =>
  obtain ⟨q, pre, hq, rfl, hpre, hJr, hkr⟩ := hrel
  by_cases hlt : q < 64
  · have p0 : (q : Int) < 64 := by omega
    have p1 : (0 : Int) ≤ (q : Int) := by omega
    have x0 := HC.out q wr hlt hkr
    have x1 : ∀ n, (wr.drewN n).cell? ⟨b, o + q, none⟩ = some (.int .u64 (word S q : Int)) := fun n => HC.out q (wr.drewN n) hlt (by intro k hk; rw [← hkr k hk]; simp)
    have hW1 : ∀ n, word S q = wd (fun j => S (q * 64 + j)) 64 ∧ J pre (wr.drewN n) ∧ KpS K W (wr.drewN n) := fun n => ⟨rfl, hJ _ _ _ hJr, by intro k hk; rw [← hkr k hk]; simp⟩
    generalize word S q = A at *
    gi_wp2
    refine wpIn_wide.2 ?_
    go_quiet (fail)
    have hW2 := hW1 nq
    have hnx := Lib.hid (ups_next S q)
    clear hW1 x0 x1 hJr hkr
    gi_wp2
    gi_loopw [4] (fun x wy => ∃ (A : Nat) (f : Nat → Bool) (pre : List (PlS S)), x = .int .u64 A ∧ Hid (A = wd f 64) ∧ Hid (∀ i, i < 64 → f i = true → S (q * 64 + i) = true) ∧ Hid (vals pre ++ (ups f 64).map (q * 64 + ·) = ups S ((q + 1) * 64)) ∧ J pre wy ∧ KpS K W wy) (fun x _ => (intOf x).toNat)
    case atStart => exact ⟨A, _, pre, rfl, Lib.hid hW2.1, Lib.hid (fun i _ h => h), Lib.hid (by rw [hnx.out, hpre.out]), hW2.2.1, hW2.2.2⟩
    case round =>
     obtain ⟨A, f, pre, rfl, hA, hf, hpr, hJr, hkr⟩ := hrel
     clear hW2 hnx hpre
     by_cases h0' : A = 0
     · subst h0'
       have hp2 : vals pre = ups S ((q + 1) * 64) := by rw [← hpr.out, ups_nil hA.out.symm]; simp
       gi_wp2
       exact ⟨⟨q + 1, pre, by omega, by go_num, Lib.hid hp2, hJr, hkr⟩, by simp [intOf]; omega⟩
     · have hAl : A < 18446744073709551616 := by rw [hA.out]; exact wd_lt f 64
       obtain ⟨t1, t2, t3⟩ : Lib.ctz 64 A < 64 ∧ f (Lib.ctz 64 A) = true ∧ ∀ i, i < Lib.ctz 64 A → f i = false := by
        have h1 := hA.out
        subst h1
        exact wd_ctz h0'
       obtain ⟨B, hB⟩ : ∃ B, A &&& (A - 1) = B := ⟨_, rfl⟩
       have hBl : B ≤ A - 1 := by rw [← hB]; exact Nat.and_le_right
       have hB2 : B = wd (fun i => f i && !(i == Lib.ctz 64 A)) 64 := by
        rw [← hB]
        have h1 := hA.out
        subst h1
        exact wd_clear t1 t2 t3
       have hu := ups_cons t1 t2 t3
       have hz := fun wz hT => tz_in A (n - 1) hAl wz hT
       obtain ⟨u, hu0⟩ : ∃ u, Lib.ctz 64 A = u := ⟨_, rfl⟩
       rw [hu0] at t1 t2 t3 hB2 hu hz
       obtain ⟨X, hX⟩ : ∃ X, q * 64 + u = X := ⟨_, rfl⟩
       have hSX : S X = true := by rw [← hX]; exact hf.out u t1 t2
       have hXl : X < 4096 := by omega
       have hpr2 := hpr.out
       rw [hu] at hpr2
       have hlen : pre.length < 4096 := by
        have h1 := congrArg List.length hpr2
        have h2 := ups_len S ((q + 1) * 64)
        simp [vals] at h1
        omega
       have hy0 := hY (n - 1) pre ⟨X, hXl, hSX⟩ wr hJr hlen
       have hfin := Lib.hid (show Hid (∀ i, i < 64 → (fun i => f i && !(i == u)) i = true → S (q * 64 + i) = true) ∧ Hid (vals (pre ++ [⟨X, hXl, hSX⟩]) ++ (ups (fun i => f i && !(i == u)) 64).map (q * 64 + ·) = ups S ((q + 1) * 64)) from ⟨Lib.hid fun i hi h => by
        simp only [Bool.and_eq_true] at h
        exact hf.out i hi h.1, Lib.hid (by
        rw [← hpr2]
        simp [vals, hX])⟩)
       obtain ⟨Y, hYY⟩ : ∃ Y : PlS S, (⟨X, hXl, hSX⟩ : PlS S) = Y := ⟨_, rfl⟩
       have hex : encP Y = #[.int .i64 (X : Int)] := by rw [← hYY]; rfl
       rw [hYY] at hy0 hfin
       rw [hex] at hy0
       have hcall := hz wr (HT.out wr hkr)
       have m0 : IntKind.i64.wrap ((q : Int) * 64) = (q : Int) * 64 := IntWalk.i64_in _ (by omega)
       have m1 : IntKind.i64.wrap ((q : Int) * 64 + (u : Int)) = (X : Int) := by rw [IntWalk.i64_in _ (by omega)]; omega
       have m2 : IntKind.u64.wrap ((A : Int) - 1) = ((A - 1 : Nat) : Int) := by rw [IntKind.wrap_u64]; omega
       have m3 : bits BinOp.and IntKind.u64 (A : Int) ((A - 1 : Nat) : Int) = (B : Int) := by rw [bits_and_u64_nat A (A - 1) hAl (by omega), hB]
       have e0 : ((A : Int) == 0) = false := by simp; omega
       have e1 : ((A : Int) != 0) = true := by simp; omega
       obtain ⟨fn, tmps, assign, body, hy, hyR⟩ := hy0
       have HB := Lib.hid (show B = wd (fun i => f i && !(i == u)) 64 ∧ B < A from ⟨hB2, by omega⟩)
       clear hz hX hYY hex hu hpr2 hB hBl hB2 hf hpr hA t1 t2 t3 hu0 hSX hlen
       gi_wp2_with (first
        | (refine ⟨fdep _, ?_⟩; refine hcall.mono ?_; clear hcall; rintro e w' ⟨rfl, rfl⟩)
        | (refine ⟨fdep _, ?_⟩; refine hyR.mono ?_; clear hyR; rintro e W2 ⟨rfl, hJ2, hk2⟩))
       clear hy
       gi_wp2
       exact ⟨⟨B, fun i => f i && !(i == u), pre ++ [Y], rfl, Lib.hid HB.out.1, hfin.out.1, hfin.out.2, hJ2, hkr.trans hk2⟩, by simp [intOf]; exact HB.out.2⟩
  · obtain rfl : q = 64 := by omega
    gi_wp2
    go_end0
    exact ⟨⟨_, rfl⟩, pre, hpre.out, hJr⟩
theorem all_seq (K : Nat → Prop) (b o Bt n : Nat) (t : TypeId) (cs : Array Value) (S : Nat → Bool) (xs : List (PlS S)) (w : World) (hx : vals xs = ups S 4096)
 (hb : Bk w b t cs) (hS : WdA cs o S) (hbox : Bk w Bt 75 #[.pointer (some ⟨b, o, none⟩)]) (hT : Tab w) (kb : K b) (kB : K Bt) (kT : K 0) :
 SeqAll Fence.wide n Tryd.prog 53 #[.pointer (some ⟨Bt, 0, none⟩)] (encP : PlS S → Array Value) (KpS K) xs 4096 w := by
 intro l J W hW hJ hY h0
 have hT' : Tab W := fun j hj => by
  have := hT j hj
  rw [hW.cell (p := ⟨_, j, none⟩) (World.block_lt_of_cell? _ _ this)]
  exact this
 refine (all_in K b o Bt l n t cs S J (fun s W' m hs => hJ s W' _ none hs ⟨rfl, rfl, rfl, Nat.le_refl _, fun _ _ _ => rfl⟩ (fun r e => by cases e))
  (fun m pre x W1 hj hl => yield_wide (by
   obtain ⟨fn, tmps, assign, body, hy, hR⟩ := hY pre x W1 hj hl
   exact ⟨fn, tmps, assign, body, hy, hR.mono fun e W' h => ⟨h.1, h.2.1, h.2.2.1⟩⟩)) W (hb.below hW hb.lt) hS (hbox.below hW hbox.lt) hT' kb kB kT h0).mono ?_
 rintro e W' ⟨h1, ys, h2, h3⟩
 rw [vals_inj (h2.trans hx.symm)] at h3
 exact ⟨h1, h3⟩
theorem all_any (a : Addr) (w : World) :
 Calls Tryd.prog 37 #[.pointer (some a)] w fun e w' => e = .returned (.func (.func 53) #[] #[.pointer (some ⟨w.heap.size, 0, none⟩)]) ∧ w' = w.alloc (.cells #[.pointer (some a)] 75) := by
 go_enter Tryd.func37, Tryd.ntmps37
 go_wp2_with fail
 go_ret
 exact ⟨rfl, rfl⟩
end Go.Proofs.YtiinkhmgemoamaaDoor.Nf
namespace Go.Proofs.YtiinkhmgemoamaaDoor.Nf
open Go Go.RowKit
set_option maxRecDepth 100000

/-- No cells of the builder's three kinds. -/
def Fix (o : Obj) : Prop := ∀ cs t f, o = .cells cs t f → t ≠ 61 ∧ t ≠ 48 ∧ t ≠ 64
/-- What building leaves as it lies. -/
def Tl (n₀ : Nat) (W W' : World) : Prop := Below n₀ W W' ∧ ∀ (k : Nat) (o : Obj), W.heap[k]? = some o → Fix o → W'.heap[k]? = some o
theorem Tl.refl (n₀ : Nat) (W : World) : Tl n₀ W W := ⟨Below.refl _ _, fun _ _ h _ => h⟩
theorem Tl.trans {n₀ : Nat} {X Y Z : World} (h : Tl n₀ X Y) (k : Tl n₀ Y Z) : Tl n₀ X Z := ⟨h.1.trans k.1, fun j o hj ho => k.2 j o (h.2 j o hj ho) ho⟩
theorem Tl.size {n₀ : Nat} {X Y : World} (h : Tl n₀ X Y) : X.heap.size ≤ Y.heap.size := h.1.size
theorem Fix.of {cs : Array Value} {t : TypeId} {f : Nat × Nat} (h1 : t ≠ 61) (h2 : t ≠ 48) (h3 : t ≠ 64) : Fix (.cells cs t f) := fun _ _ _ e => by
 injection e with _ e
 subst e
 exact ⟨h1, h2, h3⟩
theorem Tl.bk {n₀ : Nat} {W W' : World} {b : Nat} {t : TypeId} {cs : Array Value} (h : Tl n₀ W W') (hb : Bk W b t cs) (h1 : t ≠ 61) (h2 : t ≠ 48) (h3 : t ≠ 64) : Bk W' b t cs := h.2 b _ hb (Fix.of h1 h2 h3)
/-- A new object of an iterator's turns. -/
theorem Tl.grown {n₀ : Nat} {X Y Z : World} {row : Option Nat} (h : Tl n₀ X Y) (hn : n₀ ≤ X.heap.size) (hg : Y.grownBy Z row) (hr : ∀ r, row = some r → X.heap.size ≤ r) : Tl n₀ X Z :=
 ⟨h.1.trans ((Below.refl n₀ Y).grown hg (by have := h.size; omega) (fun k e => by have := hr k e; omega)), fun k o hk ho => by
  have hl := (Array.getElem?_eq_some_iff.1 hk).1
  rw [hg.block k (by have := h.size; omega) (fun e => by have := hr k e.symm; omega)]
  exact h.2 k o hk ho⟩
/-- All cells lie as they lay. -/
def SoftC (n₀ : Nat) (W W' : World) : Prop := Below n₀ W W' ∧ ∀ (k : Nat) (o : Obj), W.heap[k]? = some o → o.isCells = true → W'.heap[k]? = some o
/-- All lies as it lay. -/
def Soft (n₀ : Nat) (W W' : World) : Prop := Below n₀ W W' ∧ ∀ (k : Nat) (o : Obj), W.heap[k]? = some o → W'.heap[k]? = some o
theorem Soft.c {n₀ : Nat} {W W' : World} (h : Soft n₀ W W') : SoftC n₀ W W' := ⟨h.1, fun k o hk _ => h.2 k o hk⟩
theorem Soft.trans {n₀ : Nat} {X Y Z : World} (h : Soft n₀ X Y) (k : Soft n₀ Y Z) : Soft n₀ X Z := ⟨h.1.trans k.1, fun j o hj => k.2 j o (h.2 j o hj)⟩
theorem Soft.below {n₀ : Nat} {W W' : World} (h : Below W.heap.size W W') (hn : n₀ ≤ W.heap.size) : Soft n₀ W W' := ⟨h.mono hn, fun k o hk => by rw [h.block k (Array.getElem?_eq_some_iff.1 hk).1]; exact hk⟩
theorem SoftC.grown {n₀ B : Nat} {W W' : World} {row : Option Nat} (hn : n₀ ≤ W.heap.size) (hB : n₀ ≤ B) (hg : W.grownBy W' row) (hr : ∀ r, row = some r → B ≤ r ∧ ∃ o : Obj, W.heap[r]? = some o ∧ o.isCells = false) : SoftC n₀ W W' :=
 ⟨(Below.refl n₀ W).grown hg hn (fun k e => Nat.le_trans hB (hr k e).1), fun k o hk hc => by
  rw [hg.block k (Array.getElem?_eq_some_iff.1 hk).1 (fun e => by
   obtain ⟨_, o', ho', hc'⟩ := hr k e.symm
   rw [hk] at ho'
   cases ho'
   rw [hc] at hc'
   cases hc')]
  exact hk⟩
theorem Soft.none {n₀ : Nat} {W W' : World} (hn : n₀ ≤ W.heap.size) (hg : W.grownBy W' Option.none) : Soft n₀ W W' :=
 ⟨(Below.refl n₀ W).grown hg hn (fun k e => by cases e), fun k o hk => by
  rw [hg.block k (Array.getElem?_eq_some_iff.1 hk).1 (fun e => by cases e)]
  exact hk⟩
theorem Soft.tl {n₀ : Nat} {W W' : World} (h : Soft n₀ W W') : Tl n₀ W W' := ⟨h.1, fun k o hk _ => h.2 k o hk⟩
theorem SoftC.bk {n₀ : Nat} {W W' : World} {b : Nat} {t : TypeId} {cs : Array Value} (h : SoftC n₀ W W') (hb : Bk W b t cs) : Bk W' b t cs := h.2 b _ hb rfl
theorem Soft.bk {n₀ : Nat} {W W' : World} {b : Nat} {t : TypeId} {cs : Array Value} (h : Soft n₀ W W') (hb : Bk W b t cs) : Bk W' b t cs := h.2 b _ hb
theorem SoftC.own {n₀ base e size n : Nat} {v : Value} {xs : List Value} {W W' : World} (h : SoftC n₀ W W') (ho : W.ownsRow base e size v n xs) : W'.ownsRow base e size v n xs := by
 refine ⟨ho.1, ?_⟩
 rcases ho.2 with h1 | ⟨g, c, cur, h1, h2, h3, h4⟩
 · exact .inl h1
 · exact .inr ⟨g, c, cur, h1, h2, h.2 g _ h3 rfl, h4⟩
/-- A block of runes that stays. -/
def Sty (W : World) (k : Nat) : Prop := ∃ cs f, W.heap[k]? = some (.cells cs 58 f)
/-- A set of runes lies at a value, where it stays. -/
def SetV (W : World) (v : Value) (set : List (Int × Int)) : Prop := ∃ a c, v = .slice a set.length c ∧ (set.length ≤ c ∧ set.length ≤ 140737488351232) ∧ Ck.RgX (Sty W) W set a
theorem SetV.keep {W W' : World} {v : Value} {set : List (Int × Int)} (h : SetV W v set) (hk : ∀ (k : Nat) cs f, W.heap[k]? = some (.cells cs 58 f) → W'.heap[k]? = some (.cells cs 58 f)) : SetV W' v set := by
 obtain ⟨a, c, h1, h2, h3⟩ := h
 refine ⟨a, c, h1, h2, h3.keep (fun k ⟨cs, f, e⟩ => ⟨cs, f, hk k cs f e⟩) fun k hk' _ => ?_⟩
 obtain ⟨cs, f, e⟩ := hk'
 rw [hk k cs f e, e]
theorem SetV.tl {n₀ : Nat} {W W' : World} {v : Value} {set : List (Int × Int)} (h : SetV W v set) (hT : Tl n₀ W W') : SetV W' v set := h.keep fun k cs f e => hT.2 k _ e (Fix.of (by decide) (by decide) (by decide))
def wordsV (S : Nat → Bool) : List Value := (List.range 64).map fun i => .int .u64 (word S i : Int)
theorem wordsV_len (S : Nat → Bool) : (wordsV S).length = 64 := by simp [wordsV]
theorem wordsV_get (S : Nat → Bool) {i : Nat} (h : i < 64) : (wordsV S)[i]? = some (.int .u64 (word S i : Int)) := by
 unfold wordsV
 rw [List.getElem?_map, List.getElem?_range h]; rfl
def fV (F : List (Nat → Bool)) : List Value := F.flatMap wordsV
theorem fV_len : ∀ F : List (Nat → Bool), (fV F).length = F.length * 64
 | [] => rfl
 | S :: F => by
  have := fV_len F
  unfold fV at this ⊢
  rw [List.flatMap_cons, List.length_append, this, wordsV_len, List.length_cons]; omega
theorem fV_get : ∀ (F : List (Nat → Bool)) (p i : Nat) (S : Nat → Bool), F[p]? = some S → i < 64 → (fV F)[p * 64 + i]? = some (.int .u64 (word S i : Int))
 | [], p, i, S, h, _ => by simp at h
 | T :: F, 0, i, S, h, hi => by
  obtain rfl : T = S := by simpa using h
  unfold fV
  rw [List.flatMap_cons, List.getElem?_append_left (by rw [wordsV_len]; omega), Nat.zero_mul, Nat.zero_add, wordsV_get _ hi]
 | T :: F, p + 1, i, S, h, hi => by
  have ih := fV_get F p i S (by simpa using h) hi
  unfold fV at ih ⊢
  rw [List.flatMap_cons, List.getElem?_append_right (by rw [wordsV_len]; omega), wordsV_len, show (p + 1) * 64 + i - 64 = p * 64 + i by omega, ih]
/-- What lies of places: where a place's set lies, the set, the kind. -/
abbrev Mk := Value × List (Int × Int) × Nat
def mV (ms : List Mk) : List Value := ms.flatMap fun m => [m.1, .int .i64 (m.2.2 : Int), .bool false, .slice none 0 0]
theorem mV_app (ms : List Mk) (m : Mk) : mV (ms ++ [m]) = mV ms ++ [m.1, .int .i64 (m.2.2 : Int), .bool false, .slice none 0 0] := by
 unfold mV; rw [List.flatMap_append]; simp
theorem fV_app (F : List (Nat → Bool)) (S : Nat → Bool) : fV (F ++ [S]) = fV F ++ wordsV S := by
 unfold fV; rw [List.flatMap_append]; simp
/-- What of the builder does not change: its grammar. -/
structure BV where
 nm : ByteArray
 o1 : Int
 o2 : Int
 ra : Option Addr
 rn : Nat
 rc : Nat
/-- The builder, told outright. -/
structure BIx (n₀ bb : Nat) (g : BV) (kind nodes : Nat) (over : Bool) (mv fv : Value) (ms : List Mk) (F : List (Nat → Bool)) (W : World) : Prop where
 lo : n₀ ≤ bb
 b : Bk W bb 61 #[.string g.nm, .int .i64 g.o1, .int .i64 g.o2, .slice g.ra g.rn g.rc, .int .i64 (kind : Int), .int .i64 (nodes : Int), mv, fv, .bool over]
 m : W.ownsRow n₀ 48 4 mv ms.length (mV ms)
 f : W.ownsRow n₀ 64 64 fv F.length (fV F)
 sets : ∀ x ∈ ms, SetV W x.1 x.2.1
 tab : Tab W
 tl : 0 < n₀
theorem Tab.below {n₀ : Nat} {W W' : World} (h : Tab W) (hb : Below n₀ W W') (hn : 0 < n₀) : Tab W' := fun j hj => by
 have := h j hj
 simp only [World.cell?] at this ⊢
 rw [hb.block _ hn]; exact this
theorem BIx.softC {n₀ bb : Nat} {g : BV} {kind nodes : Nat} {over : Bool} {mv fv : Value} {ms : List Mk} {F : List (Nat → Bool)} {W W' : World} (h : BIx n₀ bb g kind nodes over mv fv ms F W) (hs : SoftC n₀ W W') : BIx n₀ bb g kind nodes over mv fv ms F W' :=
 ⟨h.lo, hs.bk h.b, hs.own h.m, hs.own h.f, fun x hx => (h.sets x hx).keep fun k _cs _f e => hs.2 k _ e rfl, h.tab.below hs.1 h.tl, h.tl⟩
theorem BIx.soft {n₀ bb : Nat} {g : BV} {kind nodes : Nat} {over : Bool} {mv fv : Value} {ms : List Mk} {F : List (Nat → Bool)} {W W' : World} (h : BIx n₀ bb g kind nodes over mv fv ms F W) (hs : Soft n₀ W W') : BIx n₀ bb g kind nodes over mv fv ms F W' := h.softC hs.c
/-- The builder: what it holds. -/
def BI (n₀ bb : Nat) (g : BV) (kind : Nat) (s : St) (W : World) : Prop :=
 ∃ mv fv ms, BIx n₀ bb g kind s.nodes s.over mv fv ms s.follow W ∧ ms.map (·.2) = s.made
theorem BI.soft {n₀ bb : Nat} {g : BV} {kind : Nat} {s : St} {W W' : World} (h : BI n₀ bb g kind s W) (hs : Soft n₀ W W') : BI n₀ bb g kind s W' := by
 obtain ⟨mv, fv, ms, h1, h2⟩ := h
 exact ⟨mv, fv, ms, h1.soft hs, h2⟩
theorem BI.hi {n₀ bb : Nat} {g : BV} {kind : Nat} {s : St} {W : World} (h : BI n₀ bb g kind s W) : n₀ ≤ W.heap.size := by
 obtain ⟨mv, fv, ms, h1, h2⟩ := h
 have := h1.b.lt
 have := h1.lo
 omega
/-- A part lies at pb. -/
def PtA (W : World) (pb : Nat) (p : Pt) : Prop := ∃ cs, Bk W pb 71 cs ∧ cs.size = 129 ∧ WdA cs 0 p.first ∧ WdA cs 64 p.last ∧ cs[128]? = some (.bool p.empty)
theorem PtA.tl {n₀ : Nat} {W W' : World} {pb : Nat} {p : Pt} (h : PtA W pb p) (hT : Tl n₀ W W') : PtA W' pb p := by
 obtain ⟨cs, h1, h2⟩ := h
 exact ⟨cs, hT.bk h1 (by decide) (by decide) (by decide), h2⟩
theorem own_block {_n₀ base e size n : Nat} {v : Value} {xs : List Value} {W : World} (h : W.ownsRow base e size v n xs) (k : Nat) (hk : v.ownBlock = some k) : ∃ cur, Bk W k e cur := by
 rcases h.2 with ⟨h1, _⟩ | ⟨g, c, cur, h1, h2, h3, h4⟩
 · rw [h1] at hk; cases hk
 · rw [h1] at hk
   have : g = k := by simpa [Value.ownBlock] using hk
   subst this
   exact ⟨cur, h3⟩
/-- What is written where a place's follow lies. -/
theorem BIx.follow {n₀ bb : Nat} {g : BV} {kind nodes : Nat} {over : Bool} {mv fv : Value} {ms : List Mk} {F : List (Nat → Bool)} {W : World} (h : BIx n₀ bb g kind nodes over mv fv ms F W) {p : Nat} {S : Nat → Bool} (hp : F[p]? = some S) :
 ∃ fb cap cur, fv = .slice (some ⟨fb, 0, none⟩) F.length cap ∧ n₀ ≤ fb ∧ Bk W fb 64 cur ∧ WdA cur (p * 64) S ∧ F.length ≤ cap ∧
  ∀ (W' : World) (cs' : Array Value) (S' : Nat → Bool), Only fb W W' → Bk W' fb 64 cs' → Else (p * 64) cur cs' → WdA cs' (p * 64) S' →
   BIx n₀ bb g kind nodes over mv fv ms (F.set p S') W' ∧ Tl n₀ W W' := by
 have hlt := (List.getElem?_eq_some_iff.1 hp).1
 rcases h.f.2 with ⟨_, h0⟩ | ⟨fb, cap, cur, hv, hlo, hcur, hcap, hmx, hsz, htk⟩
 · omega
 have hk : Bk W fb 64 cur := hcur
 have hget : ∀ j, j < F.length * 64 → cur[j]? = (fV F)[j]? := fun j hj => by
  rw [← htk, List.getElem?_take, if_pos hj]
  simp
 refine ⟨fb, cap, cur, hv, hlo, hk, fun i hi => by rw [hget _ (by omega), fV_get F p i S hp hi], hcap, ?_⟩
 rintro W' cs' S' hO hk' ⟨hs1, hs2⟩ hS'
 have hT : Tl n₀ W W' := by
  refine ⟨⟨hO.os, hO.tape, hO.output, by rw [hO.size]; exact Nat.le_refl _, fun k hk => hO.same k (by omega)⟩, fun k o ho hF => ?_⟩
  rw [hO.same k ?_]
  · exact ho
  · rintro rfl
    rw [hcur] at ho
    injection ho with ho
    exact (hF _ _ _ ho.symm).2.2 rfl
 have hne1 : bb ≠ fb := h.b.ne hk (by decide)
 have hlen : (F.set p S').length = F.length := List.length_set
 refine ⟨⟨h.lo, hO.bk h.b hne1, ?_, ?_, fun x hx => (h.sets x hx).tl hT, h.tab.below hT.1 h.tl, h.tl⟩, hT⟩
 · refine ⟨h.m.1, ?_⟩
   rcases h.m.2 with h1 | ⟨mb, c, cm, h1, h2, h3, h4⟩
   · exact .inl h1
   · have hne : mb ≠ fb := Bk.ne (show Bk W mb 48 cm from h3) hk (by decide)
     exact .inr ⟨mb, c, cm, h1, h2, by rw [hO.same mb hne]; exact h3, h4⟩
 · rw [hlen]
   refine ⟨by rw [fV_len, hlen], .inr ⟨fb, cap, cs', hv, hlo, hk', hcap, hmx, by rw [hs1, hsz], ?_⟩⟩
   apply List.ext_getElem?
   intro j
   rw [List.getElem?_take]
   by_cases hj : j < F.length * 64
   · rw [if_pos hj, Array.getElem?_toList]
     obtain ⟨q, i, rfl, hi⟩ : ∃ q i, j = q * 64 + i ∧ i < 64 := ⟨j / 64, j % 64, by omega, Nat.mod_lt _ (by omega)⟩
     by_cases e : q = p
     · subst e
       rw [hS' i hi, fV_get (F.set q S') q i S' (by rw [List.getElem?_set_self hlt]) hi]
     · have hq : q < F.length := by omega
       rw [hs2 _ (by omega), hget _ hj, fV_get F q i F[q] (List.getElem?_eq_getElem hq) hi, fV_get (F.set p S') q i F[q] (by rw [List.getElem?_set_ne (Ne.symm e)]; exact List.getElem?_eq_getElem hq) hi]
   · rw [if_neg hj, List.getElem?_eq_none (by rw [fV_len, hlen]; omega)]
/-- What building leaves as it lies, of the blocks below B. -/
def TlB (n₀ B : Nat) (W W' : World) : Prop := Below n₀ W W' ∧ ∀ (k : Nat) (o : Obj), k < B → W.heap[k]? = some o → Fix o → W'.heap[k]? = some o
theorem Tl.b {n₀ : Nat} {W W' : World} (h : Tl n₀ W W') (B : Nat) : TlB n₀ B W W' := ⟨h.1, fun k o _ hk ho => h.2 k o hk ho⟩
theorem TlB.trans {n₀ B : Nat} {X Y Z : World} (h : TlB n₀ B X Y) (k : TlB n₀ B Y Z) : TlB n₀ B X Z := ⟨h.1.trans k.1, fun j o hB hj ho => k.2 j o hB (h.2 j o hB hj ho) ho⟩
theorem TlB.mono {n₀ B B' : Nat} {X Y : World} (h : TlB n₀ B X Y) (hb : B' ≤ B) : TlB n₀ B' X Y := ⟨h.1, fun k o hk => h.2 k o (by omega)⟩
theorem TlB.tl {n₀ : Nat} {X Y : World} (h : TlB n₀ X.heap.size X Y) : Tl n₀ X Y := ⟨h.1, fun k o hk => h.2 k o (Array.getElem?_eq_some_iff.1 hk).1 hk⟩
theorem Only.below {n₀ b : Nat} {W W' : World} (h : Only b W W') (hb : n₀ ≤ b) : Below n₀ W W' := ⟨h.os, h.tape, h.output, by rw [h.size]; exact Nat.le_refl _, fun k hk => h.same k (by omega)⟩
theorem Only.tlb {n₀ b : Nat} {W W' : World} (h : Only b W W') (hb : n₀ ≤ b) : TlB n₀ b W W' := ⟨h.below hb, fun k o hk ho _ => by rw [h.same k (by omega)]; exact ho⟩
/-- What building leaves as it lies, but for block b. -/
def TlX (n₀ b : Nat) (W W' : World) : Prop := Below n₀ W W' ∧ ∀ (k : Nat) (o : Obj), k ≠ b → W.heap[k]? = some o → Fix o → W'.heap[k]? = some o
theorem Tl.x {n₀ : Nat} {W W' : World} (h : Tl n₀ W W') (b : Nat) : TlX n₀ b W W' := ⟨h.1, fun k o _ hk ho => h.2 k o hk ho⟩
theorem TlX.trans {n₀ b : Nat} {X Y Z : World} (h : TlX n₀ b X Y) (k : TlX n₀ b Y Z) : TlX n₀ b X Z := ⟨h.1.trans k.1, fun j o hb hj ho => k.2 j o hb (h.2 j o hb hj ho) ho⟩
theorem TlX.b {n₀ b : Nat} {W W' : World} (h : TlX n₀ b W W') : TlB n₀ b W W' := ⟨h.1, fun k o hk => h.2 k o (by omega)⟩
theorem Only.tlx {n₀ b : Nat} {W W' : World} (h : Only b W W') (hb : n₀ ≤ b) : TlX n₀ b W W' := ⟨h.below hb, fun k o hk ho _ => by rw [h.same k hk]; exact ho⟩
/-- A part's block may turn. -/
theorem BI.only {n₀ bb b : Nat} {g : BV} {kind : Nat} {s : St} {W W' : World} {t : TypeId} {cs : Array Value} (h : BI n₀ bb g kind s W) (hO : Only b W W') (hk : Bk W b t cs) (hb : n₀ ≤ b)
 (t1 : t ≠ 61) (t2 : t ≠ 48) (t3 : t ≠ 64) (t4 : t ≠ 58) : BI n₀ bb g kind s W' := by
 obtain ⟨mv, fv, ms, h, hms⟩ := h
 have own : ∀ {e size n : Nat} {v : Value} {xs : List Value}, e ≠ t → W.ownsRow n₀ e size v n xs → W'.ownsRow n₀ e size v n xs := fun he ho => by
  refine ⟨ho.1, ?_⟩
  rcases ho.2 with h1 | ⟨g, c, cur, h1, h2, h3, h4⟩
  · exact .inl h1
  · exact .inr ⟨g, c, cur, h1, h2, by rw [hO.same g (Bk.ne h3 hk he)]; exact h3, h4⟩
 have st : ∀ k, Sty W k → k ≠ b := fun k ⟨c2, f, h1⟩ => by
  rintro rfl
  rw [show W.heap[k]? = _ from hk] at h1
  injection h1 with h1
  injection h1 with _ h1
  exact t4 h1
 refine ⟨mv, fv, ms, ⟨h.lo, hO.bk h.b (h.b.ne hk (Ne.symm t1)), own (Ne.symm t2) h.m, own (Ne.symm t3) h.f, fun x hx => ?_, h.tab.below (hO.below hb) h.tl, h.tl⟩, hms⟩
 obtain ⟨a, c, e1, e2, e3⟩ := h.sets x hx
 exact ⟨a, c, e1, e2, e3.keep (fun k ⟨c2, f, h1⟩ => ⟨c2, f, by rw [hO.same k (st k ⟨c2, f, h1⟩)]; exact h1⟩) fun k hk' _ => hO.same k (st k hk')⟩
end Go.Proofs.YtiinkhmgemoamaaDoor.Nf
namespace Go.Proofs.YtiinkhmgemoamaaDoor.Nf
open Go Go.RowKit Go.Shelf
attribute [local go_sem] Oper.semAt_some
set_option maxRecDepth 100000

/-- What follows, where those of l have been gone through. -/
def Fset (F : List (Nat → Bool)) (to : Nat → Bool) (l : List Nat) : List (Nat → Bool) := F.mapIdx fun p S => if l.contains p then jn S to else S
theorem Fset_nil (F : List (Nat → Bool)) (to : Nat → Bool) : Fset F to [] = F := by
 unfold Fset
 apply List.ext_getElem?
 intro i
 rw [List.getElem?_mapIdx]
 simp
theorem Fset_len (F : List (Nat → Bool)) (to : Nat → Bool) (l : List Nat) : (Fset F to l).length = F.length := by unfold Fset; simp
theorem Fset_snoc (F : List (Nat → Bool)) (to : Nat → Bool) (l : List Nat) (p : Nat) (S : Nat → Bool) (hS : (Fset F to l)[p]? = some S) : (Fset F to l).set p (jn S to) = Fset F to (l ++ [p]) := by
 have hp := (List.getElem?_eq_some_iff.1 hS).1
 rw [Fset_len] at hp
 apply List.ext_getElem?
 intro i
 unfold Fset at hS ⊢
 rw [List.getElem?_set]
 simp only [List.length_mapIdx]
 by_cases e : p = i
 · subst e
   rw [if_pos rfl, if_pos hp, List.getElem?_mapIdx, List.getElem?_eq_getElem hp]
   rw [List.getElem?_mapIdx, List.getElem?_eq_getElem hp] at hS
   simp only [Option.map_some, Option.some.injEq] at hS ⊢
   subst hS
   have h1 : (l ++ [p]).contains p = true := by simp
   rw [h1, if_pos rfl]
   split
   · funext q
     unfold jn
     simp
   · rfl
 · rw [if_neg e, List.getElem?_mapIdx, List.getElem?_mapIdx]
   have h1 : (l ++ [p]).contains i = l.contains i := by
    rw [List.contains_append]
    simp [Ne.symm e]
   rw [h1]
theorem linkF_set (s : St) (fr to : Nat → Bool) (hc : s.follow.length ≤ 4096) : (linkF s fr to).follow = Fset s.follow to (ups fr 4096) := by
 unfold linkF Fset
 apply List.ext_getElem?
 intro i
 simp only [List.getElem?_mapIdx]
 cases hi : s.follow[i]? with
 | none => rfl
 | some S =>
  have hl := (List.getElem?_eq_some_iff.1 hi).1
  simp only [Option.map_some, Option.some.injEq]
  have h1 : (ups fr 4096).contains i = fr i := by
   rw [Bool.eq_iff_iff, List.contains_iff_mem, ups_mem]
   constructor
   · exact fun h => h.2
   · exact fun h => ⟨by omega, h⟩
  rw [h1]
theorem KeepsFrom.only {B fb : Nat} {X X2 : World} {t : TypeId} {cs : Array Value} (h : Only fb X X2) (hk : Bk X fb t cs) : KeepsFrom B X X2 := ⟨by rw [h.size]; exact Nat.le_refl _, fun k o _ ho hc => by
 rw [h.same k ?_]
 · exact ho
 · rintro rfl
   rw [show X.heap[k]? = _ from hk] at ho
   cases ho
   simp [Obj.isCells] at hc⟩
set_option maxHeartbeats 4000000 in
theorem link_any (n₀ bb : Nat) (g : BV) (kind : Nat) (s : St) (W : World) (hI : BI n₀ bb g kind s W) (c o d p : Nat) (t u : TypeId) (cs ds : Array Value) (fr to : Nat → Bool)
 (hc : Bk W c t cs) (hfr : WdA cs o fr) (t1 : t ≠ 61) (t2 : t ≠ 48) (t3 : t ≠ 64)
 (hd : Bk W d u ds) (hto : WdA ds p to) (u1 : u ≠ 61) (u2 : u ≠ 48) (u3 : u ≠ 64)
 (hbd : ∀ x, fr x = true → x < s.follow.length) (hcap : s.follow.length ≤ 4096) :
 Calls Tryd.prog 50 #[.pointer (some ⟨bb, 0, none⟩), .pointer (some ⟨c, o, none⟩), .pointer (some ⟨d, p, none⟩)] W fun e W' => e = .returned (.tuple #[]) ∧ BI n₀ bb g kind (linkF s fr to) W' ∧ Tl n₀ W W' := by
 obtain ⟨mv, fv, ms, hB, hms⟩ := hI
 obtain ⟨xs, hxs⟩ := vals_of fr
 have hn0 : n₀ ≤ W.heap.size := by have := hB.b.lt; have := hB.lo; omega
 have hlink := linkF_set s fr to hcap
 obtain ⟨Y, hY⟩ : ∃ Y, ((W.alloc (.cells #[.pointer (some ⟨bb, 0, none⟩)] 87)).alloc (.cells #[.pointer (some ⟨d, p, none⟩)] 75)).alloc (.cells #[.pointer (some ⟨c, o, none⟩)] 75) = Y := ⟨_, rfl⟩
 have yB : Below W.heap.size W Y := by rw [← hY]; exact (((Below.refl _ W).alloc (Nat.le_refl _) _).alloc (by simp) _).alloc (by simp; omega) _
 have ys : Y.heap.size = W.heap.size + 3 := by rw [← hY]; simp
 have y0 : Bk Y W.heap.size 87 #[.pointer (some ⟨bb, 0, none⟩)] := by rw [← hY]; exact ((Bk.made W _ _).alloc _).alloc _
 have y1 : Bk Y (W.heap.size + 1) 75 #[.pointer (some ⟨d, p, none⟩)] := by
  rw [← hY]
  have := (Bk.made (W.alloc (.cells #[.pointer (some ⟨bb, 0, none⟩)] 87)) 75 #[.pointer (some ⟨d, p, none⟩)]).alloc (.cells #[.pointer (some ⟨c, o, none⟩)] 75)
  rw [World.size_alloc] at this
  exact this
 have y2 : Bk Y (W.heap.size + 2) 75 #[.pointer (some ⟨c, o, none⟩)] := by
  rw [← hY]
  have := Bk.made ((W.alloc (.cells #[.pointer (some ⟨bb, 0, none⟩)] 87)).alloc (.cells #[.pointer (some ⟨d, p, none⟩)] 75)) 75 #[.pointer (some ⟨c, o, none⟩)]
  rw [World.size_alloc, World.size_alloc] at this
  exact this
 have ySoft : Soft n₀ W Y := Soft.below yB hn0
 have yI := hB.soft ySoft
 have yc := ySoft.bk hc
 have yd := ySoft.bk hd
 have HE := Lib.hid (And.intro hlink hms)
 have HBD := Lib.hid hbd
 have hTW : Tl n₀ W Y := ySoft.tl
 refine (callsIn_wide (n := 4)).1 (callsIn_of_wp_marks Tryd.func50 rfl trivial ?_ rfl)
 simp only [Tryd.ntmps50, List.size_toArray, List.length_cons, List.length_nil, Nat.reduceAdd, Nat.reduceSub, Array.replicate_succ, Array.replicate_zero, List.push_toArray, List.append_toArray, List.nil_append, List.cons_append]
 refine wpIn_wide.2 ?_
 go_wp2_with (go_at_call 37; refine (all_any _ _).mono ?_; rintro e w' ⟨rfl, rfl⟩)
 refine (wpIn_wide (n := 4)).1 ?_
 have yl := y2.lt
 refine range_all rfl (by omega) (gf := 53) (lb := #[.pointer (some ⟨W.heap.size + 2, 0, none⟩)]) (by first | rfl | simp) trivial (enters_of Tryd.func53 (by kernel_rfl) rfl)
  (all_seq (fun k => k = c ∨ k = W.heap.size + 2 ∨ k = 0) c o (W.heap.size + 2) (4 - 1) t cs fr xs Y hxs yc hfr y2 yI.tab (.inl rfl) (.inr (.inl rfl)) (.inr (.inr rfl))) (fun h k => h.trans k)
  (fun X l ob ob' hl _ _ k hk => World.putObj_heap_other (by
   have := yc.lt
   have := yI.tl
   have := yI.lo
   have := yI.b.lt
   omega)) (Below.refl _ _) (fun _ => rfl)
  (fun pre X => BIx n₀ bb g kind s.nodes s.over mv fv ms (Fset s.follow to (vals pre)) X ∧ Tl n₀ Y X)
  (fun pre A B row hs hg hr => by
   have hsz := hs.2.size
   have hsf := SoftC.grown (n₀ := n₀) (by omega) (show n₀ ≤ Y.heap.size by omega) hg hr
   exact ⟨hs.1.softC hsf, hs.2.grown (by omega) hg (fun r e => (hr r e).1)⟩)
  ⟨by simpa [vals, Fset_nil] using yI, Tl.refl _ _⟩
  (fun x a' X => a' = { tmps := #[.pointer (some ⟨bb, 0, none⟩), .pointer (some ⟨c, o, none⟩), .pointer (some ⟨d, p, none⟩), .pointer (some ⟨W.heap.size, 0, none⟩), undef, .pointer (some ⟨W.heap.size + 1, 0, none⟩), .int .i64 (x.1 : Int), .pointer (some ⟨c, o, none⟩), .func (.func 53) #[] #[.pointer (some ⟨W.heap.size + 2, 0, none⟩)], .int .i64 (x.1 : Int), undef, undef, undef, undef, undef, undef, undef, undef], defers := [] })
  (fun x a' s X Z row hs hg hr => hs) ?assign ?body ?done
 case assign =>
  rintro l' pre x X K hi hK
  simp only [encP]
  gi_wp2
  exact hK _ _ ⟨Nat.le_refl _, fun _ _ _ h _ => h⟩ (KpS.refl _ _) hi rfl
 case body =>
  rintro l pre ⟨x, hx1, hx2⟩ a' X ⟨hi, hT⟩ rfl hlen
  have hxl := HBD.out x hx2
  dsimp only
  obtain ⟨S, hS⟩ : ∃ S, (Fset s.follow to (vals pre))[x]? = some S := ⟨_, List.getElem?_eq_getElem (by rw [Fset_len]; exact hxl)⟩
  obtain ⟨fb, cap, cur, rfl, hfb, hkf, hwf, hcl, hfin⟩ := hi.follow hS
  rw [Fset_len] at *
  obtain ⟨N, hN⟩ : ∃ N, s.follow.length = N := ⟨_, rfl⟩
  have xd := hT.bk yd u1 u2 u3
  have x0 := hT.bk y0 (by decide) (by decide) (by decide)
  have x1 := hT.bk y1 (by decide) (by decide) (by decide)
  have hxc : Bk X c t cs := hT.bk yc t1 t2 t3
  have nc : c ≠ fb := hxc.ne hkf t3
  have nd : d ≠ fb := xd.ne hkf u3
  have HJ := Lib.hid (join_any fb d (x * 64) p 64 u cur ds S to X.drew hkf xd nd hwf hto)
  have q0 := x0.cell 0
  have q1 := x1.cell 0
  have q2 := hi.b.cell 7
  have nb : bb ≠ fb := hi.b.ne hkf (by decide)
  have m0 : W.heap.size ≠ fb := x0.ne hkf (by decide)
  have m1 : W.heap.size + 1 ≠ fb := x1.ne hkf (by decide)
  have m2 : W.heap.size + 2 ≠ fb := (hT.bk y2 (by decide) (by decide) (by decide)).ne hkf (by decide)
  have m3 : 0 ≠ fb := by have := hi.tl; omega
  simp at q0 q1 q2
  rw [hN] at hxl q2
  have HS2 := Lib.hid (show ∀ X2, Only fb X.drew X2 → (X2.cell? ⟨W.heap.size, 0, none⟩ = some (.pointer (some ⟨bb, 0, none⟩)) ∧ X2.cell? ⟨W.heap.size + 1, 0, none⟩ = some (.pointer (some ⟨d, p, none⟩))) ∧ X2.cell? ⟨bb, 7, none⟩ = some (.slice (some ⟨fb, 0, none⟩) N cap) from fun X2 hO => by
   refine ⟨⟨?_, ?_⟩, ?_⟩
   · rw [(hO.bk x0 m0).cell]; rfl
   · rw [(hO.bk x1 m1).cell]; rfl
   · have := (hO.bk hi.b nb).cell 7
     rw [hN] at this
     simpa using this)
  have HF := Lib.hid (show ∀ X2 cs', Only fb X.drew X2 → Bk X2 fb 64 cs' → Else (x * 64) cur cs' → WdA cs' (x * 64) (jn S to) → KeepsFrom Y.heap.size X X2 ∧ KpS (fun k => k = c ∨ k = W.heap.size + 2 ∨ k = 0) X X2 ∧ BIx n₀ bb g kind s.nodes s.over mv (.slice (some ⟨fb, 0, none⟩) s.follow.length cap) ms (Fset s.follow to (vals (pre ++ [⟨x, hx1, hx2⟩]))) X2 ∧ Tl n₀ Y X2 from fun X2 cs' hO hk' hE hW => by
   have hO' : Only fb X X2 := ⟨hO.os, hO.tape, hO.output, hO.size, hO.same⟩
   obtain ⟨r1, r2⟩ := hfin X2 cs' _ hO' hk' hE hW
   refine ⟨KeepsFrom.only hO' hkf, fun k hk => hO'.same k (by rcases hk with rfl | rfl | rfl <;> assumption), ?_, hT.trans r2⟩
   rw [Fset_snoc _ _ _ _ _ hS] at r1
   simpa [vals] using r1)
  have px : (x : Int) < (N : Int) := by omega
  have px0 : (0 : Int) ≤ (x : Int) := by omega
  clear hfin hi hT hkf hxc xd x0 x1 hwf hS hcl nc nd nb m0 m1 m2 m3
  rw [hN] at *
  gi_wp2
  refine wpIn_mono (Q := fun e a' X2 => e = .normal ∧ KeepsFrom Y.heap.size X X2 ∧ KpS (fun k => k = c ∨ k = W.heap.size + 2 ∨ k = 0) X X2 ∧ BIx n₀ bb g kind s.nodes s.over mv (.slice (some ⟨fb, 0, none⟩) N cap) ms (Fset s.follow to (vals (pre ++ [⟨x, hx1, hx2⟩]))) X2 ∧ Tl n₀ Y X2) ?reg ?rest
  case reg =>
   refine round_held (S := fun w' : World => ((w'.cell? ⟨W.heap.size, 0, none⟩ = some (.pointer (some ⟨bb, 0, none⟩)) ∧ w'.cell? ⟨W.heap.size + 1, 0, none⟩ = some (.pointer (some ⟨d, p, none⟩))) ∧ w'.cell? ⟨bb, 7, none⟩ = some (.slice (some ⟨fb, 0, none⟩) N cap))) (by kernel_rfl) (by kernel_rfl) (fun ⟨_, _, h⟩ => by cases h.1) ⟨⟨q0, q1⟩, q2⟩ (fun hSS => ?_)
   show wpAnyH _ _ _ _ _ 8 #[false, false, false, false, false, false, false, false] _ _
   refine zqT 0 (some 10) _ (zqF 8 1) (by rw [List.getElem?_toArray]; rfl) rfl (by kernel_rfl) rfl (fun _ _ _ h => by cases h.1) (Or.inl ⟨by rfl, fun w' hSw => by (try dsimp only at hSw); go_simp; try with_reducible rfl⟩) hSS ?_
   simp only [zqN]
   refine zqT 1 (some 11) _ (zqF 8 2) (by rw [List.getElem?_toArray]; rfl) rfl (by kernel_rfl) rfl (fun _ _ _ h => by cases h.1) (Or.inl ⟨by rfl, fun w' hSw => by (try dsimp only at hSw); go_simp; try with_reducible rfl⟩) hSS ?_
   simp only [zqN]
   refine zqT 2 (some 12) _ (zqF 8 3) (by rw [List.getElem?_toArray]; rfl) rfl (by kernel_rfl) rfl (fun _ _ _ h => by cases h.1) (Or.inl ⟨by rfl, fun w' hSw => by (try dsimp only at hSw); go_simp; try with_reducible rfl⟩) hSS ?_
   simp only [zqN]
   refine zqT 3 (some 13) _ (zqF 8 4) (by rw [List.getElem?_toArray]; rfl) rfl (by kernel_rfl) rfl (fun _ _ _ h => by cases h.1) (Or.inl ⟨by rfl, fun w' hSw => by (try dsimp only at hSw); go_simp; try with_reducible rfl⟩) hSS ?_
   simp only [zqN]
   refine zqT 4 (some 14) _ (zqF 8 5) (by rw [List.getElem?_toArray]; rfl) rfl (by kernel_rfl) rfl (fun _ _ _ h => by cases h.1) (Or.inl ⟨by rfl, fun w' hSw => by (try dsimp only at hSw); go_simp; try with_reducible rfl⟩) hSS ?_
   simp only [zqN]
   refine zqT 5 (some 15) _ (zqF 8 6) (by rw [List.getElem?_toArray]; rfl) rfl (by kernel_rfl) rfl (fun _ _ _ h => by cases h.1) (Or.inl ⟨by rfl, fun w' hSw => by (try dsimp only at hSw); go_simp; try with_reducible rfl⟩) hSS ?_
   simp only [zqN]
   refine zqT 6 (some 16) _ (zqF 8 7) (by rw [List.getElem?_toArray]; rfl) rfl (by kernel_rfl) rfl (fun _ _ _ h => by cases h.1) (Or.inl ⟨by rfl, fun w' hSw => by (try dsimp only at hSw); go_simp; try with_reducible rfl⟩) hSS ?_
   simp only [zqN]
   refine come_one (i := 7) (l' := (zqF 8 8)) (by rw [List.getElem?_toArray]; rfl) (by kernel_rfl) rfl (fun K' hK => ?_)
   go_simp
   go_at_call 31; refine HJ.out.mono ?_; rintro e X2 ⟨rfl, hO, cs', hk', hE', hW'⟩; have hS2 := HS2.out X2 hO
   refine hK.out _ _ hS2 (fun hSS => ?_)
   try simp only [zqN]
   refine wpAnyH_done (by kernel_rfl) ?_ _
   exact ⟨rfl, HF.out X2 cs' hO hk' hE' hW'⟩
  case rest =>
   rintro e a' X2 ⟨rfl, h1, h2, h3⟩
   exact ⟨h1, h2, h3⟩
 case done =>
  rintro D Z hD ⟨hi, hT⟩ hDf
  rw [hxs, ← HE.out.1] at hi
  gi_wp2
  refine ⟨by simp, .inl ⟨_, _, rfl, run_takeDeferred hDf, ?_⟩⟩
  have g1 := grownBy_putObj' Z D (.deferred none)
  have hsz := hT.size
  have hsf := SoftC.grown (n₀ := n₀) (by omega) (show n₀ ≤ Y.heap.size by omega) g1 (fun r e => by cases e; exact ⟨hD, _, hDf, rfl⟩)
  exact ⟨_, results_none rfl _ _ _, rfl, ⟨mv, _, ms, hi.softC hsf, HE.out.2⟩, hTW.trans (hT.grown (by omega) g1 (fun r e => by cases e; exact hD))⟩
end Go.Proofs.YtiinkhmgemoamaaDoor.Nf
namespace Go.Proofs.YtiinkhmgemoamaaDoor.Nf
open Go Go.RowKit
attribute [local go_sem] Oper.semAt_some
set_option maxRecDepth 100000
set_option maxHeartbeats 2000000 in
theorem joinE_any (b c : Nat) (t u : TypeId) (cs ds : Array Value) (S T S1 T1 : Nat → Bool) (w : World) (hb : Bk w b t cs) (hc : Bk w c u ds) (hne : c ≠ b) (hS : WdA cs 0 S) (hT : WdA cs 64 T) (hS1 : WdA ds 0 S1) (hT1 : WdA ds 64 T1) :
 Calls Tryd.prog 17 #[.pointer (some ⟨b, 0, none⟩), .pointer (some ⟨c, 0, none⟩)] w fun e w' => e = .returned (.tuple #[]) ∧ Only b w w' ∧
  ∃ cs', Bk w' b t cs' ∧ cs'.size = cs.size ∧ WdA cs' 0 (jn S S1) ∧ WdA cs' 64 (jn T T1) ∧ ∀ j, 128 ≤ j → cs'[j]? = cs[j]? := by
 have HJ1 := Lib.hid (join_any b c 0 0 t u cs ds S S1 w.drew hb hc hne hS hS1)
 have HF1 := Lib.hid (show ∀ X2, (Only b w.drew X2 ∧ ∃ cs', Bk X2 b t cs' ∧ Else 0 cs cs' ∧ WdA cs' 0 (jn S S1)) → ∃ cs1, Only b w X2 ∧ Bk X2 b t cs1 ∧ Else 0 cs cs1 ∧ WdA cs1 0 (jn S S1) from fun X2 ⟨h1, cs1, h2, h3, h4⟩ => ⟨cs1, ⟨h1.os, h1.tape, h1.output, h1.size, h1.same⟩, h2, h3, h4⟩)
 go_enter Tryd.func17, Tryd.ntmps17
 go_wp2_with fail
 refine wp_cutN (fun a a' w' => (∃ z0 z1 z2 z3 z4 z5 z6 : Value, a' = (((((((a.put (some 4) z0).put (some 5) z1).put (some 6) z2).put (some 7) z3).put (some 8) z4).put (some 9) z5).put (some 10) z6)) ∧ ∃ cs1, Only b w w' ∧ Bk w' b t cs1 ∧ Else 0 cs cs1 ∧ WdA cs1 0 (jn S S1)) ?first4 ?next4
 case first4 =>
  refine wp_region_held_drew (S := fun w' : World => True) (by kernel_rfl) trivial (fun hSS => ?_)
  show wpAnyH _ _ _ _ _ 7 #[false, false, false, false, false, false, false] _ _
  refine zqT 0 (some 4) _ (zqF 7 1) (by rw [List.getElem?_toArray]; rfl) rfl (by kernel_rfl) rfl (fun _ _ _ h => h) (Or.inl ⟨by rfl, fun w' hSw => by (try dsimp only at hSw); go_simp; try with_reducible rfl⟩) hSS ?_
  simp only [zqN]
  refine zqT 1 (some 5) _ (zqF 7 2) (by rw [List.getElem?_toArray]; rfl) rfl (by kernel_rfl) rfl (fun _ _ _ h => h) (Or.inl ⟨by rfl, fun w' hSw => by (try dsimp only at hSw); go_simp; try with_reducible rfl⟩) hSS ?_
  simp only [zqN]
  refine zqT 2 (some 6) _ (zqF 7 3) (by rw [List.getElem?_toArray]; rfl) rfl (by kernel_rfl) rfl (fun _ _ _ h => h) (Or.inl ⟨by rfl, fun w' hSw => by (try dsimp only at hSw); go_simp; try with_reducible rfl⟩) hSS ?_
  simp only [zqN]
  refine zqT 3 (some 7) _ (zqF 7 4) (by rw [List.getElem?_toArray]; rfl) rfl (by kernel_rfl) rfl (fun _ _ _ h => h) (Or.inl ⟨by rfl, fun w' hSw => by (try dsimp only at hSw); go_simp; try with_reducible rfl⟩) hSS ?_
  simp only [zqN]
  refine zqT 4 (some 8) _ (zqF 7 5) (by rw [List.getElem?_toArray]; rfl) rfl (by kernel_rfl) rfl (fun _ _ _ h => h) (Or.inl ⟨by rfl, fun w' hSw => by (try dsimp only at hSw); go_simp; try with_reducible rfl⟩) hSS ?_
  simp only [zqN]
  refine zqT 5 (some 9) _ (zqF 7 6) (by rw [List.getElem?_toArray]; rfl) rfl (by kernel_rfl) rfl (fun _ _ _ h => h) (Or.inl ⟨by rfl, fun w' hSw => by (try dsimp only at hSw); go_simp; try with_reducible rfl⟩) hSS ?_
  simp only [zqN]
  refine come_one (i := 6) (l' := (zqF 7 7)) (by rw [List.getElem?_toArray]; rfl) (by kernel_rfl) rfl (fun K' hK => ?_)
  go_simp
  go_at_call 31; refine HJ1.out.mono ?_; rintro e X2 ⟨rfl, hX2⟩
  refine hK.out _ _ trivial (fun hSS => ?_)
  try simp only [zqN]
  refine wpAnyH_done (by kernel_rfl) ?_ _
  exact ⟨⟨_, _, _, _, _, _, _, rfl⟩, HF1.out X2 hX2⟩
 case next4 =>
  rintro a' w1 ⟨⟨z0, z1, z2, z3, z4, z5, z6, rfl⟩, cs1, hO1, hk1, hE1, hW1⟩
  simp only [zqN]
  have hT2 : WdA cs1 64 T := fun i hi => by rw [hE1.2 _ (by omega)]; exact hT i hi
  have HJ2 := Lib.hid (join_any b c 64 64 t u cs1 ds T T1 w1.drew hk1 (hO1.bk hc hne) hne hT2 hT1)
  have HF2 := Lib.hid (show ∀ X2, (Only b w1.drew X2 ∧ ∃ cs', Bk X2 b t cs' ∧ Else 64 cs1 cs' ∧ WdA cs' 64 (jn T T1)) → ∃ cs2, Only b w1 X2 ∧ Bk X2 b t cs2 ∧ Else 64 cs1 cs2 ∧ WdA cs2 64 (jn T T1) from fun X2 ⟨h1, cs1, h2, h3, h4⟩ => ⟨cs1, ⟨h1.os, h1.tape, h1.output, h1.size, h1.same⟩, h2, h3, h4⟩)
  go_wp2_with fail
  refine wp_cutN (fun a a' w' => (∃ z0 z1 z2 z3 z4 z5 z6 : Value, a' = (((((((a.put (some 11) z0).put (some 12) z1).put (some 13) z2).put (some 14) z3).put (some 15) z4).put (some 16) z5).put (some 17) z6)) ∧ ∃ cs2, Only b w1 w' ∧ Bk w' b t cs2 ∧ Else 64 cs1 cs2 ∧ WdA cs2 64 (jn T T1)) ?first11 ?next11
  case first11 =>
   refine wp_region_held_drew (S := fun w' : World => True) (by kernel_rfl) trivial (fun hSS => ?_)
   show wpAnyH _ _ _ _ _ 7 #[false, false, false, false, false, false, false] _ _
   refine zqT 0 (some 11) _ (zqF 7 1) (by rw [List.getElem?_toArray]; rfl) rfl (by kernel_rfl) rfl (fun _ _ _ h => h) (Or.inl ⟨by rfl, fun w' hSw => by (try dsimp only at hSw); go_simp; try with_reducible rfl⟩) hSS ?_
   simp only [zqN]
   refine zqT 1 (some 12) _ (zqF 7 2) (by rw [List.getElem?_toArray]; rfl) rfl (by kernel_rfl) rfl (fun _ _ _ h => h) (Or.inl ⟨by rfl, fun w' hSw => by (try dsimp only at hSw); go_simp; try with_reducible rfl⟩) hSS ?_
   simp only [zqN]
   refine zqT 2 (some 13) _ (zqF 7 3) (by rw [List.getElem?_toArray]; rfl) rfl (by kernel_rfl) rfl (fun _ _ _ h => h) (Or.inl ⟨by rfl, fun w' hSw => by (try dsimp only at hSw); go_simp; try with_reducible rfl⟩) hSS ?_
   simp only [zqN]
   refine zqT 3 (some 14) _ (zqF 7 4) (by rw [List.getElem?_toArray]; rfl) rfl (by kernel_rfl) rfl (fun _ _ _ h => h) (Or.inl ⟨by rfl, fun w' hSw => by (try dsimp only at hSw); go_simp; try with_reducible rfl⟩) hSS ?_
   simp only [zqN]
   refine zqT 4 (some 15) _ (zqF 7 5) (by rw [List.getElem?_toArray]; rfl) rfl (by kernel_rfl) rfl (fun _ _ _ h => h) (Or.inl ⟨by rfl, fun w' hSw => by (try dsimp only at hSw); go_simp; try with_reducible rfl⟩) hSS ?_
   simp only [zqN]
   refine zqT 5 (some 16) _ (zqF 7 6) (by rw [List.getElem?_toArray]; rfl) rfl (by kernel_rfl) rfl (fun _ _ _ h => h) (Or.inl ⟨by rfl, fun w' hSw => by (try dsimp only at hSw); go_simp; try with_reducible rfl⟩) hSS ?_
   simp only [zqN]
   refine come_one (i := 6) (l' := (zqF 7 7)) (by rw [List.getElem?_toArray]; rfl) (by kernel_rfl) rfl (fun K' hK => ?_)
   go_simp
   go_at_call 31; refine HJ2.out.mono ?_; rintro e X2 ⟨rfl, hX2⟩
   refine hK.out _ _ trivial (fun hSS => ?_)
   try simp only [zqN]
   refine wpAnyH_done (by kernel_rfl) ?_ _
   exact ⟨⟨_, _, _, _, _, _, _, rfl⟩, HF2.out X2 hX2⟩
  case next11 =>
   rintro a' w2 ⟨⟨z0, z1, z2, z3, z4, z5, z6, rfl⟩, cs2, hO2, hk2, hE2, hW2⟩
   simp only [zqN]
   have hfin : Only b w w2 ∧ ∃ cs', Bk w2 b t cs' ∧ cs'.size = cs.size ∧ WdA cs' 0 (jn S S1) ∧ WdA cs' 64 (jn T T1) ∧ ∀ j, 128 ≤ j → cs'[j]? = cs[j]? :=
    ⟨hO1.trans hO2, cs2, hk2, hE2.1.trans hE1.1, fun i hi => by rw [hE2.2 _ (by omega)]; exact hW1 i hi, hW2, fun j hj => by rw [hE2.2 j (by omega), hE1.2 j (by omega)]⟩
   first
    | exact bodyPost_end (results_none rfl _ _ _) rfl ⟨rfl, hfin⟩
    | exact ⟨_, results_none rfl _ _ _, rfl, hfin⟩
    | (go_wp2_with fail; exact bodyPost_end (results_none rfl _ _ _) rfl ⟨rfl, hfin⟩)
end Go.Proofs.YtiinkhmgemoamaaDoor.Nf
