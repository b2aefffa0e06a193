/- The law's Ends as a function, and that it is what the nodes say. Pure. -/
import Derived.Test.YtiinkhmgemoamaaDoorPat
namespace Go.Proofs.YtiinkhmgemoamaaDoor.Gl
open Go Go.RowKit Nd Nu Nf
set_option maxRecDepth 100000

/-- Does a row hold at a place? -/
abbrev at_ (m : List Bool) (j : Nat) : Prop := m.getD j false = true
theorem at_lt {m : List Bool} {j : Nat} (h : at_ m j) : j < m.length := by
 rcases Nat.lt_or_ge j m.length with h1 | h1
 · exact h1
 · unfold at_ at h
   rw [List.getD_eq_getElem?_getD, List.getElem?_eq_none h1] at h
   cases h
theorem any_at (m : List Bool) : m.any id = true ↔ ∃ j, at_ m j := by
 rw [List.any_eq_true]
 constructor
 · rintro ⟨x, hx, h⟩
   obtain ⟨j, hj, rfl⟩ := List.mem_iff_getElem.1 hx
   exact ⟨j, by unfold at_; rw [List.getD_eq_getElem?_getD, List.getElem?_eq_getElem hj]; exact h⟩
 · rintro ⟨j, h⟩
   have hj := at_lt h
   unfold at_ at h
   rw [List.getD_eq_getElem?_getD, List.getElem?_eq_getElem hj] at h
   exact ⟨_, List.getElem_mem hj, h⟩
theorem or_at (a b : List Bool) (hab : b.length = a.length) (j : Nat) : at_ (orT a b) j ↔ at_ a j ∨ at_ b j := by
 unfold at_
 rw [orT, tab_getD]
 by_cases hj : j < a.length
 · simp [hj]
 · rw [List.getD_eq_getElem?_getD, List.getElem?_eq_none (by omega), List.getD_eq_getElem?_getD, List.getElem?_eq_none (by omega)]
   simp [hj]
theorem step_at (m : List Bool) (l : List Int) (set : List (Int × Int)) (hm : m.length = l.length + 1) (j : Nat) : at_ (stT m l set) j ↔ ∃ i, at_ m i ∧ stepD l set i j := by
 unfold at_ stepD
 rw [stT, tab_getD]
 constructor
 · intro h
   simp only [Bool.and_eq_true, decide_eq_true_iff] at h
   obtain ⟨h1, h2, h3, h4⟩ := h
   refine ⟨j - 1, h3, by omega, ?_⟩
   cases hr : l[j - 1]? with
   | none => rw [hr] at h4; cases h4
   | some r => rw [hr] at h4; exact ⟨r, rfl, h4⟩
 · rintro ⟨i, h1, rfl, r, h2, h3⟩
   have := (List.getElem?_eq_some_iff.1 h2).1
   rw [Nat.add_sub_cancel, h1, h2]
   simp [h3]
   omega
/-- What a row of rows is gone through by a relation. -/
def Goes (N : Nat) (f : List Bool → List Bool) (R : Nat → Nat → Prop) : Prop := ∀ m : List Bool, m.length = N → (f m).length = N ∧ ∀ j, at_ (f m) j ↔ ∃ i, at_ m i ∧ R i j
theorem goes_id (N : Nat) : Goes N (fun m => m) (fun i j => i = j) := fun m hm => ⟨hm, fun j => ⟨fun h => ⟨j, h, rfl⟩, fun ⟨i, h, e⟩ => by cases e; exact h⟩⟩
theorem goes_row {α : Type} {N : Nat} {f : α → List Bool → List Bool} {R : α → Nat → Nat → Prop} : ∀ (ns : List α), (∀ n ∈ ns, Goes N (f n) (R n)) → Goes N (fun m => ns.foldl (fun o n => f n o) m) (rowD R ns)
 | [], _ => goes_id N
 | n :: ns, h => fun m hm => by
  obtain ⟨h1, h2⟩ := h n List.mem_cons_self m hm
  obtain ⟨h3, h4⟩ := goes_row ns (fun x hx => h x (List.mem_cons_of_mem _ hx)) (f n m) h1
  refine ⟨h3, fun j => (h4 j).trans ?_⟩
  constructor
  · rintro ⟨k, hk, hr⟩
    obtain ⟨i, hi, hi2⟩ := (h2 k).1 hk
    exact ⟨i, hi, k, hi2, hr⟩
  · rintro ⟨i, hi, k, h5, h6⟩
    exact ⟨k, (h2 k).2 ⟨i, hi, h5⟩, h6⟩
theorem goes_alt {α : Type} {N : Nat} {f : α → List Bool → List Bool} {R : α → Nat → Nat → Prop} (m : List Bool) (hm : m.length = N) : ∀ (ns : List α), (∀ n ∈ ns, Goes N (f n) (R n)) → ∀ (o : List Bool), o.length = N →
 (ns.foldl (fun o n => orT o (f n m)) o).length = N ∧ ∀ j, at_ (ns.foldl (fun o n => orT o (f n m)) o) j ↔ at_ o j ∨ ∃ i, at_ m i ∧ altD R ns i j
 | [], _, o, ho => ⟨ho, fun j => ⟨fun h => .inl h, fun h => h.elim id fun ⟨_, _, _, h, _⟩ => by cases h⟩⟩
 | n :: ns, h, o, ho => by
  obtain ⟨h1, h2⟩ := h n List.mem_cons_self m hm
  obtain ⟨h3, h4⟩ := goes_alt m hm ns (fun x hx => h x (List.mem_cons_of_mem _ hx)) (orT o (f n m)) (by rw [orT, tab_len]; exact ho)
  refine ⟨h3, fun j => (h4 j).trans ?_⟩
  rw [or_at _ _ (by rw [h1, ho]), h2]
  constructor
  · rintro ((h | ⟨i, h, h'⟩) | ⟨i, h, x, hx, h'⟩)
    · exact .inl h
    · exact .inr ⟨i, h, n, List.mem_cons_self, h'⟩
    · exact .inr ⟨i, h, x, List.mem_cons_of_mem _ hx, h'⟩
  · rintro (h5 | ⟨i, h5, x, hx, h6⟩)
    · exact .inl (.inl h5)
    · rcases List.mem_cons.1 hx with hx | hx
      · rw [hx] at h6
        exact .inl (.inr ⟨i, h5, h6⟩)
      · exact .inr ⟨i, h5, x, hx, h6⟩
/-- Again and again, at most k times. -/
def starT (f : List Bool → List Bool) : Nat → List Bool → List Bool → List Bool
 | 0, _, out => out
 | k + 1, was, out => if (f was).any id then starT f k (f was) (orT out (f was)) else orT out (f was)
/-- Just s times. -/
def Rs (R : Nat → Nat → Prop) : Nat → Nat → Nat → Prop
 | 0, i, j => i = j
 | s + 1, i, j => ∃ k, R i k ∧ Rs R s k j
theorem Rs.snoc {R : Nat → Nat → Prop} : ∀ (s : Nat) {i k j : Nat}, Rs R s i k → R k j → Rs R (s + 1) i j
 | 0, _, _, _, h, h' => by cases h; exact ⟨_, h', rfl⟩
 | s + 1, _, _, _, ⟨m, h1, h2⟩, h' => ⟨m, h1, Rs.snoc s h2 h'⟩
theorem Rs.ch {R : Nat → Nat → Prop} : ∀ (s : Nat) {i j : Nat}, Rs R (s + 1) i j → Ch R i j
 | 0, _, _, ⟨k, h, e⟩ => by cases e; exact .one h
 | s + 1, i, j, ⟨k, h, h'⟩ => by
  have := Rs.ch s h'
  clear h'
  induction this with
  | one h2 => exact .more (.one h) h2
  | more _ h2 ih => exact .more ih h2
/-- No step goes back: then no more steps are needed than places lie between, and one. -/
theorem Ch.few {R : Nat → Nat → Prop} (hR : ∀ i j, R i j → i ≤ j) {i j : Nat} (h : Ch R i j) : i ≤ j ∧ ∃ s, s ≤ j - i ∧ Rs R (s + 1) i j := by
 induction h with
 | one h => exact ⟨hR _ _ h, 0, Nat.zero_le _, _, h, rfl⟩
 | @more k j h1 h2 ih =>
  obtain ⟨hl, s, hs, h⟩ := ih
  have hl2 := hR _ _ h2
  refine ⟨by omega, ?_⟩
  by_cases hkj : k = j
  · subst hkj
    exact ⟨s, hs, h⟩
  · exact ⟨s + 1, by omega, Rs.snoc (s + 1) h h2⟩
theorem star_at {N : Nat} {f : List Bool → List Bool} {R : Nat → Nat → Prop} (hf : Goes N f R) : ∀ (k : Nat) (was out : List Bool), was.length = N → out.length = N →
 (starT f k was out).length = N ∧ ∀ j, at_ (starT f k was out) j ↔ at_ out j ∨ ∃ s, s < k ∧ ∃ i, at_ was i ∧ Rs R (s + 1) i j
 | 0, _, out, _, ho => ⟨ho, fun j => ⟨fun h => .inl h, fun h => h.elim id fun ⟨_, h, _⟩ => by omega⟩⟩
 | k + 1, was, out, hw, ho => by
  obtain ⟨h1, h2⟩ := hf was hw
  have h3 : (orT out (f was)).length = N := by rw [orT, tab_len]; exact ho
  have h4 := or_at out (f was) (by rw [h1, ho])
  unfold starT
  cases ha : (f was).any id with
  | true =>
   rw [if_pos rfl]
   obtain ⟨h5, h6⟩ := star_at hf k (f was) (orT out (f was)) h1 h3
   refine ⟨h5, fun j => (h6 j).trans ?_⟩
   rw [h4]
   constructor
   · rintro ((h | h) | ⟨s, hs, m, hm, h⟩)
     · exact .inl h
     · obtain ⟨i, hi, h⟩ := (h2 j).1 h
       exact .inr ⟨0, by omega, i, hi, j, h, rfl⟩
     · obtain ⟨i, hi, h'⟩ := (h2 m).1 hm
       exact .inr ⟨s + 1, by omega, i, hi, m, h', h⟩
   · rintro (h | ⟨s, hs, i, hi, m, h', h⟩)
     · exact .inl (.inl h)
     · cases s with
       | zero => cases h; exact .inl (.inr ((h2 _).2 ⟨i, hi, h'⟩))
       | succ s => exact .inr ⟨s, by omega, m, (h2 m).2 ⟨i, hi, h'⟩, h⟩
  | false =>
   rw [if_neg (by decide)]
   have hno : ∀ m, ¬ at_ (f was) m := fun m hm => by
    rw [(any_at _).2 ⟨m, hm⟩] at ha
    cases ha
   refine ⟨h3, fun j => (h4 j).trans ?_⟩
   constructor
   · rintro (h | h)
     · exact .inl h
     · exact (hno _ h).elim
   · rintro (h | ⟨s, _, i, hi, m, h', _⟩)
     · exact .inl h
     · exact (hno m ((h2 m).2 ⟨i, hi, h'⟩)).elim
/-- As often as there are places is often enough. -/
theorem star_goes {N : Nat} {f : List Bool → List Bool} {R : Nat → Nat → Prop} (hf : Goes N f R) (hR : ∀ i j, R i j → i ≤ j) : Goes N (fun m => starT f N m (tab N fun _ => false)) (Ch R) := fun m hm => by
 obtain ⟨h1, h2⟩ := star_at hf N m (tab N fun _ => false) hm (tab_len _ _)
 refine ⟨h1, fun j => ⟨fun h => ?_, ?_⟩⟩
 · rcases (h2 j).1 h with h | ⟨s, _, i, hi, h⟩
   · unfold at_ at h
     rw [tab_getD] at h
     simp at h
   · exact ⟨i, hi, Rs.ch s h⟩
 · rintro ⟨i, hi, h⟩
   obtain ⟨hle, s, hs, hr⟩ := Ch.few hR h
   by_cases hj : j < N
   · exact (h2 j).2 (.inr ⟨s, by omega, i, hi, hr⟩)
   · -- beyond the end nothing comes
     have hin := at_lt hi
     rw [hm] at hin
     have key : ∀ (s i : Nat) (w : List Bool), w.length = N → at_ w i → Rs R s i j → j < N := by
      intro s
      induction s with
      | zero => intro i w hw hi h; cases h; have := at_lt hi; omega
      | succ s ih =>
       rintro i w hw hi ⟨k, h, h'⟩
       exact ih k (f w) (hf w hw).1 (((hf w hw).2 k).2 ⟨i, hi, h⟩) h'
     exact absurd (key _ i m hm hi hr) hj
end Go.Proofs.YtiinkhmgemoamaaDoor.Gl
namespace Go.Proofs.YtiinkhmgemoamaaDoor.Gl
open Go Go.RowKit Nd Nu Nf Ck
set_option maxRecDepth 100000

def headT (f : T → List Bool → List Bool) : List T → List Bool → List Bool
 | [], m => m
 | n :: _, m => f n m
/-- Where texts of a node that begin at a place of m end. -/
def endT (fd : ByteArray → Option T) (rns : ByteArray → List Int) (l : List Int) : Nat → T → List Bool → List Bool
 | 0, _, m => m
 | F + 1, n, m =>
  if m.any id = false then tab m.length fun _ => false
  else if n.kind = 0 then n.subs.foldl (fun o x => orT o (endT fd rns l F x m)) (tab m.length fun _ => false)
  else if n.kind = 1 then n.subs.foldl (fun o x => endT fd rns l F x o) m
  else if n.kind = 2 then orT m (headT (endT fd rns l F) n.subs m)
  else if n.kind = 3 then orT (starT (headT (endT fd rns l F) n.subs) m.length m (tab m.length fun _ => false)) m
  else if n.kind = 4 then starT (headT (endT fd rns l F) n.subs) m.length m (tab m.length fun _ => false)
  else if n.kind = 6 then match fd n.name with | some b => endT fd rns l F b m | none => m
  else if n.kind = 8 then (rns n.text).foldl (fun o r => stT o l [(r, r)]) m
  else if n.kind = 9 then stT m l n.set
  else m
/-- A node can be gone through with what is left, and has what it asks for. -/
def Can (fd : ByteArray → Option T) : Nat → T → Prop
 | 0, _ => False
 | F + 1, n => (n.kind = 0 ∨ n.kind = 1 → ∀ m ∈ n.subs, Can fd F m) ∧ (n.kind = 2 ∨ n.kind = 3 ∨ n.kind = 4 → ∃ m, n.subs = [m] ∧ Can fd F m) ∧ (n.kind = 6 → ∃ b, fd n.name = some b ∧ Can fd F b)
theorem stepD_le {l : List Int} {set : List (Int × Int)} {i j : Nat} (h : stepD l set i j) : i ≤ j := by have := h.1; omega
theorem rowD_le {α : Type} {pt : α → Nat → Nat → Prop} : ∀ (ns : List α), (∀ n ∈ ns, ∀ i j, pt n i j → i ≤ j) → ∀ i j, rowD pt ns i j → i ≤ j
 | [], _, _, _, h => by cases h; exact Nat.le_refl _
 | n :: ns, h, i, j, ⟨k, h1, h2⟩ => Nat.le_trans (h n List.mem_cons_self i k h1) (rowD_le ns (fun x hx => h x (List.mem_cons_of_mem _ hx)) k j h2)
theorem Ch.le {R : Nat → Nat → Prop} (hR : ∀ i j, R i j → i ≤ j) {i j : Nat} (h : Ch R i j) : i ≤ j := (Ch.few hR h).1
theorem den_le (fd : ByteArray → Option T) (rns : ByteArray → List Int) (l : List Int) : ∀ (F : Nat) (n : T) (i j : Nat), den fd rns l F n i j → i ≤ j
 | 0, _, _, _, h => h.elim
 | F + 1, n, i, j, h => by
  have ih := den_le fd rns l F
  have hh : ∀ (ns : List T) i j, headD (den fd rns l F) ns i j → i ≤ j := fun ns i j h => by
   cases ns with
   | nil => exact h.elim
   | cons m b => exact ih m i j h
  unfold den at h
  by_cases k1 : n.kind = 1
  · rw [if_pos k1] at h; exact rowD_le _ (fun x _ => ih x) i j h
  rw [if_neg k1] at h
  by_cases k0 : n.kind = 0
  · rw [if_pos k0] at h; obtain ⟨x, _, h⟩ := h; exact ih x i j h
  rw [if_neg k0] at h
  by_cases k2 : n.kind = 2 ∨ n.kind = 3 ∨ n.kind = 4
  · rw [if_pos k2] at h
    by_cases q2 : n.kind = 2
    · rw [if_pos q2] at h
      exact h.elim (fun h => by omega) (hh _ i j)
    rw [if_neg q2] at h
    by_cases q4 : n.kind = 4
    · rw [if_pos q4] at h; exact Ch.le (hh _) h
    rw [if_neg q4] at h
    exact h.elim (fun h => by omega) (Ch.le (hh _))
  rw [if_neg k2] at h
  by_cases k6 : n.kind = 6
  · rw [if_pos k6] at h
    cases hfd : fd n.name with
    | none => rw [hfd] at h; dsimp only at h; omega
    | some b => rw [hfd] at h; exact ih b i j h
  rw [if_neg k6] at h
  by_cases k8 : n.kind = 8
  · rw [if_pos k8] at h; exact rowD_le _ (fun _ _ _ _ => stepD_le) i j h
  rw [if_neg k8] at h
  by_cases k9 : n.kind = 9
  · rw [if_pos k9] at h; exact stepD_le h
  rw [if_neg k9] at h
  omega
theorem goes_step {l : List Int} (set : List (Int × Int)) : Goes (l.length + 1) (fun m => stT m l set) (stepD l set) := fun m hm => ⟨(tab_len _ _).trans hm, fun j => step_at m l set hm j⟩
theorem goes_opt {N : Nat} {f : List Bool → List Bool} {R : Nat → Nat → Prop} (h : Goes N f R) : Goes N (fun m => orT m (f m)) (fun i j => i = j ∨ R i j) := fun m hm => by
 obtain ⟨h1, h2⟩ := h m hm
 refine ⟨(tab_len _ _).trans hm, fun j => ?_⟩
 rw [or_at _ _ (by rw [h1, hm]), h2]
 constructor
 · rintro (h | ⟨i, h, h'⟩)
   · exact ⟨j, h, .inl rfl⟩
   · exact ⟨i, h, .inr h'⟩
 · rintro ⟨i, h, rfl | h'⟩
   · exact .inl h
   · exact .inr ⟨i, h, h'⟩
theorem goes_opt' {N : Nat} {f : List Bool → List Bool} {R : Nat → Nat → Prop} (h : Goes N f R) : Goes N (fun m => orT (f m) m) (fun i j => i = j ∨ R i j) := fun m hm => by
 obtain ⟨h1, h2⟩ := h m hm
 refine ⟨(tab_len _ _).trans h1, fun j => ?_⟩
 rw [or_at _ _ (by rw [h1, hm]), h2]
 constructor
 · rintro (⟨i, h, h'⟩ | h)
   · exact ⟨i, h, .inr h'⟩
   · exact ⟨j, h, .inl rfl⟩
 · rintro ⟨i, h, rfl | h'⟩
   · exact .inr h
   · exact .inl ⟨i, h, h'⟩
/-- Where nothing comes in nothing comes out. -/
theorem goes_some {N : Nat} {f : List Bool → List Bool} {R : Nat → Nat → Prop} (h : Goes N f R) : Goes N (fun m => if m.any id = false then tab m.length fun _ => false else f m) R := fun m hm => by
 dsimp only
 by_cases ha : m.any id = false
 · rw [if_pos ha]
   refine ⟨by rw [tab_len]; exact hm, fun j => ⟨fun h => ?_, fun ⟨i, hi, _⟩ => ?_⟩⟩
   · unfold at_ at h
     rw [tab_getD] at h
     simp at h
   · rw [(any_at m).2 ⟨i, hi⟩] at ha
     cases ha
 · rw [if_neg ha]
   exact h m hm
theorem end_goes (fd : ByteArray → Option T) (rns : ByteArray → List Int) (l : List Int) : ∀ (F : Nat) (n : T), Can fd F n → Goes (l.length + 1) (endT fd rns l F n) (den fd rns l F n)
 | 0, _, h => h.elim
 | F + 1, n, ⟨c1, c2, c3⟩ => by
  have ih := end_goes fd rns l F
  have hsome : ∀ (f : List Bool → List Bool) (R : Nat → Nat → Prop), (∀ m, endT fd rns l (F + 1) n m = if m.any id = false then tab m.length fun _ => false else f m) → Goes (l.length + 1) f R → Goes (l.length + 1) (endT fd rns l (F + 1) n) R := fun f R h1 h2 => by
   rw [show endT fd rns l (F + 1) n = fun m => if m.any id = false then tab m.length fun _ => false else f m from funext h1]
   exact goes_some h2
  unfold den
  by_cases k1 : n.kind = 1
  · rw [if_pos k1]
    refine hsome (fun m => n.subs.foldl (fun o x => endT fd rns l F x o) m) _ (fun m => ?_) (goes_row n.subs fun x hx => ih x (c1 (.inr k1) x hx))
    rw [endT, if_neg (show ¬ n.kind = 0 by omega), if_pos k1]
  rw [if_neg k1]
  by_cases k0 : n.kind = 0
  · rw [if_pos k0]
    refine hsome (fun m => n.subs.foldl (fun o x => orT o (endT fd rns l F x m)) (tab m.length fun _ => false)) _ (fun m => by rw [endT, if_pos k0]) fun m hm => ?_
    obtain ⟨h1, h2⟩ := goes_alt m hm n.subs (fun x hx => ih x (c1 (.inl k0) x hx)) (tab m.length fun _ => false) (by rw [tab_len]; exact hm)
    refine ⟨h1, fun j => (h2 j).trans ⟨fun h => h.elim (fun h => ?_) id, .inr⟩⟩
    unfold at_ at h
    rw [tab_getD] at h
    simp at h
  rw [if_neg k0]
  by_cases k2 : n.kind = 2 ∨ n.kind = 3 ∨ n.kind = 4
  · rw [if_pos k2]
    obtain ⟨x, hx, cx⟩ := c2 k2
    have hg : Goes (l.length + 1) (headT (endT fd rns l F) n.subs) (headD (den fd rns l F) n.subs) := by rw [hx]; exact ih x cx
    have hle : ∀ i j, headD (den fd rns l F) n.subs i j → i ≤ j := by rw [hx]; exact den_le fd rns l F x
    dsimp only
    by_cases q2 : n.kind = 2
    · rw [if_pos q2]
      exact hsome (fun m => orT m (headT (endT fd rns l F) n.subs m)) _ (fun m => by rw [endT, if_neg k0, if_neg k1, if_pos q2]) (goes_opt hg)
    rw [if_neg q2]
    have hst : ∀ m : List Bool, m.length = l.length + 1 → starT (headT (endT fd rns l F) n.subs) m.length m (tab m.length fun _ => false) = starT (headT (endT fd rns l F) n.subs) (l.length + 1) m (tab (l.length + 1) fun _ => false) := fun m hm => by rw [hm]
    have hs := star_goes hg hle
    by_cases q4 : n.kind = 4
    · rw [if_pos q4]
      refine hsome (fun m => starT (headT (endT fd rns l F) n.subs) m.length m (tab m.length fun _ => false)) _ (fun m => by rw [endT, if_neg k0, if_neg k1, if_neg q2, if_neg (show ¬ n.kind = 3 by omega), if_pos q4]) fun m hm => ?_
      dsimp only
      rw [hst m hm]
      exact hs m hm
    · rw [if_neg q4]
      have q3 : n.kind = 3 := by omega
      refine hsome (fun m => orT (starT (headT (endT fd rns l F) n.subs) m.length m (tab m.length fun _ => false)) m) _ (fun m => by rw [endT, if_neg k0, if_neg k1, if_neg q2, if_pos q3]) fun m hm => ?_
      dsimp only
      rw [hst m hm]
      exact goes_opt' hs m hm
  rw [if_neg k2]
  have q2 : ¬ n.kind = 2 := fun h => k2 (.inl h)
  have q3 : ¬ n.kind = 3 := fun h => k2 (.inr (.inl h))
  have q4 : ¬ n.kind = 4 := fun h => k2 (.inr (.inr h))
  by_cases k6 : n.kind = 6
  · rw [if_pos k6]
    obtain ⟨b, hb, cb⟩ := c3 k6
    rw [hb]
    exact hsome (endT fd rns l F b) _ (fun m => by rw [endT, if_neg k0, if_neg k1, if_neg q2, if_neg q3, if_neg q4, if_pos k6, hb]) (ih b cb)
  rw [if_neg k6]
  by_cases k8 : n.kind = 8
  · rw [if_pos k8]
    exact hsome (fun m => (rns n.text).foldl (fun o r => stT o l [(r, r)]) m) _ (fun m => by rw [endT, if_neg k0, if_neg k1, if_neg q2, if_neg q3, if_neg q4, if_neg k6, if_pos k8]) (goes_row (f := fun r m => stT m l [(r, r)]) (rns n.text) fun r _ => goes_step _)
  rw [if_neg k8]
  by_cases k9 : n.kind = 9
  · rw [if_pos k9]
    exact hsome (fun m => stT m l n.set) _ (fun m => by rw [endT, if_neg k0, if_neg k1, if_neg q2, if_neg q3, if_neg q4, if_neg k6, if_neg k8, if_pos k9]) (goes_step _)
  rw [if_neg k9]
  exact hsome (fun m => m) _ (fun m => by rw [endT, if_neg k0, if_neg k1, if_neg q2, if_neg q3, if_neg q4, if_neg k6, if_neg k8, if_neg k9]) (goes_id _)
/-- Where each node has what it asks for. -/
inductive Whl : T → Prop where
 | mk {k : Int} {n x : ByteArray} {s : List (Int × Int)} {b : List T} : (k = 2 ∨ k = 3 ∨ k = 4 → b.length = 1) → (∀ m ∈ b, Whl m) → Whl (.mk k n x s b)
theorem Whl.one {t : T} (h : Whl t) : t.kind = 2 ∨ t.kind = 3 ∨ t.kind = 4 → ∃ m, t.subs = [m] := by
 cases h with
 | mk h _ => exact fun hk => List.length_eq_one_iff.1 (h hk)
theorem Whl.subs {t : T} (h : Whl t) : ∀ m ∈ t.subs, Whl m := by cases h; assumption
/-- What names stand for is there. -/
def Nmd (fd : ByteArray → Option T) (t : T) : Prop := ∀ n ∈ nam t, n.kind = 6 → (fd n.name).isSome = true
theorem Nmd.subs {fd : ByteArray → Option T} {t : T} (h : Nmd fd t) : ∀ m ∈ t.subs, Nmd fd m := by
 cases t with
 | mk k n x s b => exact fun m hm q hq => h q (nam_sub (mem_namL hm hq))
theorem Nmd.self {fd : ByteArray → Option T} {t : T} (h : Nmd fd t) (hk : t.kind = 6) : (fd t.name).isSome = true := by
 cases t with
 | mk k n x s b =>
  refine h _ ?_ hk
  simp only [nam]
  exact List.mem_append_left _ (by rw [if_pos (.inr hk)]; exact List.mem_singleton_self _)
theorem row_not {α : Type} {pt : St → α → St × Pt} {P : α → Prop} (hpt : ∀ s n, (pt s n).1.over = false → P n) : ∀ (ns : List α) (s : St) (p : Pt), (rowF pt s p ns).1.over = false → ∀ n ∈ ns, P n
 | [], _, _, _, n, hn => by cases hn
 | x :: ns, s, p, h, n, hn => by
  have hx := hpt s x
  unfold rowF at h
  generalize pt s x = y at *
  obtain ⟨s1, q⟩ := y
  dsimp only at h hx
  by_cases ho : s1.over = true
  · rw [if_pos ho] at h
    exact absurd (ho.symm.trans h) (by decide)
  · rw [if_neg ho] at h
    rcases List.mem_cons.1 hn with e | hn
    · rw [e]; exact hx (by simpa using ho)
    · exact row_not hpt ns _ _ h n hn
theorem choice_not {α : Type} {pt : St → α → St × Pt} {P : α → Prop} (hpt : ∀ s n, (pt s n).1.over = false → P n) : ∀ (ns : List α) (s : St) (p : Pt), (choiceF pt s p ns).1.over = false → ∀ n ∈ ns, P n
 | [], _, _, _, n, hn => by cases hn
 | x :: ns, s, p, h, n, hn => by
  have hx := hpt s x
  unfold choiceF at h
  generalize pt s x = y at *
  obtain ⟨s1, q⟩ := y
  dsimp only at h hx
  by_cases ho : s1.over = true
  · rw [if_pos ho] at h
    exact absurd (ho.symm.trans h) (by decide)
  · rw [if_neg ho] at h
    rcases List.mem_cons.1 hn with e | hn
    · rw [e]; exact hx (by simpa using ho)
    · exact choice_not hpt ns _ _ h n hn
end Go.Proofs.YtiinkhmgemoamaaDoor.Gl
