/- Places as an automaton (Glushkov), in the abstract: one behind the other, one of two, again and again. Pure. -/
import Derived.Test.YtiinkhmgemoamaaDoorPao
namespace Go.Proofs.YtiinkhmgemoamaaDoor.Gl
set_option maxRecDepth 10000

/-- An automaton of places. -/
structure Au where
 dom : Nat → Prop
 fst : Nat → Prop
 lst : Nat → Prop
 emp : Prop
 fl : Nat → Nat → Prop
structure Au.Wf (A : Au) : Prop where
 fst : ∀ q, A.fst q → A.dom q
 lst : ∀ q, A.lst q → A.dom q
 fl : ∀ q r, A.dom q → A.fl q r → A.dom r
/-- A way from i to j, at whose end stands q; hd q i: at q may stand what is at i. -/
inductive Way (A : Au) (hd : Nat → Nat → Prop) : Nat → Nat → Nat → Prop
 | one {i q : Nat} : A.fst q → hd q i → Way A hd i (i + 1) q
 | more {i j q r : Nat} : Way A hd i j q → A.fl q r → hd r j → Way A hd i (j + 1) r
/-- What stands from i to j is one of its texts. -/
def Rd (A : Au) (hd : Nat → Nat → Prop) (i j : Nat) : Prop := (i = j ∧ A.emp) ∨ ∃ q, Way A hd i j q ∧ A.lst q
theorem Way.dom {A : Au} {hd : Nat → Nat → Prop} (h : A.Wf) {i j q : Nat} (w : Way A hd i j q) : A.dom q := by
 induction w with
 | one h1 _ => exact h.fst _ h1
 | more _ h1 _ ih => exact h.fl _ _ ih h1
/-- One behind the other. -/
def Au.seq (A B : Au) : Au where
 dom q := A.dom q ∨ B.dom q
 fst q := A.fst q ∨ (A.emp ∧ B.fst q)
 lst q := (B.emp ∧ A.lst q) ∨ B.lst q
 emp := A.emp ∧ B.emp
 fl q r := (A.dom q ∧ A.fl q r) ∨ (B.dom q ∧ B.fl q r) ∨ (A.lst q ∧ B.fst r)
theorem Au.seq_wf {A B : Au} (ha : A.Wf) (hb : B.Wf) : (A.seq B).Wf where
 fst q h := h.elim (fun h => .inl (ha.fst q h)) (fun h => .inr (hb.fst q h.2))
 lst q h := h.elim (fun h => .inl (ha.lst q h.2)) (fun h => .inr (hb.lst q h))
 fl q r _ h := by
  rcases h with ⟨h1, h2⟩ | ⟨h1, h2⟩ | ⟨_, h2⟩
  · exact .inl (ha.fl _ _ h1 h2)
  · exact .inr (hb.fl _ _ h1 h2)
  · exact .inr (hb.fst _ h2)
theorem way_seqA {A B : Au} {hd : Nat → Nat → Prop} (ha : A.Wf) {i j q : Nat} (w : Way A hd i j q) : Way (A.seq B) hd i j q := by
 induction w with
 | one h1 h2 => exact .one (.inl h1) h2
 | more w h1 h2 ih => exact .more ih (.inl ⟨w.dom ha, h1⟩) h2
theorem way_seqB {A B : Au} {hd : Nat → Nat → Prop} (ha : A.Wf) (hb : B.Wf) {i k j q : Nat} (h : Rd A hd i k) (w : Way B hd k j q) : Way (A.seq B) hd i j q := by
 induction w with
 | one h1 h2 =>
  rcases h with ⟨rfl, h⟩ | ⟨p, h, h3⟩
  · exact .one (.inr ⟨h, h1⟩) h2
  · exact .more (way_seqA ha h) (.inr (.inr ⟨h3, h1⟩)) h2
 | more w h1 h2 ih => exact .more ih (.inr (.inl ⟨w.dom hb, h1⟩)) h2
theorem way_seq {A B : Au} {hd : Nat → Nat → Prop} (ha : A.Wf) (hb : B.Wf) (hx : ∀ q, A.dom q → B.dom q → False) {i j q : Nat} (w : Way (A.seq B) hd i j q) :
 (A.dom q ∧ Way A hd i j q) ∨ (B.dom q ∧ ∃ k, Rd A hd i k ∧ Way B hd k j q) := by
 induction w with
 | one h1 h2 =>
  rcases h1 with h1 | ⟨he, h1⟩
  · exact .inl ⟨ha.fst _ h1, .one h1 h2⟩
  · exact .inr ⟨hb.fst _ h1, _, .inl ⟨rfl, he⟩, .one h1 h2⟩
 | more w h1 h2 ih =>
  rcases ih with ⟨hd1, ih⟩ | ⟨hd1, k, ih1, ih2⟩
  · rcases h1 with ⟨_, h1⟩ | ⟨h0, _⟩ | ⟨h0, h1⟩
    · exact .inl ⟨ha.fl _ _ hd1 h1, .more ih h1 h2⟩
    · exact (hx _ hd1 h0).elim
    · exact .inr ⟨hb.fst _ h1, _, .inr ⟨_, ih, h0⟩, .one h1 h2⟩
  · rcases h1 with ⟨h0, _⟩ | ⟨_, h1⟩ | ⟨h0, _⟩
    · exact (hx _ h0 hd1).elim
    · exact .inr ⟨hb.fl _ _ hd1 h1, k, ih1, .more ih2 h1 h2⟩
    · exact (hx _ (ha.lst _ h0) hd1).elim
theorem rd_seq {A B : Au} {hd : Nat → Nat → Prop} (ha : A.Wf) (hb : B.Wf) (hx : ∀ q, A.dom q → B.dom q → False) (i j : Nat) : Rd (A.seq B) hd i j ↔ ∃ k, Rd A hd i k ∧ Rd B hd k j := by
 constructor
 · rintro (⟨rfl, h1, h2⟩ | ⟨q, w, h⟩)
   · exact ⟨i, .inl ⟨rfl, h1⟩, .inl ⟨rfl, h2⟩⟩
   · rcases way_seq ha hb hx w with ⟨h0, w⟩ | ⟨h0, k, h1, w⟩
     · rcases h with ⟨h1, h2⟩ | h
       · exact ⟨j, .inr ⟨q, w, h2⟩, .inl ⟨rfl, h1⟩⟩
       · exact (hx _ h0 (hb.lst _ h)).elim
     · rcases h with ⟨_, h2⟩ | h
       · exact (hx _ (ha.lst _ h2) h0).elim
       · exact ⟨k, h1, .inr ⟨q, w, h⟩⟩
 · rintro ⟨k, h1, h2⟩
   rcases h2 with ⟨rfl, h2⟩ | ⟨q, w, h⟩
   · rcases h1 with ⟨rfl, h1⟩ | ⟨q, w, h⟩
     · exact .inl ⟨rfl, h1, h2⟩
     · exact .inr ⟨q, way_seqA ha w, .inl ⟨h2, h⟩⟩
   · exact .inr ⟨q, way_seqB ha hb h1 w, .inr h⟩
/-- One of two. -/
def Au.alt (A B : Au) : Au where
 dom q := A.dom q ∨ B.dom q
 fst q := A.fst q ∨ B.fst q
 lst q := A.lst q ∨ B.lst q
 emp := A.emp ∨ B.emp
 fl q r := (A.dom q ∧ A.fl q r) ∨ (B.dom q ∧ B.fl q r)
theorem Au.alt_wf {A B : Au} (ha : A.Wf) (hb : B.Wf) : (A.alt B).Wf where
 fst q h := h.imp (ha.fst q) (hb.fst q)
 lst q h := h.imp (ha.lst q) (hb.lst q)
 fl _ _ _ h := h.imp (fun h => ha.fl _ _ h.1 h.2) (fun h => hb.fl _ _ h.1 h.2)
theorem way_alt {A B : Au} {hd : Nat → Nat → Prop} (ha : A.Wf) (hb : B.Wf) (hx : ∀ q, A.dom q → B.dom q → False) {i j q : Nat} : Way (A.alt B) hd i j q ↔ Way A hd i j q ∨ Way B hd i j q := by
 constructor
 · intro w
   induction w with
   | one h1 h2 => exact h1.imp (fun h => .one h h2) (fun h => .one h h2)
   | more w h1 h2 ih =>
    rcases ih with ih | ih
    · rcases h1 with ⟨_, h1⟩ | ⟨h0, _⟩
      · exact .inl (.more ih h1 h2)
      · exact (hx _ (ih.dom ha) h0).elim
    · rcases h1 with ⟨h0, _⟩ | ⟨_, h1⟩
      · exact (hx _ h0 (ih.dom hb)).elim
      · exact .inr (.more ih h1 h2)
 · rintro (w | w)
   · induction w with
     | one h1 h2 => exact .one (.inl h1) h2
     | more w h1 h2 ih => exact .more ih (.inl ⟨w.dom ha, h1⟩) h2
   · induction w with
     | one h1 h2 => exact .one (.inr h1) h2
     | more w h1 h2 ih => exact .more ih (.inr ⟨w.dom hb, h1⟩) h2
theorem rd_alt {A B : Au} {hd : Nat → Nat → Prop} (ha : A.Wf) (hb : B.Wf) (hx : ∀ q, A.dom q → B.dom q → False) (i j : Nat) : Rd (A.alt B) hd i j ↔ Rd A hd i j ∨ Rd B hd i j := by
 constructor
 · rintro (⟨rfl, h⟩ | ⟨q, w, h⟩)
   · exact h.imp (fun h => .inl ⟨rfl, h⟩) (fun h => .inl ⟨rfl, h⟩)
   · rcases (way_alt ha hb hx).1 w with w | w
     · rcases h with h | h
       · exact .inl (.inr ⟨q, w, h⟩)
       · exact (hx _ (w.dom ha) (hb.lst _ h)).elim
     · rcases h with h | h
       · exact (hx _ (ha.lst _ h) (w.dom hb)).elim
       · exact .inr (.inr ⟨q, w, h⟩)
 · rintro ((⟨rfl, h⟩ | ⟨q, w, h⟩) | (⟨rfl, h⟩ | ⟨q, w, h⟩))
   · exact .inl ⟨rfl, .inl h⟩
   · exact .inr ⟨q, (way_alt ha hb hx).2 (.inl w), .inl h⟩
   · exact .inl ⟨rfl, .inr h⟩
   · exact .inr ⟨q, (way_alt ha hb hx).2 (.inr w), .inr h⟩
/-- Once or more often. -/
inductive Ch (R : Nat → Nat → Prop) : Nat → Nat → Prop
 | one {i j : Nat} : R i j → Ch R i j
 | more {i k j : Nat} : Ch R i k → R k j → Ch R i j
def Au.loop (A : Au) : Au where
 dom := A.dom
 fst := A.fst
 lst := A.lst
 emp := A.emp
 fl q r := A.fl q r ∨ (A.lst q ∧ A.fst r)
theorem Au.loop_wf {A : Au} (ha : A.Wf) : A.loop.Wf where
 fst := ha.fst
 lst := ha.lst
 fl q r hq h := h.elim (fun h => ha.fl q r hq h) (fun h => ha.fst r h.2)
theorem way_loopA {A : Au} {hd : Nat → Nat → Prop} {i j q : Nat} (w : Way A hd i j q) : Way A.loop hd i j q := by
 induction w with
 | one h1 h2 => exact .one h1 h2
 | more w h1 h2 ih => exact .more ih (.inl h1) h2
theorem way_loop {A : Au} {hd : Nat → Nat → Prop} {i j q : Nat} (w : Way A.loop hd i j q) : ∃ k, (i = k ∨ Ch (Rd A hd) i k) ∧ Way A hd k j q := by
 induction w with
 | one h1 h2 => exact ⟨_, .inl rfl, .one h1 h2⟩
 | more w h1 h2 ih =>
  obtain ⟨k, hk, ih⟩ := ih
  rcases h1 with h1 | ⟨h0, h1⟩
  · exact ⟨k, hk, .more ih h1 h2⟩
  · refine ⟨_, .inr ?_, .one h1 h2⟩
    rcases hk with rfl | hk
    · exact .one (.inr ⟨_, ih, h0⟩)
    · exact .more hk (.inr ⟨_, ih, h0⟩)
theorem way_behind {A : Au} {hd : Nat → Nat → Prop} {i k j q : Nat} (h : ∃ p, Way A.loop hd i k p ∧ A.lst p) (w : Way A hd k j q) : Way A.loop hd i j q := by
 induction w with
 | one h1 h2 =>
  obtain ⟨p, h, h3⟩ := h
  exact .more h (.inr ⟨h3, h1⟩) h2
 | more w h1 h2 ih => exact .more ih (.inl h1) h2
theorem rd_loop {A : Au} {hd : Nat → Nat → Prop} (i j : Nat) : Rd A.loop hd i j ↔ Ch (Rd A hd) i j := by
 constructor
 · rintro (⟨rfl, h⟩ | ⟨q, w, h⟩)
   · exact .one (.inl ⟨rfl, h⟩)
   · obtain ⟨k, hk, w⟩ := way_loop w
     rcases hk with rfl | hk
     · exact .one (.inr ⟨q, w, h⟩)
     · exact .more hk (.inr ⟨q, w, h⟩)
 · intro h
   induction h with
   | one h =>
    rcases h with ⟨rfl, h⟩ | ⟨q, w, h⟩
    · exact .inl ⟨rfl, h⟩
    · exact .inr ⟨q, way_loopA w, h⟩
   | more _ h ih =>
    rcases h with ⟨rfl, h⟩ | ⟨q, w, h⟩
    · exact ih
    · rcases ih with ⟨rfl, _⟩ | ih
      · exact .inr ⟨q, way_loopA w, h⟩
      · exact .inr ⟨q, way_behind ih w, h⟩
/-- Or nothing. -/
def Au.opt (A : Au) : Au := { A with emp := True }
theorem Au.opt_wf {A : Au} (ha : A.Wf) : A.opt.Wf := ⟨ha.fst, ha.lst, ha.fl⟩
theorem way_opt {A : Au} {hd : Nat → Nat → Prop} {i j q : Nat} : Way A.opt hd i j q ↔ Way A hd i j q := by
 constructor
 · intro w
   induction w with
   | one h1 h2 => exact .one h1 h2
   | more w h1 h2 ih => exact .more ih h1 h2
 · intro w
   induction w with
   | one h1 h2 => exact .one h1 h2
   | more w h1 h2 ih => exact .more ih h1 h2
theorem rd_opt {A : Au} {hd : Nat → Nat → Prop} (i j : Nat) : Rd A.opt hd i j ↔ i = j ∨ Rd A hd i j := by
 constructor
 · rintro (⟨rfl, _⟩ | ⟨q, w, h⟩)
   · exact .inl rfl
   · exact .inr (.inr ⟨q, way_opt.1 w, h⟩)
 · rintro (rfl | ⟨rfl, h⟩ | ⟨q, w, h⟩)
   · exact .inl ⟨rfl, trivial⟩
   · exact .inl ⟨rfl, trivial⟩
   · exact .inr ⟨q, way_opt.2 w, h⟩
end Go.Proofs.YtiinkhmgemoamaaDoor.Gl
namespace Go.Proofs.YtiinkhmgemoamaaDoor.Gl
open Go Go.RowKit Nd Nu Nf
set_option maxRecDepth 100000

/-- Does a set hold a rune? -/
def inS (set : List (Int × Int)) (r : Int) : Bool := set.any fun p => decide (p.1 ≤ r) && decide (r ≤ p.2)
/-- A step over a rune of a set. -/
def stepD (l : List Int) (set : List (Int × Int)) (i j : Nat) : Prop := j = i + 1 ∧ ∃ r, l[i]? = some r ∧ inS set r = true
def rowD {α : Type} (pt : α → Nat → Nat → Prop) : List α → Nat → Nat → Prop
 | [], i, j => i = j
 | n :: ns, i, j => ∃ k, pt n i k ∧ rowD pt ns k j
def altD {α : Type} (pt : α → Nat → Nat → Prop) (ns : List α) (i j : Nat) : Prop := ∃ n ∈ ns, pt n i j
/-- The first one. -/
def headD (R : T → Nat → Nat → Prop) : List T → Nat → Nat → Prop
 | [] => fun _ _ => False
 | m :: _ => R m
/-- Where texts of a node that begin at i end: by the node itself. -/
def den (fd : ByteArray → Option T) (rns : ByteArray → List Int) (l : List Int) : Nat → T → Nat → Nat → Prop
 | 0, _ => fun _ _ => False
 | F + 1, n =>
  if n.kind = 1 then rowD (den fd rns l F) n.subs
  else if n.kind = 0 then altD (den fd rns l F) n.subs
  else if n.kind = 2 ∨ n.kind = 3 ∨ n.kind = 4 then
   let R := headD (den fd rns l F) n.subs
   if n.kind = 2 then fun i j => i = j ∨ R i j else if n.kind = 4 then Ch R else fun i j => i = j ∨ Ch R i j
  else if n.kind = 6 then match fd n.name with | some b => den fd rns l F b | none => fun i j => i = j
  else if n.kind = 8 then rowD (fun r => stepD l [(r, r)]) (rns n.text)
  else if n.kind = 9 then stepD l n.set
  else fun i j => i = j
/-- What may stand at a place. -/
def hdS (made : List (List (Int × Int) × Nat)) (l : List Int) (q i : Nat) : Prop := ∃ m r, made[q]? = some m ∧ l[i]? = some r ∧ inS m.1 r = true
def flS (s : St) (q r : Nat) : Prop := ∃ S, s.follow[q]? = some S ∧ S r = true
/-- The places from b to e, and a part of them, are the automaton A. -/
structure Is (s : St) (b e : Nat) (p : Pt) (A : Au) : Prop where
 wf : A.Wf
 le : b ≤ e ∧ e ≤ s.made.length
 dom : ∀ q, A.dom q ↔ b ≤ q ∧ q < e
 fst : ∀ q, A.fst q ↔ p.first q = true
 lst : ∀ q, A.lst q ↔ p.last q = true
 emp : A.emp ↔ p.empty = true
 fl : ∀ q r, b ≤ q → q < e → (A.fl q r ↔ flS s q r)
/-- What the builder does with what was there: nothing, as far as what comes after it goes. -/
structure Gr (kind : Nat) (s s' : St) : Prop where
 made : ∃ X, s'.made = s.made ++ X ∧ ∀ x ∈ X, x.2 = kind
 follow : ∀ q, q < s.made.length → s'.follow[q]? = s.follow[q]?
theorem Gr.refl (kind : Nat) (s : St) : Gr kind s s := ⟨⟨[], by simp, by simp⟩, fun _ _ => rfl⟩
theorem Gr.le {kind : Nat} {s s' : St} (h : Gr kind s s') : s.made.length ≤ s'.made.length := by
 obtain ⟨⟨X, h, _⟩, _⟩ := h
 rw [h, List.length_append]
 omega
theorem Gr.trans {kind : Nat} {a b c : St} (h : Gr kind a b) (h' : Gr kind b c) : Gr kind a c := by
 have hl := h.le
 obtain ⟨⟨X, hx, kx⟩, fx⟩ := h
 obtain ⟨⟨Y, hy, ky⟩, fy⟩ := h'
 refine ⟨⟨X ++ Y, by rw [hy, hx, List.append_assoc], fun x hm => (List.mem_append.1 hm).elim (kx x) (ky x)⟩, fun q hq => ?_⟩
 rw [fy q (by omega), fx q hq]
theorem Gr.get {kind : Nat} {s s' : St} (h : Gr kind s s') {q : Nat} (hq : q < s.made.length) : s'.made[q]? = s.made[q]? := by
 obtain ⟨⟨X, hx, _⟩, _⟩ := h
 rw [hx, List.getElem?_append_left hq]
theorem Is.grow {kind : Nat} {s s' : St} {b e : Nat} {p : Pt} {A : Au} (h : Is s b e p A) (hg : Gr kind s s') : Is s' b e p A :=
 ⟨h.wf, ⟨h.le.1, Nat.le_trans h.le.2 hg.le⟩, h.dom, h.fst, h.lst, h.emp, fun q r h1 h2 => by
  rw [h.fl q r h1 h2]
  unfold flS
  rw [hg.follow q (Nat.lt_of_lt_of_le h2 h.le.2)]⟩
theorem Way.hd {A : Au} {hd hd' : Nat → Nat → Prop} (ha : A.Wf) (hh : ∀ q i, A.dom q → hd q i → hd' q i) {i j q : Nat} (w : Way A hd i j q) : Way A hd' i j q := by
 induction w with
 | one h1 h2 => exact .one h1 (hh _ _ (ha.fst _ h1) h2)
 | more w h1 h2 ih => exact .more ih h1 (hh _ _ (ha.fl _ _ (w.dom ha) h1) h2)
theorem Rd.hd {A : Au} {hd hd' : Nat → Nat → Prop} (ha : A.Wf) (hh : ∀ q i, A.dom q → (hd q i ↔ hd' q i)) (i j : Nat) : Rd A hd i j ↔ Rd A hd' i j :=
 ⟨fun h => h.imp id fun ⟨q, w, h⟩ => ⟨q, w.hd ha (fun q i hq => (hh q i hq).1), h⟩, fun h => h.imp id fun ⟨q, w, h⟩ => ⟨q, w.hd ha (fun q i hq => (hh q i hq).2), h⟩⟩
theorem Is.rd {kind : Nat} {s s' : St} {b e : Nat} {p : Pt} {A : Au} (h : Is s b e p A) (hg : Gr kind s s') (l : List Int) (i j : Nat) : Rd A (hdS s'.made l) i j ↔ Rd A (hdS s.made l) i j :=
 Rd.hd h.wf (fun q k hq => by
  unfold hdS
  rw [hg.get (Nat.lt_of_lt_of_le ((h.dom q).1 hq).2 h.le.2)]) i j
/-- What is made of a node is just its texts. -/
def Tells (kind : Nat) (l : List Int) (R : Nat → Nat → Prop) (s : St) (x : St × Pt) : Prop :=
 Gr kind s x.1 ∧ ∃ A, Is x.1 s.made.length x.1.made.length x.2 A ∧ ∀ i j, Rd A (hdS x.1.made l) i j ↔ R i j
theorem link_get (s : St) (fr to : Nat → Bool) (q : Nat) : (linkF s fr to).follow[q]? = (s.follow[q]?).map fun S => if fr q then jn S to else S := by
 simp only [linkF, List.getElem?_mapIdx]
theorem link_fl {s : St} (hk : s.follow.length = s.made.length) (fr to : Nat → Bool) {q : Nat} (hq : q < s.made.length) (r : Nat) : flS (linkF s fr to) q r ↔ flS s q r ∨ (fr q = true ∧ to r = true) := by
 unfold flS
 rw [link_get, List.getElem?_eq_getElem (by omega)]
 simp only [Option.map_some, Option.some.injEq, exists_eq_left']
 by_cases h : fr q = true
 · simp [h, jn]
 · simp [h]
theorem link_gr {kind : Nat} {s0 s : St} (h : Gr kind s0 s) {fr to : Nat → Bool} (hf : ∀ q, fr q = true → s0.made.length ≤ q) : Gr kind s0 (linkF s fr to) := by
 refine ⟨h.made, fun q hq => ?_⟩
 rw [link_get, h.follow q hq]
 have : fr q = false := by
  cases hc : fr q with
  | false => rfl
  | true => have := hf q hc; omega
 simp [this]
/-- The automata of nothing. -/
def Au.void (e : Prop) : Au := ⟨fun _ => False, fun _ => False, fun _ => False, e, fun _ _ => False⟩
theorem void_wf (e : Prop) : (Au.void e).Wf := ⟨fun _ h => h, fun _ h => h, fun _ _ h _ => h⟩
theorem void_rd (e : Prop) (hd : Nat → Nat → Prop) (i j : Nat) : Rd (Au.void e) hd i j ↔ i = j ∧ e :=
 ⟨fun h => h.elim id fun ⟨_, _, h⟩ => h.elim, fun h => .inl h⟩
theorem void_is (s : St) (b : Nat) (hb : b ≤ s.made.length) : Is s b b .void (Au.void True) :=
 ⟨void_wf _, ⟨Nat.le_refl _, hb⟩, fun q => ⟨fun h => h.elim, fun h => by omega⟩, fun q => by simp [Au.void, Pt.void, none_], fun q => by simp [Au.void, Pt.void, none_], by simp [Au.void, Pt.void], fun q r h1 h2 => by omega⟩
theorem zero_is (s : St) (b : Nat) (hb : b ≤ s.made.length) : Is s b b .zero (Au.void False) :=
 ⟨void_wf _, ⟨Nat.le_refl _, hb⟩, fun q => ⟨fun h => h.elim, fun h => by omega⟩, fun q => by simp [Au.void, Pt.zero, none_], fun q => by simp [Au.void, Pt.zero, none_], by simp [Au.void, Pt.zero], fun q r h1 h2 => by omega⟩
/-- One behind the other. -/
theorem behind_is {kind : Nat} {s s1 : St} {b : Nat} {p q : Pt} {A B : Au} (hk : s1.follow.length = s1.made.length) (hA : Is s b s.made.length p A) (hg : Gr kind s s1) (hB : Is s1 s.made.length s1.made.length q B) :
 Is (behindF s1 p q).1 b s1.made.length (behindF s1 p q).2 (A.seq B) := by
 have hA' := hA.grow hg
 refine ⟨Au.seq_wf hA.wf hB.wf, ⟨Nat.le_trans hA.le.1 hB.le.1, Nat.le_refl _⟩, fun x => ?_, fun x => ?_, fun x => ?_, ?_, fun x r h1 h2 => ?_⟩
 · show A.dom x ∨ B.dom x ↔ _
   rw [hA.dom, hB.dom]
   have := hA.le.1
   have := hB.le.1
   omega
 · show A.fst x ∨ (A.emp ∧ B.fst x) ↔ (if p.empty then jn p.first q.first else p.first) x = true
   rw [hA.fst, hA.emp, hB.fst]
   cases p.empty <;> simp [jn]
 · show (B.emp ∧ A.lst x) ∨ B.lst x ↔ jn (if q.empty then p.last else none_) q.last x = true
   rw [hA.lst, hB.emp, hB.lst]
   cases q.empty <;> simp [jn, none_]
 · show A.emp ∧ B.emp ↔ (p.empty && q.empty) = true
   rw [hA.emp, hB.emp, Bool.and_eq_true]
 · show (A.dom x ∧ A.fl x r) ∨ (B.dom x ∧ B.fl x r) ∨ (A.lst x ∧ B.fst r) ↔ flS (linkF s1 p.last q.first) x r
   rw [link_fl hk _ _ h2, ← hA.lst, ← hB.fst]
   have hle := hB.le.1
   by_cases hx : x < s.made.length
   · rw [hA'.fl x r h1 hx, hA.dom, hB.dom]
     constructor
     · rintro (⟨_, h⟩ | ⟨h, _⟩ | h)
       · exact .inl h
       · omega
       · exact .inr h
     · rintro (h | h)
       · exact .inl ⟨⟨h1, hx⟩, h⟩
       · exact .inr (.inr h)
   · rw [hB.fl x r (by omega) h2, hA.dom, hB.dom]
     constructor
     · rintro (⟨h, _⟩ | ⟨_, h⟩ | h)
       · omega
       · exact .inl h
       · exact .inr h
     · rintro (h | h)
       · exact .inr (.inl ⟨⟨by omega, h2⟩, h⟩)
       · exact .inr (.inr h)
theorem apart_is {s s1 : St} {b : Nat} {p q : Pt} {A B : Au} (hA : Is s b s.made.length p A) (hB : Is s1 s.made.length s1.made.length q B) : ∀ x, A.dom x → B.dom x → False := fun x h1 h2 => by
 have := (hA.dom x).1 h1
 have := (hB.dom x).1 h2
 omega
end Go.Proofs.YtiinkhmgemoamaaDoor.Gl
