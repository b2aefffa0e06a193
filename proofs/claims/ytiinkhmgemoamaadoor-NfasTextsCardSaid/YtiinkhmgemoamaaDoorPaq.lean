/- What part makes of a node is just its texts. Pure. -/
import Derived.Test.YtiinkhmgemoamaaDoorPap
namespace Go.Proofs.YtiinkhmgemoamaaDoor.Gl
open Go Go.RowKit Nd Nu Nf
set_option maxRecDepth 100000

theorem alt_is {kind : Nat} {s s1 : St} {b : Nat} {p q : Pt} {A B : Au} (hA : Is s b s.made.length p A) (hg : Gr kind s s1) (hB : Is s1 s.made.length s1.made.length q B) :
 Is s1 b s1.made.length ⟨jn p.first q.first, jn p.last q.last, p.empty || q.empty⟩ (A.alt B) := by
 have hA' := hA.grow hg
 refine ⟨Au.alt_wf hA.wf hB.wf, ⟨Nat.le_trans hA.le.1 hB.le.1, Nat.le_refl _⟩, fun x => ?_, fun x => ?_, fun x => ?_, ?_, fun x r h1 h2 => ?_⟩
 · show A.dom x ∨ B.dom x ↔ _
   rw [hA.dom, hB.dom]
   have := hA.le.1
   have := hB.le.1
   omega
 · show A.fst x ∨ B.fst x ↔ jn p.first q.first x = true
   rw [hA.fst, hB.fst]
   simp [jn]
 · show A.lst x ∨ B.lst x ↔ jn p.last q.last x = true
   rw [hA.lst, hB.lst]
   simp [jn]
 · show A.emp ∨ B.emp ↔ (p.empty || q.empty) = true
   rw [hA.emp, hB.emp, Bool.or_eq_true]
 · show (A.dom x ∧ A.fl x r) ∨ (B.dom x ∧ B.fl x r) ↔ flS s1 x r
   have hle := hB.le.1
   by_cases hx : x < s.made.length
   · rw [hA'.fl x r h1 hx, hA.dom, hB.dom]
     constructor
     · rintro (⟨_, h⟩ | ⟨h, _⟩)
       · exact h
       · omega
     · exact fun h => .inl ⟨⟨h1, hx⟩, h⟩
   · rw [hB.fl x r (by omega) h2, hA.dom, hB.dom]
     constructor
     · rintro (⟨h, _⟩ | ⟨_, h⟩)
       · omega
       · exact h
     · exact fun h => .inr ⟨⟨by omega, h2⟩, h⟩
theorem row_tells {α : Type} {kind : Nat} {l : List Int} {pt : St → α → St × Pt} {R : α → Nat → Nat → Prop} (hok : ∀ s n, Ok s → Stp s (pt s n)) (hpt : ∀ s n, Ok s → (pt s n).1.over = false → Tells kind l (R n) s (pt s n)) :
 ∀ (ns : List α) (s0 s : St) (p : Pt) (A : Au) (D : Nat → Nat → Prop), Ok s → Pok s.made.length p → Gr kind s0 s → Is s s0.made.length s.made.length p A → (∀ i j, Rd A (hdS s.made l) i j ↔ D i j) → (rowF pt s p ns).1.over = false →
  Tells kind l (fun i j => ∃ k, D i k ∧ rowD R ns k j) s0 (rowF pt s p ns)
 | [], s0, s, p, A, D, _, _, hg, hA, hD, _ => by
  refine ⟨hg, A, hA, fun i j => ?_⟩
  rw [show (rowF pt s p []) = (s, p) from rfl, hD]
  exact ⟨fun h => ⟨j, h, rfl⟩, fun ⟨k, h, e⟩ => by cases e; exact h⟩
 | n :: ns, s0, s, p, A, D, hs, hp, hg, hA, hD, ho => by
  have h1 := hok s n hs
  have h2 := hpt s n hs
  unfold rowF at ho ⊢
  generalize pt s n = x at *
  obtain ⟨s1, q⟩ := x
  obtain ⟨hs1, hle, hq⟩ := h1
  dsimp only at ho ⊢ hs1 hle hq h2
  by_cases hov1 : s1.over = true
  · rw [if_pos hov1] at ho
    exact absurd (hov1.symm.trans ho) (by decide)
  · rw [if_neg hov1] at ho ⊢
    have hov : s1.over = false := by simpa using hov1
    obtain ⟨hg1, B, hB, hBR⟩ := h2 hov
    have hok2 := behindF_ok hs1 (hp.mono hle) hq
    have hIs := behind_is hs1.len hA hg1 hB
    have hg2 : Gr kind s0 (behindF s1 p q).1 := link_gr (hg.trans hg1) (fun x hx => ((hA.dom x).1 (hA.wf.lst x ((hA.lst x).2 hx))).1)
    have hr := row_tells hok hpt ns s0 (behindF s1 p q).1 (behindF s1 p q).2 (A.seq B) (fun i j => ∃ k, D i k ∧ R n k j) hok2.1 hok2.2.2 hg2 hIs (fun i j => by
     show Rd (A.seq B) (hdS s1.made l) i j ↔ _
     rw [rd_seq hA.wf hB.wf (apart_is hA hB)]
     constructor
     · rintro ⟨k, h, h'⟩
       exact ⟨k, (hD i k).1 ((hA.rd hg1 l i k).1 h), (hBR k j).1 h'⟩
     · rintro ⟨k, h, h'⟩
       exact ⟨k, (hA.rd hg1 l i k).2 ((hD i k).2 h), (hBR k j).2 h'⟩) ho
    obtain ⟨r1, A', r2, r3⟩ := hr
    refine ⟨r1, A', r2, fun i j => (r3 i j).trans ?_⟩
    constructor
    · rintro ⟨k, ⟨m, h, h'⟩, h''⟩
      exact ⟨m, h, k, h', h''⟩
    · rintro ⟨m, h, k, h', h''⟩
      exact ⟨k, ⟨m, h, h'⟩, h''⟩
theorem choice_tells {α : Type} {kind : Nat} {l : List Int} {pt : St → α → St × Pt} {R : α → Nat → Nat → Prop} (hok : ∀ s n, Ok s → Stp s (pt s n)) (hpt : ∀ s n, Ok s → (pt s n).1.over = false → Tells kind l (R n) s (pt s n)) :
 ∀ (ns : List α) (s0 s : St) (p : Pt) (A : Au) (D : Nat → Nat → Prop), Ok s → Gr kind s0 s → Is s s0.made.length s.made.length p A → (∀ i j, Rd A (hdS s.made l) i j ↔ D i j) → (choiceF pt s p ns).1.over = false →
  Tells kind l (fun i j => D i j ∨ altD R ns i j) s0 (choiceF pt s p ns)
 | [], s0, s, p, A, D, _, hg, hA, hD, _ => by
  refine ⟨hg, A, hA, fun i j => ?_⟩
  rw [show (choiceF pt s p []) = (s, p) from rfl, hD]
  exact ⟨fun h => .inl h, fun h => h.elim id fun ⟨n, hn, _⟩ => by cases hn⟩
 | n :: ns, s0, s, p, A, D, hs, hg, hA, hD, ho => by
  have h1 := hok s n hs
  have h2 := hpt s n hs
  unfold choiceF at ho ⊢
  generalize pt s n = x at *
  obtain ⟨s1, q⟩ := x
  obtain ⟨hs1, hle, hq⟩ := h1
  dsimp only at ho ⊢ hs1 hle hq h2
  by_cases hov1 : s1.over = true
  · rw [if_pos hov1] at ho
    exact absurd (hov1.symm.trans ho) (by decide)
  · rw [if_neg hov1] at ho ⊢
    have hov : s1.over = false := by simpa using hov1
    obtain ⟨hg1, B, hB, hBR⟩ := h2 hov
    obtain ⟨r1, A', r2, r3⟩ := choice_tells hok hpt ns s0 s1 _ (A.alt B) (fun i j => D i j ∨ R n i j) hs1 (hg.trans hg1) (alt_is hA hg1 hB) (fun i j => by
     rw [rd_alt hA.wf hB.wf (apart_is hA hB), hA.rd hg1 l i j, hD, hBR]) ho
    refine ⟨r1, A', r2, fun i j => (r3 i j).trans ?_⟩
    constructor
    · rintro ((h | h) | ⟨m, hm, h⟩)
      · exact .inl h
      · exact .inr ⟨n, List.mem_cons_self, h⟩
      · exact .inr ⟨m, List.mem_cons_of_mem _ hm, h⟩
    · rintro (h | ⟨m, hm, h⟩)
      · exact .inl (.inl h)
      · rcases List.mem_cons.1 hm with rfl | hm
        · exact .inl (.inr h)
        · exact .inr ⟨m, hm, h⟩
/-- One place. -/
def Au.place (k : Nat) : Au := ⟨fun q => q = k, fun q => q = k, fun q => q = k, False, fun _ _ => False⟩
theorem place_tells {kind : Nat} {l : List Int} {s : St} (hk : s.follow.length = s.made.length) (set : List (Int × Int)) (ho : (placeF kind s set).1.over = false) : Tells kind l (stepD l set) s (placeF kind s set) := by
 unfold placeF at ho ⊢
 split at ho
 · cases ho
 · rename_i hc
   rw [if_neg hc]
   have hm : (s.made ++ [(set, kind)])[s.made.length]? = some (set, kind) := by simp
   refine ⟨⟨⟨[(set, kind)], rfl, by simp⟩, fun q hq => by
    show (s.follow ++ [none_])[q]? = _
    rw [List.getElem?_append_left (by omega)]⟩, Au.place s.made.length, ⟨⟨fun _ h => h, fun _ h => h, fun _ _ _ h => h.elim⟩, ⟨by simp, Nat.le_refl _⟩, fun q => ?_, fun q => ?_, fun q => ?_, by simp [Au.place], fun q r h1 h2 => ?_⟩, fun i j => ?_⟩
   · show q = s.made.length ↔ _
     simp
     omega
   · simp [Au.place, ad, none_]
   · simp [Au.place, ad, none_]
   · obtain rfl : q = s.made.length := by simp at h2; omega
     refine ⟨fun h => h.elim, ?_⟩
     rintro ⟨S, hS, hr⟩
     rw [← hk] at hS
     simp at hS
     rw [← hS] at hr
     cases hr
   · have hw : ∀ i j q, Way (Au.place s.made.length) (hdS (s.made ++ [(set, kind)]) l) i j q → stepD l set i j := fun i j q w => by
      cases w with
      | one h1 h2 =>
       obtain ⟨m, r, h3, h4, h5⟩ := h2
       cases h1
       rw [hm] at h3
       injection h3 with h3
       subst h3
       exact ⟨rfl, r, h4, h5⟩
      | more _ h _ => exact h.elim
     constructor
     · rintro (⟨_, h⟩ | ⟨q, w, _⟩)
       · exact h.elim
       · exact hw _ _ _ w
     · rintro ⟨rfl, r, h1, h2⟩
       exact .inr ⟨s.made.length, .one rfl ⟨_, r, hm, h1, h2⟩, rfl⟩
theorem loop_is {s : St} {b : Nat} {p : Pt} {A : Au} (hk : s.follow.length = s.made.length) (hA : Is s b s.made.length p A) : Is (linkF s p.last p.first) b s.made.length p A.loop :=
 ⟨Au.loop_wf hA.wf, hA.le, hA.dom, hA.fst, hA.lst, hA.emp, fun q r h1 h2 => by
  show A.fl q r ∨ (A.lst q ∧ A.fst r) ↔ _
  rw [link_fl hk _ _ h2, hA.fl q r h1 h2, hA.lst, hA.fst]⟩
theorem opt_is {s : St} {b e : Nat} {p : Pt} {A : Au} (hA : Is s b e p A) : Is s b e { p with empty := true } A.opt :=
 ⟨Au.opt_wf hA.wf, hA.le, hA.dom, hA.fst, hA.lst, ⟨fun _ => rfl, fun _ => trivial⟩, hA.fl⟩
theorem Ch.congr {R S : Nat → Nat → Prop} (h : ∀ i j, R i j ↔ S i j) (i j : Nat) : Ch R i j ↔ Ch S i j := by
 have : R = S := by funext i j; exact propext (h i j)
 rw [this]
/-- What part does once it has counted the node. -/
def partB (fd : ByteArray → Option T) (rns : ByteArray → List Int) (kind F : Nat) (s1 : St) (n : T) : St × Pt :=
 if s1.over then (s1, .zero) else
 if n.kind = 1 then rowF (partF fd rns kind F) s1 .void n.subs
 else if n.kind = 0 then choiceF (partF fd rns kind F) s1 .zero n.subs
 else if n.kind = 2 ∨ n.kind = 3 ∨ n.kind = 4 then
  let (s2, p) := match n.subs with | [] => (s1, Pt.zero) | m :: _ => partF fd rns kind F s1 m
  let s3 := if n.kind = 2 then s2 else linkF s2 p.last p.first
  (s3, if n.kind = 4 then p else { p with empty := true })
 else if n.kind = 6 then match fd n.name with | some b => partF fd rns kind F s1 b | none => (s1, .void)
 else if n.kind = 8 then rowF (fun s r => placeF kind s [(r, r)]) s1 .void (rns n.text)
 else if n.kind = 9 then placeF kind s1 n.set
 else (s1, .void)
theorem part_eq (fd : ByteArray → Option T) (rns : ByteArray → List Int) (kind F : Nat) (s : St) (n : T) : partF fd rns kind (F + 1) s n = partB fd rns kind F { s with nodes := s.nodes + 1, over := s.over || decide (65536 < s.nodes + 1) } n := by rw [partF]; rfl
theorem part_tells (fd : ByteArray → Option T) (rns : ByteArray → List Int) (kind : Nat) (l : List Int) : ∀ (F : Nat) (s : St) (n : T), Ok s → (partF fd rns kind F s n).1.over = false → Tells kind l (den fd rns l F n) s (partF fd rns kind F s n)
 | 0, s, n, _, h => by cases h
 | F + 1, s, n, hs, h => by
  have ih := part_tells fd rns kind l F
  have iho := fun s n => partF_ok fd rns kind F s n
  rw [part_eq] at h ⊢
  unfold den
  obtain ⟨s1, hs1⟩ : ∃ s1 : St, ({ s with nodes := s.nodes + 1, over := s.over || decide (65536 < s.nodes + 1) } : St) = s1 := ⟨_, rfl⟩
  have hm : s1.made = s.made := by rw [← hs1]
  have hf : s1.follow = s.follow := by rw [← hs1]
  have hok : Ok s1 := ⟨by rw [hm, hf]; exact hs.len, by rw [hm, hf]; exact hs.bd, by rw [hm]; exact hs.cap⟩
  have hgr : Gr kind s s1 := ⟨⟨[], by rw [hm]; simp, by simp⟩, fun q _ => by rw [hf]⟩
  have back : ∀ R x, Tells kind l R s1 x → Tells kind l R s x := fun R x ⟨h1, A, h2, h3⟩ => ⟨hgr.trans h1, A, by rw [hm] at h2; exact h2, h3⟩
  have hv : Tells kind l (fun i j => i = j) s1 (s1, Pt.void) := ⟨Gr.refl _ _, _, void_is s1 _ (Nat.le_refl _), fun i j => by rw [void_rd]; simp⟩
  rw [hs1] at h ⊢
  unfold partB at h ⊢
  by_cases hov : s1.over = true
  · rw [if_pos hov] at h
    exact absurd (hov.symm.trans h) (by decide)
  · rw [if_neg hov] at h ⊢
    by_cases k1 : n.kind = 1
    · rw [if_pos k1] at h ⊢
      rw [if_pos k1]
      refine back _ _ ?_
      obtain ⟨h1, A, h2, h3⟩ := row_tells iho ih n.subs s1 s1 .void (Au.void True) (fun i j => i = j) hok (Pok.void _) (Gr.refl _ _) (void_is s1 _ (Nat.le_refl _)) (fun i j => by rw [void_rd]; simp) h
      exact ⟨h1, A, h2, fun i j => (h3 i j).trans ⟨fun ⟨k, e, h⟩ => by cases e; exact h, fun h => ⟨i, rfl, h⟩⟩⟩
    · rw [if_neg k1] at h ⊢
      rw [if_neg k1]
      by_cases k0 : n.kind = 0
      · rw [if_pos k0] at h ⊢
        rw [if_pos k0]
        refine back _ _ ?_
        obtain ⟨h1, A, h2, h3⟩ := choice_tells iho ih n.subs s1 s1 .zero (Au.void False) (fun _ _ => False) hok (Gr.refl _ _) (zero_is s1 _ (Nat.le_refl _)) (fun i j => by rw [void_rd]; simp) h
        exact ⟨h1, A, h2, fun i j => (h3 i j).trans ⟨fun h => h.elim False.elim id, fun h => .inr h⟩⟩
      · rw [if_neg k0] at h ⊢
        rw [if_neg k0]
        by_cases k2 : n.kind = 2 ∨ n.kind = 3 ∨ n.kind = 4
        · rw [if_pos k2] at h ⊢
          rw [if_pos k2]
          refine back _ _ ?_
          obtain ⟨x, R, hx, hR, hx1, hx2⟩ : ∃ (x : St × Pt) (R : Nat → Nat → Prop), (match n.subs with | [] => (s1, Pt.zero) | m :: _ => partF fd rns kind F s1 m) = x ∧ headD (den fd rns l F) n.subs = R ∧ Stp s1 x ∧ (x.1.over = false → Tells kind l R s1 x) := by
           cases n.subs with
           | nil => exact ⟨_, _, rfl, rfl, ⟨hok, Nat.le_refl _, Pok.zero _⟩, fun _ => ⟨Gr.refl _ _, _, zero_is s1 _ (Nat.le_refl _), fun i j => by rw [void_rd]; simp [headD]⟩⟩
           | cons m b => exact ⟨_, _, rfl, rfl, iho s1 m hok, ih s1 m hok⟩
          rw [hx] at h ⊢
          rw [hR]
          obtain ⟨s2, p⟩ := x
          dsimp only at h ⊢
          obtain ⟨hok2, hle2, hp2⟩ := hx1
          dsimp only at hok2 hle2 hp2
          by_cases q2 : n.kind = 2
          · rw [if_pos q2] at h ⊢
            rw [if_pos q2, if_neg (by rw [q2]; decide)]
            obtain ⟨h1, A, h2, h3⟩ := hx2 h
            exact ⟨h1, A.opt, opt_is h2, fun i j => by rw [rd_opt]; exact ⟨fun h => h.imp id (h3 i j).1, fun h => h.imp id (h3 i j).2⟩⟩
          · rw [if_neg q2] at h ⊢
            rw [if_neg q2]
            obtain ⟨h1, A, h2, h3⟩ := hx2 h
            have hl : Gr kind s1 (linkF s2 p.last p.first) := link_gr h1 (fun q hq => ((h2.dom q).1 (h2.wf.lst q ((h2.lst q).2 hq))).1)
            have hr : ∀ i j, Rd A.loop (hdS (linkF s2 p.last p.first).made l) i j ↔ Ch R i j := fun i j => by
             show Rd A.loop (hdS s2.made l) i j ↔ _
             rw [rd_loop]
             exact Ch.congr h3 i j
            by_cases q4 : n.kind = 4
            · rw [if_pos q4, if_pos q4]
              exact ⟨hl, A.loop, loop_is hok2.len h2, hr⟩
            · rw [if_neg q4, if_neg q4]
              exact ⟨hl, A.loop.opt, opt_is (loop_is hok2.len h2), fun i j => by rw [rd_opt]; exact ⟨fun h => h.imp id (hr i j).1, fun h => h.imp id (hr i j).2⟩⟩
        · rw [if_neg k2] at h ⊢
          rw [if_neg k2]
          by_cases k6 : n.kind = 6
          · rw [if_pos k6] at h ⊢
            rw [if_pos k6]
            refine back _ _ ?_
            cases hfd : fd n.name with
            | none => rw [hfd] at h; exact hv
            | some b =>
             rw [hfd] at h
             exact ih s1 b hok h
          · rw [if_neg k6] at h ⊢
            rw [if_neg k6]
            by_cases k8 : n.kind = 8
            · rw [if_pos k8] at h ⊢
              rw [if_pos k8]
              refine back _ _ ?_
              obtain ⟨h1, A, h2, h3⟩ := row_tells (kind := kind) (l := l) (pt := fun s r => placeF kind s [(r, r)]) (R := fun r => stepD l [(r, r)]) (fun s r hs => placeF_ok kind hs _) (fun s r hs h => place_tells hs.len _ h) (rns n.text) s1 s1 .void (Au.void True) (fun i j => i = j) hok (Pok.void _) (Gr.refl _ _) (void_is s1 _ (Nat.le_refl _)) (fun i j => by rw [void_rd]; simp) h
              exact ⟨h1, A, h2, fun i j => (h3 i j).trans ⟨fun ⟨k, e, h⟩ => by cases e; exact h, fun h => ⟨i, rfl, h⟩⟩⟩
            · rw [if_neg k8] at h ⊢
              rw [if_neg k8]
              by_cases k9 : n.kind = 9
              · rw [if_pos k9] at h ⊢
                rw [if_pos k9]
                exact back _ _ (place_tells hok.len _ h)
              · rw [if_neg k9] at h ⊢
                rw [if_neg k9]
                exact back _ _ hv
end Go.Proofs.YtiinkhmgemoamaaDoor.Gl
