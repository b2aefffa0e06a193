/- The contract of loops: what it tells of a node's loops, and the node that it hands back. -/
import Derived.Test.YtiinkhmgemoamaaDoorPan
import Derived.Test.YtiinkhmgemoamaaDoorPae
import Derived.Deep.RegionHeld3
import Derived.Deep.CutBlock
import Derived.IntWalk
import Derived.Deep.DeepCutAuto
import Derived.Test.YtiinkhmgemoamaaDoorPz
namespace Go.Proofs.YtiinkhmgemoamaaDoor
open Go Go.RowKit Ck
attribute [local go_sem] Oper.semAt_some
set_option maxRecDepth 100000

/-- What loops makes of a node. -/
def LoopsOk (n₀ cp : Nat) (cv : CkV) (i : Nat) (nm : ByteArray) (sh : Value) (e : Nd.T → Bool) (W0 : World) (t : Nd.T) : Prop :=
 Nd.deep t ≤ 100000 → Nd.count t ≤ 1000000 → ∀ (P : Nat → Prop) (v : Value) (W : World) (L : List Pr), Tl n₀ W0 W → AtX P W t v → (∀ k, P k → Fx n₀ W k) → CkI n₀ cp cv L W → L.length + lpN e t ≤ 500000 →
  Calls Tryd.prog 62 #[.pointer (some ⟨cp, 0, none⟩), .int .i64 i, sh, v] W fun e' W' => (∃ v', e' = .returned v' ∧ AtX (fun k => P k ∨ (W.heap.size ≤ k ∧ Fx n₀ W' k)) W' (lpT e t) v') ∧ CkI n₀ cp cv (L ++ List.replicate (lpN e t) ⟨6, (i : Int), nm⟩) W' ∧ Tl n₀ W W'
theorem rep_add (a b : Nat) (x : Pr) (L : List Pr) : (L ++ List.replicate a x) ++ List.replicate b x = L ++ List.replicate (a + b) x := by rw [List.append_assoc, List.replicate_append_replicate]
set_option maxHeartbeats 8000000 in
theorem loops_any (n₀ cp : Nat) (cv : CkV) (i : Nat) (nm : ByteArray) (s0 : ByteArray) (so1 so2 : Int) (sra : Option Addr) (sn sc : Nat) (e : Nd.T → Bool) (W0 : World) (hn : n₀ ≤ W0.heap.size)
 (hMay : ∀ (X : World) (t : Nd.T) (v : Value), Tl n₀ W0 X → Nd.At X t v → Nd.deep t ≤ 100000 ∧ Nd.count t ≤ 1000000 → Calls Tryd.prog 74 #[.agg #[.string s0, .int .i64 so1, .int .i64 so2, .slice sra sn sc], .int .i64 (sn - 1 : Int), v] X fun e' w' => e' = .returned (.bool (e t)) ∧ Below X.heap.size X w')
 (hSt : ∀ (b : Bool) (w : World), Calls Tryd.prog 75 #[.bool b] w fun e w' => e = .returned (.agg #[.int .u8 (if b then 1 else 0), .string ⟨#[]⟩, .string ⟨#[]⟩, .slice none 0 0, .slice none 0 0]) ∧ Below w.heap.size w w')
 (hsn : 0 < sn ∧ sn ≤ 1000000) (hnm : nm.size ≤ 140737488351232) (cb co : Nat) (hra : cv.ra = some ⟨cb, co, none⟩) (hi : i < cv.rn ∧ cv.rn ≤ 1000000) (hNm : ∀ X, Tl n₀ W0 X → X.cell? ⟨cb, co + i * 10, none⟩ = some (.string nm)) :
 ∀ t : Nd.T, LoopsOk n₀ cp cv i nm (.agg #[.string s0, .int .i64 so1, .int .i64 so2, .slice sra sn sc]) e W0 t := by
 intro t
 induction t using Nd.T.ind with | _ k xn xt st sb ih => ?_
 intro hdp hct P₀ v W L hT hA hP₀ hI hLn
 have hnW : n₀ ≤ W.heap.size := Nat.le_trans hn hT.1.size
 have hA0 := hA.small
 have hP : ∀ k, (P₀ k ∧ k < W.heap.size) → Fx n₀ W k ∧ k < W.heap.size := fun k hk => ⟨hP₀ k hk.1, hk.2⟩
 obtain ⟨P, hPe⟩ : ∃ P, (fun b => P₀ b ∧ b < W.heap.size) = P := ⟨_, rfl⟩
 rw [hPe] at hA0
 have hP' : ∀ k, P k → Fx n₀ W k ∧ k < W.heap.size := by subst hPe; exact hP
 have hP0 : ∀ k, P k → P₀ k := by subst hPe; exact fun k hk => hk.1
 unfold AtX at hA0
 obtain ⟨sa, sc', ba, bc, rfl, hk, hxn, hxt, hsc, hbc, hRg, hSb⟩ := hA0
 have hdL : Nd.deepL sb + 1 ≤ 100000 := by simp only [Nd.deep] at hdp; omega
 have hcL : Nd.countL sb + 1 ≤ 1000000 := by simp only [Nd.count] at hct; omega
 have hsbl : sb.length ≤ 1000000 := by
  have key : ∀ l : List Nd.T, l.length ≤ Nd.countL l := by
   intro l
   induction l with
   | nil => simp [Nd.countL]
   | cons q r ih => have := Nd.count_pos q; simp only [List.length_cons, Nd.countL]; omega
  have := key sb
  omega
 have hSb1 : ∀ X, Below W.heap.size W X → AtLX P X sb ba := fun X h => AtLX.keep (fun _ h => h) (Stay.below h) sb hSb
 have CL := Lib.hid (fun (X : World) (h : Below W.heap.size W X) => CloneN_any P sb ba bc X (hSb1 X h) ⟨hbc.1, hsbl⟩)
 obtain ⟨SL, hSL⟩ : ∃ k, st.length = k := ⟨_, rfl⟩
 obtain ⟨SN, hSN⟩ : ∃ k, sb.length = k := ⟨_, rfl⟩
 have HSL := Lib.hid hSL
 have HSN := Lib.hid hSN
 have HC := Lib.hid (And.intro hk (And.intro hxn (And.intro hxt (And.intro hsc (And.intro hRg hdL)))))
 have HCL := Lib.hid hcL
 rw [hSL, hSN]
 rw [hSN] at CL hbc hsbl
 have n1 : (SN : Int) ≤ 9223372036854775807 := by omega
 have HMay := Lib.hid hMay
 have HSt := Lib.hid hSt
 have HNm := Lib.hid hNm
 have HI := Lib.hid hI
 have HT := Lib.hid hT
 have HP := Lib.hid hP'
 have HP0 := Lib.hid hP0
 have HIH := Lib.hid ih
 have HLn := Lib.hid hLn
 have HRA := Lib.hid hra
 have HHI := Lib.hid (And.intro hi (And.intro hnm (And.intro hsn hnW)))
 have hKN := ((Bk.made (W.alloc (.cells #[.string s0, .int .i64 so1, .int .i64 so2, .slice sra sn sc] 26)) 34 #[.int .u8 k, .string xn, .string xt, .slice sa SL sc', .slice ba SN bc]).alloc (.cells #[.int .u8 0, .string ⟨#[]⟩, .string ⟨#[]⟩, .slice none 0 0, .slice none 0 0] 34))
 rw [World.size_alloc] at hKN
 have a0 := hKN.cell 0
 have a4 := hKN.cell 4
 have HKN := Lib.hid hKN
 have HB1 := Lib.hid ((((Below.refl _ W).alloc (Nat.le_refl _) (.cells #[.string s0, .int .i64 so1, .int .i64 so2, .slice sra sn sc] 26)).alloc (by simp) (.cells #[.int .u8 k, .string xn, .string xt, .slice sa SL sc', .slice ba SN bc] 34)).alloc (by simp; omega) (.cells #[.int .u8 0, .string ⟨#[]⟩, .string ⟨#[]⟩, .slice none 0 0, .slice none 0 0] 34))
 simp at a0 a4
 clear hMay hSt hNm hI hT hP hP' hP0 hP₀ ih hLn hra hnm hA hPe hRg hSb hSb1 hk hxn hxt hsc hSL hSN hKN hdp hct hnW hn hcL hdL
 by_cases hk3 : k = 3
 · have q3 : (k == 3) = true := by rw [hk3]; rfl
   have hk4 : True := trivial
   have hlp : isLoop k = true := by unfold isLoop; first | exact decide_eq_true (by omega) | exact decide_eq_false (by omega)
   have HLP := Lib.hid hlp
   clear hlp hk3 hk4
   go_enter Tryd.func62, Tryd.ntmps62
   go_wp2_with fail
   refine (CL.out _ HB1.out).mono ?_
   rintro e' w2 ⟨⟨ba', bc', rfl, hbc', hrow⟩, hb⟩
   have hK2 := HKN.out.below hb HKN.out.lt
   have c4 := hK2.cell 4
   have f4 := hK2.free 4
   simp at c4
   have HL0 := Lib.hid (show Ck.LI n₀ cp cv P W #[.string s0, .int .i64 so1, .int .i64 so2, .slice sra sn sc] #[.int .u8 k, .string xn, .string xt, .slice sa SL sc', .slice ba' SN bc'] ba' (lpS e true sb 0) (L ++ List.replicate (lpK e true sb 0) ⟨6, (i : Int), nm⟩) (w2.setCell ⟨W.heap.size + 1, 4, none⟩ (.slice ba' SN bc')) from by
    rw [lpS_start, lpK_start]
    have := LI.start (ba := ba') (ts := sb) (g5 := #[.string s0, .int .i64 so1, .int .i64 so2, .slice sra sn sc]) (n5 := #[.int .u8 k, .string xn, .string xt, .slice sa SL sc', .slice ba SN bc]) HI.out HHI.out.2.2.2 HP.out (.slice ba' SN bc') hb (hrow.imp id fun ⟨nb, h1, h2, h3⟩ => ⟨nb, h1, by simp at h2; omega, h3⟩)
    simpa using this)
   have hgo : (w2.setCell ⟨W.heap.size + 1, 4, none⟩ (.slice ba' SN bc')).cell? ⟨W.heap.size + 1, 4, none⟩ = some (.slice ba' SN bc') := by have := HL0.out.n.cell 4; simpa using this
   clear hb hrow hK2 a0 a4
   have HBC := Lib.hid hbc'
   clear hbc'
   go_wp2_with fail
   go_loopw [28] (fun j wr => ∃ p, p ≤ SN ∧ j = .int .i64 p ∧ Hid (Ck.LI n₀ cp cv P W #[.string s0, .int .i64 so1, .int .i64 so2, .slice sra sn sc] #[.int .u8 k, .string xn, .string xt, .slice sa SL sc', .slice ba' SN bc'] ba' (lpS e true sb p) (L ++ List.replicate (lpK e true sb p) ⟨6, (i : Int), nm⟩) wr)) (fun j _ => SN - (intOf j).toNat)
   case atStart => exact ⟨0, Nat.zero_le _, rfl, HL0⟩
   case round =>
    obtain ⟨p, hp, rfl, hLI⟩ := hrel
    have k4 : wr.cell? ⟨W.heap.size + 1, 4, none⟩ = some (.slice ba' SN bc') := by have := hLI.out.n.cell 4; simpa using this
    by_cases hlt : p < SN
    · have p0 : (p : Int) < (SN : Int) := by omega
      have d0 : decide (p < SN) = true := by rw [decide_eq_true_iff]; exact hlt
      obtain ⟨s, hs⟩ : ∃ s, sb[p]? = some s := ⟨_, List.getElem?_eq_getElem (by rw [HSN.out]; exact hlt)⟩
      obtain ⟨nb, rfl⟩ : ∃ nb, ba' = some ⟨nb, 0, none⟩ := by
       rcases hLI.out.row with ⟨_, h2⟩ | ⟨nb, h1, _⟩
       · have := lpS_len e true sb p; rw [h2, HSN.out] at this; simp at this; omega
       · exact ⟨nb, h1⟩
      obtain ⟨hnb1, hnb2, _, sa1, sc1, ba1, bc1, ⟨e0, e1, e2, e3, e4⟩, hAs⟩ := hLI.out.sub (lpS_at (e := e) (lp := true) hs)
      have hss := deep_sub hs
      have hks := lpK_more (e := e) (lp := true) hs
      have hkm : lpK e true sb (p + 1) ≤ lpN e (.mk k xn xt st sb) := by
       rw [← lpK_end e k xn xt st sb, HLP.out]
       unfold lpK
       rw [List.take_length]
       exact lpNL_mono e true sb (p + 1) true
      have HX1 := Lib.hid (hLI.out.below (X' := wr.alloc (.cells #[.int .u8 s.kind, .string s.name, .string s.text, .slice sa1 s.set.length sc1, .slice ba1 s.subs.length bc1] 34)) ((Below.refl _ _).alloc (Nat.le_refl _) _))
      have HSB := Lib.hid (Bk.made wr 34 #[.int .u8 s.kind, .string s.name, .string s.text, .slice sa1 s.set.length sc1, .slice ba1 s.subs.length bc1])
      have hT1 : Tl n₀ wr (wr.alloc (.cells #[.int .u8 s.kind, .string s.name, .string s.text, .slice sa1 s.set.length sc1, .slice ba1 s.subs.length bc1] 34)) := Tl.below (Nat.le_trans hLI.out.le hLI.out.t.1.size) ((Below.refl _ _).alloc (Nat.le_refl _) _)
      have hA1 : AtX (fun k => P k ∨ (nb < k ∧ Fx n₀ (wr.alloc (.cells #[.int .u8 s.kind, .string s.name, .string s.text, .slice sa1 s.set.length sc1, .slice ba1 s.subs.length bc1] 34)) k)) (wr.alloc (.cells #[.int .u8 s.kind, .string s.name, .string s.text, .slice sa1 s.set.length sc1, .slice ba1 s.subs.length bc1] 34)) s (.agg #[.int .u8 s.kind, .string s.name, .string s.text, .slice sa1 s.set.length sc1, .slice ba1 s.subs.length bc1]) :=
       AtX.wide (fun k hk => hk.imp id fun hk => ⟨hk.1, hk.2.tl hT1⟩) (hAs.tl hT1 fun k hk => hk.elim (fun hk => ((HP.out k hk).1).tl hLI.out.t) fun hk => hk.2)
      have CA := Lib.hid (fun (wx : World) (h : Below (wr.alloc (.cells #[.int .u8 s.kind, .string s.name, .string s.text, .slice sa1 s.set.length sc1, .slice ba1 s.subs.length bc1] 34)).heap.size (wr.alloc (.cells #[.int .u8 s.kind, .string s.name, .string s.text, .slice sa1 s.set.length sc1, .slice ba1 s.subs.length bc1] 34)) wx) =>
       ((HIH.out s (List.mem_of_getElem? hs)) (by have := HC.out.2.2.2.2.2; omega) (by have := HCL.out; omega) (fun k => P k ∨ (nb < k ∧ Fx n₀ wx k)) (.agg #[.int .u8 s.kind, .string s.name, .string s.text, .slice sa1 s.set.length sc1, .slice ba1 s.subs.length bc1]) wx (L ++ List.replicate (lpK e true sb p) ⟨6, (i : Int), nm⟩)
        (HT.out.trans (HX1.out.t.trans (Tl.below (Nat.le_trans HX1.out.le HX1.out.t.1.size) h)))
        (AtX.wide (fun k hk => hk.imp id fun hk => ⟨hk.1, hk.2.tl (Tl.below (Nat.le_trans HX1.out.le HX1.out.t.1.size) h)⟩) (hA1.tl (Tl.below (Nat.le_trans HX1.out.le HX1.out.t.1.size) h) fun k hk => hk.elim (fun hk => ((HP.out k hk).1).tl HX1.out.t) fun hk => hk.2))
        (fun k hk => hk.elim (fun hk => (((HP.out k hk).1).tl HX1.out.t).tl (Tl.below (Nat.le_trans HX1.out.le HX1.out.t.1.size) h)) fun hk => hk.2)
        (HX1.out.i.below h) (by rw [List.length_append, List.length_replicate]; have := HLn.out; omega)).mono (R' := fun e' w3 => ∃ u0 u1 u2 u3 u4 u5 u6, e' = .returned (.agg #[.int .u8 u0, .string u1, .string u2, .slice u3 u4 u5, u6]) ∧ (∃ q1 q2 q3, u6 = .slice q1 q2 q3) ∧
         AtX (fun k => P k ∨ (nb < k ∧ Fx n₀ w3 k)) w3 (lpT e s) (.agg #[.int .u8 u0, .string u1, .string u2, .slice u3 u4 u5, u6]) ∧ CkI n₀ cp cv (L ++ List.replicate (lpK e true sb p + lpN e s) ⟨6, (i : Int), nm⟩) w3 ∧ Tl n₀ (wr.alloc (.cells #[.int .u8 s.kind, .string s.name, .string s.text, .slice sa1 s.set.length sc1, .slice ba1 s.subs.length bc1] 34)) w3) fun e' w3 ⟨⟨v', h1, h2⟩, h3, h4⟩ => by
        obtain ⟨x1, x2, x3, x4, rfl⟩ := h2.five
        refine ⟨_, _, _, _, _, _, _, h1, ⟨_, _, _, rfl⟩, AtX.wide (fun k hk => ?_) h2, by rw [← rep_add]; exact h3, (Tl.below (Nat.le_trans HX1.out.le HX1.out.t.1.size) h).trans h4⟩
        rcases hk with hk | hk
        · exact hk.imp id fun hk => ⟨hk.1, hk.2.tl h4⟩
        · exact .inr ⟨by have := h.size; simp at this; omega, hk.2⟩)
      have hx4 : (wr.alloc (.cells #[.int .u8 s.kind, .string s.name, .string s.text, .slice sa1 s.set.length sc1, .slice ba1 s.subs.length bc1] 34)).cell? ⟨W.heap.size + 1, 4, none⟩ = some (.slice (some ⟨nb, 0, none⟩) SN bc') := by have := HX1.out.n.cell 4; simpa using this
      have hxg : (wr.alloc (.cells #[.int .u8 s.kind, .string s.name, .string s.text, .slice sa1 s.set.length sc1, .slice ba1 s.subs.length bc1] 34)).cell? ⟨W.heap.size, 0, none⟩ = some (.string s0) ∧ (wr.alloc (.cells #[.int .u8 s.kind, .string s.name, .string s.text, .slice sa1 s.set.length sc1, .slice ba1 s.subs.length bc1] 34)).cell? ⟨W.heap.size, 1, none⟩ = some (.int .i64 so1) ∧ (wr.alloc (.cells #[.int .u8 s.kind, .string s.name, .string s.text, .slice sa1 s.set.length sc1, .slice ba1 s.subs.length bc1] 34)).cell? ⟨W.heap.size, 2, none⟩ = some (.int .i64 so2) ∧ (wr.alloc (.cells #[.int .u8 s.kind, .string s.name, .string s.text, .slice sa1 s.set.length sc1, .slice ba1 s.subs.length bc1] 34)).cell? ⟨W.heap.size, 3, none⟩ = some (.slice sra sn sc) := by
       have h := HX1.out.g
       exact ⟨by have := h.cell 0; simpa using this, by have := h.cell 1; simpa using this, by have := h.cell 2; simpa using this, by have := h.cell 3; simpa using this⟩
      have hxs : (wr.alloc (.cells #[.int .u8 s.kind, .string s.name, .string s.text, .slice sa1 s.set.length sc1, .slice ba1 s.subs.length bc1] 34)).cell? ⟨wr.heap.size, 0, none⟩ = some (.int .u8 s.kind) ∧ (wr.alloc (.cells #[.int .u8 s.kind, .string s.name, .string s.text, .slice sa1 s.set.length sc1, .slice ba1 s.subs.length bc1] 34)).cell? ⟨wr.heap.size, 1, none⟩ = some (.string s.name) ∧ (wr.alloc (.cells #[.int .u8 s.kind, .string s.name, .string s.text, .slice sa1 s.set.length sc1, .slice ba1 s.subs.length bc1] 34)).cell? ⟨wr.heap.size, 2, none⟩ = some (.string s.text) ∧ (wr.alloc (.cells #[.int .u8 s.kind, .string s.name, .string s.text, .slice sa1 s.set.length sc1, .slice ba1 s.subs.length bc1] 34)).cell? ⟨wr.heap.size, 3, none⟩ = some (.slice sa1 s.set.length sc1) ∧ (wr.alloc (.cells #[.int .u8 s.kind, .string s.name, .string s.text, .slice sa1 s.set.length sc1, .slice ba1 s.subs.length bc1] 34)).cell? ⟨wr.heap.size, 4, none⟩ = some (.slice ba1 s.subs.length bc1) := by
       have h := HSB.out
       exact ⟨h.cell 0, h.cell 1, h.cell 2, h.cell 3, h.cell 4⟩
      obtain ⟨y0, y1, y2, y3⟩ := hxg
      obtain ⟨z0, z1, z2, z3, z4⟩ := hxs
      have HS3 := Lib.hid (fun (w3 : World) (L' : List Pr) (hT : Tl n₀ (wr.alloc (.cells #[.int .u8 s.kind, .string s.name, .string s.text, .slice sa1 s.set.length sc1, .slice ba1 s.subs.length bc1] 34)) w3) (hI : CkI n₀ cp cv L' w3) => HX1.out.to hT hI)
      have HSM := Lib.hid (And.intro hss (And.intro hks hkm))
      have HNB := Lib.hid (And.intro hnb1 hnb2)
      have HPQ := Lib.hid (show p < (lpS e true sb p).length from by rw [lpS_len, HSN.out]; exact hlt)
      have HSS := Lib.hid hs
      have HAT := Lib.hid (fun (w3 : World) (L' : List Pr) (hT : Tl n₀ (wr.alloc (.cells #[.int .u8 s.kind, .string s.name, .string s.text, .slice sa1 s.set.length sc1, .slice ba1 s.subs.length bc1] 34)) w3) (hI : CkI n₀ cp cv L' w3) => show (w3.cell? ⟨W.heap.size, 0, none⟩ = some (.string s0) ∧ w3.cell? ⟨W.heap.size, 1, none⟩ = some (.int .i64 so1) ∧ w3.cell? ⟨W.heap.size, 2, none⟩ = some (.int .i64 so2) ∧ w3.cell? ⟨W.heap.size, 3, none⟩ = some (.slice sra sn sc) ∧ w3.cell? ⟨W.heap.size + 1, 4, none⟩ = some (.slice (some ⟨nb, 0, none⟩) SN bc') ∧
       w3.cell? ⟨wr.heap.size, 0, none⟩ = some (.int .u8 s.kind) ∧ w3.cell? ⟨wr.heap.size, 1, none⟩ = some (.string s.name) ∧ w3.cell? ⟨wr.heap.size, 2, none⟩ = some (.string s.text) ∧ w3.cell? ⟨wr.heap.size, 3, none⟩ = some (.slice sa1 s.set.length sc1) ∧ w3.cell? ⟨wr.heap.size, 4, none⟩ = some (.slice ba1 s.subs.length bc1)) ∧
       (w3.frozen? ⟨nb, p * 5, none⟩ = false ∧ w3.frozen? ⟨nb, p * 5 + 1, none⟩ = false ∧ w3.frozen? ⟨nb, p * 5 + 2, none⟩ = false ∧ w3.frozen? ⟨nb, p * 5 + 3, none⟩ = false ∧ w3.frozen? ⟨nb, p * 5 + 4, none⟩ = false) ∧
       ∃ q0 q1 q2 q3 q4, w3.cell? ⟨nb, p * 5, none⟩ = some q0 ∧ w3.cell? ⟨nb, p * 5 + 1, none⟩ = some q1 ∧ w3.cell? ⟨nb, p * 5 + 2, none⟩ = some q2 ∧ w3.cell? ⟨nb, p * 5 + 3, none⟩ = some q3 ∧ w3.cell? ⟨nb, p * 5 + 4, none⟩ = some q4 from by
       have h := HS3.out w3 L' hT hI
       have hg := h.g
       have hn := h.n
       have hb := hT.bk HSB.out (by decide) (by decide)
       obtain ⟨_, _, hf, _, _, _, _, ⟨c0, c1, c2, c3, c4⟩, _⟩ := h.sub (lpS_at (e := e) (lp := true) HSS.out)
       exact ⟨⟨by have := hg.cell 0; simpa using this, by have := hg.cell 1; simpa using this, by have := hg.cell 2; simpa using this, by have := hg.cell 3; simpa using this, by have := hn.cell 4; simpa using this,
        by have := hb.cell 0; simpa using this, by have := hb.cell 1; simpa using this, by have := hb.cell 2; simpa using this, by have := hb.cell 3; simpa using this, by have := hb.cell 4; simpa using this⟩, hf, _, _, _, _, _, c0, c1, c2, c3, c4⟩)
      clear hss hks hkm hnb1 hnb2 hs hAs hA1 hT1 hLI
      generalize s.kind = sk at *
      generalize s.name = sm at *
      generalize s.text = sx at *
      generalize s.set.length = sl at *
      generalize s.subs.length = su at *
      go_wp2_with fail
      refine wp_cutL (fun a a' w' => (∃ z0 z1 z2 z3 z4 z5 z6 z7 z8 : Value, a' = ((((((((((a.put (some 33) z0).put (some 34) z1).put (some 35) z2).put (some 36) z3).put (some 37) z4).put (some 38) z5).put (some 39) z6).put (some 40) z7).put (some 41) z8))) ∧ ∃ w3 u0 u1 u2 u3 u4 u5 u6, w' = Ck.set5 w3 nb (p * 5) (.int .u8 u0) (.string u1) (.string u2) (.slice u3 u4 u5) u6 ∧ (∃ q1 q2 q3, u6 = .slice q1 q2 q3) ∧
       AtX (fun k => P k ∨ (nb < k ∧ Fx n₀ w3 k)) w3 (lpT e s) (.agg #[.int .u8 u0, .string u1, .string u2, .slice u3 u4 u5, u6]) ∧ CkI n₀ cp cv (L ++ List.replicate (lpK e true sb p + lpN e s) ⟨6, (i : Int), nm⟩) w3 ∧ Tl n₀ (wr.alloc (.cells #[.int .u8 sk, .string sm, .string sx, .slice sa1 sl sc1, .slice ba1 su bc1] 34)) w3) ?first ?next
      case first =>
       have hne1 := HNB.out.1
       have hne2 := HNB.out.2
       refine wp_region_held_drew (S := fun w' : World => ((w'.cell? ⟨W.heap.size, 0, none⟩ = some (.string s0) ∧ w'.cell? ⟨W.heap.size, 1, none⟩ = some (.int .i64 so1) ∧ w'.cell? ⟨W.heap.size, 2, none⟩ = some (.int .i64 so2) ∧ w'.cell? ⟨W.heap.size, 3, none⟩ = some (.slice sra sn sc) ∧ w'.cell? ⟨W.heap.size + 1, 4, none⟩ = some (.slice (some ⟨nb, 0, none⟩) SN bc') ∧ w'.cell? ⟨wr.heap.size, 0, none⟩ = some (.int .u8 sk) ∧ w'.cell? ⟨wr.heap.size, 1, none⟩ = some (.string sm) ∧ w'.cell? ⟨wr.heap.size, 2, none⟩ = some (.string sx) ∧ w'.cell? ⟨wr.heap.size, 3, none⟩ = some (.slice sa1 sl sc1) ∧ w'.cell? ⟨wr.heap.size, 4, none⟩ = some (.slice ba1 su bc1)))) (by kernel_rfl) ⟨y0, y1, y2, y3, hx4, z0, z1, z2, z3, z4⟩ (fun hSS => ?_)
       show wpAnyH _ _ _ _ _ 10 #[false, false, false, false, false, false, false, false, false, false] _ _
       refine zqT 0 (some 33) _ (zqF 10 1) (by rw [List.getElem?_toArray]; rfl) rfl (by kernel_rfl) rfl (fun _ _ _ h => h) (Or.inl ⟨by rfl, fun w' hSw => by (try dsimp only at hSw); go_simp; try with_reducible rfl⟩) hSS ?_
       simp only [zqN]
       refine zqT 1 (some 34) _ (zqF 10 2) (by rw [List.getElem?_toArray]; rfl) rfl (by kernel_rfl) rfl (fun _ _ _ h => h) (Or.inl ⟨by rfl, fun w' hSw => by (try dsimp only at hSw); go_simp; try with_reducible rfl⟩) hSS ?_
       simp only [zqN]
       refine zqT 2 (some 35) _ (zqF 10 3) (by rw [List.getElem?_toArray]; rfl) rfl (by kernel_rfl) rfl (fun _ _ _ h => h) (Or.inl ⟨by rfl, fun w' hSw => by (try dsimp only at hSw); go_simp; try with_reducible rfl⟩) hSS ?_
       simp only [zqN]
       refine zqT 3 (some 36) _ (zqF 10 4) (by rw [List.getElem?_toArray]; rfl) rfl (by kernel_rfl) rfl (fun _ _ _ h => h) (Or.inl ⟨by rfl, fun w' hSw => by (try dsimp only at hSw); go_simp; try with_reducible rfl⟩) hSS ?_
       simp only [zqN]
       refine zqT 4 (some 37) _ (zqF 10 5) (by rw [List.getElem?_toArray]; rfl) rfl (by kernel_rfl) rfl (fun _ _ _ h => h) (Or.inl ⟨by rfl, fun w' hSw => by (try dsimp only at hSw); go_simp; try with_reducible rfl⟩) hSS ?_
       simp only [zqN]
       refine zqT 5 (some 38) _ (zqF 10 6) (by rw [List.getElem?_toArray]; rfl) rfl (by kernel_rfl) rfl (fun _ _ _ h => h) (Or.inl ⟨by rfl, fun w' hSw => by (try dsimp only at hSw); go_simp; try with_reducible rfl⟩) hSS ?_
       simp only [zqN]
       refine zqT 6 (some 39) _ (zqF 10 7) (by rw [List.getElem?_toArray]; rfl) rfl (by kernel_rfl) rfl (fun _ _ _ h => h) (Or.inl ⟨by rfl, fun w' hSw => by (try dsimp only at hSw); go_simp; try with_reducible rfl⟩) hSS ?_
       simp only [zqN]
       refine come_one (i := 7) (l' := (zqF 10 8)) (by rw [List.getElem?_toArray]; rfl) (by kernel_rfl) rfl (fun K' hK => ?_)
       go_simp
       refine (CA.out _ (by first | exact Below.refl _ _ | exact (Below.refl _ _).drew)).mono ?_
       rintro e' w3 ⟨u0, u1, u2, u3, u4, u5, u6, rfl, ⟨q1, q2, q3, rfl⟩, hA3, hI3, hT3⟩
       obtain ⟨hS3, ⟨f0, f1, f2, f3, f4⟩, r0, r1, r2, r3, r4, t0, t1, t2, t3, t4⟩ := HAT.out w3 _ hT3 hI3
       refine hK.out _ _ hS3 (fun hSS => ?_)
       try simp only [zqN]
       refine zqT 8 (some 41) _ (zqF 10 9) (by rw [List.getElem?_toArray]; rfl) rfl (by kernel_rfl) rfl (fun _ _ _ h => h) (Or.inl ⟨by rfl, fun w' hSw => by (try dsimp only at hSw); go_simp; try with_reducible rfl⟩) hSS ?_
       simp only [zqN]
       refine come_one (i := 9) (l' := (zqF 10 10)) (by rw [List.getElem?_toArray]; rfl) (by kernel_rfl) rfl (fun K' hK => ?_)
       go_simp
       skip
       refine hK.out _ _ ⟨(ckneL (by simp; omega) (ckneL (by simp; omega) (ckneL (by simp; omega) (ckneL (by simp; omega) (ckneL (by simp; omega) hSS.1))))), (ckneL (by simp; omega) (ckneL (by simp; omega) (ckneL (by simp; omega) (ckneL (by simp; omega) (ckneL (by simp; omega) hSS.2.1))))), (ckneL (by simp; omega) (ckneL (by simp; omega) (ckneL (by simp; omega) (ckneL (by simp; omega) (ckneL (by simp; omega) hSS.2.2.1))))), (ckneL (by simp; omega) (ckneL (by simp; omega) (ckneL (by simp; omega) (ckneL (by simp; omega) (ckneL (by simp; omega) hSS.2.2.2.1))))), (ckneL (by simp; omega) (ckneL (by simp; omega) (ckneL (by simp; omega) (ckneL (by simp; omega) (ckneL (by simp; omega) hSS.2.2.2.2.1))))), (ckneL (by simp; omega) (ckneL (by simp; omega) (ckneL (by simp; omega) (ckneL (by simp; omega) (ckneL (by simp; omega) hSS.2.2.2.2.2.1))))), (ckneL (by simp; omega) (ckneL (by simp; omega) (ckneL (by simp; omega) (ckneL (by simp; omega) (ckneL (by simp; omega) hSS.2.2.2.2.2.2.1))))), (ckneL (by simp; omega) (ckneL (by simp; omega) (ckneL (by simp; omega) (ckneL (by simp; omega) (ckneL (by simp; omega) hSS.2.2.2.2.2.2.2.1))))), (ckneL (by simp; omega) (ckneL (by simp; omega) (ckneL (by simp; omega) (ckneL (by simp; omega) (ckneL (by simp; omega) hSS.2.2.2.2.2.2.2.2.1))))), (ckneL (by simp; omega) (ckneL (by simp; omega) (ckneL (by simp; omega) (ckneL (by simp; omega) (ckneL (by simp; omega) hSS.2.2.2.2.2.2.2.2.2)))))⟩ (fun hSS => ?_)
       try simp only [zqN]
       refine wpAnyH_done (by kernel_rfl) ?_ _
       exact ⟨⟨_, _, _, _, _, _, _, _, _, rfl⟩, _, _, _, _, _, _, _, _, rfl, ⟨_, _, _, rfl⟩, hA3, hI3, hT3⟩
      case next =>
       rintro a' w' ⟨⟨v0, v1, v2, v3, v4, v5, v6, v7, v8, rfl⟩, w3, u0, u1, u2, u3, u4, u5, u6, rfl, ⟨q1, q2, q3, rfl⟩, hA3, hI3, hT3⟩
       simp only [zqN]
       have HL3 := Lib.hid ((HS3.out w3 _ hT3 hI3).put HPQ.out hA3)
       clear hA3 hI3 hT3 y0 y1 y2 y3 z0 z1 z2 z3 z4 e0 e1 e2 e3 e4 hx4 k4
       generalize hX5 : Ck.set5 w3 nb (p * 5) (.int .u8 u0) (.string u1) (.string u2) (.slice u3 u4 u5) (.slice q1 q2 q3) = X5 at *
       clear hX5
       have hT1p : ((lpS e true sb p).set p (lpT e s))[p]? = some (lpT e s) := List.getElem?_set_self HPQ.out
       obtain ⟨_, hnX, _, sa2, sc2, ba2, bc2, ⟨e0, e1, e2, e3, e4⟩, hA2⟩ := HL3.out.sub hT1p
       have hlsm := lpT_small e s
       have y0 := HL3.out.g.cell 0
       have y1 := HL3.out.g.cell 1
       have y2 := HL3.out.g.cell 2
       have y3 := HL3.out.g.cell 3
       have k4 := HL3.out.n.cell 4
       simp at y0 y1 y2 y3 k4
       have MAY := Lib.hid (fun (wx : World) (h : Below X5.heap.size X5 wx) => (HMay.out wx (lpT e s) _ (HT.out.trans (HL3.out.t.trans (Tl.below (Nat.le_trans HL3.out.le HL3.out.t.1.size) h))) ((AtX.to _ hA2).below h) (by have := HSM.out.1; have := HCL.out; have := HC.out.2.2.2.2.2; omega)).mono (R' := fun e' w' => e' = .returned (.bool (e (lpT e s))) ∧ Below X5.heap.size X5 w') fun e' w' ⟨h1, h2⟩ => ⟨h1, h.trans (h2.mono h.size)⟩)
       obtain ⟨E, hE⟩ : ∃ b, e (lpT e s) = b := ⟨_, rfl⟩
       rw [hE] at MAY
       have HE := Lib.hid hE
       clear hE hA2 hlsm
       have HT1 := Lib.hid hT1p
       clear hT1p
       generalize htk : (lpT e s).kind = tk at *
       generalize htm : (lpT e s).name = tm at *
       generalize htx : (lpT e s).text = tx at *
       generalize htl : (lpT e s).set.length = tl at *
       generalize htu : (lpT e s).subs.length = tu at *
       clear htk htm htx htl htu
       have HS8 := Lib.hid (fun (wx : World) (h : Below X5.heap.size X5 wx) => show ((wx.cell? ⟨W.heap.size, 0, none⟩ = some (.string s0) ∧ wx.cell? ⟨W.heap.size, 1, none⟩ = some (.int .i64 so1) ∧ wx.cell? ⟨W.heap.size, 2, none⟩ = some (.int .i64 so2) ∧ wx.cell? ⟨W.heap.size, 3, none⟩ = some (.slice sra sn sc) ∧ wx.cell? ⟨W.heap.size + 1, 4, none⟩ = some (.slice (some ⟨nb, 0, none⟩) SN bc') ∧ wx.cell? ⟨nb, p * 5, none⟩ = some (.int .u8 tk) ∧ wx.cell? ⟨nb, p * 5 + 1, none⟩ = some (.string tm) ∧ wx.cell? ⟨nb, p * 5 + 2, none⟩ = some (.string tx) ∧ wx.cell? ⟨nb, p * 5 + 3, none⟩ = some (.slice sa2 tl sc2) ∧ wx.cell? ⟨nb, p * 5 + 4, none⟩ = some (.slice ba2 tu bc2))) from ⟨Nd.cell_keeps h y0, Nd.cell_keeps h y1, Nd.cell_keeps h y2, Nd.cell_keeps h y3, Nd.cell_keeps h k4, Nd.cell_keeps h e0, Nd.cell_keeps h e1, Nd.cell_keeps h e2, Nd.cell_keeps h e3, Nd.cell_keeps h e4⟩)
       have hwr : IntKind.i64.wrap ((sn : Int) - 1) = (sn : Int) - 1 := IntWalk.i64_in _ (by have := HHI.out.2.2.1; omega)
       go_wp2_with fail
       refine wp_cutL (fun a a' w' => (∃ z44 z45 z46 z47 z48 z49 z50 z51 z52 z53 z54 : Value, a' = ((((((((((((a.put (some 44) z44).put (some 45) z45).put (some 46) z46).put (some 47) z47).put (some 48) z48).put (some 49) z49).put (some 50) z50).put (some 51) z51).put (some 52) z52).put (some 53) z53).put (some 54) z54).put (some 12) (.bool E))) ∧ Below X5.heap.size X5 w') ?first ?next
       case first =>
        refine wp_region_held_drew (S := fun w' : World => ((w'.cell? ⟨W.heap.size, 0, none⟩ = some (.string s0) ∧ w'.cell? ⟨W.heap.size, 1, none⟩ = some (.int .i64 so1) ∧ w'.cell? ⟨W.heap.size, 2, none⟩ = some (.int .i64 so2) ∧ w'.cell? ⟨W.heap.size, 3, none⟩ = some (.slice sra sn sc) ∧ w'.cell? ⟨W.heap.size + 1, 4, none⟩ = some (.slice (some ⟨nb, 0, none⟩) SN bc') ∧ w'.cell? ⟨nb, p * 5, none⟩ = some (.int .u8 tk) ∧ w'.cell? ⟨nb, p * 5 + 1, none⟩ = some (.string tm) ∧ w'.cell? ⟨nb, p * 5 + 2, none⟩ = some (.string tx) ∧ w'.cell? ⟨nb, p * 5 + 3, none⟩ = some (.slice sa2 tl sc2) ∧ w'.cell? ⟨nb, p * 5 + 4, none⟩ = some (.slice ba2 tu bc2)))) (by kernel_rfl) ⟨y0, y1, y2, y3, k4, e0, e1, e2, e3, e4⟩ (fun hSS => ?_)
        show wpAnyH _ _ _ _ _ 12 #[false, false, false, false, false, false, false, false, false, false, false, false] _ _
        refine zqT 0 (some 44) _ (zqF 12 1) (by rw [List.getElem?_toArray]; rfl) rfl (by kernel_rfl) rfl (fun _ _ _ h => h) (Or.inl ⟨by rfl, fun w' hSw => by (try dsimp only at hSw); go_simp; try with_reducible rfl⟩) hSS ?_
        simp only [zqN]
        refine zqT 1 (some 45) _ (zqF 12 2) (by rw [List.getElem?_toArray]; rfl) rfl (by kernel_rfl) rfl (fun _ _ _ h => h) (Or.inl ⟨by rfl, fun w' hSw => by (try dsimp only at hSw); go_simp; try with_reducible rfl⟩) hSS ?_
        simp only [zqN]
        refine zqT 2 (some 46) _ (zqF 12 3) (by rw [List.getElem?_toArray]; rfl) rfl (by kernel_rfl) rfl (fun _ _ _ h => h) (Or.inl ⟨by rfl, fun w' hSw => by (try dsimp only at hSw); go_simp; try with_reducible rfl⟩) hSS ?_
        simp only [zqN]
        refine zqT 3 (some 47) _ (zqF 12 4) (by rw [List.getElem?_toArray]; rfl) rfl (by kernel_rfl) rfl (fun _ _ _ h => h) (Or.inl ⟨by rfl, fun w' hSw => by (try dsimp only at hSw); go_simp; try with_reducible rfl⟩) hSS ?_
        simp only [zqN]
        refine zqT 4 (some 48) _ (zqF 12 5) (by rw [List.getElem?_toArray]; rfl) rfl (by kernel_rfl) rfl (fun _ _ _ h => h) (Or.inl ⟨by rfl, fun w' hSw => by (try dsimp only at hSw); go_simp; try with_reducible rfl⟩) hSS ?_
        simp only [zqN]
        refine zqT 5 (some 49) _ (zqF 12 6) (by rw [List.getElem?_toArray]; rfl) rfl (by kernel_rfl) rfl (fun _ _ _ h => h) (Or.inl ⟨by rfl, fun w' hSw => by (try dsimp only at hSw); go_simp; try with_reducible rfl⟩) hSS ?_
        simp only [zqN]
        refine zqT 6 (some 50) _ (zqF 12 7) (by rw [List.getElem?_toArray]; rfl) rfl (by kernel_rfl) rfl (fun _ _ _ h => h) (Or.inl ⟨by rfl, fun w' hSw => by (try dsimp only at hSw); go_simp; try with_reducible rfl⟩) hSS ?_
        simp only [zqN]
        refine zqT 7 (some 51) _ (zqF 12 8) (by rw [List.getElem?_toArray]; rfl) rfl (by kernel_rfl) rfl (fun _ _ _ h => h) (Or.inl ⟨by rfl, fun w' hSw => by (try dsimp only at hSw); go_simp; try with_reducible rfl⟩) hSS ?_
        simp only [zqN]
        refine zqT 8 (some 52) _ (zqF 12 9) (by rw [List.getElem?_toArray]; rfl) rfl (by kernel_rfl) rfl (fun _ _ _ h => h) (Or.inl ⟨by rfl, fun w' hSw => by (try dsimp only at hSw); go_simp; try with_reducible rfl⟩) hSS ?_
        simp only [zqN]
        refine zqT 9 (some 53) _ (zqF 12 10) (by rw [List.getElem?_toArray]; rfl) rfl (by kernel_rfl) rfl (fun _ _ _ h => h) (Or.inl ⟨by rfl, fun w' hSw => by (try dsimp only at hSw); go_simp; try with_reducible rfl⟩) hSS ?_
        simp only [zqN]
        refine come_one (i := 10) (l' := (zqF 12 11)) (by rw [List.getElem?_toArray]; rfl) (by kernel_rfl) rfl (fun K' hK => ?_)
        go_simp
        refine (MAY.out _ (by first | exact Below.refl _ _ | exact (Below.refl _ _).drew)).mono ?_
        rintro e' w4 ⟨rfl, hb4⟩
        have hS4 := HS8.out w4 hb4
        refine hK.out _ _ hS4 (fun hSS => ?_)
        try simp only [zqN]
        refine zqT 11 (some 12) _ (zqF 12 12) (by rw [List.getElem?_toArray]; rfl) rfl (by kernel_rfl) rfl (fun _ _ _ h => h) (Or.inl ⟨by rfl, fun w' hSw => by (try dsimp only at hSw); go_simp; try with_reducible rfl⟩) hSS ?_
        simp only [zqN]
        refine wpAnyH_done (by kernel_rfl) ?_ _
        exact ⟨⟨_, _, _, _, _, _, _, _, _, _, _, rfl⟩, hb4⟩
       case next =>
        rintro a' w4 ⟨⟨z44, z45, z46, z47, z48, z49, z50, z51, z52, z53, z54, rfl⟩, hb4⟩
        simp only [zqN]
        have HL4 := Lib.hid (HL3.out.below hb4)
        have k4 := HL4.out.n.cell 4
        simp at k4
        clear y0 y1 y2 y3 e0 e1 e2 e3 e4 hb4 hnX hwr
        have HB9 := Lib.hid (fun (wx : World) (h : Below w4.heap.size w4 wx) => h)
        have HS9 := Lib.hid (fun (wx : World) (h : Below w4.heap.size w4 wx) => show ((wx.cell? ⟨W.heap.size + 1, 4, none⟩ = some (.slice (some ⟨nb, 0, none⟩) SN bc'))) ∧ (wx.frozen? ⟨nb, p * 5, none⟩ = false ∧ wx.frozen? ⟨nb, p * 5 + 1, none⟩ = false ∧ wx.frozen? ⟨nb, p * 5 + 2, none⟩ = false ∧ wx.frozen? ⟨nb, p * 5 + 3, none⟩ = false ∧ wx.frozen? ⟨nb, p * 5 + 4, none⟩ = false) ∧
         ∃ q0 q1 q2 q3 q4, wx.cell? ⟨nb, p * 5, none⟩ = some q0 ∧ wx.cell? ⟨nb, p * 5 + 1, none⟩ = some q1 ∧ wx.cell? ⟨nb, p * 5 + 2, none⟩ = some q2 ∧ wx.cell? ⟨nb, p * 5 + 3, none⟩ = some q3 ∧ wx.cell? ⟨nb, p * 5 + 4, none⟩ = some q4 from by
         have hl := HL4.out.below h
         have hn := hl.n
         obtain ⟨_, _, hf, _, _, _, _, ⟨c0, c1, c2, c3, c4⟩, _⟩ := hl.sub HT1.out
         exact ⟨by have := hn.cell 4; simpa using this, hf, _, _, _, _, _, c0, c1, c2, c3, c4⟩)
        have hne1 := HNB.out.1
        go_wp2_with fail
        refine wp_cutL (fun a a' w' => (∃ z55 z56 z57 z58 z59 z60 : Value, a' = ((((((a.put (some 55) z55).put (some 56) z56).put (some 57) z57).put (some 58) z58).put (some 59) z59).put (some 60) z60)) ∧ ∃ w5, w' = Ck.set5 w5 nb (p * 5) (.int .u8 (if E then 1 else 0)) (.string ⟨#[]⟩) (.string ⟨#[]⟩) (.slice none 0 0) (.slice none 0 0) ∧ Below w4.heap.size w4 w5) ?first2 ?next2
        case first2 =>
         refine wp_region_held_drew (S := fun w' : World => ((w'.cell? ⟨W.heap.size + 1, 4, none⟩ = some (.slice (some ⟨nb, 0, none⟩) SN bc')))) (by kernel_rfl) k4 (fun hSS => ?_)
         show wpAnyH _ _ _ _ _ 7 #[false, false, false, false, false, false, false] _ _
         refine zqT 0 (some 55) _ (zqF 7 1) (by rw [List.getElem?_toArray]; rfl) rfl (by kernel_rfl) rfl (fun _ _ _ h => h) (Or.inl ⟨by rfl, fun w' hSw => by (try dsimp only at hSw); go_simp; try with_reducible rfl⟩) hSS ?_
         simp only [zqN]
         refine zqT 1 (some 56) _ (zqF 7 2) (by rw [List.getElem?_toArray]; rfl) rfl (by kernel_rfl) rfl (fun _ _ _ h => h) (Or.inl ⟨by rfl, fun w' hSw => by (try dsimp only at hSw); go_simp; try with_reducible rfl⟩) hSS ?_
         simp only [zqN]
         refine zqT 2 (some 57) _ (zqF 7 3) (by rw [List.getElem?_toArray]; rfl) rfl (by kernel_rfl) rfl (fun _ _ _ h => h) (Or.inl ⟨by rfl, fun w' hSw => by (try dsimp only at hSw); go_simp; try with_reducible rfl⟩) hSS ?_
         simp only [zqN]
         refine zqT 3 (some 58) _ (zqF 7 4) (by rw [List.getElem?_toArray]; rfl) rfl (by kernel_rfl) rfl (fun _ _ _ h => h) (Or.inl ⟨by rfl, fun w' hSw => by (try dsimp only at hSw); go_simp; try with_reducible rfl⟩) hSS ?_
         simp only [zqN]
         refine come_one (i := 4) (l' := (zqF 7 5)) (by rw [List.getElem?_toArray]; rfl) (by kernel_rfl) rfl (fun K' hK => ?_)
         go_simp
         refine (HSt.out E _).mono ?_
         rintro e' w5 ⟨rfl, hb5⟩
         obtain ⟨hS5, ⟨f0, f1, f2, f3, f4⟩, r0, r1, r2, r3, r4, t0, t1, t2, t3, t4⟩ := HS9.out w5 (by first | exact hb5 | exact (Below.refl _ _).drew.trans hb5)
         refine hK.out _ _ hS5 (fun hSS => ?_)
         try simp only [zqN]
         refine zqT 5 (some 60) _ (zqF 7 6) (by rw [List.getElem?_toArray]; rfl) rfl (by kernel_rfl) rfl (fun _ _ _ h => h) (Or.inl ⟨by rfl, fun w' hSw => by (try dsimp only at hSw); go_simp; try with_reducible rfl⟩) hSS ?_
         simp only [zqN]
         refine come_one (i := 6) (l' := (zqF 7 7)) (by rw [List.getElem?_toArray]; rfl) (by kernel_rfl) rfl (fun K' hK => ?_)
         go_simp
         skip
         refine hK.out _ _ (ckneL (by simp; omega) (ckneL (by simp; omega) (ckneL (by simp; omega) (ckneL (by simp; omega) (ckneL (by simp; omega) hSS))))) (fun hSS => ?_)
         try simp only [zqN]
         refine wpAnyH_done (by kernel_rfl) ?_ _
         exact ⟨⟨_, _, _, _, _, _, rfl⟩, w5, rfl, HB9.out w5 (by first | exact hb5 | exact (Below.refl _ _).drew.trans hb5)⟩
        case next2 =>
         rintro a' w' ⟨⟨z55, z56, z57, z58, z59, z60, rfl⟩, w5, rfl, hb5⟩
         simp only [zqN]
         have HL6 := (HL4.out.below hb5).put (by rw [List.length_set]; exact HPQ.out) (stand_atX _ w5 E)
         have hput : ((lpS e true sb p).set p (lpT e s)).set p (stand E) = lpS e true sb (p + 1) := by
          rw [List.set_set, ← HE.out]
          exact lpS_put (e := e) (lp := true) HSS.out
         rw [hput] at HL6
         have hcnt := HSM.out.2.1
         rw [HE.out] at hcnt
         replace HL6 := Lib.hid HL6
         generalize Ck.set5 w5 nb (p * 5) (.int .u8 (if E then 1 else 0)) (.string ⟨#[]⟩) (.string ⟨#[]⟩) (.slice none 0 0) (.slice none 0 0) = X6 at *
         clear hb5 k4
         cases E with
         | false =>
          simp only [Bool.true_and, Bool.and_false, Bool.false_eq_true, if_false, Nat.add_zero] at hcnt
          rw [← hcnt] at HL6
          go_wp2_with fail
          exact ⟨⟨p + 1, by omega, by go_num, HL6⟩, by simp [intOf]; omega⟩
         | true =>
          by_cases hp0 : p = 0
          · have hcnt2 : lpK e true sb (p + 1) = lpK e true sb p + lpN e s + 1 := by rw [hcnt, hp0]; simp
            have hrep : (L ++ List.replicate (lpK e true sb p + lpN e s) ⟨6, (i : Int), nm⟩) ++ [⟨6, (i : Int), nm⟩] = L ++ List.replicate (lpK e true sb (p + 1)) ⟨6, (i : Int), nm⟩ := by rw [hcnt2, ← rep_add _ 1]; rfl
            obtain ⟨_, pv, hKc, _⟩ := HL6.out.i
            have c3 := hKc.cell 3
            simp at c3
            rw [HRA.out] at c3
            have cn := HNm.out X6 (HT.out.trans HL6.out.t)
            have HTE := Lib.hid (tell_any n₀ cp cv (L ++ List.replicate (lpK e true sb p + lpN e s) ⟨6, (i : Int), nm⟩) 6 i nm X6 HL6.out.i HHI.out.2.1 (by rw [List.length_append, List.length_replicate]; have := HLn.out; have := HSM.out.2.2; omega))
            have pi0 : (i : Int) < (cv.rn : Int) := by have := HHI.out.1; omega
            have pi1 : (cv.rn : Int) ≤ 1000000 := by have := HHI.out.1; omega
            generalize cv.rn = CR at *
            generalize cv.rc = CC at *
            clear hKc hcnt hcnt2
            subst hp0
            go_wp2_with (go_at_call 46; refine (HTE.out).mono ?_; rintro e' w7 ⟨⟨v7, rfl⟩, hI7, hT7⟩)
            rw [hrep] at hI7
            exact ⟨⟨0 + 1, by omega, by go_num, Lib.hid (HL6.out.to hT7 hI7)⟩, by simp [intOf]; omega⟩
          · have hcnt2 : lpK e true sb (p + 1) = lpK e true sb p + lpN e s := by rw [hcnt]; simp [hp0]
            rw [← hcnt2] at HL6
            have hpq : ((p : Int) == 0) = false := by rw [beq_eq_false_iff_ne]; omega
            have hpr : ¬ ((p : Int) = 0) := by omega
            clear hcnt hcnt2
            go_wp2_with fail
            exact ⟨⟨p + 1, by omega, by go_num, HL6⟩, by simp [intOf]; omega⟩
    · have d0 : decide (p < SN) = false := by rw [decide_eq_false_iff_not]; exact hlt
      have hpe : p = sb.length := by rw [HSN.out]; omega
      have hLI2 := hLI.out
      have hlk : lpK e true sb sb.length = lpN e (.mk k xn xt st sb) := by rw [← HLP.out]; exact lpK_end e k xn xt st sb
      rw [hpe, lpS_end, hlk] at hLI2
      have hN := hLI2.n
      have hR := hLI2.r
      have a0 := hN.cell 0
      have a1 := hN.cell 1
      have a2 := hN.cell 2
      have a3 := hN.cell 3
      have b0 := hR.cell 0
      have b1 := hR.cell 1
      have b2 := hR.cell 2
      have b3 := hR.cell 3
      have b4 := hR.cell 4
      have c0 := hR.free 0
      have c1 := hR.free 1
      have c2 := hR.free 2
      have c3 := hR.free 3
      have c4 := hR.free 4
      simp at a0 a1 a2 a3 b0 b1 b2 b3 b4
      have HR5 := Lib.hid (((((hR.set 0 (.int .u8 k)).set 1 (.string xn)).set 2 (.string xt)).set 3 (.slice sa SL sc')).set 4 (.slice ba' SN bc'))
      have HD := Lib.hid (hLI2.done (.int .u8 k) (.string xn) (.string xt) (.slice sa SL sc') (.slice ba' SN bc'))
      clear hN hR hLI2 hLI hlk hpe
      go_wp2_with fail
      refine bodyPost_ret (v := .agg #[.int .u8 k, .string xn, .string xt, .slice sa SL sc', .slice ba' SN bc']) ?_ rfl ?_
      · have z0 := HR5.out.cell 0
        have z1 := HR5.out.cell 1
        have z2 := HR5.out.cell 2
        have z3 := HR5.out.cell 3
        have z4 := HR5.out.cell 4
        clear a0 a1 a2 a3 b0 b1 b2 b3 b4 c0 c1 c2 c3 c4
        simp at z0 z1 z2 z3 z4
        simp [results, Tryd.results62, go_sem, z0, z1, z2, z3, z4]
      · obtain ⟨d1, d2, d3⟩ := HD.out
        refine ⟨⟨_, rfl, ?_⟩, d2, d3⟩
        obtain ⟨hk, hxn, hxt, hsc, hRg, _⟩ := HC.out
        have hll : (lpL e true sb).length = SN := by rw [lpL_len, HSN.out]
        simp only [lpT, HLP.out]
        unfold AtX
        rw [hll, HSL.out]
        rw [HSL.out] at hsc
        exact ⟨sa, sc', ba', bc', rfl, hk, hxn, hxt, hsc, ⟨HBC.out, by omega⟩, RgX.keep (fun k hk => .inl (HP0.out k hk)) (Ck.Tl.stay d3 fun k hk => (HP.out k hk).1) hRg, AtLX.keep (fun k hk => hk.imp (HP0.out k) id) (fun _ _ _ => rfl) _ d1⟩
 · by_cases hk4 : k = 4
   · have q3 : (k == 3) = false := by simpa using hk3
     have q4 : (k == 4) = true := by rw [hk4]; rfl
     have hlp : isLoop k = true := by unfold isLoop; first | exact decide_eq_true (by omega) | exact decide_eq_false (by omega)
     have HLP := Lib.hid hlp
     clear hlp hk3 hk4
     go_enter Tryd.func62, Tryd.ntmps62
     go_wp2_with fail
     refine (CL.out _ HB1.out).mono ?_
     rintro e' w2 ⟨⟨ba', bc', rfl, hbc', hrow⟩, hb⟩
     have hK2 := HKN.out.below hb HKN.out.lt
     have c4 := hK2.cell 4
     have f4 := hK2.free 4
     simp at c4
     have HL0 := Lib.hid (show Ck.LI n₀ cp cv P W #[.string s0, .int .i64 so1, .int .i64 so2, .slice sra sn sc] #[.int .u8 k, .string xn, .string xt, .slice sa SL sc', .slice ba' SN bc'] ba' (lpS e true sb 0) (L ++ List.replicate (lpK e true sb 0) ⟨6, (i : Int), nm⟩) (w2.setCell ⟨W.heap.size + 1, 4, none⟩ (.slice ba' SN bc')) from by
      rw [lpS_start, lpK_start]
      have := LI.start (ba := ba') (ts := sb) (g5 := #[.string s0, .int .i64 so1, .int .i64 so2, .slice sra sn sc]) (n5 := #[.int .u8 k, .string xn, .string xt, .slice sa SL sc', .slice ba SN bc]) HI.out HHI.out.2.2.2 HP.out (.slice ba' SN bc') hb (hrow.imp id fun ⟨nb, h1, h2, h3⟩ => ⟨nb, h1, by simp at h2; omega, h3⟩)
      simpa using this)
     have hgo : (w2.setCell ⟨W.heap.size + 1, 4, none⟩ (.slice ba' SN bc')).cell? ⟨W.heap.size + 1, 4, none⟩ = some (.slice ba' SN bc') := by have := HL0.out.n.cell 4; simpa using this
     clear hb hrow hK2 a0 a4
     have HBC := Lib.hid hbc'
     clear hbc'
     go_wp2_with fail
     go_loopw [28] (fun j wr => ∃ p, p ≤ SN ∧ j = .int .i64 p ∧ Hid (Ck.LI n₀ cp cv P W #[.string s0, .int .i64 so1, .int .i64 so2, .slice sra sn sc] #[.int .u8 k, .string xn, .string xt, .slice sa SL sc', .slice ba' SN bc'] ba' (lpS e true sb p) (L ++ List.replicate (lpK e true sb p) ⟨6, (i : Int), nm⟩) wr)) (fun j _ => SN - (intOf j).toNat)
     case atStart => exact ⟨0, Nat.zero_le _, rfl, HL0⟩
     case round =>
      obtain ⟨p, hp, rfl, hLI⟩ := hrel
      have k4 : wr.cell? ⟨W.heap.size + 1, 4, none⟩ = some (.slice ba' SN bc') := by have := hLI.out.n.cell 4; simpa using this
      by_cases hlt : p < SN
      · have p0 : (p : Int) < (SN : Int) := by omega
        have d0 : decide (p < SN) = true := by rw [decide_eq_true_iff]; exact hlt
        obtain ⟨s, hs⟩ : ∃ s, sb[p]? = some s := ⟨_, List.getElem?_eq_getElem (by rw [HSN.out]; exact hlt)⟩
        obtain ⟨nb, rfl⟩ : ∃ nb, ba' = some ⟨nb, 0, none⟩ := by
         rcases hLI.out.row with ⟨_, h2⟩ | ⟨nb, h1, _⟩
         · have := lpS_len e true sb p; rw [h2, HSN.out] at this; simp at this; omega
         · exact ⟨nb, h1⟩
        obtain ⟨hnb1, hnb2, _, sa1, sc1, ba1, bc1, ⟨e0, e1, e2, e3, e4⟩, hAs⟩ := hLI.out.sub (lpS_at (e := e) (lp := true) hs)
        have hss := deep_sub hs
        have hks := lpK_more (e := e) (lp := true) hs
        have hkm : lpK e true sb (p + 1) ≤ lpN e (.mk k xn xt st sb) := by
         rw [← lpK_end e k xn xt st sb, HLP.out]
         unfold lpK
         rw [List.take_length]
         exact lpNL_mono e true sb (p + 1) true
        have HX1 := Lib.hid (hLI.out.below (X' := wr.alloc (.cells #[.int .u8 s.kind, .string s.name, .string s.text, .slice sa1 s.set.length sc1, .slice ba1 s.subs.length bc1] 34)) ((Below.refl _ _).alloc (Nat.le_refl _) _))
        have HSB := Lib.hid (Bk.made wr 34 #[.int .u8 s.kind, .string s.name, .string s.text, .slice sa1 s.set.length sc1, .slice ba1 s.subs.length bc1])
        have hT1 : Tl n₀ wr (wr.alloc (.cells #[.int .u8 s.kind, .string s.name, .string s.text, .slice sa1 s.set.length sc1, .slice ba1 s.subs.length bc1] 34)) := Tl.below (Nat.le_trans hLI.out.le hLI.out.t.1.size) ((Below.refl _ _).alloc (Nat.le_refl _) _)
        have hA1 : AtX (fun k => P k ∨ (nb < k ∧ Fx n₀ (wr.alloc (.cells #[.int .u8 s.kind, .string s.name, .string s.text, .slice sa1 s.set.length sc1, .slice ba1 s.subs.length bc1] 34)) k)) (wr.alloc (.cells #[.int .u8 s.kind, .string s.name, .string s.text, .slice sa1 s.set.length sc1, .slice ba1 s.subs.length bc1] 34)) s (.agg #[.int .u8 s.kind, .string s.name, .string s.text, .slice sa1 s.set.length sc1, .slice ba1 s.subs.length bc1]) :=
         AtX.wide (fun k hk => hk.imp id fun hk => ⟨hk.1, hk.2.tl hT1⟩) (hAs.tl hT1 fun k hk => hk.elim (fun hk => ((HP.out k hk).1).tl hLI.out.t) fun hk => hk.2)
        have CA := Lib.hid (fun (wx : World) (h : Below (wr.alloc (.cells #[.int .u8 s.kind, .string s.name, .string s.text, .slice sa1 s.set.length sc1, .slice ba1 s.subs.length bc1] 34)).heap.size (wr.alloc (.cells #[.int .u8 s.kind, .string s.name, .string s.text, .slice sa1 s.set.length sc1, .slice ba1 s.subs.length bc1] 34)) wx) =>
         ((HIH.out s (List.mem_of_getElem? hs)) (by have := HC.out.2.2.2.2.2; omega) (by have := HCL.out; omega) (fun k => P k ∨ (nb < k ∧ Fx n₀ wx k)) (.agg #[.int .u8 s.kind, .string s.name, .string s.text, .slice sa1 s.set.length sc1, .slice ba1 s.subs.length bc1]) wx (L ++ List.replicate (lpK e true sb p) ⟨6, (i : Int), nm⟩)
          (HT.out.trans (HX1.out.t.trans (Tl.below (Nat.le_trans HX1.out.le HX1.out.t.1.size) h)))
          (AtX.wide (fun k hk => hk.imp id fun hk => ⟨hk.1, hk.2.tl (Tl.below (Nat.le_trans HX1.out.le HX1.out.t.1.size) h)⟩) (hA1.tl (Tl.below (Nat.le_trans HX1.out.le HX1.out.t.1.size) h) fun k hk => hk.elim (fun hk => ((HP.out k hk).1).tl HX1.out.t) fun hk => hk.2))
          (fun k hk => hk.elim (fun hk => (((HP.out k hk).1).tl HX1.out.t).tl (Tl.below (Nat.le_trans HX1.out.le HX1.out.t.1.size) h)) fun hk => hk.2)
          (HX1.out.i.below h) (by rw [List.length_append, List.length_replicate]; have := HLn.out; omega)).mono (R' := fun e' w3 => ∃ u0 u1 u2 u3 u4 u5 u6, e' = .returned (.agg #[.int .u8 u0, .string u1, .string u2, .slice u3 u4 u5, u6]) ∧ (∃ q1 q2 q3, u6 = .slice q1 q2 q3) ∧
           AtX (fun k => P k ∨ (nb < k ∧ Fx n₀ w3 k)) w3 (lpT e s) (.agg #[.int .u8 u0, .string u1, .string u2, .slice u3 u4 u5, u6]) ∧ CkI n₀ cp cv (L ++ List.replicate (lpK e true sb p + lpN e s) ⟨6, (i : Int), nm⟩) w3 ∧ Tl n₀ (wr.alloc (.cells #[.int .u8 s.kind, .string s.name, .string s.text, .slice sa1 s.set.length sc1, .slice ba1 s.subs.length bc1] 34)) w3) fun e' w3 ⟨⟨v', h1, h2⟩, h3, h4⟩ => by
          obtain ⟨x1, x2, x3, x4, rfl⟩ := h2.five
          refine ⟨_, _, _, _, _, _, _, h1, ⟨_, _, _, rfl⟩, AtX.wide (fun k hk => ?_) h2, by rw [← rep_add]; exact h3, (Tl.below (Nat.le_trans HX1.out.le HX1.out.t.1.size) h).trans h4⟩
          rcases hk with hk | hk
          · exact hk.imp id fun hk => ⟨hk.1, hk.2.tl h4⟩
          · exact .inr ⟨by have := h.size; simp at this; omega, hk.2⟩)
        have hx4 : (wr.alloc (.cells #[.int .u8 s.kind, .string s.name, .string s.text, .slice sa1 s.set.length sc1, .slice ba1 s.subs.length bc1] 34)).cell? ⟨W.heap.size + 1, 4, none⟩ = some (.slice (some ⟨nb, 0, none⟩) SN bc') := by have := HX1.out.n.cell 4; simpa using this
        have hxg : (wr.alloc (.cells #[.int .u8 s.kind, .string s.name, .string s.text, .slice sa1 s.set.length sc1, .slice ba1 s.subs.length bc1] 34)).cell? ⟨W.heap.size, 0, none⟩ = some (.string s0) ∧ (wr.alloc (.cells #[.int .u8 s.kind, .string s.name, .string s.text, .slice sa1 s.set.length sc1, .slice ba1 s.subs.length bc1] 34)).cell? ⟨W.heap.size, 1, none⟩ = some (.int .i64 so1) ∧ (wr.alloc (.cells #[.int .u8 s.kind, .string s.name, .string s.text, .slice sa1 s.set.length sc1, .slice ba1 s.subs.length bc1] 34)).cell? ⟨W.heap.size, 2, none⟩ = some (.int .i64 so2) ∧ (wr.alloc (.cells #[.int .u8 s.kind, .string s.name, .string s.text, .slice sa1 s.set.length sc1, .slice ba1 s.subs.length bc1] 34)).cell? ⟨W.heap.size, 3, none⟩ = some (.slice sra sn sc) := by
         have h := HX1.out.g
         exact ⟨by have := h.cell 0; simpa using this, by have := h.cell 1; simpa using this, by have := h.cell 2; simpa using this, by have := h.cell 3; simpa using this⟩
        have hxs : (wr.alloc (.cells #[.int .u8 s.kind, .string s.name, .string s.text, .slice sa1 s.set.length sc1, .slice ba1 s.subs.length bc1] 34)).cell? ⟨wr.heap.size, 0, none⟩ = some (.int .u8 s.kind) ∧ (wr.alloc (.cells #[.int .u8 s.kind, .string s.name, .string s.text, .slice sa1 s.set.length sc1, .slice ba1 s.subs.length bc1] 34)).cell? ⟨wr.heap.size, 1, none⟩ = some (.string s.name) ∧ (wr.alloc (.cells #[.int .u8 s.kind, .string s.name, .string s.text, .slice sa1 s.set.length sc1, .slice ba1 s.subs.length bc1] 34)).cell? ⟨wr.heap.size, 2, none⟩ = some (.string s.text) ∧ (wr.alloc (.cells #[.int .u8 s.kind, .string s.name, .string s.text, .slice sa1 s.set.length sc1, .slice ba1 s.subs.length bc1] 34)).cell? ⟨wr.heap.size, 3, none⟩ = some (.slice sa1 s.set.length sc1) ∧ (wr.alloc (.cells #[.int .u8 s.kind, .string s.name, .string s.text, .slice sa1 s.set.length sc1, .slice ba1 s.subs.length bc1] 34)).cell? ⟨wr.heap.size, 4, none⟩ = some (.slice ba1 s.subs.length bc1) := by
         have h := HSB.out
         exact ⟨h.cell 0, h.cell 1, h.cell 2, h.cell 3, h.cell 4⟩
        obtain ⟨y0, y1, y2, y3⟩ := hxg
        obtain ⟨z0, z1, z2, z3, z4⟩ := hxs
        have HS3 := Lib.hid (fun (w3 : World) (L' : List Pr) (hT : Tl n₀ (wr.alloc (.cells #[.int .u8 s.kind, .string s.name, .string s.text, .slice sa1 s.set.length sc1, .slice ba1 s.subs.length bc1] 34)) w3) (hI : CkI n₀ cp cv L' w3) => HX1.out.to hT hI)
        have HSM := Lib.hid (And.intro hss (And.intro hks hkm))
        have HNB := Lib.hid (And.intro hnb1 hnb2)
        have HPQ := Lib.hid (show p < (lpS e true sb p).length from by rw [lpS_len, HSN.out]; exact hlt)
        have HSS := Lib.hid hs
        have HAT := Lib.hid (fun (w3 : World) (L' : List Pr) (hT : Tl n₀ (wr.alloc (.cells #[.int .u8 s.kind, .string s.name, .string s.text, .slice sa1 s.set.length sc1, .slice ba1 s.subs.length bc1] 34)) w3) (hI : CkI n₀ cp cv L' w3) => show (w3.cell? ⟨W.heap.size, 0, none⟩ = some (.string s0) ∧ w3.cell? ⟨W.heap.size, 1, none⟩ = some (.int .i64 so1) ∧ w3.cell? ⟨W.heap.size, 2, none⟩ = some (.int .i64 so2) ∧ w3.cell? ⟨W.heap.size, 3, none⟩ = some (.slice sra sn sc) ∧ w3.cell? ⟨W.heap.size + 1, 4, none⟩ = some (.slice (some ⟨nb, 0, none⟩) SN bc') ∧
         w3.cell? ⟨wr.heap.size, 0, none⟩ = some (.int .u8 s.kind) ∧ w3.cell? ⟨wr.heap.size, 1, none⟩ = some (.string s.name) ∧ w3.cell? ⟨wr.heap.size, 2, none⟩ = some (.string s.text) ∧ w3.cell? ⟨wr.heap.size, 3, none⟩ = some (.slice sa1 s.set.length sc1) ∧ w3.cell? ⟨wr.heap.size, 4, none⟩ = some (.slice ba1 s.subs.length bc1)) ∧
         (w3.frozen? ⟨nb, p * 5, none⟩ = false ∧ w3.frozen? ⟨nb, p * 5 + 1, none⟩ = false ∧ w3.frozen? ⟨nb, p * 5 + 2, none⟩ = false ∧ w3.frozen? ⟨nb, p * 5 + 3, none⟩ = false ∧ w3.frozen? ⟨nb, p * 5 + 4, none⟩ = false) ∧
         ∃ q0 q1 q2 q3 q4, w3.cell? ⟨nb, p * 5, none⟩ = some q0 ∧ w3.cell? ⟨nb, p * 5 + 1, none⟩ = some q1 ∧ w3.cell? ⟨nb, p * 5 + 2, none⟩ = some q2 ∧ w3.cell? ⟨nb, p * 5 + 3, none⟩ = some q3 ∧ w3.cell? ⟨nb, p * 5 + 4, none⟩ = some q4 from by
         have h := HS3.out w3 L' hT hI
         have hg := h.g
         have hn := h.n
         have hb := hT.bk HSB.out (by decide) (by decide)
         obtain ⟨_, _, hf, _, _, _, _, ⟨c0, c1, c2, c3, c4⟩, _⟩ := h.sub (lpS_at (e := e) (lp := true) HSS.out)
         exact ⟨⟨by have := hg.cell 0; simpa using this, by have := hg.cell 1; simpa using this, by have := hg.cell 2; simpa using this, by have := hg.cell 3; simpa using this, by have := hn.cell 4; simpa using this,
          by have := hb.cell 0; simpa using this, by have := hb.cell 1; simpa using this, by have := hb.cell 2; simpa using this, by have := hb.cell 3; simpa using this, by have := hb.cell 4; simpa using this⟩, hf, _, _, _, _, _, c0, c1, c2, c3, c4⟩)
        clear hss hks hkm hnb1 hnb2 hs hAs hA1 hT1 hLI
        generalize s.kind = sk at *
        generalize s.name = sm at *
        generalize s.text = sx at *
        generalize s.set.length = sl at *
        generalize s.subs.length = su at *
        go_wp2_with fail
        refine wp_cutL (fun a a' w' => (∃ z0 z1 z2 z3 z4 z5 z6 z7 z8 : Value, a' = ((((((((((a.put (some 33) z0).put (some 34) z1).put (some 35) z2).put (some 36) z3).put (some 37) z4).put (some 38) z5).put (some 39) z6).put (some 40) z7).put (some 41) z8))) ∧ ∃ w3 u0 u1 u2 u3 u4 u5 u6, w' = Ck.set5 w3 nb (p * 5) (.int .u8 u0) (.string u1) (.string u2) (.slice u3 u4 u5) u6 ∧ (∃ q1 q2 q3, u6 = .slice q1 q2 q3) ∧
         AtX (fun k => P k ∨ (nb < k ∧ Fx n₀ w3 k)) w3 (lpT e s) (.agg #[.int .u8 u0, .string u1, .string u2, .slice u3 u4 u5, u6]) ∧ CkI n₀ cp cv (L ++ List.replicate (lpK e true sb p + lpN e s) ⟨6, (i : Int), nm⟩) w3 ∧ Tl n₀ (wr.alloc (.cells #[.int .u8 sk, .string sm, .string sx, .slice sa1 sl sc1, .slice ba1 su bc1] 34)) w3) ?first ?next
        case first =>
         have hne1 := HNB.out.1
         have hne2 := HNB.out.2
         refine wp_region_held_drew (S := fun w' : World => ((w'.cell? ⟨W.heap.size, 0, none⟩ = some (.string s0) ∧ w'.cell? ⟨W.heap.size, 1, none⟩ = some (.int .i64 so1) ∧ w'.cell? ⟨W.heap.size, 2, none⟩ = some (.int .i64 so2) ∧ w'.cell? ⟨W.heap.size, 3, none⟩ = some (.slice sra sn sc) ∧ w'.cell? ⟨W.heap.size + 1, 4, none⟩ = some (.slice (some ⟨nb, 0, none⟩) SN bc') ∧ w'.cell? ⟨wr.heap.size, 0, none⟩ = some (.int .u8 sk) ∧ w'.cell? ⟨wr.heap.size, 1, none⟩ = some (.string sm) ∧ w'.cell? ⟨wr.heap.size, 2, none⟩ = some (.string sx) ∧ w'.cell? ⟨wr.heap.size, 3, none⟩ = some (.slice sa1 sl sc1) ∧ w'.cell? ⟨wr.heap.size, 4, none⟩ = some (.slice ba1 su bc1)))) (by kernel_rfl) ⟨y0, y1, y2, y3, hx4, z0, z1, z2, z3, z4⟩ (fun hSS => ?_)
         show wpAnyH _ _ _ _ _ 10 #[false, false, false, false, false, false, false, false, false, false] _ _
         refine zqT 0 (some 33) _ (zqF 10 1) (by rw [List.getElem?_toArray]; rfl) rfl (by kernel_rfl) rfl (fun _ _ _ h => h) (Or.inl ⟨by rfl, fun w' hSw => by (try dsimp only at hSw); go_simp; try with_reducible rfl⟩) hSS ?_
         simp only [zqN]
         refine zqT 1 (some 34) _ (zqF 10 2) (by rw [List.getElem?_toArray]; rfl) rfl (by kernel_rfl) rfl (fun _ _ _ h => h) (Or.inl ⟨by rfl, fun w' hSw => by (try dsimp only at hSw); go_simp; try with_reducible rfl⟩) hSS ?_
         simp only [zqN]
         refine zqT 2 (some 35) _ (zqF 10 3) (by rw [List.getElem?_toArray]; rfl) rfl (by kernel_rfl) rfl (fun _ _ _ h => h) (Or.inl ⟨by rfl, fun w' hSw => by (try dsimp only at hSw); go_simp; try with_reducible rfl⟩) hSS ?_
         simp only [zqN]
         refine zqT 3 (some 36) _ (zqF 10 4) (by rw [List.getElem?_toArray]; rfl) rfl (by kernel_rfl) rfl (fun _ _ _ h => h) (Or.inl ⟨by rfl, fun w' hSw => by (try dsimp only at hSw); go_simp; try with_reducible rfl⟩) hSS ?_
         simp only [zqN]
         refine zqT 4 (some 37) _ (zqF 10 5) (by rw [List.getElem?_toArray]; rfl) rfl (by kernel_rfl) rfl (fun _ _ _ h => h) (Or.inl ⟨by rfl, fun w' hSw => by (try dsimp only at hSw); go_simp; try with_reducible rfl⟩) hSS ?_
         simp only [zqN]
         refine zqT 5 (some 38) _ (zqF 10 6) (by rw [List.getElem?_toArray]; rfl) rfl (by kernel_rfl) rfl (fun _ _ _ h => h) (Or.inl ⟨by rfl, fun w' hSw => by (try dsimp only at hSw); go_simp; try with_reducible rfl⟩) hSS ?_
         simp only [zqN]
         refine zqT 6 (some 39) _ (zqF 10 7) (by rw [List.getElem?_toArray]; rfl) rfl (by kernel_rfl) rfl (fun _ _ _ h => h) (Or.inl ⟨by rfl, fun w' hSw => by (try dsimp only at hSw); go_simp; try with_reducible rfl⟩) hSS ?_
         simp only [zqN]
         refine come_one (i := 7) (l' := (zqF 10 8)) (by rw [List.getElem?_toArray]; rfl) (by kernel_rfl) rfl (fun K' hK => ?_)
         go_simp
         refine (CA.out _ (by first | exact Below.refl _ _ | exact (Below.refl _ _).drew)).mono ?_
         rintro e' w3 ⟨u0, u1, u2, u3, u4, u5, u6, rfl, ⟨q1, q2, q3, rfl⟩, hA3, hI3, hT3⟩
         obtain ⟨hS3, ⟨f0, f1, f2, f3, f4⟩, r0, r1, r2, r3, r4, t0, t1, t2, t3, t4⟩ := HAT.out w3 _ hT3 hI3
         refine hK.out _ _ hS3 (fun hSS => ?_)
         try simp only [zqN]
         refine zqT 8 (some 41) _ (zqF 10 9) (by rw [List.getElem?_toArray]; rfl) rfl (by kernel_rfl) rfl (fun _ _ _ h => h) (Or.inl ⟨by rfl, fun w' hSw => by (try dsimp only at hSw); go_simp; try with_reducible rfl⟩) hSS ?_
         simp only [zqN]
         refine come_one (i := 9) (l' := (zqF 10 10)) (by rw [List.getElem?_toArray]; rfl) (by kernel_rfl) rfl (fun K' hK => ?_)
         go_simp
         skip
         refine hK.out _ _ ⟨(ckneL (by simp; omega) (ckneL (by simp; omega) (ckneL (by simp; omega) (ckneL (by simp; omega) (ckneL (by simp; omega) hSS.1))))), (ckneL (by simp; omega) (ckneL (by simp; omega) (ckneL (by simp; omega) (ckneL (by simp; omega) (ckneL (by simp; omega) hSS.2.1))))), (ckneL (by simp; omega) (ckneL (by simp; omega) (ckneL (by simp; omega) (ckneL (by simp; omega) (ckneL (by simp; omega) hSS.2.2.1))))), (ckneL (by simp; omega) (ckneL (by simp; omega) (ckneL (by simp; omega) (ckneL (by simp; omega) (ckneL (by simp; omega) hSS.2.2.2.1))))), (ckneL (by simp; omega) (ckneL (by simp; omega) (ckneL (by simp; omega) (ckneL (by simp; omega) (ckneL (by simp; omega) hSS.2.2.2.2.1))))), (ckneL (by simp; omega) (ckneL (by simp; omega) (ckneL (by simp; omega) (ckneL (by simp; omega) (ckneL (by simp; omega) hSS.2.2.2.2.2.1))))), (ckneL (by simp; omega) (ckneL (by simp; omega) (ckneL (by simp; omega) (ckneL (by simp; omega) (ckneL (by simp; omega) hSS.2.2.2.2.2.2.1))))), (ckneL (by simp; omega) (ckneL (by simp; omega) (ckneL (by simp; omega) (ckneL (by simp; omega) (ckneL (by simp; omega) hSS.2.2.2.2.2.2.2.1))))), (ckneL (by simp; omega) (ckneL (by simp; omega) (ckneL (by simp; omega) (ckneL (by simp; omega) (ckneL (by simp; omega) hSS.2.2.2.2.2.2.2.2.1))))), (ckneL (by simp; omega) (ckneL (by simp; omega) (ckneL (by simp; omega) (ckneL (by simp; omega) (ckneL (by simp; omega) hSS.2.2.2.2.2.2.2.2.2)))))⟩ (fun hSS => ?_)
         try simp only [zqN]
         refine wpAnyH_done (by kernel_rfl) ?_ _
         exact ⟨⟨_, _, _, _, _, _, _, _, _, rfl⟩, _, _, _, _, _, _, _, _, rfl, ⟨_, _, _, rfl⟩, hA3, hI3, hT3⟩
        case next =>
         rintro a' w' ⟨⟨v0, v1, v2, v3, v4, v5, v6, v7, v8, rfl⟩, w3, u0, u1, u2, u3, u4, u5, u6, rfl, ⟨q1, q2, q3, rfl⟩, hA3, hI3, hT3⟩
         simp only [zqN]
         have HL3 := Lib.hid ((HS3.out w3 _ hT3 hI3).put HPQ.out hA3)
         clear hA3 hI3 hT3 y0 y1 y2 y3 z0 z1 z2 z3 z4 e0 e1 e2 e3 e4 hx4 k4
         generalize hX5 : Ck.set5 w3 nb (p * 5) (.int .u8 u0) (.string u1) (.string u2) (.slice u3 u4 u5) (.slice q1 q2 q3) = X5 at *
         clear hX5
         have hT1p : ((lpS e true sb p).set p (lpT e s))[p]? = some (lpT e s) := List.getElem?_set_self HPQ.out
         obtain ⟨_, hnX, _, sa2, sc2, ba2, bc2, ⟨e0, e1, e2, e3, e4⟩, hA2⟩ := HL3.out.sub hT1p
         have hlsm := lpT_small e s
         have y0 := HL3.out.g.cell 0
         have y1 := HL3.out.g.cell 1
         have y2 := HL3.out.g.cell 2
         have y3 := HL3.out.g.cell 3
         have k4 := HL3.out.n.cell 4
         simp at y0 y1 y2 y3 k4
         have MAY := Lib.hid (fun (wx : World) (h : Below X5.heap.size X5 wx) => (HMay.out wx (lpT e s) _ (HT.out.trans (HL3.out.t.trans (Tl.below (Nat.le_trans HL3.out.le HL3.out.t.1.size) h))) ((AtX.to _ hA2).below h) (by have := HSM.out.1; have := HCL.out; have := HC.out.2.2.2.2.2; omega)).mono (R' := fun e' w' => e' = .returned (.bool (e (lpT e s))) ∧ Below X5.heap.size X5 w') fun e' w' ⟨h1, h2⟩ => ⟨h1, h.trans (h2.mono h.size)⟩)
         obtain ⟨E, hE⟩ : ∃ b, e (lpT e s) = b := ⟨_, rfl⟩
         rw [hE] at MAY
         have HE := Lib.hid hE
         clear hE hA2 hlsm
         have HT1 := Lib.hid hT1p
         clear hT1p
         generalize htk : (lpT e s).kind = tk at *
         generalize htm : (lpT e s).name = tm at *
         generalize htx : (lpT e s).text = tx at *
         generalize htl : (lpT e s).set.length = tl at *
         generalize htu : (lpT e s).subs.length = tu at *
         clear htk htm htx htl htu
         have HS8 := Lib.hid (fun (wx : World) (h : Below X5.heap.size X5 wx) => show ((wx.cell? ⟨W.heap.size, 0, none⟩ = some (.string s0) ∧ wx.cell? ⟨W.heap.size, 1, none⟩ = some (.int .i64 so1) ∧ wx.cell? ⟨W.heap.size, 2, none⟩ = some (.int .i64 so2) ∧ wx.cell? ⟨W.heap.size, 3, none⟩ = some (.slice sra sn sc) ∧ wx.cell? ⟨W.heap.size + 1, 4, none⟩ = some (.slice (some ⟨nb, 0, none⟩) SN bc') ∧ wx.cell? ⟨nb, p * 5, none⟩ = some (.int .u8 tk) ∧ wx.cell? ⟨nb, p * 5 + 1, none⟩ = some (.string tm) ∧ wx.cell? ⟨nb, p * 5 + 2, none⟩ = some (.string tx) ∧ wx.cell? ⟨nb, p * 5 + 3, none⟩ = some (.slice sa2 tl sc2) ∧ wx.cell? ⟨nb, p * 5 + 4, none⟩ = some (.slice ba2 tu bc2))) from ⟨Nd.cell_keeps h y0, Nd.cell_keeps h y1, Nd.cell_keeps h y2, Nd.cell_keeps h y3, Nd.cell_keeps h k4, Nd.cell_keeps h e0, Nd.cell_keeps h e1, Nd.cell_keeps h e2, Nd.cell_keeps h e3, Nd.cell_keeps h e4⟩)
         have hwr : IntKind.i64.wrap ((sn : Int) - 1) = (sn : Int) - 1 := IntWalk.i64_in _ (by have := HHI.out.2.2.1; omega)
         go_wp2_with fail
         refine wp_cutL (fun a a' w' => (∃ z44 z45 z46 z47 z48 z49 z50 z51 z52 z53 z54 : Value, a' = ((((((((((((a.put (some 44) z44).put (some 45) z45).put (some 46) z46).put (some 47) z47).put (some 48) z48).put (some 49) z49).put (some 50) z50).put (some 51) z51).put (some 52) z52).put (some 53) z53).put (some 54) z54).put (some 12) (.bool E))) ∧ Below X5.heap.size X5 w') ?first ?next
         case first =>
          refine wp_region_held_drew (S := fun w' : World => ((w'.cell? ⟨W.heap.size, 0, none⟩ = some (.string s0) ∧ w'.cell? ⟨W.heap.size, 1, none⟩ = some (.int .i64 so1) ∧ w'.cell? ⟨W.heap.size, 2, none⟩ = some (.int .i64 so2) ∧ w'.cell? ⟨W.heap.size, 3, none⟩ = some (.slice sra sn sc) ∧ w'.cell? ⟨W.heap.size + 1, 4, none⟩ = some (.slice (some ⟨nb, 0, none⟩) SN bc') ∧ w'.cell? ⟨nb, p * 5, none⟩ = some (.int .u8 tk) ∧ w'.cell? ⟨nb, p * 5 + 1, none⟩ = some (.string tm) ∧ w'.cell? ⟨nb, p * 5 + 2, none⟩ = some (.string tx) ∧ w'.cell? ⟨nb, p * 5 + 3, none⟩ = some (.slice sa2 tl sc2) ∧ w'.cell? ⟨nb, p * 5 + 4, none⟩ = some (.slice ba2 tu bc2)))) (by kernel_rfl) ⟨y0, y1, y2, y3, k4, e0, e1, e2, e3, e4⟩ (fun hSS => ?_)
          show wpAnyH _ _ _ _ _ 12 #[false, false, false, false, false, false, false, false, false, false, false, false] _ _
          refine zqT 0 (some 44) _ (zqF 12 1) (by rw [List.getElem?_toArray]; rfl) rfl (by kernel_rfl) rfl (fun _ _ _ h => h) (Or.inl ⟨by rfl, fun w' hSw => by (try dsimp only at hSw); go_simp; try with_reducible rfl⟩) hSS ?_
          simp only [zqN]
          refine zqT 1 (some 45) _ (zqF 12 2) (by rw [List.getElem?_toArray]; rfl) rfl (by kernel_rfl) rfl (fun _ _ _ h => h) (Or.inl ⟨by rfl, fun w' hSw => by (try dsimp only at hSw); go_simp; try with_reducible rfl⟩) hSS ?_
          simp only [zqN]
          refine zqT 2 (some 46) _ (zqF 12 3) (by rw [List.getElem?_toArray]; rfl) rfl (by kernel_rfl) rfl (fun _ _ _ h => h) (Or.inl ⟨by rfl, fun w' hSw => by (try dsimp only at hSw); go_simp; try with_reducible rfl⟩) hSS ?_
          simp only [zqN]
          refine zqT 3 (some 47) _ (zqF 12 4) (by rw [List.getElem?_toArray]; rfl) rfl (by kernel_rfl) rfl (fun _ _ _ h => h) (Or.inl ⟨by rfl, fun w' hSw => by (try dsimp only at hSw); go_simp; try with_reducible rfl⟩) hSS ?_
          simp only [zqN]
          refine zqT 4 (some 48) _ (zqF 12 5) (by rw [List.getElem?_toArray]; rfl) rfl (by kernel_rfl) rfl (fun _ _ _ h => h) (Or.inl ⟨by rfl, fun w' hSw => by (try dsimp only at hSw); go_simp; try with_reducible rfl⟩) hSS ?_
          simp only [zqN]
          refine zqT 5 (some 49) _ (zqF 12 6) (by rw [List.getElem?_toArray]; rfl) rfl (by kernel_rfl) rfl (fun _ _ _ h => h) (Or.inl ⟨by rfl, fun w' hSw => by (try dsimp only at hSw); go_simp; try with_reducible rfl⟩) hSS ?_
          simp only [zqN]
          refine zqT 6 (some 50) _ (zqF 12 7) (by rw [List.getElem?_toArray]; rfl) rfl (by kernel_rfl) rfl (fun _ _ _ h => h) (Or.inl ⟨by rfl, fun w' hSw => by (try dsimp only at hSw); go_simp; try with_reducible rfl⟩) hSS ?_
          simp only [zqN]
          refine zqT 7 (some 51) _ (zqF 12 8) (by rw [List.getElem?_toArray]; rfl) rfl (by kernel_rfl) rfl (fun _ _ _ h => h) (Or.inl ⟨by rfl, fun w' hSw => by (try dsimp only at hSw); go_simp; try with_reducible rfl⟩) hSS ?_
          simp only [zqN]
          refine zqT 8 (some 52) _ (zqF 12 9) (by rw [List.getElem?_toArray]; rfl) rfl (by kernel_rfl) rfl (fun _ _ _ h => h) (Or.inl ⟨by rfl, fun w' hSw => by (try dsimp only at hSw); go_simp; try with_reducible rfl⟩) hSS ?_
          simp only [zqN]
          refine zqT 9 (some 53) _ (zqF 12 10) (by rw [List.getElem?_toArray]; rfl) rfl (by kernel_rfl) rfl (fun _ _ _ h => h) (Or.inl ⟨by rfl, fun w' hSw => by (try dsimp only at hSw); go_simp; try with_reducible rfl⟩) hSS ?_
          simp only [zqN]
          refine come_one (i := 10) (l' := (zqF 12 11)) (by rw [List.getElem?_toArray]; rfl) (by kernel_rfl) rfl (fun K' hK => ?_)
          go_simp
          refine (MAY.out _ (by first | exact Below.refl _ _ | exact (Below.refl _ _).drew)).mono ?_
          rintro e' w4 ⟨rfl, hb4⟩
          have hS4 := HS8.out w4 hb4
          refine hK.out _ _ hS4 (fun hSS => ?_)
          try simp only [zqN]
          refine zqT 11 (some 12) _ (zqF 12 12) (by rw [List.getElem?_toArray]; rfl) rfl (by kernel_rfl) rfl (fun _ _ _ h => h) (Or.inl ⟨by rfl, fun w' hSw => by (try dsimp only at hSw); go_simp; try with_reducible rfl⟩) hSS ?_
          simp only [zqN]
          refine wpAnyH_done (by kernel_rfl) ?_ _
          exact ⟨⟨_, _, _, _, _, _, _, _, _, _, _, rfl⟩, hb4⟩
         case next =>
          rintro a' w4 ⟨⟨z44, z45, z46, z47, z48, z49, z50, z51, z52, z53, z54, rfl⟩, hb4⟩
          simp only [zqN]
          have HL4 := Lib.hid (HL3.out.below hb4)
          have k4 := HL4.out.n.cell 4
          simp at k4
          clear y0 y1 y2 y3 e0 e1 e2 e3 e4 hb4 hnX hwr
          have HB9 := Lib.hid (fun (wx : World) (h : Below w4.heap.size w4 wx) => h)
          have HS9 := Lib.hid (fun (wx : World) (h : Below w4.heap.size w4 wx) => show ((wx.cell? ⟨W.heap.size + 1, 4, none⟩ = some (.slice (some ⟨nb, 0, none⟩) SN bc'))) ∧ (wx.frozen? ⟨nb, p * 5, none⟩ = false ∧ wx.frozen? ⟨nb, p * 5 + 1, none⟩ = false ∧ wx.frozen? ⟨nb, p * 5 + 2, none⟩ = false ∧ wx.frozen? ⟨nb, p * 5 + 3, none⟩ = false ∧ wx.frozen? ⟨nb, p * 5 + 4, none⟩ = false) ∧
           ∃ q0 q1 q2 q3 q4, wx.cell? ⟨nb, p * 5, none⟩ = some q0 ∧ wx.cell? ⟨nb, p * 5 + 1, none⟩ = some q1 ∧ wx.cell? ⟨nb, p * 5 + 2, none⟩ = some q2 ∧ wx.cell? ⟨nb, p * 5 + 3, none⟩ = some q3 ∧ wx.cell? ⟨nb, p * 5 + 4, none⟩ = some q4 from by
           have hl := HL4.out.below h
           have hn := hl.n
           obtain ⟨_, _, hf, _, _, _, _, ⟨c0, c1, c2, c3, c4⟩, _⟩ := hl.sub HT1.out
           exact ⟨by have := hn.cell 4; simpa using this, hf, _, _, _, _, _, c0, c1, c2, c3, c4⟩)
          have hne1 := HNB.out.1
          go_wp2_with fail
          refine wp_cutL (fun a a' w' => (∃ z55 z56 z57 z58 z59 z60 : Value, a' = ((((((a.put (some 55) z55).put (some 56) z56).put (some 57) z57).put (some 58) z58).put (some 59) z59).put (some 60) z60)) ∧ ∃ w5, w' = Ck.set5 w5 nb (p * 5) (.int .u8 (if E then 1 else 0)) (.string ⟨#[]⟩) (.string ⟨#[]⟩) (.slice none 0 0) (.slice none 0 0) ∧ Below w4.heap.size w4 w5) ?first2 ?next2
          case first2 =>
           refine wp_region_held_drew (S := fun w' : World => ((w'.cell? ⟨W.heap.size + 1, 4, none⟩ = some (.slice (some ⟨nb, 0, none⟩) SN bc')))) (by kernel_rfl) k4 (fun hSS => ?_)
           show wpAnyH _ _ _ _ _ 7 #[false, false, false, false, false, false, false] _ _
           refine zqT 0 (some 55) _ (zqF 7 1) (by rw [List.getElem?_toArray]; rfl) rfl (by kernel_rfl) rfl (fun _ _ _ h => h) (Or.inl ⟨by rfl, fun w' hSw => by (try dsimp only at hSw); go_simp; try with_reducible rfl⟩) hSS ?_
           simp only [zqN]
           refine zqT 1 (some 56) _ (zqF 7 2) (by rw [List.getElem?_toArray]; rfl) rfl (by kernel_rfl) rfl (fun _ _ _ h => h) (Or.inl ⟨by rfl, fun w' hSw => by (try dsimp only at hSw); go_simp; try with_reducible rfl⟩) hSS ?_
           simp only [zqN]
           refine zqT 2 (some 57) _ (zqF 7 3) (by rw [List.getElem?_toArray]; rfl) rfl (by kernel_rfl) rfl (fun _ _ _ h => h) (Or.inl ⟨by rfl, fun w' hSw => by (try dsimp only at hSw); go_simp; try with_reducible rfl⟩) hSS ?_
           simp only [zqN]
           refine zqT 3 (some 58) _ (zqF 7 4) (by rw [List.getElem?_toArray]; rfl) rfl (by kernel_rfl) rfl (fun _ _ _ h => h) (Or.inl ⟨by rfl, fun w' hSw => by (try dsimp only at hSw); go_simp; try with_reducible rfl⟩) hSS ?_
           simp only [zqN]
           refine come_one (i := 4) (l' := (zqF 7 5)) (by rw [List.getElem?_toArray]; rfl) (by kernel_rfl) rfl (fun K' hK => ?_)
           go_simp
           refine (HSt.out E _).mono ?_
           rintro e' w5 ⟨rfl, hb5⟩
           obtain ⟨hS5, ⟨f0, f1, f2, f3, f4⟩, r0, r1, r2, r3, r4, t0, t1, t2, t3, t4⟩ := HS9.out w5 (by first | exact hb5 | exact (Below.refl _ _).drew.trans hb5)
           refine hK.out _ _ hS5 (fun hSS => ?_)
           try simp only [zqN]
           refine zqT 5 (some 60) _ (zqF 7 6) (by rw [List.getElem?_toArray]; rfl) rfl (by kernel_rfl) rfl (fun _ _ _ h => h) (Or.inl ⟨by rfl, fun w' hSw => by (try dsimp only at hSw); go_simp; try with_reducible rfl⟩) hSS ?_
           simp only [zqN]
           refine come_one (i := 6) (l' := (zqF 7 7)) (by rw [List.getElem?_toArray]; rfl) (by kernel_rfl) rfl (fun K' hK => ?_)
           go_simp
           skip
           refine hK.out _ _ (ckneL (by simp; omega) (ckneL (by simp; omega) (ckneL (by simp; omega) (ckneL (by simp; omega) (ckneL (by simp; omega) hSS))))) (fun hSS => ?_)
           try simp only [zqN]
           refine wpAnyH_done (by kernel_rfl) ?_ _
           exact ⟨⟨_, _, _, _, _, _, rfl⟩, w5, rfl, HB9.out w5 (by first | exact hb5 | exact (Below.refl _ _).drew.trans hb5)⟩
          case next2 =>
           rintro a' w' ⟨⟨z55, z56, z57, z58, z59, z60, rfl⟩, w5, rfl, hb5⟩
           simp only [zqN]
           have HL6 := (HL4.out.below hb5).put (by rw [List.length_set]; exact HPQ.out) (stand_atX _ w5 E)
           have hput : ((lpS e true sb p).set p (lpT e s)).set p (stand E) = lpS e true sb (p + 1) := by
            rw [List.set_set, ← HE.out]
            exact lpS_put (e := e) (lp := true) HSS.out
           rw [hput] at HL6
           have hcnt := HSM.out.2.1
           rw [HE.out] at hcnt
           replace HL6 := Lib.hid HL6
           generalize Ck.set5 w5 nb (p * 5) (.int .u8 (if E then 1 else 0)) (.string ⟨#[]⟩) (.string ⟨#[]⟩) (.slice none 0 0) (.slice none 0 0) = X6 at *
           clear hb5 k4
           cases E with
           | false =>
            simp only [Bool.true_and, Bool.and_false, Bool.false_eq_true, if_false, Nat.add_zero] at hcnt
            rw [← hcnt] at HL6
            go_wp2_with fail
            exact ⟨⟨p + 1, by omega, by go_num, HL6⟩, by simp [intOf]; omega⟩
           | true =>
            by_cases hp0 : p = 0
            · have hcnt2 : lpK e true sb (p + 1) = lpK e true sb p + lpN e s + 1 := by rw [hcnt, hp0]; simp
              have hrep : (L ++ List.replicate (lpK e true sb p + lpN e s) ⟨6, (i : Int), nm⟩) ++ [⟨6, (i : Int), nm⟩] = L ++ List.replicate (lpK e true sb (p + 1)) ⟨6, (i : Int), nm⟩ := by rw [hcnt2, ← rep_add _ 1]; rfl
              obtain ⟨_, pv, hKc, _⟩ := HL6.out.i
              have c3 := hKc.cell 3
              simp at c3
              rw [HRA.out] at c3
              have cn := HNm.out X6 (HT.out.trans HL6.out.t)
              have HTE := Lib.hid (tell_any n₀ cp cv (L ++ List.replicate (lpK e true sb p + lpN e s) ⟨6, (i : Int), nm⟩) 6 i nm X6 HL6.out.i HHI.out.2.1 (by rw [List.length_append, List.length_replicate]; have := HLn.out; have := HSM.out.2.2; omega))
              have pi0 : (i : Int) < (cv.rn : Int) := by have := HHI.out.1; omega
              have pi1 : (cv.rn : Int) ≤ 1000000 := by have := HHI.out.1; omega
              generalize cv.rn = CR at *
              generalize cv.rc = CC at *
              clear hKc hcnt hcnt2
              subst hp0
              go_wp2_with (go_at_call 46; refine (HTE.out).mono ?_; rintro e' w7 ⟨⟨v7, rfl⟩, hI7, hT7⟩)
              rw [hrep] at hI7
              exact ⟨⟨0 + 1, by omega, by go_num, Lib.hid (HL6.out.to hT7 hI7)⟩, by simp [intOf]; omega⟩
            · have hcnt2 : lpK e true sb (p + 1) = lpK e true sb p + lpN e s := by rw [hcnt]; simp [hp0]
              rw [← hcnt2] at HL6
              have hpq : ((p : Int) == 0) = false := by rw [beq_eq_false_iff_ne]; omega
              have hpr : ¬ ((p : Int) = 0) := by omega
              clear hcnt hcnt2
              go_wp2_with fail
              exact ⟨⟨p + 1, by omega, by go_num, HL6⟩, by simp [intOf]; omega⟩
      · have d0 : decide (p < SN) = false := by rw [decide_eq_false_iff_not]; exact hlt
        have hpe : p = sb.length := by rw [HSN.out]; omega
        have hLI2 := hLI.out
        have hlk : lpK e true sb sb.length = lpN e (.mk k xn xt st sb) := by rw [← HLP.out]; exact lpK_end e k xn xt st sb
        rw [hpe, lpS_end, hlk] at hLI2
        have hN := hLI2.n
        have hR := hLI2.r
        have a0 := hN.cell 0
        have a1 := hN.cell 1
        have a2 := hN.cell 2
        have a3 := hN.cell 3
        have b0 := hR.cell 0
        have b1 := hR.cell 1
        have b2 := hR.cell 2
        have b3 := hR.cell 3
        have b4 := hR.cell 4
        have c0 := hR.free 0
        have c1 := hR.free 1
        have c2 := hR.free 2
        have c3 := hR.free 3
        have c4 := hR.free 4
        simp at a0 a1 a2 a3 b0 b1 b2 b3 b4
        have HR5 := Lib.hid (((((hR.set 0 (.int .u8 k)).set 1 (.string xn)).set 2 (.string xt)).set 3 (.slice sa SL sc')).set 4 (.slice ba' SN bc'))
        have HD := Lib.hid (hLI2.done (.int .u8 k) (.string xn) (.string xt) (.slice sa SL sc') (.slice ba' SN bc'))
        clear hN hR hLI2 hLI hlk hpe
        go_wp2_with fail
        refine bodyPost_ret (v := .agg #[.int .u8 k, .string xn, .string xt, .slice sa SL sc', .slice ba' SN bc']) ?_ rfl ?_
        · have z0 := HR5.out.cell 0
          have z1 := HR5.out.cell 1
          have z2 := HR5.out.cell 2
          have z3 := HR5.out.cell 3
          have z4 := HR5.out.cell 4
          clear a0 a1 a2 a3 b0 b1 b2 b3 b4 c0 c1 c2 c3 c4
          simp at z0 z1 z2 z3 z4
          simp [results, Tryd.results62, go_sem, z0, z1, z2, z3, z4]
        · obtain ⟨d1, d2, d3⟩ := HD.out
          refine ⟨⟨_, rfl, ?_⟩, d2, d3⟩
          obtain ⟨hk, hxn, hxt, hsc, hRg, _⟩ := HC.out
          have hll : (lpL e true sb).length = SN := by rw [lpL_len, HSN.out]
          simp only [lpT, HLP.out]
          unfold AtX
          rw [hll, HSL.out]
          rw [HSL.out] at hsc
          exact ⟨sa, sc', ba', bc', rfl, hk, hxn, hxt, hsc, ⟨HBC.out, by omega⟩, RgX.keep (fun k hk => .inl (HP0.out k hk)) (Ck.Tl.stay d3 fun k hk => (HP.out k hk).1) hRg, AtLX.keep (fun k hk => hk.imp (HP0.out k) id) (fun _ _ _ => rfl) _ d1⟩
   · have q3 : (k == 3) = false := by simpa using hk3
     have q4 : (k == 4) = false := by simpa using hk4
     have hlp : isLoop k = false := by unfold isLoop; first | exact decide_eq_true (by omega) | exact decide_eq_false (by omega)
     have HLP := Lib.hid hlp
     clear hlp hk3 hk4
     go_enter Tryd.func62, Tryd.ntmps62
     go_wp2_with fail
     refine (CL.out _ HB1.out).mono ?_
     rintro e' w2 ⟨⟨ba', bc', rfl, hbc', hrow⟩, hb⟩
     have hK2 := HKN.out.below hb HKN.out.lt
     have c4 := hK2.cell 4
     have f4 := hK2.free 4
     simp at c4
     have HL0 := Lib.hid (show Ck.LI n₀ cp cv P W #[.string s0, .int .i64 so1, .int .i64 so2, .slice sra sn sc] #[.int .u8 k, .string xn, .string xt, .slice sa SL sc', .slice ba' SN bc'] ba' (lpS e false sb 0) (L ++ List.replicate (lpK e false sb 0) ⟨6, (i : Int), nm⟩) (w2.setCell ⟨W.heap.size + 1, 4, none⟩ (.slice ba' SN bc')) from by
      rw [lpS_start, lpK_start]
      have := LI.start (ba := ba') (ts := sb) (g5 := #[.string s0, .int .i64 so1, .int .i64 so2, .slice sra sn sc]) (n5 := #[.int .u8 k, .string xn, .string xt, .slice sa SL sc', .slice ba SN bc]) HI.out HHI.out.2.2.2 HP.out (.slice ba' SN bc') hb (hrow.imp id fun ⟨nb, h1, h2, h3⟩ => ⟨nb, h1, by simp at h2; omega, h3⟩)
      simpa using this)
     have hgo : (w2.setCell ⟨W.heap.size + 1, 4, none⟩ (.slice ba' SN bc')).cell? ⟨W.heap.size + 1, 4, none⟩ = some (.slice ba' SN bc') := by have := HL0.out.n.cell 4; simpa using this
     clear hb hrow hK2 a0 a4
     have HBC := Lib.hid hbc'
     clear hbc'
     go_wp2_with fail
     go_loopw [28] (fun j wr => ∃ p, p ≤ SN ∧ j = .int .i64 p ∧ Hid (Ck.LI n₀ cp cv P W #[.string s0, .int .i64 so1, .int .i64 so2, .slice sra sn sc] #[.int .u8 k, .string xn, .string xt, .slice sa SL sc', .slice ba' SN bc'] ba' (lpS e false sb p) (L ++ List.replicate (lpK e false sb p) ⟨6, (i : Int), nm⟩) wr)) (fun j _ => SN - (intOf j).toNat)
     case atStart => exact ⟨0, Nat.zero_le _, rfl, HL0⟩
     case round =>
      obtain ⟨p, hp, rfl, hLI⟩ := hrel
      have k4 : wr.cell? ⟨W.heap.size + 1, 4, none⟩ = some (.slice ba' SN bc') := by have := hLI.out.n.cell 4; simpa using this
      by_cases hlt : p < SN
      · have p0 : (p : Int) < (SN : Int) := by omega
        have d0 : decide (p < SN) = true := by rw [decide_eq_true_iff]; exact hlt
        obtain ⟨s, hs⟩ : ∃ s, sb[p]? = some s := ⟨_, List.getElem?_eq_getElem (by rw [HSN.out]; exact hlt)⟩
        obtain ⟨nb, rfl⟩ : ∃ nb, ba' = some ⟨nb, 0, none⟩ := by
         rcases hLI.out.row with ⟨_, h2⟩ | ⟨nb, h1, _⟩
         · have := lpS_len e false sb p; rw [h2, HSN.out] at this; simp at this; omega
         · exact ⟨nb, h1⟩
        obtain ⟨hnb1, hnb2, _, sa1, sc1, ba1, bc1, ⟨e0, e1, e2, e3, e4⟩, hAs⟩ := hLI.out.sub (lpS_at (e := e) (lp := false) hs)
        have hss := deep_sub hs
        have hks := lpK_more (e := e) (lp := false) hs
        have hkm : lpK e false sb (p + 1) ≤ lpN e (.mk k xn xt st sb) := by
         rw [← lpK_end e k xn xt st sb, HLP.out]
         unfold lpK
         rw [List.take_length]
         exact lpNL_mono e false sb (p + 1) true
        have HX1 := Lib.hid (hLI.out.below (X' := wr.alloc (.cells #[.int .u8 s.kind, .string s.name, .string s.text, .slice sa1 s.set.length sc1, .slice ba1 s.subs.length bc1] 34)) ((Below.refl _ _).alloc (Nat.le_refl _) _))
        have HSB := Lib.hid (Bk.made wr 34 #[.int .u8 s.kind, .string s.name, .string s.text, .slice sa1 s.set.length sc1, .slice ba1 s.subs.length bc1])
        have hT1 : Tl n₀ wr (wr.alloc (.cells #[.int .u8 s.kind, .string s.name, .string s.text, .slice sa1 s.set.length sc1, .slice ba1 s.subs.length bc1] 34)) := Tl.below (Nat.le_trans hLI.out.le hLI.out.t.1.size) ((Below.refl _ _).alloc (Nat.le_refl _) _)
        have hA1 : AtX (fun k => P k ∨ (nb < k ∧ Fx n₀ (wr.alloc (.cells #[.int .u8 s.kind, .string s.name, .string s.text, .slice sa1 s.set.length sc1, .slice ba1 s.subs.length bc1] 34)) k)) (wr.alloc (.cells #[.int .u8 s.kind, .string s.name, .string s.text, .slice sa1 s.set.length sc1, .slice ba1 s.subs.length bc1] 34)) s (.agg #[.int .u8 s.kind, .string s.name, .string s.text, .slice sa1 s.set.length sc1, .slice ba1 s.subs.length bc1]) :=
         AtX.wide (fun k hk => hk.imp id fun hk => ⟨hk.1, hk.2.tl hT1⟩) (hAs.tl hT1 fun k hk => hk.elim (fun hk => ((HP.out k hk).1).tl hLI.out.t) fun hk => hk.2)
        have CA := Lib.hid (fun (wx : World) (h : Below (wr.alloc (.cells #[.int .u8 s.kind, .string s.name, .string s.text, .slice sa1 s.set.length sc1, .slice ba1 s.subs.length bc1] 34)).heap.size (wr.alloc (.cells #[.int .u8 s.kind, .string s.name, .string s.text, .slice sa1 s.set.length sc1, .slice ba1 s.subs.length bc1] 34)) wx) =>
         ((HIH.out s (List.mem_of_getElem? hs)) (by have := HC.out.2.2.2.2.2; omega) (by have := HCL.out; omega) (fun k => P k ∨ (nb < k ∧ Fx n₀ wx k)) (.agg #[.int .u8 s.kind, .string s.name, .string s.text, .slice sa1 s.set.length sc1, .slice ba1 s.subs.length bc1]) wx (L ++ List.replicate (lpK e false sb p) ⟨6, (i : Int), nm⟩)
          (HT.out.trans (HX1.out.t.trans (Tl.below (Nat.le_trans HX1.out.le HX1.out.t.1.size) h)))
          (AtX.wide (fun k hk => hk.imp id fun hk => ⟨hk.1, hk.2.tl (Tl.below (Nat.le_trans HX1.out.le HX1.out.t.1.size) h)⟩) (hA1.tl (Tl.below (Nat.le_trans HX1.out.le HX1.out.t.1.size) h) fun k hk => hk.elim (fun hk => ((HP.out k hk).1).tl HX1.out.t) fun hk => hk.2))
          (fun k hk => hk.elim (fun hk => (((HP.out k hk).1).tl HX1.out.t).tl (Tl.below (Nat.le_trans HX1.out.le HX1.out.t.1.size) h)) fun hk => hk.2)
          (HX1.out.i.below h) (by rw [List.length_append, List.length_replicate]; have := HLn.out; omega)).mono (R' := fun e' w3 => ∃ u0 u1 u2 u3 u4 u5 u6, e' = .returned (.agg #[.int .u8 u0, .string u1, .string u2, .slice u3 u4 u5, u6]) ∧ (∃ q1 q2 q3, u6 = .slice q1 q2 q3) ∧
           AtX (fun k => P k ∨ (nb < k ∧ Fx n₀ w3 k)) w3 (lpT e s) (.agg #[.int .u8 u0, .string u1, .string u2, .slice u3 u4 u5, u6]) ∧ CkI n₀ cp cv (L ++ List.replicate (lpK e false sb p + lpN e s) ⟨6, (i : Int), nm⟩) w3 ∧ Tl n₀ (wr.alloc (.cells #[.int .u8 s.kind, .string s.name, .string s.text, .slice sa1 s.set.length sc1, .slice ba1 s.subs.length bc1] 34)) w3) fun e' w3 ⟨⟨v', h1, h2⟩, h3, h4⟩ => by
          obtain ⟨x1, x2, x3, x4, rfl⟩ := h2.five
          refine ⟨_, _, _, _, _, _, _, h1, ⟨_, _, _, rfl⟩, AtX.wide (fun k hk => ?_) h2, by rw [← rep_add]; exact h3, (Tl.below (Nat.le_trans HX1.out.le HX1.out.t.1.size) h).trans h4⟩
          rcases hk with hk | hk
          · exact hk.imp id fun hk => ⟨hk.1, hk.2.tl h4⟩
          · exact .inr ⟨by have := h.size; simp at this; omega, hk.2⟩)
        have hx4 : (wr.alloc (.cells #[.int .u8 s.kind, .string s.name, .string s.text, .slice sa1 s.set.length sc1, .slice ba1 s.subs.length bc1] 34)).cell? ⟨W.heap.size + 1, 4, none⟩ = some (.slice (some ⟨nb, 0, none⟩) SN bc') := by have := HX1.out.n.cell 4; simpa using this
        have hxg : (wr.alloc (.cells #[.int .u8 s.kind, .string s.name, .string s.text, .slice sa1 s.set.length sc1, .slice ba1 s.subs.length bc1] 34)).cell? ⟨W.heap.size, 0, none⟩ = some (.string s0) ∧ (wr.alloc (.cells #[.int .u8 s.kind, .string s.name, .string s.text, .slice sa1 s.set.length sc1, .slice ba1 s.subs.length bc1] 34)).cell? ⟨W.heap.size, 1, none⟩ = some (.int .i64 so1) ∧ (wr.alloc (.cells #[.int .u8 s.kind, .string s.name, .string s.text, .slice sa1 s.set.length sc1, .slice ba1 s.subs.length bc1] 34)).cell? ⟨W.heap.size, 2, none⟩ = some (.int .i64 so2) ∧ (wr.alloc (.cells #[.int .u8 s.kind, .string s.name, .string s.text, .slice sa1 s.set.length sc1, .slice ba1 s.subs.length bc1] 34)).cell? ⟨W.heap.size, 3, none⟩ = some (.slice sra sn sc) := by
         have h := HX1.out.g
         exact ⟨by have := h.cell 0; simpa using this, by have := h.cell 1; simpa using this, by have := h.cell 2; simpa using this, by have := h.cell 3; simpa using this⟩
        have hxs : (wr.alloc (.cells #[.int .u8 s.kind, .string s.name, .string s.text, .slice sa1 s.set.length sc1, .slice ba1 s.subs.length bc1] 34)).cell? ⟨wr.heap.size, 0, none⟩ = some (.int .u8 s.kind) ∧ (wr.alloc (.cells #[.int .u8 s.kind, .string s.name, .string s.text, .slice sa1 s.set.length sc1, .slice ba1 s.subs.length bc1] 34)).cell? ⟨wr.heap.size, 1, none⟩ = some (.string s.name) ∧ (wr.alloc (.cells #[.int .u8 s.kind, .string s.name, .string s.text, .slice sa1 s.set.length sc1, .slice ba1 s.subs.length bc1] 34)).cell? ⟨wr.heap.size, 2, none⟩ = some (.string s.text) ∧ (wr.alloc (.cells #[.int .u8 s.kind, .string s.name, .string s.text, .slice sa1 s.set.length sc1, .slice ba1 s.subs.length bc1] 34)).cell? ⟨wr.heap.size, 3, none⟩ = some (.slice sa1 s.set.length sc1) ∧ (wr.alloc (.cells #[.int .u8 s.kind, .string s.name, .string s.text, .slice sa1 s.set.length sc1, .slice ba1 s.subs.length bc1] 34)).cell? ⟨wr.heap.size, 4, none⟩ = some (.slice ba1 s.subs.length bc1) := by
         have h := HSB.out
         exact ⟨h.cell 0, h.cell 1, h.cell 2, h.cell 3, h.cell 4⟩
        obtain ⟨y0, y1, y2, y3⟩ := hxg
        obtain ⟨z0, z1, z2, z3, z4⟩ := hxs
        have HS3 := Lib.hid (fun (w3 : World) (L' : List Pr) (hT : Tl n₀ (wr.alloc (.cells #[.int .u8 s.kind, .string s.name, .string s.text, .slice sa1 s.set.length sc1, .slice ba1 s.subs.length bc1] 34)) w3) (hI : CkI n₀ cp cv L' w3) => HX1.out.to hT hI)
        have HSM := Lib.hid (And.intro hss (And.intro hks hkm))
        have HNB := Lib.hid (And.intro hnb1 hnb2)
        have HPQ := Lib.hid (show p < (lpS e false sb p).length from by rw [lpS_len, HSN.out]; exact hlt)
        have HSS := Lib.hid hs
        have HAT := Lib.hid (fun (w3 : World) (L' : List Pr) (hT : Tl n₀ (wr.alloc (.cells #[.int .u8 s.kind, .string s.name, .string s.text, .slice sa1 s.set.length sc1, .slice ba1 s.subs.length bc1] 34)) w3) (hI : CkI n₀ cp cv L' w3) => show (w3.cell? ⟨W.heap.size, 0, none⟩ = some (.string s0) ∧ w3.cell? ⟨W.heap.size, 1, none⟩ = some (.int .i64 so1) ∧ w3.cell? ⟨W.heap.size, 2, none⟩ = some (.int .i64 so2) ∧ w3.cell? ⟨W.heap.size, 3, none⟩ = some (.slice sra sn sc) ∧ w3.cell? ⟨W.heap.size + 1, 4, none⟩ = some (.slice (some ⟨nb, 0, none⟩) SN bc') ∧
         w3.cell? ⟨wr.heap.size, 0, none⟩ = some (.int .u8 s.kind) ∧ w3.cell? ⟨wr.heap.size, 1, none⟩ = some (.string s.name) ∧ w3.cell? ⟨wr.heap.size, 2, none⟩ = some (.string s.text) ∧ w3.cell? ⟨wr.heap.size, 3, none⟩ = some (.slice sa1 s.set.length sc1) ∧ w3.cell? ⟨wr.heap.size, 4, none⟩ = some (.slice ba1 s.subs.length bc1)) ∧
         (w3.frozen? ⟨nb, p * 5, none⟩ = false ∧ w3.frozen? ⟨nb, p * 5 + 1, none⟩ = false ∧ w3.frozen? ⟨nb, p * 5 + 2, none⟩ = false ∧ w3.frozen? ⟨nb, p * 5 + 3, none⟩ = false ∧ w3.frozen? ⟨nb, p * 5 + 4, none⟩ = false) ∧
         ∃ q0 q1 q2 q3 q4, w3.cell? ⟨nb, p * 5, none⟩ = some q0 ∧ w3.cell? ⟨nb, p * 5 + 1, none⟩ = some q1 ∧ w3.cell? ⟨nb, p * 5 + 2, none⟩ = some q2 ∧ w3.cell? ⟨nb, p * 5 + 3, none⟩ = some q3 ∧ w3.cell? ⟨nb, p * 5 + 4, none⟩ = some q4 from by
         have h := HS3.out w3 L' hT hI
         have hg := h.g
         have hn := h.n
         have hb := hT.bk HSB.out (by decide) (by decide)
         obtain ⟨_, _, hf, _, _, _, _, ⟨c0, c1, c2, c3, c4⟩, _⟩ := h.sub (lpS_at (e := e) (lp := false) HSS.out)
         exact ⟨⟨by have := hg.cell 0; simpa using this, by have := hg.cell 1; simpa using this, by have := hg.cell 2; simpa using this, by have := hg.cell 3; simpa using this, by have := hn.cell 4; simpa using this,
          by have := hb.cell 0; simpa using this, by have := hb.cell 1; simpa using this, by have := hb.cell 2; simpa using this, by have := hb.cell 3; simpa using this, by have := hb.cell 4; simpa using this⟩, hf, _, _, _, _, _, c0, c1, c2, c3, c4⟩)
        clear hss hks hkm hnb1 hnb2 hs hAs hA1 hT1 hLI
        generalize s.kind = sk at *
        generalize s.name = sm at *
        generalize s.text = sx at *
        generalize s.set.length = sl at *
        generalize s.subs.length = su at *
        go_wp2_with fail
        refine wp_cutL (fun a a' w' => (∃ z0 z1 z2 z3 z4 z5 z6 z7 z8 : Value, a' = ((((((((((a.put (some 33) z0).put (some 34) z1).put (some 35) z2).put (some 36) z3).put (some 37) z4).put (some 38) z5).put (some 39) z6).put (some 40) z7).put (some 41) z8))) ∧ ∃ w3 u0 u1 u2 u3 u4 u5 u6, w' = Ck.set5 w3 nb (p * 5) (.int .u8 u0) (.string u1) (.string u2) (.slice u3 u4 u5) u6 ∧ (∃ q1 q2 q3, u6 = .slice q1 q2 q3) ∧
         AtX (fun k => P k ∨ (nb < k ∧ Fx n₀ w3 k)) w3 (lpT e s) (.agg #[.int .u8 u0, .string u1, .string u2, .slice u3 u4 u5, u6]) ∧ CkI n₀ cp cv (L ++ List.replicate (lpK e false sb p + lpN e s) ⟨6, (i : Int), nm⟩) w3 ∧ Tl n₀ (wr.alloc (.cells #[.int .u8 sk, .string sm, .string sx, .slice sa1 sl sc1, .slice ba1 su bc1] 34)) w3) ?first ?next
        case first =>
         have hne1 := HNB.out.1
         have hne2 := HNB.out.2
         refine wp_region_held_drew (S := fun w' : World => ((w'.cell? ⟨W.heap.size, 0, none⟩ = some (.string s0) ∧ w'.cell? ⟨W.heap.size, 1, none⟩ = some (.int .i64 so1) ∧ w'.cell? ⟨W.heap.size, 2, none⟩ = some (.int .i64 so2) ∧ w'.cell? ⟨W.heap.size, 3, none⟩ = some (.slice sra sn sc) ∧ w'.cell? ⟨W.heap.size + 1, 4, none⟩ = some (.slice (some ⟨nb, 0, none⟩) SN bc') ∧ w'.cell? ⟨wr.heap.size, 0, none⟩ = some (.int .u8 sk) ∧ w'.cell? ⟨wr.heap.size, 1, none⟩ = some (.string sm) ∧ w'.cell? ⟨wr.heap.size, 2, none⟩ = some (.string sx) ∧ w'.cell? ⟨wr.heap.size, 3, none⟩ = some (.slice sa1 sl sc1) ∧ w'.cell? ⟨wr.heap.size, 4, none⟩ = some (.slice ba1 su bc1)))) (by kernel_rfl) ⟨y0, y1, y2, y3, hx4, z0, z1, z2, z3, z4⟩ (fun hSS => ?_)
         show wpAnyH _ _ _ _ _ 10 #[false, false, false, false, false, false, false, false, false, false] _ _
         refine zqT 0 (some 33) _ (zqF 10 1) (by rw [List.getElem?_toArray]; rfl) rfl (by kernel_rfl) rfl (fun _ _ _ h => h) (Or.inl ⟨by rfl, fun w' hSw => by (try dsimp only at hSw); go_simp; try with_reducible rfl⟩) hSS ?_
         simp only [zqN]
         refine zqT 1 (some 34) _ (zqF 10 2) (by rw [List.getElem?_toArray]; rfl) rfl (by kernel_rfl) rfl (fun _ _ _ h => h) (Or.inl ⟨by rfl, fun w' hSw => by (try dsimp only at hSw); go_simp; try with_reducible rfl⟩) hSS ?_
         simp only [zqN]
         refine zqT 2 (some 35) _ (zqF 10 3) (by rw [List.getElem?_toArray]; rfl) rfl (by kernel_rfl) rfl (fun _ _ _ h => h) (Or.inl ⟨by rfl, fun w' hSw => by (try dsimp only at hSw); go_simp; try with_reducible rfl⟩) hSS ?_
         simp only [zqN]
         refine zqT 3 (some 36) _ (zqF 10 4) (by rw [List.getElem?_toArray]; rfl) rfl (by kernel_rfl) rfl (fun _ _ _ h => h) (Or.inl ⟨by rfl, fun w' hSw => by (try dsimp only at hSw); go_simp; try with_reducible rfl⟩) hSS ?_
         simp only [zqN]
         refine zqT 4 (some 37) _ (zqF 10 5) (by rw [List.getElem?_toArray]; rfl) rfl (by kernel_rfl) rfl (fun _ _ _ h => h) (Or.inl ⟨by rfl, fun w' hSw => by (try dsimp only at hSw); go_simp; try with_reducible rfl⟩) hSS ?_
         simp only [zqN]
         refine zqT 5 (some 38) _ (zqF 10 6) (by rw [List.getElem?_toArray]; rfl) rfl (by kernel_rfl) rfl (fun _ _ _ h => h) (Or.inl ⟨by rfl, fun w' hSw => by (try dsimp only at hSw); go_simp; try with_reducible rfl⟩) hSS ?_
         simp only [zqN]
         refine zqT 6 (some 39) _ (zqF 10 7) (by rw [List.getElem?_toArray]; rfl) rfl (by kernel_rfl) rfl (fun _ _ _ h => h) (Or.inl ⟨by rfl, fun w' hSw => by (try dsimp only at hSw); go_simp; try with_reducible rfl⟩) hSS ?_
         simp only [zqN]
         refine come_one (i := 7) (l' := (zqF 10 8)) (by rw [List.getElem?_toArray]; rfl) (by kernel_rfl) rfl (fun K' hK => ?_)
         go_simp
         refine (CA.out _ (by first | exact Below.refl _ _ | exact (Below.refl _ _).drew)).mono ?_
         rintro e' w3 ⟨u0, u1, u2, u3, u4, u5, u6, rfl, ⟨q1, q2, q3, rfl⟩, hA3, hI3, hT3⟩
         obtain ⟨hS3, ⟨f0, f1, f2, f3, f4⟩, r0, r1, r2, r3, r4, t0, t1, t2, t3, t4⟩ := HAT.out w3 _ hT3 hI3
         refine hK.out _ _ hS3 (fun hSS => ?_)
         try simp only [zqN]
         refine zqT 8 (some 41) _ (zqF 10 9) (by rw [List.getElem?_toArray]; rfl) rfl (by kernel_rfl) rfl (fun _ _ _ h => h) (Or.inl ⟨by rfl, fun w' hSw => by (try dsimp only at hSw); go_simp; try with_reducible rfl⟩) hSS ?_
         simp only [zqN]
         refine come_one (i := 9) (l' := (zqF 10 10)) (by rw [List.getElem?_toArray]; rfl) (by kernel_rfl) rfl (fun K' hK => ?_)
         go_simp
         skip
         refine hK.out _ _ ⟨(ckneL (by simp; omega) (ckneL (by simp; omega) (ckneL (by simp; omega) (ckneL (by simp; omega) (ckneL (by simp; omega) hSS.1))))), (ckneL (by simp; omega) (ckneL (by simp; omega) (ckneL (by simp; omega) (ckneL (by simp; omega) (ckneL (by simp; omega) hSS.2.1))))), (ckneL (by simp; omega) (ckneL (by simp; omega) (ckneL (by simp; omega) (ckneL (by simp; omega) (ckneL (by simp; omega) hSS.2.2.1))))), (ckneL (by simp; omega) (ckneL (by simp; omega) (ckneL (by simp; omega) (ckneL (by simp; omega) (ckneL (by simp; omega) hSS.2.2.2.1))))), (ckneL (by simp; omega) (ckneL (by simp; omega) (ckneL (by simp; omega) (ckneL (by simp; omega) (ckneL (by simp; omega) hSS.2.2.2.2.1))))), (ckneL (by simp; omega) (ckneL (by simp; omega) (ckneL (by simp; omega) (ckneL (by simp; omega) (ckneL (by simp; omega) hSS.2.2.2.2.2.1))))), (ckneL (by simp; omega) (ckneL (by simp; omega) (ckneL (by simp; omega) (ckneL (by simp; omega) (ckneL (by simp; omega) hSS.2.2.2.2.2.2.1))))), (ckneL (by simp; omega) (ckneL (by simp; omega) (ckneL (by simp; omega) (ckneL (by simp; omega) (ckneL (by simp; omega) hSS.2.2.2.2.2.2.2.1))))), (ckneL (by simp; omega) (ckneL (by simp; omega) (ckneL (by simp; omega) (ckneL (by simp; omega) (ckneL (by simp; omega) hSS.2.2.2.2.2.2.2.2.1))))), (ckneL (by simp; omega) (ckneL (by simp; omega) (ckneL (by simp; omega) (ckneL (by simp; omega) (ckneL (by simp; omega) hSS.2.2.2.2.2.2.2.2.2)))))⟩ (fun hSS => ?_)
         try simp only [zqN]
         refine wpAnyH_done (by kernel_rfl) ?_ _
         exact ⟨⟨_, _, _, _, _, _, _, _, _, rfl⟩, _, _, _, _, _, _, _, _, rfl, ⟨_, _, _, rfl⟩, hA3, hI3, hT3⟩
        case next =>
         rintro a' w' ⟨⟨v0, v1, v2, v3, v4, v5, v6, v7, v8, rfl⟩, w3, u0, u1, u2, u3, u4, u5, u6, rfl, ⟨q1, q2, q3, rfl⟩, hA3, hI3, hT3⟩
         simp only [zqN]
         have HL3 := Lib.hid ((HS3.out w3 _ hT3 hI3).put HPQ.out hA3)
         clear hA3 hI3 hT3 y0 y1 y2 y3 z0 z1 z2 z3 z4 e0 e1 e2 e3 e4 hx4 k4
         generalize hX5 : Ck.set5 w3 nb (p * 5) (.int .u8 u0) (.string u1) (.string u2) (.slice u3 u4 u5) (.slice q1 q2 q3) = X5 at *
         clear hX5
         have hput : (lpS e false sb p).set p (lpT e s) = lpS e false sb (p + 1) := lpS_put (e := e) (lp := false) HSS.out
         have hcnt : lpK e false sb p + lpN e s = lpK e false sb (p + 1) := by rw [HSM.out.2.1]; simp
         rw [hput, hcnt] at HL3
         go_wp2_with fail
         exact ⟨⟨p + 1, by omega, by go_num, HL3⟩, by simp [intOf]; omega⟩
      · have d0 : decide (p < SN) = false := by rw [decide_eq_false_iff_not]; exact hlt
        have hpe : p = sb.length := by rw [HSN.out]; omega
        have hLI2 := hLI.out
        have hlk : lpK e false sb sb.length = lpN e (.mk k xn xt st sb) := by rw [← HLP.out]; exact lpK_end e k xn xt st sb
        rw [hpe, lpS_end, hlk] at hLI2
        have hN := hLI2.n
        have hR := hLI2.r
        have a0 := hN.cell 0
        have a1 := hN.cell 1
        have a2 := hN.cell 2
        have a3 := hN.cell 3
        have b0 := hR.cell 0
        have b1 := hR.cell 1
        have b2 := hR.cell 2
        have b3 := hR.cell 3
        have b4 := hR.cell 4
        have c0 := hR.free 0
        have c1 := hR.free 1
        have c2 := hR.free 2
        have c3 := hR.free 3
        have c4 := hR.free 4
        simp at a0 a1 a2 a3 b0 b1 b2 b3 b4
        have HR5 := Lib.hid (((((hR.set 0 (.int .u8 k)).set 1 (.string xn)).set 2 (.string xt)).set 3 (.slice sa SL sc')).set 4 (.slice ba' SN bc'))
        have HD := Lib.hid (hLI2.done (.int .u8 k) (.string xn) (.string xt) (.slice sa SL sc') (.slice ba' SN bc'))
        clear hN hR hLI2 hLI hlk hpe
        go_wp2_with fail
        refine bodyPost_ret (v := .agg #[.int .u8 k, .string xn, .string xt, .slice sa SL sc', .slice ba' SN bc']) ?_ rfl ?_
        · have z0 := HR5.out.cell 0
          have z1 := HR5.out.cell 1
          have z2 := HR5.out.cell 2
          have z3 := HR5.out.cell 3
          have z4 := HR5.out.cell 4
          clear a0 a1 a2 a3 b0 b1 b2 b3 b4 c0 c1 c2 c3 c4
          simp at z0 z1 z2 z3 z4
          simp [results, Tryd.results62, go_sem, z0, z1, z2, z3, z4]
        · obtain ⟨d1, d2, d3⟩ := HD.out
          refine ⟨⟨_, rfl, ?_⟩, d2, d3⟩
          obtain ⟨hk, hxn, hxt, hsc, hRg, _⟩ := HC.out
          have hll : (lpL e false sb).length = SN := by rw [lpL_len, HSN.out]
          simp only [lpT, HLP.out]
          unfold AtX
          rw [hll, HSL.out]
          rw [HSL.out] at hsc
          exact ⟨sa, sc', ba', bc', rfl, hk, hxn, hxt, hsc, ⟨HBC.out, by omega⟩, RgX.keep (fun k hk => .inl (HP0.out k hk)) (Ck.Tl.stay d3 fun k hk => (HP.out k hk).1) hRg, AtLX.keep (fun k hk => hk.imp (HP0.out k) id) (fun _ _ _ => rfl) _ d1⟩
end Go.Proofs.YtiinkhmgemoamaaDoor
