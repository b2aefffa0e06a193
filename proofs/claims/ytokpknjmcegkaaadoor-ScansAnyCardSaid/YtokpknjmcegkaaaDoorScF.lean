/- Contracts of text. -/
import Derived.Test.YtokpknjmcegkaaaDoorScE
namespace Go.Proofs.YtokpknjmcegkaaaDoor
open Go Go.RowKit Ru
set_option maxRecDepth 100000

theorem builder_below {T e : TypeId} {B b : Nat} {bs : List Value} {w w' : World} (h : Lib.IsBuilderF T e B b bs w) (hb : Below w.heap.size w w') : Lib.IsBuilderF T e B b bs w' := by
  have key : ∀ p, Lib.BuilderAtF T e B b p bs w → Lib.BuilderAtF T e B b p bs w' := by
    rintro p ⟨hB, v, hh, hown, hne⟩
    refine ⟨hB, v, ?_, ⟨hown.1, ?_⟩, hne⟩
    · rw [hb.block b (Array.getElem?_eq_some_iff.1 hh).1]; exact hh
    · rcases hown.2 with hn | ⟨g, cap, cur, fz, hv, hbg, hg, rest⟩
      · exact .inl hn
      · exact .inr ⟨g, cap, cur, fz, hv, hbg, by rw [hb.block g (Array.getElem?_eq_some_iff.1 hg).1]; exact hg, rest⟩
  exact h.elim (fun x => .inl (key _ x)) (fun x => .inr (key _ x))
theorem encodeRune_enc (r : Int) (h : Go.validRune r = true) : Lib.encodeRune r = encL r := by
  have hv := (valid_iff r).1 h
  unfold encL Lib.encodeRune
  by_cases a : r < 128
  · rw [enc_1 (by omega) a, Lib.encodeRuneZ_one (by omega) (by omega)]; rfl
  by_cases b : r < 2048
  · rw [enc_2 (by omega) b, Lib.encodeRuneZ_two (by omega) (by omega)]; rfl
  by_cases c : r < 65536
  · rw [enc_3 h (by omega) c, Lib.encodeRuneZ_three (by omega)]; rfl
  · rw [enc_4 (by omega) (by omega), Lib.encodeRuneZ_four (by omega) (by omega)]; rfl
theorem utf_le (r : Nat) : (Sc.utf r).length ≤ 4 := by
  have := encB_size (r : Int)
  rw [Lib.size_eq] at this
  exact this
theorem utf_pos (r : Nat) (h : Go.validRune (r : Int) = true) : 1 ≤ (Sc.utf r).length := (encL_len r h).1
theorem runeCells_utf (r : Nat) (h : Go.validRune (r : Int) = true) : Lib.runeCells (r : Int) = Lib.byteCells (Sc.utf r) := by
  rw [← Lib.byteCells_encodeRune, encodeRune_enc _ h]
  rfl
theorem byteCells_app (a b : List UInt8) : Lib.byteCells (a ++ b) = Lib.byteCells a ++ Lib.byteCells b := by simp [Lib.byteCells]
theorem byteCells_len (a : List UInt8) : (Lib.byteCells a).length = a.length := by simp [Lib.byteCells]
theorem flat_snoc (rs : List Nat) (r : Nat) : (rs ++ [r]).flatMap Sc.utf = rs.flatMap Sc.utf ++ Sc.utf r := by simp

/-- What holds at the head of a round of text's loop: p is where it stands, rs what was read. -/
def InText (s : ByteArray) (w : World) (p : Nat) (rs : List Nat) (wr : World) : Prop :=
  1 ≤ p ∧ p ≤ s.size ∧ (rs.flatMap Sc.utf).length ≤ 4 * p ∧ (rs = [] ↔ (rs.flatMap Sc.utf) = []) ∧
  (Sc.items (Sc.oneL Sc.notText) s.data.toList.length (s.data.toList.drop 1)).1 = rs ++ (Sc.items (Sc.oneL Sc.notText) s.data.toList.length (s.data.toList.drop p)).1 ∧
  1 + (Sc.items (Sc.oneL Sc.notText) s.data.toList.length (s.data.toList.drop 1)).2 = p + (Sc.items (Sc.oneL Sc.notText) s.data.toList.length (s.data.toList.drop p)).2 ∧
  Bk wr w.heap.size 38 #[.int .u8 0, .string ⟨#[]⟩, .slice none 0 0, .int .i64 0, .int .i64 0, .int .i64 0] ∧ Lib.IsBuilderF 83 5 (w.heap.size + 1) (w.heap.size + 1) (Lib.byteCells (rs.flatMap Sc.utf)) wr ∧ EnvS wr ∧ Below w.heap.size w wr
theorem InText.start (s : ByteArray) (w : World) (hs : 1 ≤ s.size) (hE : EnvS w) :
    InText s w 1 [] ((w.alloc (.cells #[.int .u8 0, .string ⟨#[]⟩, .slice none 0 0, .int .i64 0, .int .i64 0, .int .i64 0] 38)).alloc (.cells #[.pointer none, .slice none 0 0] 83)) := by
  refine ⟨Nat.le_refl _, hs, by simp, by simp, by simp, rfl, (Bk.made _ _ _).alloc _, ?_, (hE.alloc _).alloc _, ((Below.refl _ w).alloc (Nat.le_refl _) _).alloc (by simp) _⟩
  have := Lib.fresh_isBuilder 83 5 (w.alloc (.cells #[.int .u8 0, .string ⟨#[]⟩, .slice none 0 0, .int .i64 0, .int .i64 0, .int .i64 0] 38))
  simp only [World.size_alloc] at this
  exact Lib.IsBuilderF.of this
theorem InText.below {s : ByteArray} {w : World} {p : Nat} {rs : List Nat} {wr w1 : World} (h : InText s w p rs wr) (hb : Below wr.heap.size wr w1) : InText s w p rs w1 := by
  obtain ⟨h1, h2, h3, h4, h5, h6, h7, h8, h9, h10⟩ := h
  exact ⟨h1, h2, h3, h4, h5, h6, h7.below hb h7.lt, builder_below h8 hb, h9.below hb, h10.trans (hb.mono h10.size)⟩
theorem InText.stop {s : ByteArray} {w : World} {p : Nat} {rs : List Nat} {wr : World} (h : InText s w p rs wr) (hn : Sc.oneL Sc.notText (s.data.toList.drop p) = none) :
    Sc.textR s.data.toList = if rs = [] then .err 4 else if Lib.hasPrefix (s.data.toList.drop p) [39] = true then .ok 2 (rs.flatMap Sc.utf) [] (p + 1) else .err 4 := by
  obtain ⟨h1, h2, h3, h4, h5, h6, h7, h8, h9, h10⟩ := h
  rw [Sc.items_none hn, List.append_nil] at h5
  rw [Sc.items_none hn, Nat.add_zero] at h6
  unfold Sc.textR
  rw [h5, h6]
theorem InText.step {s : ByteArray} {w : World} {p : Nat} {rs : List Nat} {wr w1 : World} {r k : Nat} (hE0 : EnvS w) (h : InText s w p rs wr) (hone : Sc.oneL Sc.notText (s.data.toList.drop p) = some (r, k))
    (hb : Lib.BuilderAtF 83 5 (w.heap.size + 1) (w.heap.size + 1) (.pointer (some ⟨w.heap.size + 1, 0, none⟩)) (Lib.byteCells (rs.flatMap Sc.utf) ++ Lib.runeCells (r : Int)) w1) (hb1 : Below (w.heap.size + 1) wr w1) : InText s w (p + k) (rs ++ [r]) w1 := by
  obtain ⟨h1, h2, h3, h4, h5, h6, h7, h8, h9, h10⟩ := h
  obtain ⟨hv, hk1, hk2⟩ := Sc.oneL_some hone
  rw [List.length_drop, ← Lib.size_eq] at hk2
  have hit := Sc.items_some (Sc.oneL_nil _) (fun l a k h => (Sc.oneL_some h).2) (f := s.data.toList.length) hone (by rw [List.length_drop]; omega)
  rw [List.drop_drop] at hit
  have hul := utf_le r
  have hup := utf_pos r hv
  have hE : EnvS w1 := hE0.below (h10.trans (hb1.mono (by omega)))
  refine ⟨by omega, by omega, ?_, ?_, ?_, ?_, h7.below hb1 (by omega), ?_, hE, h10.trans (hb1.mono (by omega))⟩
  · rw [flat_snoc, List.length_append]; omega
  · rw [flat_snoc]
    constructor
    · intro h; simp at h
    · intro h
      have := congrArg List.length h
      rw [List.length_append] at this
      simp only [List.length_nil] at this
      omega
  · rw [h5, hit]; simp
  · rw [h6, hit]; omega
  · rw [flat_snoc, byteCells_app, ← runeCells_utf r hv]
    exact .inr hb

theorem Len_is (B b : Nat) (l : List UInt8) (w : World) (h : Lib.IsBuilderF 83 5 B b (Lib.byteCells l) w) (L : Int) (hL : (l.length : Int) = L) :
    Calls Tryd.prog 54 #[.pointer (some ⟨b, 0, none⟩)] w fun e w' => e = .returned (.int .i64 L) ∧ w = w' := by
  refine (Tryd.Builder_Len_f B b _ w h).mono ?_
  rintro e w' ⟨he, hw⟩
  exact ⟨by rw [he, byteCells_len, hL], hw.symm⟩
def Stays (s : ByteArray) (w : World) (a : Value) (wr : World) : Prop := ∃ (p : Nat) (rs : List Nat), a = .int .i64 p ∧ InText s w p rs wr
set_option maxHeartbeats 4000000 in
theorem text_any (s : ByteArray) (w : World) (hs : s.size ≤ 65536) (hn : 1 ≤ s.size) (hE : EnvS w) :
    Calls Tryd.prog 38 #[.string s] w (Tells (Sc.textR s.data.toList) w) := by
  have HE := Lib.hid hE
  have HI := Lib.hid (InText.start s w hn hE)
  clear hE
  go_enter Tryd.func38, Tryd.ntmps38
  go_wp2_with fail
  go_loopw [6] (fun a wr => Stays s w a wr) (fun a _ => s.size + 1 - (intOf a).toNat)
  case atStart => exact ⟨1, [], rfl, HI.out⟩
  case round =>
    obtain ⟨p, rs, rfl, hI⟩ := hrel
    have hp := hI.2.1
    have hp1 := hI.1
    have HI2 := Lib.hid hI
    have C := written_Text s p wr (by omega) hp hI.2.2.2.2.2.2.2.2.1
    clear hI HI
    cases hone : Sc.oneL Sc.notText (s.data.toList.drop p) with
    | some d =>
      obtain ⟨r, k⟩ := d
      obtain ⟨hv, hk1, hk2⟩ := Sc.oneL_some hone
      rw [List.length_drop, ← Lib.size_eq] at hk2
      rw [hone] at C
      have HO := Lib.hid hone
      obtain ⟨R, hR⟩ : ∃ R : Int, R = (r : Int) := ⟨_, rfl⟩
      have hv2 := (valid_iff R).1 (by rw [hR]; exact hv)
      unfold wrT at C
      dsimp only at C
      rw [← hR] at C
      replace C := Lib.hid C
      have HR := Lib.hid hR
      have d0 : ((k : Int) == 0) = false := by rw [beq_eq_false_iff_ne]; omega
      clear hone hR hv
      go_wp2_with fail
      refine C.out.mono ?_
      rintro e w1 ⟨rfl, b1⟩
      have HI3 := Lib.hid (HI2.out.below b1)
      have hz := HI3.out.2.2.2.2.2.2.1.lt
      go_wp2_with fail
      refine (Tryd.WriteRune (w.heap.size + 1) (w.heap.size + 1) _ R (by omega) (by omega) _ HI3.out.2.2.2.2.2.2.2.1 ?_ (by omega)).mono ?_
      · rw [byteCells_len]
        have := HI3.out.2.2.1
        omega
      rintro e w2 ⟨rfl, hB, b2, _⟩
      rw [HR.out] at hB
      have HI4 := Lib.hid (HI3.out.step HE.out HO.out hB b2)
      clear hB b2 hz
      go_wp2_with fail
      exact ⟨⟨p + k, rs ++ [r], by go_num, HI4.out⟩, by simp [intOf]; omega⟩
    | none =>
      have HS := HI2.out.stop hone
      rw [hone] at C
      unfold wrT at C
      dsimp only at C
      replace C := Lib.hid C
      clear hone
      obtain ⟨L, hL⟩ : ∃ L : Int, ((rs.flatMap Sc.utf).length : Int) = L := ⟨_, rfl⟩
      have HL := Lib.hid hL
      have hnil := Lib.hid HI2.out.2.2.2.1
      by_cases hrs : rs = []
      · rw [if_pos hrs] at HS
        replace HS := Lib.hid HS
        have d0 : (L == 0) = true := by
          rw [beq_iff_eq, ← hL, hnil.out.1 hrs]; rfl
        clear hL hrs
        go_wp2_with fail
        refine C.out.mono ?_
        rintro e w1 ⟨rfl, b1⟩
        have HI3 := Lib.hid (HI2.out.below b1)
        clear b1
        go_wp2_with fail
        refine (Len_is _ _ _ _ HI3.out.2.2.2.2.2.2.2.1 L HL.out).mono ?_
        rintro e w' ⟨rfl, rfl⟩
        have K := Lib.hid HI3.out.2.2.2.2.2.2.1
        have f0 := K.out.free 0
        have f1 := K.out.free 1
        have f2 := K.out.free 2
        have f3 := K.out.free 3
        have f4 := K.out.free 4
        have f5 := K.out.free 5
        have c0 := K.out.cell 0
        have c1 := K.out.cell 1
        have c2 := K.out.cell 2
        have c3 := K.out.cell 3
        have c4 := K.out.cell 4
        have c5 := K.out.cell 5
        simp at c0 c1 c2 c3 c4 c5
        go_wp2_with fail
        have G := Lib.hid ((((((K.out.set 0 (.int .u8 0)).set 1 (.string ⟨#[]⟩)).set 2 (.slice none 0 0)).set 3 (.int .i64 0)).set 4 (.int .i64 0)).set 5 (.int .i64 0))
        refine bodyPost_ret (v := wrV (.err 4) (.slice none 0 0)) ?_ rfl ?_
        · have g0 := G.out.cell 0
          have g1 := G.out.cell 1
          have g2 := G.out.cell 2
          have g3 := G.out.cell 3
          have g4 := G.out.cell 4
          have g5 := G.out.cell 5
          clear c0 c1 c2 c3 c4 c5 f0 f1 f2 f3 f4 f5
          simp at g0 g1 g2 g3 g4 g5
          simp [results, wrV, Tryd.results38, go_sem, g0, g1, g2, g3, g4, g5]
        · rw [HS.out]
          refine ⟨.slice none 0 0, rfl, SetAt.none_ _ _, ?_⟩
          exact (((((((HI3.out.2.2.2.2.2.2.2.2.2).setCell (by simp) _).setCell (by simp) _).setCell (by simp) _).setCell (by simp) _).setCell (by simp) _).setCell (by simp) _)

      · rw [if_neg hrs] at HS
        have d0 : (L == 0) = false := by
          rw [beq_eq_false_iff_ne]
          intro e
          rw [← hL] at e
          exact hrs (hnil.out.2 (List.eq_nil_of_length_eq_zero (by omega)))
        have a0 : (p : Int) ≤ (s.size : Int) := by omega
        clear hL hrs
        cases hq : Lib.hasPrefix (s.data.toList.drop p) [39] with
        | true =>
          rw [if_pos hq] at HS
          replace HS := Lib.hid HS
          have P := Lib.hid (fun w => Prefix_at s ⟨#[39]⟩ p w true hq)
          clear hq
          go_wp2_with fail
          refine C.out.mono ?_
          rintro e w1 ⟨rfl, b1⟩
          have HI3 := Lib.hid (HI2.out.below b1)
          clear b1
          go_wp2_with fail
          refine (Len_is _ _ _ _ HI3.out.2.2.2.2.2.2.2.1 L HL.out).mono ?_
          rintro e w' ⟨rfl, rfl⟩
          go_wp2_with fail
          refine (P.out _).mono ?_
          rintro e w' ⟨rfl, rfl⟩
          go_wp2_with fail
          refine (Tryd.Builder_String_any_k (w.heap.size + 1) (w.heap.size + 1) _ _ HI3.out.2.2.2.2.2.2.2.1 ?_).mono ?_
          · have := HI3.out.2.2.2.2.2.2.1.lt
            omega
          rintro e w2 ⟨rfl, _, b2, _⟩
          have K := Lib.hid (HI3.out.2.2.2.2.2.2.1.below b2 (by omega))
          have bw := HI3.out.2.2.2.2.2.2.2.2.2.trans (b2.mono (by omega))
          obtain ⟨T, hT⟩ : ∃ T : ByteArray, (⟨(rs.flatMap Sc.utf).toArray⟩ : ByteArray) = T := ⟨_, rfl⟩
          rw [hT]
          have HT := Lib.hid hT
          clear hT b2
          have f0 := K.out.free 0
          have f1 := K.out.free 1
          have f2 := K.out.free 2
          have f3 := K.out.free 3
          have f4 := K.out.free 4
          have f5 := K.out.free 5
          have c0 := K.out.cell 0
          have c1 := K.out.cell 1
          have c2 := K.out.cell 2
          have c3 := K.out.cell 3
          have c4 := K.out.cell 4
          have c5 := K.out.cell 5
          simp at c0 c1 c2 c3 c4 c5
          go_wp2_with fail
          have G := Lib.hid ((((((K.out.set 0 (.int .u8 2)).set 1 (.string T)).set 2 (.slice none 0 0)).set 3 (.int .i64 0)).set 4 (.int .i64 0)).set 5 (.int .i64 0))
          refine bodyPost_ret (v := .tuple #[.agg #[.int .u8 2, .string T, .slice none 0 0, .int .i64 0, .int .i64 0, .int .i64 0], .int .i64 ((p : Int) + 1), .int .i64 0]) ?_ rfl ?_
          · have g0 := G.out.cell 0
            have g1 := G.out.cell 1
            have g2 := G.out.cell 2
            have g3 := G.out.cell 3
            have g4 := G.out.cell 4
            have g5 := G.out.cell 5
            clear c0 c1 c2 c3 c4 c5 f0 f1 f2 f3 f4 f5
            simp at g0 g1 g2 g3 g4 g5
            simp [results, Tryd.results38, go_sem, g0, g1, g2, g3, g4, g5]
          · rw [HS.out]
            refine ⟨.slice none 0 0, by unfold wrV; dsimp only; rw [HT.out]; rfl, SetAt.none_ _ _, ?_⟩
            exact (((((((bw).setCell (by simp) _).setCell (by simp) _).setCell (by simp) _).setCell (by simp) _).setCell (by simp) _).setCell (by simp) _)

        | false =>
          rw [if_neg (by rw [hq]; simp)] at HS
          replace HS := Lib.hid HS
          have P := Lib.hid (fun w => Prefix_at s ⟨#[39]⟩ p w false hq)
          clear hq
          go_wp2_with fail
          refine C.out.mono ?_
          rintro e w1 ⟨rfl, b1⟩
          have HI3 := Lib.hid (HI2.out.below b1)
          clear b1
          go_wp2_with fail
          refine (Len_is _ _ _ _ HI3.out.2.2.2.2.2.2.2.1 L HL.out).mono ?_
          rintro e w' ⟨rfl, rfl⟩
          go_wp2_with fail
          refine (P.out _).mono ?_
          rintro e w' ⟨rfl, rfl⟩
          have K := Lib.hid HI3.out.2.2.2.2.2.2.1
          have f0 := K.out.free 0
          have f1 := K.out.free 1
          have f2 := K.out.free 2
          have f3 := K.out.free 3
          have f4 := K.out.free 4
          have f5 := K.out.free 5
          have c0 := K.out.cell 0
          have c1 := K.out.cell 1
          have c2 := K.out.cell 2
          have c3 := K.out.cell 3
          have c4 := K.out.cell 4
          have c5 := K.out.cell 5
          simp at c0 c1 c2 c3 c4 c5
          go_wp2_with fail
          have G := Lib.hid ((((((K.out.set 0 (.int .u8 0)).set 1 (.string ⟨#[]⟩)).set 2 (.slice none 0 0)).set 3 (.int .i64 0)).set 4 (.int .i64 0)).set 5 (.int .i64 0))
          refine bodyPost_ret (v := wrV (.err 4) (.slice none 0 0)) ?_ rfl ?_
          · have g0 := G.out.cell 0
            have g1 := G.out.cell 1
            have g2 := G.out.cell 2
            have g3 := G.out.cell 3
            have g4 := G.out.cell 4
            have g5 := G.out.cell 5
            clear c0 c1 c2 c3 c4 c5 f0 f1 f2 f3 f4 f5
            simp at g0 g1 g2 g3 g4 g5
            simp [results, wrV, Tryd.results38, go_sem, g0, g1, g2, g3, g4, g5]
          · rw [HS.out]
            refine ⟨.slice none 0 0, rfl, SetAt.none_ _ _, ?_⟩
            exact (((((((HI3.out.2.2.2.2.2.2.2.2.2).setCell (by simp) _).setCell (by simp) _).setCell (by simp) _).setCell (by simp) _).setCell (by simp) _).setCell (by simp) _)

end Go.Proofs.YtokpknjmcegkaaaDoor
