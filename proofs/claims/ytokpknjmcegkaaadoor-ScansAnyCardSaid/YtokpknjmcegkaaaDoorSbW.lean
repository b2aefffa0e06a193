/- The contract of Written: a word written anew. -/
import Derived.Test.YtokpknjmcegkaaaDoorScS
import Derived.Test.YtokpknjmcegkaaaDoorScZ
import Derived.Test.YtokpknjmcegkaaaDoorSjX
namespace Go.Proofs.YtokpknjmcegkaaaDoor
open Go Go.RowKit Ru
set_option maxRecDepth 100000

theorem Sc.rsF_fuel : ∀ (f g : Nat) (l : List UInt8), l.length ≤ f → l.length ≤ g → Sc.rsF f l = Sc.rsF g l
  | 0, g, l, h, _ => by
    have : l = [] := List.eq_nil_of_length_eq_zero (by omega)
    subst this
    cases g with
    | zero => rfl
    | succ g => exact (if_pos rfl).symm
  | f + 1, 0, l, _, h => by
    have : l = [] := List.eq_nil_of_length_eq_zero (by omega)
    subst this
    exact if_pos rfl
  | f + 1, g + 1, l, h1, h2 => by
    unfold Sc.rsF
    split
    · rfl
    · have hw := Lib.decodeL_width l
      rw [Sc.rsF_fuel f g _ (by rw [List.length_drop]; omega) (by rw [List.length_drop]; omega)]
theorem Sc.rsF_step {l : List UInt8} (hl : l ≠ []) (f : Nat) (hf : l.length ≤ f) : Sc.rsF f l = (Lib.decodeL l).1 :: Sc.rsF (l.drop (Lib.decodeL l).2).length (l.drop (Lib.decodeL l).2) := by
  have hw := Lib.decodeL_width l
  have hp := List.length_pos_iff.2 hl
  cases f with
  | zero => omega
  | succ f =>
    conv => lhs; unfold Sc.rsF
    rw [if_neg hl, Sc.rsF_fuel f (l.drop (Lib.decodeL l).2).length _ (by rw [List.length_drop]; omega) (Nat.le_refl _)]
theorem mk_size (l : List UInt8) : (⟨l.toArray⟩ : ByteArray).size = l.length := by rw [Lib.size_eq]
theorem textB_size (r : Int) : (textB r).size = (text r).length := mk_size _
theorem textB_data (r : Int) : (textB r).data.toList = text r := rfl
theorem cell_heap {w w' : World} (e : w'.heap = w.heap) (a : Addr) : w'.cell? a = w.cell? a := by unfold World.cell?; rw [e]
theorem SetAt.at {w : World} {B : Nat} {A : Option Addr} {N cap : Nat} {st : List (Nat × Nat)} (h : SetAt w B (.slice A N cap) st) {i : Nat} {q : Nat × Nat} (hq : st[i]? = some q) : ∃ g, A = some ⟨g, 0, none⟩ ∧ g < w.heap.size ∧ N ≤ cap ∧ w.cell? ⟨g, i * 2, none⟩ = some (.int .i32 q.1) ∧ w.cell? ⟨g, i * 2 + 1, none⟩ = some (.int .i32 q.2) := by
  have hi : i < st.length := (List.getElem?_eq_some_iff.1 hq).1
  obtain ⟨g, cap', hv, hc⟩ := Row.some_ h (by omega)
  obtain ⟨a, c2, hv2, hr⟩ := h.read
  injection hv with v1 v2 v3
  subst v1 v2 v3
  injection hv2 with u1 u2 u3
  obtain ⟨g', o, hg, r1, r2⟩ := hr i q hq
  rw [← u1] at hg
  injection hg with hg
  injection hg with e1 e2
  subst e1 e2
  rw [Nat.zero_add] at r1 r2
  exact ⟨_, rfl, (Row.lt h rfl).2, hc, r1, r2⟩
theorem take_snoc {α : Type} {l : List α} {i : Nat} {a : α} (h : l[i]? = some a) : l.take (i + 1) = l.take i ++ [a] := by
  obtain ⟨hi, he⟩ := List.getElem?_eq_some_iff.1 h
  rw [List.take_succ_eq_append_getElem hi, he]
theorem ret_string {a b : ByteArray} (h : a = b) : Ending.returned (.string a) = .returned (.string b) := by rw [h]
theorem mk_app (a : ByteArray) (b : List UInt8) : a ++ ⟨b.toArray⟩ = ⟨(a.data.toList ++ b).toArray⟩ := by
  have e : a = ⟨a.data.toList.toArray⟩ := by cases a; simp
  conv => lhs; rw [e, app_mk]
theorem Written_plain (T : ByteArray) (k : Nat) (hk : k = 0 ∨ k = 1 ∨ k = 4) (A : Option Addr) (n cap : Nat) (p l c : Int) (w : World) :
    Calls Tryd.prog 11 #[.agg #[.int .u8 k, .string T, .slice A n cap, .int .i64 p, .int .i64 l, .int .i64 c]] w fun e w' => e = .returned (.string T) ∧ Below w.heap.size w w' := by
  have k2 : ((k : Int) == 2) = false := by rw [beq_eq_false_iff_ne]; omega
  have k3 : ((k : Int) == 3) = false := by rw [beq_eq_false_iff_ne]; omega
  have HB := Lib.hid ((Below.refl _ w).alloc (Nat.le_refl _) (.cells #[.int .u8 k, .string T, .slice A n cap, .int .i64 p, .int .i64 l, .int .i64 c] 38))
  go_enter Tryd.func11, Tryd.ntmps11
  go_wp2_with fail
  go_ret
  exact ⟨rfl, HB.out⟩
set_option maxHeartbeats 2000000 in
theorem Written_text (T : ByteArray) (A : Option Addr) (n cap : Nat) (p l c : Int) (w : World) (hE : EnvS w) (hT : T.size ≤ 1000000) :
    Calls Tryd.prog 11 #[.agg #[.int .u8 2, .string T, .slice A n cap, .int .i64 p, .int .i64 l, .int .i64 c]] w fun e w' => e = .returned (.string ⟨(39 :: ((Sc.rsOf T.data.toList).flatMap Sc.txt ++ [39])).toArray⟩) ∧ Below w.heap.size w w' := by
  have HE := Lib.hid hE
  have HI := Lib.hid (World.iter_heap (w.alloc (.cells #[.int .u8 2, .string T, .slice A n cap, .int .i64 p, .int .i64 l, .int .i64 c] 38)) T 0)
  have HB := Lib.hid (((Below.refl _ w).alloc (Nat.le_refl _) (.cells #[.int .u8 2, .string T, .slice A n cap, .int .i64 p, .int .i64 l, .int .i64 c] 38)).alloc (by simp) (.stringIter T 0))
  obtain ⟨Z, hZ⟩ : ∃ Z : List UInt8, (Sc.rsOf T.data.toList).flatMap Sc.txt = Z := ⟨_, rfl⟩
  rw [hZ]
  clear hE
  go_enter Tryd.func11, Tryd.ntmps11
  go_wp2_with fail
  go_loopw [3] (fun v wr => ∃ (pos : Nat) (V : ByteArray), v = .string V ∧ pos ≤ T.size ∧ V.size ≤ 10 * pos ∧ wr.heap[w.heap.size + 1]? = some (.stringIter T pos) ∧ Below w.heap.size w wr ∧ Hid (V.data.toList ++ (Sc.rsF (T.data.toList.drop pos).length (T.data.toList.drop pos)).flatMap Sc.txt = Z)) (fun _ wr => T.size - wr.iterPos (w.heap.size + 1))
  case atStart =>
    refine ⟨0, ⟨#[]⟩, rfl, Nat.zero_le _, Nat.zero_le _, ?_, HB.out, ?_⟩
    · have h := HI.out
      simpa using h
    · exact hZ
  case round =>
    obtain ⟨pos, V, rfl, hp, hv, hit, hb, hz⟩ := hrel
    have hsz : w.heap.size + 1 < wr.heap.size := (Array.getElem?_eq_some_iff.1 hit).1
    by_cases hpt : pos < T.size
    · have hps : wr.iterPos (w.heap.size + 1) = pos := by simp [World.iterPos, hit]
      have hnx := fun ty => Lib.run_next_any_at (P := Tryd.prog) wr (w.heap.size + 1) T pos ty hit hpt
      have hde := Lib.decodeL_drop T pos
      have hne : T.data.toList.drop pos ≠ [] := by
        intro e
        have := congrArg List.length e
        rw [List.length_drop, ← Lib.size_eq] at this
        simp at this
        omega
      have hll : (T.data.toList.drop pos).length = T.size - pos := by rw [List.length_drop, ← Lib.size_eq]
      have hw := Lib.decodeL_width (T.data.toList.drop pos)
      have hle2 := Lib.decodeL_le (T.data.toList.drop pos) hne
      have hstep := Sc.rsF_step hne _ (Nat.le_refl _)
      rw [hll] at hle2
      rw [List.drop_drop] at hstep
      rw [hstep] at hz
      rw [← hde] at hnx
      clear hll hne hde hstep
      generalize Lib.decodeL (T.data.toList.drop pos) = d at *
      obtain ⟨r, m⟩ := d
      dsimp only at *
      have hit2 := Lib.iterAt_heap wr (w.heap.size + 1) T pos (pos + m) hit
      have hb2 := Lib.below_iterAt hb (k := w.heap.size + 1) (by omega) T (pos + m)
      generalize wr.iterAt (w.heap.size + 1) T (pos + m) = W2 at *
      have hsz2 : w.heap.size + 1 < W2.heap.size := (Array.getElem?_eq_some_iff.1 hit2).1
      have VI := Lib.hid hit2
      have HP := Lib.hid hps
      have HB2 := Lib.hid hb2
      have hE2 := HE.out.below hb2
      have CT := Lib.hid (Text_any (r : Int) W2 hE2.env.brj hE2.env.size.2.2.1)
      have htl := text_len (r : Int)
      obtain ⟨X, hX⟩ : ∃ X : ByteArray, textB (r : Int) = X := ⟨_, rfl⟩
      have hXs : X.size ≤ 10 := by rw [← hX, textB_size]; exact htl
      have hXd : X.data.toList = Sc.txt r := by rw [← hX, textB_data]; rfl
      rw [hX] at CT
      obtain ⟨R, hR⟩ : ∃ R : Int, R = (r : Int) := ⟨_, rfl⟩
      rw [← hR] at hnx CT
      have a1 : ∀ wx, (Op.stringOp .add V X).run Tryd.prog wx = .ok (.string (V ++ X)) wx := fun wx => run_string_add_sum wx _ _ (by omega)
      have hVX : (V ++ X).size ≤ 10 * (pos + m) := by rw [ByteArray.size_append]; omega
      have HZ := Lib.hid (show (V ++ X).data.toList ++ (Sc.rsF (T.data.toList.drop (pos + m)).length (T.data.toList.drop (pos + m))).flatMap Sc.txt = Z by
        rw [← hz.out, List.flatMap_cons, ByteArray.data_append, Array.toList_append, hXd, List.append_assoc])
      have HW := Lib.hid hw
      clear hit hit2 hps hb hb2 hE2 hX hR hXd hz htl hw hXs
      go_wp2_with fail
      refine (CT.out).mono ?_
      rintro e w3 ⟨rfl, b3⟩
      have J3 := b3.block (w.heap.size + 1) hsz2
      rw [VI.out] at J3
      have HJ := Lib.hid J3
      have HB3 := Lib.hid (HB2.out.trans (b3.mono (by omega)))
      clear b3 J3
      go_wp2_with fail
      refine ⟨⟨pos + m, V ++ X, rfl, by omega, hVX, HJ.out, HB3.out, HZ⟩, ?_⟩
      have e : w3.iterPos (w.heap.size + 1) = pos + m := by simp [World.iterPos, HJ.out]
      have hw := HW.out
      rw [HP.out, e]
      omega
    · have hnx := fun ty => Lib.run_next_end_at (P := Tryd.prog) wr (w.heap.size + 1) T pos ty hit hpt
      have HF := Lib.hid (show V.data.toList = Z by
        rw [← hz.out, List.drop_eq_nil_of_le (by rw [← Lib.size_eq]; omega)]
        simp [Sc.rsF])
      have a1 : ∀ wx, (Op.stringOp .add ⟨#[39]⟩ V).run Tryd.prog wx = .ok (.string (⟨#[39]⟩ ++ V)) wx := fun wx => run_string_add_sum wx _ _ (by rw [show (⟨#[39]⟩ : ByteArray).size = 1 from rfl]; omega)
      have a2 : ∀ wx, (Op.stringOp .add (⟨#[39]⟩ ++ V) ⟨#[39]⟩).run Tryd.prog wx = .ok (.string (⟨#[39]⟩ ++ V ++ ⟨#[39]⟩)) wx := fun wx => run_string_add_sum wx _ _ (by rw [ByteArray.size_append, show (⟨#[39]⟩ : ByteArray).size = 1 from rfl]; omega)
      have HB4 := Lib.hid hb
      clear hit hz hb
      go_wp2_with fail
      go_ret
      refine ⟨ret_string ?_, HB4.out⟩
      rw [show (⟨#[39]⟩ : ByteArray) = ⟨[39].toArray⟩ from rfl, mk_app, ByteArray.data_append, Array.toList_append, HF.out]
      rfl
set_option maxHeartbeats 4000000 in
theorem Written_set (T : ByteArray) (st : List (Nat × Nat)) (A : Option Addr) (cap : Nat) (p l c : Int) (w : World) (B : Nat) (hE : EnvS w) (hset : SetAt w B (.slice A st.length cap) st) (hst : st.length ≤ 100000) :
    Calls Tryd.prog 11 #[.agg #[.int .u8 3, .string T, .slice A st.length cap, .int .i64 p, .int .i64 l, .int .i64 c]] w fun e w' => e = .returned (.string ⟨(91 :: ((st.flatMap fun p => Sc.txt p.1 ++ 45 :: Sc.txt p.2) ++ [93])).toArray⟩) ∧ Below w.heap.size w w' := by
  have HE := Lib.hid hE
  obtain ⟨N, hN⟩ : ∃ N, st.length = N := ⟨_, rfl⟩
  have HS := Lib.hid hset
  have HN := Lib.hid hN
  rw [hN] at hst ⊢
  have HB := Lib.hid ((Below.refl _ w).alloc (Nat.le_refl _) (.cells #[.int .u8 3, .string T, .slice A N cap, .int .i64 p, .int .i64 l, .int .i64 c] 38))
  have HK := Lib.hid (Bk.made w 38 #[.int .u8 3, .string T, .slice A N cap, .int .i64 p, .int .i64 l, .int .i64 c])
  have hsz : w.heap.size < (w.alloc (.cells #[.int .u8 3, .string T, .slice A N cap, .int .i64 p, .int .i64 l, .int .i64 c] 38)).heap.size := by simp
  clear hE hset hN
  go_enter Tryd.func11, Tryd.ntmps11
  go_wp2_with fail
  generalize (w.alloc (.cells #[.int .u8 3, .string T, .slice A N cap, .int .i64 p, .int .i64 l, .int .i64 c] 38)) = W1 at HB HK hsz ⊢
  go_loopw [3, 6] (fun v a wr => ∃ (i : Nat) (V : ByteArray), v = .string V ∧ a = .int .i64 i ∧ i ≤ N ∧ V.size ≤ 21 * i ∧ Below W1.heap.size W1 wr ∧ Hid (V.data.toList = (st.take i).flatMap fun p => Sc.txt p.1 ++ 45 :: Sc.txt p.2)) (fun _ a _ => N - (intOf a).toNat)
  case atStart => exact ⟨0, ⟨#[]⟩, rfl, rfl, Nat.zero_le _, Nat.zero_le _, Below.refl _ _, rfl⟩
  case round =>
    obtain ⟨i, V, rfl, rfl, hi, hv, hb, hz⟩ := hrel
    have k2 := (HK.out.below hb (by omega)).cell 2
    simp at k2
    by_cases hlt : i < N
    · have d0 : decide (i < N) = true := by rw [decide_eq_true_iff]; exact hlt
      obtain ⟨q, hq⟩ : ∃ q, st[i]? = some q := ⟨st[i]'(by rw [HN.out]; exact hlt), List.getElem?_eq_getElem _⟩
      obtain ⟨g, rfl, hg, hcap, x1, x2⟩ := (HS.out.at hq)
      rw [HN.out] at hcap
      have y1 := ((HB.out.trans (hb.mono (by omega))).cell (p := ⟨g, i * 2, none⟩) hg).trans x1
      have y2 := ((HB.out.trans (hb.mono (by omega))).cell (p := ⟨g, i * 2 + 1, none⟩) hg).trans x2
      have hgr : g < wr.heap.size := by have := hb.size; omega
      have hwr : w.heap.size < wr.heap.size := by have := hb.size; omega
      have E0 := HE.out.below (HB.out.trans (hb.mono (by omega)))
      have l1 := text_len (q.1 : Int)
      have l2 := text_len (q.2 : Int)
      have CT := fun (r : Int) (w' W : World) (e : w'.heap = W.heap) (h : Below wr.heap.size wr W) => Text_any r w' (by rw [cell_heap e]; exact (E0.below h).env.brj) (by rw [e]; exact (E0.below h).env.size.2.2.1)
      obtain ⟨R1, hR1⟩ : ∃ R : Int, (q.1 : Int) = R := ⟨_, rfl⟩
      obtain ⟨R2, hR2⟩ : ∃ R : Int, (q.2 : Int) = R := ⟨_, rfl⟩
      rw [hR1] at y1 l1
      rw [hR2] at y2 l2
      replace CT := Lib.hid CT
      have s1 : (textB R1).size ≤ 10 := by rw [textB_size]; exact l1
      have s2 : (textB R2).size ≤ 10 := by rw [textB_size]; exact l2
      have t1 : (textB R1).data.toList = Sc.txt q.1 := by rw [textB_data, ← hR1]; rfl
      have t2 : (textB R2).data.toList = Sc.txt q.2 := by rw [textB_data, ← hR2]; rfl
      have z1 : (V ++ textB R1).size = V.size + (textB R1).size := ByteArray.size_append
      have z2 : (V ++ (textB R1) ++ ⟨#[45]⟩).size = V.size + (textB R1).size + 1 := by rw [ByteArray.size_append, z1]; rfl
      have z3 : (V ++ (textB R1) ++ ⟨#[45]⟩ ++ textB R2).size = V.size + (textB R1).size + 1 + (textB R2).size := by rw [ByteArray.size_append, z2]
      have a1 : ∀ wx, (Op.stringOp .add V (textB R1)).run Tryd.prog wx = .ok (.string (V ++ textB R1)) wx := fun wx => run_string_add_sum wx _ _ (by omega)
      have a2 : ∀ wx, (Op.stringOp .add (V ++ textB R1) ⟨#[45]⟩).run Tryd.prog wx = .ok (.string (V ++ (textB R1) ++ ⟨#[45]⟩)) wx := fun wx => run_string_add_sum wx _ _ (by rw [z1, show (⟨#[45]⟩ : ByteArray).size = 1 from rfl]; omega)
      have a3 : ∀ wx, (Op.stringOp .add (V ++ (textB R1) ++ ⟨#[45]⟩) (textB R2)).run Tryd.prog wx = .ok (.string (V ++ (textB R1) ++ ⟨#[45]⟩ ++ textB R2)) wx := fun wx => run_string_add_sum wx _ _ (by rw [z2]; omega)
      have hV2 : (V ++ (textB R1) ++ ⟨#[45]⟩ ++ textB R2).size ≤ 21 * (i + 1) := by rw [z3]; omega
      have HZ := Lib.hid (show (V ++ (textB R1) ++ ⟨#[45]⟩ ++ textB R2).data.toList = (st.take (i + 1)).flatMap fun p => Sc.txt p.1 ++ 45 :: Sc.txt p.2 by
        rw [take_snoc hq, List.flatMap_append, ← hz.out]
        simp [ByteArray.data_append, Array.toList_append, t1, t2])
      have i0 : (0 : Int) ≤ (i : Int) := by omega
      have i1 : (i : Int) < (N : Int) := by omega
      have HB5 := Lib.hid hb
      clear hb hz x1 x2 E0 t1 t2 l1 l2 hR1 hR2 z1 z2 z3 hq s1 s2
      go_upto_region 13 with fail
      go_region_held3 (fun w' => w'.cell? ⟨w.heap.size, 2, none⟩ = some (.slice (some ⟨g, 0, none⟩) N cap) ∧ w'.cell? ⟨g, i * 2, none⟩ = some (.int .i32 R1) ∧ w'.cell? ⟨g, i * 2 + 1, none⟩ = some (.int .i32 R2)) (go_keep)
          (first | (go_at_call 28; refine (CT.out _ _ wr (by rfl) (Below.refl _ _)).mono ?_; rintro e w2 ⟨rfl, b2⟩; have b3 : Below wr.heap.size wr w2 := ⟨b2.os, b2.tape, b2.output, b2.size, b2.block⟩; have k0 : w2.cell? ⟨w.heap.size, 2, none⟩ = some (.slice (some ⟨g, 0, none⟩) N cap) := (b3.cell (p := ⟨w.heap.size, 2, none⟩) hwr).trans k2; have k1 : w2.cell? ⟨g, i * 2, none⟩ = some (.int .i32 R1) := (b3.cell (p := ⟨g, i * 2, none⟩) hgr).trans y1; have k3 : w2.cell? ⟨g, i * 2 + 1, none⟩ = some (.int .i32 R2) := (b3.cell (p := ⟨g, i * 2 + 1, none⟩) hgr).trans y2) | (go_at_call 28; refine (CT.out _ _ w2 (by rfl) b3).mono ?_; rintro e w4 ⟨rfl, b4⟩; have b5 : Below wr.heap.size wr w4 := b3.trans (b4.mono b3.size); have k0' : w4.cell? ⟨w.heap.size, 2, none⟩ = some (.slice (some ⟨g, 0, none⟩) N cap) := (b5.cell (p := ⟨w.heap.size, 2, none⟩) hwr).trans k2; have k1' : w4.cell? ⟨g, i * 2, none⟩ = some (.int .i32 R1) := (b5.cell (p := ⟨g, i * 2, none⟩) hgr).trans y1; have k3' : w4.cell? ⟨g, i * 2 + 1, none⟩ = some (.int .i32 R2) := (b5.cell (p := ⟨g, i * 2 + 1, none⟩) hgr).trans y2))
      have HB6 := Lib.hid (HB5.out.trans (b5.mono HB5.out.size))
      clear k2 y1 y2 hv k0 k1 k3 k0' k1' k3' b5 b4 b3 b2
      go_wp2_with fail
      exact ⟨⟨i + 1, _, rfl, by go_num, by omega, hV2, HB6.out, HZ⟩, by simp [intOf]; omega⟩
    · have d0 : decide (i < N) = false := by rw [decide_eq_false_iff_not]; exact hlt
      have HF := Lib.hid (show V.data.toList = st.flatMap fun p => Sc.txt p.1 ++ 45 :: Sc.txt p.2 by
        rw [hz.out, List.take_of_length_le (by rw [HN.out]; omega)])
      have a1 : ∀ wx, (Op.stringOp .add ⟨#[91]⟩ V).run Tryd.prog wx = .ok (.string (⟨#[91]⟩ ++ V)) wx := fun wx => run_string_add_sum wx _ _ (by rw [show (⟨#[91]⟩ : ByteArray).size = 1 from rfl]; omega)
      have a2 : ∀ wx, (Op.stringOp .add (⟨#[91]⟩ ++ V) ⟨#[93]⟩).run Tryd.prog wx = .ok (.string (⟨#[91]⟩ ++ V ++ ⟨#[93]⟩)) wx := fun wx => run_string_add_sum wx _ _ (by rw [ByteArray.size_append, show (⟨#[91]⟩ : ByteArray).size = 1 from rfl, show (⟨#[93]⟩ : ByteArray).size = 1 from rfl]; omega)
      have HB4 := Lib.hid (HB.out.trans (hb.mono (by omega)))
      clear hz hb
      go_wp2_with fail
      go_ret
      refine ⟨ret_string ?_, HB4.out⟩
      rw [show (⟨#[91]⟩ : ByteArray) = ⟨[91].toArray⟩ from rfl, show (⟨#[93]⟩ : ByteArray) = ⟨[93].toArray⟩ from rfl, mk_app, ByteArray.data_append, Array.toList_append, HF.out]
      rfl
theorem Written_any (d : Sc.W) (hW : Sc.IsW d) (sv : Value) (p l c : Int) (w : World) (B : Nat) (hE : EnvS w) (hset : SetAt w B sv d.set) (ht : d.text.length ≤ 1000000) (hs : d.set.length ≤ 100000) :
    Calls Tryd.prog 11 #[.agg #[.int .u8 d.kind, .string ⟨d.text.toArray⟩, sv, .int .i64 p, .int .i64 l, .int .i64 c]] w fun e w' => e = .returned (.string ⟨(Sc.writL d).toArray⟩) ∧ Below w.heap.size w w' := by
  obtain ⟨l0, z, hw⟩ := hW
  have hk := (Sc.wordR_is hw).1
  obtain ⟨A, cap, rfl, _⟩ := Row.form hset
  obtain ⟨k, t, st, pos⟩ := d
  dsimp only at *
  by_cases h2 : k = 2
  · subst h2
    exact Written_text ⟨t.toArray⟩ A _ cap p l c w hE (by rw [mk_size]; exact ht)
  by_cases h3 : k = 3
  · subst h3
    exact Written_set ⟨t.toArray⟩ st A cap p l c w B hE hset hs
  · have e : Sc.writL ⟨k, t, st, pos⟩ = t := by
      unfold Sc.writL
      rw [if_neg h2, if_neg h3]
    rw [e]
    exact Written_plain ⟨t.toArray⟩ k (by omega) A _ cap p l c w
end Go.Proofs.YtokpknjmcegkaaaDoor
