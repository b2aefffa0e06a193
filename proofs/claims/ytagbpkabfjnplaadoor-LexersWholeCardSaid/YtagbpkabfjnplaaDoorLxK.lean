/- Lexers: the contract of Longest. -/
import Derived.Test.YtagbpkabfjnplaaDoorLxJ
import Derived.WalkLawsBesides
namespace Go.Proofs.YtagbpkabfjnplaaDoor
open Go Go.RowKit Rn Lx
set_option maxRecDepth 100000

namespace Lx
theorem dec_rune (l : List UInt8) (h : Lib.decodeL l ≠ (65533, 1)) : ((Lib.decodeL l).1 : Int) ≤ 1114111 ∧ ¬ (55296 ≤ ((Lib.decodeL l).1 : Int) ∧ ((Lib.decodeL l).1 : Int) ≤ 57343) := by
  rw [Lib.decodeL_N] at h ⊢
  have k0 := (l.getD 0 0).toNat_lt
  rcases Lib.decodeN_shape l.length (l.getD 0 0).toNat (l.getD 1 0).toNat (l.getD 2 0).toNat (l.getD 3 0).toNat with ⟨c, e⟩ | ⟨c1, c2, c3, cv, e⟩ | ⟨c1, c2, c3, c4, cv, cs, e⟩ | ⟨c1, c2, c3, c4, c5, cv, cw, e⟩ | e
  · rw [e]; dsimp only; omega
  · rw [e]; dsimp only; omega
  · rw [e]; dsimp only; omega
  · rw [e]; dsimp only; omega
  · exact absurd e h
/-- What is told of what begins at a place. -/
def lonV (b : Int × Nat) : Value := .tuple #[.int .i64 b.1, .int .i64 b.2]
theorem iter_below {w w' : World} {k : Nat} {s : ByteArray} {p : Nat} (h : w.heap[k]? = some (.stringIter s p)) (hb : Below w.heap.size w w') : w'.heap[k]? = some (.stringIter s p) := by
  rw [hb.block k (Array.getElem?_eq_some_iff.1 h).1]; exact h
end Lx
set_option maxHeartbeats 16000000 in
theorem Longest_any (t : Tb) (dr : List Bool) (g : Nat) (s : ByteArray) (k : Nat) (w : World) (h : LV w g t dr) (hm : May t) (hs : Sm t) (hE : EnvL w) (hsz : s.size ≤ 100000) :
    Calls Tryd.prog 14 #[.pointer (some ⟨g, 0, none⟩), .string s, .int .i64 k] w fun e w' => e = .returned (lonV (lon t (s.data.toList.drop k))) ∧ Below w.heap.size w w' := by
  have HMD := Lib.hid (made_any t dr g w h hm.n0 hs)
  obtain ⟨TT, hTT⟩ : ∃ b, lon t (s.data.toList.drop k) = b := ⟨_, rfl⟩
  rw [hTT]
  by_cases hk : k < s.size
  case neg =>
    have HF := Lib.hid (show (-1, 0) = TT from by rw [← hTT, List.drop_eq_nil_of_le (by rw [← Lib.size_eq]; omega)]; rfl)
    have e1 : decide ((k : Int) < 0) = false := decide_eq_false (by omega)
    have e2 : decide ((s.size : Int) ≤ (k : Int)) = true := decide_eq_true (by omega)
    have e3 : decide (s.size ≤ k) = true := decide_eq_true (by omega)
    clear hTT hE h hm hs
    go_enter Tryd.func14, Tryd.ntmps14
    go_wp2_with fail
    refine HMD.out.mono ?_
    rintro e w2 ⟨rfl, rfl⟩
    go_wp2_with fail
    go_ret2
    exact ⟨by rw [← HF.out]; rfl, Below.refl _ _⟩
  obtain ⟨tx, htx⟩ : ∃ tx, s.extract k s.size = tx := ⟨_, rfl⟩
  have ht : tx.data.toList = s.data.toList.drop k := by rw [← htx]; exact Lib.extract_to_end s k
  have htl : tx.size ≤ 100000 := by rw [← htx, ByteArray.size_extract]; omega
  have HF0 := Lib.hid (show ∃ f, tx.size - 0 ≤ f ∧ lonF t f ((0 : Nat) : Int) 0 (-1, 0) (tx.data.toList.drop 0) = TT from ⟨tx.size, by omega, by rw [List.drop_zero, ← hTT, lon, ht, Lib.size_eq, ht]; rfl⟩)
  have e1 : decide ((k : Int) < 0) = false := decide_eq_false (by omega)
  have e2 : decide ((s.size : Int) ≤ (k : Int)) = false := decide_eq_false (by omega)
  have e3 : decide (s.size ≤ k) = false := decide_eq_false (by omega)
  have e4 : (k : Int) ≤ (s.size : Int) := by omega
  have HL := Lib.hid (fun (W : World) (hb : Below w.heap.size w W) => h.below hb)
  have HEE := Lib.hid (fun (W : World) (hb : Below w.heap.size w W) => hE.below hb)
  have HM := Lib.hid hm
  have HS := Lib.hid hs
  have hn0 := hm.n0
  have hnl := hs.ns
  have HNE := Lib.hid hm.ne
  clear ht hTT hE h hm hs
  go_enter Tryd.func14, Tryd.ntmps14
  go_wp2_with fail
  refine HMD.out.mono ?_
  rintro e w2 ⟨rfl, rfl⟩
  go_wp2_with fail
  go_quiet (fail)
  go_wp2_with fail
  go_loopw [8, 6, 7] (fun a b c wr => ∃ (st : Nat) (kd : Int) (z pos : Nat), a = .int .i64 st ∧ b = .int .i64 kd ∧ c = .int .i64 z ∧ st < t.ns.length ∧ pos ≤ tx.size ∧ z ≤ pos ∧ wr.heap[w2.heap.size]? = some (.stringIter tx pos) ∧ Below w2.heap.size w2 wr ∧ Hid (∃ f, tx.size - pos ≤ f ∧ lonF t f (st : Int) pos (kd, z) (tx.data.toList.drop pos) = TT)) (fun _ _ _ wr => tx.size - wr.iterPos w2.heap.size)
  case atStart =>
    refine ⟨0, -1, 0, 0, rfl, rfl, rfl, hn0, Nat.zero_le _, Nat.le_refl _, ?_, ?_, HF0⟩
    · have h := World.iter_heap (w2.drewN nq) tx 0
      simpa using h
    · exact (below_drewN (Below.refl _ w2) nq).alloc (by exact Nat.le_refl _) (.stringIter tx 0)
  case round =>
    obtain ⟨st, kd, z, pos, rfl, rfl, rfl, hst, hp, hz, hit, hB, hF⟩ := hrel
    have hsz2 : w2.heap.size < wr.heap.size := (Array.getElem?_eq_some_iff.1 hit).1
    by_cases hpt : pos < tx.size
    · have hps : wr.iterPos w2.heap.size = pos := by simp [World.iterPos, hit]
      have hnx := fun ty => Lib.run_next_any_at (P := Tryd.prog) wr w2.heap.size tx pos ty hit hpt
      have hde := Lib.decodeL_drop tx pos
      have hne : tx.data.toList.drop pos ≠ [] := by
        intro e
        have := congrArg List.length e
        rw [List.length_drop, ← Lib.size_eq, List.length_nil] at this
        omega
      have hll : (tx.data.toList.drop pos).length = tx.size - pos := by rw [List.length_drop, ← Lib.size_eq]
      have hw := Lib.decodeL_width (tx.data.toList.drop pos)
      have hle2 := Lib.decodeL_le (tx.data.toList.drop pos) hne
      rw [hll] at hle2
      rw [← hde] at hnx
      have hit2 := Lib.iterAt_heap wr w2.heap.size tx pos (pos + (Lib.decodeL (tx.data.toList.drop pos)).2) hit
      have hb2 := Lib.below_iterAt hB (k := w2.heap.size) (Nat.le_refl _) tx (pos + (Lib.decodeL (tx.data.toList.drop pos)).2)
      obtain ⟨f, hfl, hfe⟩ := hF.out
      obtain ⟨f, rfl⟩ : ∃ f', f = f' + 1 := ⟨f - 1, by omega⟩
      rw [lonF, if_neg hne, List.drop_drop] at hfe
      generalize wr.iterAt w2.heap.size tx (pos + (Lib.decodeL (tx.data.toList.drop pos)).2) = W2 at *
      have HSt := Lib.hid (stray_any tx pos W2 (by omega) hpt (HEE.out _ hb2))
      have HStep := Lib.hid (fun (W : World) (hb : Below w2.heap.size w2 W) => step_any t dr g st ((Lib.decodeL (tx.data.toList.drop pos)).1 : Int) W (HL.out W hb) HM.out HS.out hst)
      have HIT := Lib.hid hit2
      have HP := Lib.hid hps
      by_cases hbad : Lib.decodeL (tx.data.toList.drop pos) = (65533, 1)
      · rw [if_pos hbad] at hfe
        have HQ := Lib.hid hfe
        rw [decide_eq_true hbad] at HSt
        clear hbad hfe hfl hF hps hde hne hll hle2 hit hit2 HStep hw
        generalize Lib.decodeL (tx.data.toList.drop pos) = d at *
        obtain ⟨r, n⟩ := d
        dsimp only at *
        go_wp2_with fail
        refine HSt.out.mono ?_
        rintro e w3 ⟨rfl, b3⟩
        have B3 := Lib.hid (hb2.trans (b3.mono hb2.size))
        clear b3
        go_wp2_with fail
        go_ret2
        exact ⟨by rw [← HQ.out]; rfl, B3.out⟩
      rw [if_neg hbad] at hfe
      rw [decide_eq_false hbad] at HSt
      have hrl := rlF_dec _ hbad
      have hru := dec_rune _ hbad
      have HRL := Lib.hid (fun (W : World) => RuneLen_any ((Lib.decodeL (tx.data.toList.drop pos)).1 : Int) W (by omega) hru.1 hru.2)
      rw [hrl] at HRL
      have hin := HM.out.stp_in (st := (st : Int)) (x := ((Lib.decodeL (tx.data.toList.drop pos)).1 : Int)) (by omega) (by omega)
      have hdd : ∀ f', (tx.size - (pos + (Lib.decodeL (tx.data.toList.drop pos)).2) ≤ f') ↔ (tx.size - (pos + (Lib.decodeL (tx.data.toList.drop pos)).2) ≤ f') := fun _ => Iff.rfl
      clear hbad hrl hru hF hps hde hne hll hit hit2 hdd
      generalize Lib.decodeL (tx.data.toList.drop pos) = d at *
      obtain ⟨r, n⟩ := d
      dsimp only at *
      obtain ⟨ST, hST⟩ : ∃ q, stp t (st : Int) (r : Int) = q := ⟨_, rfl⟩
      rw [hST] at hfe hin HStep
      clear hST
      by_cases hneg : ST < 0
      · rw [if_pos hneg] at hfe
        have HQ := Lib.hid hfe
        have d1 : decide (ST < 0) = true := decide_eq_true hneg
        clear hfe hfl
        go_wp2_with fail
        refine HSt.out.mono ?_
        rintro e w3 ⟨rfl, b3⟩
        have B3 := Lib.hid (hb2.trans (b3.mono hb2.size))
        clear b3
        go_wp2_with fail
        refine (HStep.out _ B3.out).mono ?_
        rintro e w4 ⟨rfl, b4⟩
        have B4 := Lib.hid (B3.out.trans (b4.mono B3.out.size))
        clear b4
        go_wp2_with fail
        go_ret2
        exact ⟨by rw [← HQ.out]; rfl, B4.out⟩
      rw [if_neg hneg] at hfe
      obtain ⟨S2, hS2⟩ : ∃ S2 : Nat, ST = (S2 : Int) := ⟨ST.toNat, by omega⟩
      subst hS2
      rw [show ((S2 : Int)).toNat = S2 from rfl] at hfe
      have hS2l : S2 < t.ns.length := by omega
      have d1 : decide ((S2 : Int) < 0) = false := decide_eq_false hneg
      obtain ⟨x, hx⟩ : ∃ x, t.es[S2]? = some x := ⟨_, List.getElem?_eq_getElem (by have := HNE.out; omega)⟩
      rw [List.getD_eq_getElem?_getD, hx, Option.getD_some] at hfe
      have HX := Lib.hid hx
      have HXS := Lib.hid (fun (W : World) (hb : Below w2.heap.size w2 W) => show ∃ ea ec b o, W.cell? ⟨g, 3, none⟩ = some (.slice (some ⟨b, o, none⟩) t.es.length ec) ∧ ea = (some ⟨b, o, none⟩ : Option Addr) ∧ W.cell? ⟨b, o + S2, none⟩ = some (.int .i64 x) from by
        obtain ⟨rv, cv, nv, ev, dv, hk, ⟨_, _, _, ⟨ea, ec, rfl, _, hz⟩⟩, _⟩ := HL.out W hb
        obtain ⟨b, o, rfl, hc⟩ := hz S2 x HX.out
        exact ⟨_, ec, b, o, by rw [hk.cell]; rfl, rfl, hc⟩)
      have hel : (S2 : Int) < (t.es.length : Int) := by have := HNE.out; omega
      have s0 : (0 : Int) ≤ (S2 : Int) := by omega
      clear hx
      by_cases hend : 0 ≤ x
      · rw [if_pos hend] at hfe
        have d2 : decide (0 ≤ x) = true := decide_eq_true hend
        have HQ := Lib.hid (show ∃ f, tx.size - (pos + n) ≤ f ∧ lonF t f (S2 : Int) (pos + n) (x, pos + n) (tx.data.toList.drop (pos + n)) = TT from ⟨f, by omega, hfe⟩)
        clear hfe hfl
        go_wp2_with fail
        refine HSt.out.mono ?_
        rintro e w3 ⟨rfl, b3⟩
        have I3 := Lib.hid (iter_below HIT.out b3)
        have B3 := Lib.hid (hb2.trans (b3.mono hb2.size))
        clear b3
        go_wp2_with fail
        refine (HStep.out _ B3.out).mono ?_
        rintro e w4 ⟨rfl, b4⟩
        have I4 := Lib.hid (iter_below I3.out b4)
        have B4 := Lib.hid (B3.out.trans (b4.mono B3.out.size))
        clear b4
        obtain ⟨_, ec, eb, eo, c3, _, c4⟩ := HXS.out _ B4.out
        go_wp2_with fail
        refine (HRL.out _).mono ?_
        rintro e w5 ⟨rfl, rfl⟩
        go_wp2_with fail
        refine ⟨⟨S2, x, pos + n, pos + n, rfl, rfl, by go_num, hS2l, by omega, Nat.le_refl _, I4.out, B4.out, HQ⟩, ?_⟩
        have e5 := I4.out
        rw [HP.out, show w5.iterPos w2.heap.size = pos + n from by simp [World.iterPos, e5]]
        omega
      · rw [if_neg hend] at hfe
        have d2 : decide (0 ≤ x) = false := decide_eq_false hend
        have HQ := Lib.hid (show ∃ f, tx.size - (pos + n) ≤ f ∧ lonF t f (S2 : Int) (pos + n) (kd, z) (tx.data.toList.drop (pos + n)) = TT from ⟨f, by omega, hfe⟩)
        clear hfe hfl
        go_wp2_with fail
        refine HSt.out.mono ?_
        rintro e w3 ⟨rfl, b3⟩
        have I3 := Lib.hid (iter_below HIT.out b3)
        have B3 := Lib.hid (hb2.trans (b3.mono hb2.size))
        clear b3
        go_wp2_with fail
        refine (HStep.out _ B3.out).mono ?_
        rintro e w4 ⟨rfl, b4⟩
        have I4 := Lib.hid (iter_below I3.out b4)
        have B4 := Lib.hid (B3.out.trans (b4.mono B3.out.size))
        clear b4
        obtain ⟨_, ec, eb, eo, c3, _, c4⟩ := HXS.out _ B4.out
        go_wp2_with fail
        refine ⟨⟨S2, kd, z, pos + n, rfl, rfl, rfl, hS2l, by omega, by omega, I4.out, B4.out, HQ⟩, ?_⟩
        have e5 := I4.out
        rw [HP.out, show w4.iterPos w2.heap.size = pos + n from by simp [World.iterPos, e5]]
        omega
    · have hnx := fun ty => Lib.run_next_end_at (P := Tryd.prog) wr w2.heap.size tx pos ty hit hpt
      have HQ := Lib.hid (show (kd, z) = TT from by
        obtain ⟨f, _, hfe⟩ := hF.out
        rw [← hfe, List.drop_eq_nil_of_le (by rw [← Lib.size_eq]; omega), lonF_nil])
      have B4 := Lib.hid hB
      clear hF hit hB
      go_wp2_with fail
      go_ret2
      exact ⟨by rw [← HQ.out]; rfl, B4.out⟩
end Go.Proofs.YtagbpkabfjnplaaDoor
