/- Lexers: tokens in memory; the contract of Tokens. -/
import Derived.Test.YtagbpkabfjnplaaDoorLxK
import Derived.WalkMore
import Derived.ScopeJumps
namespace Go.Proofs.YtagbpkabfjnplaaDoor
open Go Go.RowKit Rn Lx
set_option maxRecDepth 100000

namespace Lx
theorem lonF_mem {t : Tb} (h : May t) : ∀ (f : Nat) (st : Int) (i : Nat) (b : Int × Nat) (l : List UInt8), 0 ≤ st → st < t.ns.length → lonF t f st i b l = b ∨ (lonF t f st i b l).1 ∈ t.es
  | 0, st, i, b, l, _, _ => .inl rfl
  | f + 1, st, i, b, l, h0, h1 => by
    have hs := h.stp_in (st := st) (x := ((Lib.decodeL l).1 : Int)) h0 h1
    simp only [lonF]
    split
    · exact .inl rfl
    split
    · exact .inl rfl
    split
    · exact .inl rfl
    next hneg =>
    rcases lonF_mem h f _ (i + (Lib.decodeL l).2) (if 0 ≤ t.es.getD (stp t st ((Lib.decodeL l).1 : Int)).toNat 0 then (t.es.getD (stp t st ((Lib.decodeL l).1 : Int)).toNat 0, i + (Lib.decodeL l).2) else b) (l.drop (Lib.decodeL l).2) (by omega) hs.2 with e | e
    · rw [e]
      split
      · refine .inr ?_
        have := h.ne
        rw [List.getD_eq_getElem?_getD, List.getElem?_eq_getElem (by omega), Option.getD_some]
        exact List.getElem_mem _
      · exact .inl rfl
    · exact .inr e
theorem lon_mem {t : Tb} (h : May t) {l : List UInt8} (hk : ¬ (lon t l).1 < 0) : (lon t l).1 ∈ t.es := by
  rcases lonF_mem h l.length 0 0 (-1, 0) l (by omega) (by have := h.n0; omega) with e | e
  · exact absurd (show (lon t l).1 < 0 by rw [lon, e]; decide) hk
  · exact e
def tk1 (s : ByteArray) (q : Int × Nat × Nat) : List Value := [.int .i64 q.1, .string (s.extract q.2.1 (q.2.1 + q.2.2)), .int .i64 q.2.1]
def tkV (s : ByteArray) (l : List (Int × Nat × Nat)) : List Value := l.flatMap (tk1 s)
theorem tkV_snoc (s : ByteArray) (l : List (Int × Nat × Nat)) (q : Int × Nat × Nat) : tkV s (l ++ [q]) = tkV s l ++ tk1 s q := by simp [tkV]
/-- What Tokens answers. -/
def TokP (s : ByteArray) (B : Nat) (r : TkR) (e : Ending) (w : World) : Prop :=
  match r with
  | .bad er p => e = .returned (.tuple #[.slice none 0 0, .int .i64 p, .int .i64 er])
  | .ok l => ∃ a c, e = .returned (.tuple #[.slice a l.length c, .int .i64 s.size, .int .i64 0]) ∧ OwnV w 57 B (.slice a l.length c) l.length (tkV s l)
theorem tokp_bad {s : ByteArray} {B : Nat} {er : Int} {p : Nat} {w : World} : TokP s B (.bad er p) (.returned (.tuple #[.slice none 0 0, .int .i64 p, .int .i64 er])) w := rfl
theorem own_form {w : World} {base e size n : Nat} {v : Value} {xs : List Value} (h : w.ownsRow base e size v n xs) : ∃ A cap, v = .slice A n cap ∧ n ≤ cap ∧ cap ≤ maxLen ∧ (A = none → n = 0 ∧ cap = 0) := by
  rcases h.2 with ⟨h1, h2⟩ | ⟨g, c, cur, h1, h2, h3, h4, h5, h6⟩
  · exact ⟨none, 0, by rw [h1, h2], by omega, by unfold maxLen; omega, fun _ => ⟨h2, rfl⟩⟩
  · exact ⟨some ⟨g, 0, none⟩, c, h1, h4, h5, fun e => by cases e⟩
theorem own_of_row {w : World} {base size n cap : Nat} {e : TypeId} {A : Option Addr} {xs : List Value} (h : w.ownsRow base e size (.slice A n cap) n xs) : OwnV w e base (.slice A n n) n xs := by
  rcases h.2 with ⟨h1, h2⟩ | ⟨g, c, cur, h1, h2, h3, h4, h5, h6, h7⟩
  · injection h1 with h1 _ _
    subst h1 h2
    exact .inl ⟨rfl, rfl, List.eq_nil_of_length_eq_zero (by have := h.1; omega)⟩
  · injection h1 with h1 _ _
    subst h1
    refine .inr ⟨g, n, cur, rfl, h2, h3, Nat.le_refl _, fun j u hj => ?_⟩
    rw [← h7, List.getElem?_take] at hj
    split at hj
    · simpa using hj
    · cases hj
theorem tok_keep {w w' : World} {base size n : Nat} {e : TypeId} {v : Value} {xs : List Value} (h : w.ownsRow base e size v n xs) (hb : Below w.heap.size w w') : w'.ownsRow base e size v n xs := by
  refine ⟨h.1, ?_⟩
  rcases h.2 with h | ⟨g, cap, cur, h1, h2, h3, h4⟩
  · exact .inl h
  · exact .inr ⟨g, cap, cur, h1, h2, by rw [hb.block g (Array.getElem?_eq_some_iff.1 h3).1]; exact h3, h4⟩
theorem infoTok : (Tryd.prog.info? 57).map (fun i => (i.zero, i.size, i.bytes)) = some (some (.agg #[.int .i64 0, .string ⟨#[]⟩, .int .i64 0]), 3, 32) := by kernel_rfl
theorem cellsTk (w : World) (xs : List Value) (t : TypeId) : ∀ j u, xs[j]? = some u → (w.alloc (.cells xs.toArray t)).cell? ((⟨w.heap.size, 0, none⟩ : Addr).add j) = some u := by
  intro j u hj
  have := (Bk.made w t xs.toArray).cell j
  rw [show ((⟨w.heap.size, 0, none⟩ : Addr).add j) = ⟨w.heap.size, j, none⟩ from by simp [Addr.add]; omega]
  rw [this]
  simpa using hj
end Lx
theorem strClone_any (s : ByteArray) (hs : s.size ≤ 281474976710656) (w : World) : Calls Tryd.prog 38 #[.string s] w fun e w' => e = .returned (.string s) ∧ Below w.heap.size w w' := by
  go_enter Tryd.func38, Tryd.ntmps38
  go_wp2_with (go_at_call 57; refine (Tryd.stringslite_Clone _ _ hs).mono ?_; rintro e w' ⟨rfl, hb⟩)
  go_ret
  exact ⟨rfl, hb⟩
theorem ClipT_any (A : Option Addr) (n cap : Nat) (hn : n ≤ cap) (hc : cap ≤ 9223372036854775807) (hA : A = none → n = 0 ∧ cap = 0) (w : World) :
    Calls Tryd.prog 39 #[.slice A n cap] w fun e w' => e = .returned (.slice A n n) ∧ w' = w := by
  cases A with
  | none =>
    obtain ⟨rfl, rfl⟩ := hA rfl
    clear hA
    go_enter Tryd.func39, Tryd.ntmps39
    go_wp2
    go_ret
    exact ⟨rfl, rfl⟩
  | some a =>
    clear hA
    have a0 : (n : Int) ≤ (cap : Int) := by omega
    go_enter Tryd.func39, Tryd.ntmps39
    go_wp2
    go_ret
    exact ⟨rfl, rfl⟩
set_option maxHeartbeats 16000000 in
theorem Tokens_any (t : Tb) (dr : List Bool) (g : Nat) (s : ByteArray) (w : World) (h : LV w g t dr) (hm : May t) (hs : Sm t) (hn : ∀ x ∈ t.es, x < dr.length) (hE : EnvL w) (hsz : s.size ≤ 100000) :
    Calls Tryd.prog 16 #[.pointer (some ⟨g, 0, none⟩), .string s] w fun e w' => TokP s w.heap.size (tok t dr s.data.toList) e w' ∧ Below w.heap.size w w' := by
  have HMD := Lib.hid (made_any t dr g w h hm.n0 hs)
  have hBe : s.data.toList.length = s.size := (Lib.size_eq s).symm
  obtain ⟨TT, hTT⟩ : ∃ b, tok t dr s.data.toList = b := ⟨_, rfl⟩
  rw [hTT]
  have HTb := Lib.hid (fun (er : Int) (p : Nat) (h : TkR.bad er p = TT) (w' : World) => show TokP s w.heap.size TT (.returned (.tuple #[.slice none 0 0, .int .i64 p, .int .i64 er])) w' from by rw [← h]; exact tokp_bad)
  by_cases hlong : 65536 < s.size
  · have HQ := Lib.hid (HTb.out 3 0 (by rw [← hTT, tok, if_pos (by rw [hBe]; exact hlong)]))
    have d0 : decide (65536 < s.size) = true := decide_eq_true hlong
    have d1 : decide ((65536 : Int) < (s.size : Int)) = true := decide_eq_true (by omega)
    obtain ⟨PP, hPP⟩ : ∃ q, TokP s w.heap.size TT = q := ⟨_, rfl⟩
    rw [hPP] at HQ ⊢
    clear hTT h hm hs hn hE hPP HTb
    go_enter Tryd.func16, Tryd.ntmps16
    go_wp2_with fail
    go_step3
    go_wp2_with fail
    refine HMD.out.mono ?_
    rintro e w2 ⟨rfl, hw2⟩
    rw [hw2]
    clear hw2
    go_wp2_with fail
    rw [Exit.noGoto_ret]
    go_ret3
    exact ⟨HQ.out _, Below.refl _ _⟩
  have d0 : decide (65536 < s.size) = false := decide_eq_false hlong
  have d1 : decide ((65536 : Int) < (s.size : Int)) = false := decide_eq_false (by omega)
  have hsz6 : s.size ≤ 65536 := by omega
  have HF0 := Lib.hid (show ∃ f, s.size - 0 ≤ f ∧ tokF t dr s.data.toList f 0 [] = TT from ⟨s.size, by omega, by rw [← hTT, tok, if_neg (by rw [hBe]; exact hlong), hBe]⟩)
  have HTo := Lib.hid (fun (l : List (Int × Nat × Nat)) (h : TkR.ok l = TT) (a : Option Addr) (c : Nat) (w' : World) (ho : OwnV w' 57 w.heap.size (.slice a l.length c) l.length (tkV s l)) => show TokP s w.heap.size TT (.returned (.tuple #[.slice a l.length c, .int .i64 s.size, .int .i64 0])) w' from by rw [← h]; exact ⟨a, c, rfl, ho⟩)
  obtain ⟨PP, hPP⟩ : ∃ q, TokP s w.heap.size TT = q := ⟨_, rfl⟩
  rw [hPP] at HTb HTo ⊢
  have HL := Lib.hid (fun (W : World) (hb : Below w.heap.size w W) (k : Nat) => Longest_any t dr g s k W (h.below hb) hm hs (hE.below hb) hsz)
  have HD := Lib.hid (fun (W : World) (hb : Below w.heap.size w W) (k : Nat) (x : Bool) (hx : dr[k]? = some x) => show ∃ b o c, W.cell? ⟨g, 4, none⟩ = some (.slice (some ⟨b, o, none⟩) dr.length c) ∧ W.cell? ⟨b, o + k, none⟩ = some (.bool x) from by
    obtain ⟨rv, cv, nv, ev, dv, hk, _, ⟨da, dc, rfl, _, hz⟩⟩ := h.below hb
    obtain ⟨b, o, rfl, hc⟩ := hz k x hx
    exact ⟨b, o, dc, by rw [hk.cell]; rfl, hc⟩)
  have HM := Lib.hid hm
  have HN := Lib.hid hn
  have HSZ := Lib.hid hBe
  clear hTT h hm hs hn hE hPP hBe
  go_enter Tryd.func16, Tryd.ntmps16
  obtain ⟨i0, hi, hz0, hz1, hz2⟩ := infoOf infoTok
  go_wp2_with fail
  go_step3
  go_wp2_with fail
  refine HMD.out.mono ?_
  rintro e w2 ⟨rfl, hw2⟩
  rw [hw2]
  clear hw2
  go_wp2_with fail
  go_step3
  go_wp2_with fail
  go_loopw [7, 4, 5] (fun a b c wr => ∃ (p : Nat) (acc : List (Int × Nat × Nat)) (A : Option Addr) (cap : Nat) (x5 : Int), a = .int .i64 p ∧ b = .slice A acc.length cap ∧ c = .int .i64 x5 ∧ p ≤ s.size ∧ Hid (acc.length ≤ 16384) ∧ Hid (wr.ownsRow w.heap.size 57 3 (.slice A acc.length cap) acc.length (tkV s acc)) ∧ Hid (Below w.heap.size w wr) ∧ Hid (∃ f, s.size - p ≤ f ∧ tokF t dr s.data.toList f p acc = TT)) (fun a _ _ _ => s.size - (intOf a).toNat)
  case atStart => exact ⟨0, [], none, 0, 0, rfl, rfl, rfl, Nat.zero_le _, Lib.hid (Nat.zero_le _), Lib.hid (World.ownsRow_nil w _ _ _), Lib.hid (Below.refl _ _), HF0⟩
  case round =>
    obtain ⟨p, acc, A, cap, x5, rfl, rfl, rfl, hp, hacc, hrow, hB, hF⟩ := hrel
    by_cases hlt : p < s.size
    · have e0 : decide (p < s.size) = true := decide_eq_true hlt
      have HLo := Lib.hid (HL.out wr hB.out p)
      obtain ⟨f, hfl, hfe⟩ := hF.out
      obtain ⟨f, rfl⟩ : ∃ f', f = f' + 1 := ⟨f - 1, by omega⟩
      rw [tokF, if_neg (by rw [HSZ.out]; omega)] at hfe
      have hps := fun h => lon_pos (t := t) (l := s.data.toList.drop p) h
      have hng := fun h => lon_neg (t := t) (l := s.data.toList.drop p) h
      have hmem := fun h => lon_mem HM.out (l := s.data.toList.drop p) h
      rw [List.length_drop, HSZ.out] at hps
      generalize lon t (s.data.toList.drop p) = K at *
      obtain ⟨kd, n⟩ := K
      dsimp only at hfe hps hng hmem
      by_cases hneg : kd < 0
      · rw [if_pos hneg] at hfe
        have hkn := hng hneg
        injection hkn with hk1 hk2
        subst hk1 hk2
        have HQ := Lib.hid (HTb.out _ _ hfe)
        simp only [lonV] at HLo
        clear hfe hfl hps hng hmem hneg hF
        go_wp2_with fail
        refine HLo.out.mono ?_
        rintro e w3 ⟨rfl, b3⟩
        have B3 := Lib.hid (hB.out.trans (b3.mono hB.out.size))
        clear b3
        go_wp2_with fail
        rw [Exit.noGoto_ret]
        go_ret3
        exact ⟨HQ.out _, B3.out⟩
      obtain ⟨n0, n1⟩ := hps hneg
      have hkm := HN.out kd (hmem hneg)
      obtain ⟨KD, hKD⟩ : ∃ KD : Nat, kd = (KD : Int) := ⟨kd.toNat, by omega⟩
      subst hKD
      rw [if_neg hneg, show ((KD : Int)).toNat = KD from rfl] at hfe
      have hKDl : KD < dr.length := by omega
      obtain ⟨x, hx⟩ : ∃ x, dr[KD]? = some x := ⟨_, List.getElem?_eq_getElem hKDl⟩
      rw [List.getD_eq_getElem?_getD, hx, Option.getD_some] at hfe
      have HDx := Lib.hid (fun (W : World) (hb : Below w.heap.size w W) => HD.out W hb KD x hx)
      have k0 : (KD : Int) < (dr.length : Int) := by omega
      have k1 : (0 : Int) ≤ (KD : Int) := by omega
      have k2 : decide ((KD : Int) < 0) = false := decide_eq_false hneg
      simp only [lonV] at HLo
      clear hps hng hmem hkm hx hneg
      cases x with
      | true =>
        rw [if_pos rfl] at hfe
        have HQ := Lib.hid (show ∃ f, s.size - (p + n) ≤ f ∧ tokF t dr s.data.toList f (p + n) acc = TT from ⟨f, by omega, hfe⟩)
        have hrw := Lib.hid (fun (W : World) (b3 : Below wr.heap.size wr W) => tok_keep hrow.out b3)
        clear hfe hfl hF
        go_wp2_with fail
        refine HLo.out.mono ?_
        rintro e w3 ⟨rfl, b3⟩
        have B3 := Lib.hid (hB.out.trans (b3.mono hB.out.size))
        have R3 := Lib.hid (hrw.out _ b3)
        clear b3
        obtain ⟨db, dof, dc, z0, z1⟩ := HDx.out _ B3.out
        go_wp2_with fail
        exact ⟨⟨p + n, acc, A, cap, p, by go_num, rfl, rfl, by omega, hacc, R3, B3, HQ⟩, by simp [intOf]; omega⟩
      | false =>
        rw [if_neg (by simp)] at hfe
        by_cases hfull : acc.length = 16384
        · rw [if_pos hfull] at hfe
          have HQ := Lib.hid (HTb.out _ _ hfe)
          have e5 : ((acc.length : Int) == 16384) = true := by rw [beq_iff_eq]; omega
          have e6 : (acc.length == 16384) = true := by rw [beq_iff_eq]; exact hfull
          clear hfe hfl hF hfull
          go_wp2_with fail
          refine HLo.out.mono ?_
          rintro e w3 ⟨rfl, b3⟩
          have B3 := Lib.hid (hB.out.trans (b3.mono hB.out.size))
          clear b3
          obtain ⟨db, dof, dc, z0, z1⟩ := HDx.out _ B3.out
          go_wp2_with fail
          rw [Exit.noGoto_ret]
          go_ret3
          exact ⟨HQ.out _, B3.out⟩
        · rw [if_neg hfull] at hfe
          have HQ := Lib.hid (show ∃ f, s.size - (p + n) ≤ f ∧ tokF t dr s.data.toList f (p + n) (acc ++ [((KD : Int), p, n)]) = TT from ⟨f, by omega, hfe⟩)
          have e5 : ((acc.length : Int) == 16384) = false := by rw [beq_eq_false_iff_ne]; omega
          have e6 : (acc.length == 16384) = false := by rw [beq_eq_false_iff_ne]; exact hfull
          have hrw := Lib.hid (fun (W : World) (b3 : Below wr.heap.size wr W) => tok_keep hrow.out b3)
          have HSN := Lib.hid (tkV_snoc s acc ((KD : Int), p, n))
          have HLN := Lib.hid (show (acc ++ [((KD : Int), p, n)]).length = acc.length + 1 from by simp)
          have hac := hacc.out
          have hac2 : Hid (acc.length + 1 ≤ 16384) := Lib.hid (by omega)
          obtain ⟨tx, htx⟩ : ∃ tx, s.extract p (p + n) = tx := ⟨_, rfl⟩
          have hq1 : (p : Int) ≤ (p : Int) + (n : Int) := by omega
          have hq2 : (p : Int) + (n : Int) ≤ (s.size : Int) := by omega
          have htn : ((p : Int) + (n : Int)).toNat = p + n := by omega
          have htl : tx.size ≤ 281474976710656 := by rw [← htx, ByteArray.size_extract]; omega
          have HTX := Lib.hid htx
          have HSC := Lib.hid (fun (W : World) => strClone_any tx htl W)
          clear hfe hfl hF hfull
          go_wp2_with fail
          refine HLo.out.mono ?_
          rintro e w3 ⟨rfl, b3⟩
          have R3 := Lib.hid (hrw.out _ b3)
          have B3 := Lib.hid (hB.out.trans (b3.mono hB.out.size))
          clear b3
          obtain ⟨db, dof, dc, z0, z1⟩ := HDx.out _ B3.out
          go_wp2_with fail
          refine (HSC.out _).mono ?_
          rintro e w4 ⟨rfl, b4⟩
          have R4 := Lib.hid (tok_keep R3.out b4)
          have B4 := Lib.hid (B3.out.trans (b4.mono B3.out.size))
          have R5 := tok_keep R4.out ((Below.refl w4.heap.size w4).alloc (Nat.le_refl _) (.cells #[.int .i64 (KD : Int), .string tx, .int .i64 (p : Int)] 57))
          have B5 := Lib.hid (B4.out.alloc B4.out.size (.cells #[.int .i64 (KD : Int), .string tx, .int .i64 (p : Int)] 57))
          have B4s := B4.out.size
          clear b4 z0 z1 htx
          go_wp2_with (at_builtin; refine wpList_append_own _ rfl _ _ 43 rfl w.heap.size 57 i0 (.agg #[.int .i64 0, .string ⟨#[]⟩, .int .i64 0]) 3 32 Tryd.underlying43 hi hz0 hz1 hz2 rfl (by decide) _ _ _ rfl R5 ⟨w4.heap.size, 0, none⟩ 1 1 [.int .i64 (KD : Int), .string tx, .int .i64 (p : Int)] rfl rfl (cellsTk w4 [.int .i64 (KD : Int), .string tx, .int .i64 (p : Int)] 57) (fun x hx => by simp at hx; rcases hx with rfl | rfl | rfl <;> rfl) (by unfold maxLen; omega) (by omega) (by simp; omega) ?_; intro v' w5 hown hg _)
          have B6 := Lib.hid (B5.out.grown hg (by simp; omega) (fun k hk => R5.2.elim (fun h => by rw [h.1] at hk; cases hk) (fun ⟨g', _, _, h, hge, _⟩ => by rw [h] at hk; injection hk with hk; subst hk; exact hge)))
          obtain ⟨A2, cap2, rfl, hc2, hc3, hc4⟩ := own_form hown
          have HO := Lib.hid (show w5.ownsRow w.heap.size 57 3 (.slice A2 (acc ++ [((KD : Int), p, n)]).length cap2) (acc ++ [((KD : Int), p, n)]).length (tkV s (acc ++ [((KD : Int), p, n)])) from by
            rw [HSN.out, HLN.out, tk1, HTX.out]; exact hown)
          have HA2 := Lib.hid (show (acc ++ [((KD : Int), p, n)]).length ≤ 16384 from by rw [HLN.out]; exact hac2.out)
          have HV := Lib.hid (show Value.slice A2 (acc.length + 1) cap2 = .slice A2 (acc ++ [((KD : Int), p, n)]).length cap2 from by rw [HLN.out])
          exact ⟨⟨p + n, _, A2, cap2, p, by go_num, HV.out, rfl, by omega, HA2, HO, B6, HQ⟩, by simp [intOf]; omega⟩
    · have e0 : decide (p < s.size) = false := decide_eq_false hlt
      have hfin : TkR.ok acc = TT := by
        obtain ⟨f, _, hfe⟩ := hF.out
        rw [← hfe, tokF_end _ _ _ _ _ _ (by rw [HSZ.out]; omega)]
      obtain ⟨A2, cap2, hv, hc2, hc3, hc4⟩ := own_form hrow.out
      injection hv with hv1 hv2 hv3
      subst hv1 hv3
      have HQ := Lib.hid (fun (w' : World) (ho : OwnV w' 57 w.heap.size (.slice A acc.length acc.length) acc.length (tkV s acc)) => HTo.out acc hfin A acc.length w' ho)
      have HOW := Lib.hid (own_of_row hrow.out)
      have HCl := Lib.hid (fun (W : World) => ClipT_any A acc.length cap hc2 (by unfold maxLen at hc3; omega) hc4 W)
      clear hfin hF hv2
      go_wp2_with fail
      refine (HCl.out _).mono ?_
      rintro e w3 ⟨rfl, hw3⟩
      rw [hw3]
      clear hw3
      go_wp2_with fail
      rw [Exit.noGoto_ret]
      go_ret3
      exact ⟨HQ.out _ HOW.out, hB.out⟩
end Go.Proofs.YtagbpkabfjnplaaDoor
