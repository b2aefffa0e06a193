/- The chapter's own Text: of whatever node is plain. plainText: a node's text, where it is plain for something. -/
import Derived.Test.YthfkodimafmmgaaGreatDoorNdk
namespace Go.Proofs.YthfkodimafmmgaaGreatDoor
open Go Go.RowKit Ru
set_option maxRecDepth 100000

theorem ba_eq {a b : ByteArray} (h : a.data.toList = b.data.toList) : a = b := ByteArray.ext (Array.toList_inj.1 h)
theorem ba_app (a b : ByteArray) : (a ++ b).data.toList = a.data.toList ++ b.data.toList := by simp
theorem refNText_any (tok : Bool) (t : Nd.T) : ∀ (v : Value) (w : World), Nd.At w t v → Nd.plainB t tok = true → Nd.full t ≤ 3000 →
    Calls Tryz.prog 26 #[v] w fun e w' => e = .returned (.string ⟨(Nd.txt t).toArray⟩) ∧ Below w.heap.size w w' := by
  induction t using Nd.T.ind with | _ k nm tx st sb ih => ?_
  intro v w hA hp hf
  obtain ⟨_, _, hfit, hsub⟩ := (Nd.plain_subs k nm tx st sb tok).1 hp
  have hfull : ∀ s ∈ sb, Nd.full s ≤ 3000 := fun s hs => by
    have h1 : Nd.full (.mk k nm tx st sb) = 1 + nm.size + tx.size + st.length + Nd.fullL sb := by simp only [Nd.full]
    have h2 : ∀ (b : List Nd.T), s ∈ b → Nd.full s ≤ Nd.fullL b := by
      intro b
      induction b with
      | nil => intro h; cases h
      | cons x r ihb =>
        intro h
        simp only [Nd.fullL]
        rcases List.mem_cons.1 h with rfl | h
        · omega
        · have := ihb h; omega
    have := h2 sb hs
    omega
  have hfl : Nd.full (.mk k nm tx st sb) = 1 + nm.size + tx.size + st.length + Nd.fullL sb := by simp only [Nd.full]
  have htxt := Nd.txt_len (.mk k nm tx st sb)
  have hCT : ∀ s ∈ sb, ∀ (v : Value) (wx : World), Nd.At wx s v → Calls Tryz.prog 26 #[v] wx fun e w' => e = .returned (.string ⟨(Nd.txt s).toArray⟩) ∧ Below wx.heap.size wx w' :=
    fun s hs v wx hA => ih s hs v wx hA (hsub s hs) (hfull s hs)
  have hCI : ∀ kk : Int, (kk = 0 ∨ kk = 1 ∨ kk = 2 ∨ kk = 3 ∨ kk = 4) → ∀ s ∈ sb, ∀ (v : Value) (wx : World), Nd.At wx s v → Calls Tryz.prog 43 #[v, .int .u8 kk] wx fun e w' => e = .returned (.string ⟨(Nd.subT kk s).toArray⟩) ∧ Below wx.heap.size wx w' := by
    intro kk hkk s hs v wx hAs
    have hC := fun wy (b : Below wx.heap.size wx wy) => hCT s hs v wy (hAs.below b)
    obtain ⟨sa, sc, ba, bc, rfl, _, _, _, _, hbc, _, _⟩ := hAs.form
    have hl := Nd.txt_len s
    have hl2 := hfull s hs
    refine in_of s.name s.text sa ba s.set.length sc s.subs.length bc s.kind kk ⟨(Nd.txt s).toArray⟩ ⟨(Nd.subT kk s).toArray⟩ wx hkk ?_ hbc.2 hC ?_ ?_
    · show (Nd.txt s).toArray.size ≤ 900000
      simp only [List.size_toArray]
      omega
    · intro hw
      refine ba_eq ?_
      rw [ba_app, ba_app]
      show [40] ++ (Nd.txt s).toArray.toList ++ [41] = (Nd.subT kk s).toArray.toList
      unfold Nd.subT
      rw [Nd.wrapped_wrK, if_pos hw]
    · intro hw
      refine ba_eq ?_
      show (Nd.txt s).toArray.toList = (Nd.subT kk s).toArray.toList
      unfold Nd.subT
      rw [Nd.wrapped_wrK, if_neg (by rw [hw]; simp)]
  clear ih
  have hsz : (⟨(Nd.txt (.mk k nm tx st sb)).toArray⟩ : ByteArray).size ≤ 100000 := by
    show (Nd.txt (.mk k nm tx st sb)).toArray.size ≤ 100000
    simp only [List.size_toArray]
    omega
  have hAA := hA
  unfold Nd.At at hA
  obtain ⟨sa, sc, ba, bc, rfl, hk, hnm, htx, hsc, hbc, hR, hL⟩ := hA
  unfold Nd.fitsB at hfit
  have one : sb.length = 1 → ∃ s, sb = [s] := fun h => by
    match sb, h with
    | [s], _ => exact ⟨s, rfl⟩
  by_cases k0 : k = 0
  · rw [if_pos (show (Nd.T.mk k nm tx st sb).kind = 0 from k0)] at hfit
    dsimp only [Nd.T.name, Nd.T.text, Nd.T.set, Nd.T.subs] at hfit
    subst k0
    simp only [Bool.and_eq_true, decide_eq_true_eq] at hfit
    refine rtext_alts nm tx sa ba st.length sc sb.length bc w _ hbc.2 (by have h2 : 2 ≤ sb.length := of_decide_eq_true hfit.2.1; omega) sb rfl hL ?_ hsz (hCI 0 (by omega))
    show (Nd.txt (.mk 0 nm tx st sb)).toArray.toList = _
    simp [Nd.txt]
  rw [if_neg (show ¬ (Nd.T.mk k nm tx st sb).kind = 0 from k0)] at hfit
  by_cases k1 : k = 1
  · rw [if_pos (show (Nd.T.mk k nm tx st sb).kind = 1 from k1)] at hfit
    dsimp only [Nd.T.name, Nd.T.text, Nd.T.set, Nd.T.subs] at hfit
    subst k1
    by_cases hz : sb.length = 0
    · refine rtext_void nm tx sa ba st.length sc sb.length bc w _ hz ?_
      refine ba_eq ?_
      show [40, 41] = (Nd.txt (.mk 1 nm tx st sb)).toArray.toList
      have : sb = [] := List.length_eq_zero_iff.1 hz
      subst this
      simp [Nd.txt, Nd.joinT]
    · refine rtext_seq nm tx sa ba st.length sc sb.length bc w _ hbc.2 (by omega) sb rfl hL ?_ hsz (hCI 1 (by omega))
      show (Nd.txt (.mk 1 nm tx st sb)).toArray.toList = _
      simp only [Nd.txt]
      simp [hz]
  rw [if_neg (show ¬ (Nd.T.mk k nm tx st sb).kind = 1 from k1)] at hfit
  by_cases k2 : k = 2 ∨ k = 3 ∨ k = 4
  · rw [if_pos (show (Nd.T.mk k nm tx st sb).kind = 2 ∨ (Nd.T.mk k nm tx st sb).kind = 3 ∨ (Nd.T.mk k nm tx st sb).kind = 4 from k2)] at hfit
    dsimp only [Nd.T.name, Nd.T.text, Nd.T.set, Nd.T.subs] at hfit
    simp only [Bool.and_eq_true, decide_eq_true_eq] at hfit
    obtain ⟨s, rfl⟩ := one (of_decide_eq_true hfit.2)
    rcases k2 with rfl | rfl | rfl
    · refine rtext_opt nm tx sa ba st.length sc _ bc w _ rfl s hL ?_ hsz (hCI 2 (by omega) s (by simp))
      refine ba_eq ?_
      rw [ba_app]
      show (Nd.subT 2 s).toArray.toList ++ [63] = (Nd.txt (.mk 2 nm tx st [s])).toArray.toList
      simp [Nd.txt, Nd.firstT, Nd.subT]
    · refine rtext_star nm tx sa ba st.length sc _ bc w _ rfl s hL ?_ hsz (hCI 3 (by omega) s (by simp))
      refine ba_eq ?_
      rw [ba_app]
      show (Nd.subT 3 s).toArray.toList ++ [42] = (Nd.txt (.mk 3 nm tx st [s])).toArray.toList
      simp [Nd.txt, Nd.firstT, Nd.subT]
    · refine rtext_plus nm tx sa ba st.length sc _ bc w _ rfl s hL ?_ hsz (hCI 4 (by omega) s (by simp))
      refine ba_eq ?_
      rw [ba_app]
      show (Nd.subT 4 s).toArray.toList ++ [43] = (Nd.txt (.mk 4 nm tx st [s])).toArray.toList
      simp [Nd.txt, Nd.firstT, Nd.subT]
  rw [if_neg (show ¬ ((Nd.T.mk k nm tx st sb).kind = 2 ∨ (Nd.T.mk k nm tx st sb).kind = 3 ∨ (Nd.T.mk k nm tx st sb).kind = 4) from k2)] at hfit
  by_cases k7 : k = 7
  · rw [if_pos (show (Nd.T.mk k nm tx st sb).kind = 7 from k7)] at hfit
    dsimp only [Nd.T.name, Nd.T.text, Nd.T.set, Nd.T.subs] at hfit
    subst k7
    simp only [Bool.and_eq_true, decide_eq_true_eq] at hfit
    obtain ⟨s, rfl⟩ := one (of_decide_eq_true hfit.2.1)
    refine rtext_pred nm tx sa ba st.length sc _ bc w _ rfl s hL ⟨(Nd.txt s).toArray⟩ ?_ hsz (hCT s (by simp))
    refine ba_eq ?_
    rw [ba_app, ba_app]
    show [40] ++ (Nd.txt s).toArray.toList ++ [41, 32, 61, 62] = (Nd.txt (.mk 7 nm tx st [s])).toArray.toList
    simp [Nd.txt, Nd.firstT, Nd.wrappedB]
  rw [if_neg (show ¬ (Nd.T.mk k nm tx st sb).kind = 7 from k7)] at hfit
  by_cases k5 : k = 5
  · subst k5
    refine rtext_ref nm tx sa ba st.length sc _ bc w _ ?_
    refine ba_eq ?_
    show nm.data.toList = (Nd.txt (.mk 5 nm tx st sb)).toArray.toList
    simp [Nd.txt]
  rw [if_neg (show ¬ (Nd.T.mk k nm tx st sb).kind = 5 from k5)] at hfit
  by_cases k6 : k = 6
  · subst k6
    refine rtext_tok nm tx sa ba st.length sc _ bc w _ ?_
    refine ba_eq ?_
    show nm.data.toList = (Nd.txt (.mk 6 nm tx st sb)).toArray.toList
    simp [Nd.txt]
  rw [if_neg (show ¬ (Nd.T.mk k nm tx st sb).kind = 6 from k6)] at hfit
  by_cases k8 : k = 8
  · rw [if_pos (show (Nd.T.mk k nm tx st sb).kind = 8 from k8)] at hfit
    dsimp only [Nd.T.name, Nd.T.text, Nd.T.set, Nd.T.subs] at hfit
    subst k8
    simp only [Bool.and_eq_true, decide_eq_true_eq] at hfit
    have hb : bad tx.data.toList < 0 := of_decide_eq_true hfit.1.1.2.1.2
    have hb2 : bad tx.data.toList = -1 := by
      unfold bad at hb ⊢
      rcases bd_range tx.data.toList.length tx.data.toList 0 with h1 | h1
      · exact h1
      · omega
    refine rtext_lit nm tx sa ba st.length sc _ bc w _ hb2 ⟨(Nd.lit tx.data.toList).toArray⟩ rfl ?_ hsz (by omega)
    refine ba_eq ?_
    rw [ba_app, ba_app]
    show [39] ++ (Nd.lit tx.data.toList).toArray.toList ++ [39] = (Nd.txt (.mk 8 nm tx st sb)).toArray.toList
    simp [Nd.txt]
  rw [if_neg (show ¬ (Nd.T.mk k nm tx st sb).kind = 8 from k8)] at hfit
  by_cases k9 : k = 9
  · rw [if_pos (show (Nd.T.mk k nm tx st sb).kind = 9 from k9)] at hfit
    dsimp only [Nd.T.name, Nd.T.text, Nd.T.set, Nd.T.subs] at hfit
    subst k9
    simp only [Bool.and_eq_true, decide_eq_true_eq, Bool.not_eq_true'] at hfit
    refine rtext_set nm tx sa ba st.length sc _ bc w _ hsc.2 st rfl hR hfit.1.2.1.2 ⟨(Nd.rgT st).toArray⟩ rfl ?_ hsz
    refine ba_eq ?_
    rw [ba_app, ba_app]
    show [91] ++ (Nd.rgT st).toArray.toList ++ [93] = (Nd.txt (.mk 9 nm tx st sb)).toArray.toList
    simp [Nd.txt]
  rw [if_neg (show ¬ (Nd.T.mk k nm tx st sb).kind = 9 from k9)] at hfit
  cases hfit
end Go.Proofs.YthfkodimafmmgaaGreatDoor
namespace Go.Proofs.YthfkodimafmmgaaGreatDoor
open Go Go.RowKit Ru
set_option maxRecDepth 100000

theorem ret_two {a b : ByteArray} {p : Bool} (h : a = b) : Ending.returned (.tuple #[.string a, .bool p]) = .returned (.tuple #[.string b, .bool p]) := by rw [h]
set_option maxHeartbeats 1000000 in
theorem plainText_any (t : Nd.T) (v : Value) (w : World) (hA : Nd.At w t v) (hf : Nd.full t ≤ 3000) (hc : Nd.count t ≤ 1000000) (hd : Nd.deep t ≤ 1000000) (X : ByteArray) (hX : (⟨(if Nd.plainB t true || Nd.plainB t false then Nd.txt t else []).toArray⟩ : ByteArray) = X) :
    Calls Tryz.prog 14 #[v] w fun e w' => e = .returned (.tuple #[.string X, .bool (Nd.plainB t true || Nd.plainB t false)]) ∧ Below w.heap.size w w' := by
  obtain ⟨sa, sc, ba, bc, rfl, _⟩ := hA.form
  obtain ⟨W1, hW1⟩ : ∃ W1, w.alloc (.cells #[.int .u8 t.kind, .string t.name, .string t.text, .slice sa t.set.length sc, .slice ba t.subs.length bc] 26) = W1 := ⟨_, rfl⟩
  have h1 : Below w.heap.size w W1 := by rw [← hW1]; exact (Below.refl _ w).alloc (Nat.le_refl _) _
  have kb : Bk W1 w.heap.size 26 #[.int .u8 t.kind, .string t.name, .string t.text, .slice sa t.set.length sc, .slice ba t.subs.length bc] := by rw [← hW1]; exact Bk.made w _ _
  have hA1 := hA.below h1
  have hl := kb.lt
  have k0 := kb.cell 0
  have k1 := kb.cell 1
  have k2 := kb.cell 2
  have k3 := kb.cell 3
  have k4 := kb.cell 4
  simp at k0 k1 k2 k3 k4
  have H1 := Lib.hid h1
  have CP := Lib.hid (fun tok wr (h : Below W1.heap.size W1 wr) => (refPlain_any tok t _ wr (hA1.below h) hc hd).mono (R' := fun e w' => e = .returned (.bool (Nd.plainB t tok)) ∧ Below W1.heap.size W1 w') fun e w' k => ⟨k.1, h.trans (k.2.mono h.size)⟩)
  have CT := Lib.hid (fun tok (hp : Nd.plainB t tok = true) wr (h : Below W1.heap.size W1 wr) => (refNText_any tok t _ wr (hA1.below h) hp hf).mono (R' := fun e w' => e = .returned (.string ⟨(Nd.txt t).toArray⟩) ∧ Below W1.heap.size W1 w') fun e w' k => ⟨k.1, h.trans (k.2.mono h.size)⟩)
  have HY := Lib.hid (fun w' (b : Below W1.heap.size W1 w') => show w'.cell? ⟨w.heap.size, 0, none⟩ = some (.int .u8 t.kind) ∧ w'.cell? ⟨w.heap.size, 1, none⟩ = some (.string t.name) ∧ w'.cell? ⟨w.heap.size, 2, none⟩ = some (.string t.text) ∧ w'.cell? ⟨w.heap.size, 3, none⟩ = some (.slice sa t.set.length sc) ∧ w'.cell? ⟨w.heap.size, 4, none⟩ = some (.slice ba t.subs.length bc) from ⟨(b.cell (p := ⟨w.heap.size, 0, none⟩) hl).trans k0, (b.cell (p := ⟨w.heap.size, 1, none⟩) hl).trans k1, (b.cell (p := ⟨w.heap.size, 2, none⟩) hl).trans k2, (b.cell (p := ⟨w.heap.size, 3, none⟩) hl).trans k3, (b.cell (p := ⟨w.heap.size, 4, none⟩) hl).trans k4⟩)
  have HW := Lib.hid hW1
  obtain ⟨PT, hPT⟩ : ∃ b, Nd.plainB t true = b := ⟨_, rfl⟩
  obtain ⟨PF, hPF⟩ : ∃ b, Nd.plainB t false = b := ⟨_, rfl⟩
  have CPT := Lib.hid (CP.out true)
  have CPF := Lib.hid (CP.out false)
  have CTT := Lib.hid (CT.out true)
  have CTF := Lib.hid (CT.out false)
  rw [hPT] at CPT CTT hX ⊢
  rw [hPF] at CPF CTF hX ⊢
  obtain ⟨TX, hTX⟩ : ∃ x, Nd.txt t = x := ⟨_, rfl⟩
  rw [hTX] at CTT CTF hX
  have HX := Lib.hid hX
  clear h1 kb hA hA1 hW1 hl hc hd hf hPT hPF hTX CP CT hX
  generalize t.kind = sk at *
  generalize t.name = sn at *
  generalize t.text = sx at *
  generalize t.set.length = sl at *
  generalize t.subs.length = sm at *
  go_enter Tryz.func14, Tryz.ntmps14
  cases PT
  case true =>
    have HX' := Lib.hid (show (⟨TX.toArray⟩ : ByteArray) = X from HX.out)
    go_wp2_with fail
    rw [HW.out]
    refine (CPT.out _ (Below.refl _ _)).mono ?_
    rintro e w1 ⟨rfl, b1⟩
    clear k0 k1 k2 k3 k4
    obtain ⟨l0, l1, l2, l3, l4⟩ := HY.out _ b1
    go_wp2_with fail
    refine (CTT.out trivial _ b1).mono ?_
    rintro e w9 ⟨rfl, b9⟩
    go_wp2_with fail
    go_ret2
    exact ⟨ret_two HX'.out, H1.out.trans (b9.mono H1.out.size)⟩
  case false =>
    cases PF
    case true =>
      have HX' := Lib.hid (show (⟨TX.toArray⟩ : ByteArray) = X from HX.out)
      go_wp2_with fail
      rw [HW.out]
      refine (CPT.out _ (Below.refl _ _)).mono ?_
      rintro e w1 ⟨rfl, b1⟩
      clear k0 k1 k2 k3 k4
      obtain ⟨l0, l1, l2, l3, l4⟩ := HY.out _ b1
      go_wp2_with fail
      refine (CPF.out _ b1).mono ?_
      rintro e w2 ⟨rfl, b2⟩
      clear l0 l1 l2 l3 l4
      obtain ⟨m0, m1, m2, m3, m4⟩ := HY.out _ b2
      go_wp2_with fail
      refine (CTF.out trivial _ b2).mono ?_
      rintro e w9 ⟨rfl, b9⟩
      go_wp2_with fail
      go_ret2
      exact ⟨ret_two HX'.out, H1.out.trans (b9.mono H1.out.size)⟩
    case false =>
      have HX' := Lib.hid (show (⟨#[]⟩ : ByteArray) = X from HX.out)
      go_wp2_with fail
      rw [HW.out]
      refine (CPT.out _ (Below.refl _ _)).mono ?_
      rintro e w1 ⟨rfl, b1⟩
      clear k0 k1 k2 k3 k4
      obtain ⟨l0, l1, l2, l3, l4⟩ := HY.out _ b1
      go_wp2_with fail
      refine (CPF.out _ b1).mono ?_
      rintro e w2 ⟨rfl, b2⟩
      go_wp2_with fail
      go_ret2
      exact ⟨ret_two HX'.out, H1.out.trans (b2.mono H1.out.size)⟩
end Go.Proofs.YthfkodimafmmgaaGreatDoor
