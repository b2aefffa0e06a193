/- strings.IndexRune and ContainsRune in the signs that stand in a text, or a set, as escapes alone, whatever the rune. -/
import Derived.Test.YtokpknjmcegkaaaDoorScA
namespace Go.Proofs.YtokpknjmcegkaaaDoor
open Go Go.RowKit Ru
set_option maxRecDepth 100000

theorem ixb_high (l : List UInt8) (x : UInt8) (h : 128 ≤ x.toNat) (hl : ∀ b ∈ l, b.toNat < 128) : Lib.indexByte l x = -1 := by
  induction l with
  | nil => rfl
  | cons b l ih =>
    unfold Lib.indexByte
    have h1 := hl b (by simp)
    have hne : (b == x) = false := by
      rw [beq_eq_false_iff_ne]
      intro e; subst e; omega
    rw [hne, ih (fun c hc => hl c (by simp [hc]))]
    rfl
set_option maxHeartbeats 1000000 in
theorem IndexRune_Text_2 (r : Int) (w : World) (h : Go.validRune r = true) (hne : r ≠ 65533) (h0 : 128 ≤ r) (h1 : r < 2048) :
    Calls Tryd.prog 45 #[.string ⟨#[39, 92, 10]⟩, .int .i32 r] w fun e w' => e = .returned (.int .i64 (-1)) ∧ ∃ m, w' = w.drewN m := by
  obtain ⟨x0, x1, hen, hx1⟩ : ∃ x0 x1 : UInt8, Utf8.encode r = ⟨#[x0, x1]⟩ ∧ 128 ≤ x1.toNat := ⟨_, _, encode_2 h0 h1, by simp; omega⟩
  have H := Lib.hid h
  obtain ⟨v, hv⟩ : ∃ v : Int, v = (x1.toNat : Int) := ⟨_, rfl⟩
  have hi1 : ∀ wx, (Instr.index 9 (.string ⟨#[39, 92, 10]⟩) (.int .i64 1)).run Tryd.prog wx = .ok (.int .u8 92) wx := fun _ => by kernel_rfl
  have hi2 : ∀ wx, (Instr.index 9 (.string ⟨#[x0, x1]⟩) (.int .i64 1)).run Tryd.prog wx = .ok (.int .u8 v) wx := fun _ => by rw [hv]; kernel_rfl
  have hsl : ∀ wx, (Instr.slice 9 (.string ⟨#[39, 92, 10]⟩) (some (.int .i64 2)) none none).run Tryd.prog wx = .ok (.string ⟨#[10]⟩) wx := fun _ => by kernel_rfl
  have HC : Hid (∀ wx, Calls Tryd.prog 31 #[.string ⟨#[10]⟩, .int .u8 v] wx fun e w' => e = .returned (.int .i64 (-1)) ∧ w' = wx) := by
    refine Lib.hid fun wx => (Tryd.strings_IndexByte _ _ wx).mono fun e w' ⟨he, hw⟩ => ⟨?_, hw⟩
    rw [he, hv]
    have e1 : ((x1.toNat : Int)).toNat.toUInt8 = x1 := by simp
    rw [e1, ixb_high _ x1 hx1 (by decide)]
  have t1 : (r == 65533) = false := by rw [beq_eq_false_iff_ne]; omega
  have t2 : (92 != v) = true := by rw [bne_iff_ne]; omega
  have t3 : decide (r < 128) = false := by rw [decide_eq_false_iff_not]; omega
  clear hx1 hv h hne
  go_enter Tryd.func45, Tryd.ntmps45
  go_wp2_with (go_at_call 44; refine (validRune_yes _ _ H.out).mono ?_; rintro e w' ⟨rfl, rfl⟩)
  go_step3
  go_wp2
  refine wp_loop_rounds 1 ?_
  rw [rounds_succ]
  go_wp2
  go_step3
  go_wp2
  go_quiet (fail)
  go_wp2
  go_quiet ((go_at_call 31; exact quiet_on (HC.out _)))
  go_wp2
  rw [Exit.noGoto_ret]
  go_wp2
  rw [Exit.noGoto_ret]
  go_ret
  exact ⟨rfl, _, rfl⟩
set_option maxHeartbeats 1000000 in
theorem IndexRune_Text_3 (r : Int) (w : World) (h : Go.validRune r = true) (hne : r ≠ 65533) (h0 : 2048 ≤ r) (h1 : r < 65536) :
    Calls Tryd.prog 45 #[.string ⟨#[39, 92, 10]⟩, .int .i32 r] w fun e w' => e = .returned (.int .i64 (-1)) ∧ ∃ m, w' = w.drewN m := by
  obtain ⟨x0, x1, x2, hen, hx1⟩ : ∃ x0 x1 x2 : UInt8, Utf8.encode r = ⟨#[x0, x1, x2]⟩ ∧ 128 ≤ x2.toNat := ⟨_, _, _, encode_3 h h0 h1, by simp; omega⟩
  have H := Lib.hid h
  obtain ⟨v, hv⟩ : ∃ v : Int, v = (x2.toNat : Int) := ⟨_, rfl⟩
  have hi1 : ∀ wx, (Instr.index 9 (.string ⟨#[39, 92, 10]⟩) (.int .i64 2)).run Tryd.prog wx = .ok (.int .u8 10) wx := fun _ => by kernel_rfl
  have hi2 : ∀ wx, (Instr.index 9 (.string ⟨#[x0, x1, x2]⟩) (.int .i64 2)).run Tryd.prog wx = .ok (.int .u8 v) wx := fun _ => by rw [hv]; kernel_rfl
  have hsl : ∀ wx, (Instr.slice 9 (.string ⟨#[39, 92, 10]⟩) (some (.int .i64 3)) none none).run Tryd.prog wx = .ok (.string ⟨#[]⟩) wx := fun _ => by kernel_rfl
  have HC : Hid (∀ wx, Calls Tryd.prog 31 #[.string ⟨#[]⟩, .int .u8 v] wx fun e w' => e = .returned (.int .i64 (-1)) ∧ w' = wx) := by
    refine Lib.hid fun wx => (Tryd.strings_IndexByte _ _ wx).mono fun e w' ⟨he, hw⟩ => ⟨?_, hw⟩
    rw [he, hv]
    have e1 : ((x2.toNat : Int)).toNat.toUInt8 = x2 := by simp
    rw [e1, ixb_high _ x2 hx1 (by decide)]
  have t1 : (r == 65533) = false := by rw [beq_eq_false_iff_ne]; omega
  have t2 : (10 != v) = true := by rw [bne_iff_ne]; omega
  have t3 : decide (r < 128) = false := by rw [decide_eq_false_iff_not]; omega
  clear hx1 hv h hne
  go_enter Tryd.func45, Tryd.ntmps45
  go_wp2_with (go_at_call 44; refine (validRune_yes _ _ H.out).mono ?_; rintro e w' ⟨rfl, rfl⟩)
  go_step3
  go_wp2
  refine wp_loop_rounds 1 ?_
  rw [rounds_succ]
  go_wp2
  go_step3
  go_wp2
  go_quiet (fail)
  go_wp2
  go_quiet ((go_at_call 31; exact quiet_on (HC.out _)))
  go_wp2
  rw [Exit.noGoto_ret]
  go_wp2
  rw [Exit.noGoto_ret]
  go_ret
  exact ⟨rfl, _, rfl⟩
set_option maxHeartbeats 1000000 in
theorem IndexRune_Text_4 (r : Int) (w : World) (h : Go.validRune r = true) (hne : r ≠ 65533) (h0 : 65536 ≤ r) (h1 : r ≤ 1114111) :
    Calls Tryd.prog 45 #[.string ⟨#[39, 92, 10]⟩, .int .i32 r] w fun e w' => e = .returned (.int .i64 (-1)) ∧ ∃ m, w' = w.drewN m := by
  obtain ⟨x0, x1, x2, x3, hen, hx1⟩ : ∃ x0 x1 x2 x3 : UInt8, Utf8.encode r = ⟨#[x0, x1, x2, x3]⟩ ∧ 128 ≤ x3.toNat := ⟨_, _, _, _, encode_4 h0 h1, by simp; omega⟩
  have H := Lib.hid h
  have t1 : (r == 65533) = false := by rw [beq_eq_false_iff_ne]; omega
  have t3 : decide (r < 128) = false := by rw [decide_eq_false_iff_not]; omega
  clear hx1 h hne
  go_enter Tryd.func45, Tryd.ntmps45
  go_wp2_with (go_at_call 44; refine (validRune_yes _ _ H.out).mono ?_; rintro e w' ⟨rfl, rfl⟩)
  go_step3
  go_wp2
  refine wp_loop_rounds 1 ?_
  rw [rounds_succ]
  go_wp2
  rw [Exit.noGoto_ret]
  go_ret
  exact ⟨rfl, 0, rfl⟩
set_option maxHeartbeats 1000000 in
theorem IndexRune_Text_e (w : World) :
    Calls Tryd.prog 45 #[.string ⟨#[39, 92, 10]⟩, .int .i32 65533] w fun e w' => e = .returned (.int .i64 (-1)) ∧ Below w.heap.size w w' := by
  go_enter Tryd.func45, Tryd.ntmps45
  go_wp2
  go_loopw [5, 6] (fun _ _ wr => ∃ pos : Nat, pos ≤ 3 ∧ wr.heap[w.heap.size]? = some (.stringIter ⟨#[39, 92, 10]⟩ pos) ∧ Below w.heap.size w wr) (fun _ _ wr => 3 - wr.iterPos w.heap.size)
  case atStart => exact ⟨0, by omega, World.iter_heap w ⟨#[39, 92, 10]⟩ 0, (Below.refl _ w).alloc (Nat.le_refl _) _⟩
  case round =>
    obtain ⟨pos, hp, hit, hb⟩ := hrel
    by_cases hp8 : pos < 3
    · have hd : ∃ c : Nat, Utf8.decode ⟨#[39, 92, 10]⟩ pos = (c, 1) ∧ c < 128 := by
        have : ∀ k : Fin 3, (Utf8.decode ⟨#[39, 92, 10]⟩ k.val).2 = 1 ∧ (Utf8.decode ⟨#[39, 92, 10]⟩ k.val).1 < 128 := by decide
        have h2 := this ⟨pos, hp8⟩
        exact ⟨_, Prod.ext rfl h2.1, h2.2⟩
      obtain ⟨c, hd, hc⟩ := hd
      have hnx := fun ty => Lib.run_next_any_at (P := Tryd.prog) wr w.heap.size ⟨#[39, 92, 10]⟩ pos ty hit hp8
      rw [hd] at hnx
      obtain ⟨ci, hci⟩ : ∃ ci : Int, ci = (c : Int) := ⟨_, rfl⟩
      have t : (ci == 65533) = false := by rw [beq_eq_false_iff_ne]; omega
      dsimp only at hnx
      rw [← hci] at hnx
      have hit2 := Lib.iterAt_heap wr w.heap.size ⟨#[39, 92, 10]⟩ pos (pos + 1) hit
      have hb2 := Lib.below_iterAt hb (Nat.le_refl _) ⟨#[39, 92, 10]⟩ (pos + 1)
      have hps : wr.iterPos w.heap.size = pos := by simp [World.iterPos, hit]
      have hps2 : (wr.iterAt w.heap.size ⟨#[39, 92, 10]⟩ (pos + 1)).iterPos w.heap.size = pos + 1 := by simp [World.iterPos, hit2]
      have HM := Lib.hid (show 3 - (wr.iterAt w.heap.size ⟨#[39, 92, 10]⟩ (pos + 1)).iterPos w.heap.size < 3 - wr.iterPos w.heap.size by rw [hps, hps2]; omega)
      have HI := Lib.hid hit2
      clear hci hd hit hit2 hps hps2 hb
      go_wp2
      exact ⟨⟨pos + 1, by omega, HI.out, hb2⟩, HM.out⟩
    · have hnx := fun ty => Lib.run_next_end_at (P := Tryd.prog) wr w.heap.size ⟨#[39, 92, 10]⟩ pos ty hit (show ¬ pos < 3 from hp8)
      clear hit
      go_wp2
      go_ret
      exact ⟨rfl, hb⟩
theorem IndexRune_Text (r : Int) (w : World) (h : Go.validRune r = true) (hr : ¬ r.toNat ∈ Sc.notText) :
    Calls Tryd.prog 45 #[.string ⟨#[39, 92, 10]⟩, .int .i32 r] w fun e w' => e = .returned (.int .i64 (-1)) ∧ Below w.heap.size w w' := by
  have hv := (valid_iff r).1 h
  have dr : ∀ e w', (e = Ending.returned (.int .i64 (-1)) ∧ ∃ m, w' = w.drewN m) → e = Ending.returned (.int .i64 (-1)) ∧ Below w.heap.size w w' := by
    rintro e w' ⟨he, m, rfl⟩
    exact ⟨he, below_drewN (Below.refl _ _) _⟩
  by_cases a : r < 128
  · refine (Tryd.strings_IndexRune_ascii _ r w (by omega) a).mono ?_
    rintro e w' ⟨he, rfl⟩
    have k : ∀ n : Fin 128, ¬ n.val ∈ Sc.notText → Lib.indexByte (⟨#[39, 92, 10]⟩ : ByteArray).data.toList n.val.toUInt8 = -1 := by decide +kernel
    have k := k ⟨r.toNat, by omega⟩ hr
    refine ⟨?_, Below.refl _ _⟩
    rw [he]
    dsimp only at k
    rw [k]
  · by_cases e : r = 65533
    · subst e; exact IndexRune_Text_e w
    · by_cases b : r < 2048
      · exact (IndexRune_Text_2 r w h e (by omega) b).mono dr
      · by_cases c : r < 65536
        · exact (IndexRune_Text_3 r w h e (by omega) c).mono dr
        · exact (IndexRune_Text_4 r w h e (by omega) (by omega)).mono dr
theorem Contains_Text_no (r : Int) (w : World) (h : Go.validRune r = true) (hr : ¬ r.toNat ∈ Sc.notText) :
    Calls Tryd.prog 68 #[.string ⟨#[39, 92, 10]⟩, .int .i32 r] w fun e w' => e = .returned (.bool false) ∧ Below w.heap.size w w' := by
  have C := Lib.hid (fun w => IndexRune_Text r w h hr)
  clear h hr
  go_enter Tryd.func68, Tryd.ntmps68
  go_wp2_with (go_at_call 45; refine (C.out _).mono ?_; rintro e w' ⟨rfl, hb⟩)
  go_ret
  exact ⟨rfl, hb⟩
theorem Contains_Text_yes (r : Int) (w : World) (h : Go.validRune r = true) (hr : r.toNat ∈ Sc.notText) :
    Calls Tryd.prog 68 #[.string ⟨#[39, 92, 10]⟩, .int .i32 r] w fun e w' => e = .returned (.bool true) ∧ Below w.heap.size w w' := by
  have hv := (valid_iff r).1 h
  have hl : r.toNat < 128 := by
    have : ∀ n ∈ Sc.notText, n < 128 := by decide
    exact this _ hr
  have k : ∀ n : Fin 128, n.val ∈ Sc.notText → 0 ≤ Lib.indexByte (⟨#[39, 92, 10]⟩ : ByteArray).data.toList n.val.toUInt8 := by decide +kernel
  have k := k ⟨r.toNat, hl⟩ hr
  dsimp only at k
  have C := Lib.hid (fun w => Tryd.strings_IndexRune_ascii ⟨#[39, 92, 10]⟩ r w (by omega) (by omega))
  generalize Lib.indexByte (⟨#[39, 92, 10]⟩ : ByteArray).data.toList r.toNat.toUInt8 = i at *
  have d : decide (0 ≤ i) = true := by rw [decide_eq_true_iff]; exact k
  clear h hr hl hv
  go_enter Tryd.func68, Tryd.ntmps68
  go_wp2_with (go_at_call 45; refine (C.out _).mono ?_; rintro e w' ⟨rfl, hw⟩; rw [hw])
  go_ret
  exact ⟨rfl, Below.refl _ _⟩
set_option maxHeartbeats 1000000 in
theorem IndexRune_Set_2 (r : Int) (w : World) (h : Go.validRune r = true) (hne : r ≠ 65533) (h0 : 128 ≤ r) (h1 : r < 2048) :
    Calls Tryd.prog 45 #[.string ⟨#[93, 91, 92, 45, 10]⟩, .int .i32 r] w fun e w' => e = .returned (.int .i64 (-1)) ∧ ∃ m, w' = w.drewN m := by
  obtain ⟨x0, x1, hen, hx1⟩ : ∃ x0 x1 : UInt8, Utf8.encode r = ⟨#[x0, x1]⟩ ∧ 128 ≤ x1.toNat := ⟨_, _, encode_2 h0 h1, by simp; omega⟩
  have H := Lib.hid h
  obtain ⟨v, hv⟩ : ∃ v : Int, v = (x1.toNat : Int) := ⟨_, rfl⟩
  have hi1 : ∀ wx, (Instr.index 9 (.string ⟨#[93, 91, 92, 45, 10]⟩) (.int .i64 1)).run Tryd.prog wx = .ok (.int .u8 91) wx := fun _ => by kernel_rfl
  have hi2 : ∀ wx, (Instr.index 9 (.string ⟨#[x0, x1]⟩) (.int .i64 1)).run Tryd.prog wx = .ok (.int .u8 v) wx := fun _ => by rw [hv]; kernel_rfl
  have hsl : ∀ wx, (Instr.slice 9 (.string ⟨#[93, 91, 92, 45, 10]⟩) (some (.int .i64 2)) none none).run Tryd.prog wx = .ok (.string ⟨#[92, 45, 10]⟩) wx := fun _ => by kernel_rfl
  have HC : Hid (∀ wx, Calls Tryd.prog 31 #[.string ⟨#[92, 45, 10]⟩, .int .u8 v] wx fun e w' => e = .returned (.int .i64 (-1)) ∧ w' = wx) := by
    refine Lib.hid fun wx => (Tryd.strings_IndexByte _ _ wx).mono fun e w' ⟨he, hw⟩ => ⟨?_, hw⟩
    rw [he, hv]
    have e1 : ((x1.toNat : Int)).toNat.toUInt8 = x1 := by simp
    rw [e1, ixb_high _ x1 hx1 (by decide)]
  have t1 : (r == 65533) = false := by rw [beq_eq_false_iff_ne]; omega
  have t2 : (91 != v) = true := by rw [bne_iff_ne]; omega
  have t3 : decide (r < 128) = false := by rw [decide_eq_false_iff_not]; omega
  clear hx1 hv h hne
  go_enter Tryd.func45, Tryd.ntmps45
  go_wp2_with (go_at_call 44; refine (validRune_yes _ _ H.out).mono ?_; rintro e w' ⟨rfl, rfl⟩)
  go_step3
  go_wp2
  refine wp_loop_rounds 1 ?_
  rw [rounds_succ]
  go_wp2
  go_step3
  go_wp2
  go_quiet (fail)
  go_wp2
  go_quiet ((go_at_call 31; exact quiet_on (HC.out _)))
  go_wp2
  rw [Exit.noGoto_ret]
  go_wp2
  rw [Exit.noGoto_ret]
  go_ret
  exact ⟨rfl, _, rfl⟩
set_option maxHeartbeats 1000000 in
theorem IndexRune_Set_3 (r : Int) (w : World) (h : Go.validRune r = true) (hne : r ≠ 65533) (h0 : 2048 ≤ r) (h1 : r < 65536) :
    Calls Tryd.prog 45 #[.string ⟨#[93, 91, 92, 45, 10]⟩, .int .i32 r] w fun e w' => e = .returned (.int .i64 (-1)) ∧ ∃ m, w' = w.drewN m := by
  obtain ⟨x0, x1, x2, hen, hx1⟩ : ∃ x0 x1 x2 : UInt8, Utf8.encode r = ⟨#[x0, x1, x2]⟩ ∧ 128 ≤ x2.toNat := ⟨_, _, _, encode_3 h h0 h1, by simp; omega⟩
  have H := Lib.hid h
  obtain ⟨v, hv⟩ : ∃ v : Int, v = (x2.toNat : Int) := ⟨_, rfl⟩
  have hi1 : ∀ wx, (Instr.index 9 (.string ⟨#[93, 91, 92, 45, 10]⟩) (.int .i64 2)).run Tryd.prog wx = .ok (.int .u8 92) wx := fun _ => by kernel_rfl
  have hi2 : ∀ wx, (Instr.index 9 (.string ⟨#[x0, x1, x2]⟩) (.int .i64 2)).run Tryd.prog wx = .ok (.int .u8 v) wx := fun _ => by rw [hv]; kernel_rfl
  have hsl : ∀ wx, (Instr.slice 9 (.string ⟨#[93, 91, 92, 45, 10]⟩) (some (.int .i64 3)) none none).run Tryd.prog wx = .ok (.string ⟨#[45, 10]⟩) wx := fun _ => by kernel_rfl
  have HC : Hid (∀ wx, Calls Tryd.prog 31 #[.string ⟨#[45, 10]⟩, .int .u8 v] wx fun e w' => e = .returned (.int .i64 (-1)) ∧ w' = wx) := by
    refine Lib.hid fun wx => (Tryd.strings_IndexByte _ _ wx).mono fun e w' ⟨he, hw⟩ => ⟨?_, hw⟩
    rw [he, hv]
    have e1 : ((x2.toNat : Int)).toNat.toUInt8 = x2 := by simp
    rw [e1, ixb_high _ x2 hx1 (by decide)]
  have t1 : (r == 65533) = false := by rw [beq_eq_false_iff_ne]; omega
  have t2 : (92 != v) = true := by rw [bne_iff_ne]; omega
  have t3 : decide (r < 128) = false := by rw [decide_eq_false_iff_not]; omega
  clear hx1 hv h hne
  go_enter Tryd.func45, Tryd.ntmps45
  go_wp2_with (go_at_call 44; refine (validRune_yes _ _ H.out).mono ?_; rintro e w' ⟨rfl, rfl⟩)
  go_step3
  go_wp2
  refine wp_loop_rounds 1 ?_
  rw [rounds_succ]
  go_wp2
  go_step3
  go_wp2
  go_quiet (fail)
  go_wp2
  go_quiet ((go_at_call 31; exact quiet_on (HC.out _)))
  go_wp2
  rw [Exit.noGoto_ret]
  go_wp2
  rw [Exit.noGoto_ret]
  go_ret
  exact ⟨rfl, _, rfl⟩
set_option maxHeartbeats 1000000 in
theorem IndexRune_Set_4 (r : Int) (w : World) (h : Go.validRune r = true) (hne : r ≠ 65533) (h0 : 65536 ≤ r) (h1 : r ≤ 1114111) :
    Calls Tryd.prog 45 #[.string ⟨#[93, 91, 92, 45, 10]⟩, .int .i32 r] w fun e w' => e = .returned (.int .i64 (-1)) ∧ ∃ m, w' = w.drewN m := by
  obtain ⟨x0, x1, x2, x3, hen, hx1⟩ : ∃ x0 x1 x2 x3 : UInt8, Utf8.encode r = ⟨#[x0, x1, x2, x3]⟩ ∧ 128 ≤ x3.toNat := ⟨_, _, _, _, encode_4 h0 h1, by simp; omega⟩
  have H := Lib.hid h
  obtain ⟨v, hv⟩ : ∃ v : Int, v = (x3.toNat : Int) := ⟨_, rfl⟩
  have hi1 : ∀ wx, (Instr.index 9 (.string ⟨#[93, 91, 92, 45, 10]⟩) (.int .i64 3)).run Tryd.prog wx = .ok (.int .u8 45) wx := fun _ => by kernel_rfl
  have hi2 : ∀ wx, (Instr.index 9 (.string ⟨#[x0, x1, x2, x3]⟩) (.int .i64 3)).run Tryd.prog wx = .ok (.int .u8 v) wx := fun _ => by rw [hv]; kernel_rfl
  have hsl : ∀ wx, (Instr.slice 9 (.string ⟨#[93, 91, 92, 45, 10]⟩) (some (.int .i64 4)) none none).run Tryd.prog wx = .ok (.string ⟨#[10]⟩) wx := fun _ => by kernel_rfl
  have HC : Hid (∀ wx, Calls Tryd.prog 31 #[.string ⟨#[10]⟩, .int .u8 v] wx fun e w' => e = .returned (.int .i64 (-1)) ∧ w' = wx) := by
    refine Lib.hid fun wx => (Tryd.strings_IndexByte _ _ wx).mono fun e w' ⟨he, hw⟩ => ⟨?_, hw⟩
    rw [he, hv]
    have e1 : ((x3.toNat : Int)).toNat.toUInt8 = x3 := by simp
    rw [e1, ixb_high _ x3 hx1 (by decide)]
  have t1 : (r == 65533) = false := by rw [beq_eq_false_iff_ne]; omega
  have t2 : (45 != v) = true := by rw [bne_iff_ne]; omega
  have t3 : decide (r < 128) = false := by rw [decide_eq_false_iff_not]; omega
  clear hx1 hv h hne
  go_enter Tryd.func45, Tryd.ntmps45
  go_wp2_with (go_at_call 44; refine (validRune_yes _ _ H.out).mono ?_; rintro e w' ⟨rfl, rfl⟩)
  go_step3
  go_wp2
  refine wp_loop_rounds 1 ?_
  rw [rounds_succ]
  go_wp2
  go_step3
  go_wp2
  go_quiet (fail)
  go_wp2
  go_quiet ((go_at_call 31; exact quiet_on (HC.out _)))
  go_wp2
  rw [Exit.noGoto_ret]
  go_wp2
  rw [Exit.noGoto_ret]
  go_ret
  exact ⟨rfl, _, rfl⟩
set_option maxHeartbeats 1000000 in
theorem IndexRune_Set_e (w : World) :
    Calls Tryd.prog 45 #[.string ⟨#[93, 91, 92, 45, 10]⟩, .int .i32 65533] w fun e w' => e = .returned (.int .i64 (-1)) ∧ Below w.heap.size w w' := by
  go_enter Tryd.func45, Tryd.ntmps45
  go_wp2
  go_loopw [5, 6] (fun _ _ wr => ∃ pos : Nat, pos ≤ 5 ∧ wr.heap[w.heap.size]? = some (.stringIter ⟨#[93, 91, 92, 45, 10]⟩ pos) ∧ Below w.heap.size w wr) (fun _ _ wr => 5 - wr.iterPos w.heap.size)
  case atStart => exact ⟨0, by omega, World.iter_heap w ⟨#[93, 91, 92, 45, 10]⟩ 0, (Below.refl _ w).alloc (Nat.le_refl _) _⟩
  case round =>
    obtain ⟨pos, hp, hit, hb⟩ := hrel
    by_cases hp8 : pos < 5
    · have hd : ∃ c : Nat, Utf8.decode ⟨#[93, 91, 92, 45, 10]⟩ pos = (c, 1) ∧ c < 128 := by
        have : ∀ k : Fin 5, (Utf8.decode ⟨#[93, 91, 92, 45, 10]⟩ k.val).2 = 1 ∧ (Utf8.decode ⟨#[93, 91, 92, 45, 10]⟩ k.val).1 < 128 := by decide
        have h2 := this ⟨pos, hp8⟩
        exact ⟨_, Prod.ext rfl h2.1, h2.2⟩
      obtain ⟨c, hd, hc⟩ := hd
      have hnx := fun ty => Lib.run_next_any_at (P := Tryd.prog) wr w.heap.size ⟨#[93, 91, 92, 45, 10]⟩ pos ty hit hp8
      rw [hd] at hnx
      obtain ⟨ci, hci⟩ : ∃ ci : Int, ci = (c : Int) := ⟨_, rfl⟩
      have t : (ci == 65533) = false := by rw [beq_eq_false_iff_ne]; omega
      dsimp only at hnx
      rw [← hci] at hnx
      have hit2 := Lib.iterAt_heap wr w.heap.size ⟨#[93, 91, 92, 45, 10]⟩ pos (pos + 1) hit
      have hb2 := Lib.below_iterAt hb (Nat.le_refl _) ⟨#[93, 91, 92, 45, 10]⟩ (pos + 1)
      have hps : wr.iterPos w.heap.size = pos := by simp [World.iterPos, hit]
      have hps2 : (wr.iterAt w.heap.size ⟨#[93, 91, 92, 45, 10]⟩ (pos + 1)).iterPos w.heap.size = pos + 1 := by simp [World.iterPos, hit2]
      have HM := Lib.hid (show 5 - (wr.iterAt w.heap.size ⟨#[93, 91, 92, 45, 10]⟩ (pos + 1)).iterPos w.heap.size < 5 - wr.iterPos w.heap.size by rw [hps, hps2]; omega)
      have HI := Lib.hid hit2
      clear hci hd hit hit2 hps hps2 hb
      go_wp2
      exact ⟨⟨pos + 1, by omega, HI.out, hb2⟩, HM.out⟩
    · have hnx := fun ty => Lib.run_next_end_at (P := Tryd.prog) wr w.heap.size ⟨#[93, 91, 92, 45, 10]⟩ pos ty hit (show ¬ pos < 5 from hp8)
      clear hit
      go_wp2
      go_ret
      exact ⟨rfl, hb⟩
theorem IndexRune_Set (r : Int) (w : World) (h : Go.validRune r = true) (hr : ¬ r.toNat ∈ Sc.notSet) :
    Calls Tryd.prog 45 #[.string ⟨#[93, 91, 92, 45, 10]⟩, .int .i32 r] w fun e w' => e = .returned (.int .i64 (-1)) ∧ Below w.heap.size w w' := by
  have hv := (valid_iff r).1 h
  have dr : ∀ e w', (e = Ending.returned (.int .i64 (-1)) ∧ ∃ m, w' = w.drewN m) → e = Ending.returned (.int .i64 (-1)) ∧ Below w.heap.size w w' := by
    rintro e w' ⟨he, m, rfl⟩
    exact ⟨he, below_drewN (Below.refl _ _) _⟩
  by_cases a : r < 128
  · refine (Tryd.strings_IndexRune_ascii _ r w (by omega) a).mono ?_
    rintro e w' ⟨he, rfl⟩
    have k : ∀ n : Fin 128, ¬ n.val ∈ Sc.notSet → Lib.indexByte (⟨#[93, 91, 92, 45, 10]⟩ : ByteArray).data.toList n.val.toUInt8 = -1 := by decide +kernel
    have k := k ⟨r.toNat, by omega⟩ hr
    refine ⟨?_, Below.refl _ _⟩
    rw [he]
    dsimp only at k
    rw [k]
  · by_cases e : r = 65533
    · subst e; exact IndexRune_Set_e w
    · by_cases b : r < 2048
      · exact (IndexRune_Set_2 r w h e (by omega) b).mono dr
      · by_cases c : r < 65536
        · exact (IndexRune_Set_3 r w h e (by omega) c).mono dr
        · exact (IndexRune_Set_4 r w h e (by omega) (by omega)).mono dr
theorem Contains_Set_no (r : Int) (w : World) (h : Go.validRune r = true) (hr : ¬ r.toNat ∈ Sc.notSet) :
    Calls Tryd.prog 68 #[.string ⟨#[93, 91, 92, 45, 10]⟩, .int .i32 r] w fun e w' => e = .returned (.bool false) ∧ Below w.heap.size w w' := by
  have C := Lib.hid (fun w => IndexRune_Set r w h hr)
  clear h hr
  go_enter Tryd.func68, Tryd.ntmps68
  go_wp2_with (go_at_call 45; refine (C.out _).mono ?_; rintro e w' ⟨rfl, hb⟩)
  go_ret
  exact ⟨rfl, hb⟩
theorem Contains_Set_yes (r : Int) (w : World) (h : Go.validRune r = true) (hr : r.toNat ∈ Sc.notSet) :
    Calls Tryd.prog 68 #[.string ⟨#[93, 91, 92, 45, 10]⟩, .int .i32 r] w fun e w' => e = .returned (.bool true) ∧ Below w.heap.size w w' := by
  have hv := (valid_iff r).1 h
  have hl : r.toNat < 128 := by
    have : ∀ n ∈ Sc.notSet, n < 128 := by decide
    exact this _ hr
  have k : ∀ n : Fin 128, n.val ∈ Sc.notSet → 0 ≤ Lib.indexByte (⟨#[93, 91, 92, 45, 10]⟩ : ByteArray).data.toList n.val.toUInt8 := by decide +kernel
  have k := k ⟨r.toNat, hl⟩ hr
  dsimp only at k
  have C := Lib.hid (fun w => Tryd.strings_IndexRune_ascii ⟨#[93, 91, 92, 45, 10]⟩ r w (by omega) (by omega))
  generalize Lib.indexByte (⟨#[93, 91, 92, 45, 10]⟩ : ByteArray).data.toList r.toNat.toUInt8 = i at *
  have d : decide (0 ≤ i) = true := by rw [decide_eq_true_iff]; exact k
  clear h hr hl hv
  go_enter Tryd.func68, Tryd.ntmps68
  go_wp2_with (go_at_call 45; refine (C.out _).mono ?_; rintro e w' ⟨rfl, hw⟩; rw [hw])
  go_ret
  exact ⟨rfl, Below.refl _ _⟩
end Go.Proofs.YtokpknjmcegkaaaDoor
