/- strings.Trim at a cutset of ASCII bytes: its laying, typed out; whether anything is left. -/
import Derived.Shelf.Strings.SlTrimAscii
import Derived.Shelf.LaysC
import Derived.KernelRfl
import Derived.Below
import Derived.Test.YthfkodimafmmgaaDoorProg
namespace Go.Proofs
open Go.Shelf
def Tryd.tr_ren : Go.Shelf.Ren := ⟨fun | 119 => 63 | 120 => 74 | 137 => 37 | 151 => 68 | 152 => 64 | 160 => 38 | 197 => 58 | 217 => 50 | 224 => 71 | 225 => 72 | 227 => 53 | 228 => 67 | 231 => 51 | 232 => 52 | 233 => 54 | 234 => 55 | 235 => 56 | 236 => 57 | 260 => 70 | 266 => 66 | 271 => 69 | n => n, fun | 0 => 0 | 3 => 3 | 4 => 4 | 5 => 5 | 9 => 9 | 21 => 21 | 46 => 96 | 105 => 86 | 116 => 81 | 117 => 82 | 119 => 98 | 124 => 85 | 138 => 100 | 139 => 101 | n => n, fun | 3 => 1 | 4 => 2 | n => n⟩
theorem Tryd.tr_lays : Go.Proofs.Lays.n160 Tryd.prog Tryd.tr_ren := {
  mixed := by kernel_rfl
  f119 := Tryd.func63.trans (congrArg some (by kernel_rfl))
  f120 := Tryd.func74.trans (congrArg some (by kernel_rfl))
  f137 := Tryd.func37.trans (congrArg some (by kernel_rfl))
  f151 := Tryd.func68.trans (congrArg some (by kernel_rfl))
  f152 := Tryd.func64.trans (congrArg some (by kernel_rfl))
  f160 := Tryd.func38.trans (congrArg some (by kernel_rfl))
  f197 := Tryd.func58.trans (congrArg some (by kernel_rfl))
  f217 := Tryd.func50.trans (congrArg some (by kernel_rfl))
  f224 := Tryd.func71.trans (congrArg some (by kernel_rfl))
  f225 := Tryd.func72.trans (congrArg some (by kernel_rfl))
  f227 := Tryd.func53.trans (congrArg some (by kernel_rfl))
  f228 := Tryd.func67.trans (congrArg some (by kernel_rfl))
  f231 := Tryd.func51.trans (congrArg some (by kernel_rfl))
  f232 := Tryd.func52.trans (congrArg some (by kernel_rfl))
  f233 := Tryd.func54.trans (congrArg some (by kernel_rfl))
  f234 := Tryd.func55.trans (congrArg some (by kernel_rfl))
  f235 := Tryd.func56.trans (congrArg some (by kernel_rfl))
  f236 := Tryd.func57.trans (congrArg some (by kernel_rfl))
  f260 := Tryd.func70.trans (congrArg some (by kernel_rfl))
  f266 := Tryd.func66.trans (congrArg some (by kernel_rfl))
  f271 := Tryd.func69.trans (congrArg some (by kernel_rfl))
  t0 := Tryd.underlying0
  a0 := Tryd.isAgg0
  z0 := Tryd.sizeOf0
  v0 := Tryd.zeroValue0
  t3 := Tryd.underlying3
  a3 := Tryd.isAgg3
  z3 := Tryd.sizeOf3
  v3 := Tryd.zeroValue3
  t4 := Tryd.underlying4
  a4 := Tryd.isAgg4
  z4 := Tryd.sizeOf4
  v4 := Tryd.zeroValue4
  t5 := Tryd.underlying5
  a5 := Tryd.isAgg5
  z5 := Tryd.sizeOf5
  v5 := Tryd.zeroValue5
  t9 := Tryd.underlying9
  a9 := Tryd.isAgg9
  z9 := Tryd.sizeOf9
  v9 := Tryd.zeroValue9
  t21 := Tryd.underlying21
  a21 := Tryd.isAgg21
  z21 := Tryd.sizeOf21
  v21 := Tryd.zeroValue21
  t46 := Tryd.underlying96
  a46 := Tryd.isAgg96
  z46 := Tryd.sizeOf96
  v46 := Tryd.zeroValue96
  t105 := Tryd.underlying86
  a105 := Tryd.isAgg86
  z105 := Tryd.sizeOf86
  v105 := Tryd.zeroValue86
  t116 := Tryd.underlying81
  a116 := Tryd.isAgg81
  z116 := Tryd.sizeOf81
  t117 := Tryd.underlying82
  a117 := Tryd.isAgg82
  z117 := Tryd.sizeOf82
  v117 := Tryd.zeroValue82
  t119 := Tryd.underlying98
  a119 := Tryd.isAgg98
  z119 := Tryd.sizeOf98
  t124 := Tryd.underlying85
  a124 := Tryd.isAgg85
  z124 := Tryd.sizeOf85
  v124 := Tryd.zeroValue85
  t138 := Tryd.underlying100
  a138 := Tryd.isAgg100
  z138 := Tryd.sizeOf100
  v138 := Tryd.zeroValue100
  t139 := Tryd.underlying101
  a139 := Tryd.isAgg101
  z139 := Tryd.sizeOf101
  v139 := Tryd.zeroValue101
  g3 := by kernel_rfl
  g4 := by kernel_rfl }
theorem Tryd.tr_zero (w : World) : (zeroValue 81).run Tryd.prog w = .ok (.agg (Array.replicate 256 (.bool false))) w := (Tryd.zeroValue81 w).trans (congrArg (fun v => Result.ok v w) (by kernel_rfl))
open Go.RowKit in
theorem Tryd.Trim_set (s cutset : ByteArray) (w : World) (h2 : 2 ≤ cutset.size) (h0 : 0 < s.size) (hs : s.size ≤ 9223372036854775807) (hcs : cutset.size < 4294967281) (hascii : ∀ (j : Nat) b, cutset.data.toList[j]? = some b → b.toNat < 128) :
    Calls Tryd.prog 38 #[.string s, .string cutset] w fun e w' => e = .returned (.string ⟨(Lib.trimS s.data.toList cutset.data.toList).toArray⟩) ∧ Below w.heap.size w w' :=
  (Any.strings_Trim_set Tryd.tr_lays Tryd.tr_zero (by kernel_rfl) s cutset w h2 h0 hs hcs hascii).mono fun e w' ⟨he, q, hq⟩ => ⟨he, by
    rw [hq]
    have hb : Below w.heap.size w ((w.alloc (.cells (Lib.setCells cutset.data.toList) 81)).alloc (.cells (Lib.setCells cutset.data.toList) 81)) := ((Below.refl _ w).alloc (Nat.le_refl _) _).alloc (by simp) _
    exact ⟨hb.os, hb.tape, hb.output, hb.size, hb.block⟩⟩
/-- Nothing is left just if all are in the set. -/
theorem trimS_nil (l cs : List UInt8) : Lib.trimS l cs = [] ↔ ∀ b ∈ l, cs.contains b = true := by
  have h1 : ∀ (p : UInt8 → Bool) (l : List UInt8), l.dropWhile p = [] ↔ ∀ b ∈ l, p b = true := by
    intro p l
    induction l with
    | nil => simp
    | cons c l ih =>
      by_cases hc : p c = true
      · simp [List.dropWhile, hc, ih]
      · simp [List.dropWhile, hc]
  have h2 : ∀ (p : UInt8 → Bool) (l : List UInt8), (∀ b ∈ (l.reverse.dropWhile p).reverse, p b = true) ↔ ∀ b ∈ l, p b = true := by
    intro p l
    constructor
    · intro h
      by_cases he : l.reverse.dropWhile p = []
      · intro b hb
        exact (h1 p l.reverse).1 he b (by simpa using hb)
      · exfalso
        have hne := List.head_dropWhile_not p he
        have := h ((l.reverse.dropWhile p).head he) (List.mem_reverse.2 (List.head_mem he))
        rw [this] at hne
        simp at hne
    · intro h b hb
      have hm : b ∈ l.reverse.dropWhile p := by simpa using hb
      exact h b (by simpa using (List.dropWhile_suffix p).subset hm)
  unfold Lib.trimS Lib.trimLeftS Lib.trimRightS
  rw [h1, h2]
end Go.Proofs
