/- What bodies.Parts hands back, as a range over a function takes it. -/
import Derived.Test.YtmcpemohemeecaaDoorNdW
namespace Go.Proofs.YtmcpemohemeecaaDoor
open Go Go.RowKit Go.Shelf
attribute [local go_sem] Oper.semAt_some
set_option maxRecDepth 100000

/-- All the parts of a node that lies in w, each with its proof. -/
theorem items (w : World) (M : Nat) (t : Nd.T) (v : Value) (h : Nd.At w t v) (hd : Nd.deep t ≤ M) : ∃ xs : List (Item w M), xs.map (·.1) = Nd.partsV w 1 t v := by
  have hp : ∀ x ∈ Nd.partsV w 1 t v, Nd.At w x.2.1 x.2.2 ∧ x.1 ≤ M := fun x hx => by
    obtain ⟨h1, _, h3⟩ := Nd.partsV_at w 1 t v h x hx
    exact ⟨h1, by omega⟩
  exact ⟨(Nd.partsV w 1 t v).attachWith _ hp, (List.attachWith_map_val (f := id) hp).trans (List.map_id _)⟩
set_option maxHeartbeats 1000000 in
theorem parts_in (n : Nat) (k : Int) (nm tx : ByteArray) (sa ba : Option Addr) (sl sc sm bc : Nat) (w : World) :
    CallsIn Fence.wide n Tryd.prog 66 #[.agg #[.int .u8 k, .string nm, .string tx, .slice sa sl sc, .slice ba sm bc]] w fun e' w' => e' = .returned (.func (.func 77) #[] #[.pointer (some ⟨w.heap.size, 0, none⟩)]) ∧ w' = w.alloc (.cells #[.int .u8 k, .string nm, .string tx, .slice sa sl sc, .slice ba sm bc] 34) := by
  refine callsIn_of_wp Tryd.func66 rfl trivial ?_ rfl
  simp only [Tryd.ntmps66, List.size_toArray, List.length_cons, List.length_nil, Nat.reduceAdd, Nat.reduceSub, Array.replicate_succ, Array.replicate_zero, List.push_toArray, List.append_toArray, List.nil_append, List.cons_append]
  gi_wp2
  go_ret
  exact ⟨rfl, rfl⟩
set_option maxHeartbeats 1000000 in
theorem partsF_gen (Kp : World → World → Prop) (w0 : World) (M N l B C n : Nat) (hKp : KpOk w0.heap.size B Kp) (hM : M < 1099511627776) (J Jx : List (Item w0 M) → World → Prop) (hJ : AbidesFrom C J)
    (hY : ∀ m pre x W, J pre W → pre.length < N → YieldAt Fence.wide m Tryd.prog l (encI x) W fun e W' =>
      (e = .returned (.bool true) ∧ J (pre ++ [x]) W' ∧ Kp W W') ∨ (e = .returned (.bool false) ∧ Jx (pre ++ [x]) W')) (t : Nd.T) (v : Value) (xs : List (Item w0 M)) (W : World) (Bt : Nat) (hA : Nd.At w0 t v) (hxs : xs.map (·.1) = Nd.partsV w0 1 t v)
    (hb : Below w0.heap.size w0 W) (hB : B ≤ W.heap.size) (h0 : J [] W) (hN : xs.length ≤ N) (hbox : Bk W Bt 34 v.cells) :
    CallsIn Fence.wide n Tryd.prog 77 #[.func (.yield l) #[] #[], .pointer (some ⟨Bt, 0, none⟩)] W fun e W' => (∃ u, e = .returned u) ∧ ((∃ ys, ys = xs ∧ J ys W') ∨ (∃ pre, pre <+: xs ∧ Jx pre W')) := by
  have hw := walk_gen Kp w0 M N l B C hKp hM J Jx hJ hY t (n - 1) 1 v [] xs W hA hxs hb hB h0 (by simpa using hN)
  obtain ⟨sa, sc, ba, bc, rfl, _⟩ := hA.form
  have c0 := hbox.cell 0
  have c1 := hbox.cell 1
  have c2 := hbox.cell 2
  have c3 := hbox.cell 3
  have c4 := hbox.cell 4
  simp [Value.cells] at c0 c1 c2 c3 c4
  have hF : Fence.wide.fn 78 := trivial
  rw [show ((1 : Nat) : Int) = 1 from rfl] at hw
  clear hxs hbox hJ
  refine callsIn_of_wp Tryd.func77 rfl trivial ?_ rfl
  simp only [Tryd.ntmps77, List.size_toArray, List.length_cons, List.length_nil, Nat.reduceAdd, Nat.reduceSub, Array.replicate_succ, Array.replicate_zero, List.push_toArray, List.append_toArray, List.nil_append, List.cons_append]
  gi_wp2_with ((try refine ⟨wide_hdd _, ?_⟩); gi_at_call 78; refine hw.mono ?_; clear hw; rintro e W1 (⟨rfl, hJ1, _⟩ | ⟨rfl, q, hq, hx⟩))
  · go_end0
    exact ⟨⟨_, rfl⟩, .inl ⟨_, rfl, by simpa using hJ1⟩⟩
  · go_end0
    exact ⟨⟨_, rfl⟩, .inr ⟨q, hq, by simpa using hx⟩⟩
theorem parts_gen (Kp : World → World → Prop) (w0 : World) (M n : Nat) (hM : M < 1099511627776) (t : Nd.T) (v : Value) (xs : List (Item w0 M)) (w : World) (hKp : KpOk w0.heap.size w.heap.size Kp) (Bt : Nat) (hA : Nd.At w0 t v) (hxs : xs.map (·.1) = Nd.partsV w0 1 t v) (hb : Below w0.heap.size w0 w) (hbox : Bk w Bt 34 v.cells) :
    SeqStopsK Fence.wide n Tryd.prog 77 #[.pointer (some ⟨Bt, 0, none⟩)] (encI : Item w0 M → Array Value) Kp (fun ys => ys = xs) (fun pre => pre <+: xs) xs.length w :=
  fun l J Jx W hW hJ _ hY h0 => partsF_gen Kp w0 M xs.length l w.heap.size W.heap.size n hKp hM J Jx hJ (fun _ pre x W1 hj hl => yield_any (hY pre x W1 hj hl)) t v xs W Bt hA hxs (hb.trans (hW.mono hb.size)) hW.size h0 (Nat.le_refl _) (hbox.below hW hbox.lt)
theorem parts_stops (w0 : World) (M n : Nat) (hM : M < 1099511627776) (t : Nd.T) (v : Value) (xs : List (Item w0 M)) (w : World) (Bt : Nat) (hA : Nd.At w0 t v) (hxs : xs.map (·.1) = Nd.partsV w0 1 t v) (hb : Below w0.heap.size w0 w) (hbox : Bk w Bt 34 v.cells) :
    SeqStopsK Fence.wide n Tryd.prog 77 #[.pointer (some ⟨Bt, 0, none⟩)] (encI : Item w0 M → Array Value) (KpB w0.heap.size w.heap.size) (fun ys => ys = xs) (fun pre => pre <+: xs) xs.length w :=
  parts_gen _ w0 M n hM t v xs w (KpB.ok _ _) Bt hA hxs hb hbox
end Go.Proofs.YtmcpemohemeecaaDoor
