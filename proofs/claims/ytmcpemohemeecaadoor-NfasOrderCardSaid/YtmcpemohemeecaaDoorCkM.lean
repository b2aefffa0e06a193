/- Checks: what is wrong with a grammar, as plain functions. Nothing of the program's code stands here. -/
import Derived.Test.YtmcpemohemeecaaDoorNuR
import Derived.Test.YtmcpemohemeecaaDoorNuP
namespace Go.Proofs.YtmcpemohemeecaaDoor.Ck
open Go Go.RowKit Nd Nu

/-- What is named in a node: its parts that name something, in order. -/
def isNm : T → Bool
  | .mk k _ _ _ _ => decide (k = 5 ∨ k = 6)
theorem isNm_kind (t : T) : isNm t = decide (t.kind = 5 ∨ t.kind = 6) := by cases t; rfl
mutual
def nam : T → List T
  | .mk k n x s b => (if k = 5 ∨ k = 6 then [.mk k n x s b] else []) ++ namL b
def namL : List T → List T
  | [] => []
  | t :: r => nam t ++ namL r
end
mutual
theorem nam_parts (l : Nat) : ∀ t : T, ((Nd.parts l t).map (·.2)).filter isNm = nam t
  | .mk k n x s b => by
    have := nam_partsL (l + 1) b
    have e : isNm (.mk k n x s b) = decide (k = 5 ∨ k = 6) := rfl
    simp only [Nd.parts, List.map_cons, List.filter_cons, e, nam]
    rw [show (List.filter isNm (List.map (fun x => x.2) (partsL (l + 1) b))) = namL b from this]
    by_cases h : k = 5 ∨ k = 6
    · simp [h]
    · simp [h]
theorem nam_partsL (l : Nat) : ∀ b : List T, ((Nd.partsL l b).map (·.2)).filter isNm = namL b
  | [] => rfl
  | t :: r => by
    simp only [Nd.partsL, List.map_append, List.filter_append, namL]
    rw [nam_parts l t, nam_partsL l r]
end
/-- A problem: its code, the rule's place, the name. -/
structure Pr where
  code : Int
  rule : Int
  name : ByteArray
/-- May KRef, or KTok, in a rule of one sort name one of another? -/
def fits (k s t : Int) : Bool := if k = 5 then decide (s = 0 ∧ t = 0) else if s = 0 then decide (t = 1) else decide (t = 2)
/-- What is named that is no rule. -/
def noneP (rs : List Rl) (i : Nat) (l : List T) : List Pr := l.filterMap fun n => if fnd rs n.name = none then some ⟨2, i, n.name⟩ else none
/-- What is named that may not stand there. -/
def sortB (rs : List Rl) (s : Int) (n : T) : Bool := match fnd rs n.name with
  | some to => !fits n.kind s (sortAt rs to)
  | none => false
def sortP (rs : List Rl) (s : Int) (i : Nat) (l : List T) : List Pr := l.filterMap fun n => if sortB rs s n then some ⟨3, i, n.name⟩ else none
/-- A node that may be empty, or that may not. -/
def stand (b : Bool) : T := .mk (if b then 1 else 0) ⟨#[]⟩ ⟨#[]⟩ [] []
/-- Is a node a loop? -/
def isLoop (k : Int) : Bool := decide (k = 3 ∨ k = 4)
mutual
/-- A node as it is handed back: the Subs of loops are a node each. -/
def lpT (e : T → Bool) : T → T
  | .mk k n x s b => .mk k n x s (lpL e (isLoop k) b)
def lpL (e : T → Bool) (lp : Bool) : List T → List T
  | [] => []
  | t :: r => (if lp then stand (e (lpT e t)) else lpT e t) :: lpL e lp r
end
mutual
/-- How many loops are told of a node. -/
def lpN (e : T → Bool) : T → Nat
  | .mk k _ _ _ b => lpNL e (isLoop k) true b
def lpNL (e : T → Bool) (lp first : Bool) : List T → Nat
  | [] => 0
  | t :: r => lpN e t + (if lp && first && e (lpT e t) then 1 else 0) + lpNL e lp false r
end
/-- The rules that are asked for in a rule's body. -/
def asked (rs : List Rl) (t : T) : List Bool := (nam t).foldl (fun a n => match fnd rs n.name with | some to => a.set to true | none => a) (List.replicate rs.length false)
/-- The short grammar: the rules that are asked for, from the k-th on. -/
def shortF (e a : List Bool) : Nat → List Rl → List Rl
  | _, [] => []
  | k, r :: l => (if a.getD k false then [⟨r.name, r.sort, stand (e.getD k false), 0, 0, 0⟩] else []) ++ shortF e a (k + 1) l
def short (rs : List Rl) (r : Rl) : List Rl := shortF (emp rs) (asked rs r.body) 0 rs ++ [⟨⟨#[]⟩, r.sort, stand false, 0, 0, 0⟩]
/-- May a node be empty by the short grammar? -/
def shE (rs : List Rl) (r : Rl) (t : T) : Bool := thr (short rs r) r.sort (emp (short rs r)) t
/-- Each rule with nothing but what it names. -/
def allT (t : T) : T := .mk 0 ⟨#[]⟩ ⟨#[]⟩ [] ((nam t).map fun n => .mk 6 n.name ⟨#[]⟩ [] [])
def nmR (rs : List Rl) : List Rl := rs.map fun r => { r with body := allT r.body }
/-- What is wrong with the i-th rule. -/
def rulP (rs : List Rl) (i : Nat) (r : Rl) : List Pr :=
  (match fnd rs r.name with | some k => if k < i then [⟨1, i, r.name⟩] else [] | none => [⟨1, i, r.name⟩]) ++ noneP rs i (nam r.body) ++ sortP rs r.sort i (nam r.body) ++
  (if r.sort = 0 ∧ reaAt rs i i = true then [⟨4, i, r.name⟩] else []) ++ (if reaAt (nmR rs) i i = true then [⟨5, i, r.name⟩] else []) ++
  List.replicate (lpN (shE rs r) r.body) ⟨6, i, r.name⟩ ++ (if (r.sort = 1 ∨ r.sort = 3) ∧ (emp rs).getD i false = true then [⟨7, i, r.name⟩] else [])
def rulesF (rs : List Rl) : Nat → List Rl → List Pr
  | _, [] => []
  | k, r :: l => rulP rs k r ++ rulesF rs (k + 1) l
/-- The first parser's rule. -/
def start (rs : List Rl) : Option Nat := rs.findIdx? fun r => r.sort = 0
/-- All that is wrong. -/
def chk (rs : List Rl) : List Pr := rulesF rs 0 rs ++ (if start rs = none then [⟨8, -1, ⟨#[]⟩⟩] else [])
end Go.Proofs.YtmcpemohemeecaaDoor.Ck
