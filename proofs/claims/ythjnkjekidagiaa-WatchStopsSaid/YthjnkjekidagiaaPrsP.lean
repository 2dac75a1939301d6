/-
  Plain functions on lists of tokens for layer 3 (trees): what the functions of package parse compute. No program is named here.
-/
import Derived.Test.YthjnkjekidagiaaLexP
namespace Go.Proofs.Ythjnkjekidagiaa.Prs
open Lex (Tok)

/-- A node of an expression. -/
structure Ex where
  kind : Nat
  num : Nat
  ty : Nat
  name : List UInt8
  a : Int
  b : Int
  place : Nat
deriving DecidableEq
/-- A node of a condition. -/
structure Cn where
  kind : Nat
  rel : Nat
  x : List Ex
  y : List Ex
  a : Int
  b : Int
  place : Nat
deriving DecidableEq

/-- What a reader comes to: it gives up at a token's place; or the tokens that are left, where it was too deep first, and what it read. 'out': the number of steps did not do. -/
inductive Res (α : Type) where
  | out
  | bad (place : Nat)
  | ok (us : List Tok) (dp : Option Nat) (a : α)
deriving DecidableEq
def Res.bind {α β : Type} (r : Res α) (f : List Tok → Option Nat → α → Res β) : Res β :=
  match r with
  | .out => .out
  | .bad k => .bad k
  | .ok us dp a => f us dp a

def readT (l : List UInt8) : Nat :=
  if l = [105, 56] then 1 else if l = [117, 56] then 2 else if l = [105, 49, 54] then 3 else if l = [117, 49, 54] then 4 else if l = [105, 51, 50] then 5 else if l = [117, 51, 50] then 6 else 0
/-- The kind of node that a sign makes, and its level; 9: none. -/
def opF (l : List UInt8) : Nat × Nat :=
  if l = [38] then (13, 0) else if l = [124] then (14, 0) else if l = [94] then (15, 0) else if l = [60, 60] then (16, 1) else if l = [62, 62] then (17, 1) else if l = [43] then (8, 2) else if l = [45] then (9, 2)
  else if l = [42] then (10, 3) else if l = [47] then (11, 3) else if l = [37] then (12, 3) else (0, 9)
def relF (l : List UInt8) : Nat :=
  if l = [61, 61] then 1 else if l = [33, 61] then 2 else if l = [60] then 3 else if l = [60, 61] then 4 else if l = [62] then 5 else if l = [62, 61] then 6 else 0
def numF (l : List UInt8) : Nat × Nat :=
  match Lex.readF l with
  | .ok v u => (v, if u then 6 else 5)
  | .bad _ => (0, 0)
/-- Where it was too deep first, behind a token that opens. -/
def dpF (d : Nat) (dp : Option Nat) (k : Nat) : Option Nat := if 30 < d + 1 ∧ dp = none then some k else dp

def takeF (s : List UInt8) (us : List Tok) (dp : Option Nat) : Res Nat :=
  match us with
  | [] => .out
  | t :: us => if t.text = s then .ok us dp t.place else .bad t.place
def openF (s : List UInt8) (us : List Tok) (d : Nat) (dp : Option Nat) : Res Nat :=
  match us with
  | [] => .out
  | t :: us => if t.text = s then .ok us (dpF d dp t.place) t.place else .bad t.place

mutual
def chainF : Nat → Nat → List Tok → Nat → Option Nat → List Ex → Res (List Ex)
  | 0, _, _, _, _, _ => .out
  | f + 1, lvl, us, d, dp, l => if lvl = 4 then unaryF f us d dp l else (chainF f (lvl + 1) us d dp l).bind fun us dp l => loopF f lvl us d dp l
def loopF : Nat → Nat → List Tok → Nat → Option Nat → List Ex → Res (List Ex)
  | 0, _, _, _, _, _ => .out
  | f + 1, lvl, us, d, dp, l =>
    match us with
    | [] => .out
    | t :: us' => if (opF t.text).2 = lvl then (chainF f (lvl + 1) us' d dp l).bind fun us2 dp2 l2 => loopF f lvl us2 d dp2 (l2 ++ [⟨(opF t.text).1, 0, 0, [], (l.length - 1 : Nat), (l2.length - 1 : Nat), t.place⟩]) else .ok us dp l
def unaryF : Nat → List Tok → Nat → Option Nat → List Ex → Res (List Ex)
  | 0, _, _, _, _ => .out
  | f + 1, us, d, dp, l =>
    match us with
    | [] => .out
    | t :: us' =>
      if t.kind = 2 then .ok us' dp (l ++ [⟨1, (numF t.text).1, (numF t.text).2, [], -1, -1, t.place⟩])
      else if t.kind = 1 then namedF f t us' d dp l
      else if readT t.text ≠ 0 then (bracketF f [40] [41] us' d dp l).bind fun us2 dp2 l2 => .ok us2 dp2 (l2 ++ [⟨18, 0, readT t.text, [], (l2.length - 1 : Nat), -1, t.place⟩])
      else if t.text = [111, 108, 100] then (bracketF f [40] [41] us' d dp l).bind fun us2 dp2 l2 => .ok us2 dp2 (l2 ++ [⟨4, 0, 0, [], (l2.length - 1 : Nat), -1, t.place⟩])
      else if t.text = [114, 101, 115, 117, 108, 116] then .ok us' dp (l ++ [⟨5, 0, 0, [], -1, -1, t.place⟩])
      else if t.text = [45] then (signedF f t us' d dp l).bind fun us2 dp2 l2 => .ok us2 dp2 (l2 ++ [⟨6, 0, 0, [], (l2.length - 1 : Nat), -1, t.place⟩])
      else if t.text = [126] then (signedF f t us' d dp l).bind fun us2 dp2 l2 => .ok us2 dp2 (l2 ++ [⟨7, 0, 0, [], (l2.length - 1 : Nat), -1, t.place⟩])
      else bracketF f [40] [41] us d dp l
def namedF : Nat → Tok → List Tok → Nat → Option Nat → List Ex → Res (List Ex)
  | 0, _, _, _, _, _ => .out
  | f + 1, t, us, d, dp, l =>
    match us with
    | [] => .out
    | u :: _ => if u.text = [91] then (bracketF f [91] [93] us d dp l).bind fun us2 dp2 l2 => .ok us2 dp2 (l2 ++ [⟨3, 0, 0, t.text, (l2.length - 1 : Nat), -1, t.place⟩])
      else .ok us dp (l ++ [⟨2, 0, 0, t.text, -1, -1, t.place⟩])
def signedF : Nat → Tok → List Tok → Nat → Option Nat → List Ex → Res (List Ex)
  | 0, _, _, _, _, _ => .out
  | f + 1, t, us, d, dp, l => unaryF f us (d + 1) (dpF d dp t.place) l
def bracketF : Nat → List UInt8 → List UInt8 → List Tok → Nat → Option Nat → List Ex → Res (List Ex)
  | 0, _, _, _, _, _, _ => .out
  | f + 1, o, c, us, d, dp, l => (openF o us d dp).bind fun us dp _ => (chainF f 0 us (d + 1) dp l).bind fun us2 dp2 l2 => (takeF c us2 dp2).bind fun us3 dp3 _ => .ok us3 dp3 l2
end
def exprF (f : Nat) (us : List Tok) (d : Nat) (dp : Option Nat) : Res (List Ex) := chainF f 0 us d dp []
def comparedF (f : Nat) (us : List Tok) (d : Nat) (dp : Option Nat) : Res Cn :=
  (exprF f us d dp).bind fun us1 dp1 x =>
    match us1 with
    | [] => .out
    | t :: us2 => if relF t.text = 0 then .bad t.place else (exprF f us2 d dp1).bind fun us3 dp3 y => .ok us3 dp3 ⟨1, relF t.text, x, y, -1, -1, t.place⟩

mutual
def eitherF : Nat → List Tok → Nat → Option Nat → List Cn → Res (List Cn)
  | 0, _, _, _, _ => .out
  | f + 1, us, d, dp, l => (bothF f us d dp l).bind fun us dp l => eitherL f us d dp l
def eitherL : Nat → List Tok → Nat → Option Nat → List Cn → Res (List Cn)
  | 0, _, _, _, _ => .out
  | f + 1, us, d, dp, l =>
    match us with
    | [] => .out
    | t :: us' => if t.text = [111, 114] then (bothF f us' d dp l).bind fun us2 dp2 l2 => eitherL f us2 d dp2 (l2 ++ [⟨4, 0, [], [], (l.length - 1 : Nat), (l2.length - 1 : Nat), t.place⟩]) else .ok us dp l
def bothF : Nat → List Tok → Nat → Option Nat → List Cn → Res (List Cn)
  | 0, _, _, _, _ => .out
  | f + 1, us, d, dp, l => (oneF f us d dp l).bind fun us dp l => bothL f us d dp l
def bothL : Nat → List Tok → Nat → Option Nat → List Cn → Res (List Cn)
  | 0, _, _, _, _ => .out
  | f + 1, us, d, dp, l =>
    match us with
    | [] => .out
    | t :: us' => if t.text = [97, 110, 100] then (oneF f us' d dp l).bind fun us2 dp2 l2 => bothL f us2 d dp2 (l2 ++ [⟨3, 0, [], [], (l.length - 1 : Nat), (l2.length - 1 : Nat), t.place⟩]) else .ok us dp l
def oneF : Nat → List Tok → Nat → Option Nat → List Cn → Res (List Cn)
  | 0, _, _, _, _ => .out
  | f + 1, us, d, dp, l =>
    match us with
    | [] => .out
    | t :: us' =>
      if t.text = [110, 111, 116] then (oneF f us' (d + 1) (dpF d dp t.place) l).bind fun us2 dp2 l2 => .ok us2 dp2 (l2 ++ [⟨2, 0, [], [], (l2.length - 1 : Nat), -1, t.place⟩])
      else if t.text = [91] then (eitherF f us' (d + 1) (dpF d dp t.place) l).bind fun us2 dp2 l2 => (takeF [93] us2 dp2).bind fun us3 dp3 _ => .ok us3 dp3 l2
      else (comparedF f us d dp).bind fun us2 dp2 c => .ok us2 dp2 (l ++ [c])
end
def condF (f : Nat) (us : List Tok) (d : Nat) (dp : Option Nat) : Res (List Cn) := eitherF f us d dp []
end Go.Proofs.Ythjnkjekidagiaa.Prs
