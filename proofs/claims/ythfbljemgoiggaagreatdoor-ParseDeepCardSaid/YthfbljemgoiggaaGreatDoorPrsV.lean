/-
  Texts nested so deep (ParseDeep): what they come to, by reckoning.
-/
import Derived.Test.YthfbljemgoiggaaGreatDoorPrsL
namespace Go.Proofs.YthfbljemgoiggaaGreatDoor.Prs
open Lex (Tok lexF)

def rep (n : Nat) (l : List UInt8) : List UInt8 := (List.replicate n l).flatten
def opens : List (List UInt8) := [[40, 32], [110, 111, 116, 32], [91, 32], [45, 32], [97, 32, 91, 32]]
def shuts : List (List UInt8) := [[32, 41], [], [32, 93], [], [32, 93]]
def deepText (k w : Nat) : List UInt8 :=
  if w = 1 ∨ w = 2 then rep k (opens.getD w []) ++ [49, 32, 61, 61, 32, 49] ++ rep k (shuts.getD w []) else rep k (opens.getD w []) ++ [49] ++ rep k (shuts.getD w []) ++ [32, 61, 61, 32, 49]
def toksOf (l : List UInt8) : List Tok := match lexF l with | .toks ts => ts | .bad _ _ => []
def numOf {α : Type} : Option (Top α) → Nat
  | some (.ok _) => 0
  | some (.err n _) => n
  | none => 99
def deepNum (k w : Nat) : Nat := numOf (topF (condF 400 (toksOf (deepText k w)) 0 none))
set_option maxRecDepth 100000 in
theorem deep_all : ∀ k, k < 45 → ∀ w, w < 5 → (deepNum k w == if k ≤ 30 then 0 else 6) = true := by decide +kernel
end Go.Proofs.YthfbljemgoiggaaGreatDoor.Prs
