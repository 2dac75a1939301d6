/-
  Texts of words with a blank behind each: what they come to as tokens. No program is named here.
-/
import Derived.Test.YtoafcpbpnkfhoaaGreatDoorPrsZ
namespace Go.Proofs.YtoafcpbpnkfhoaaGreatDoor.Prs
open Lex (Tok lexF lexTo Lx)

abbrev Wd := Nat × List UInt8
def textW (ws : List Wd) : List UInt8 := ws.flatMap fun x => x.2 ++ [32]
def toksW : List Wd → Nat → List Tok → List Tok
  | [], _, e => e
  | x :: ws, k, e => ⟨x.1, x.2, k⟩ :: toksW ws (k + x.2.length + 1) e
def endW (ws : List Wd) (k : Nat) : Nat := k + (textW ws).length
theorem textW_cons (x : Wd) (ws : List Wd) : textW (x :: ws) = x.2 ++ 32 :: textW ws := by simp [textW]
theorem textW_app (a b : List Wd) : textW (a ++ b) = textW a ++ textW b := by simp [textW]
theorem toksW_app (a b : List Wd) (k : Nat) (e : List Tok) : toksW (a ++ b) k e = toksW a k (toksW b (endW a k) e) := by
  induction a generalizing k with
  | nil => simp [toksW, endW, textW]
  | cons x a ih =>
    simp only [List.cons_append, toksW, ih]
    congr 2
    congr 1
    simp [endW, textW_cons]
    omega
/-- A word that stands by itself. -/
def OkW (x : Wd) : Prop := ∀ f l k, lexTo (f + 1) (x.2 ++ 32 :: l) k = Lx.pre [⟨x.1, x.2, k⟩] (lexTo f (32 :: l) (k + x.2.length)) ∧ lexTo (f + 1) (32 :: (x.2 ++ 32 :: l)) k = Lx.pre [⟨x.1, x.2, k + 1⟩] (lexTo f (32 :: l) (k + 1 + x.2.length))
theorem lexW (ws : List Wd) (h : ∀ x ∈ ws, OkW x) (f k : Nat) : lexTo (f + 1 + ws.length) (32 :: textW ws) k = .toks (toksW ws (k + 1) [⟨0, [], endW ws (k + 1)⟩]) := by
  induction ws generalizing k with
  | nil => rfl
  | cons x ws ih =>
    rw [textW_cons, show f + 1 + (x :: ws).length = f + 1 + ws.length + 1 by simp; omega, (h x (by simp) _ _ _).2, ih (fun y hy => h y (by simp [hy]))]
    simp only [Lx.pre, toksW, List.cons_append, List.nil_append, endW, textW_cons]
    congr 2
    congr 1
    simp
    omega
theorem textW_len (ws : List Wd) : ws.length ≤ (textW ws).length := by
  induction ws with
  | nil => simp [textW]
  | cons x ws ih => rw [textW_cons]; simp; omega
theorem lexF_words (ws : List Wd) (h : ∀ x ∈ ws, OkW x) (hl : (textW ws).length ≤ 8192) : lexF (textW ws) = .toks (toksW ws 0 [⟨0, [], endW ws 0⟩]) := by
  unfold lexF
  rw [if_neg (by omega)]
  cases ws with
  | nil => rfl
  | cons x ws =>
    have hn := textW_len ws
    have hc := textW_cons x ws
    obtain ⟨f, hf⟩ : ∃ f, (textW (x :: ws)).length + 1 = f + 1 + ws.length + 1 := ⟨(textW (x :: ws)).length - ws.length - 1, by rw [hc]; simp; omega⟩
    rw [hf, hc, (h x (by simp) _ _ _).1, lexW ws (fun y hy => h y (by simp [hy]))]
    simp only [Lx.pre, toksW, List.cons_append, List.nil_append, endW, textW_cons]
    congr 2
    congr 1
    simp
    omega
def dg (i : Nat) : UInt8 := UInt8.ofNat (48 + i)
/-- The words of ParseParts. -/
def glW (i : Nat) : List Wd := [(3, [103, 108, 111, 98, 97, 108]), (1, [103, dg i]), (4, [58]), (3, [105, 51, 50]), (4, [61]), (4, [45]), (2, [dg i]), (4, [59])]
def pmW (k : Nat) : List Wd := (if k = 0 then [] else [(4, [44])]) ++ [(1, [112, dg k]), (4, [58]), (3, [117, 56])]
def clW (k : Nat) : List Wd := [(3, [114, 101, 113, 117, 105, 114, 101, 115]), (2, [49]), (4, [61, 61]), (2, [dg k]), (4, [59]), (3, [101, 110, 115, 117, 114, 101, 115]), (2, [50]), (4, [61, 61]), (2, [dg k]), (4, [59])]
def stW (k : Nat) : List Wd := [(3, if k % 3 = 0 then [98, 114, 101, 97, 107] else if k % 3 = 1 then [99, 111, 110, 116, 105, 110, 117, 101] else [114, 101, 116, 117, 114, 110]), (4, [59])]
def rowW (W : Nat → List Wd) (n : Nat) : List Wd := (List.range n).flatMap W
def fnW (np nc ns i : Nat) : List Wd := [(3, [102, 110]), (1, [102, dg i]), (4, [40])] ++ rowW pmW np ++ [(4, [41]), (4, [58]), (3, [117, 49, 54])] ++ rowW clW nc ++ [(4, [123])] ++ rowW stW ns ++ [(4, [125])]
theorem rowW_succ (W : Nat → List Wd) (n : Nat) : rowW W (n + 1) = rowW W n ++ W n := by simp [rowW, List.range_succ]
def onesW : List Wd := [(3, [103, 108, 111, 98, 97, 108]), (4, [58]), (3, [105, 51, 50]), (4, [61]), (4, [45]), (4, [59]), (4, [44]), (3, [117, 56]), (3, [114, 101, 113, 117, 105, 114, 101, 115]), (4, [61, 61]), (3, [101, 110, 115, 117, 114, 101, 115]), (3, [98, 114, 101, 97, 107]), (3, [99, 111, 110, 116, 105, 110, 117, 101]), (3, [114, 101, 116, 117, 114, 110]), (3, [102, 110]), (4, [40]), (4, [41]), (3, [117, 49, 54]), (4, [123]), (4, [125]), (2, [48]), (2, [49]), (2, [50]), (2, [51]), (2, [52]), (2, [53]),
  (1, [103, 48]), (1, [103, 49]), (1, [103, 50]), (1, [103, 51]), (1, [103, 52]), (1, [103, 53]), (1, [102, 48]), (1, [102, 49]), (1, [102, 50]), (1, [102, 51]), (1, [112, 48]), (1, [112, 49]), (1, [112, 50]), (1, [112, 51])]
set_option maxRecDepth 100000 in
theorem ones_ok : ∀ x ∈ onesW, OkW x := by
  intro x hx
  simp only [onesW, List.mem_cons, List.mem_nil_iff, or_false] at hx
  rcases hx with rfl | rfl | rfl | rfl | rfl | rfl | rfl | rfl | rfl | rfl | rfl | rfl | rfl | rfl | rfl | rfl | rfl | rfl | rfl | rfl | rfl | rfl | rfl | rfl | rfl | rfl | rfl | rfl | rfl | rfl | rfl | rfl | rfl | rfl | rfl | rfl | rfl | rfl | rfl | rfl <;> exact fun f l k => ⟨rfl, rfl⟩
end Go.Proofs.YtoafcpbpnkfhoaaGreatDoor.Prs
