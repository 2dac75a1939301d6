/-
  What the words of ParseParts come to. No program is named here.
-/
import Derived.Test.YtoafcpbpnkfhoaaGreatDoorParP
import Derived.Test.YtoafcpbpnkfhoaaGreatDoorParE
namespace Go.Proofs.YtoafcpbpnkfhoaaGreatDoor.Prs
open Lex (Tok lexF lexTo Lx)

theorem three {n : Nat} (h : n < 4) : n = 0 ∨ n = 1 ∨ n = 2 ∨ n = 3 := by omega
theorem six {n : Nat} (h : n < 6) : n = 0 ∨ n = 1 ∨ n = 2 ∨ n = 3 ∨ n = 4 ∨ n = 5 := by omega
theorem nine {n : Nat} (h : n < 9) : n = 0 ∨ n = 1 ∨ n = 2 ∨ n = 3 ∨ n = 4 ∨ n = 5 ∨ n = 6 ∨ n = 7 ∨ n = 8 := by omega
set_option maxRecDepth 100000 in
theorem gl_word (F : FnF) (d k : Nat) {i : Nat} (hi : i < 6) (p : Nat) (e : List Tok) (dp : Option Nat) (gs : List Gl) (fs : List Fn) :
    progF F d (k + 1) (toksW (glW i) p e) dp gs fs = progF F d k e dp (gs ++ [⟨[103, dg i], readT [105, 51, 50], 0, -(i : Int), p + 7⟩]) fs := by
  rcases six hi with rfl | rfl | rfl | rfl | rfl | rfl <;> rfl
set_option maxRecDepth 100000 in
theorem pm_words {n : Nat} (hn : n < 4) (f p q : Nat) (e : List Tok) : ∀ k, paramsF (f + 5) (⟨4, [40], q⟩ :: toksW (rowW pmW n) p (⟨4, [41], k⟩ :: e)) = some (e, n) := by
  intro k
  rcases three hn with rfl | rfl | rfl | rfl <;> rfl
theorem num_w {a : UInt8} (ha : a = 48 ∨ a = 49 ∨ a = 50 ∨ a = 51) : ∃ v, numF [a] = (v, 5) := by
  rcases ha with rfl | rfl | rfl | rfl
  · exact ⟨0, by decide⟩
  · exact ⟨1, by decide⟩
  · exact ⟨2, by decide⟩
  · exact ⟨3, by decide⟩
theorem op_w {a : UInt8} (ha : a = 48 ∨ a = 49 ∨ a = 50 ∨ a = 51) : opF [a] = (0, 9) ∧ [a] ≠ [45] ∧ [a] ≠ [126] ∧ [a] ≠ [40] ∧ [a] ≠ [91] := by
  rcases ha with rfl | rfl | rfl | rfl <;> decide
set_option maxRecDepth 100000 in
theorem cl_one {a b : UInt8} (ha : a = 48 ∨ a = 49 ∨ a = 50 ∨ a = 51) (hb : b = 48 ∨ b = 49 ∨ b = 50 ∨ b = 51) (w : List UInt8) (f p p1 p2 p3 p4 : Nat) (e : List Tok) : clauseF (f + 30) (⟨3, w, p⟩ :: ⟨2, [a], p1⟩ :: ⟨4, [61, 61], p2⟩ :: ⟨2, [b], p3⟩ :: ⟨4, [59], p4⟩ :: e) 0 none = some (e, none) := by
  obtain ⟨va, h1⟩ := num_w ha
  obtain ⟨vb, h2⟩ := num_w hb
  rcases ha with rfl | rfl | rfl | rfl <;> rcases hb with rfl | rfl | rfl | rfl <;>
  simp [clauseF, condF, eitherF, bothF, bothL, eitherL, oneF, comparedF, exprF, chainF, loopF, unaryF, Res.bind, h1, h2, show opF [61, 61] = (0, 9) by decide, show opF [59] = (0, 9) by decide, show relF [61, 61] = 1 by decide]
theorem dg_in {k : Nat} (hk : k < 4) : dg k = 48 ∨ dg k = 49 ∨ dg k = 50 ∨ dg k = 51 := by
  rcases three hk with rfl | rfl | rfl | rfl <;> decide
theorem clR {f d k : Nat} {t : Tok} {us us1 : List Tok} {dp dp1 : Option Nat} {nr ne : Nat} (ht : t.text = [114, 101, 113, 117, 105, 114, 101, 115]) (h : clauseF f (t :: us) d dp = some (us1, dp1)) : clausesL f d (k + 1) (t :: us) dp nr ne = clausesL f d k us1 dp1 (nr + 1) ne := by
  rw [clausesL]
  rw [if_pos ht, h]
theorem clE {f d k : Nat} {t : Tok} {us us1 : List Tok} {dp dp1 : Option Nat} {nr ne : Nat} (ht : t.text = [101, 110, 115, 117, 114, 101, 115]) (h : clauseF f (t :: us) d dp = some (us1, dp1)) : clausesL f d (k + 1) (t :: us) dp nr ne = clausesL f d k us1 dp1 nr (ne + 1) := by
  rw [clausesL]
  rw [if_neg (by rw [ht]; decide), if_pos ht, h]
theorem cl_stop (f d m : Nat) (q a b : Nat) (e : List Tok) : clausesL f d (m + 1) (⟨4, [123], q⟩ :: e) none a b = some (⟨4, [123], q⟩ :: e, none, a, b) := by
  rw [clausesL]
  simp only
  rw [if_neg (by decide), if_neg (by decide), if_neg (by decide)]
theorem cl_pair {k : Nat} (hk : k < 4) (f n p : Nat) (e : List Tok) (nr ne : Nat) : clausesL (f + 30) 0 (n + 1 + 1) (toksW (clW k) p e) none nr ne = clausesL (f + 30) 0 n e none (nr + 1) (ne + 1) := by
  simp only [clW, toksW]
  rw [clR rfl (cl_one (.inr (.inl rfl)) (dg_in hk) _ _ _ _ _ _ _ _), clE rfl (cl_one (.inr (.inr (.inl rfl))) (dg_in hk) _ _ _ _ _ _ _ _)]
theorem cl_words {n : Nat} (hn : n < 4) (f p q : Nat) (e : List Tok) : clausesL (f + 30) 0 (f + 30) (toksW (rowW clW n) p (⟨4, [123], q⟩ :: e)) none 0 0 = some (⟨4, [123], q⟩ :: e, none, n, n) := by
  have key : ∀ m, clausesL (f + 30) 0 (m + 7) (toksW (rowW clW n) p (⟨4, [123], q⟩ :: e)) none 0 0 = some (⟨4, [123], q⟩ :: e, none, n, n) := by
    intro m
    rcases three hn with rfl | rfl | rfl | rfl
    · exact cl_stop _ _ (m + 6) _ _ _ _
    · rw [show rowW clW 1 = clW 0 from rfl, show m + 7 = m + 5 + 1 + 1 by omega, cl_pair (by omega)]; exact cl_stop _ _ (m + 4) _ _ _ _
    · rw [show rowW clW 2 = clW 0 ++ clW 1 from rfl, toksW_app, show m + 7 = m + 3 + 1 + 1 + 1 + 1 by omega, cl_pair (by omega), cl_pair (by omega)]; exact cl_stop _ _ (m + 2) _ _ _ _
    · rw [show rowW clW 3 = clW 0 ++ (clW 1 ++ clW 2) from rfl, toksW_app, toksW_app, show m + 7 = m + 1 + 1 + 1 + 1 + 1 + 1 + 1 by omega, cl_pair (by omega), cl_pair (by omega), cl_pair (by omega)]; exact cl_stop _ _ m _ _ _ _
  have := key (f + 23)
  rwa [show f + 23 + 7 = f + 30 by omega] at this
def stK (k : Nat) : Nat := if k % 3 = 0 then 8 else if k % 3 = 1 then 9 else 10
theorem st_word (f k p d : Nat) (dp : Option Nat) (e : List Tok) (l : List St) : stmtsF (f + 2) (toksW (stW k) p e) d dp l = stmtsF (f + 1) e d dp (l ++ [⟨stK k, p⟩]) := by
  by_cases h0 : k % 3 = 0
  · simp [stW, toksW, stmtsF, wordF, bareF, h0, stK]
  · by_cases h1 : k % 3 = 1
    · simp [stW, toksW, stmtsF, wordF, bareF, h1, stK]
    · simp [stW, toksW, stmtsF, wordF, bareF, h0, h1, stK]
/-- The statements' list hangs on the words and on where they stand alone. -/
def stL : List Nat → Nat → List St
  | [], _ => []
  | k :: ks, p => ⟨stK k, p⟩ :: stL ks (endW (stW k) p)
theorem stL_kind (ks : List Nat) (p : Nat) : (stL ks p).map St.kind = ks.map stK := by
  induction ks generalizing p with
  | nil => rfl
  | cons k ks ih => simp [stL, ih]
theorem st_words (ks : List Nat) (f p d q : Nat) (dp : Option Nat) (e : List Tok) (l : List St) : stmtsF (f + 1 + ks.length) (toksW (ks.flatMap stW) p (⟨4, [125], q⟩ :: e)) d dp l = some (e, dp, l ++ stL ks p) := by
  induction ks generalizing p l with
  | nil => simp [toksW, stmtsF, stL]
  | cons k ks ih =>
    have h2 := ih (endW (stW k) p) (l ++ [⟨stK k, p⟩])
    rw [List.flatMap_cons, toksW_app, show f + 1 + (k :: ks).length = f + ks.length + 2 by simp; omega, st_word, show f + ks.length + 1 = f + 1 + ks.length by omega, h2]
    simp [stL]
theorem bl_words {n : Nat} (hn : n < 9) (f p q q' : Nat) (e : List Tok) : blockF (f + 30) (⟨4, [123], q⟩ :: toksW (rowW stW n) p (⟨4, [125], q'⟩ :: e)) 0 none = some (e, none, stL (List.range n) p) := by
  have h2 := st_words (List.range n) (f + 28 - n) p 1 q' none e []
  simp only [List.length_range] at h2
  rw [show f + 28 - n + 1 + n = f + 29 by omega] at h2
  simp only [blockF]
  rw [if_pos trivial]
  exact h2
theorem fn_all {np nc ns i : Nat} (h1 : np < 4) (h2 : nc < 4) (h3 : ns < 9) (f p : Nat) : ∃ l, l.map St.kind = (List.range ns).map stK ∧ ∀ e, functionG (f + 30) (toksW (fnW np nc ns i) p e) 0 none = some (e, none, ⟨[102, dg i], p + 3, np, readT [117, 49, 54], nc, nc, l⟩) := by
  refine ⟨stL (List.range ns) (endW ([(3, [102, 110]), (1, [102, dg i]), (4, [40])] ++ rowW pmW np ++ [(4, [41]), (4, [58]), (3, [117, 49, 54])] ++ rowW clW nc ++ [(4, [123])]) p), stL_kind _ _, fun e => ?_⟩
  simp only [fnW, toksW_app, toksW]
  unfold functionG
  simp only
  rw [if_pos (by simp), pm_words h1 (f + 25)]
  simp only
  rw [if_pos (by first | exact ⟨trivial, by decide⟩ | exact ⟨rfl, by decide⟩), cl_words h2]
  simp only
  rw [bl_words h3]
  rfl
end Go.Proofs.YtoafcpbpnkfhoaaGreatDoor.Prs
