/-
  What the whole text of ParseParts comes to. No program is named here.
-/
import Derived.Test.YtoafcpbpnkfhoaaGreatDoorParQ
namespace Go.Proofs.YtoafcpbpnkfhoaaGreatDoor.Prs
open Lex (Tok lexF lexTo Lx)

theorem mem_rowW {W : Nat → List Wd} {n : Nat} {x : Wd} (h : x ∈ rowW W n) : ∃ i, i < n ∧ x ∈ W i := by
  simp only [rowW, List.mem_flatMap, List.mem_range] at h
  exact h
theorem gl_ones {i : Nat} (h : i < 6) : ∀ x ∈ glW i, x ∈ onesW := by rcases six h with rfl | rfl | rfl | rfl | rfl | rfl <;> decide
theorem pm_ones {i : Nat} (h : i < 4) : ∀ x ∈ pmW i, x ∈ onesW := by rcases three h with rfl | rfl | rfl | rfl <;> decide
theorem cl_ones {i : Nat} (h : i < 4) : ∀ x ∈ clW i, x ∈ onesW := by rcases three h with rfl | rfl | rfl | rfl <;> decide
theorem st_ones {i : Nat} (h : i < 9) : ∀ x ∈ stW i, x ∈ onesW := by rcases nine h with rfl | rfl | rfl | rfl | rfl | rfl | rfl | rfl | rfl <;> decide
theorem fh_ones {i : Nat} (h : i < 4) : ∀ x ∈ [((3 : Nat), ([102, 110] : List UInt8)), (1, [102, dg i]), (4, [40])], x ∈ onesW := by rcases three h with rfl | rfl | rfl | rfl <;> decide
theorem fn_ones {np nc ns i : Nat} (h1 : np < 4) (h2 : nc < 4) (h3 : ns < 9) (hi : i < 4) : ∀ x ∈ fnW np nc ns i, x ∈ onesW := by
  intro x hx
  simp only [fnW, List.mem_append] at hx
  rcases hx with ((((((hx | hx) | hx) | hx) | hx) | hx) | hx)
  · exact fh_ones hi x hx
  · obtain ⟨k, hk, hx⟩ := mem_rowW hx; exact pm_ones (by omega) x hx
  · revert x; decide
  · obtain ⟨k, hk, hx⟩ := mem_rowW hx; exact cl_ones (by omega) x hx
  · revert x; decide
  · obtain ⟨k, hk, hx⟩ := mem_rowW hx; exact st_ones (by omega) x hx
  · revert x; decide
theorem all_ok {g f np nc ns : Nat} (h0 : g < 6) (hf : f < 4) (h1 : np < 4) (h2 : nc < 4) (h3 : ns < 9) : ∀ x ∈ rowW glW g ++ rowW (fnW np nc ns) f, OkW x := by
  intro x hx
  refine ones_ok x ?_
  rcases List.mem_append.1 hx with hx | hx
  · obtain ⟨k, hk, hx⟩ := mem_rowW hx; exact gl_ones (by omega) x hx
  · obtain ⟨k, hk, hx⟩ := mem_rowW hx; exact fn_ones h1 h2 h3 (by omega) x hx
structure GlsAre (n : Nat) (L : List Gl) : Prop where
  len : L.length = n
  at_ : ∀ i (h : i < L.length), L[i].name = [103, dg i] ∧ L[i].init = -(i : Int)
theorem gl_row (F : FnF) (d p : Nat) : ∀ n, n ≤ 5 → ∃ L : List Gl, GlsAre n L ∧ ∀ k e dp gs fs, progF F d (k + n) (toksW (rowW glW n) p e) dp gs fs = progF F d k e dp (gs ++ L) fs := by
  intro n
  induction n with
  | zero => intro _; exact ⟨[], ⟨rfl, fun i h => by simp at h⟩, fun k e dp gs fs => by simp [rowW, toksW]⟩
  | succ n ih =>
    intro hn
    obtain ⟨L, hL, h⟩ := ih (by omega)
    refine ⟨L ++ [⟨[103, dg n], readT [105, 51, 50], 0, -(n : Int), endW (rowW glW n) p + 7⟩], ⟨by simp [hL.len], fun i hi => ?_⟩, fun k e dp gs fs => ?_⟩
    · by_cases hlt : i < L.length
      · rw [List.getElem_append_left hlt]; exact hL.at_ i hlt
      · have e : i = L.length := by simp at hi; omega
        subst e
        simp [hL.len]
    · rw [rowW_succ, toksW_app, show k + (n + 1) = k + 1 + n by omega, h, gl_word F d k (by omega)]
      simp
structure FnsAre (n np nc ns : Nat) (M : List Fn) : Prop where
  len : M.length = n
  at_ : ∀ i (h : i < M.length), M[i].name = [102, dg i] ∧ M[i].ty = readT [117, 49, 54] ∧ M[i].np = np ∧ M[i].nr = nc ∧ M[i].ne = nc ∧ M[i].body.map St.kind = (List.range ns).map stK
theorem fn_step (F : FnF) (d k : Nat) {us e : List Tok} {q : Nat} {r : List Tok} {fn : Fn} (gs : List Gl) (fs : List Fn) (hu : us = ⟨3, [102, 110], q⟩ :: r) (h : F us d none = some (e, none, fn)) : progF F d (k + 1) us none gs fs = progF F d k e none gs (fs ++ [fn]) := by
  subst hu
  simp only [progF]
  rw [if_neg (by decide), if_pos trivial, h]
theorem fn_row {np nc ns : Nat} (h1 : np < 4) (h2 : nc < 4) (h3 : ns < 9) (f p : Nat) : ∀ n, ∃ M : List Fn, FnsAre n np nc ns M ∧ ∀ k e gs fs, progF (functionG (f + 30)) 0 (k + n) (toksW (rowW (fnW np nc ns) n) p e) none gs fs = progF (functionG (f + 30)) 0 k e none gs (fs ++ M) := by
  intro n
  induction n with
  | zero => exact ⟨[], ⟨rfl, fun i h => by simp at h⟩, fun k e gs fs => by simp [rowW, toksW]⟩
  | succ n ih =>
    obtain ⟨M, hM, h⟩ := ih
    -- the function's own text stands behind; its statements' places hang on where it stands, not on what follows
    have hw : ∃ l : List St, l.map St.kind = (List.range ns).map stK ∧ ∀ e, functionG (f + 30) (toksW (fnW np nc ns n) (endW (rowW (fnW np nc ns) n) p) e) 0 none = some (e, none, ⟨[102, dg n], endW (rowW (fnW np nc ns) n) p + 3, np, readT [117, 49, 54], nc, nc, l⟩) := fn_all h1 h2 h3 f _
    obtain ⟨l, hl, hw⟩ := hw
    refine ⟨M ++ [⟨[102, dg n], endW (rowW (fnW np nc ns) n) p + 3, np, readT [117, 49, 54], nc, nc, l⟩], ⟨by simp [hM.len], fun i hi => ?_⟩, fun k e gs fs => ?_⟩
    · by_cases hlt : i < M.length
      · rw [List.getElem_append_left hlt]; exact hM.at_ i hlt
      · have e : i = M.length := by simp at hi; omega
        subst e
        simp [hM.len, hl]
    · rw [rowW_succ, toksW_app, show k + (n + 1) = k + 1 + n by omega, h, fn_step (functionG (f + 30)) 0 k (us := toksW (fnW np nc ns n) (endW (rowW (fnW np nc ns) n) p) e) (q := endW (rowW (fnW np nc ns) n) p) (r := _) gs (fs ++ M) rfl (hw e)]
      simp
/-- The whole text. -/
theorem parts_prog {g f np nc ns : Nat} (h0 : g < 6) (h1 : np < 4) (h2 : nc < 4) (h3 : ns < 9) (q : Nat) : ∃ (k : Nat) (L : List Gl) (M : List Fn), GlsAre g L ∧ FnsAre f np nc ns M ∧ progF (functionG 30) 0 k (toksW (rowW glW g ++ rowW (fnW np nc ns) f) 0 [⟨0, [], q⟩]) none [] [] = some ([⟨0, [], q⟩], none, L, M) := by
  obtain ⟨L, hL, e1⟩ := gl_row (functionG 30) 0 0 g (by omega)
  obtain ⟨M, hM, e2⟩ := fn_row h1 h2 h3 0 (endW (rowW glW g) 0) f
  refine ⟨1 + f + g, L, M, hL, hM, ?_⟩
  rw [toksW_app, e1, e2]
  simp [progF]
end Go.Proofs.YtoafcpbpnkfhoaaGreatDoor.Prs
