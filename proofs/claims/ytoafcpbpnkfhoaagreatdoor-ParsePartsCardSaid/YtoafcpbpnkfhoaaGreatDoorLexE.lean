/-
  Contracts of package lex's word, read, number, scan and Number, in a world in which the two package errors lie as the program lays them. Each returns what a plain function on lists gives; the world draws at most. Condition: a length below 2^62.
-/
import Derived.Test.YtoafcpbpnkfhoaaGreatDoorLexD
import Derived.Deep.QuietTactic
import Derived.BigQuiet
namespace Go.Proofs.YtoafcpbpnkfhoaaGreatDoor.Lex
open Go.RowKit

/-- What the three package variables hold. -/
structure Laid (w : World) (pL pW : Addr) : Prop where
  long : w.cell? ⟨0, 0, none⟩ = some (.iface 155 (.pointer (some pL)))
  word : w.cell? ⟨1, 0, none⟩ = some (.iface 155 (.pointer (some pW)))
  typ : w.cell? ⟨2, 0, none⟩ = some (.iface 114 (.agg #[.pointer (some ⟨4, 64, none⟩)]))
  ne : pL ≠ pW
  rowL : ∃ c t, w.heap[pL.block]? = some (.cells c t (0, 0))
  rowW : ∃ c t, w.heap[pW.block]? = some (.cells c t (0, 0))
  size : 0 < w.heap.size ∧ 1 < w.heap.size ∧ 2 < w.heap.size
theorem Laid.kept {w w' : World} {pL pW : Addr} (h : Laid w pL pW) (hk : Kept w w') : Laid w' pL pW := by
  have hs : w.heap.size ≤ w'.heap.size := Below.size hk
  have hz := h.size
  refine ⟨?_, ?_, ?_, h.ne, ?_, ?_, by omega⟩
  · rw [Below.cell (p := ⟨0, 0, none⟩) hk (show _ < _ by simp; omega)]; exact h.long
  · rw [Below.cell (p := ⟨1, 0, none⟩) hk (show _ < _ by simp; omega)]; exact h.word
  · rw [Below.cell (p := ⟨2, 0, none⟩) hk (show _ < _ by simp; omega)]; exact h.typ
  · obtain ⟨c, t, e⟩ := h.rowL
    exact ⟨c, t, (Below.block hk _ (Array.getElem?_eq_some_iff.1 e).1).trans e⟩
  · obtain ⟨c, t, e⟩ := h.rowW
    exact ⟨c, t, (Below.block hk _ (Array.getElem?_eq_some_iff.1 e).1).trans e⟩
theorem Laid.drewN {w : World} {pL pW : Addr} (h : Laid w pL pW) (n : Nat) : Laid (w.drewN n) pL pW := h.kept ((Kept.refl w).drewN n)

def errV (pL pW : Addr) (b : Bool) : Value := .iface 155 (.pointer (some (if b then pL else pW)))
def scV (pL pW : Addr) : Sc → Value
  | .tok k n => .tuple #[.int .i64 k, .int .i64 n, .nilIface]
  | .bad b => .tuple #[.int .i64 0, .int .i64 0, errV pL pW b]
def rdV (pL pW : Addr) : Rd → Value
  | .ok v u => .tuple #[.int .i64 v, .int .i64 (if u then 6 else 5), .nilIface]
  | .bad b => .tuple #[.int .i64 0, .int .i64 0, errV pL pW b]

theorem ret_sc {pL pW : Addr} {v : Value} {x : Sc} (h : v = scV pL pW x) : Ending.returned v = .returned (scV pL pW x) := by rw [h]

set_option maxHeartbeats 400000 in
theorem word_any (s : ByteArray) (w : World) (pL pW : Addr) (hL : Laid w pL pW) (hl : s.size ≤ 4611686018427387904) :
    Calls Tryz.prog 35 #[.string s] w fun e w' => e = .returned (scV pL pW (wordF (lst s))) ∧ ∃ n, w' = w.drewN n := by
  have hsl := span_le' inWordF s
  have hlong := hL.long
  clear hL
  cases hk : isKeyF ((lst s).take (spanF inWordF (lst s)))
  · rw [← lst_to] at hk
    by_cases h20 : 20 < spanF inWordF (lst s)
    · have hf : wordF (lst s) = .bad true := by unfold wordF; rw [← lst_to, hk, if_neg (by simp), if_pos h20]
      rw [hf]; clear hf
      go_enter Tryz.func35, Tryz.ntmps35
      go_wp2_with (first | (go_at_call 32; refine (span_inWord _ _ (by omega)).mono ?_; rintro e w' ⟨rfl, rfl⟩) | (go_at_call 57; refine (isKey_no _ _ hk).mono ?_; rintro e w' ⟨rfl, rfl⟩))
      go_quiet (fail)
      go_wp2
      go_ret3
      exact ⟨rfl, _, rfl⟩
    · have hf : wordF (lst s) = .tok 1 (spanF inWordF (lst s)) := by unfold wordF; rw [← lst_to, hk, if_neg (by simp), if_neg h20]
      rw [hf]; clear hf
      go_enter Tryz.func35, Tryz.ntmps35
      go_wp2_with (first | (go_at_call 32; refine (span_inWord _ _ (by omega)).mono ?_; rintro e w' ⟨rfl, rfl⟩) | (go_at_call 57; refine (isKey_no _ _ hk).mono ?_; rintro e w' ⟨rfl, rfl⟩))
      go_ret3
      exact ⟨rfl, 0, rfl⟩
  · rw [← lst_to] at hk
    have hf : wordF (lst s) = .tok 3 (spanF inWordF (lst s)) := by unfold wordF; rw [← lst_to, hk, if_pos rfl]
    rw [hf]; clear hf
    go_enter Tryz.func35, Tryz.ntmps35
    go_wp2_with (first | (go_at_call 32; refine (span_inWord _ _ (by omega)).mono ?_; rintro e w' ⟨rfl, rfl⟩) | (go_at_call 57; refine (isKey_yes _ _ hk).mono ?_; rintro e w' ⟨rfl, rfl⟩))
    go_ret3
    exact ⟨rfl, 0, rfl⟩

theorem in_no (u : Bool) (v : Nat) (w : World) (h : maxN u < v) (hv : v ≤ 100000000000) : Calls Tryz.prog 69 #[.int .i64 (if u then 6 else 5), .int .i64 v] w fun e w' => e = .returned (.bool false) ∧ w = w' := by
  cases u
  all_goals
    simp only [maxN, Bool.false_eq_true, if_false, if_true] at h ⊢
    have h0 : (0 : Int) ≤ v := by omega
    go_enter Tryz.func69, Tryz.ntmps69
    go_wp2
    go_ret
    first | exact ⟨rfl, rfl⟩ | exact ⟨ret_bool (by simp; omega), rfl⟩
theorem in_yes (u : Bool) (v : Nat) (w : World) (h : v ≤ maxN u) : Calls Tryz.prog 69 #[.int .i64 (if u then 6 else 5), .int .i64 v] w fun e w' => e = .returned (.bool true) ∧ w = w' := by
  cases u
  all_goals
    simp only [maxN, Bool.false_eq_true, if_false, if_true] at h ⊢
    have h0 : (0 : Int) ≤ v := by omega
    go_enter Tryz.func69, Tryz.ntmps69
    go_wp2
    go_ret
    first | exact ⟨rfl, rfl⟩ | exact ⟨ret_bool (by simp; omega), rfl⟩
end Go.Proofs.YtoafcpbpnkfhoaaGreatDoor.Lex
