/-
  lex.Lex at any text; how its tokens lie.
-/
import Derived.Test.YtoafcpbpnkfhoaaGreatDoorLexL
namespace Go.Proofs.YtoafcpbpnkfhoaaGreatDoor.Lex
open Go.RowKit

theorem lst_lex {s : ByteArray} (h : s.size ≤ 8192) : lexF (lst s) = lexTo (s.size + 1) (lst s) 0 := by
  unfold lexF; rw [if_neg (by rw [lst_length]; omega), lst_length]
theorem Lex_any (s : ByteArray) (w : World) (pL pW : Addr) (hL : Laid w pL pW) (hl : s.size ≤ 4611686018427387904) : Calls Tryz.prog 8 #[.string s] w (LexPost w (lexF (lst s))) := by
  by_cases hs : s.size ≤ 8192
  · rw [lst_lex hs]; exact Lex_small s w pL pW hL hs
  · have h : lexF (lst s) = .bad true 8192 := by unfold lexF; rw [if_pos (by rw [lst_length]; omega)]
    rw [h]
    clear h hL
    have hs' : 8192 < s.size := by omega
    go_enter Tryz.func8, Tryz.ntmps8
    go_wp2_with fail
    go_ret3
    exact ⟨Kept.refl _, rfl⟩
theorem Lex_toks (s : ByteArray) (w : World) (pL pW : Addr) (hL : Laid w pL pW) (hl : s.size ≤ 4611686018427387904) (ts : List Tok) (h : lexF (lst s) = .toks ts) :
    Calls Tryz.prog 8 #[.string s] w fun e w' => (∃ v, e = .returned (.tuple #[v, .int .i64 0, .int .i64 0]) ∧ Hid (w'.ownsRow w.heap.size 62 3 v ts.length (cellsOf ts))) ∧ Hid (Kept w w') :=
  (Lex_any s w pL pW hL hl).mono fun e w' hp => by
    rw [h] at hp
    obtain ⟨hk, v, he, ho⟩ := hp
    exact ⟨⟨v, he, Lib.hid ho⟩, Lib.hid hk⟩
theorem Lex_bad (s : ByteArray) (w : World) (pL pW : Addr) (hL : Laid w pL pW) (hl : s.size ≤ 4611686018427387904) (b : Bool) (k : Nat) (h : lexF (lst s) = .bad b k) :
    Calls Tryz.prog 8 #[.string s] w fun e w' => e = .returned (.tuple #[.slice none 0 0, .int .i64 (noL b), .int .i64 k]) ∧ Hid (Kept w w') :=
  (Lex_any s w pL pW hL hl).mono fun e w' hp => by
    rw [h] at hp
    obtain ⟨hk, he⟩ := hp
    exact ⟨he, Lib.hid hk⟩
theorem num_any (e : Int) (w : World) : Calls Tryz.prog 6 #[.int .i64 e] w fun r w' => r = .returned (.int .i64 e) ∧ w = w' := by
  go_enter Tryz.func6, Tryz.ntmps6
  go_wp2
  go_ret
  exact ⟨rfl, rfl⟩

theorem cells_get (ts : List Tok) (i : Nat) (h : i < ts.length) : (cellsOf ts)[i * 3]? = some (.int .i64 ts[i].kind) ∧ (cellsOf ts)[i * 3 + 1]? = some (.string ⟨ts[i].text.toArray⟩) ∧ (cellsOf ts)[i * 3 + 2]? = some (.int .i64 ts[i].place) := by
  induction ts generalizing i with
  | nil => simp at h
  | cons t ts ih =>
    have hc : cellsOf (t :: ts) = .int .i64 t.kind :: .string ⟨t.text.toArray⟩ :: .int .i64 t.place :: cellsOf ts := rfl
    rw [hc]
    cases i with
    | zero => simp
    | succ i =>
      have := ih i (by simpa using h)
      rw [show (i + 1) * 3 = i * 3 + 3 by omega]
      simpa using this
/-- Where the tokens lie. -/
theorem own_view {w : World} {base : Nat} {e : TypeId} {v : Value} {ts : List Tok} (h : w.ownsRow base e 3 v ts.length (cellsOf ts)) (h0 : 0 < ts.length) :
    ∃ g cap, v = .slice (some ⟨g, 0, none⟩) ts.length cap ∧ ts.length ≤ cap ∧ cap ≤ maxLen ∧ base ≤ g ∧ g < w.heap.size ∧ ∀ i (hi : i < ts.length), w.cell? ⟨g, i * 3, none⟩ = some (.int .i64 ts[i].kind) ∧ w.cell? ⟨g, i * 3 + 1, none⟩ = some (.string ⟨ts[i].text.toArray⟩) ∧ w.cell? ⟨g, i * 3 + 2, none⟩ = some (.int .i64 ts[i].place) := by
  rcases h.2 with ⟨_, hn⟩ | ⟨g, cap, cur, hv, hb, hg, hc, hm, hsz, htk⟩
  · omega
  · refine ⟨g, cap, hv, hc, hm, hb, (Array.getElem?_eq_some_iff.1 hg).1, fun i hi => ?_⟩
    have hcell : ∀ j u, (cellsOf ts)[j]? = some u → w.cell? ⟨g, j, none⟩ = some u := by
      intro j u hj
      rw [← htk, List.getElem?_take] at hj
      split at hj
      · simpa [World.cell?, hg] using hj
      · cases hj
    obtain ⟨a, b, c⟩ := cells_get ts i hi
    exact ⟨hcell _ _ a, hcell _ _ b, hcell _ _ c⟩
end Go.Proofs.YtoafcpbpnkfhoaaGreatDoor.Lex
