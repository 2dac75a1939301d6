/-
  Cond of the document's answer's parser, of a text that can be read (condRead: by reckoning on the text's bytes).
-/
import Derived.Test.YthjnkjekidagiaaRrdJ
namespace Go.Proofs.Ythjnkjekidagiaa.Rpr
open Go.RowKit
open Lex (Tok isKeyF lexF lst cellsOf)
open Prs

def goodB (t : Tok) : Bool :=
  decide (t.text.length ≤ 8192) && decide (t.place ≤ 8192) && decide (t.kind ≤ 4) &&
    ((decide (t.kind = 3) && isKeyF t.text) || (decide (t.kind = 4) && isSg t.text) || (decide (t.kind ≠ 3) && decide (t.kind ≠ 4) && !isKeyF t.text && !isSg t.text)) &&
    (decide (t.kind ≠ 2) || match Lex.readF t.text with | .ok _ _ => true | _ => false)
theorem goodB_ok {t : Tok} (h : goodB t = true) : Good t := by
  simp only [goodB, Bool.and_eq_true, Bool.or_eq_true, decide_eq_true_eq, Bool.not_eq_true'] at h
  obtain ⟨⟨⟨⟨h1, h2⟩, h3⟩, h4⟩, h5⟩ := h
  refine ⟨h1, h2, h3, ?_, fun hk => ?_⟩
  · rcases h4 with (h4 | h4) | h4
    · exact .inl h4
    · exact .inr (.inl h4)
    · exact .inr (.inr ⟨h4.1.1.1, h4.1.1.2, h4.1.2, h4.2⟩)
  · rcases h5 with h5 | h5
    · exact absurd hk h5
    · split at h5
      · rename_i v u e; exact ⟨v, u, e⟩
      · cases h5
/-- What a text of a condition is read as. -/
def condRead (s : List UInt8) : Option (List Cn) :=
  match lexF s with
  | .toks T => if (T.all goodB && decide (T.length ≤ 8193) && decide (0 < T.length)) = true then match condF 200 T 0 none with | .ok [t] none l => if t.kind = 0 then some l else none | _ => none else none
  | _ => none
theorem condRead_ok {s : List UInt8} {l : List Cn} (h : condRead s = some l) : ∃ T t, lexF s = .toks T ∧ (∀ t ∈ T, Good t) ∧ T.length ≤ 8193 ∧ 0 < T.length ∧ condF 200 T 0 none = .ok [t] none l ∧ t.kind = 0 := by
  unfold condRead at h
  split at h
  · rename_i T hT
    split at h
    · rename_i hg
      simp only [Bool.and_eq_true, decide_eq_true_eq, List.all_eq_true] at hg
      split at h
      · rename_i t l' hc
        split at h
        · rename_i hk
          injection h with h
          subst h
          exact ⟨T, t, hT, fun t ht => goodB_ok (hg.1.1 t ht), hg.1.2, hg.2, hc, hk⟩
        · cases h
      · cases h
    · cases h
  · cases h
theorem tok_get (ts : List Tok) (i : Nat) (h : i < ts.length) : (cellsOf ts)[i * 3]? = some (.int .i64 ts[i].kind) ∧ (cellsOf ts)[i * 3 + 1]? = some (.string ⟨ts[i].text.toArray⟩) ∧ (cellsOf ts)[i * 3 + 2]? = some (.int .i64 ts[i].place) := by
  induction ts generalizing i with
  | nil => simp at h
  | cons t ts ih =>
    have hc : cellsOf (t :: ts) = .int .i64 t.kind :: .string ⟨t.text.toArray⟩ :: .int .i64 t.place :: cellsOf ts := rfl
    rw [hc]
    cases i with
    | zero => simp
    | succ i =>
      have := ih i (by simpa using h)
      rw [show (i + 1) * 3 = i * 3 + 3 by omega]
      simpa using this
theorem rr_of {w1 : World} {T : List Tok} {cap G B : Nat} {cur : Array Value} (hg : ∀ t ∈ T, Good t) (hlen : T.length ≤ 8193) (hG : w1.heap[G]? = some (.cells cur 83 (0, 0))) (hcap : T.length ≤ cap) (hm : cap ≤ maxLen) (htk : cur.toList.take (T.length * 3) = cellsOf T) (hB : B ≤ w1.heap.size) :
    RR B G (w1.alloc (.cells #[.slice (some ⟨G, 0, none⟩) T.length cap, .int .i64 0, .int .i64 0, .int .i64 0, .int .i64 0] 80)) w1.heap.size T 0 := by
  refine ⟨⟨T.length, cap, 0, cur, heap_alloc_new _ _, (Chg.of_kept (S := fun _ => False) ((Kept.refl w1).alloc _)).heap hG id, by simp, hcap, hm, hlen, fun i hi => ?_⟩, hB, by omega, hg⟩
  have hcell : ∀ (j : Nat) (u : Value), (cellsOf T)[j]? = some u → cur[j]? = some u := by
    intro j u hj
    rw [← htk, List.getElem?_take] at hj
    split at hj
    · simpa using hj
    · cases hj
  obtain ⟨a, b, c⟩ := tok_get T i hi
  simp only [Nat.zero_add]
  exact ⟨hcell _ _ a, hcell _ _ b, hcell _ _ c⟩
/-- A list of conditions of one's own. -/
def CnOwn (w : World) (B : Nat) (v : Value) (l : List Cn) : Prop := ∃ xs, w.ownsRow B 101 7 v l.length xs ∧ CnCells w B l xs

set_option maxRecDepth 100000 in
set_option maxHeartbeats 4000000 in
theorem Cond_ok {s : ByteArray} {l : List Cn} (w : World) (hs : s.size ≤ 8192) (h : condRead (lst s) = some l) : Calls Try.prog 16 #[.string s] w fun e w' => ∃ v, e = .returned (.tuple #[v, .int .i64 0, .int .i64 0]) ∧ Hid (Kept w w' ∧ CnOwn w' w.heap.size v l) := by
  obtain ⟨T, tE, hT, hg, h8, h0, hc, hk⟩ := condRead_ok h
  have HL := Lib.hid (Lex.rLex_any s w T hs hT)
  have Hc := Lib.hid hc
  have Hg := Lib.hid hg
  have Hk := Lib.hid hk
  have hE : (0 : Nat) < T.length := h0
  clear h hT hg hc hk hs
  go_enter Try.func16, Try.ntmps16
  go_upto_region 4 with (go_at_call 30; refine (HL.out).mono ?_; rintro e w1 ⟨v, rfl, H1⟩)
  obtain ⟨g, cap, cur, hv, hg3, hG, hcap, hm, -, htk⟩ : ∃ g cap cur, v = .slice (some ⟨g, 0, none⟩) T.length cap ∧ w.heap.size ≤ g ∧ w1.heap[g]? = some (.cells cur 83 (0, 0)) ∧ T.length ≤ cap ∧ cap ≤ maxLen ∧ cur.size = cap * 3 ∧ cur.toList.take (T.length * 3) = cellsOf T := by
    rcases H1.out.2.2 with ⟨_, hn⟩ | h
    · omega
    · exact h
  subst hv
  have HR := Lib.hid (rr_of (B := w.heap.size) Hg.out h8 hG hcap hm htk H1.out.1.size)
  have K1 := Lib.hid (H1.out.1.alloc (.cells #[.slice (some ⟨g, 0, none⟩) T.length cap, .int .i64 0, .int .i64 0, .int .i64 0, .int .i64 0] 80))
  have hsz := H1.out.1.size
  clear hg3 hG hcap hm htk H1
  go_upto_region 5 with fail
  generalize w1.alloc (.cells #[.slice (some ⟨g, 0, none⟩) T.length cap, .int .i64 0, .int .i64 0, .int .i64 0, .int .i64 0] 80) = w2 at *
  have HX := Lib.hid ((cond_all 200).2.2 w2 w2 (COut.refl (v := .slice none 0 0) (l := []) ⟨HR.out, ⟨[], World.ownsRow_nil _ _ _ _, rfl⟩, by simpa using h8⟩) Hc.out)
  go_upto_region 6 with (go_at_call 31; refine (HX.out).mono ?_; rintro e w3 ⟨v3, rfl, H3⟩)
  obtain ⟨n, cp, p, c0, c1, c2, c3, f1, f2, hp, hn, hm, h8', hr, hG, k0, k1, k2⟩ := H3.out.to.rd.head
  rw [Hk.out] at k0
  simp only [maxLen] at hm
  obtain ⟨a3, b3, hf3⟩ := H3.out.to.form
  subst hf3
  go_region
  go_wp2
  go_ret3
  have hK : Kept w w3 := ((Chg.of_kept (S := fun k => k = w1.heap.size) K1.out).then (H3.out.chg.mono fun i _ hs => by
    rcases hs with hs | hs
    · exact hs
    · simp [Value.ownBlock] at hs)).kept fun i hi e => by omega
  obtain ⟨xs, x1, x2⟩ := H3.out.to.own
  have hd : Chg (fun _ => False) w3 w3.drew := Chg.of_kept (Kept.refl w3).drew
  exact ⟨_, rfl, Lib.hid ⟨hK.drew, xs, own_stay x1 hd (fun _ _ => id), x2.chg hd (fun _ _ _ => id)⟩⟩
end Go.Proofs.Ythjnkjekidagiaa.Rpr
