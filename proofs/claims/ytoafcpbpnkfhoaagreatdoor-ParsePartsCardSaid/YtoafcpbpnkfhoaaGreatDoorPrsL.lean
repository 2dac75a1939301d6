/-
  What tokens of a short text are; the reader at a text's first token; what the text comes to (Top, topF).
-/
import Derived.Test.YtoafcpbpnkfhoaaGreatDoorPrsK
import Derived.Test.YtoafcpbpnkfhoaaGreatDoorLexQ
namespace Go.Proofs.YtoafcpbpnkfhoaaGreatDoor.Prs
open Go.RowKit
open Lex (Tok Laid lst lexF lexTo cellsOf)

theorem lexTo_small (f : Nat) (l : List UInt8) (k : Nat) (ts : List Tok) (h : lexTo f l k = .toks ts) : ∀ t ∈ ts, t.text.length ≤ l.length ∧ t.place ≤ k + l.length ∧ t.kind ≤ 4 := by
  induction f generalizing l k ts with
  | zero => simp [lexTo] at h
  | succ f ih =>
    unfold lexTo at h
    have hg := Lex.gap_le false l
    split at h
    · cases h
    · injection h with h; subst h
      intro t ht
      simp only [List.mem_singleton] at ht
      subst ht
      exact ⟨by simp, by simp; omega, by simp⟩
    · rename_i q n hsc
      have hs := Lex.scan_le _ _ _ hsc
      cases hr : lexTo f (l.drop (Lex.gapG false l + n)) (k + Lex.gapG false l + n) with
      | bad b a => rw [hr] at h; cases h
      | toks us =>
        rw [hr] at h
        simp only [Lex.Lx.pre] at h
        injection h with h
        subst h
        intro t ht
        simp only [List.cons_append, List.nil_append, List.mem_cons] at ht
        have h1 := hs.1
        simp only [List.length_drop] at h1
        rcases ht with rfl | ht
        · exact ⟨by simp; omega, by simp; omega, by have := hs.2.2.2; simpa using this⟩
        · have := ih _ _ _ hr t ht
          simp only [List.length_drop] at this
          exact ⟨by omega, by omega, this.2.2⟩
theorem lexTo_len (f : Nat) (l : List UInt8) (k : Nat) (ts : List Tok) (h : lexTo f l k = .toks ts) : ts.length ≤ f := by
  induction f generalizing l k ts with
  | zero => simp [lexTo] at h
  | succ f ih =>
    unfold lexTo at h
    split at h
    · cases h
    · injection h with h; subst h; simp
    · rename_i q n hsc
      cases hr : lexTo f (l.drop (Lex.gapG false l + n)) (k + Lex.gapG false l + n) with
      | bad b a => rw [hr] at h; cases h
      | toks us =>
        rw [hr] at h
        simp only [Lex.Lx.pre] at h
        injection h with h
        subst h
        have := ih _ _ _ hr
        simp; omega
theorem lex_len {l : List UInt8} {ts : List Tok} (h : lexF l = .toks ts) : ts.length ≤ 8193 ∧ 0 < ts.length := by
  unfold lexF at h
  split at h
  · cases h
  · have := lexTo_len _ _ _ _ h
    have h2 := Lex.lexTo_ne _ _ _ _ h
    exact ⟨by omega, List.length_pos_iff.2 h2⟩
theorem lex_small {l : List UInt8} {ts : List Tok} (h : lexF l = .toks ts) : l.length ≤ 8192 ∧ ∀ t ∈ ts, t.text.length ≤ 8192 ∧ t.place ≤ 8192 ∧ t.kind ≤ 4 := by
  unfold lexF at h
  split at h
  · cases h
  · rename_i hl
    refine ⟨by omega, fun t ht => ?_⟩
    have := lexTo_small _ _ _ _ h t ht
    exact ⟨by omega, by omega, this.2.2⟩
theorem rd_of {w1 : World} {pL pW : Addr} {l : List UInt8} {ts : List Tok} {cap G : Nat} {cur : Array Value} {B : Nat} (hL : Laid w1 pL pW) (h : lexF l = .toks ts) (hlen : ts.length ≤ 8193) (hG : w1.heap[G]? = some (.cells cur 62 (0, 0))) (hcap : ts.length ≤ cap) (hm : cap ≤ maxLen) (htk : cur.toList.take (ts.length * 3) = cellsOf ts)
    (hB : B ≤ w1.heap.size) (h1 : pL.block < B) (h2 : pW.block < B) (h3 : 0 < B ∧ 1 < B ∧ 2 < B) :
    Rd B G (w1.alloc (.cells #[.slice (some ⟨G, 0, none⟩) ts.length cap, .int .i64 0, .int .i64 0, .int .i64 0, .int .i64 0] 57)) w1.heap.size ts 0 none := by
  refine ⟨⟨ts.length, cap, 0, cur, heap_alloc_new _ _, (Below.heap_alloc _ _ _ (box_lt hG)).trans hG, by simp, hcap, hm, hlen, fun i hi => ?_⟩, hB, by simpa using hlen, (lex_small h).2, pL, pW, hL.kept ((Kept.refl w1).alloc _), h1, h2, h3⟩
  have hcell : ∀ (j : Nat) (u : Value), (cellsOf ts)[j]? = some u → cur[j]? = some u := by
    intro j u hj
    rw [← htk, List.getElem?_take] at hj
    split at hj
    · simpa using hj
    · cases hj
  obtain ⟨a, b, c⟩ := Lex.cells_get ts i hi
  simp only [Nat.zero_add]
  exact ⟨hcell _ _ a, hcell _ _ b, hcell _ _ c⟩

theorem CnCells.base {w : World} {B B' : Nat} {l : List Cn} {xs : List Value} (h : CnCells w B l xs) (hB : B' ≤ B) : CnCells w B' l xs := by
  induction l generalizing xs with
  | nil => exact h
  | cons c l ih =>
    obtain ⟨x, y, rest, e, h1, h2, h3⟩ := h
    exact ⟨x, y, rest, e, own_from h1 (fun g hg => by have := (h1.lt g hg).1; omega), own_from h2 (fun g hg => by have := (h2.lt g hg).1; omega), ih h3⟩
theorem CnOwn.chg {S : Nat → Prop} {w w' : World} {B : Nat} {v : Value} {l : List Cn} (h : CnOwn w B v l) (hc : Chg S w w') (hn : ∀ g c t, w.heap[g]? = some (.cells c t (0, 0)) → t = 142 ∨ t = 152 → ¬ S g) : CnOwn w' B v l := by
  obtain ⟨xs, h1, h2⟩ := h
  exact ⟨xs, own_chg h1 hc (fun g hg => by obtain ⟨c, hc⟩ := own_ty h1 hg; exact hn g c _ hc (.inl rfl)), h2.chg hc (fun g c hg => hn g c _ hg (.inr rfl))⟩
theorem CnOwn.kept {w w' : World} {B : Nat} {v : Value} {l : List Cn} (h : CnOwn w B v l) (hk : Kept w w') : CnOwn w' B v l := h.chg (S := fun _ => False) (Chg.of_kept hk) (fun _ _ _ _ _ => id)
theorem Rd.lower {B B' G : Nat} {w : World} {r : Nat} {us : List Tok} {d : Nat} {dp : Option Nat} (h : Rd B G w r us d dp) (hB : B' ≤ B) {pL pW : Addr} (hl : Laid w pL pW) (h1 : pL.block < B') (h2 : pW.block < B') (h3 : 0 < B' ∧ 1 < B' ∧ 2 < B') : Rd B' G w r us d dp :=
  ⟨h.lie, Nat.le_trans hB h.above, h.low, h.small, pL, pW, hl, h1, h2, h3⟩
attribute [local go_sem] tok0 tok1 tok2
set_option maxRecDepth 100000 in
theorem finish_syn {B G r d : Nat} {dp : Option Nat} {t : Tok} {us : List Tok} (w : World) (h : Rd B G w r (t :: us) d dp) (hk : t.kind ≠ 0) : Calls Tryz.prog 11 #[.pointer (some ⟨r, 0, none⟩)] w fun e w' => e = .panicked [{ v := faultV 5 t.place, recovered := false }] ∧ Hid (Kept w w') := by
  have HP := Lib.hid (peek_any w h)
  have HR := Lib.hid h
  have hb : ((t.kind : Int) != 0) = true := by rw [bne_iff_ne]; omega
  clear h hk
  go_enter Tryz.func11, Tryz.ntmps11
  go_upto_region 1 with (go_at_call 14; refine (HP.out).mono ?_; rintro e w1 ⟨rfl, Hk⟩)
  have HN := Lib.hid (refuse_any w1 (HR.out.kept Hk.out))
  go_wp2_with (go_at_call 17; refine (HN.out).mono ?_; rintro e w2 ⟨rfl, Hn⟩)
  exact ⟨rfl, rfl, Lib.hid (Hk.out.trans Hn.out)⟩
/-- What parse.Cond comes to at a text whose tokens are ts. -/
inductive Top (α : Type) where
  | ok (a : α)
  | err (no place : Nat)
def topF {α : Type} : Res α → Option (Top α)
  | .out => none
  | .bad k => some (.err 5 k)
  | .ok [] _ _ => none
  | .ok (t :: _) dp a => some (if t.kind ≠ 0 then .err 5 t.place else match dp with | some k => .err 6 k | none => .ok a)
end Go.Proofs.YtoafcpbpnkfhoaaGreatDoor.Prs
