/-
  The example of layer 3's statements (their own 'awake').
-/
import Derived.Test.YtoafcpbpnkfhoaaGreatDoorPrsQ
namespace Go.Proofs.YtoafcpbpnkfhoaaGreatDoor.Prs
open Go.RowKit
open Lex (Tok Laid lst lexF)

theorem said_none : FnSaid (fun _ _ _ => none) := fun _ _ h => by cases h
theorem awake_lex : lexF (lst ⟨#[103, 108, 111, 98, 97, 108, 32, 120, 32, 58, 32, 105, 51, 50, 32, 61, 32, 51, 59]⟩) = .toks [⟨3, [103, 108, 111, 98, 97, 108], 0⟩, ⟨1, [120], 7⟩, ⟨4, [58], 9⟩, ⟨3, [105, 51, 50], 11⟩, ⟨4, [61], 15⟩, ⟨2, [51], 17⟩, ⟨4, [59], 18⟩, ⟨0, [], 19⟩] := by rfl
theorem awake_prog : progF (fun _ _ _ => none) 0 2 [⟨3, [103, 108, 111, 98, 97, 108], 0⟩, ⟨1, [120], 7⟩, ⟨4, [58], 9⟩, ⟨3, [105, 51, 50], 11⟩, ⟨4, [61], 15⟩, ⟨2, [51], 17⟩, ⟨4, [59], 18⟩, ⟨0, [], 19⟩] none [] [] = some ([⟨0, [], 19⟩], none, [⟨[120], 5, 0, 3, 7⟩], []) := by rfl
theorem gl_cell {w : World} {B : Nat} {v : Value} {l : List Gl} (h : GlOwn w B v l) (i : Nat) (hi : i < l.length) : ∃ g c, v = .slice (some ⟨g, 0, none⟩) l.length c ∧ w.cell? ⟨g, i * 5, none⟩ = some (.string ⟨l[i].name.toArray⟩) ∧ w.cell? ⟨g, i * 5 + 3, none⟩ = some (.int .i64 l[i].init) := by
  rcases h.2 with ⟨_, hn⟩ | ⟨g, cap, cur, hv, hb, hg, hc, hm, hsz, htk⟩
  · omega
  · have hcell : ∀ (j : Nat) (u : Value), (glCells l)[j]? = some u → w.cell? ⟨g, j, none⟩ = some u := by
      intro j u hj
      rw [← htk, List.getElem?_take] at hj
      split at hj
      · simpa [World.cell?, hg] using hj
      · cases hj
    have hget : ∀ (l : List Gl) (i : Nat) (hi : i < l.length), (glCells l)[i * 5]? = some (.string ⟨l[i].name.toArray⟩) ∧ (glCells l)[i * 5 + 3]? = some (.int .i64 l[i].init) := by
      intro l
      induction l with
      | nil => intro i hi; simp at hi
      | cons a l ih =>
        intro i hi
        have hcs : glCells (a :: l) = .string ⟨a.name.toArray⟩ :: .int .i64 a.ty :: .int .i64 a.size :: .int .i64 a.init :: .int .i64 a.place :: glCells l := rfl
        rw [hcs]
        cases i with
        | zero => simp
        | succ i =>
          have := ih i (by simpa using hi)
          rw [show (i + 1) * 5 = i * 5 + 5 by omega]
          simpa using this
    exact ⟨g, cap, hv, hcell _ _ (hget l i hi).1, hcell _ _ (hget l i hi).2⟩
set_option maxRecDepth 100000 in
set_option maxHeartbeats 2000000 in
theorem awake_any (w : World) (pL pW : Addr) (hL : Laid w pL pW) : Calls Tryz.prog 7 #[] w fun e w' => e = .returned (.bool true) ∧ Hid (Kept w w') := by
  have HC : Hid (Calls Tryz.prog 5 #[.string ⟨#[103, 108, 111, 98, 97, 108, 32, 120, 32, 58, 32, 105, 51, 50, 32, 61, 32, 51, 59]⟩] w (ProgOk w [⟨[120], 5, 0, 3, 7⟩] [])) := Lib.hid (Program_toks said_none w pL pW hL (by decide) awake_lex awake_prog rfl)
  clear hL
  go_enter Tryz.func7, Tryz.ntmps7
  go_upto_region 2 with (go_at_call 5; refine (HC.out).mono ?_; rintro e w1 ⟨ag, cg, af, cf, rfl, H1⟩)
  obtain ⟨g, c, hv, _, h3⟩ := gl_cell H1.out.2.1 0 (by simp)
  injection hv with hv1 hv2 hv3
  subst hv1
  simp at h3
  have hgw : g < w1.heap.size := World.block_lt_of_cell? _ _ h3
  go_wp2_with (go_at_call 6; refine (Lex.num_any _ _).mono ?_; rintro e w' ⟨rfl, rfl⟩)
  go_ret
  exact ⟨rfl, Lib.hid (H1.out.1.alloc _)⟩
end Go.Proofs.YtoafcpbpnkfhoaaGreatDoor.Prs
