/-
  Proved: the statement 'MemoryRunsSaid' of the seat: for every input that law returns true, and each argument reads afterwards as it read before. No condition of ours.
  The frame follows the guide's shell; the walk and the contracts that it uses are ours.
-/
import Derived.Test.YtkdfkibpoccmlaaRows
import Derived.WalkKit
import Derived.ProofKit
import Derived.OpenShut
import Derived.Test.YtkdfkibpoccmlaaBase
import Derived.Test.YtkdfkibpoccmlaaOpen
import Derived.Deep.RegionHeld3
import Derived.Test.YtkdfkibpoccmlaaMemS
import Derived.ShutString
import Derived.ChangeOld
import Derived.Below
namespace Go.Proofs.Ytkdfkibpoccmlaa.memoryRuns
open Go.ChangeShapes Go.WideShapes Go.ChangeAt Go.RowKit
open Go.ChangeMaps (open_string shut_string)
set_option linter.unusedVariables false

theorem own : ownKnob Try.prog.godebug = none := by kernel_rfl
theorem laidOut : laidOutB Try.prog = true := by kernel_rfl

open Mem

theorem st_start (w : World) : St w ((w.alloc (.cells #[.slice none 0 0] 51)).alloc (.cells #[.slice none 0 0] 29)) w.heap.size (w.heap.size + 1) [] [] := by
  have h2 := heap_alloc_new (w.alloc (.cells #[.slice none 0 0] 51)) (.cells #[.slice none 0 0] 29)
  rw [show (w.alloc (.cells #[.slice none 0 0] 51)).heap.size = w.heap.size + 1 by simp] at h2
  refine ⟨.slice none 0 0, .slice none 0 0, [], [], ((Kept.refl w).alloc _).alloc _, (new_at w w.heap.size (Nat.le_refl _)).kept ((Kept.refl _).alloc _), rfl, ⟨by omega, h2, ⟨rfl, .inl ⟨rfl, rfl⟩⟩, (by intro x hx; cases hx), List.nodup_nil, (by intro x hx; cases hx)⟩, rfl, ?_⟩
  intro k h1 h3
  have e1 : k = w.heap.size := by
    rcases h1 with h | h | ⟨x, hx, _⟩
    · exact h
    · simp [Value.ownBlock] at h
    · cases hx
  have e2 : k = w.heap.size + 1 := by
    rcases h3 with h | h | ⟨x, hx, _⟩
    · exact h
    · simp [Value.ownBlock] at h
    · cases hx
  omega
theorem act_at {w : World} {a0 : Option Addr} {len0 cap0 : Nat} (h : IsInts 4 w a0 len0 cap0) (k : Nat) (hk : k < len0) : ∃ b off, a0 = some ⟨b, off, none⟩ ∧ len0 ≤ cap0 ∧ cap0 ≤ maxLen ∧ b < w.heap.size ∧ ∃ n0 n1 n2 n3 : Int, w.cell? ⟨b, off + k * 4, none⟩ = some (.int .i64 n0) ∧ w.cell? ⟨b, off + k * 4 + 1, none⟩ = some (.int .i64 n1) ∧ w.cell? ⟨b, off + k * 4 + 2, none⟩ = some (.int .i64 n2) ∧ w.cell? ⟨b, off + k * 4 + 3, none⟩ = some (.int .i64 n3) ∧
    (-9223372036854775808 ≤ n2 ∧ n2 ≤ 9223372036854775807) := by
  rcases h with ⟨_, h, _⟩ | ⟨x, h1, h2, h3, h4⟩
  · omega
  · obtain ⟨b, off, spot⟩ := x
    obtain ⟨z, cz, _⟩ := h4 0 (by omega) 0 (by omega)
    have hspot : spot = none := by simpa [Addr.add] using World.cell?_spot cz
    subst hspot
    obtain ⟨n0, c0, _⟩ := h4 k hk 0 (by omega)
    obtain ⟨n1, c1, _⟩ := h4 k hk 1 (by omega)
    obtain ⟨n2, c2, b2⟩ := h4 k hk 2 (by omega)
    obtain ⟨n3, c3, _⟩ := h4 k hk 3 (by omega)
    rw [Go.WideShapes.add_plain] at c0 c1 c2 c3
    refine ⟨b, off, h1, h2, h3, ?_, n0, n1, n2, n3, c0, c1, c2, c3, bounds_i64 b2⟩
    unfold World.cell? at c0
    by_cases hb : b < w.heap.size
    · exact hb
    · rw [Array.getElem?_eq_none (by simpa using hb)] at c0; simp at c0
theorem own_form {w : World} {base n : Nat} {v : Value} {xs : List Value} (h : w.ownsRow base 3 1 v n xs) : ∃ a c, v = .slice a n c := by
  rcases h.2 with ⟨h1, h2⟩ | ⟨g, cap, cs, h1, _⟩
  · exact ⟨none, 0, by rw [h1, h2]⟩
  · exact ⟨_, _, h1⟩
theorem own_kept {w w' : World} {base n : Nat} {v : Value} {xs : List Value} (h : w.ownsRow base 3 1 v n xs) (hk : Kept w w') : w'.ownsRow base 3 1 v n xs :=
  own_chg (S := fun _ => False) h (Chg.of_kept hk) (fun _ _ => id)
theorem setT_len (T : List Row) (id at_ v : Int) : (setT T id at_ v).length = T.length := by
  unfold setT
  split
  · split
    · rw [List.length_set]
    · rfl
  · rfl

/-! The walk: the Go text returns true and writes nothing that was there. -/
set_option maxRecDepth 100000 in
set_option maxHeartbeats 4000000 in
theorem walk (a0 : Option Addr) (len0 cap0 : Nat) (w : World) (w0 : IsInts 4 w a0 len0 cap0) :
    Calls Try.prog 3 #[.slice a0 len0 cap0] w fun e w' => e = .returned (.bool true) ∧ Below w.heap.size w w' := by
  have HR := Lib.hid w0
  clear w0
  by_cases hn2 : 120 < len0
  · go_enter Try.func3, Try.ntmps3
    go_wp2_with (first | (go_at_call 7; refine (awake_any _).mono ?_; rintro e w4 ⟨rfl, H4⟩))
    go_ret
    exact ⟨rfl, H4.out⟩
  have hn3 : len0 ≤ 120 := by omega
  clear hn2
  have HS0 := Lib.hid (st_start w)
  go_enter Try.func3, Try.ntmps3
  go_wp2_with (first | (go_at_call 8; refine (new_any _).mono ?_; rintro e w' ⟨rfl, rfl⟩))
  go_loopw [5, 3] (fun i pv wz => ∃ (k pm : Nat) (wx : World) (T : List Row), i = .int .i64 (k : Int) ∧ pv = .pointer (some ⟨pm, 0, none⟩) ∧ wx = wz ∧ k ≤ len0 ∧ T.length ≤ k ∧ Small T ∧ Hid (St w wx pm (w.heap.size + 1) T T)) (fun i _ _ => len0 - (intOf i).toNat)
  case atStart => exact ⟨0, _, _, [], rfl, rfl, rfl, by omega, by simp, Small.nil, HS0⟩
  case round =>
    obtain ⟨k, pm, wx, T, rfl, rfl, rfl, hk, hTk, hSm, HS⟩ := hrel
    clear HS0
    have HSm := Lib.hid hSm
    clear hSm
    by_cases hlt : k < len0
    case pos =>
      obtain ⟨b, off, rfl, r1, r2, hxs, n0, n1, n2, n3, c0, c1, c2, c3, b2⟩ := act_at HR.out k hlt
      have hkw : Kept w wx := by obtain ⟨_, _, _, _, hh⟩ := HS.out; exact hh.1
      have c0' : wx.cell? ⟨b, off + k * 4, none⟩ = some (.int .i64 n0) := (World.cell?_of_block (hkw.block _ hxs)).trans c0
      have c1' : wx.cell? ⟨b, off + k * 4 + 1, none⟩ = some (.int .i64 n1) := (World.cell?_of_block (hkw.block _ hxs)).trans c1
      have c2' : wx.cell? ⟨b, off + k * 4 + 2, none⟩ = some (.int .i64 n2) := (World.cell?_of_block (hkw.block _ hxs)).trans c2
      have c3' : wx.cell? ⟨b, off + k * 4 + 3, none⟩ = some (.int .i64 n3) := (World.cell?_of_block (hkw.block _ hxs)).trans c3
      simp only [maxLen] at r2
      have HB := Lib.hid (heap_alloc_new wx (.cells #[.int .i64 n0, .int .i64 n1, .int .i64 n2, .int .i64 n3] 31))
      clear c0 c1 c2 c3 hxs hkw
      -- ROUND
      rcases (show n0 = 0 ∨ n0 = 1 ∨ n0 = 2 ∨ n0 = 3 ∨ n0 = 4 ∨ n0 = 5 ∨ n0 = 6 ∨ n0 = 7 ∨ (n0 < 0 ∨ 7 < n0) by omega) with rfl | rfl | rfl | rfl | rfl | rfl | rfl | rfl | ho
      · go_wp2
        go_region_held3 (fun w' => w'.cell? ⟨wx.heap.size, 1, none⟩ = some (.int .i64 n1) ∧ w'.cell? ⟨wx.heap.size, 2, none⟩ = some (.int .i64 n2))
          (first | go_keep | exact ⟨x11, x12⟩ | exact ⟨x21, x22⟩)
          (first | (go_at_call 9; refine (st_add (HS.out.kept (by repeat (first | exact Kept.refl _ | apply Kept.drew | apply Kept.drewN | apply Kept.alloc))) (by omega) _ _ (by omega)).mono ?_; rintro e w1 ⟨rfl, H1⟩; have q1 := H1.out.2 _ _ (by exact HB.out); have HB1 := Lib.hid q1; have x11 := box_cell q1 1 _ rfl; have x12 := box_cell q1 2 _ rfl; have x13 := box_cell q1 3 _ rfl; clear q1) | (go_at_call 10; refine (st_radd (H1.out.1.kept (by repeat (first | exact Kept.refl _ | apply Kept.drew | apply Kept.drewN | apply Kept.alloc))) (by omega) _ _ (by omega)).mono ?_; rintro e w2 ⟨rfl, H2⟩; have q2 := H2.out.2 _ _ (by exact HB1.out); have HB2 := Lib.hid q2; have x21 := box_cell q2 1 _ rfl; have x22 := box_cell q2 2 _ rfl; have x23 := box_cell q2 3 _ rfl; clear q2))
        all_goals
          go_wp2
          have HSx : Hid (St w w2 pm (w.heap.size + 1) (T ++ [(n1, noughts n2)]) (T ++ [(n1, noughts n2)])) := Lib.hid H2.out.1
          obtain ⟨hpr, la, lc, cl⟩ := st_list HSx.out
          have hUl : (T ++ [(n1, noughts n2)]).length ≤ k + 1 := by simp; omega
          have HSn : Hid (Small (T ++ [(n1, noughts n2)])) := Lib.hid (HSm.out.add n1 n2)
          generalize T ++ [(n1, noughts n2)] = U at *
          go_quiet (first | (go_at_call 18; exact quiet_same0 (st_len (HSx.out.kept ((Kept.refl _).drewN _)))))
          go_wp2
          exact ⟨⟨k + 1, pm, _, U, by simp, rfl, rfl, by omega, hUl, HSn.out, Lib.hid (HSx.out.kept ((Kept.refl _).drewN _))⟩, by simp [intOf]; omega⟩
      · go_wp2
        go_region_held3 (fun w' => w'.cell? ⟨wx.heap.size, 1, none⟩ = some (.int .i64 n1) ∧ w'.cell? ⟨wx.heap.size, 2, none⟩ = some (.int .i64 n2))
          (first | go_keep | exact ⟨x11, x12⟩ | exact ⟨x21, x22⟩)
          (first | (go_at_call 9; refine (st_add (HS.out.kept (by repeat (first | exact Kept.refl _ | apply Kept.drew | apply Kept.drewN | apply Kept.alloc))) (by omega) _ _ (by omega)).mono ?_; rintro e w1 ⟨rfl, H1⟩; have q1 := H1.out.2 _ _ (by exact HB.out); have HB1 := Lib.hid q1; have x11 := box_cell q1 1 _ rfl; have x12 := box_cell q1 2 _ rfl; have x13 := box_cell q1 3 _ rfl; clear q1) | (go_at_call 10; refine (st_radd (H1.out.1.kept (by repeat (first | exact Kept.refl _ | apply Kept.drew | apply Kept.drewN | apply Kept.alloc))) (by omega) _ _ (by omega)).mono ?_; rintro e w2 ⟨rfl, H2⟩; have q2 := H2.out.2 _ _ (by exact HB1.out); have HB2 := Lib.hid q2; have x21 := box_cell q2 1 _ rfl; have x22 := box_cell q2 2 _ rfl; have x23 := box_cell q2 3 _ rfl; clear q2))
        all_goals
          go_wp2
          have HSx : Hid (St w w2 pm (w.heap.size + 1) (T ++ [(n1, noughts n2)]) (T ++ [(n1, noughts n2)])) := Lib.hid H2.out.1
          obtain ⟨hpr, la, lc, cl⟩ := st_list HSx.out
          have hUl : (T ++ [(n1, noughts n2)]).length ≤ k + 1 := by simp; omega
          have HSn : Hid (Small (T ++ [(n1, noughts n2)])) := Lib.hid (HSm.out.add n1 n2)
          generalize T ++ [(n1, noughts n2)] = U at *
          go_quiet (first | (go_at_call 18; exact quiet_same0 (st_len (HSx.out.kept ((Kept.refl _).drewN _)))))
          go_wp2
          exact ⟨⟨k + 1, pm, _, U, by simp, rfl, rfl, by omega, hUl, HSn.out, Lib.hid (HSx.out.kept ((Kept.refl _).drewN _))⟩, by simp [intOf]; omega⟩
      · go_wp2
        go_region_held3 (fun w' => w'.cell? ⟨wx.heap.size, 1, none⟩ = some (.int .i64 n1) ∧ w'.cell? ⟨wx.heap.size, 2, none⟩ = some (.int .i64 n2) ∧ w'.cell? ⟨wx.heap.size, 3, none⟩ = some (.int .i64 n3))
          (first | go_keep | exact ⟨x11, x12, x13⟩ | exact ⟨x21, x22, x23⟩)
          (first | (go_at_call 11; refine (st_set (HS.out.kept (by repeat (first | exact Kept.refl _ | apply Kept.drew | apply Kept.drewN | apply Kept.alloc))) _ _ _).mono ?_; rintro e w1 ⟨rfl, H1⟩; have q1 := H1.out.2 _ _ (by exact HB.out); have HB1 := Lib.hid q1; have x11 := box_cell q1 1 _ rfl; have x12 := box_cell q1 2 _ rfl; have x13 := box_cell q1 3 _ rfl; clear q1) | (go_at_call 12; refine (st_rset (H1.out.1.kept (by repeat (first | exact Kept.refl _ | apply Kept.drew | apply Kept.drewN | apply Kept.alloc))) _ _ _).mono ?_; rintro e w2 ⟨rfl, H2⟩; have q2 := H2.out.2 _ _ (by exact HB1.out); have HB2 := Lib.hid q2; have x21 := box_cell q2 1 _ rfl; have x22 := box_cell q2 2 _ rfl; have x23 := box_cell q2 3 _ rfl; clear q2))
        all_goals
          go_wp2
          have HSx : Hid (St w w2 pm (w.heap.size + 1) (setT T n1 n2 n3) (setT T n1 n2 n3)) := Lib.hid H2.out.1
          obtain ⟨hpr, la, lc, cl⟩ := st_list HSx.out
          have hUl : (setT T n1 n2 n3).length ≤ k + 1 := by rw [setT_len]; omega
          have HSn : Hid (Small (setT T n1 n2 n3)) := Lib.hid (HSm.out.set n1 n2 n3)
          generalize setT T n1 n2 n3 = U at *
          go_quiet (first | (go_at_call 18; exact quiet_same0 (st_len (HSx.out.kept ((Kept.refl _).drewN _)))))
          go_wp2
          exact ⟨⟨k + 1, pm, _, U, by simp, rfl, rfl, by omega, hUl, HSn.out, Lib.hid (HSx.out.kept ((Kept.refl _).drewN _))⟩, by simp [intOf]; omega⟩
      · go_wp2
        go_region_held3 (fun w' => w'.cell? ⟨wx.heap.size, 1, none⟩ = some (.int .i64 n1) ∧ w'.cell? ⟨wx.heap.size, 2, none⟩ = some (.int .i64 n2) ∧ w'.cell? ⟨wx.heap.size, 3, none⟩ = some (.int .i64 n3))
          (first | go_keep | exact ⟨x11, x12, x13⟩ | exact ⟨x21, x22, x23⟩)
          (first | (go_at_call 11; refine (st_set (HS.out.kept (by repeat (first | exact Kept.refl _ | apply Kept.drew | apply Kept.drewN | apply Kept.alloc))) _ _ _).mono ?_; rintro e w1 ⟨rfl, H1⟩; have q1 := H1.out.2 _ _ (by exact HB.out); have HB1 := Lib.hid q1; have x11 := box_cell q1 1 _ rfl; have x12 := box_cell q1 2 _ rfl; have x13 := box_cell q1 3 _ rfl; clear q1) | (go_at_call 12; refine (st_rset (H1.out.1.kept (by repeat (first | exact Kept.refl _ | apply Kept.drew | apply Kept.drewN | apply Kept.alloc))) _ _ _).mono ?_; rintro e w2 ⟨rfl, H2⟩; have q2 := H2.out.2 _ _ (by exact HB1.out); have HB2 := Lib.hid q2; have x21 := box_cell q2 1 _ rfl; have x22 := box_cell q2 2 _ rfl; have x23 := box_cell q2 3 _ rfl; clear q2))
        all_goals
          go_wp2
          have HSx : Hid (St w w2 pm (w.heap.size + 1) (setT T n1 n2 n3) (setT T n1 n2 n3)) := Lib.hid H2.out.1
          obtain ⟨hpr, la, lc, cl⟩ := st_list HSx.out
          have hUl : (setT T n1 n2 n3).length ≤ k + 1 := by rw [setT_len]; omega
          have HSn : Hid (Small (setT T n1 n2 n3)) := Lib.hid (HSm.out.set n1 n2 n3)
          generalize setT T n1 n2 n3 = U at *
          go_quiet (first | (go_at_call 18; exact quiet_same0 (st_len (HSx.out.kept ((Kept.refl _).drewN _)))))
          go_wp2
          exact ⟨⟨k + 1, pm, _, U, by simp, rfl, rfl, by omega, hUl, HSn.out, Lib.hid (HSx.out.kept ((Kept.refl _).drewN _))⟩, by simp [intOf]; omega⟩
      · go_wp2
        go_region_held3 (fun w' => w'.cell? ⟨wx.heap.size, 1, none⟩ = some (.int .i64 n1) ∧ w'.cell? ⟨wx.heap.size, 2, none⟩ = some (.int .i64 n2) ∧ w'.cell? ⟨wx.heap.size, 3, none⟩ = some (.int .i64 n3))
          (first | go_keep | exact ⟨x11, x12, x13⟩ | exact ⟨x21, x22, x23⟩)
          (first | (go_at_call 11; refine (st_set (HS.out.kept (by repeat (first | exact Kept.refl _ | apply Kept.drew | apply Kept.drewN | apply Kept.alloc))) _ _ _).mono ?_; rintro e w1 ⟨rfl, H1⟩; have q1 := H1.out.2 _ _ (by exact HB.out); have HB1 := Lib.hid q1; have x11 := box_cell q1 1 _ rfl; have x12 := box_cell q1 2 _ rfl; have x13 := box_cell q1 3 _ rfl; clear q1) | (go_at_call 12; refine (st_rset (H1.out.1.kept (by repeat (first | exact Kept.refl _ | apply Kept.drew | apply Kept.drewN | apply Kept.alloc))) _ _ _).mono ?_; rintro e w2 ⟨rfl, H2⟩; have q2 := H2.out.2 _ _ (by exact HB1.out); have HB2 := Lib.hid q2; have x21 := box_cell q2 1 _ rfl; have x22 := box_cell q2 2 _ rfl; have x23 := box_cell q2 3 _ rfl; clear q2))
        all_goals
          go_wp2
          have HSx : Hid (St w w2 pm (w.heap.size + 1) (setT T n1 n2 n3) (setT T n1 n2 n3)) := Lib.hid H2.out.1
          obtain ⟨hpr, la, lc, cl⟩ := st_list HSx.out
          have hUl : (setT T n1 n2 n3).length ≤ k + 1 := by rw [setT_len]; omega
          have HSn : Hid (Small (setT T n1 n2 n3)) := Lib.hid (HSm.out.set n1 n2 n3)
          generalize setT T n1 n2 n3 = U at *
          go_quiet (first | (go_at_call 18; exact quiet_same0 (st_len (HSx.out.kept ((Kept.refl _).drewN _)))))
          go_wp2
          exact ⟨⟨k + 1, pm, _, U, by simp, rfl, rfl, by omega, hUl, HSn.out, Lib.hid (HSx.out.kept ((Kept.refl _).drewN _))⟩, by simp [intOf]; omega⟩
      · have HSx : Hid (St w (wx.alloc (.cells #[.int .i64 5, .int .i64 n1, .int .i64 n2, .int .i64 n3] 31)) pm (w.heap.size + 1) T T) := Lib.hid (HS.out.kept ((Kept.refl _).alloc _))
        go_wp2_with (first | (go_at_call 13; refine (st_get HSx.out _ _).mono ?_; rintro e w' ⟨rfl, rfl⟩) | (go_at_call 14; refine (st_rget HSx.out _ _).mono ?_; rintro e w' ⟨rfl, rfl⟩))
        obtain ⟨hpr, la, lc, cl⟩ := st_list HSx.out
        have hUl : T.length ≤ k + 1 := by omega
        have HSn : Hid (Small T) := HSm
        generalize T = U at *
        go_quiet (first | (go_at_call 18; exact quiet_same0 (st_len (HSx.out.kept ((Kept.refl _).drewN _)))))
        go_wp2
        exact ⟨⟨k + 1, pm, _, U, by simp, rfl, rfl, by omega, hUl, HSn.out, Lib.hid (HSx.out.kept ((Kept.refl _).drewN _))⟩, by simp [intOf]; omega⟩
      · go_wp2_with (first | (go_at_call 15; refine (st_cut (HS.out.kept ((Kept.refl _).alloc _)) _).mono ?_; rintro e w1 ⟨rfl, H1⟩; have q1 := H1.out.2 _ _ (by exact HB.out); have HB1 := Lib.hid q1; have x11 := box_cell q1 1 _ rfl; have x12 := box_cell q1 2 _ rfl; have x13 := box_cell q1 3 _ rfl; clear q1) | (go_at_call 16; refine (st_rcut H1.out.1 (by omega) _).mono ?_; rintro e w2 ⟨rfl, H2⟩; have q2 := H2.out.2 _ _ (by exact HB1.out); have HB2 := Lib.hid q2; have x21 := box_cell q2 1 _ rfl; have x22 := box_cell q2 2 _ rfl; have x23 := box_cell q2 3 _ rfl; clear q2))
        have HSx : Hid (St w w2 pm (w.heap.size + 1) (T.take n1.toNat) (T.take n1.toNat)) := Lib.hid H2.out.1
        obtain ⟨hpr, la, lc, cl⟩ := st_list HSx.out
        have hUl : (T.take n1.toNat).length ≤ k + 1 := by rw [List.length_take]; omega
        have HSn : Hid (Small (T.take n1.toNat)) := Lib.hid (HSm.out.take _)
        generalize T.take n1.toNat = U at *
        go_quiet (first | (go_at_call 18; exact quiet_same0 (st_len (HSx.out.kept ((Kept.refl _).drewN _)))))
        go_wp2
        exact ⟨⟨k + 1, pm, _, U, by simp, rfl, rfl, by omega, hUl, HSn.out, Lib.hid (HSx.out.kept ((Kept.refl _).drewN _))⟩, by simp [intOf]; omega⟩
      · go_wp2_with (first | (go_at_call 17; refine (st_copy (HS.out.kept ((Kept.refl _).alloc _)) (by omega) HSm.out).mono ?_; rintro e w1 ⟨q, rfl, H1⟩))
        have HSx : Hid (St w w1 q (w.heap.size + 1) T T) := Lib.hid H1.out.1
        obtain ⟨hpr, la, lc, cl⟩ := st_list HSx.out
        have hUl : T.length ≤ k + 1 := by omega
        have HSn : Hid (Small T) := HSm
        generalize T = U at *
        go_quiet (first | (go_at_call 18; exact quiet_same0 (st_len (HSx.out.kept ((Kept.refl _).drewN _)))))
        go_wp2
        exact ⟨⟨k + 1, q, _, U, by simp, rfl, rfl, by omega, hUl, HSn.out, Lib.hid (HSx.out.kept ((Kept.refl _).drewN _))⟩, by simp [intOf]; omega⟩
      · have d0 : (n0 == 0) = false := by rw [beq_eq_false_iff_ne]; omega
        have d1 : (n0 == 1) = false := by rw [beq_eq_false_iff_ne]; omega
        have d2 : (n0 == 2) = false := by rw [beq_eq_false_iff_ne]; omega
        have d3 : (n0 == 3) = false := by rw [beq_eq_false_iff_ne]; omega
        have d4 : (n0 == 4) = false := by rw [beq_eq_false_iff_ne]; omega
        have d5 : (n0 == 5) = false := by rw [beq_eq_false_iff_ne]; omega
        have d6 : (n0 == 6) = false := by rw [beq_eq_false_iff_ne]; omega
        have d7 : (n0 == 7) = false := by rw [beq_eq_false_iff_ne]; omega
        go_wp2
        have HSx : Hid (St w (wx.alloc (.cells #[.int .i64 n0, .int .i64 n1, .int .i64 n2, .int .i64 n3] 31)) pm (w.heap.size + 1) T T) := Lib.hid (HS.out.kept ((Kept.refl _).alloc _))
        obtain ⟨hpr, la, lc, cl⟩ := st_list HSx.out
        have hUl : T.length ≤ k + 1 := by omega
        have HSn : Hid (Small T) := HSm
        generalize T = U at *
        go_quiet (first | (go_at_call 18; exact quiet_same0 (st_len (HSx.out.kept ((Kept.refl _).drewN _)))))
        go_wp2
        exact ⟨⟨k + 1, pm, _, U, by simp, rfl, rfl, by omega, hUl, HSn.out, Lib.hid (HSx.out.kept ((Kept.refl _).drewN _))⟩, by simp [intOf]; omega⟩
      -- END
    obtain rfl : k = len0 := by omega
    have hT : T.length ≤ 120 := by omega
    clear hlt
    go_wp2
    go_loopw [11] (fun i wz => ∃ (n : Nat) (W : World), i = .int .i64 ((n : Int) - 1) ∧ W = wz ∧ n ≤ T.length + 2 ∧ Hid (St w W pm (w.heap.size + 1) T T)) (fun i _ => T.length + 2 - (intOf i + 1).toNat)
    case atStart => exact ⟨0, _, by simp, rfl, by omega, HS⟩
    case round =>
      clear HS
      obtain ⟨n, W, rfl, rfl, hn, HS⟩ := hrel
      obtain ⟨hpr, la, lc, cl⟩ := st_list HS.out
      by_cases hlt : n ≤ T.length + 1
      case neg =>
        go_wp2_with (first | (go_at_call 7; refine (awake_any _).mono ?_; rintro e w5 ⟨rfl, H5⟩))
        go_ret
        obtain ⟨_, _, _, _, hh⟩ := HS.out
        exact ⟨rfl, hh.1.trans H5.out⟩
      obtain ⟨t0, ht0⟩ : ∃ t0, (blkR T ((n : Int) - 1)).2.1 = t0 := ⟨_, rfl⟩
      obtain ⟨l0, hl0⟩ : ∃ l0, (blkR T ((n : Int) - 1)).2.2 = l0 := ⟨_, rfl⟩
      obtain ⟨b0, hb0⟩ : ∃ b0, (blkR T ((n : Int) - 1)).1 = b0 := ⟨_, rfl⟩
      have HB1 : Hid (∀ W', St w W' pm (w.heap.size + 1) T T → Calls Try.prog 19 #[.pointer (some ⟨pm, 0, none⟩), .int .i64 ((n : Int) - 1)] W' fun e w' => ∃ vs, e = .returned (.tuple #[.agg #[.int .i64 t0, vs], .bool b0]) ∧ Hid (Kept W' w' ∧ w'.ownsRow W'.heap.size 3 1 vs l0.length (ints l0))) := Lib.hid fun W' h => by rw [← ht0, ← hl0, ← hb0]; exact st_block h HSm.out _
      have HB2 : Hid (∀ W', St w W' pm (w.heap.size + 1) T T → Calls Try.prog 20 #[.pointer (some ⟨w.heap.size + 1, 0, none⟩), .int .i64 ((n : Int) - 1)] W' fun e w' => ∃ vs, e = .returned (.tuple #[.agg #[.int .i64 t0, vs], .bool b0]) ∧ Hid (Kept W' w' ∧ w'.ownsRow W'.heap.size 3 1 vs l0.length (ints l0))) := Lib.hid fun W' h => by rw [← ht0, ← hl0, ← hb0]; exact st_rblock h HSm.out _
      clear ht0 hl0 hb0
      go_wp2_with (first | (go_at_call 19; refine (HB1.out _ HS.out).mono ?_; rintro e w1 ⟨vs, rfl, H1⟩; obtain ⟨a1, c1, rfl⟩ := own_form H1.out.2; have N1 := Lib.hid (heap_alloc_new w1 (.cells #[.int .i64 t0, .slice a1 l0.length c1] 40))) | (go_at_call 20; refine (HB2.out _ (HS.out.kept (H1.out.1.alloc _))).mono ?_; rintro e w2 ⟨vs2, rfl, H2⟩; obtain ⟨a2, c2, rfl⟩ := own_form H2.out.2; have q1 := Kept.heap H2.out.1 N1.out; have x0 := box_cell q1 0 _ rfl; have x1 := box_cell q1 1 _ rfl; have lx := box_lt q1; clear q1) | (go_at_call 21; refine (same_any _ t0 t0 (own_kept H1.out.2 (((Kept.refl _).alloc _).trans (H2.out.1.alloc _))) (own_kept H2.out.2 ((Kept.refl _).alloc _))).mono ?_; rintro e w3 ⟨rfl, h3⟩; have H3 := Lib.hid h3; clear h3))
      exact ⟨⟨n + 1, w3, by congr 1; omega, rfl, by omega, Lib.hid (HS.out.kept (((H1.out.1.alloc _).trans (H2.out.1.alloc _)).trans H3.out))⟩, by simp [intOf]; omega⟩

set_option maxRecDepth 100000 in
theorem lifted (os : Os) (started : os.Started) (H : Type) (enc : TypeId × Value → H) :
    ReturnsInHanded {} Try.checked os 3 .any (Rows.memoryRunsSpec.pre6 enc Try.prog Try.f3 Rows.memoryRunsRow.domain false) (Rows.memoryRunsSpec.post enc Try.prog Try.f3 false true false false) := by
  refine returnsInHanded_of_change (C := Try.checked) own started (by kernel_rfl) Try.func3
    (ChangeSpec.witness6 (enc := enc) (C := Try.checked) false ⟨#[], #[.slice none 0 0], []⟩ 8 (by kernel_rfl) (by kernel_rfl) (by kernel_rfl) (by kernel_rfl)) ?_
  intro W base args ds gs before hval0 hW hcnd _
  have hval : ∀ (j : Nat) t v, Try.f3.params[j]? = some t → args[j]? = some v → Value.okWide Try.prog W .any base t v := hval0
  have hW' := hW
  obtain ⟨p, q, hA0, hV, rfl, hfz, hnd⟩ := hW
  have hA : DataW.TrodAll enc Try.prog W 0 (fun _ => true) true Try.f3.params.toList args.toList ds p := hA0
  rw [Try.params3] at hA hval
  obtain ⟨v0, vs0, d0, ds0, p0, q0, hargs, rfl, rfl, h0, r0⟩ := trodAll_cons hA
  obtain ⟨rfl, rfl, rfl⟩ := trodAll_nil r0
  obtain rfl : args = #[v0] := by cases args; simp_all
  obtain ⟨rfl, rfl⟩ := trodVars_none hV
  obtain ⟨a0, len0, cap0, rfl⟩ := okWide_slice Try.underlying22 (hval 0 22 v0 rfl rfl)
  have k0 := h0
  have lt0 : ∀ x ∈ p0, x.block < W.heap.size := by obtain ⟨m, hm⟩ := k0; exact DataW.trod_lt m _ _ _ hm
  have w0 : IsInts 4 W a0 len0 cap0 := by
    obtain ⟨fuel, hf⟩ := h0
    exact open_structs (tf := 3) Try.underlying22 Try.underlying31 Try.underlying3 (by kernel_rfl) (by kernel_rfl) (by intro j f hj; match j, hj with | 0, hj => (injection hj with hj; subst hj; exact ⟨rfl, rfl⟩) | 1, hj => (injection hj with hj; subst hj; exact ⟨rfl, rfl⟩) | 2, hj => (injection hj with hj; subst hj; exact ⟨rfl, rfl⟩) | 3, hj => (injection hj with hj; subst hj; exact ⟨rfl, rfl⟩) | j + 4, hj => exact absurd hj (by simp)) (by simpa [Value.cells] using hf)
  clear hA0 hval0
  refine (walk a0 len0 cap0 W w0).mono fun e W' ⟨he, bel⟩ => ?_
  subst he
  exact ⟨_, rfl, _, _, _, [], _, [], hW', trodAll_mk1 (shut_bool Try.underlying4 _), (trodAll_cons_mk (Below.trod laidOut (by kernel_rfl) (of_decide_eq_true (by kernel_rfl)) k0 bel lt0) trodAll_mk0), rfl, bel.frame _, fun h => by cases h⟩

theorem over : Rows.memoryRunsRow.holds Try.pinned (OpenSpec.ofChange Rows.memoryRunsSpec) :=
  OpenClaim.holds_of_wide 3 Try.f3 rfl rfl rfl rfl rfl rfl rfl ⟨rfl, rfl, rfl, rfl, rfl⟩ rfl rfl rfl rfl rfl (by kernel_rfl) Try.func3 (by kernel_rfl)
    (of_decide_eq_true (by kernel_rfl)) (by unfold Func.isWrapper; first | (rw [if_pos (by decide +kernel)]; kernel_rfl) | (rw [if_neg (by decide +kernel)]; exact ⟨rfl, rfl⟩))
    (fun os started H enc _ => lifted os started H enc)

/-- The statement. -/
theorem proved : Rows.MemoryRunsSaid := over
#print axioms proved
end Go.Proofs.Ytkdfkibpoccmlaa.memoryRuns
