/-
  Contracts of package arith's functions: exact, over, undefined, takes, Do, Rel: each returns what a plain function gives, and leaves the world alone. Conditions: of exact, over and undefined that their numbers are of a type (and, of exact, that they are defined).
-/
import Derived.Test.YthjnkjekidagiaaAriP
import Derived.Test.YthjnkjekidagiaaAriT
namespace Go.Proofs.Ythjnkjekidagiaa.Typ
open Go.RowKit

theorem exact_any (k a b : Int) (w : World) (hk : 6 ≤ k ∧ k ≤ 17) (ha : -2147483648 ≤ a ∧ a ≤ 4294967295) (hb : k ≤ 15 → -2147483648 ≤ b ∧ b ≤ 4294967295) (hd : k = 11 ∨ k = 12 → b ≠ 0) (hs : k = 16 ∨ k = 17 → 0 ≤ b ∧ b ≤ 31) :
    Calls Try.prog 106 #[.int .i64 k, .int .i64 a, .int .i64 b] w fun e w' => e = .returned (.int .i64 (exV k a b)) ∧ w = w' := by
  rcases kinds k with rfl | rfl | rfl | rfl | rfl | rfl | rfl | rfl | rfl | rfl | rfl | rfl | ⟨-, hh⟩
  case' inr.inr.inr.inr.inr.inr.inr.inr.inr.inr.inr.inr => omega
  · replace hb := hb (by omega); clear hd hs hk
    go_enter Try.func106, Try.ntmps106
    go_wp2
    go_ret
    exact ⟨ret_int (by unfold exV; simp), rfl⟩
  · replace hb := hb (by omega); clear hd hs hk
    have hc := com_64 a (by omega)
    go_enter Try.func106, Try.ntmps106
    go_wp2
    go_ret
    exact ⟨ret_int (by unfold exV; simp), rfl⟩
  · replace hb := hb (by omega); clear hd hs hk
    go_enter Try.func106, Try.ntmps106
    go_wp2
    go_ret
    exact ⟨ret_int (by unfold exV; simp), rfl⟩
  · replace hb := hb (by omega); clear hd hs hk
    go_enter Try.func106, Try.ntmps106
    go_wp2
    go_ret
    exact ⟨ret_int (by unfold exV; simp; omega), rfl⟩
  · replace hb := hb (by omega); clear hd hs hk
    go_enter Try.func106, Try.ntmps106
    go_wp2
    go_ret
    exact ⟨ret_int (by unfold exV; simp), rfl⟩
  · replace hb := hb (by omega); replace hd := hd (by omega); clear hs hk
    have hq := tdiv_ab (a := a) (b := b) (m := 4294967295) (by omega)
    have hb0 : (b == 0) = false := by simpa using hd
    go_enter Try.func106, Try.ntmps106
    go_wp2
    go_ret
    exact ⟨ret_int (by unfold exV; simp), rfl⟩
  · replace hb := hb (by omega); replace hd := hd (by omega); clear hs hk
    have hq := tmod_ab (a := a) (b := b) (m := 4294967295) (by omega)
    have hb0 : (b == 0) = false := by simpa using hd
    go_enter Try.func106, Try.ntmps106
    go_wp2
    go_ret
    exact ⟨ret_int (by unfold exV; simp), rfl⟩
  · replace hb := hb (by omega); clear hd hs hk
    go_enter Try.func106, Try.ntmps106
    go_wp2
    go_ret
    exact ⟨ret_int (by unfold exV; simp), rfl⟩
  · replace hb := hb (by omega); clear hd hs hk
    go_enter Try.func106, Try.ntmps106
    go_wp2
    go_ret
    exact ⟨ret_int (by unfold exV; simp), rfl⟩
  · replace hb := hb (by omega); clear hd hs hk
    go_enter Try.func106, Try.ntmps106
    go_wp2
    go_ret
    exact ⟨ret_int (by unfold exV; simp), rfl⟩
  · replace hs := hs (by omega); clear hb hd hk
    have hq := shl_bd (a := a) (n := b.toNat) ha (by omega)
    go_enter Try.func106, Try.ntmps106
    go_wp2
    go_ret
    exact ⟨ret_int (by unfold exV; simp), rfl⟩
  · replace hs := hs (by omega); clear hb hd hk
    go_enter Try.func106, Try.ntmps106
    go_wp2
    go_ret
    exact ⟨ret_int (by unfold exV; simp), rfl⟩
end Go.Proofs.Ythjnkjekidagiaa.Typ
