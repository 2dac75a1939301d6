/-
  The contract of the statements' own Digits at a number that is not below nought: its decimal digits, in new memory; nothing that was there has changed.
-/
import Derived.Test.YtoafcpbpnkfhoaaGreatDoorLexM
import Derived.Test.YtoafcpbpnkfhoaaGreatDoorLexN
import Derived.Laws.BytesArg
import Derived.OwnWalk
import Derived.BigQuiet
namespace Go.Proofs.YtoafcpbpnkfhoaaGreatDoor.Lex
open Go.RowKit

theorem digTo_fuel : ∀ (f g n : Nat), n < 10 ^ f → n < 10 ^ g → 0 < f → 0 < g → digTo f n = digTo g n := by
  intro f
  induction f with
  | zero => intro g n _ _ h; omega
  | succ f ih =>
    intro g n hf hg _ h0
    obtain ⟨g, rfl⟩ : ∃ g', g = g' + 1 := ⟨g - 1, by omega⟩
    simp only [digTo]
    by_cases h : n < 10
    · rw [if_pos h, if_pos h]
    · rw [if_neg h, if_neg h]
      rw [Nat.pow_succ] at hf hg
      have h1 : 0 < f := by rcases Nat.eq_zero_or_pos f with e | e; · subst e; simp at hf; omega
                            · exact e
      have h2 : 0 < g := by rcases Nat.eq_zero_or_pos g with e | e; · subst e; simp at hg; omega
                            · exact e
      rw [ih g (n / 10) (by omega) (by omega) h1 h2]
theorem one_num (x : Nat) : strOfNums [(x : Int)] = ⟨[x.toUInt8].toArray⟩ := by
  unfold strOfNums
  simp
theorem conv_one (wx : World) (x : Nat) : (convert 48 9 (.slice (some ⟨wx.heap.size, 0, none⟩) 1 1)).run Tryz.prog (wx.alloc (.cells #[.int .u8 x] 5)) = .ok (.string (strOfNums [(x : Int)])) (wx.alloc (.cells #[.int .u8 x] 5)) := by
  refine run_convert_bytes_arg (P := Tryz.prog) (wx.alloc (.cells #[.int .u8 x] 5)) 48 5 Tryz.underlying48 Tryz.underlying5 wx.heap.size 0 1 1 [(x : Int)] (by simp) (fun j hj => ?_) 9 Tryz.underlying9
  obtain rfl : j = 0 := by omega
  simp
theorem one_bytes (wx : World) (x : Nat) (y : Int) (h : (x : Int) = y) : ∃ B : ByteArray, (convert 48 9 (.slice (some ⟨wx.heap.size, 0, none⟩) 1 1)).run Tryz.prog (wx.alloc (.cells #[.int .u8 y] 5)) = .ok (.string B) (wx.alloc (.cells #[.int .u8 y] 5)) ∧ Hid (lst B = [x.toUInt8]) ∧ B.size ≤ 1 := by
  subst h
  exact ⟨_, conv_one wx x, Lib.hid (by rw [one_num, lst_mk]), by rw [one_num]; exact Nat.le_refl 1⟩
theorem lst_app (a b : ByteArray) : lst (a ++ b) = lst a ++ lst b := by unfold lst; simp [ByteArray.data_append]
/-- What stands at the head of each round. -/
structure DigAt (w : World) (n u f : Nat) (t : List UInt8) (wx : World) : Prop where
  kept : Kept w wx
  lt : u < 10 ^ f
  pos : 0 < f
  eq : digTo 20 n = digTo f u ++ t
  short : f + t.length ≤ 20
theorem DigAt.next {w : World} {n u f : Nat} {t : List UInt8} {wx wy : World} (h : DigAt w n u f t wx) (hu : 10 ≤ u) (hk : Kept wx wy) : DigAt w n (u / 10) (f - 1) ((u % 10 + 48).toUInt8 :: t) wy := by
  obtain ⟨h1, h2, h3, h4, h5⟩ := h
  obtain ⟨f, rfl⟩ : ∃ g, f = g + 1 := ⟨f - 1, by omega⟩
  rw [Nat.pow_succ] at h2
  have hf : 0 < f := by rcases Nat.eq_zero_or_pos f with e | e; · subst e; simp at h2; omega
                        · exact e
  refine ⟨h1.trans hk, by show u / 10 < 10 ^ f; omega, hf, ?_, by simp; omega⟩
  rw [h4]
  simp only [digTo]
  rw [if_neg (by omega), Nat.add_comm 48, Nat.add_sub_cancel]
  simp
theorem DigAt.last {w : World} {n u f : Nat} {t : List UInt8} {wx : World} (h : DigAt w n u f t wx) (hu : ¬ 10 ≤ u) : digTo 20 n = (u + 48).toUInt8 :: t := by
  obtain ⟨h1, h2, h3, h4, h5⟩ := h
  obtain ⟨f, rfl⟩ : ∃ g, f = g + 1 := ⟨f - 1, by omega⟩
  rw [h4]
  simp only [digTo]
  rw [if_pos (by omega), Nat.add_comm 48]
  simp
set_option maxHeartbeats 2000000 in
set_option maxRecDepth 100000 in
theorem Digits_nat (n : Nat) (w : World) (hn : n ≤ 9223372036854775807) :
    Calls Tryz.prog 4 #[.int .i64 n] w fun e w' => e = .returned (.string ⟨(digTo 20 n).toArray⟩) ∧ Hid (Kept w w') := by
  go_enter Tryz.func4, Tryz.ntmps4
  go_wp2_with fail
  go_loopw [3, 4] (fun u s wx => ∃ (m f : Nat) (S : ByteArray), u = .int .u64 m ∧ s = .string S ∧ m ≤ n ∧ S.size ≤ 20 ∧ Hid (DigAt w n m f (lst S) wx)) (fun u _ _ => (intOf u).toNat)
  case atStart => exact ⟨n, 20, ⟨#[]⟩, by go_num, rfl, Nat.le_refl _, by simp [ByteArray.size], Lib.hid ⟨Kept.refl _, by omega, by omega, by show _ = _ ++ []; simp, by show 20 + 0 ≤ 20; omega⟩⟩
  case round =>
    obtain ⟨m, f, S, rfl, rfl, hmn, hsz, Hd⟩ := hrel
    by_cases h10 : 10 ≤ m
    · obtain ⟨B, hcv, HB, hB⟩ := one_bytes wr (m % 10 + 48) (48 + (m : Int) % 10) (by omega)
      have Hnx := Lib.hid (Hd.out.next h10 ((Kept.refl wr).alloc (.cells #[.int .u8 (48 + (m : Int) % 10)] 5)))
      have hbs : (B ++ S).size ≤ 20 := by
        have h := Hnx.out.short
        have h0 := Hnx.out.pos
        rw [← lst_length, lst_app, HB.out]
        simp at h ⊢; omega
      go_wp2_with fail
      go_roundw
      case rel => exact ⟨m / 10, f - 1, B ++ S, by go_num, rfl, by omega, hbs, Lib.hid (by rw [lst_app, HB.out]; exact Hnx.out)⟩
      case measure => simp [intOf]; omega
    · obtain ⟨B, hcv, HB, hB⟩ := one_bytes wr (m + 48) (48 + (m : Int)) (by omega)
      have Hl := Lib.hid (Hd.out.last h10)
      have Hk := Lib.hid (Hd.out.kept.alloc (.cells #[.int .u8 (48 + (m : Int))] 5))
      go_wp2_with fail
      go_ret
      refine ⟨?_, Hk⟩
      rw [← mk_lst (B ++ S), lst_app, HB.out, Hl.out]
      rfl
end Go.Proofs.YtoafcpbpnkfhoaaGreatDoor.Lex
