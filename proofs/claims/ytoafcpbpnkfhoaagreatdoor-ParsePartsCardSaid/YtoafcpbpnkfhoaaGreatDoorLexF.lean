/-
  Contracts of package lex's read, number, scan and Number, in a world in which the two package errors lie as the program lays them. Condition: a length below 2^62.
-/
import Derived.Test.YtoafcpbpnkfhoaaGreatDoorLexE
namespace Go.Proofs.YtoafcpbpnkfhoaaGreatDoor.Lex
open Go.RowKit

theorem val_snoc (l : List UInt8) (c : UInt8) : valF (l ++ [c]) = valF l * 10 + (c.toNat - 48) := by simp [valF]
theorem val_lt (l : List UInt8) (h : ∀ c ∈ l, c.toNat ≤ 57) : valF l < 10 ^ l.length := by
  have key : ∀ r : List UInt8, (∀ c ∈ r, c.toNat ≤ 57) → valF r.reverse < 10 ^ r.length := by
    intro r
    induction r with
    | nil => intro _; simp [valF]
    | cons c r ih =>
      intro hr
      have h1 := ih fun x hx => hr x (List.mem_cons_of_mem _ hx)
      have h2 := hr c List.mem_cons_self
      rw [List.reverse_cons, val_snoc, List.length_cons, Nat.pow_succ]; omega
  have := key l.reverse (fun c hc => h c (List.mem_reverse.1 hc))
  simpa using this
theorem span_digits {l : List UInt8} (h : ¬ spanF isDigitF l < l.length) : ∀ c ∈ l, 48 ≤ c.toNat ∧ c.toNat ≤ 57 := by
  induction l with
  | nil => simp
  | cons d l ih =>
    simp only [spanF] at h
    by_cases hd : isDigitF d = true
    · simp [hd] at h
      intro c hc
      rcases List.mem_cons.1 hc with rfl | hc
      · simpa [isDigitF] using hd
      · exact ih (by omega) c hc
    · simp [hd] at h
theorem val_step (d : ByteArray) (k : Nat) (hk : k < d.size) : valF ((lst d).take (k + 1)) = valF ((lst d).take k) * 10 + (d[k].toNat - 48) := by
  rw [List.take_succ_eq_append_getElem (by rw [lst_length]; exact hk), val_snoc]; rfl
theorem val_take (d : ByteArray) (k : Nat) (h10 : d.size ≤ 10) (h : ∀ c ∈ lst d, 48 ≤ c.toNat ∧ c.toNat ≤ 57) : valF ((lst d).take k) < 10000000000 := by
  have h1 := val_lt ((lst d).take k) fun c hc => (h c (List.mem_of_mem_take hc)).2
  have h2 : ((lst d).take k).length ≤ 10 := by
    rw [List.length_take, lst_length]; omega
  exact Nat.lt_of_lt_of_le h1 (Nat.pow_le_pow_right (by omega) h2)
theorem head_get (d : ByteArray) (h : 0 < d.size) : (lst d).head? = some d[0] := by
  rw [List.head?_eq_getElem?, List.getElem?_eq_getElem (by rw [lst_length]; exact h)]; rfl

theorem cut_b (s : ByteArray) (w : World) (hl : s.size ≤ 4611686018427387904) (u : Bool) (hu : hasU (lst s) = u) : Calls Tryz.prog 68 #[.string s, .string ⟨#[117]⟩] w fun e w' => (∃ d : ByteArray, e = .returned (.tuple #[.string d, .bool u]) ∧ Hid (readF (lst s) = readN (lst d) u) ∧ d.size ≤ s.size) ∧ w = w' :=
  (cutSuffix_u s w hl).mono fun _ _ ⟨⟨d, h1, h2⟩, h3⟩ => ⟨⟨d, by rw [← hu]; exact h1, Lib.hid (by unfold readF; rw [h2, hu]), by
    rw [← lst_length, ← lst_length, h2]; unfold cutU; split
    · simp
    · exact Nat.le_refl _⟩, h3⟩

set_option maxHeartbeats 4000000 in
theorem read_any (s : ByteArray) (w : World) (pL pW : Addr) (hL : Laid w pL pW) (hl : s.size ≤ 4611686018427387904) :
    Calls Tryz.prog 59 #[.string s] w fun e w' => e = .returned (rdV pL pW (readF (lst s))) ∧ ∃ n, w' = w.drewN n := by
  have hlong := hL.long
  have hword := hL.word
  clear hL
  cases hu : hasU (lst s)
  · have Hu := Lib.hid hu
    clear hu
    go_enter Tryz.func59, Tryz.ntmps59
    go_wp2_with fail
    refine (cut_b _ _ hl _ Hu.out).mono ?_
    rintro e w' ⟨⟨d, rfl, Hr, hds⟩, rfl⟩
    clear Hu
    by_cases h0 : d.size = 0
    · have hn : lst d = [] := List.eq_nil_of_length_eq_zero (by rw [lst_length]; exact h0)
      have Hf : Hid (readF (lst s) = .bad false) := Lib.hid (by rw [Hr.out]; unfold readN; rw [if_pos (.inl hn)])
      have hnl : d.toList = [] := by rw [lst_toList]; exact hn
      clear hn h0 Hr
      go_wp2
      go_quiet (fail)
      go_wp2
      go_ret3
      exact ⟨by rw [Hf.out]; rfl, _, rfl⟩
    · have hn : lst d ≠ [] := fun e => h0 (by rw [← lst_length, e]; rfl)
      have hnl : (d.toList == []) = false := by rw [lst_toList]; simpa using hn
      have hpos : 0 < d.size := by omega
      have hsl := span_le' isDigitF d
      clear h0
      by_cases hsp : spanF isDigitF (lst d) < (lst d).length
      · have Hf : Hid (readF (lst s) = .bad false) := Lib.hid (by rw [Hr.out]; unfold readN; rw [if_pos (.inr hsp)])
        rw [lst_length] at hsp
        clear hn Hr
        go_wp2_with (go_at_call 32; refine (span_isDigit _ _ (by omega)).mono ?_; rintro e w' ⟨rfl, rfl⟩)
        go_quiet (fail)
        go_wp2
        go_ret3
        exact ⟨by rw [Hf.out]; rfl, _, rfl⟩
      · have Hd := Lib.hid (span_digits hsp)
        have hc1 : ¬ (lst d = [] ∨ spanF isDigitF (lst d) < (lst d).length) := by
          rintro (h | h)
          · exact hn h
          · exact hsp h
        rw [lst_length] at hsp
        by_cases h10 : 10 < d.size
        · have Hf : Hid (readF (lst s) = .bad true) := Lib.hid (by rw [Hr.out]; unfold readN; rw [if_neg hc1, if_pos (by rw [lst_length]; exact h10)])
          clear hn Hr hc1
          go_wp2_with (go_at_call 32; refine (span_isDigit _ _ (by omega)).mono ?_; rintro e w' ⟨rfl, rfl⟩)
          go_quiet (fail)
          go_wp2
          go_ret3
          exact ⟨by rw [Hf.out]; rfl, _, rfl⟩
        · have Hc1 := Lib.hid hc1
          clear hn hc1
          have hbig : d.size ≤ 10 := by omega
          go_wp2_with (go_at_call 32; refine (span_isDigit _ _ (by omega)).mono ?_; rintro e w' ⟨rfl, rfl⟩)
          go_loop [2, 7, 30] (fun v i x => ∃ k : Nat, k ≤ d.size ∧ x = .int .i64 k ∧ v = .int .i64 (valF ((lst d).take k))) (fun _ _ x => d.size - (intOf x).toNat)
          case atStart => exact ⟨0, Nat.zero_le _, rfl, rfl⟩
          case round =>
            obtain ⟨k, hk, rfl, rfl⟩ := hrel
            have hvt := val_take d k hbig Hd.out
            by_cases hlt : k < d.size
            · have Hst := Lib.hid (val_step d k hlt)
              have hdg := Hd.out d[k] (by rw [← lst_get d k hlt]; exact List.getElem_mem _)
              obtain ⟨g1, g2⟩ := hdg
              generalize valF ((lst d).take k) = V at *
              go_wp2
              go_round
              case rel => exact ⟨k + 1, by omega, by go_num, by rw [Hst.out]; go_num⟩
              case measure => simp [intOf]; omega
            · obtain rfl : k = d.size := by omega
              have htk : (lst d).take d.size = lst d := List.take_of_length_le (by rw [lst_length]; exact Nat.le_refl _)
              rw [htk] at hvt ⊢
              clear htk
              have Hh := Lib.hid (head_get d hpos)
              have hv0 : valF (lst d) ≤ 100000000000 := by omega
              by_cases hmx : maxN false < valF (lst d)
              · have Hf : Hid (readF (lst s) = .bad true) := Lib.hid (by rw [Hr.out]; unfold readN; rw [if_neg Hc1.out, if_neg (by rw [lst_length]; exact h10), if_pos hmx])
                clear Hr Hc1
                have hin := fun w => in_no false (valF (lst d)) w hmx hv0
                simp only [Bool.false_eq_true, if_false] at hin
                have Hin := Lib.hid hin
                clear hin
                generalize valF (lst d) = V at *
                go_wp2_with (go_at_call 69; refine (Hin.out _).mono ?_; rintro e w' ⟨rfl, rfl⟩)
                go_quiet (fail)
                go_wp2
                go_ret3
                exact ⟨by rw [Hf.out]; rfl, _, rfl⟩
              · have hin := fun w => in_yes false (valF (lst d)) w (by omega)
                simp only [Bool.false_eq_true, if_false] at hin
                have Hin := Lib.hid hin
                clear hin
                by_cases hz : (lst d).head? = some 48 ∧ 1 < (lst d).length
                · have Hf : Hid (readF (lst s) = .bad false) := Lib.hid (by rw [Hr.out]; unfold readN; rw [if_neg Hc1.out, if_neg (by rw [lst_length]; exact h10), if_neg hmx, if_pos hz])
                  clear Hr Hc1
                  obtain ⟨hz1, hz2⟩ := hz
                  rw [lst_length] at hz2
                  rw [Hh.out] at hz1
                  have hz3 : d[0].toNat = 48 := by rw [Option.some.inj hz1]; rfl
                  have hz4 : ((d[0].toNat : Int) == 48) = true := eqI hz3
                  clear hz1 hz3 hmx
                  generalize valF (lst d) = V at *
                  go_wp2_with (go_at_call 69; refine (Hin.out _).mono ?_; rintro e w' ⟨rfl, rfl⟩)
                  go_quiet (fail)
                  go_wp2
                  go_ret3
                  exact ⟨by rw [Hf.out]; rfl, _, rfl⟩
                · have Hf : Hid (readF (lst s) = .ok (valF (lst d)) false) := Lib.hid (by rw [Hr.out]; unfold readN; rw [if_neg Hc1.out, if_neg (by rw [lst_length]; exact h10), if_neg hmx, if_neg hz])
                  clear Hr Hc1
                  by_cases hz2 : 1 < d.size
                  · have hz3 : d[0].toNat ≠ 48 := fun e => hz ⟨by rw [Hh.out]; exact congrArg some (UInt8.toNat_inj.1 e), by rw [lst_length]; exact hz2⟩
                    have hz4 : ((d[0].toNat : Int) == 48) = false := neI hz3
                    clear hz hz3 hmx
                    generalize valF (lst d) = V at *
                    go_wp2_with (go_at_call 69; refine (Hin.out _).mono ?_; rintro e w' ⟨rfl, rfl⟩)
                    go_ret3
                    exact ⟨by rw [Hf.out]; rfl, 0, rfl⟩
                  · clear hz hmx
                    generalize valF (lst d) = V at *
                    go_wp2_with (go_at_call 69; refine (Hin.out _).mono ?_; rintro e w' ⟨rfl, rfl⟩)
                    all_goals
                      go_ret3
                      exact ⟨by rw [Hf.out]; rfl, 0, rfl⟩
  · have Hu := Lib.hid hu
    clear hu
    go_enter Tryz.func59, Tryz.ntmps59
    go_wp2_with fail
    refine (cut_b _ _ hl _ Hu.out).mono ?_
    rintro e w' ⟨⟨d, rfl, Hr, hds⟩, rfl⟩
    clear Hu
    by_cases h0 : d.size = 0
    · have hn : lst d = [] := List.eq_nil_of_length_eq_zero (by rw [lst_length]; exact h0)
      have Hf : Hid (readF (lst s) = .bad false) := Lib.hid (by rw [Hr.out]; unfold readN; rw [if_pos (.inl hn)])
      have hnl : d.toList = [] := by rw [lst_toList]; exact hn
      clear hn h0 Hr
      go_wp2
      go_quiet (fail)
      go_wp2
      go_ret3
      exact ⟨by rw [Hf.out]; rfl, _, rfl⟩
    · have hn : lst d ≠ [] := fun e => h0 (by rw [← lst_length, e]; rfl)
      have hnl : (d.toList == []) = false := by rw [lst_toList]; simpa using hn
      have hpos : 0 < d.size := by omega
      have hsl := span_le' isDigitF d
      clear h0
      by_cases hsp : spanF isDigitF (lst d) < (lst d).length
      · have Hf : Hid (readF (lst s) = .bad false) := Lib.hid (by rw [Hr.out]; unfold readN; rw [if_pos (.inr hsp)])
        rw [lst_length] at hsp
        clear hn Hr
        go_wp2_with (go_at_call 32; refine (span_isDigit _ _ (by omega)).mono ?_; rintro e w' ⟨rfl, rfl⟩)
        go_quiet (fail)
        go_wp2
        go_ret3
        exact ⟨by rw [Hf.out]; rfl, _, rfl⟩
      · have Hd := Lib.hid (span_digits hsp)
        have hc1 : ¬ (lst d = [] ∨ spanF isDigitF (lst d) < (lst d).length) := by
          rintro (h | h)
          · exact hn h
          · exact hsp h
        rw [lst_length] at hsp
        by_cases h10 : 10 < d.size
        · have Hf : Hid (readF (lst s) = .bad true) := Lib.hid (by rw [Hr.out]; unfold readN; rw [if_neg hc1, if_pos (by rw [lst_length]; exact h10)])
          clear hn Hr hc1
          go_wp2_with (go_at_call 32; refine (span_isDigit _ _ (by omega)).mono ?_; rintro e w' ⟨rfl, rfl⟩)
          go_quiet (fail)
          go_wp2
          go_ret3
          exact ⟨by rw [Hf.out]; rfl, _, rfl⟩
        · have Hc1 := Lib.hid hc1
          clear hn hc1
          have hbig : d.size ≤ 10 := by omega
          go_wp2_with (go_at_call 32; refine (span_isDigit _ _ (by omega)).mono ?_; rintro e w' ⟨rfl, rfl⟩)
          go_loop [2, 7, 30] (fun v i x => ∃ k : Nat, k ≤ d.size ∧ x = .int .i64 k ∧ v = .int .i64 (valF ((lst d).take k))) (fun _ _ x => d.size - (intOf x).toNat)
          case atStart => exact ⟨0, Nat.zero_le _, rfl, rfl⟩
          case round =>
            obtain ⟨k, hk, rfl, rfl⟩ := hrel
            have hvt := val_take d k hbig Hd.out
            by_cases hlt : k < d.size
            · have Hst := Lib.hid (val_step d k hlt)
              have hdg := Hd.out d[k] (by rw [← lst_get d k hlt]; exact List.getElem_mem _)
              obtain ⟨g1, g2⟩ := hdg
              generalize valF ((lst d).take k) = V at *
              go_wp2
              go_round
              case rel => exact ⟨k + 1, by omega, by go_num, by rw [Hst.out]; go_num⟩
              case measure => simp [intOf]; omega
            · obtain rfl : k = d.size := by omega
              have htk : (lst d).take d.size = lst d := List.take_of_length_le (by rw [lst_length]; exact Nat.le_refl _)
              rw [htk] at hvt ⊢
              clear htk
              have Hh := Lib.hid (head_get d hpos)
              have hv0 : valF (lst d) ≤ 100000000000 := by omega
              by_cases hmx : maxN true < valF (lst d)
              · have Hf : Hid (readF (lst s) = .bad true) := Lib.hid (by rw [Hr.out]; unfold readN; rw [if_neg Hc1.out, if_neg (by rw [lst_length]; exact h10), if_pos hmx])
                clear Hr Hc1
                have hin := fun w => in_no true (valF (lst d)) w hmx hv0
                simp only [if_true] at hin
                have Hin := Lib.hid hin
                clear hin
                generalize valF (lst d) = V at *
                go_wp2_with (go_at_call 69; refine (Hin.out _).mono ?_; rintro e w' ⟨rfl, rfl⟩)
                go_quiet (fail)
                go_wp2
                go_ret3
                exact ⟨by rw [Hf.out]; rfl, _, rfl⟩
              · have hin := fun w => in_yes true (valF (lst d)) w (by omega)
                simp only [if_true] at hin
                have Hin := Lib.hid hin
                clear hin
                by_cases hz : (lst d).head? = some 48 ∧ 1 < (lst d).length
                · have Hf : Hid (readF (lst s) = .bad false) := Lib.hid (by rw [Hr.out]; unfold readN; rw [if_neg Hc1.out, if_neg (by rw [lst_length]; exact h10), if_neg hmx, if_pos hz])
                  clear Hr Hc1
                  obtain ⟨hz1, hz2⟩ := hz
                  rw [lst_length] at hz2
                  rw [Hh.out] at hz1
                  have hz3 : d[0].toNat = 48 := by rw [Option.some.inj hz1]; rfl
                  have hz4 : ((d[0].toNat : Int) == 48) = true := eqI hz3
                  clear hz1 hz3 hmx
                  generalize valF (lst d) = V at *
                  go_wp2_with (go_at_call 69; refine (Hin.out _).mono ?_; rintro e w' ⟨rfl, rfl⟩)
                  go_quiet (fail)
                  go_wp2
                  go_ret3
                  exact ⟨by rw [Hf.out]; rfl, _, rfl⟩
                · have Hf : Hid (readF (lst s) = .ok (valF (lst d)) true) := Lib.hid (by rw [Hr.out]; unfold readN; rw [if_neg Hc1.out, if_neg (by rw [lst_length]; exact h10), if_neg hmx, if_neg hz])
                  clear Hr Hc1
                  by_cases hz2 : 1 < d.size
                  · have hz3 : d[0].toNat ≠ 48 := fun e => hz ⟨by rw [Hh.out]; exact congrArg some (UInt8.toNat_inj.1 e), by rw [lst_length]; exact hz2⟩
                    have hz4 : ((d[0].toNat : Int) == 48) = false := neI hz3
                    clear hz hz3 hmx
                    generalize valF (lst d) = V at *
                    go_wp2_with (go_at_call 69; refine (Hin.out _).mono ?_; rintro e w' ⟨rfl, rfl⟩)
                    go_ret3
                    exact ⟨by rw [Hf.out]; rfl, 0, rfl⟩
                  · clear hz hmx
                    generalize valF (lst d) = V at *
                    go_wp2_with (go_at_call 69; refine (Hin.out _).mono ?_; rintro e w' ⟨rfl, rfl⟩)
                    all_goals
                      go_ret3
                      exact ⟨by rw [Hf.out]; rfl, 0, rfl⟩
end Go.Proofs.YtoafcpbpnkfhoaaGreatDoor.Lex
