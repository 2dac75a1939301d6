/-
  Proved: the statement 'LexNumbersCardSaid' of the seat: for every input that law returns true, and each argument reads afterwards as it read before; the three package variables that its row lists are tied to the program's text. No condition of ours.
-/
import Derived.Test.YtedifgfekpffcaaDoorRows
import Derived.Test.YtedifgfekpffcaaDoorTie
import Derived.Test.YtedifgfekpffcaaDoorCards
import Derived.Test.YtedifgfekpffcaaDoorLexR
import Derived.ChangeMaps5
import Derived.Test.YtedifgfekpffcaaDoorLexQ
import Derived.Test.YtedifgfekpffcaaDoorDig
import Derived.StillTailTactics
namespace Go.Proofs.YtedifgfekpffcaaDoor.lexNumbers
open Go.RowKit Go.ChangeShapes Go.WideShapes Go.ChangeAt
open Go.ChangeMaps (open_string shut_string)
open Lex (Laid lst)

open Lex
theorem number_nines (n : Nat) (hn : n < 10000000000) : lexF (digTo 10 n ++ [57, 57, 57, 57, 57, 57, 57, 57, 57, 57]) = .bad true 0 := by
  obtain ⟨h1, h2, h3, h4, h5⟩ := dig_all 10 n (by simpa using hn) (by omega)
  generalize digTo 10 n = d at *
  have hne : d ≠ [] := by intro e; rw [e] at h3; simp at h3
  obtain ⟨c, d', rfl⟩ : ∃ c d', d = c :: d' := by cases d with | nil => exact absurd rfl hne | cons c d' => exact ⟨c, d', rfl⟩
  have hc := h1 c List.mem_cons_self
  have hd2 : digitsOk (c :: d' ++ [57, 57, 57, 57, 57, 57, 57, 57, 57, 57]) := fun x hx => by
    rcases List.mem_append.1 hx with h | h
    · exact h1 x h
    · simp at h; subst h; decide
  have hgap : gapG false (c :: d' ++ [57, 57, 57, 57, 57, 57, 57, 57, 57, 57]) = 0 := by simp only [List.cons_append]; exact gap_digit _ hc
  have hsc : scanF (c :: d' ++ [57, 57, 57, 57, 57, 57, 57, 57, 57, 57]) = .bad true := by
    have := number_u (c :: d' ++ [57, 57, 57, 57, 57, 57, 57, 57, 57, 57]) [] false hd2 (fun _ x hx => by simp at hx)
    have hr2 : readN (c :: d' ++ [57, 57, 57, 57, 57, 57, 57, 57, 57, 57]) false = .bad true := by
      have hs := span_full (c :: d' ++ [57, 57, 57, 57, 57, 57, 57, 57, 57, 57]) [] hd2 (fun c hc => by simp at hc)
      rw [List.append_nil] at hs
      unfold readN
      rw [if_neg (by rintro (h | h); · simp at h
                     · omega), if_pos (by simp)]
    rw [hr2] at this
    simp only [List.cons_append] at this ⊢
    rw [scan_digit _ hc]
    simpa [uF] using this
  unfold lexF
  rw [if_neg (by simp at h4 ⊢; omega)]
  simp only [lexTo, hgap, List.drop_zero, hsc, Nat.zero_add]
theorem Number_ok (s : ByteArray) (w : World) (pL pW : Addr) (hL : Laid w pL pW) (hl : s.size ≤ 4611686018427387904) (v : Nat) (u : Bool) (h : readF (lst s) = .ok v u) :
    Calls Tryd.prog 11 #[.string s] w fun e w' => e = .returned (.tuple #[.int .i64 v, .int .i64 (typN u), .bool true]) ∧ Hid (Kept w w') :=
  (Number_any s w pL pW hL hl).mono fun _ _ ⟨h1, n, h2⟩ => ⟨by rw [h1, h]; rfl, Lib.hid (by rw [h2]; exact (Kept.refl w).drewN n)⟩
theorem Number_bad (s : ByteArray) (w : World) (pL pW : Addr) (hL : Laid w pL pW) (hl : s.size ≤ 4611686018427387904) (b : Bool) (h : readF (lst s) = .bad b) :
    Calls Tryd.prog 11 #[.string s] w fun e w' => e = .returned (.tuple #[.int .i64 0, .int .i64 0, .bool false]) ∧ Hid (Kept w w') :=
  (Number_any s w pL pW hL hl).mono fun _ _ ⟨h1, n, h2⟩ => ⟨by rw [h1, h]; rfl, Lib.hid (by rw [h2]; exact (Kept.refl w).drewN n)⟩
theorem u32_bd {a : Int} (h : (Lit.int .u32 a).wf = true) : ∃ n : Nat, a = n ∧ n ≤ 4294967295 := by
  have h1 : 0 ≤ a ∧ a ≤ 4294967295 := by simpa [Lit.wf, IntKind.min, IntKind.max, IntKind.signed, IntKind.bits] using h
  exact ⟨a.toNat, by omega, by omega⟩
theorem num_facts (n : Nat) (u : Bool) (S : ByteArray) (hS : lst S = digTo 10 n ++ uF u) (hn : n < 10000000000) : ∃ b, readF (lst ((⟨#[48]⟩ : ByteArray) ++ S)) = .bad b ∧ lexF (lst ((⟨#[32, 48]⟩ : ByteArray) ++ S)) = .bad b 1 := by
  obtain ⟨b, h1, h2⟩ := number_nought n u hn
  refine ⟨b, ?_, ?_⟩
  · rw [lst_app, hS]; exact h1
  · rw [lst_app, hS]; exact h2
theorem sp_lst (S : ByteArray) : lst ((⟨#[32]⟩ : ByteArray) ++ S ++ ⟨#[32]⟩) = 32 :: (lst S ++ [32]) := by
  rw [lst_app, lst_app]; rfl
theorem nines_lst (S : ByteArray) : lst (S ++ (⟨#[57, 57, 57, 57, 57, 57, 57, 57, 57, 57]⟩ : ByteArray)) = lst S ++ [57, 57, 57, 57, 57, 57, 57, 57, 57, 57] := by
  rw [lst_app]; rfl
theorem size_of {S : ByteArray} {n : Nat} (h : (lst S).length ≤ n) : S.size ≤ n := h
set_option maxHeartbeats 4000000 in
set_option maxRecDepth 100000 in
theorem walk (a0 : Int) (w0 : (Lit.int .u32 a0).wf = true) (a1 : Bool) (w : World) (pL pW : Addr) (hL : Laid w pL pW) : Calls Tryd.prog 4 #[.int .u32 a0, .bool a1] w fun e w' => e = .returned (.bool true) ∧ Hid (Kept w w') := by
  obtain ⟨n, rfl, hn⟩ := u32_bd w0
  clear w0
  have hD := digTo_fuel 20 10 n (by omega) (by omega) (by omega) (by omega)
  have HG := Lib.hid (fun wx => Digits_nat n wx (by omega))
  obtain ⟨D, hDD⟩ : ∃ D : ByteArray, D = ⟨(digTo 20 n).toArray⟩ := ⟨_, rfl⟩
  have hlD : lst D = digTo 10 n := by rw [hDD, lst_mk, hD]
  have hDs : D.size ≤ 10 := by rw [← lst_length, hlD]; exact (dig_all 10 n (by omega) (by omega)).2.2.2.1
  rw [← hDD] at HG
  clear hDD hD
  cases a1 with
  | true =>
    have hS : lst (D ++ ⟨#[117]⟩) = digTo 10 n ++ uF true := by rw [lst_app, hlD]; rfl
    have hSs : (D ++ (⟨#[117]⟩ : ByteArray)).size ≤ 11 := by rw [← lst_length, lst_app]; show (lst D ++ [117]).length ≤ 11; simp [lst_length]; omega
    obtain ⟨S, hSe⟩ : ∃ S : ByteArray, S = D ++ (⟨#[117]⟩ : ByteArray) := ⟨_, rfl⟩
    rw [← hSe] at hS hSs
    obtain ⟨t1, t2, t3⟩ := number_tok n true (by omega) (by show n ≤ 4294967295; omega)
    rw [← hS] at t1 t2 t3
    rw [← sp_lst] at t1
    rw [← nines_lst] at t3
    obtain ⟨b, z1, z2⟩ := num_facts n true S hS (by omega)
    have s1 : ((⟨#[32]⟩ : ByteArray) ++ S ++ ⟨#[32]⟩).size ≤ 20 := size_of (by rw [sp_lst]; simp [lst_length]; omega)
    have s2 : ((⟨#[48]⟩ : ByteArray) ++ S).size ≤ 20 := size_of (by rw [lst_app]; show ([48] ++ lst S).length ≤ 20; simp [lst_length]; omega)
    have s3 : ((⟨#[32, 48]⟩ : ByteArray) ++ S).size ≤ 20 := size_of (by rw [lst_app]; show ([32, 48] ++ lst S).length ≤ 20; simp [lst_length]; omega)
    have s4 : (S ++ (⟨#[57, 57, 57, 57, 57, 57, 57, 57, 57, 57]⟩ : ByteArray)).size ≤ 30 := size_of (by rw [nines_lst]; simp [lst_length]; omega)
    have HC1 := Lib.hid (fun wx h => Number_ok S wx pL pW h (by omega) n true t2)
    have HC2 := Lib.hid (fun wx h => Lex_toks _ wx pL pW h (by omega) _ t1)
    have HC3 := Lib.hid (fun wx h => Number_bad _ wx pL pW h (by omega) b z1)
    have HC4 := Lib.hid (fun wx h => Lex_bad _ wx pL pW h (by omega) b 1 z2)
    have HC5 := Lib.hid (fun wx h => Lex_bad _ wx pL pW h (by omega) false 0 t3)
    have hno : noL false = 4 := rfl
    have hty : typN true = 6 := rfl
    have HL := Lib.hid hL
    have HSe := Lib.hid hSe
    have hno4 : noL b = 3 ∨ noL b = 4 := by cases b <;> simp [noL]
    generalize noL b = nb at *
    clear t1 t2 t3 z1 z2 hS hlD hL hSe
    go_enter Tryd.func4, Tryd.ntmps4
    go_upto_region 7 with (go_at_call 10; refine (HG.out _).mono ?_; rintro e w1 ⟨rfl, Hk1⟩)
    rw [← HSe.out]
    clear HSe
    go_upto_region 8 with (go_at_call 11; refine (HC1.out _ (HL.out.kept Hk1.out)).mono ?_; rintro e w2 ⟨rfl, Hk2⟩)
    go_upto_region 9 with (go_at_call 8; refine (HC2.out _ (HL.out.kept (Hk1.out.trans Hk2.out))).mono ?_; rintro e w3 ⟨⟨v3, rfl, Ho3⟩, Hk3⟩)
    have Hk13 := Lib.hid (Hk1.out.trans (Hk2.out.trans Hk3.out))
    go_upto_region 10 with (go_at_call 11; refine (HC3.out _ (HL.out.kept Hk13.out)).mono ?_; rintro e w4 ⟨rfl, Hk4⟩)
    have Hk14 := Lib.hid (Hk13.out.trans Hk4.out)
    go_upto_region 11 with (go_at_call 8; refine (HC4.out _ (HL.out.kept Hk14.out)).mono ?_; rintro e w5 ⟨rfl, Hk5⟩)
    have Hk15 := Lib.hid (Hk14.out.trans Hk5.out)
    go_upto_region 12 with (go_at_call 8; refine (HC5.out _ (HL.out.kept Hk15.out)).mono ?_; rintro e w6 ⟨rfl, Hk6⟩)
    have Hk16 := Lib.hid (Hk15.out.trans Hk6.out)
    have HA := Lib.hid (awake_any w6 pL pW (HL.out.kept Hk16.out))
    obtain ⟨g3, cap3, rfl, hc3, hm3, hb3, hg3, hcell3⟩ := own_view Ho3.out (by simp)
    have d3 := (hcell3 0 (by simp)).1
    have k3 : w6.cell? ⟨g3, 0, none⟩ = some (.int .i64 2) := (Below.cell (p := ⟨g3, 0, none⟩) (Kept.trans Hk4.out (Kept.trans Hk5.out Hk6.out)) hg3).trans (by simpa using d3)
    simp only [List.length_cons, List.length_nil, Nat.zero_add, Nat.reduceAdd] at hc3 ⊢
    unfold maxLen at hm3
    clear hcell3 d3 Ho3 HC1 HC2 HC3 HC4 HC5 HG
    rcases hno4 with rfl | rfl
    all_goals
      go_wp2_with (first | (go_at_call 9; refine (num_any _ _).mono ?_; rintro e w' ⟨rfl, rfl⟩) | (go_at_call 7; refine (HA.out).mono ?_; rintro e w7 ⟨rfl, Hk7⟩))
      go_ret
      exact ⟨rfl, Lib.hid (Hk16.out.trans Hk7.out)⟩
  | false =>
    have hS : lst D = digTo 10 n ++ uF false := by rw [hlD]; simp [uF]
    obtain ⟨S, hSe⟩ : ∃ S : ByteArray, S = D := ⟨_, rfl⟩
    subst hSe
    by_cases hfit : n ≤ 2147483647
    · obtain ⟨t1, t2, t3⟩ := number_tok n false (by omega) (by show n ≤ 2147483647; omega)
      rw [← hS] at t1 t2 t3
      rw [← sp_lst] at t1
      rw [← nines_lst] at t3
      obtain ⟨b, z1, z2⟩ := num_facts n false S hS (by omega)
      have s1 : ((⟨#[32]⟩ : ByteArray) ++ S ++ ⟨#[32]⟩).size ≤ 20 := size_of (by rw [sp_lst]; simp [lst_length]; omega)
      have s2 : ((⟨#[48]⟩ : ByteArray) ++ S).size ≤ 20 := size_of (by rw [lst_app]; show ([48] ++ lst S).length ≤ 20; simp [lst_length]; omega)
      have s3 : ((⟨#[32, 48]⟩ : ByteArray) ++ S).size ≤ 20 := size_of (by rw [lst_app]; show ([32, 48] ++ lst S).length ≤ 20; simp [lst_length]; omega)
      have s4 : (S ++ (⟨#[57, 57, 57, 57, 57, 57, 57, 57, 57, 57]⟩ : ByteArray)).size ≤ 30 := size_of (by rw [nines_lst]; simp [lst_length]; omega)
      have HC1 := Lib.hid (fun wx h => Number_ok S wx pL pW h (by omega) n false t2)
      have HC2 := Lib.hid (fun wx h => Lex_toks _ wx pL pW h (by omega) _ t1)
      have HC3 := Lib.hid (fun wx h => Number_bad _ wx pL pW h (by omega) b z1)
      have HC4 := Lib.hid (fun wx h => Lex_bad _ wx pL pW h (by omega) b 1 z2)
      have HC5 := Lib.hid (fun wx h => Lex_bad _ wx pL pW h (by omega) true 0 t3)
      have hno : noL true = 3 := rfl
      have hty : typN false = 5 := rfl
      have hdf : decide ((n : Int) ≤ 2147483647) = true := by simp; omega
      have HL := Lib.hid hL
      have hno4 : noL b = 3 ∨ noL b = 4 := by cases b <;> simp [noL]
      generalize noL b = nb at *
      clear t1 t2 t3 z1 z2 hS hlD hL
      go_enter Tryd.func4, Tryd.ntmps4
      go_upto_region 7 with (go_at_call 10; refine (HG.out _).mono ?_; rintro e w1 ⟨rfl, Hk1⟩)
      go_upto_region 8 with (go_at_call 11; refine (HC1.out _ (HL.out.kept Hk1.out)).mono ?_; rintro e w2 ⟨rfl, Hk2⟩)
      go_upto_region 9 with (go_at_call 8; refine (HC2.out _ (HL.out.kept (Hk1.out.trans Hk2.out))).mono ?_; rintro e w3 ⟨⟨v3, rfl, Ho3⟩, Hk3⟩)
      have Hk13 := Lib.hid (Hk1.out.trans (Hk2.out.trans Hk3.out))
      go_upto_region 10 with (go_at_call 11; refine (HC3.out _ (HL.out.kept Hk13.out)).mono ?_; rintro e w4 ⟨rfl, Hk4⟩)
      have Hk14 := Lib.hid (Hk13.out.trans Hk4.out)
      go_upto_region 11 with (go_at_call 8; refine (HC4.out _ (HL.out.kept Hk14.out)).mono ?_; rintro e w5 ⟨rfl, Hk5⟩)
      have Hk15 := Lib.hid (Hk14.out.trans Hk5.out)
      go_upto_region 12 with (go_at_call 8; refine (HC5.out _ (HL.out.kept Hk15.out)).mono ?_; rintro e w6 ⟨rfl, Hk6⟩)
      have Hk16 := Lib.hid (Hk15.out.trans Hk6.out)
      have HA := Lib.hid (awake_any w6 pL pW (HL.out.kept Hk16.out))
      obtain ⟨g3, cap3, rfl, hc3, hm3, hb3, hg3, hcell3⟩ := own_view Ho3.out (by simp)
      have d3 := (hcell3 0 (by simp)).1
      have k3 : w6.cell? ⟨g3, 0, none⟩ = some (.int .i64 2) := (Below.cell (p := ⟨g3, 0, none⟩) (Kept.trans Hk4.out (Kept.trans Hk5.out Hk6.out)) hg3).trans (by simpa using d3)
      simp only [List.length_cons, List.length_nil, Nat.zero_add, Nat.reduceAdd] at hc3 ⊢
      unfold maxLen at hm3
      clear hcell3 d3 Ho3 HC1 HC2 HC3 HC4 HC5 HG
      rcases hno4 with rfl | rfl
      all_goals
        go_wp2_with (first | (go_at_call 9; refine (num_any _ _).mono ?_; rintro e w' ⟨rfl, rfl⟩) | (go_at_call 7; refine (HA.out).mono ?_; rintro e w7 ⟨rfl, Hk7⟩))
        go_ret
        exact ⟨rfl, Lib.hid (Hk16.out.trans Hk7.out)⟩
    · obtain ⟨t1, t2⟩ := number_great n (by omega) (by show 2147483647 < n; omega)
      have t3 := number_nines n (by omega)
      rw [← hS] at t1 t2
      rw [← hlD] at t3
      rw [← sp_lst] at t1
      rw [← nines_lst] at t3
      obtain ⟨b, z1, z2⟩ := num_facts n false S hS (by omega)
      have s1 : ((⟨#[32]⟩ : ByteArray) ++ S ++ ⟨#[32]⟩).size ≤ 20 := size_of (by rw [sp_lst]; simp [lst_length]; omega)
      have s2 : ((⟨#[48]⟩ : ByteArray) ++ S).size ≤ 20 := size_of (by rw [lst_app]; show ([48] ++ lst S).length ≤ 20; simp [lst_length]; omega)
      have s3 : ((⟨#[32, 48]⟩ : ByteArray) ++ S).size ≤ 20 := size_of (by rw [lst_app]; show ([32, 48] ++ lst S).length ≤ 20; simp [lst_length]; omega)
      have s4 : (S ++ (⟨#[57, 57, 57, 57, 57, 57, 57, 57, 57, 57]⟩ : ByteArray)).size ≤ 30 := size_of (by rw [nines_lst]; simp [lst_length]; omega)
      have HC1 := Lib.hid (fun wx h => Number_bad S wx pL pW h (by omega) true t2)
      have HC2 := Lib.hid (fun wx h => Lex_bad _ wx pL pW h (by omega) true 1 t1)
      have HC3 := Lib.hid (fun wx h => Number_bad _ wx pL pW h (by omega) b z1)
      have HC4 := Lib.hid (fun wx h => Lex_bad _ wx pL pW h (by omega) b 1 z2)
      have HC5 := Lib.hid (fun wx h => Lex_bad _ wx pL pW h (by omega) true 0 t3)
      have hno : noL true = 3 := rfl
      have HL := Lib.hid hL
      have hdf : decide ((n : Int) ≤ 2147483647) = false := by simp; omega
      clear t1 t2 t3 z1 z2 hS hlD hL hfit
      go_enter Tryd.func4, Tryd.ntmps4
      go_upto_region 7 with (go_at_call 10; refine (HG.out _).mono ?_; rintro e w1 ⟨rfl, Hk1⟩)
      go_upto_region 8 with (go_at_call 11; refine (HC1.out _ (HL.out.kept Hk1.out)).mono ?_; rintro e w2 ⟨rfl, Hk2⟩)
      go_upto_region 9 with (go_at_call 8; refine (HC2.out _ (HL.out.kept (Hk1.out.trans Hk2.out))).mono ?_; rintro e w3 ⟨rfl, Hk3⟩)
      have Hk13 := Lib.hid (Hk1.out.trans (Hk2.out.trans Hk3.out))
      go_upto_region 10 with (go_at_call 11; refine (HC3.out _ (HL.out.kept Hk13.out)).mono ?_; rintro e w4 ⟨rfl, Hk4⟩)
      have Hk14 := Lib.hid (Hk13.out.trans Hk4.out)
      go_upto_region 11 with (go_at_call 8; refine (HC4.out _ (HL.out.kept Hk14.out)).mono ?_; rintro e w5 ⟨rfl, Hk5⟩)
      have Hk15 := Lib.hid (Hk14.out.trans Hk5.out)
      go_upto_region 12 with (go_at_call 8; refine (HC5.out _ (HL.out.kept Hk15.out)).mono ?_; rintro e w6 ⟨rfl, Hk6⟩)
      have Hk16 := Lib.hid (Hk15.out.trans Hk6.out)
      have HA := Lib.hid (awake_any w6 pL pW (HL.out.kept Hk16.out))
      go_wp2_with (first | (go_at_call 9; refine (num_any _ _).mono ?_; rintro e w' ⟨rfl, rfl⟩) | (go_at_call 7; refine (HA.out).mono ?_; rintro e w7 ⟨rfl, Hk7⟩))
      go_ret
      exact ⟨rfl, Lib.hid (Hk16.out.trans Hk7.out)⟩

set_option maxRecDepth 100000 in
theorem lifted (os : Os) (started : os.Started) (H : Type) (enc : TypeId × Value → H) :
    ReturnsInHanded {} Tryd.checked os 4 .any (fun w args => (Rows.lexNumbersSpec.pre enc Tryd.prog Tryd.f4 [] false w args ∧ laidMetH Tryd.prog Lex.laid3 w) ∧ sizedMet enc Tryd.prog Tryd.f4 (OpenSpec.ofChange Rows.lexNumbersSpec) false w args)
      (Rows.lexNumbersSpec.post enc Tryd.prog Tryd.f4 false true false false) := by
  refine returnsInHanded_of_change_and (C := Tryd.checked) (X := fun w _ => laidMetH Tryd.prog Lex.laid3 w) (fun _ _ _ hh h => h.of_heap hh) Lex.own started (by kernel_rfl) Tryd.func4
    (ChangeSpec.witness_shaped (enc := enc) (C := Tryd.checked) (os := os) (X := fun w _ => laidMetH Tryd.prog Lex.laid3 w) false (World.doorLaid Tryd.prog 400 os) #[.int .u32 0, .bool false] 8 rfl (World.shaped_of_RefB (by kernel_rfl) (by kernel_rfl)) (by kernel_rfl) (by kernel_rfl) (by kernel_rfl) (Lex.door_met os _)) ?_
  intro W base args ds gs before hval0 hW _ _ hL _
  have hval : ∀ (j : Nat) t v, Tryd.f4.params[j]? = some t → args[j]? = some v → Value.okWide Tryd.prog W .any base t v := hval0
  have hW' := hW
  obtain ⟨p, q, hA0, hV, rfl, hfz, hnd⟩ := hW
  have hA : DataW.TrodAll enc Tryd.prog W 0 (fun _ => true) true Tryd.f4.params.toList args.toList ds p := hA0
  rw [Tryd.params4] at hA hval
  obtain ⟨v0, vs0, d0, ds0, p0, q0, hargs, rfl, rfl, h0, r0⟩ := trodAll_cons hA
  obtain ⟨v1, vs1, d1, ds1, p1, q1, rfl, rfl, rfl, h1, r1⟩ := trodAll_cons r0
  obtain ⟨rfl, rfl, rfl⟩ := trodAll_nil r1
  obtain rfl : args = #[v0, v1] := by cases args; simp_all
  obtain ⟨rfl, rfl⟩ := trodVars_none hV
  obtain ⟨a0, rfl, rfl, rfl, w0⟩ := open_int Tryd.underlying31 (hval 0 31 v0 rfl rfl) h0
  obtain ⟨a1, rfl, rfl, rfl⟩ := open_bool Tryd.underlying4 (hval 1 4 v1 rfl rfl) h1
  obtain ⟨pL, pW, hl⟩ := Lex.of_laid hL
  clear hA0 hval0
  simp only [List.append_nil] at hW'
  refine (walk a0 w0 a1 W pL pW hl).mono fun e W' ⟨he, hg⟩ => ?_
  subst he
  exact ⟨_, rfl, post_kept hW' (fun _ _ _ => (trodAll_cons_mk (shut_bool Tryd.underlying4 _) trodAll_mk0)) (fun sp => (trodAll_cons_mk (shut_int Tryd.underlying31 w0) (trodAll_cons_mk (shut_bool Tryd.underlying4 _) trodAll_mk0))) (fun _ => rfl) hg.out⟩

theorem over : Rows.lexNumbersRow.holds Tryd.pinned (OpenSpec.ofChange Rows.lexNumbersSpec) :=
  OpenClaim.holds_of_wide 4 Tryd.f4 rfl rfl rfl rfl rfl rfl rfl ⟨rfl, rfl, rfl, rfl, rfl⟩ rfl rfl rfl rfl rfl (by kernel_rfl) Tryd.func4 (by kernel_rfl)
    (of_decide_eq_true (by kernel_rfl)) (by unfold Func.isWrapper; first | (rw [if_pos (by decide +kernel)]; kernel_rfl) | (rw [if_neg (by decide +kernel)]; exact ⟨rfl, rfl⟩))
    (fun os started H enc _ => lifted os started H enc)

/-- THE STATEMENT. -/
theorem proved : Rows.LexNumbersCardSaid :=
  Claim7.holds_tied_plain_at .later [] [.handle, .sentinel, .sentinel] true (true, "ee1112072558f7a6c5aa3ce688a9ef52aca0c3a26d5136286683529d4e0046d5") true
    over (fun _ h => by cases h) (by kernel_rfl) (fun _ h => by cases h) lexNumbers_row_tie rfl ⟨rfl, rfl⟩ (by kernel_rfl) rfl
    (fun f fn hf hfn => by
      obtain rfl : f = 4 := Option.some.inj ((show Tryd.prog.funcNamed "calliper/calliperlaw2.LexNumbers" = some 4 by kernel_rfl).symm.trans hf) |>.symm
      obtain rfl : fn = Tryd.f4 := (Option.some.inj (Tryd.func4.symm.trans hfn)).symm
      exact ⟨by kernel_rfl, fun j t ht => by
        rw [Tryd.params4] at ht
        have hm : t ∈ [31, 4] := by simpa using Array.mem_of_getElem? ht
        have hall : ([31, 4].all fun u => !Tryd.prog.wantsStandIn u) = true := by kernel_rfl
        exact (show Tryd.prog.wantsStandIn t = false by simpa using List.all_eq_true.1 hall t hm)⟩)
    (by kernel_rfl)
#print axioms proved
end Go.Proofs.YtedifgfekpffcaaDoor.lexNumbers
