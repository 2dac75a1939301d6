/-
  Proved: the statement 'ParseDeepCardSaid' of the seat: for every input that law returns true, and each argument reads afterwards as it read before; the three package variables that its row lists are tied to the program's text. No condition of ours.
-/
import Derived.Test.YthfbljemgoiggaaGreatDoorRows
import Derived.Test.YthfbljemgoiggaaGreatDoorTie
import Derived.Test.YthfbljemgoiggaaGreatDoorCards
import Derived.Test.YthfbljemgoiggaaGreatDoorLexR
import Derived.ChangeMaps5
import Derived.Test.YthfbljemgoiggaaGreatDoorPrsX
import Derived.Test.YthfbljemgoiggaaGreatDoorPrsV
import Derived.OwnWalk
namespace Go.Proofs.YthfbljemgoiggaaGreatDoor.parseDeep
open Go.RowKit Go.ChangeShapes Go.WideShapes Go.ChangeAt
open Go.ChangeMaps (open_string shut_string)
open Lex (Laid lst)

open Lex Prs
theorem lst_app (a b : ByteArray) : lst (a ++ b) = lst a ++ lst b := by unfold lst; simp [ByteArray.data_append]
theorem lst_size (a : ByteArray) : (lst a).length = a.size := lst_length a
theorem u8_bd {a : Int} (h : (Lit.int .u8 a).wf = true) : ∃ n : Nat, a = n ∧ n < 256 := by
  have h1 : 0 ≤ a ∧ a ≤ 255 := by simpa [Lit.wf, IntKind.min, IntKind.max, IntKind.signed, IntKind.bits] using h
  exact ⟨a.toNat, by omega, by omega⟩
theorem rep_succ (n : Nat) (l : List UInt8) : rep (n + 1) l = rep n l ++ l := by unfold rep; rw [List.replicate_succ', List.flatten_append]; simp
theorem rep_len (n : Nat) (l : List UInt8) : (rep n l).length = n * l.length := by
  induction n with
  | zero => simp [rep]
  | succ n ih => rw [rep_succ, List.length_append, ih]; rw [Nat.succ_mul]
set_option maxRecDepth 100000 in
theorem deep_len : ∀ k, k < 45 → ∀ v, v < 5 → (deepText k v).length ≤ 4000 := by decide +kernel
/-- parse.Cond at a text whose number is known. -/
theorem cond_num {s : ByteArray} {k v : Nat} (hk : k < 45) (hv : v < 5) (h : lst s = deepText k v) (w : World) (pL pW : Addr) (hL : Laid w pL pW) (hs : s.size ≤ 4000) :
    Calls Tryz.prog 8 #[.string s] w fun e w' => (∃ x p, e = .returned (.tuple #[x, .int .i64 (if k ≤ 30 then 0 else 6), .int .i64 p])) ∧ Hid (Kept w w') := by
  have hd : (deepNum k v == if k ≤ 30 then 0 else 6) = true := deep_all k hk v hv
  have hd : deepNum k v = if k ≤ 30 then 0 else 6 := by simpa using hd
  unfold deepNum at hd
  rw [← h] at hd
  cases hl : lexF (lst s) with
  | bad b a =>
    have e : toksOf (lst s) = [] := by unfold toksOf; rw [hl]
    rw [e] at hd
    exfalso
    have : Prs.numOf (topF (condF 400 [] 0 none)) = 99 := by decide +kernel
    rw [this] at hd
    split at hd <;> omega
  | toks ts =>
    have e : toksOf (lst s) = ts := by unfold toksOf; rw [hl]
    rw [e] at hd
    cases hR : topF (condF 400 ts 0 none) with
    | none => rw [hR] at hd; exfalso; simp only [Prs.numOf] at hd; split at hd <;> omega
    | some R =>
      rw [hR] at hd
      refine (Cond_toks w pL pW hL (by omega) hl hR).mono ?_
      cases R with
      | ok a =>
        simp only [Prs.numOf] at hd
        rintro e w' ⟨x, rfl, hh⟩
        refine ⟨⟨x, 0, ?_⟩, Lib.hid hh.out.1⟩
        have : k ≤ 30 := by
          by_cases h30 : k ≤ 30
          · exact h30
          · rw [if_neg h30] at hd; omega
        rw [if_pos this]
      | err no p =>
        simp only [Prs.numOf] at hd
        rintro e w' ⟨rfl, hh⟩
        refine ⟨⟨.slice none 0 0, p, ?_⟩, hh⟩
        rw [hd]
        split <;> rfl
def progText (k : Nat) : List UInt8 := [102, 110, 32, 102, 32, 40, 32, 41, 32] ++ rep k [123, 32, 105, 102, 32, 49, 32, 61, 61, 32, 49, 32] ++ [123, 32, 125] ++ rep k [125]
def progOk (k : Nat) : Bool :=
  match progF (functionF 400) 0 2 (toksOf (progText k)) none [] [] with
  | some (t :: _, dp, _, _) => t.kind == 0 && (dp.isNone == decide (k < 30))
  | _ => false
set_option maxRecDepth 100000 in
theorem prog_all : ∀ k, k < 45 → (progOk k && decide ((progText k).length ≤ 4000)) = true := by decide +kernel
/-- parse.Program at a text whose number is known. -/
theorem prog_num {s : ByteArray} {k : Nat} (hk : k < 45) (h : lst s = progText k) (w : World) (pL pW : Addr) (hL : Laid w pL pW) (hs : s.size ≤ 4000) :
    Calls Tryz.prog 10 #[.string s] w fun e w' => (∃ x p, e = .returned (.tuple #[x, .int .i64 (if k < 30 then 0 else 6), .int .i64 p])) ∧ Hid (Kept w w') := by
  have hd := prog_all k hk
  rw [Bool.and_eq_true] at hd
  have hd := hd.1
  unfold progOk at hd
  rw [← h] at hd
  cases hl : lexF (lst s) with
  | bad b a =>
    have e : toksOf (lst s) = [] := by unfold toksOf; rw [hl]
    rw [e, show progF (functionF 400) 0 2 [] none [] [] = none from rfl] at hd
    cases hd
  | toks ts =>
    have e : toksOf (lst s) = ts := by unfold toksOf; rw [hl]
    rw [e] at hd
    split at hd
    · rename_i t us dp gs fs hR
      simp only [Bool.and_eq_true, beq_iff_eq] at hd
      obtain ⟨ht, hdp⟩ := hd
      refine (Program_toks (function_said 400) w pL pW hL (by omega) hl hR ht).mono ?_
      cases dp with
      | none =>
        have h30 : k < 30 := by simpa using hdp.symm
        rw [if_pos h30]
        rintro e w' ⟨ag, cg, af, cf, rfl, hh⟩
        exact ⟨⟨_, 0, rfl⟩, Lib.hid hh.out.1⟩
      | some p =>
        have h30 : ¬ k < 30 := by simpa using hdp.symm
        rw [if_neg h30]
        rintro e w' ⟨rfl, hh⟩
        exact ⟨⟨_, p, rfl⟩, hh⟩
    · cases hd
structure DeepAt (K : Nat) (O C : List UInt8) (k : Nat) (s t i : Value) (n : Nat) (S T : ByteArray) : Prop where
  hk : k = K - n
  hi : i = .int .i64 n
  hn : n ≤ K
  hs : s = .string S
  ht : t = .string T
  hS : lst S = rep n O
  hT : lst T = rep n C
set_option maxHeartbeats 4000000 in
set_option maxRecDepth 100000 in
theorem walk (a0 : Int) (w0 : (Lit.int .u8 a0).wf = true) (a1 : Int) (w1 : (Lit.int .u8 a1).wf = true) (w : World) (pL pW : Addr) (hL : Laid w pL pW) : Calls Tryz.prog 5 #[.int .u8 a0, .int .u8 a1] w fun e w' => e = .returned (.bool true) ∧ Hid (Kept w w') := by
  obtain ⟨x, rfl, hx⟩ := u8_bd w0
  obtain ⟨y, rfl, hy⟩ := u8_bd w1
  clear w0 w1
  obtain ⟨K, hK⟩ : ∃ K : Nat, (x : Int) % 45 = K := ⟨x % 45, by omega⟩
  have hK45 : K < 45 := by omega
  have HL := Lib.hid hL
  clear hL
  have hy6 : (y : Int) % 6 = 0 ∨ (y : Int) % 6 = 1 ∨ (y : Int) % 6 = 2 ∨ (y : Int) % 6 = 3 ∨ (y : Int) % 6 = 4 ∨ (y : Int) % 6 = 5 := by omega
  rcases hy6 with hy6 | hy6 | hy6 | hy6 | hy6 | hy6
  · have hmod : (y : Int) % 6 = 0 := by omega
    clear hy6
    go_enter Tryz.func5, Tryz.ntmps5
    go_wp2_with fail
    go_loopg [9, 10, 11] K (fun k s t i wx => (∃ n S T, DeepAt K [40, 32] [32, 41] k s t i n S T) ∧ wx = (w.alloc (.cells #[.string ⟨#[40, 32]⟩, .string ⟨#[110, 111, 116, 32]⟩, .string ⟨#[91, 32]⟩, .string ⟨#[45, 32]⟩, .string ⟨#[97, 32, 91, 32]⟩] 9)).alloc (.cells #[.string ⟨#[32, 41]⟩, .string ⟨#[]⟩, .string ⟨#[32, 93]⟩, .string ⟨#[]⟩, .string ⟨#[32, 93]⟩] 9))
    case atStart => exact ⟨⟨0, ⟨#[]⟩, ⟨#[]⟩, by simp, rfl, Nat.zero_le _, rfl, rfl, rfl, rfl⟩, rfl⟩
    case round =>
      obtain ⟨⟨n, S, T, hd⟩, hwr⟩ := hrel
      obtain ⟨hk1, hi1, hn1, hs1, ht1, hS, hT⟩ := hd
      subst hi1 hs1 ht1
      have sS : S.size ≤ 90 := by rw [← lst_size, hS, rep_len]; first | (simp; done) | (simp; omega)
      have sT : T.size ≤ 90 := by rw [← lst_size, hT, rep_len]; first | (simp; done) | (simp; omega)
      have HS := Lib.hid hS
      have HT := Lib.hid hT
      have Hk1 := Lib.hid hk1
      clear hS hT hk1
      by_cases hlt : n < K
      case pos =>
        subst hwr
        go_wp2_with fail
        go_roundg (K - (n + 1))
        case measure => have := Hk1.out; omega
        case rel => exact ⟨⟨n + 1, _, _, rfl, by simp, by omega, rfl, rfl, by rw [lst_app, HS.out, rep_succ]; rfl, by first | (rw [lst_app, HT.out, rep_succ]; rfl) | (rw [HT.out]; unfold rep; simp)⟩, rfl⟩
      case neg =>
        have hnK : n = K := by omega
        subst hnK
        subst hwr
        have ht : lst (S ++ ⟨#[49]⟩ ++ T ++ ⟨#[32, 61, 61, 32, 49]⟩) = deepText n 0 := by
          simp only [lst_app, HS.out, HT.out]; rfl
        have hsz : ((S ++ ⟨#[49]⟩ ++ T ++ ⟨#[32, 61, 61, 32, 49]⟩) : ByteArray).size ≤ 4000 := by rw [← lst_size, ht]; exact deep_len _ hK45 _ (by omega)
        have kW : Kept w ((w.alloc (.cells #[.string ⟨#[40, 32]⟩, .string ⟨#[110, 111, 116, 32]⟩, .string ⟨#[91, 32]⟩, .string ⟨#[45, 32]⟩, .string ⟨#[97, 32, 91, 32]⟩] 9)).alloc (.cells #[.string ⟨#[32, 41]⟩, .string ⟨#[]⟩, .string ⟨#[32, 93]⟩, .string ⟨#[]⟩, .string ⟨#[32, 93]⟩] 9)) := ((Kept.refl w).alloc _).alloc _
        have HC := Lib.hid (cond_num hK45 (by omega) ht ((w.alloc (.cells #[.string ⟨#[40, 32]⟩, .string ⟨#[110, 111, 116, 32]⟩, .string ⟨#[91, 32]⟩, .string ⟨#[45, 32]⟩, .string ⟨#[97, 32, 91, 32]⟩] 9)).alloc (.cells #[.string ⟨#[32, 41]⟩, .string ⟨#[]⟩, .string ⟨#[32, 93]⟩, .string ⟨#[]⟩, .string ⟨#[32, 93]⟩] 9)) pL pW (HL.out.kept kW) hsz)
        have HA : Hid (∀ w1, Kept ((w.alloc (.cells #[.string ⟨#[40, 32]⟩, .string ⟨#[110, 111, 116, 32]⟩, .string ⟨#[91, 32]⟩, .string ⟨#[45, 32]⟩, .string ⟨#[97, 32, 91, 32]⟩] 9)).alloc (.cells #[.string ⟨#[32, 41]⟩, .string ⟨#[]⟩, .string ⟨#[32, 93]⟩, .string ⟨#[]⟩, .string ⟨#[32, 93]⟩] 9)) w1 → Calls Tryz.prog 7 #[] w1 fun e w' => e = .returned (.bool true) ∧ Hid (Kept w1 w')) := Lib.hid fun w1 h => Prs.awake_any w1 pL pW (HL.out.kept (kW.trans h))
        have KW := Lib.hid kW
        clear kW ht hsz
        by_cases h30 : n ≤ 30
        case pos =>
          rw [if_pos h30] at HC
          have b1 : decide ((n : Int) ≤ 30) = true := by simp; omega
          have b2 : decide ((30 : Int) < (n : Int)) = false := by simp; omega
          go_wp2_with (first | (go_at_call 8; refine (HC.out).mono ?_; rintro e w2 ⟨⟨x2, p2, rfl⟩, K2⟩) | (go_at_call 9; refine (num_any _ _).mono ?_; rintro e w' ⟨rfl, rfl⟩) | (go_at_call 7; refine (HA.out _ K2.out).mono ?_; rintro e w3 ⟨rfl, K3⟩))
          go_ret
          exact ⟨rfl, Lib.hid (KW.out.trans (K2.out.trans K3.out))⟩
        case neg =>
          rw [if_neg h30] at HC
          have b1 : decide ((n : Int) ≤ 30) = false := by simp; omega
          have b2 : decide ((30 : Int) < (n : Int)) = true := by simp; omega
          go_wp2_with (first | (go_at_call 8; refine (HC.out).mono ?_; rintro e w2 ⟨⟨x2, p2, rfl⟩, K2⟩) | (go_at_call 9; refine (num_any _ _).mono ?_; rintro e w' ⟨rfl, rfl⟩) | (go_at_call 7; refine (HA.out _ K2.out).mono ?_; rintro e w3 ⟨rfl, K3⟩))
          go_ret
          exact ⟨rfl, Lib.hid (KW.out.trans (K2.out.trans K3.out))⟩
  · have hmod : (y : Int) % 6 = 1 := by omega
    clear hy6
    go_enter Tryz.func5, Tryz.ntmps5
    go_wp2_with fail
    go_loopg [9, 10, 11] K (fun k s t i wx => (∃ n S T, DeepAt K [110, 111, 116, 32] [] k s t i n S T) ∧ wx = (w.alloc (.cells #[.string ⟨#[40, 32]⟩, .string ⟨#[110, 111, 116, 32]⟩, .string ⟨#[91, 32]⟩, .string ⟨#[45, 32]⟩, .string ⟨#[97, 32, 91, 32]⟩] 9)).alloc (.cells #[.string ⟨#[32, 41]⟩, .string ⟨#[]⟩, .string ⟨#[32, 93]⟩, .string ⟨#[]⟩, .string ⟨#[32, 93]⟩] 9))
    case atStart => exact ⟨⟨0, ⟨#[]⟩, ⟨#[]⟩, by simp, rfl, Nat.zero_le _, rfl, rfl, rfl, rfl⟩, rfl⟩
    case round =>
      obtain ⟨⟨n, S, T, hd⟩, hwr⟩ := hrel
      obtain ⟨hk1, hi1, hn1, hs1, ht1, hS, hT⟩ := hd
      subst hi1 hs1 ht1
      have sS : S.size ≤ 180 := by rw [← lst_size, hS, rep_len]; first | (simp; done) | (simp; omega)
      have sT : T.size ≤ 0 := by rw [← lst_size, hT, rep_len]; first | (simp; done) | (simp; omega)
      have HS := Lib.hid hS
      have HT := Lib.hid hT
      have Hk1 := Lib.hid hk1
      clear hS hT hk1
      by_cases hlt : n < K
      case pos =>
        subst hwr
        go_wp2_with fail
        go_roundg (K - (n + 1))
        case measure => have := Hk1.out; omega
        case rel => exact ⟨⟨n + 1, _, _, rfl, by simp, by omega, rfl, rfl, by rw [lst_app, HS.out, rep_succ]; rfl, by first | (rw [lst_app, HT.out, rep_succ]; rfl) | (rw [HT.out]; unfold rep; simp)⟩, rfl⟩
      case neg =>
        have hnK : n = K := by omega
        subst hnK
        subst hwr
        have ht : lst (S ++ ⟨#[49, 32, 61, 61, 32, 49]⟩ ++ T) = deepText n 1 := by
          simp only [lst_app, HS.out, HT.out]; rfl
        have hsz : ((S ++ ⟨#[49, 32, 61, 61, 32, 49]⟩ ++ T) : ByteArray).size ≤ 4000 := by rw [← lst_size, ht]; exact deep_len _ hK45 _ (by omega)
        have kW : Kept w ((w.alloc (.cells #[.string ⟨#[40, 32]⟩, .string ⟨#[110, 111, 116, 32]⟩, .string ⟨#[91, 32]⟩, .string ⟨#[45, 32]⟩, .string ⟨#[97, 32, 91, 32]⟩] 9)).alloc (.cells #[.string ⟨#[32, 41]⟩, .string ⟨#[]⟩, .string ⟨#[32, 93]⟩, .string ⟨#[]⟩, .string ⟨#[32, 93]⟩] 9)) := ((Kept.refl w).alloc _).alloc _
        have HC := Lib.hid (cond_num hK45 (by omega) ht ((w.alloc (.cells #[.string ⟨#[40, 32]⟩, .string ⟨#[110, 111, 116, 32]⟩, .string ⟨#[91, 32]⟩, .string ⟨#[45, 32]⟩, .string ⟨#[97, 32, 91, 32]⟩] 9)).alloc (.cells #[.string ⟨#[32, 41]⟩, .string ⟨#[]⟩, .string ⟨#[32, 93]⟩, .string ⟨#[]⟩, .string ⟨#[32, 93]⟩] 9)) pL pW (HL.out.kept kW) hsz)
        have HA : Hid (∀ w1, Kept ((w.alloc (.cells #[.string ⟨#[40, 32]⟩, .string ⟨#[110, 111, 116, 32]⟩, .string ⟨#[91, 32]⟩, .string ⟨#[45, 32]⟩, .string ⟨#[97, 32, 91, 32]⟩] 9)).alloc (.cells #[.string ⟨#[32, 41]⟩, .string ⟨#[]⟩, .string ⟨#[32, 93]⟩, .string ⟨#[]⟩, .string ⟨#[32, 93]⟩] 9)) w1 → Calls Tryz.prog 7 #[] w1 fun e w' => e = .returned (.bool true) ∧ Hid (Kept w1 w')) := Lib.hid fun w1 h => Prs.awake_any w1 pL pW (HL.out.kept (kW.trans h))
        have KW := Lib.hid kW
        clear kW ht hsz
        by_cases h30 : n ≤ 30
        case pos =>
          rw [if_pos h30] at HC
          have b1 : decide ((n : Int) ≤ 30) = true := by simp; omega
          have b2 : decide ((30 : Int) < (n : Int)) = false := by simp; omega
          go_wp2_with (first | (go_at_call 8; refine (HC.out).mono ?_; rintro e w2 ⟨⟨x2, p2, rfl⟩, K2⟩) | (go_at_call 9; refine (num_any _ _).mono ?_; rintro e w' ⟨rfl, rfl⟩) | (go_at_call 7; refine (HA.out _ K2.out).mono ?_; rintro e w3 ⟨rfl, K3⟩))
          go_ret
          exact ⟨rfl, Lib.hid (KW.out.trans (K2.out.trans K3.out))⟩
        case neg =>
          rw [if_neg h30] at HC
          have b1 : decide ((n : Int) ≤ 30) = false := by simp; omega
          have b2 : decide ((30 : Int) < (n : Int)) = true := by simp; omega
          go_wp2_with (first | (go_at_call 8; refine (HC.out).mono ?_; rintro e w2 ⟨⟨x2, p2, rfl⟩, K2⟩) | (go_at_call 9; refine (num_any _ _).mono ?_; rintro e w' ⟨rfl, rfl⟩) | (go_at_call 7; refine (HA.out _ K2.out).mono ?_; rintro e w3 ⟨rfl, K3⟩))
          go_ret
          exact ⟨rfl, Lib.hid (KW.out.trans (K2.out.trans K3.out))⟩
  · have hmod : (y : Int) % 6 = 2 := by omega
    clear hy6
    go_enter Tryz.func5, Tryz.ntmps5
    go_wp2_with fail
    go_loopg [9, 10, 11] K (fun k s t i wx => (∃ n S T, DeepAt K [91, 32] [32, 93] k s t i n S T) ∧ wx = (w.alloc (.cells #[.string ⟨#[40, 32]⟩, .string ⟨#[110, 111, 116, 32]⟩, .string ⟨#[91, 32]⟩, .string ⟨#[45, 32]⟩, .string ⟨#[97, 32, 91, 32]⟩] 9)).alloc (.cells #[.string ⟨#[32, 41]⟩, .string ⟨#[]⟩, .string ⟨#[32, 93]⟩, .string ⟨#[]⟩, .string ⟨#[32, 93]⟩] 9))
    case atStart => exact ⟨⟨0, ⟨#[]⟩, ⟨#[]⟩, by simp, rfl, Nat.zero_le _, rfl, rfl, rfl, rfl⟩, rfl⟩
    case round =>
      obtain ⟨⟨n, S, T, hd⟩, hwr⟩ := hrel
      obtain ⟨hk1, hi1, hn1, hs1, ht1, hS, hT⟩ := hd
      subst hi1 hs1 ht1
      have sS : S.size ≤ 90 := by rw [← lst_size, hS, rep_len]; first | (simp; done) | (simp; omega)
      have sT : T.size ≤ 90 := by rw [← lst_size, hT, rep_len]; first | (simp; done) | (simp; omega)
      have HS := Lib.hid hS
      have HT := Lib.hid hT
      have Hk1 := Lib.hid hk1
      clear hS hT hk1
      by_cases hlt : n < K
      case pos =>
        subst hwr
        go_wp2_with fail
        go_roundg (K - (n + 1))
        case measure => have := Hk1.out; omega
        case rel => exact ⟨⟨n + 1, _, _, rfl, by simp, by omega, rfl, rfl, by rw [lst_app, HS.out, rep_succ]; rfl, by first | (rw [lst_app, HT.out, rep_succ]; rfl) | (rw [HT.out]; unfold rep; simp)⟩, rfl⟩
      case neg =>
        have hnK : n = K := by omega
        subst hnK
        subst hwr
        have ht : lst (S ++ ⟨#[49, 32, 61, 61, 32, 49]⟩ ++ T) = deepText n 2 := by
          simp only [lst_app, HS.out, HT.out]; rfl
        have hsz : ((S ++ ⟨#[49, 32, 61, 61, 32, 49]⟩ ++ T) : ByteArray).size ≤ 4000 := by rw [← lst_size, ht]; exact deep_len _ hK45 _ (by omega)
        have kW : Kept w ((w.alloc (.cells #[.string ⟨#[40, 32]⟩, .string ⟨#[110, 111, 116, 32]⟩, .string ⟨#[91, 32]⟩, .string ⟨#[45, 32]⟩, .string ⟨#[97, 32, 91, 32]⟩] 9)).alloc (.cells #[.string ⟨#[32, 41]⟩, .string ⟨#[]⟩, .string ⟨#[32, 93]⟩, .string ⟨#[]⟩, .string ⟨#[32, 93]⟩] 9)) := ((Kept.refl w).alloc _).alloc _
        have HC := Lib.hid (cond_num hK45 (by omega) ht ((w.alloc (.cells #[.string ⟨#[40, 32]⟩, .string ⟨#[110, 111, 116, 32]⟩, .string ⟨#[91, 32]⟩, .string ⟨#[45, 32]⟩, .string ⟨#[97, 32, 91, 32]⟩] 9)).alloc (.cells #[.string ⟨#[32, 41]⟩, .string ⟨#[]⟩, .string ⟨#[32, 93]⟩, .string ⟨#[]⟩, .string ⟨#[32, 93]⟩] 9)) pL pW (HL.out.kept kW) hsz)
        have HA : Hid (∀ w1, Kept ((w.alloc (.cells #[.string ⟨#[40, 32]⟩, .string ⟨#[110, 111, 116, 32]⟩, .string ⟨#[91, 32]⟩, .string ⟨#[45, 32]⟩, .string ⟨#[97, 32, 91, 32]⟩] 9)).alloc (.cells #[.string ⟨#[32, 41]⟩, .string ⟨#[]⟩, .string ⟨#[32, 93]⟩, .string ⟨#[]⟩, .string ⟨#[32, 93]⟩] 9)) w1 → Calls Tryz.prog 7 #[] w1 fun e w' => e = .returned (.bool true) ∧ Hid (Kept w1 w')) := Lib.hid fun w1 h => Prs.awake_any w1 pL pW (HL.out.kept (kW.trans h))
        have KW := Lib.hid kW
        clear kW ht hsz
        by_cases h30 : n ≤ 30
        case pos =>
          rw [if_pos h30] at HC
          have b1 : decide ((n : Int) ≤ 30) = true := by simp; omega
          have b2 : decide ((30 : Int) < (n : Int)) = false := by simp; omega
          go_wp2_with (first | (go_at_call 8; refine (HC.out).mono ?_; rintro e w2 ⟨⟨x2, p2, rfl⟩, K2⟩) | (go_at_call 9; refine (num_any _ _).mono ?_; rintro e w' ⟨rfl, rfl⟩) | (go_at_call 7; refine (HA.out _ K2.out).mono ?_; rintro e w3 ⟨rfl, K3⟩))
          go_ret
          exact ⟨rfl, Lib.hid (KW.out.trans (K2.out.trans K3.out))⟩
        case neg =>
          rw [if_neg h30] at HC
          have b1 : decide ((n : Int) ≤ 30) = false := by simp; omega
          have b2 : decide ((30 : Int) < (n : Int)) = true := by simp; omega
          go_wp2_with (first | (go_at_call 8; refine (HC.out).mono ?_; rintro e w2 ⟨⟨x2, p2, rfl⟩, K2⟩) | (go_at_call 9; refine (num_any _ _).mono ?_; rintro e w' ⟨rfl, rfl⟩) | (go_at_call 7; refine (HA.out _ K2.out).mono ?_; rintro e w3 ⟨rfl, K3⟩))
          go_ret
          exact ⟨rfl, Lib.hid (KW.out.trans (K2.out.trans K3.out))⟩
  · have hmod : (y : Int) % 6 = 3 := by omega
    clear hy6
    go_enter Tryz.func5, Tryz.ntmps5
    go_wp2_with fail
    go_loopg [9, 10, 11] K (fun k s t i wx => (∃ n S T, DeepAt K [45, 32] [] k s t i n S T) ∧ wx = (w.alloc (.cells #[.string ⟨#[40, 32]⟩, .string ⟨#[110, 111, 116, 32]⟩, .string ⟨#[91, 32]⟩, .string ⟨#[45, 32]⟩, .string ⟨#[97, 32, 91, 32]⟩] 9)).alloc (.cells #[.string ⟨#[32, 41]⟩, .string ⟨#[]⟩, .string ⟨#[32, 93]⟩, .string ⟨#[]⟩, .string ⟨#[32, 93]⟩] 9))
    case atStart => exact ⟨⟨0, ⟨#[]⟩, ⟨#[]⟩, by simp, rfl, Nat.zero_le _, rfl, rfl, rfl, rfl⟩, rfl⟩
    case round =>
      obtain ⟨⟨n, S, T, hd⟩, hwr⟩ := hrel
      obtain ⟨hk1, hi1, hn1, hs1, ht1, hS, hT⟩ := hd
      subst hi1 hs1 ht1
      have sS : S.size ≤ 90 := by rw [← lst_size, hS, rep_len]; first | (simp; done) | (simp; omega)
      have sT : T.size ≤ 0 := by rw [← lst_size, hT, rep_len]; first | (simp; done) | (simp; omega)
      have HS := Lib.hid hS
      have HT := Lib.hid hT
      have Hk1 := Lib.hid hk1
      clear hS hT hk1
      by_cases hlt : n < K
      case pos =>
        subst hwr
        go_wp2_with fail
        go_roundg (K - (n + 1))
        case measure => have := Hk1.out; omega
        case rel => exact ⟨⟨n + 1, _, _, rfl, by simp, by omega, rfl, rfl, by rw [lst_app, HS.out, rep_succ]; rfl, by first | (rw [lst_app, HT.out, rep_succ]; rfl) | (rw [HT.out]; unfold rep; simp)⟩, rfl⟩
      case neg =>
        have hnK : n = K := by omega
        subst hnK
        subst hwr
        have ht : lst (S ++ ⟨#[49]⟩ ++ T ++ ⟨#[32, 61, 61, 32, 49]⟩) = deepText n 3 := by
          simp only [lst_app, HS.out, HT.out]; rfl
        have hsz : ((S ++ ⟨#[49]⟩ ++ T ++ ⟨#[32, 61, 61, 32, 49]⟩) : ByteArray).size ≤ 4000 := by rw [← lst_size, ht]; exact deep_len _ hK45 _ (by omega)
        have kW : Kept w ((w.alloc (.cells #[.string ⟨#[40, 32]⟩, .string ⟨#[110, 111, 116, 32]⟩, .string ⟨#[91, 32]⟩, .string ⟨#[45, 32]⟩, .string ⟨#[97, 32, 91, 32]⟩] 9)).alloc (.cells #[.string ⟨#[32, 41]⟩, .string ⟨#[]⟩, .string ⟨#[32, 93]⟩, .string ⟨#[]⟩, .string ⟨#[32, 93]⟩] 9)) := ((Kept.refl w).alloc _).alloc _
        have HC := Lib.hid (cond_num hK45 (by omega) ht ((w.alloc (.cells #[.string ⟨#[40, 32]⟩, .string ⟨#[110, 111, 116, 32]⟩, .string ⟨#[91, 32]⟩, .string ⟨#[45, 32]⟩, .string ⟨#[97, 32, 91, 32]⟩] 9)).alloc (.cells #[.string ⟨#[32, 41]⟩, .string ⟨#[]⟩, .string ⟨#[32, 93]⟩, .string ⟨#[]⟩, .string ⟨#[32, 93]⟩] 9)) pL pW (HL.out.kept kW) hsz)
        have HA : Hid (∀ w1, Kept ((w.alloc (.cells #[.string ⟨#[40, 32]⟩, .string ⟨#[110, 111, 116, 32]⟩, .string ⟨#[91, 32]⟩, .string ⟨#[45, 32]⟩, .string ⟨#[97, 32, 91, 32]⟩] 9)).alloc (.cells #[.string ⟨#[32, 41]⟩, .string ⟨#[]⟩, .string ⟨#[32, 93]⟩, .string ⟨#[]⟩, .string ⟨#[32, 93]⟩] 9)) w1 → Calls Tryz.prog 7 #[] w1 fun e w' => e = .returned (.bool true) ∧ Hid (Kept w1 w')) := Lib.hid fun w1 h => Prs.awake_any w1 pL pW (HL.out.kept (kW.trans h))
        have KW := Lib.hid kW
        clear kW ht hsz
        by_cases h30 : n ≤ 30
        case pos =>
          rw [if_pos h30] at HC
          have b1 : decide ((n : Int) ≤ 30) = true := by simp; omega
          have b2 : decide ((30 : Int) < (n : Int)) = false := by simp; omega
          go_wp2_with (first | (go_at_call 8; refine (HC.out).mono ?_; rintro e w2 ⟨⟨x2, p2, rfl⟩, K2⟩) | (go_at_call 9; refine (num_any _ _).mono ?_; rintro e w' ⟨rfl, rfl⟩) | (go_at_call 7; refine (HA.out _ K2.out).mono ?_; rintro e w3 ⟨rfl, K3⟩))
          go_ret
          exact ⟨rfl, Lib.hid (KW.out.trans (K2.out.trans K3.out))⟩
        case neg =>
          rw [if_neg h30] at HC
          have b1 : decide ((n : Int) ≤ 30) = false := by simp; omega
          have b2 : decide ((30 : Int) < (n : Int)) = true := by simp; omega
          go_wp2_with (first | (go_at_call 8; refine (HC.out).mono ?_; rintro e w2 ⟨⟨x2, p2, rfl⟩, K2⟩) | (go_at_call 9; refine (num_any _ _).mono ?_; rintro e w' ⟨rfl, rfl⟩) | (go_at_call 7; refine (HA.out _ K2.out).mono ?_; rintro e w3 ⟨rfl, K3⟩))
          go_ret
          exact ⟨rfl, Lib.hid (KW.out.trans (K2.out.trans K3.out))⟩
  · have hmod : (y : Int) % 6 = 4 := by omega
    clear hy6
    go_enter Tryz.func5, Tryz.ntmps5
    go_wp2_with fail
    go_loopg [9, 10, 11] K (fun k s t i wx => (∃ n S T, DeepAt K [97, 32, 91, 32] [32, 93] k s t i n S T) ∧ wx = (w.alloc (.cells #[.string ⟨#[40, 32]⟩, .string ⟨#[110, 111, 116, 32]⟩, .string ⟨#[91, 32]⟩, .string ⟨#[45, 32]⟩, .string ⟨#[97, 32, 91, 32]⟩] 9)).alloc (.cells #[.string ⟨#[32, 41]⟩, .string ⟨#[]⟩, .string ⟨#[32, 93]⟩, .string ⟨#[]⟩, .string ⟨#[32, 93]⟩] 9))
    case atStart => exact ⟨⟨0, ⟨#[]⟩, ⟨#[]⟩, by simp, rfl, Nat.zero_le _, rfl, rfl, rfl, rfl⟩, rfl⟩
    case round =>
      obtain ⟨⟨n, S, T, hd⟩, hwr⟩ := hrel
      obtain ⟨hk1, hi1, hn1, hs1, ht1, hS, hT⟩ := hd
      subst hi1 hs1 ht1
      have sS : S.size ≤ 180 := by rw [← lst_size, hS, rep_len]; first | (simp; done) | (simp; omega)
      have sT : T.size ≤ 90 := by rw [← lst_size, hT, rep_len]; first | (simp; done) | (simp; omega)
      have HS := Lib.hid hS
      have HT := Lib.hid hT
      have Hk1 := Lib.hid hk1
      clear hS hT hk1
      by_cases hlt : n < K
      case pos =>
        subst hwr
        go_wp2_with fail
        go_roundg (K - (n + 1))
        case measure => have := Hk1.out; omega
        case rel => exact ⟨⟨n + 1, _, _, rfl, by simp, by omega, rfl, rfl, by rw [lst_app, HS.out, rep_succ]; rfl, by first | (rw [lst_app, HT.out, rep_succ]; rfl) | (rw [HT.out]; unfold rep; simp)⟩, rfl⟩
      case neg =>
        have hnK : n = K := by omega
        subst hnK
        subst hwr
        have ht : lst (S ++ ⟨#[49]⟩ ++ T ++ ⟨#[32, 61, 61, 32, 49]⟩) = deepText n 4 := by
          simp only [lst_app, HS.out, HT.out]; rfl
        have hsz : ((S ++ ⟨#[49]⟩ ++ T ++ ⟨#[32, 61, 61, 32, 49]⟩) : ByteArray).size ≤ 4000 := by rw [← lst_size, ht]; exact deep_len _ hK45 _ (by omega)
        have kW : Kept w ((w.alloc (.cells #[.string ⟨#[40, 32]⟩, .string ⟨#[110, 111, 116, 32]⟩, .string ⟨#[91, 32]⟩, .string ⟨#[45, 32]⟩, .string ⟨#[97, 32, 91, 32]⟩] 9)).alloc (.cells #[.string ⟨#[32, 41]⟩, .string ⟨#[]⟩, .string ⟨#[32, 93]⟩, .string ⟨#[]⟩, .string ⟨#[32, 93]⟩] 9)) := ((Kept.refl w).alloc _).alloc _
        have HC := Lib.hid (cond_num hK45 (by omega) ht ((w.alloc (.cells #[.string ⟨#[40, 32]⟩, .string ⟨#[110, 111, 116, 32]⟩, .string ⟨#[91, 32]⟩, .string ⟨#[45, 32]⟩, .string ⟨#[97, 32, 91, 32]⟩] 9)).alloc (.cells #[.string ⟨#[32, 41]⟩, .string ⟨#[]⟩, .string ⟨#[32, 93]⟩, .string ⟨#[]⟩, .string ⟨#[32, 93]⟩] 9)) pL pW (HL.out.kept kW) hsz)
        have HA : Hid (∀ w1, Kept ((w.alloc (.cells #[.string ⟨#[40, 32]⟩, .string ⟨#[110, 111, 116, 32]⟩, .string ⟨#[91, 32]⟩, .string ⟨#[45, 32]⟩, .string ⟨#[97, 32, 91, 32]⟩] 9)).alloc (.cells #[.string ⟨#[32, 41]⟩, .string ⟨#[]⟩, .string ⟨#[32, 93]⟩, .string ⟨#[]⟩, .string ⟨#[32, 93]⟩] 9)) w1 → Calls Tryz.prog 7 #[] w1 fun e w' => e = .returned (.bool true) ∧ Hid (Kept w1 w')) := Lib.hid fun w1 h => Prs.awake_any w1 pL pW (HL.out.kept (kW.trans h))
        have KW := Lib.hid kW
        clear kW ht hsz
        by_cases h30 : n ≤ 30
        case pos =>
          rw [if_pos h30] at HC
          have b1 : decide ((n : Int) ≤ 30) = true := by simp; omega
          have b2 : decide ((30 : Int) < (n : Int)) = false := by simp; omega
          go_wp2_with (first | (go_at_call 8; refine (HC.out).mono ?_; rintro e w2 ⟨⟨x2, p2, rfl⟩, K2⟩) | (go_at_call 9; refine (num_any _ _).mono ?_; rintro e w' ⟨rfl, rfl⟩) | (go_at_call 7; refine (HA.out _ K2.out).mono ?_; rintro e w3 ⟨rfl, K3⟩))
          go_ret
          exact ⟨rfl, Lib.hid (KW.out.trans (K2.out.trans K3.out))⟩
        case neg =>
          rw [if_neg h30] at HC
          have b1 : decide ((n : Int) ≤ 30) = false := by simp; omega
          have b2 : decide ((30 : Int) < (n : Int)) = true := by simp; omega
          go_wp2_with (first | (go_at_call 8; refine (HC.out).mono ?_; rintro e w2 ⟨⟨x2, p2, rfl⟩, K2⟩) | (go_at_call 9; refine (num_any _ _).mono ?_; rintro e w' ⟨rfl, rfl⟩) | (go_at_call 7; refine (HA.out _ K2.out).mono ?_; rintro e w3 ⟨rfl, K3⟩))
          go_ret
          exact ⟨rfl, Lib.hid (KW.out.trans (K2.out.trans K3.out))⟩
  · have hmod : (y : Int) % 6 = 5 := by omega
    clear hy6
    go_enter Tryz.func5, Tryz.ntmps5
    go_wp2_with fail
    go_loopg [9, 10, 11] K (fun k s t i wx => (∃ n S T, DeepAt K [123, 32, 105, 102, 32, 49, 32, 61, 61, 32, 49, 32] [125] k s t i n S T) ∧ wx = (w.alloc (.cells #[.string ⟨#[40, 32]⟩, .string ⟨#[110, 111, 116, 32]⟩, .string ⟨#[91, 32]⟩, .string ⟨#[45, 32]⟩, .string ⟨#[97, 32, 91, 32]⟩] 9)).alloc (.cells #[.string ⟨#[32, 41]⟩, .string ⟨#[]⟩, .string ⟨#[32, 93]⟩, .string ⟨#[]⟩, .string ⟨#[32, 93]⟩] 9))
    case atStart => exact ⟨⟨0, ⟨#[]⟩, ⟨#[]⟩, by simp, rfl, Nat.zero_le _, rfl, rfl, rfl, rfl⟩, rfl⟩
    case round =>
      obtain ⟨⟨n, S, T, hd⟩, hwr⟩ := hrel
      obtain ⟨hk1, hi1, hn1, hs1, ht1, hS, hT⟩ := hd
      subst hi1 hs1 ht1
      have sS : S.size ≤ 540 := by rw [← lst_size, hS, rep_len]; first | (simp; done) | (simp; omega)
      have sT : T.size ≤ 45 := by rw [← lst_size, hT, rep_len]; first | (simp; done) | (simp; omega)
      have HS := Lib.hid hS
      have HT := Lib.hid hT
      have Hk1 := Lib.hid hk1
      clear hS hT hk1
      by_cases hlt : n < K
      case pos =>
        subst hwr
        go_wp2_with fail
        go_roundg (K - (n + 1))
        case measure => have := Hk1.out; omega
        case rel => exact ⟨⟨n + 1, _, _, rfl, by simp, by omega, rfl, rfl, by rw [lst_app, HS.out, rep_succ]; rfl, by first | (rw [lst_app, HT.out, rep_succ]; rfl) | (rw [HT.out]; unfold rep; simp)⟩, rfl⟩
      case neg =>
        have hnK : n = K := by omega
        subst hnK
        subst hwr
        have ht : lst (⟨#[102, 110, 32, 102, 32, 40, 32, 41, 32]⟩ ++ S ++ ⟨#[123, 32, 125]⟩ ++ T) = progText n := by
          simp only [lst_app, HS.out, HT.out]; rfl
        have hsz : ((⟨#[102, 110, 32, 102, 32, 40, 32, 41, 32]⟩ ++ S ++ ⟨#[123, 32, 125]⟩ ++ T) : ByteArray).size ≤ 4000 := by rw [← lst_size, ht]; have := prog_all _ hK45; rw [Bool.and_eq_true] at this; simpa using this.2
        have kW : Kept w ((w.alloc (.cells #[.string ⟨#[40, 32]⟩, .string ⟨#[110, 111, 116, 32]⟩, .string ⟨#[91, 32]⟩, .string ⟨#[45, 32]⟩, .string ⟨#[97, 32, 91, 32]⟩] 9)).alloc (.cells #[.string ⟨#[32, 41]⟩, .string ⟨#[]⟩, .string ⟨#[32, 93]⟩, .string ⟨#[]⟩, .string ⟨#[32, 93]⟩] 9)) := ((Kept.refl w).alloc _).alloc _
        have HC := Lib.hid (prog_num hK45 ht ((w.alloc (.cells #[.string ⟨#[40, 32]⟩, .string ⟨#[110, 111, 116, 32]⟩, .string ⟨#[91, 32]⟩, .string ⟨#[45, 32]⟩, .string ⟨#[97, 32, 91, 32]⟩] 9)).alloc (.cells #[.string ⟨#[32, 41]⟩, .string ⟨#[]⟩, .string ⟨#[32, 93]⟩, .string ⟨#[]⟩, .string ⟨#[32, 93]⟩] 9)) pL pW (HL.out.kept kW) hsz)
        have HA : Hid (∀ w1, Kept ((w.alloc (.cells #[.string ⟨#[40, 32]⟩, .string ⟨#[110, 111, 116, 32]⟩, .string ⟨#[91, 32]⟩, .string ⟨#[45, 32]⟩, .string ⟨#[97, 32, 91, 32]⟩] 9)).alloc (.cells #[.string ⟨#[32, 41]⟩, .string ⟨#[]⟩, .string ⟨#[32, 93]⟩, .string ⟨#[]⟩, .string ⟨#[32, 93]⟩] 9)) w1 → Calls Tryz.prog 7 #[] w1 fun e w' => e = .returned (.bool true) ∧ Hid (Kept w1 w')) := Lib.hid fun w1 h => Prs.awake_any w1 pL pW (HL.out.kept (kW.trans h))
        have KW := Lib.hid kW
        clear kW ht hsz
        by_cases h30 : n < 30
        case pos =>
          rw [if_pos h30] at HC
          have b1 : decide ((n : Int) < 30) = true := by simp; omega
          have b2 : decide ((30 : Int) ≤ (n : Int)) = false := by simp; omega
          go_wp2_with (first | (go_at_call 10; refine (HC.out).mono ?_; rintro e w2 ⟨⟨x2, p2, rfl⟩, K2⟩) | (go_at_call 9; refine (num_any _ _).mono ?_; rintro e w' ⟨rfl, rfl⟩) | (go_at_call 7; refine (HA.out _ K2.out).mono ?_; rintro e w3 ⟨rfl, K3⟩))
          go_ret
          exact ⟨rfl, Lib.hid (KW.out.trans (K2.out.trans K3.out))⟩
        case neg =>
          rw [if_neg h30] at HC
          have b1 : decide ((n : Int) < 30) = false := by simp; omega
          have b2 : decide ((30 : Int) ≤ (n : Int)) = true := by simp; omega
          go_wp2_with (first | (go_at_call 10; refine (HC.out).mono ?_; rintro e w2 ⟨⟨x2, p2, rfl⟩, K2⟩) | (go_at_call 9; refine (num_any _ _).mono ?_; rintro e w' ⟨rfl, rfl⟩) | (go_at_call 7; refine (HA.out _ K2.out).mono ?_; rintro e w3 ⟨rfl, K3⟩))
          go_ret
          exact ⟨rfl, Lib.hid (KW.out.trans (K2.out.trans K3.out))⟩

set_option maxRecDepth 100000 in
theorem lifted (os : Os) (started : os.Started) (H : Type) (enc : TypeId × Value → H) :
    ReturnsInHanded {} Tryz.checked os 5 .any (fun w args => (Rows.parseDeepSpec.pre enc Tryz.prog Tryz.f5 [] false w args ∧ laidMetH Tryz.prog Lex.laid3 w) ∧ sizedMet enc Tryz.prog Tryz.f5 (OpenSpec.ofChange Rows.parseDeepSpec) false w args)
      (Rows.parseDeepSpec.post enc Tryz.prog Tryz.f5 false true false false) := by
  refine returnsInHanded_of_change_and (C := Tryz.checked) (X := fun w _ => laidMetH Tryz.prog Lex.laid3 w) (fun _ _ _ hh h => h.of_heap hh) Lex.own started (by kernel_rfl) Tryz.func5
    (ChangeSpec.witness_shaped (enc := enc) (C := Tryz.checked) (os := os) (X := fun w _ => laidMetH Tryz.prog Lex.laid3 w) false (World.doorLaid Tryz.prog 400 os) #[.int .u8 0, .int .u8 0] 8 rfl (World.shaped_of_RefB (by kernel_rfl) (by kernel_rfl)) (by kernel_rfl) (by kernel_rfl) (by kernel_rfl) (Lex.door_met os _)) ?_
  intro W base args ds gs before hval0 hW _ _ hL _
  have hval : ∀ (j : Nat) t v, Tryz.f5.params[j]? = some t → args[j]? = some v → Value.okWide Tryz.prog W .any base t v := hval0
  have hW' := hW
  obtain ⟨p, q, hA0, hV, rfl, hfz, hnd⟩ := hW
  have hA : DataW.TrodAll enc Tryz.prog W 0 (fun _ => true) true Tryz.f5.params.toList args.toList ds p := hA0
  rw [Tryz.params5] at hA hval
  obtain ⟨v0, vs0, d0, ds0, p0, q0, hargs, rfl, rfl, h0, r0⟩ := trodAll_cons hA
  obtain ⟨v1, vs1, d1, ds1, p1, q1, rfl, rfl, rfl, h1, r1⟩ := trodAll_cons r0
  obtain ⟨rfl, rfl, rfl⟩ := trodAll_nil r1
  obtain rfl : args = #[v0, v1] := by cases args; simp_all
  obtain ⟨rfl, rfl⟩ := trodVars_none hV
  obtain ⟨a0, rfl, rfl, rfl, w0⟩ := open_int Tryz.underlying5 (hval 0 5 v0 rfl rfl) h0
  obtain ⟨a1, rfl, rfl, rfl, w1⟩ := open_int Tryz.underlying5 (hval 1 5 v1 rfl rfl) h1
  obtain ⟨pL, pW, hl⟩ := Lex.of_laid hL
  clear hA0 hval0
  simp only [List.append_nil] at hW'
  refine (walk a0 w0 a1 w1 W pL pW hl).mono fun e W' ⟨he, hg⟩ => ?_
  subst he
  exact ⟨_, rfl, post_kept hW' (fun _ _ _ => (trodAll_cons_mk (shut_bool Tryz.underlying4 _) trodAll_mk0)) (fun sp => (trodAll_cons_mk (shut_int Tryz.underlying5 w0) (trodAll_cons_mk (shut_int Tryz.underlying5 w1) trodAll_mk0))) (fun _ => rfl) hg.out⟩

theorem over : Rows.parseDeepRow.holds Tryz.pinned (OpenSpec.ofChange Rows.parseDeepSpec) :=
  OpenClaim.holds_of_wide 5 Tryz.f5 rfl rfl rfl rfl rfl rfl rfl ⟨rfl, rfl, rfl, rfl, rfl⟩ rfl rfl rfl rfl rfl (by kernel_rfl) Tryz.func5 (by kernel_rfl)
    (of_decide_eq_true (by kernel_rfl)) (by unfold Func.isWrapper; first | (rw [if_pos (by decide +kernel)]; kernel_rfl) | (rw [if_neg (by decide +kernel)]; exact ⟨rfl, rfl⟩))
    (fun os started H enc _ => lifted os started H enc)

/-- THE STATEMENT. -/
theorem proved : Rows.ParseDeepCardSaid :=
  Claim7.holds_tied_plain_at .later [] [.handle, .sentinel, .sentinel] true (true, "b29023782759429078f4317209754d0c5e767d3945c27fe810a7cb84ae0c08df") true
    over (fun _ h => by cases h) (by kernel_rfl) (fun _ h => by cases h) parseDeep_row_tie rfl ⟨rfl, rfl⟩ (by kernel_rfl) rfl
    (fun f fn hf hfn => by
      obtain rfl : f = 5 := Option.some.inj ((show Tryz.prog.funcNamed "calliper/calliperlaw3.ParseDeep" = some 5 by kernel_rfl).symm.trans hf) |>.symm
      obtain rfl : fn = Tryz.f5 := (Option.some.inj (Tryz.func5.symm.trans hfn)).symm
      exact ⟨by kernel_rfl, fun j t ht => by
        rw [Tryz.params5] at ht
        have hm : t ∈ [5, 5] := by simpa using Array.mem_of_getElem? ht
        have hall : ([5, 5].all fun u => !Tryz.prog.wantsStandIn u) = true := by kernel_rfl
        exact (show Tryz.prog.wantsStandIn t = false by simpa using List.all_eq_true.1 hall t hm)⟩)
    (by kernel_rfl)
#print axioms proved
end Go.Proofs.YthfbljemgoiggaaGreatDoor.parseDeep
