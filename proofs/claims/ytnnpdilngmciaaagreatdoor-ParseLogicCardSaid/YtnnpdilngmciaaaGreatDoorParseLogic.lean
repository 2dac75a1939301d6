/-
  Proved: the statement 'ParseLogicCardSaid' of the seat: for every input that law returns true, and each argument reads afterwards as it read before; the three package variables that its row lists are tied to the program's text. No condition of ours.
-/
import Derived.Test.YtnnpdilngmciaaaGreatDoorRows
import Derived.Test.YtnnpdilngmciaaaGreatDoorTie
import Derived.Test.YtnnpdilngmciaaaGreatDoorCards
import Derived.Test.YtnnpdilngmciaaaGreatDoorLexR
import Derived.ChangeMaps5
import Derived.ChangeSlices
import Derived.ChangeOld
import Derived.Deep.Grids
import Derived.Test.YtnnpdilngmciaaaGreatDoorPrsW
import Derived.Test.YtnnpdilngmciaaaGreatDoorPrsZ
import Derived.Test.YtnnpdilngmciaaaGreatDoorCell
import Derived.OwnWalk
namespace Go.Proofs.YtnnpdilngmciaaaGreatDoor.parseLogic
open Go.RowKit Go.ChangeShapes Go.WideShapes Go.ChangeAt
open Go.ChangeMaps (open_string shut_string)
open Lex (Laid lst)
theorem laidOut : laidOutB Tryz.prog = true := by kernel_rfl
/-- A slice of integers that came in. -/
def IsRow (k : IntKind) (w : World) (a : Option Addr) (len cap : Nat) (zs : List Int) : Prop :=
  (a = none ∧ len = 0 ∧ cap = 0 ∧ zs = []) ∨ ∃ x, a = some x ∧ len ≤ cap ∧ cap ≤ maxLen ∧ zs.length = cap ∧ (∀ i, i < zs.length → w.cell? (x.add i) = some (.int k (zs.getD i 0))) ∧ ∀ n ∈ zs, (Lit.int k n).wf = true
/-- A slice of bools that came in. -/
def IsRowB (w : World) (a : Option Addr) (len cap : Nat) (B : Nat → Bool) : Prop :=
  (a = none ∧ len = 0 ∧ cap = 0) ∨ ∃ x, a = some x ∧ len ≤ cap ∧ cap ≤ maxLen ∧ ∀ i, i < cap → w.cell? (x.add i) = some (.bool (B i))
open Lex Prs
theorem lst_app (a b : ByteArray) : lst (a ++ b) = lst a ++ lst b := by unfold lst; simp [ByteArray.data_append]
theorem lst_size (a : ByteArray) : (lst a).length = a.size := lst_length a
theorem add_is (b off i : Nat) : (⟨b, off, none⟩ : Addr).add i = ⟨b, off + i, none⟩ := by unfold Addr.add; split <;> simp_all
/-- The text so far. -/
def logT (B : Nat → Bool) : Nat → List UInt8
  | 0 => [97, 32, 61, 61, 32, 48]
  | i + 1 => logT B i ++ (32 :: (lw (B (i + 1)) ++ [32, 97, 32, 61, 61, 32, 48]))
def wordsOf (B : Nat → Bool) (N : Nat) : List Bool := (List.range (N - 1)).map fun j => B (j + 1)
theorem wordsOf_len (B : Nat → Bool) (N : Nat) : (wordsOf B N).length = N - 1 := by simp [wordsOf]
theorem wordsOf_get (B : Nat → Bool) (N j : Nat) (h : j < N - 1) : (wordsOf B N).getD j true = B (j + 1) := by simp [wordsOf, List.getD, h]
theorem logT_lg (B : Nat → Bool) (E : List UInt8) (m : Nat) (bs : List Bool) : logT B m ++ lgT E bs = 97 :: 32 :: 61 :: 61 :: 32 :: 48 :: lgT E ((List.range m).map (fun j => B (j + 1)) ++ bs) := by
  induction m generalizing bs with
  | zero => rfl
  | succ m ih =>
    have := ih (B (m + 1) :: bs)
    simp only [logT, lgT, List.range_succ, List.map_append, List.append_assoc, List.cons_append, List.nil_append, List.map_cons, List.map_nil] at this ⊢
    exact this
theorem logT_len (B : Nat → Bool) (m : Nat) : (logT B m).length ≤ 11 * m + 6 := by
  induction m with
  | zero => simp [logT]
  | succ m ih =>
    have : (lw (B (m + 1))).length ≤ 3 := by cases B (m + 1) <;> decide
    simp [logT]; omega
/-- The last 'or' so far, the last 'and' so far. -/
def LastOr (B : Nat → Bool) (n : Nat) (O : Int) : Prop := (O = -1 ∧ ∀ j, 1 ≤ j → j < n → B j = true) ∨ ∃ o : Nat, O = (o : Int) ∧ 1 ≤ o ∧ o < n ∧ B o = false ∧ ∀ j, o < j → j < n → B j = true
def LastAnd (B : Nat → Bool) (n : Nat) (A : Int) : Prop := (A = -1 ∧ ∀ j, 1 ≤ j → j < n → B j = false) ∨ ∃ a : Nat, A = (a : Int) ∧ 1 ≤ a ∧ a < n ∧ B a = true ∧ ∀ j, a < j → j < n → B j = false
theorem LastOr.keep {B : Nat → Bool} {n : Nat} {O : Int} (h : LastOr B n O) (hb : B n = true) : LastOr B (n + 1) O := by
  rcases h with ⟨e, h⟩ | ⟨o, e, h1, h2, h3, h4⟩
  · exact .inl ⟨e, fun j a b => by rcases Nat.lt_or_ge j n with c | c; exact h j a c; rw [show j = n by omega]; exact hb⟩
  · exact .inr ⟨o, e, h1, by omega, h3, fun j a b => by rcases Nat.lt_or_ge j n with c | c; exact h4 j a c; rw [show j = n by omega]; exact hb⟩
theorem LastAnd.keep {B : Nat → Bool} {n : Nat} {A : Int} (h : LastAnd B n A) (hb : B n = false) : LastAnd B (n + 1) A := by
  rcases h with ⟨e, h⟩ | ⟨o, e, h1, h2, h3, h4⟩
  · exact .inl ⟨e, fun j a b => by rcases Nat.lt_or_ge j n with c | c; exact h j a c; rw [show j = n by omega]; exact hb⟩
  · exact .inr ⟨o, e, h1, by omega, h3, fun j a b => by rcases Nat.lt_or_ge j n with c | c; exact h4 j a c; rw [show j = n by omega]; exact hb⟩
theorem LastOr.new {B : Nat → Bool} {n : Nat} (h1 : 1 ≤ n) (hb : B n = false) : LastOr B (n + 1) (n : Int) := .inr ⟨n, rfl, h1, by omega, hb, fun j a b => by omega⟩
theorem LastAnd.new {B : Nat → Bool} {n : Nat} (h1 : 1 ≤ n) (hb : B n = true) : LastAnd B (n + 1) (n : Int) := .inr ⟨n, rfl, h1, by omega, hb, fun j a b => by omega⟩
/-- The root that the law finds is the one that the list has. -/
theorem log_root {B : Nat → Bool} {N q : Nat} {nodes : List Cn} {O A : Int} (hN : 2 ≤ N) (hl : Lg (wordsOf B N) (N - 1) q nodes) (ho : LastOr B N O) (ha : LastAnd B N A) :
    ∃ h : 2 * N - 3 < nodes.length, (∃ o : Nat, O = (o : Int) ∧ 1 ≤ o ∧ o < N ∧ nodes[2 * N - 3].kind = 4 ∧ nodes[2 * N - 3].a = ((q - 1 + (2 * o - 2) : Nat) : Int)) ∨ (O = -1 ∧ A = ((N - 1 : Nat) : Int) ∧ nodes[2 * N - 3].kind = 3 ∧ nodes[2 * N - 3].a = ((q - 1 + (2 * N - 4) : Nat) : Int)) := by
  have hlen := hl.len
  have hlt : 2 * N - 3 < nodes.length := by omega
  obtain ⟨e, l3, hc⟩ := hl.last (by omega)
  have he : nodes[2 * N - 3] = e := by
    rw [List.getLast?_eq_getElem?, show nodes.length - 1 = 2 * N - 3 by omega, List.getElem?_eq_getElem hlt] at l3
    exact Option.some.inj l3
  refine ⟨hlt, ?_⟩
  rw [he]
  rcases hc with ⟨r, hr, hb, hall, hk, hae⟩ | ⟨hall, hk, hae⟩
  · rw [wordsOf_get _ _ _ hr] at hb
    left
    rcases ho with ⟨_, h⟩ | ⟨o, eo, h1, h2, h3, h4⟩
    · have := h (r + 1) (by omega) (by omega); rw [this] at hb; cases hb
    · refine ⟨o, eo, h1, h2, hk, ?_⟩
      have : o = r + 1 := by
        rcases Nat.lt_trichotomy o (r + 1) with c | c | c
        · have := h4 (r + 1) c (by omega); rw [this] at hb; cases hb
        · exact c
        · have := hall (o - 1) (by omega) (by omega)
          rw [wordsOf_get _ _ _ (by omega), show o - 1 + 1 = o by omega, h3] at this; cases this
      rw [hae, this]; congr 1
  · right
    have hB : ∀ j, 1 ≤ j → j < N → B j = true := fun j a b => by
      have := hall (j - 1) (by omega)
      rwa [wordsOf_get _ _ _ (by omega), show j - 1 + 1 = j by omega] at this
    rcases ho with ⟨eo, _⟩ | ⟨o, eo, h1, h2, h3, h4⟩
    · rcases ha with ⟨_, h⟩ | ⟨a, ea, h1, h2, h3, h4⟩
      · have := h 1 (by omega) (by omega); rw [hB 1 (by omega) (by omega)] at this; cases this
      · refine ⟨eo, ?_, hk, ?_⟩
        · rw [ea]; congr 1
          rcases Nat.lt_or_ge a (N - 1) with c | c
          · have := h4 (N - 1) c (by omega); rw [hB _ (by omega) (by omega)] at this; cases this
          · omega
        · rw [hae]; congr 1; omega
    · rw [hB o h1 h2] at h3; cases h3
theorem get_one {a : Cn} {c : List Cn} {M i : Nat} (h : M < (a :: c).length) (hi : i < c.length) (e : M = i + 1) : (a :: c)[M] = c[i] := by subst e; rfl
theorem get_two {a b : Cn} {c : List Cn} {M i : Nat} (h : M < (a :: b :: c).length) (hi : i < c.length) (e : M = i + 2) : (a :: b :: c)[M] = c[i] := by subst e; rfl
theorem get_end {a : Cn} {c : List Cn} {M : Nat} (h : M < (c ++ [a]).length) (e : M = c.length) : (c ++ [a])[M] = a := by subst e; simp
theorem own_slice {w : World} {B : Nat} {t : TypeId} {k n : Nat} {v : Value} {xs : List Value} (h : w.ownsRow B t k v n xs) : ∃ p l c, v = .slice p l c := by
  rcases h.2 with ⟨e, _⟩ | ⟨g, cap, cur, hv, _⟩
  · exact ⟨_, _, _, e⟩
  · exact ⟨_, _, _, hv⟩
structure LogAt (B : Nat → Bool) (N k : Nat) (s a o i : Value) (n : Nat) (S : ByteArray) (A O : Int) : Prop where
  hk : k = N - n
  hi : i = .int .i64 n
  h1 : 1 ≤ n
  hn : n ≤ N
  hs : s = .string S
  hS : lst S = logT B (n - 1)
  ha : a = .int .i64 A
  ho : o = .int .i64 O
  hA : LastAnd B n A
  hO : LastOr B n O
set_option maxHeartbeats 4000000 in
set_option maxRecDepth 100000 in
theorem walk (a0 : Option Addr) (len0 cap0 : Nat) (z0 : Nat → Bool) (a1 : Int) (w1 : (Lit.int .u8 a1).wf = true) (w : World) (w0 : IsRowB w a0 len0 cap0 z0) (pL pW : Addr) (hL : Laid w pL pW) : Calls Tryz.prog 4 #[.slice a0 len0 cap0, .int .u8 a1] w fun e w' => e = .returned (.bool true) ∧ Hid (Kept w w') := by
  have _hw := w1
  clear _hw w1
  have HL := Lib.hid hL
  have HA : Hid (∀ w1, Kept w w1 → Calls Tryz.prog 7 #[] w1 fun e w' => e = .returned (.bool true) ∧ Hid (Kept w1 w')) := Lib.hid fun w1 h => Prs.awake_any w1 pL pW (HL.out.kept h)
  clear hL
  rcases w0 with ⟨rfl, rfl, rfl⟩ | ⟨⟨b, off, spot⟩, rfl, hle, hmx, hcell⟩
  · go_enter Tryz.func4, Tryz.ntmps4
    go_wp2_with (go_at_call 7; refine (HA.out _ (Kept.refl _)).mono ?_; rintro e w1 ⟨rfl, K1⟩)
    go_ret
    exact ⟨rfl, K1⟩
  by_cases h2 : len0 < 2
  · have b1 : decide ((len0 : Int) < 2) = true := by simp; omega
    go_enter Tryz.func4, Tryz.ntmps4
    go_wp2_with (go_at_call 7; refine (HA.out _ (Kept.refl _)).mono ?_; rintro e w1 ⟨rfl, K1⟩)
    go_ret
    exact ⟨rfl, K1⟩
  have b1 : decide ((len0 : Int) < 2) = false := by simp; omega
  by_cases h20 : 20 < len0
  · have b2 : decide ((20 : Int) < len0) = true := by simp; omega
    go_enter Tryz.func4, Tryz.ntmps4
    go_wp2_with (go_at_call 7; refine (HA.out _ (Kept.refl _)).mono ?_; rintro e w1 ⟨rfl, K1⟩)
    go_ret
    exact ⟨rfl, K1⟩
  have b2 : decide ((20 : Int) < len0) = false := by simp; omega
  have hspot : spot = none := by simpa [Addr.add] using World.cell?_spot (hcell 0 (by omega))
  subst hspot
  have hb : b < w.heap.size := World.block_lt_of_cell? _ _ (hcell 0 (by omega))
  have HG : Hid (∀ i, i < len0 → w.cell? ⟨b, off + i, none⟩ = some (.bool (z0 i))) := Lib.hid fun i hi => by rw [← add_is]; exact hcell i (by omega)
  clear hcell
  go_enter Tryz.func4, Tryz.ntmps4
  go_wp2_with fail
  go_loopg [5, 6, 7, 8] (len0 - 1) (fun k s a o i wx => (∃ n S A O, LogAt z0 len0 k s a o i n S A O) ∧ Kept w wx)
  case atStart => exact ⟨⟨1, ⟨#[97, 32, 61, 61, 32, 48]⟩, -1, -1, rfl, rfl, Nat.le_refl _, by omega, rfl, rfl, rfl, rfl, .inl ⟨rfl, fun j _ _ => by omega⟩, .inl ⟨rfl, fun j _ _ => by omega⟩⟩, Kept.refl _⟩
  case round =>
    obtain ⟨⟨n, S, A, O, hd⟩, hW⟩ := hrel
    obtain ⟨hk1, hi1, h11, hn1, hs1, hS, ha1, ho1, hA1, hO1⟩ := hd
    subst hi1 hs1 ha1 ho1
    have sS : S.size ≤ 215 := by rw [← lst_size, hS]; have := logT_len z0 (n - 1); omega
    have HS := Lib.hid hS
    have HW := Lib.hid hW
    have Hk1 := Lib.hid hk1
    have HA1 := Lib.hid hA1
    have HO1 := Lib.hid hO1
    clear hS hk1 hW hA1 hO1
    by_cases hlt : n < len0
    case pos =>
      have c1 : wr.cell? ⟨b, off + n, none⟩ = some (.bool (z0 n)) := (Below.cell (p := ⟨b, off + n, none⟩) HW.out hb).trans (HG.out n hlt)
      cases hbn : z0 n
      case true =>
        rw [hbn] at c1
        have Hb := Lib.hid hbn
        clear hbn
        go_wp2_with fail
        go_roundg (len0 - (n + 1))
        case measure => have := Hk1.out; omega
        case rel =>
          refine ⟨⟨n + 1, _, _, _, rfl, by simp, by omega, by omega, rfl, ?_, rfl, rfl, LastAnd.new h11 Hb.out, HO1.out.keep Hb.out⟩, HW.out⟩
          obtain ⟨q, rfl⟩ : ∃ q, n = q + 1 := ⟨n - 1, by omega⟩
          simp only [lst_app, HS.out]
          simp [logT, lst, lw, Hb.out]
      case false =>
        rw [hbn] at c1
        have Hb := Lib.hid hbn
        clear hbn
        go_wp2_with fail
        go_roundg (len0 - (n + 1))
        case measure => have := Hk1.out; omega
        case rel =>
          refine ⟨⟨n + 1, _, _, _, rfl, by simp, by omega, by omega, rfl, ?_, rfl, rfl, HA1.out.keep Hb.out, LastOr.new h11 Hb.out⟩, HW.out⟩
          obtain ⟨q, rfl⟩ : ∃ q, n = q + 1 := ⟨n - 1, by omega⟩
          simp only [lst_app, HS.out]
          simp [logT, lst, lw, Hb.out]
    case neg =>
      obtain rfl : n = len0 := by omega
      have hT : ∀ E, lst S ++ E = 97 :: 32 :: 61 :: 61 :: 32 :: 48 :: lgT E (wordsOf z0 n) := fun E => by
        have := logT_lg z0 E (n - 1) []
        rw [List.append_nil] at this
        rw [HS.out]; exact this
      have hT0 := hT []
      rw [List.append_nil] at hT0
      have hw20 : (wordsOf z0 n).length ≤ 20 := by rw [wordsOf_len]; omega
      have hlex1 := lexF_lg (wordsOf z0 n) hw20
      rw [← hT0] at hlex1
      have hlex2 := lexF_not (wordsOf z0 n) hw20
      rw [← hT0, show 110 :: 111 :: 116 :: 32 :: lst S = lst (⟨#[110, 111, 116, 32]⟩ ++ S) by rw [lst_app]; rfl] at hlex2
      have hlex3 := lexF_in (wordsOf z0 n) hw20
      rw [← hT [32, 93], show 110 :: 111 :: 116 :: 32 :: 91 :: 32 :: (lst S ++ [32, 93]) = lst (⟨#[110, 111, 116, 32, 91, 32]⟩ ++ S ++ ⟨#[32, 93]⟩) by rw [lst_app, lst_app]; rfl] at hlex3
      obtain ⟨f1, c1, hc1, hg1⟩ := cond_lg (wordsOf z0 n)
      obtain ⟨f2, c2, hc2, hg2⟩ := cond_not (wordsOf z0 n)
      obtain ⟨f3, c3, hc3, hg3⟩ := cond_in (wordsOf z0 n)
      rw [wordsOf_len] at hg1 hg2 hg3
      have s4 : (⟨#[110, 111, 116, 32]⟩ : ByteArray).size = 4 := rfl
      have s6 : (⟨#[110, 111, 116, 32, 91, 32]⟩ : ByteArray).size = 6 := rfl
      have s2 : (⟨#[32, 93]⟩ : ByteArray).size = 2 := rfl
      have HC1 : Hid (∀ w1, Kept w w1 → Calls Tryz.prog 8 #[.string S] w1 (CondTop w1 (.ok (relN 0 2 5 :: c1)))) := Lib.hid fun w1 h => Cond_toks w1 pL pW (HL.out.kept h) (by omega) hlex1 hc1
      have HC2 : Hid (∀ w1, Kept w w1 → Calls Tryz.prog 8 #[.string (⟨#[110, 111, 116, 32]⟩ ++ S)] w1 (CondTop w1 (.ok (relN 4 6 9 :: notN 0 :: c2)))) := Lib.hid fun w1 h => Cond_toks w1 pL pW (HL.out.kept h) (by rw [ByteArray.size_append, s4]; omega) hlex2 hc2
      have HC3 : Hid (∀ w1, Kept w w1 → Calls Tryz.prog 8 #[.string (⟨#[110, 111, 116, 32, 91, 32]⟩ ++ S ++ ⟨#[32, 93]⟩)] w1 (CondTop w1 (.ok (c3 ++ [notN (c3.length - 1)])))) := Lib.hid fun w1 h => Cond_toks w1 pL pW (HL.out.kept h) (by rw [ByteArray.size_append, ByteArray.size_append, s6, s2]; omega) hlex3 hc3
      clear hT hT0 hw20 hlex1 hlex2 hlex3 hc1 hc2 hc3 s4 s6 s2
      obtain ⟨hl1, hr1⟩ := log_root (by omega) hg1 HO1.out HA1.out
      obtain ⟨hl2, hr2⟩ := log_root (by omega) hg2 HO1.out HA1.out
      obtain ⟨E, hE⟩ : ∃ E, E = c1[2 * n - 3] := ⟨_, rfl⟩
      obtain ⟨F, hF⟩ : ∃ F, F = c2[2 * n - 3] := ⟨_, rfl⟩
      rw [← hE] at hr1
      rw [← hF] at hr2
      have Hr := Lib.hid (And.intro hr1 hr2)
      clear hr1 hr2
      have q1 := hg1.len
      have q2 := hg2.len
      obtain ⟨M, hM⟩ : ∃ M, M = 2 * n - 2 := ⟨_, rfl⟩
      obtain ⟨P, hP⟩ : ∃ P, P = 2 * n - 1 := ⟨_, rfl⟩
      have n1 : (relN 0 2 5 :: c1).length = M + 1 := by simp; omega
      have n2 : (relN 4 6 9 :: notN 0 :: c2).length = P + 1 := by simp; omega
      have n3 : (c3 ++ [notN (c3.length - 1)]).length = P + 1 := by simp; omega
      have i1 : ∀ h, (relN 0 2 5 :: c1)[M]'h = E := fun h => by rw [hE]; exact get_one h hl1 (by omega)
      have i2 : ∀ h, (relN 4 6 9 :: notN 0 :: c2)[P]'h = F := fun h => by rw [hF]; exact get_two h hl2 (by omega)
      have i3 : ∀ h, (c3 ++ [notN (c3.length - 1)])[P]'h = notN (c3.length - 1) := fun h => get_end h (by omega)
      have HI := Lib.hid (And.intro i1 (And.intro i2 i3))
      have HN := Lib.hid (And.intro n1 (And.intro n2 n3))
      have HM := Lib.hid (And.intro hM hP)
      clear hE hF i1 i2 i3 n1 n2 n3 hM hP hl1 hl2 hg1 hg2 hg3 q1 q2
      go_upto_region 13 with (go_at_call 8; refine (HC1.out _ HW.out).mono ?_; rintro e w2 ⟨v1, rfl, H2⟩)
      have HW2 := Lib.hid (HW.out.trans H2.out.1)
      go_upto_region 14 with (go_at_call 8; refine (HC2.out _ HW2.out).mono ?_; rintro e w3 ⟨v2, rfl, H3⟩)
      have HW3 := Lib.hid (HW2.out.trans H3.out.1)
      go_upto_region 15 with (go_at_call 8; refine (HC3.out _ HW3.out).mono ?_; rintro e w4 ⟨v3, rfl, H4⟩)
      have HW4 := Lib.hid (HW3.out.trans H4.out.1)
      obtain ⟨g1, k1, v1e, hk1, hk1m, hb1, hcells1⟩ := cn_cell H2.out.2 (by have := HN.out.1; omega)
      obtain ⟨g2, k2, v2e, hk2, hk2m, hb2, hcells2⟩ := cn_cell H3.out.2 (by have := HN.out.2.1; omega)
      obtain ⟨g3, k3, v3e, hk3, hk3m, hb3, hcells3⟩ := cn_cell H4.out.2 (by have := HN.out.2.2; omega)
      rw [HN.out.1] at v1e hk1
      rw [HN.out.2.1] at v2e hk2
      rw [HN.out.2.2] at v3e hk3
      subst v1e v2e v3e
      obtain ⟨xA, yA, a0, a1, a2, a3, a4, a5, a6, hxA, hyA⟩ := hcells1 M (by have := HN.out.1; omega)
      obtain ⟨pA, lA, cA, rfl⟩ := own_slice hxA
      obtain ⟨pB, lB, cB, rfl⟩ := own_slice hyA
      clear hxA hyA
      obtain ⟨_, _, b0, -⟩ := hcells2 1 (by have := HN.out.2.1; have := HM.out.2; omega)
      obtain ⟨_, _, d0, -⟩ := hcells2 P (by have := HN.out.2.1; omega)
      obtain ⟨_, _, e0, -⟩ := hcells3 P (by have := HN.out.2.2; omega)
      rw [HI.out.1] at a0 a1 a4 a5 a6
      rw [HI.out.2.1] at d0
      rw [HI.out.2.2] at e0
      have K24 := H3.out.1.trans H4.out.1
      have mv1 : ∀ j u, w2.cell? ⟨g1, j, none⟩ = some u → w4.cell? ⟨g1, j, none⟩ = some u := fun j u h => (Below.cell (p := ⟨g1, j, none⟩) K24 hb1).trans h
      have mv2 : ∀ j u, w3.cell? ⟨g2, j, none⟩ = some u → w4.cell? ⟨g2, j, none⟩ = some u := fun j u h => (Below.cell (p := ⟨g2, j, none⟩) H4.out.1 hb2).trans h
      replace a0 := mv1 _ _ a0
      replace a1 := mv1 _ _ a1
      replace a2 := mv1 _ _ a2
      replace a3 := mv1 _ _ a3
      replace a4 := mv1 _ _ a4
      replace a5 := mv1 _ _ a5
      replace a6 := mv1 _ _ a6
      replace b0 : w4.cell? ⟨g2, 7, none⟩ = some (.int .i64 2) := mv2 _ _ b0
      replace d0 := mv2 _ _ d0
      replace e0 : w4.cell? ⟨g3, P * 7, none⟩ = some (.int .i64 2) := e0
      have Pe := HM.out.2
      have Me := HM.out.1
      have e1 : (M : Int) + 1 = 2 * (n : Int) - 1 := by omega
      have e2 : (P : Int) = (M : Int) + 1 := by omega
      have hPb : 2 ≤ P ∧ P ≤ 39 := by omega
      have hMb : M ≤ 38 := by omega
      clear mv1 mv2 hcells1 hcells2 hcells3 K24 Pe Me
      have HR := Hr.out
      clear HI HN Hr
      rcases HR with ⟨⟨o, rfl, ho1, ho2, x1, x2⟩ | ⟨rfl, rfl, x1, x2⟩, y⟩
      · have y1 : F.kind = 4 := by rcases y with ⟨_, _, _, _, h, _⟩ | ⟨h, _⟩; exact h; omega
        clear y
        rw [x1] at a0
        rw [y1] at d0
        rw [x2] at a4
        replace a4 : w4.cell? ⟨g1, M * 7 + 4, none⟩ = some (.int .i64 (2 * (o : Int) - 2)) := by rw [a4]; congr 2; omega
        clear x1 x2 y1
        go_upto_region 17 with (go_at_call 9; refine (num_any _ _).mono ?_; rintro e w' ⟨rfl, rfl⟩)
        clear e1 e2
        go_upto_region 18 with fail
        have hk7 : Kept w (w4.alloc (.cells #[.int .i64 4, .int .i64 E.rel, (.slice pA lA cA), (.slice pB lB cB), .int .i64 (2 * (o : Int) - 2), .int .i64 E.b, .int .i64 E.place] 33)) := HW4.out.alloc _
        have mv : ∀ g j u, w4.cell? ⟨g, j, none⟩ = some u → (w4.alloc (.cells #[.int .i64 4, .int .i64 E.rel, (.slice pA lA cA), (.slice pB lB cB), .int .i64 (2 * (o : Int) - 2), .int .i64 E.b, .int .i64 E.place] 33)).cell? ⟨g, j, none⟩ = some u := fun g j u h => (Below.cell (p := ⟨g, j, none⟩) ((Kept.refl w4).alloc _) (World.block_lt_of_cell? _ _ h)).trans h
        replace b0 := mv _ _ _ b0
        replace d0 := mv _ _ _ d0
        replace e0 := mv _ _ _ e0
        have z0' : (w4.alloc (.cells #[.int .i64 4, .int .i64 E.rel, (.slice pA lA cA), (.slice pB lB cB), .int .i64 (2 * (o : Int) - 2), .int .i64 E.b, .int .i64 E.place] 33)).cell? ⟨w4.heap.size, 0, none⟩ = some (.int .i64 4) := by simp
        have z4' : (w4.alloc (.cells #[.int .i64 4, .int .i64 E.rel, (.slice pA lA cA), (.slice pB lB cB), .int .i64 (2 * (o : Int) - 2), .int .i64 E.b, .int .i64 E.place] 33)).cell? ⟨w4.heap.size, 4, none⟩ = some (.int .i64 (2 * (o : Int) - 2)) := by simp
        have Hk7 := Lib.hid hk7
        clear hk7 mv a0 a1 a2 a3 a4 a5 a6
        generalize w4.alloc (.cells #[.int .i64 4, .int .i64 E.rel, (.slice pA lA cA), (.slice pB lB cB), .int .i64 (2 * (o : Int) - 2), .int .i64 E.b, .int .i64 E.place] 33) = W5 at *
        go_wp2_with (go_at_call 7; refine (HA.out _ Hk7.out).mono ?_; rintro e w6 ⟨rfl, Hk8⟩)
        go_ret
        exact ⟨rfl, Lib.hid (Hk7.out.trans Hk8.out)⟩
      · have y1 : F.kind = 3 := by rcases y with ⟨_, h, _⟩ | ⟨_, _, h, _⟩; omega; exact h
        clear y
        rw [x1] at a0
        rw [y1] at d0
        rw [x2] at a4
        obtain ⟨m, rfl⟩ : ∃ m, n = m + 1 := ⟨n - 1, by omega⟩
        rw [Nat.add_sub_cancel]
        replace a4 : w4.cell? ⟨g1, M * 7 + 4, none⟩ = some (.int .i64 (2 * (m : Int) - 2)) := by rw [a4]; congr 2; omega
        clear x1 x2 y1
        go_upto_region 17 with (go_at_call 9; refine (num_any _ _).mono ?_; rintro e w' ⟨rfl, rfl⟩)
        clear e1 e2
        go_upto_region 18 with fail
        have hk7 : Kept w (w4.alloc (.cells #[.int .i64 3, .int .i64 E.rel, (.slice pA lA cA), (.slice pB lB cB), .int .i64 (2 * (m : Int) - 2), .int .i64 E.b, .int .i64 E.place] 33)) := HW4.out.alloc _
        have mv : ∀ g j u, w4.cell? ⟨g, j, none⟩ = some u → (w4.alloc (.cells #[.int .i64 3, .int .i64 E.rel, (.slice pA lA cA), (.slice pB lB cB), .int .i64 (2 * (m : Int) - 2), .int .i64 E.b, .int .i64 E.place] 33)).cell? ⟨g, j, none⟩ = some u := fun g j u h => (Below.cell (p := ⟨g, j, none⟩) ((Kept.refl w4).alloc _) (World.block_lt_of_cell? _ _ h)).trans h
        replace b0 := mv _ _ _ b0
        replace d0 := mv _ _ _ d0
        replace e0 := mv _ _ _ e0
        have z0' : (w4.alloc (.cells #[.int .i64 3, .int .i64 E.rel, (.slice pA lA cA), (.slice pB lB cB), .int .i64 (2 * (m : Int) - 2), .int .i64 E.b, .int .i64 E.place] 33)).cell? ⟨w4.heap.size, 0, none⟩ = some (.int .i64 3) := by simp
        have z4' : (w4.alloc (.cells #[.int .i64 3, .int .i64 E.rel, (.slice pA lA cA), (.slice pB lB cB), .int .i64 (2 * (m : Int) - 2), .int .i64 E.b, .int .i64 E.place] 33)).cell? ⟨w4.heap.size, 4, none⟩ = some (.int .i64 (2 * (m : Int) - 2)) := by simp
        have Hk7 := Lib.hid hk7
        clear hk7 mv a0 a1 a2 a3 a4 a5 a6
        generalize w4.alloc (.cells #[.int .i64 3, .int .i64 E.rel, (.slice pA lA cA), (.slice pB lB cB), .int .i64 (2 * (m : Int) - 2), .int .i64 E.b, .int .i64 E.place] 33) = W5 at *
        go_wp2_with (go_at_call 7; refine (HA.out _ Hk7.out).mono ?_; rintro e w6 ⟨rfl, Hk8⟩)
        go_ret
        exact ⟨rfl, Lib.hid (Hk7.out.trans Hk8.out)⟩

set_option maxRecDepth 100000 in
theorem lifted (os : Os) (started : os.Started) (H : Type) (enc : TypeId × Value → H) :
    ReturnsInHanded {} Tryz.checked os 4 .any (fun w args => (Rows.parseLogicSpec.pre enc Tryz.prog Tryz.f4 [] false w args ∧ laidMetH Tryz.prog Lex.laid3 w) ∧ sizedMet enc Tryz.prog Tryz.f4 (OpenSpec.ofChange Rows.parseLogicSpec) false w args)
      (Rows.parseLogicSpec.post enc Tryz.prog Tryz.f4 false true false false) := by
  refine returnsInHanded_of_change_and (C := Tryz.checked) (X := fun w _ => laidMetH Tryz.prog Lex.laid3 w) (fun _ _ _ hh h => h.of_heap hh) Lex.own started (by kernel_rfl) Tryz.func4
    (ChangeSpec.witness_shaped (enc := enc) (C := Tryz.checked) (os := os) (X := fun w _ => laidMetH Tryz.prog Lex.laid3 w) false (World.doorLaid Tryz.prog 400 os) #[.slice none 0 0, .int .u8 0] 8 rfl (World.shaped_of_RefB (by kernel_rfl) (by kernel_rfl)) (by kernel_rfl) (by kernel_rfl) (by kernel_rfl) (Lex.door_met os _)) ?_
  intro W base args ds gs before hval0 hW _ _ hL _
  have hval : ∀ (j : Nat) t v, Tryz.f4.params[j]? = some t → args[j]? = some v → Value.okWide Tryz.prog W .any base t v := hval0
  have hW' := hW
  obtain ⟨p, q, hA0, hV, rfl, hfz, hnd⟩ := hW
  have hA : DataW.TrodAll enc Tryz.prog W 0 (fun _ => true) true Tryz.f4.params.toList args.toList ds p := hA0
  rw [Tryz.params4] at hA hval
  obtain ⟨v0, vs0, d0, ds0, p0, q0, hargs, rfl, rfl, h0, r0⟩ := trodAll_cons hA
  obtain ⟨v1, vs1, d1, ds1, p1, q1, rfl, rfl, rfl, h1, r1⟩ := trodAll_cons r0
  obtain ⟨rfl, rfl, rfl⟩ := trodAll_nil r1
  obtain rfl : args = #[v0, v1] := by cases args; simp_all
  obtain ⟨rfl, rfl⟩ := trodVars_none hV
  obtain ⟨a0, len0, cap0, rfl⟩ := okWide_slice Tryz.underlying37 (hval 0 37 v0 rfl rfl)
  have k0 := h0
  have lt0 : ∀ x ∈ p0, x.block < W.heap.size := by obtain ⟨m, hm⟩ := k0; exact DataW.trod_lt m _ _ _ hm
  obtain ⟨z0, w0⟩ : ∃ zs, IsRowB W a0 len0 cap0 zs := by
    obtain ⟨fuel, hf⟩ := h0
    rcases Go.Deep.open_bools Tryz.underlying37 Tryz.underlying4 (by kernel_rfl) hf with ⟨hcs, _⟩ | ⟨x, l, c, zs, hcs, _, hl, hm, _, hcell⟩
    · simp [Value.cells] at hcs
      obtain ⟨rfl, rfl, rfl⟩ := hcs
      exact ⟨fun _ => false, .inl ⟨rfl, rfl, rfl⟩⟩
    · simp [Value.cells] at hcs
      obtain ⟨rfl, rfl, rfl⟩ := hcs
      exact ⟨zs, .inr ⟨_, rfl, hl, hm, hcell⟩⟩
  obtain ⟨a1, rfl, rfl, rfl, w1⟩ := open_int Tryz.underlying5 (hval 1 5 v1 rfl rfl) h1
  obtain ⟨pL, pW, hl⟩ := Lex.of_laid hL
  clear hA0 hval0
  refine (walk a0 len0 cap0 z0 a1 w1 W w0 pL pW hl).mono fun e W' ⟨he, hg⟩ => ?_
  subst he
  have bel : Below W.heap.size W W' := hg.out
  exact ⟨_, rfl, _, _, _, [], _, [], hW', trodAll_mk1 (shut_bool Tryz.underlying4 _), (trodAll_cons_mk (Below.trod laidOut (by kernel_rfl) (of_decide_eq_true (by kernel_rfl)) k0 bel lt0) (trodAll_cons_mk (shut_int Tryz.underlying5 w1) trodAll_mk0)), rfl, bel.frame _, fun h => by cases h⟩

theorem over : Rows.parseLogicRow.holds Tryz.pinned (OpenSpec.ofChange Rows.parseLogicSpec) :=
  OpenClaim.holds_of_wide 4 Tryz.f4 rfl rfl rfl rfl rfl rfl rfl ⟨rfl, rfl, rfl, rfl, rfl⟩ rfl rfl rfl rfl rfl (by kernel_rfl) Tryz.func4 (by kernel_rfl)
    (of_decide_eq_true (by kernel_rfl)) (by unfold Func.isWrapper; first | (rw [if_pos (by decide +kernel)]; kernel_rfl) | (rw [if_neg (by decide +kernel)]; exact ⟨rfl, rfl⟩))
    (fun os started H enc _ => lifted os started H enc)

/-- THE STATEMENT. -/
theorem proved : Rows.ParseLogicCardSaid :=
  Claim7.holds_tied_plain_at .later [] [.handle, .sentinel, .sentinel] true (true, "b29023782759429078f4317209754d0c5e767d3945c27fe810a7cb84ae0c08df") true
    over (fun _ h => by cases h) (by kernel_rfl) (fun _ h => by cases h) parseLogic_row_tie rfl ⟨rfl, rfl⟩ (by kernel_rfl) rfl
    (fun f fn hf hfn => by
      obtain rfl : f = 4 := Option.some.inj ((show Tryz.prog.funcNamed "calliper/calliperlaw3.ParseLogic" = some 4 by kernel_rfl).symm.trans hf) |>.symm
      obtain rfl : fn = Tryz.f4 := (Option.some.inj (Tryz.func4.symm.trans hfn)).symm
      exact ⟨by kernel_rfl, fun j t ht => by
        rw [Tryz.params4] at ht
        have hm : t ∈ [37, 5] := by simpa using Array.mem_of_getElem? ht
        have hall : ([37, 5].all fun u => !Tryz.prog.wantsStandIn u) = true := by kernel_rfl
        exact (show Tryz.prog.wantsStandIn t = false by simpa using List.all_eq_true.1 hall t hm)⟩)
    (by kernel_rfl)
#print axioms proved
end Go.Proofs.YtnnpdilngmciaaaGreatDoor.parseLogic
