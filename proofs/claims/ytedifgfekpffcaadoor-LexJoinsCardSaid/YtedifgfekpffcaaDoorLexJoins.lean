/-
  Proved: the statement 'LexJoinsCardSaid' of the seat: for every input that law returns true, and each argument reads afterwards as it read before; the three package variables that its row lists are tied to the program's text. No condition of ours.
-/
import Derived.Test.YtedifgfekpffcaaDoorRows
import Derived.Test.YtedifgfekpffcaaDoorTie
import Derived.Test.YtedifgfekpffcaaDoorCards
import Derived.Test.YtedifgfekpffcaaDoorLexR
import Derived.ChangeMaps5
import Derived.Test.YtedifgfekpffcaaDoorLexQ
import Derived.StillTailTactics
import Derived.BigQuiet
namespace Go.Proofs.YtedifgfekpffcaaDoor.lexJoins
open Go.RowKit Go.ChangeShapes Go.WideShapes Go.ChangeAt
open Go.ChangeMaps (open_string shut_string)
open Lex (Laid lst)

open Lex
theorem lst_app (a b : ByteArray) : lst (a ++ b) = lst a ++ lst b := by unfold lst; simp [ByteArray.data_append]
theorem lst_join (a b : ByteArray) : lst ((a ++ ⟨#[10]⟩) ++ b) = lst a ++ 10 :: lst b := by
  rw [lst_app, lst_app]; show lst a ++ [10] ++ lst b = _; simp
theorem join_size (a b : ByteArray) : ((a ++ (⟨#[10]⟩ : ByteArray)) ++ b).size = a.size + 1 + b.size := by
  rw [← lst_length, lst_join]; simp [lst_length]; omega
theorem lexTo_len : ∀ (f : Nat) (l : List UInt8) (k : Nat) (ts : List Lex.Tok), lexTo f l k = .toks ts → ts.length ≤ f := by
  intro f
  induction f with
  | zero => intro l k ts h; simp [lexTo] at h
  | succ f ih =>
    intro l k ts h
    simp only [lexTo] at h
    cases hsc : scanF (l.drop (gapG false l)) with
    | bad b => rw [hsc] at h; cases h
    | tok q n =>
      rw [hsc] at h
      cases q with
      | zero => simp only [Lx.toks.injEq] at h; subst h; simp
      | succ q =>
        obtain ⟨c, hc, rfl⟩ := pre_toks h
        have := ih _ _ _ hc
        simp; omega
theorem stand_place (l : List UInt8) : ∀ (ts : List Lex.Tok) (e : Nat), Stand l e ts → ∀ t, t ∈ ts → t.place ≤ l.length := by
  intro ts
  induction ts with
  | nil => intro e h; exact h.elim
  | cons a ts ih =>
    intro e h t ht
    obtain ⟨_, d0, _, d⟩ := h
    rcases List.mem_cons.1 ht with rfl | ht
    · omega
    · rcases d with ⟨_, d2, _⟩ | ⟨_, d2⟩
      · subst d2; cases ht
      · exact ih _ d2 t ht
set_option maxHeartbeats 4000000 in
set_option maxRecDepth 100000 in
theorem walk (a0 : ByteArray) (w0 : a0.size ≤ maxLen) (a1 : ByteArray) (w1 : a1.size ≤ maxLen) (w : World) (pL pW : Addr) (hL : Laid w pL pW) : Calls Tryd.prog 6 #[.string a0, .string a1] w fun e w' => e = .returned (.bool true) ∧ Hid (Kept w w') := by
  by_cases hbig : 500 < a0.size
  · have HA := Lib.hid (awake_any w pL pW hL)
    go_enter Tryd.func6, Tryd.ntmps6
    go_wp2_with (go_at_call 7; refine (HA.out).mono ?_; rintro e w6 ⟨rfl, Hk6⟩)
    go_ret
    exact ⟨rfl, Hk6⟩
  by_cases hbig1 : 500 < a1.size
  · have HA := Lib.hid (awake_any w pL pW hL)
    have hle : a0.size ≤ 500 := by omega
    clear hbig
    go_enter Tryd.func6, Tryd.ntmps6
    go_wp2_with (go_at_call 7; refine (HA.out).mono ?_; rintro e w6 ⟨rfl, Hk6⟩)
    go_ret
    exact ⟨rfl, Hk6⟩
  have hl0 : a0.size ≤ 500 := by omega
  have hl1 : a1.size ≤ 500 := by omega
  have _hw := And.intro w0 w1
  clear hbig hbig1 _hw w0 w1
  have hjn := join_lexF (lst a0) (lst a1) (by rw [lst_length]; exact hl0) (by rw [lst_length]; exact hl1)
  rw [← lst_join, lst_length] at hjn
  have Hs : Hid (a0.size ≤ 4611686018427387904 ∧ a1.size ≤ 4611686018427387904 ∧ ((a0 ++ ⟨#[10]⟩) ++ a1).size ≤ 4611686018427387904) := Lib.hid ⟨by omega, by omega, by rw [join_size]; omega⟩
  cases hx : lexF (lst a0) with
  | bad b k =>
    rw [hx] at hjn
    have hno : (noL b == 0) = false := by cases b <;> decide
    have hno2 : (noL b != 0) = true := by cases b <;> decide
    cases hy : lexF (lst a1) with
    | bad b' k' =>
      have HC1 := Lib.hid (fun wx h => Lex_bad a0 wx pL pW h Hs.out.1 b k hx)
      have HC2 := Lib.hid (fun wx h => Lex_bad a1 wx pL pW h Hs.out.2.1 b' k' hy)
      have HC3 := Lib.hid (fun wx h => Lex_bad _ wx pL pW h Hs.out.2.2 b k hjn)
      have HL := Lib.hid hL
      clear hx hy hjn hL
      go_enter Tryd.func6, Tryd.ntmps6
      go_upto_region 4 with (go_at_call 8; refine (HC1.out _ HL.out).mono ?_; rintro e w1 ⟨rfl, Hk1⟩)
      go_upto_region 5 with (go_at_call 8; refine (HC2.out _ (HL.out.kept Hk1.out)).mono ?_; rintro e w2 ⟨rfl, Hk2⟩)
      go_upto_region 6 with (go_at_call 8; refine (HC3.out _ (HL.out.kept (Hk1.out.trans Hk2.out))).mono ?_; rintro e w3 ⟨rfl, Hk3⟩)
      have Hk := Lib.hid (Hk1.out.trans (Hk2.out.trans Hk3.out))
      have HA := Lib.hid (awake_any w3 pL pW (HL.out.kept Hk.out))
      go_wp2_with (first | (go_at_call 9; refine (num_any _ _).mono ?_; rintro e w' ⟨rfl, rfl⟩) | (go_at_call 7; refine (HA.out).mono ?_; rintro e w6 ⟨rfl, Hk6⟩))
      go_ret
      exact ⟨rfl, Lib.hid (Hk.out.trans Hk6.out)⟩
    | toks ts' =>
      have HC1 := Lib.hid (fun wx h => Lex_bad a0 wx pL pW h Hs.out.1 b k hx)
      have HC2 := Lib.hid (fun wx h => Lex_toks a1 wx pL pW h Hs.out.2.1 ts' hy)
      have HC3 := Lib.hid (fun wx h => Lex_bad _ wx pL pW h Hs.out.2.2 b k hjn)
      have HL := Lib.hid hL
      clear hx hy hjn hL
      go_enter Tryd.func6, Tryd.ntmps6
      go_upto_region 4 with (go_at_call 8; refine (HC1.out _ HL.out).mono ?_; rintro e w1 ⟨rfl, Hk1⟩)
      go_upto_region 5 with (go_at_call 8; refine (HC2.out _ (HL.out.kept Hk1.out)).mono ?_; rintro e w2 ⟨⟨v2, rfl, Ho2⟩, Hk2⟩)
      go_upto_region 6 with (go_at_call 8; refine (HC3.out _ (HL.out.kept (Hk1.out.trans Hk2.out))).mono ?_; rintro e w3 ⟨rfl, Hk3⟩)
      have Hk := Lib.hid (Hk1.out.trans (Hk2.out.trans Hk3.out))
      have HA := Lib.hid (awake_any w3 pL pW (HL.out.kept Hk.out))
      go_wp2_with (first | (go_at_call 9; refine (num_any _ _).mono ?_; rintro e w' ⟨rfl, rfl⟩) | (go_at_call 7; refine (HA.out).mono ?_; rintro e w6 ⟨rfl, Hk6⟩))
      go_ret
      exact ⟨rfl, Lib.hid (Hk.out.trans Hk6.out)⟩
  | toks ts =>
    rw [hx] at hjn
    cases hy : lexF (lst a1) with
    | bad b' k' =>
      rw [hy] at hjn
      have hno : (noL b' == 0) = false := by cases b' <;> decide
      have hno2 : (noL b' != 0) = true := by cases b' <;> decide
      have hlt : decide (a0.size < k' + (a0.size + 1)) = true := by simp; omega
      have HC1 := Lib.hid (fun wx h => Lex_toks a0 wx pL pW h Hs.out.1 ts hx)
      have HC2 := Lib.hid (fun wx h => Lex_bad a1 wx pL pW h Hs.out.2.1 b' k' hy)
      have HC3 := Lib.hid (fun wx h => Lex_bad _ wx pL pW h Hs.out.2.2 b' (k' + (a0.size + 1)) hjn)
      have HL := Lib.hid hL
      clear hx hy hjn hL
      go_enter Tryd.func6, Tryd.ntmps6
      go_upto_region 4 with (go_at_call 8; refine (HC1.out _ HL.out).mono ?_; rintro e w1 ⟨⟨v1, rfl, Ho1⟩, Hk1⟩)
      go_upto_region 5 with (go_at_call 8; refine (HC2.out _ (HL.out.kept Hk1.out)).mono ?_; rintro e w2 ⟨rfl, Hk2⟩)
      go_upto_region 6 with (go_at_call 8; refine (HC3.out _ (HL.out.kept (Hk1.out.trans Hk2.out))).mono ?_; rintro e w3 ⟨rfl, Hk3⟩)
      have Hk := Lib.hid (Hk1.out.trans (Hk2.out.trans Hk3.out))
      have HA := Lib.hid (awake_any w3 pL pW (HL.out.kept Hk.out))
      go_wp2_with (first | (go_at_call 9; refine (num_any _ _).mono ?_; rintro e w' ⟨rfl, rfl⟩) | (go_at_call 7; refine (HA.out).mono ?_; rintro e w6 ⟨rfl, Hk6⟩))
      go_ret
      exact ⟨rfl, Lib.hid (Hk.out.trans Hk6.out)⟩
    | toks ts' =>
      rw [hy] at hjn
      have htl : 0 < ts.length := List.length_pos_iff.2 (by unfold lexF at hx; rw [if_neg (by rw [lst_length]; omega)] at hx; exact lexTo_ne _ _ _ _ hx)
      have htl' : 0 < ts'.length := List.length_pos_iff.2 (by unfold lexF at hy; rw [if_neg (by rw [lst_length]; omega)] at hy; exact lexTo_ne _ _ _ _ hy)
      have htm : ts.length ≤ 501 := by unfold lexF at hx; rw [if_neg (by rw [lst_length]; omega)] at hx; have := lexTo_len _ _ _ _ hx; rw [lst_length] at this; omega
      have htm' : ts'.length ≤ 501 := by unfold lexF at hy; rw [if_neg (by rw [lst_length]; omega)] at hy; have := lexTo_len _ _ _ _ hy; rw [lst_length] at this; omega
      have hpl : ∀ t, t ∈ ts' → t.place ≤ 500 := by
        intro t ht
        unfold lexF at hy; rw [if_neg (by rw [lst_length]; omega)] at hy
        have := stand_place _ _ _ (stand_of (lst a1) _ 0 ts' (Nat.zero_le _) (by simpa using hy)) t ht
        rw [lst_length] at this; omega
      have Hpl := Lib.hid hpl
      clear hpl
      have hU : ∃ U : List Lex.Tok, U = ts.dropLast ++ ts'.map (Tok.shift (a0.size + 1)) := ⟨_, rfl⟩
      obtain ⟨U, hU⟩ := hU
      have hlen : U.length = ts.length - 1 + ts'.length := by rw [hU]; simp
      have HC1 := Lib.hid (fun wx h => Lex_toks a0 wx pL pW h Hs.out.1 ts hx)
      have HC2 := Lib.hid (fun wx h => Lex_toks a1 wx pL pW h Hs.out.2.1 ts' hy)
      have HC3 := Lib.hid (fun wx h => Lex_toks _ wx pL pW h Hs.out.2.2 U (by rw [hjn, hU]; rfl))
      have HL := Lib.hid hL
      have HU := Lib.hid hU
      have Hlen := Lib.hid hlen
      clear hx hy hjn hL hU hlen
      go_enter Tryd.func6, Tryd.ntmps6
      go_upto_region 4 with (go_at_call 8; refine (HC1.out _ HL.out).mono ?_; rintro e w1 ⟨⟨v1, rfl, Ho1⟩, Hk1⟩)
      go_upto_region 5 with (go_at_call 8; refine (HC2.out _ (HL.out.kept Hk1.out)).mono ?_; rintro e w2 ⟨⟨v2, rfl, Ho2⟩, Hk2⟩)
      go_upto_region 6 with (go_at_call 8; refine (HC3.out _ (HL.out.kept (Hk1.out.trans Hk2.out))).mono ?_; rintro e w3 ⟨⟨v3, rfl, Ho3⟩, Hk3⟩)
      have Hk := Lib.hid (Hk1.out.trans (Hk2.out.trans Hk3.out))
      obtain ⟨g1, cap1, rfl, hc1, hm1, hb1, hg1, hcell1⟩ := own_view Ho1.out htl
      obtain ⟨g2, cap2, rfl, hc2, hm2, hb2, hg2, hcell2⟩ := own_view Ho2.out htl'
      obtain ⟨g3, cap3, rfl, hc3, hm3, hb3, hg3, hcell3⟩ := own_view Ho3.out (by rw [Hlen.out]; omega)
      have Hcell1 := Lib.hid hcell1
      have Hcell2 := Lib.hid hcell2
      have Hcell3 := Lib.hid hcell3
      unfold maxLen at hm1 hm2 hm3
      clear hcell1 hcell2 hcell3 Ho1 Ho2 Ho3 HC1 HC2 HC3
      have hlu : U.length ≤ 1001 := by rw [Hlen.out]; omega
      have q1 : ((ts.length : Int) == 0) = false := by rw [beq_eq_false_iff_ne]; omega
      have q2 : ((U.length : Int) != (ts.length : Int) + (ts'.length : Int) - 1) = false := by rw [Hlen.out, bne_eq_false_iff_eq]; omega
      go_wp2_with (go_at_call 9; refine (num_any _ _).mono ?_; rintro e w' ⟨rfl, rfl⟩)
      clear q1 q2
      go_loopw [14, 15] (fun i _ wx => ∃ j : Nat, i = .int .i64 j ∧ j ≤ U.length ∧ Hid (Kept w3 wx)) (fun i _ _ => U.length - (intOf i).toNat)
      case atStart => exact ⟨0, rfl, Nat.zero_le _, Lib.hid (Kept.refl _)⟩
      case round =>
        obtain ⟨j, rfl, hju, Hp⟩ := hrel
        by_cases hlt : j < U.length
        · obtain ⟨c0, c1, c2⟩ := Hcell3.out j hlt
          have d0 := (Below.cell (p := ⟨g3, j * 3, none⟩) Hp.out hg3).trans c0
          have d1 := (Below.cell (p := ⟨g3, j * 3 + 1, none⟩) Hp.out hg3).trans c1
          have d2 := (Below.cell (p := ⟨g3, j * 3 + 2, none⟩) Hp.out hg3).trans c2
          clear c0 c1 c2
          have s8 : IntKind.i64.wrap ((ts.length : Int) - 1) = (ts.length : Int) - 1 := IntWalk.i64_in _ (by omega)
          by_cases hj : j < ts.length - 1
          · have hT : U[j] = ts[j]'(by omega) := by
              simp only [HU.out]
              rw [List.getElem_append_left (by simp; exact hj), List.getElem_dropLast]
            rw [hT] at d0 d1 d2
            clear hT
            obtain ⟨c0, c1, c2⟩ := Hcell1.out j (by omega)
            have hkx := Hk2.out.trans (Hk3.out.trans Hp.out)
            have e0 := (Below.cell (p := ⟨g1, j * 3, none⟩) hkx hg1).trans c0
            have e1 := (Below.cell (p := ⟨g1, j * 3 + 1, none⟩) hkx hg1).trans c1
            have e2 := (Below.cell (p := ⟨g1, j * 3 + 2, none⟩) hkx hg1).trans c2
            clear c0 c1 c2 hkx
            have hjt : j < ts.length := by omega
            have r1 : decide ((j : Int) < (ts.length : Int) - 1) = true := by simp; omega
            have r2 : decide ((ts.length : Int) - 1 ≤ (j : Int)) = false := by simp; omega
            generalize hT : ts[j] = T at *
            clear hT
            generalize T.place = P at *
            generalize T.kind = K at *
            generalize (⟨T.text.toArray⟩ : ByteArray) = tx at *
            go_wp2_with fail
            go_quiet (fail)
            go_wp2_with fail
            go_roundw
            case rel => exact ⟨j + 1, by go_num, by omega, Lib.hid (Hp.out.drewN _)⟩
            case measure => simp [intOf]; omega
          · obtain ⟨m, hm, hjm⟩ : ∃ m, m < ts'.length ∧ j = m + (ts.length - 1) := ⟨j - (ts.length - 1), by have := Hlen.out; omega, by omega⟩
            have hT : U[j] = Tok.shift (a0.size + 1) (ts'[m]'hm) := by
              simp only [HU.out]
              rw [List.getElem_append_right (by simp; omega), List.getElem_map]
              congr 2
              simp; omega
            rw [hT] at d0 d1 d2
            clear hT
            obtain ⟨c0, c1, c2⟩ := Hcell2.out m hm
            have hkx := Hk3.out.trans Hp.out
            have e0 := (Below.cell (p := ⟨g2, m * 3, none⟩) hkx hg2).trans c0
            have e1 := (Below.cell (p := ⟨g2, m * 3 + 1, none⟩) hkx hg2).trans c1
            have e2 := (Below.cell (p := ⟨g2, m * 3 + 2, none⟩) hkx hg2).trans c2
            clear c0 c1 c2 hkx
            have r1 : decide ((j : Int) < (ts.length : Int) - 1) = false := by simp; omega
            have r2 : decide ((ts.length : Int) - 1 ≤ (j : Int)) = true := by simp; omega
            have r3 : (j : Int) - (ts.length : Int) + 1 = (m : Int) := by omega
            have hP := Hpl.out _ (List.getElem_mem hm)
            generalize ts'[m] = T at *
            have dd1 : (Tok.shift (a0.size + 1) T).kind = T.kind := rfl
            have dd2 : (Tok.shift (a0.size + 1) T).text = T.text := rfl
            have dd3 : (Tok.shift (a0.size + 1) T).place = T.place + (a0.size + 1) := rfl
            rw [dd1] at d0
            rw [dd2] at d1
            rw [dd3] at d2
            clear dd1 dd2 dd3
            generalize T.place = P at *
            generalize T.kind = K at *
            generalize (⟨T.text.toArray⟩ : ByteArray) = tx at *
            clear hjm
            go_wp2_with fail
            go_quiet (fail)
            have hq : ∀ p, (wr.drewN nq).cell? p = wr.cell? p := fun p => by simp
            have f0 := (hq _).trans d0
            have f1 := (hq _).trans d1
            have f2 := (hq _).trans d2
            have h0 := (hq _).trans e0
            have h1 := (hq _).trans e1
            have h2 := (hq _).trans e2
            have Hq := Lib.hid (Hp.out.drewN nq)
            have hg3q : g3 < (wr.drewN nq).heap.size := Nat.lt_of_lt_of_le hg3 Hq.out.size
            clear r1 s8 hq d0 d1 d2 e0 e1 e2
            generalize wr.drewN nq = wq at *
            go_upto_region 20 with fail
            have ePl : ((P + (a0.size + 1) : Nat) : Int) = (P : Int) + (a0.size : Int) + 1 := by omega
            rw [ePl] at f2
            have z0 := (World.cell?_alloc_lt wq (.cells #[.int .i64 K, .string tx, .int .i64 ((P : Int) + (a0.size : Int) + 1)] 29) (a := ⟨g3, j * 3, none⟩) hg3q).trans f0
            have z1 := (World.cell?_alloc_lt wq (.cells #[.int .i64 K, .string tx, .int .i64 ((P : Int) + (a0.size : Int) + 1)] 29) (a := ⟨g3, j * 3 + 1, none⟩) hg3q).trans f1
            have z2 := (World.cell?_alloc_lt wq (.cells #[.int .i64 K, .string tx, .int .i64 ((P : Int) + (a0.size : Int) + 1)] 29) (a := ⟨g3, j * 3 + 2, none⟩) hg3q).trans f2
            have y0 : (wq.alloc (.cells #[.int .i64 K, .string tx, .int .i64 ((P : Int) + (a0.size : Int) + 1)] 29)).cell? ⟨wq.heap.size, 0, none⟩ = some (.int .i64 K) := by simp
            have y1 : (wq.alloc (.cells #[.int .i64 K, .string tx, .int .i64 ((P : Int) + (a0.size : Int) + 1)] 29)).cell? ⟨wq.heap.size, 1, none⟩ = some (.string tx) := by simp
            have y2 : (wq.alloc (.cells #[.int .i64 K, .string tx, .int .i64 ((P : Int) + (a0.size : Int) + 1)] 29)).cell? ⟨wq.heap.size, 2, none⟩ = some (.int .i64 ((P : Int) + (a0.size : Int) + 1)) := by simp
            have Hk4 := Lib.hid (Hq.out.alloc (.cells #[.int .i64 K, .string tx, .int .i64 ((P : Int) + (a0.size : Int) + 1)] 29))
            clear f0 f1 f2 h0 h1 h2 r3 ePl r2
            generalize wq.alloc (.cells #[.int .i64 K, .string tx, .int .i64 ((P : Int) + (a0.size : Int) + 1)] 29) = W4 at *
            go_quiet (fail)
            go_wp2_with fail
            go_roundw
            case rel => exact ⟨j + 1, by go_num, by omega, Lib.hid (Hk4.out.drewN _)⟩
            case measure => simp [intOf]; omega
        · obtain rfl : j = U.length := by omega
          have HA := Lib.hid (awake_any wr pL pW (HL.out.kept (Hk.out.trans Hp.out)))
          go_wp2_with (go_at_call 7; refine (HA.out).mono ?_; rintro e w6 ⟨rfl, Hk6⟩)
          go_ret
          exact ⟨rfl, Lib.hid (Hk.out.trans (Hp.out.trans Hk6.out))⟩

set_option maxRecDepth 100000 in
theorem lifted (os : Os) (started : os.Started) (H : Type) (enc : TypeId × Value → H) :
    ReturnsInHanded {} Tryd.checked os 6 .any (fun w args => (Rows.lexJoinsSpec.pre enc Tryd.prog Tryd.f6 [] false w args ∧ laidMetH Tryd.prog Lex.laid3 w) ∧ sizedMet enc Tryd.prog Tryd.f6 (OpenSpec.ofChange Rows.lexJoinsSpec) false w args)
      (Rows.lexJoinsSpec.post enc Tryd.prog Tryd.f6 false true false false) := by
  refine returnsInHanded_of_change_and (C := Tryd.checked) (X := fun w _ => laidMetH Tryd.prog Lex.laid3 w) (fun _ _ _ hh h => h.of_heap hh) Lex.own started (by kernel_rfl) Tryd.func6
    (ChangeSpec.witness_shaped (enc := enc) (C := Tryd.checked) (os := os) (X := fun w _ => laidMetH Tryd.prog Lex.laid3 w) false (World.doorLaid Tryd.prog 400 os) #[.string ByteArray.empty, .string ByteArray.empty] 8 rfl (World.shaped_of_RefB (by kernel_rfl) (by kernel_rfl)) (by kernel_rfl) (by kernel_rfl) (by kernel_rfl) (Lex.door_met os _)) ?_
  intro W base args ds gs before hval0 hW _ _ hL _
  have hval : ∀ (j : Nat) t v, Tryd.f6.params[j]? = some t → args[j]? = some v → Value.okWide Tryd.prog W .any base t v := hval0
  have hW' := hW
  obtain ⟨p, q, hA0, hV, rfl, hfz, hnd⟩ := hW
  have hA : DataW.TrodAll enc Tryd.prog W 0 (fun _ => true) true Tryd.f6.params.toList args.toList ds p := hA0
  rw [Tryd.params6] at hA hval
  obtain ⟨v0, vs0, d0, ds0, p0, q0, hargs, rfl, rfl, h0, r0⟩ := trodAll_cons hA
  obtain ⟨v1, vs1, d1, ds1, p1, q1, rfl, rfl, rfl, h1, r1⟩ := trodAll_cons r0
  obtain ⟨rfl, rfl, rfl⟩ := trodAll_nil r1
  obtain rfl : args = #[v0, v1] := by cases args; simp_all
  obtain ⟨rfl, rfl⟩ := trodVars_none hV
  obtain ⟨a0, rfl, rfl, rfl, w0⟩ := open_string Tryd.underlying9 (hval 0 9 v0 rfl rfl) h0
  obtain ⟨a1, rfl, rfl, rfl, w1⟩ := open_string Tryd.underlying9 (hval 1 9 v1 rfl rfl) h1
  obtain ⟨pL, pW, hl⟩ := Lex.of_laid hL
  clear hA0 hval0
  simp only [List.append_nil] at hW'
  refine (walk a0 w0 a1 w1 W pL pW hl).mono fun e W' ⟨he, hg⟩ => ?_
  subst he
  exact ⟨_, rfl, post_kept hW' (fun _ _ _ => (trodAll_cons_mk (shut_bool Tryd.underlying4 _) trodAll_mk0)) (fun sp => (trodAll_cons_mk (shut_string Tryd.underlying9 w0) (trodAll_cons_mk (shut_string Tryd.underlying9 w1) trodAll_mk0))) (fun _ => rfl) hg.out⟩

theorem over : Rows.lexJoinsRow.holds Tryd.pinned (OpenSpec.ofChange Rows.lexJoinsSpec) :=
  OpenClaim.holds_of_wide 6 Tryd.f6 rfl rfl rfl rfl rfl rfl rfl ⟨rfl, rfl, rfl, rfl, rfl⟩ rfl rfl rfl rfl rfl (by kernel_rfl) Tryd.func6 (by kernel_rfl)
    (of_decide_eq_true (by kernel_rfl)) (by unfold Func.isWrapper; first | (rw [if_pos (by decide +kernel)]; kernel_rfl) | (rw [if_neg (by decide +kernel)]; exact ⟨rfl, rfl⟩))
    (fun os started H enc _ => lifted os started H enc)

/-- THE STATEMENT. -/
theorem proved : Rows.LexJoinsCardSaid :=
  Claim7.holds_tied_plain_at .later [] [.handle, .sentinel, .sentinel] true (true, "ee1112072558f7a6c5aa3ce688a9ef52aca0c3a26d5136286683529d4e0046d5") true
    over (fun _ h => by cases h) (by kernel_rfl) (fun _ h => by cases h) lexJoins_row_tie rfl ⟨rfl, rfl⟩ (by kernel_rfl) rfl
    (fun f fn hf hfn => by
      obtain rfl : f = 6 := Option.some.inj ((show Tryd.prog.funcNamed "calliper/calliperlaw2.LexJoins" = some 6 by kernel_rfl).symm.trans hf) |>.symm
      obtain rfl : fn = Tryd.f6 := (Option.some.inj (Tryd.func6.symm.trans hfn)).symm
      exact ⟨by kernel_rfl, fun j t ht => by
        rw [Tryd.params6] at ht
        have hm : t ∈ [9, 9] := by simpa using Array.mem_of_getElem? ht
        have hall : ([9, 9].all fun u => !Tryd.prog.wantsStandIn u) = true := by kernel_rfl
        exact (show Tryd.prog.wantsStandIn t = false by simpa using List.all_eq_true.1 hall t hm)⟩)
    (by kernel_rfl)
#print axioms proved
end Go.Proofs.YtedifgfekpffcaaDoor.lexJoins
