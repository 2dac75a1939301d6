/-
  Proved: the statement 'LexPlacesCardSaid' of the seat: for every input that law returns true, and each argument reads afterwards as it read before; the three package variables that its row lists are tied to the program's text. No condition of ours.
-/
import Derived.Test.YtedifgfekpffcaaDoorRows
import Derived.Test.YtedifgfekpffcaaDoorTie
import Derived.Test.YtedifgfekpffcaaDoorCards
import Derived.Test.YtedifgfekpffcaaDoorLexR
import Derived.ChangeMaps5
import Derived.Test.YtedifgfekpffcaaDoorLexQ
import Derived.StillTailTactics
import Derived.BigQuiet
namespace Go.Proofs.YtedifgfekpffcaaDoor.lexPlaces
open Go.RowKit Go.ChangeShapes Go.WideShapes Go.ChangeAt
open Go.ChangeMaps (open_string shut_string)
open Lex (Laid lst)

open Lex
/-- What stands at the head of each round over the tokens. -/
structure PlaceAt (w1 : World) (l : List UInt8) (ts : List Lex.Tok) (i e : Nat) (wx : World) : Prop where
  kept : Kept w1 wx
  le : i ≤ ts.length
  elt : e ≤ l.length
  stand : i < ts.length → Stand l e (ts.drop i)
theorem stand_get {l : List UInt8} {ts : List Lex.Tok} {i e : Nat} (hi : i < ts.length) (h : Stand l e (ts.drop i)) :
    ts[i].place = e + gapG false (l.drop e) ∧ ts[i].place + ts[i].text.length ≤ l.length ∧ (l.drop ts[i].place).take ts[i].text.length = ts[i].text ∧
    ((ts[i].kind = 0 ∧ i + 1 = ts.length ∧ ts[i].place = l.length) ∨ (ts[i].kind ≠ 0 ∧ i + 1 < ts.length ∧ Stand l (ts[i].place + ts[i].text.length) (ts.drop (i + 1)))) := by
  rw [List.drop_eq_getElem_cons hi] at h
  obtain ⟨a, b, c, d⟩ := h
  refine ⟨a, b, c, ?_⟩
  rcases d with ⟨d1, d2, d3, _⟩ | ⟨d1, d2⟩
  · refine .inl ⟨d1, ?_, d3⟩
    have := congrArg List.length d2
    rw [List.length_drop] at this; simp at this; omega
  · refine .inr ⟨d1, ?_, d2⟩
    rcases Nat.lt_or_ge (i + 1) ts.length with h | h
    · exact h
    · rw [List.drop_of_length_le h] at d2; exact d2.elim
theorem stand_last (l : List UInt8) : ∀ (ts : List Lex.Tok) (e : Nat), Stand l e ts → ∃ h : ts.length - 1 < ts.length, ts[ts.length - 1].place = l.length := by
  intro ts
  induction ts with
  | nil => intro e h; exact h.elim
  | cons t ts ih =>
    intro e h
    obtain ⟨_, _, _, d⟩ := h
    rcases d with ⟨_, d2, d3, _⟩ | ⟨_, d2⟩
    · subst d2; exact ⟨by simp, d3⟩
    · obtain ⟨h1, h2⟩ := ih _ d2
      refine ⟨by simp, ?_⟩
      have e1 : (t :: ts).length - 1 = (ts.length - 1) + 1 := by simp; omega
      simp only [e1, List.getElem_cons_succ]
      exact h2
/-- What one byte between two tokens may be. -/
theorem place_byte (s : ByteArray) (r : Bool) (k p : Nat) (hk : k < s.size) (h : gapG r ((lst s).drop k) = p - k) (hp : k < p) :
    (r = true ∧ s[k].toNat = 10 ∧ gapG false ((lst s).drop (k + 1)) = p - (k + 1)) ∨
    (r = true ∧ s[k].toNat ≠ 10 ∧ gapG true ((lst s).drop (k + 1)) = p - (k + 1)) ∨
    (r = false ∧ s[k].toNat = 35 ∧ gapG true ((lst s).drop (k + 1)) = p - (k + 1)) ∨
    (r = false ∧ s[k].toNat ≠ 35 ∧ (s[k].toNat = 32 ∨ s[k].toNat = 9 ∨ s[k].toNat = 10 ∨ s[k].toNat = 13) ∧ gapG false ((lst s).drop (k + 1)) = p - (k + 1)) := by
  have hg := gap_byte r (lst s) k p hk h hp
  have e : (lst s)[k]'hk = s[k] := rfl
  rw [e] at hg
  obtain ⟨h1, h2⟩ := hg
  cases r
  · by_cases h35 : s[k].toNat = 35
    · have hl : inLineF s[k] = true := by simp [inLineF, h35]
      simp [h35, hl] at h2
      exact .inr (.inr (.inl ⟨rfl, h35, h2⟩))
    · simp [h35] at h1 h2
      simp [blankF] at h1
      exact .inr (.inr (.inr ⟨rfl, h35, by omega, h2⟩))
  · by_cases h10 : s[k].toNat = 10
    · have hl : inLineF s[k] = false := by simp [inLineF, h10]
      simp [hl] at h2
      exact .inl ⟨rfl, h10, h2⟩
    · have hl : inLineF s[k] = true := by simp [inLineF, h10]
      simp [hl] at h2
      exact .inr (.inl ⟨rfl, h10, h2⟩)
theorem eqB {a b : Int} (h : a = b) : (a == b) = true ∧ (a != b) = false := by subst h; simp
theorem neB {a b : Int} (h : a ≠ b) : (a == b) = false ∧ (a != b) = true := by simp [h]
set_option maxHeartbeats 4000000 in
set_option maxRecDepth 100000 in
theorem walk (a0 : ByteArray) (w0 : a0.size ≤ maxLen) (w : World) (pL pW : Addr) (hL : Laid w pL pW) : Calls Tryd.prog 3 #[.string a0] w fun e w' => e = .returned (.bool true) ∧ Hid (Kept w w') := by
  by_cases hbig : 2000 < a0.size
  · have HA := Lib.hid (awake_any w pL pW hL)
    go_enter Tryd.func3, Tryd.ntmps3
    go_wp2_with (go_at_call 7; refine (HA.out).mono ?_; rintro e w6 ⟨rfl, Hk6⟩)
    go_ret
    exact ⟨rfl, Hk6⟩
  have hle : a0.size ≤ 2000 := by omega
  have _hw := w0
  clear hbig _hw w0
  have hsz : a0.size ≤ 4611686018427387904 := by omega
  cases hlex : lexF (lst a0) with
  | bad b k =>
    have hk : k ≤ a0.size := by
      have h := hlex
      unfold lexF at h
      rw [if_neg (by rw [lst_length]; omega)] at h
      exact bad_of (lst a0) _ 0 b k (Nat.zero_le _) (by simpa using h)
    have hno : (noL b == 0) = false := by cases b <;> decide
    have hno2 : (noL b != 0) = true := by cases b <;> decide
    have HC := Lib.hid (Lex_bad a0 w pL pW hL hsz b k hlex)
    have HL := Lib.hid hL
    clear hlex hL hsz
    go_enter Tryd.func3, Tryd.ntmps3
    go_upto_region 5 with (first | (go_at_call 8; refine (HC.out).mono ?_; rintro e w1 ⟨rfl, Hk1⟩) | (go_at_call 9; refine (num_any _ _).mono ?_; rintro e w' ⟨rfl, rfl⟩))
    have HA := Lib.hid (awake_any w1 pL pW (HL.out.kept Hk1.out))
    go_wp2_with (go_at_call 7; refine (HA.out).mono ?_; rintro e w6 ⟨rfl, Hk6⟩)
    go_ret
    exact ⟨rfl, Lib.hid (Hk1.out.trans Hk6.out)⟩
  | toks ts =>
    have hst : Stand (lst a0) 0 ts := by
      have h := hlex
      unfold lexF at h
      rw [if_neg (by rw [lst_length]; omega)] at h
      exact stand_of (lst a0) _ 0 ts (Nat.zero_le _) (by simpa using h)
    have htl : 0 < ts.length := by
      rcases Nat.eq_zero_or_pos ts.length with h | h
      · rw [List.eq_nil_of_length_eq_zero h] at hst; exact hst.elim
      · exact h
    have HC := Lib.hid (Lex_toks a0 w pL pW hL hsz ts hlex)
    have HL := Lib.hid hL
    have Hst := Lib.hid hst
    clear hlex hL hsz hst
    go_enter Tryd.func3, Tryd.ntmps3
    go_upto_region 6 with (first | (go_at_call 8; refine (HC.out).mono ?_; rintro e w1 ⟨⟨v, rfl, Ho⟩, Hk1⟩) | (go_at_call 9; refine (num_any _ _).mono ?_; rintro e w' ⟨rfl, rfl⟩))
    obtain ⟨gb, cap, rfl, hc, hm, hb, hg, hcell⟩ := own_view Ho.out htl
    have Hcell := Lib.hid hcell
    unfold maxLen at hm
    clear hcell Ho HC
    go_wp2_with fail
    go_loopw [6, 7, 8, 9, 10, 11] (fun e i _ _ _ _ wx => ∃ (j f : Nat), i = .int .i64 j ∧ e = .int .i64 f ∧ Hid (PlaceAt w1 (lst a0) ts j f wx)) (fun _ i _ _ _ _ _ => ts.length - (intOf i).toNat)
    case atStart => exact ⟨0, 0, rfl, rfl, Lib.hid ⟨Kept.refl _, Nat.zero_le _, Nat.zero_le _, fun _ => by simpa using Hst.out⟩⟩
    case round =>
      obtain ⟨j, f, rfl, rfl, Hp⟩ := hrel
      have hjl := Hp.out.le
      by_cases hlt : j < ts.length
      · obtain ⟨c0, c1, c2⟩ := Hcell.out j hlt
        have hkx := Hp.out.kept
        have d0 := (Below.cell (p := ⟨gb, j * 3, none⟩) hkx hg).trans c0
        have d1 := (Below.cell (p := ⟨gb, j * 3 + 1, none⟩) hkx hg).trans c1
        have d2 := (Below.cell (p := ⟨gb, j * 3 + 2, none⟩) hkx hg).trans c2
        obtain ⟨s1, s2, s3, s4⟩ := stand_get hlt (Hp.out.stand hlt)
        have Hs1 := Lib.hid s1
        have Hs3 := Lib.hid s3
        have Hs4 := Lib.hid s4
        rw [lst_length] at s2
        clear c0 c1 c2 hkx s1 s3 s4
        generalize hT : ts[j] = T at *
        have HT := Lib.hid hT
        clear hT
        have hE : a0.extract T.place (T.place + T.text.length) = ⟨T.text.toArray⟩ := by
          rw [← mk_lst (a0.extract _ _), lst_extract, Nat.add_sub_cancel_left, Hs3.out]
        have HE := Lib.hid hE
        have hPf : f ≤ T.place := by have := Hs1.out; omega
        clear hE
        go_upto_region 11 with fail
        have hk2 : Kept w1 (wr.alloc (.cells #[.int .i64 T.kind, .string ⟨T.text.toArray⟩, .int .i64 T.place] 29)) := Hp.out.kept.alloc _
        have z0 : (wr.alloc (.cells #[.int .i64 T.kind, .string ⟨T.text.toArray⟩, .int .i64 T.place] 29)).cell? ⟨wr.heap.size, 0, none⟩ = some (.int .i64 T.kind) := by simp
        have z1 : (wr.alloc (.cells #[.int .i64 T.kind, .string ⟨T.text.toArray⟩, .int .i64 T.place] 29)).cell? ⟨wr.heap.size, 1, none⟩ = some (.string ⟨T.text.toArray⟩) := by simp
        have z2 : (wr.alloc (.cells #[.int .i64 T.kind, .string ⟨T.text.toArray⟩, .int .i64 T.place] 29)).cell? ⟨wr.heap.size, 2, none⟩ = some (.int .i64 T.place) := by simp
        have htx : (⟨T.text.toArray⟩ : ByteArray).size = T.text.length := rfl
        have Hk2 := Lib.hid hk2
        clear hk2 d0 d1 d2
        generalize wr.alloc (.cells #[.int .i64 T.kind, .string ⟨T.text.toArray⟩, .int .i64 T.place] 29) = W2 at *
        rw [← htx] at HE Hs4 s2
        clear htx Hs3
        generalize (⟨T.text.toArray⟩ : ByteArray) = tx at *
        generalize T.place = P at *
        generalize T.kind = K at *
        have hE := HE.out
        have g1n : decide (P < f) = false := by simp; omega
        have g2n : decide (a0.size < P + tx.size) = false := by simp; omega
        have g1 : decide ((P : Int) < (f : Int)) = false := by simp; omega
        have g2 : decide ((a0.size : Int) < (P : Int) + (tx.size : Int)) = false := by simp; omega
        have g3 : IntKind.i64.wrap ((P : Int) + (tx.size : Int)) = (P : Int) + (tx.size : Int) := IntWalk.i64_in _ (by omega)
        have g4 : (0 : Int) ≤ (P : Int) + (tx.size : Int) := by omega
        have g5 : (P : Int) + (tx.size : Int) ≤ (a0.size : Int) := by omega
        have g6 : ((P : Int) + (tx.size : Int)).toNat = P + tx.size := by omega
        have g7 : (P : Int) ≤ (P : Int) + (tx.size : Int) := by omega
        have g8 : IntKind.i64.wrap ((ts.length : Int) - 1) = (ts.length : Int) - 1 := IntWalk.i64_in _ (by omega)
        obtain ⟨c, gK, gJ, Hnx⟩ : ∃ c : Bool, ((K : Int) == 0) = c ∧ ((j : Int) == (ts.length : Int) - 1) = c ∧ Hid (j + 1 < ts.length → Stand (lst a0) (P + tx.size) (ts.drop (j + 1))) := by
          rcases Hs4.out with ⟨hK, hj1, hPl⟩ | ⟨hK, hj1, hnx⟩
          · exact ⟨true, by simp [hK], by simp; omega, Lib.hid (fun h => by omega)⟩
          · exact ⟨false, by simp; omega, by simp; omega, Lib.hid (fun _ => hnx)⟩
        have HG : Hid (gapG false ((lst a0).drop f) = P - f) := Lib.hid (by have := Hs1.out; omega)
        clear Hs4 Hs1
        cases c
        all_goals
          go_quiet (fail)
          clear g1n g2n g1 g2 g3 g4 g5 g6 g7 g8 gK gJ hE
          go_wp2_with fail
          go_loop [9, 10, 11] (fun rm kk _ => ∃ (r : Bool) (k : Nat), kk = .int .i64 k ∧ rm = .bool r ∧ f ≤ k ∧ k ≤ P ∧ Hid (gapG r ((lst a0).drop k) = P - k)) (fun _ kk _ => P - (intOf kk).toNat)
          case atStart => exact ⟨false, f, rfl, rfl, Nat.le_refl _, hPf, HG⟩
          case round =>
            obtain ⟨r, k, rfl, rfl, hfk, hkP, Hgk⟩ := hrel
            by_cases hkp : k < P
            · have hka : k < a0.size := by omega
              have hx := place_byte a0 r k P hka Hgk.out hkp
              rcases hx with ⟨rfl, hx, hn⟩ | ⟨rfl, hx, hn⟩ | ⟨rfl, hx, hn⟩ | ⟨rfl, hx, hx2, hn⟩
              · have Hn := Lib.hid hn
                obtain ⟨q1, q2⟩ := eqB (show (a0[k].toNat : Int) = 10 by omega)
                obtain ⟨q3, q4⟩ := neB (show (a0[k].toNat : Int) ≠ 35 by omega)
                obtain ⟨q5, q6⟩ := neB (show (a0[k].toNat : Int) ≠ 32 by omega)
                obtain ⟨q7, q8⟩ := neB (show (a0[k].toNat : Int) ≠ 9 by omega)
                clear hn hx
                go_wp2_with fail
                go_round
                case rel => exact ⟨false, k + 1, by go_num, rfl, by omega, by omega, Hn⟩
                case measure => simp [intOf]; omega
              · have Hn := Lib.hid hn
                obtain ⟨q1, q2⟩ := neB (show (a0[k].toNat : Int) ≠ 10 by omega)
                clear hn hx
                go_wp2_with fail
                go_round
                case rel => exact ⟨true, k + 1, by go_num, rfl, by omega, by omega, Hn⟩
                case measure => simp [intOf]; omega
              · have Hn := Lib.hid hn
                obtain ⟨q1, q2⟩ := neB (show (a0[k].toNat : Int) ≠ 10 by omega)
                obtain ⟨q3, q4⟩ := eqB (show (a0[k].toNat : Int) = 35 by omega)
                clear hn hx
                go_wp2_with fail
                go_round
                case rel => exact ⟨true, k + 1, by go_num, rfl, by omega, by omega, Hn⟩
                case measure => simp [intOf]; omega
              · have Hn := Lib.hid hn
                obtain ⟨q3, q4⟩ := neB (show (a0[k].toNat : Int) ≠ 35 by omega)
                clear hn hx
                rcases hx2 with hx | hx | hx | hx
                · obtain ⟨q1, q2⟩ := eqB (show (a0[k].toNat : Int) = 32 by omega)
                  clear hx
                  go_wp2_with fail
                  go_round
                  case rel => exact ⟨false, k + 1, by go_num, rfl, by omega, by omega, Hn⟩
                  case measure => simp [intOf]; omega
                · obtain ⟨q1, q2⟩ := eqB (show (a0[k].toNat : Int) = 9 by omega)
                  obtain ⟨q5, q6⟩ := neB (show (a0[k].toNat : Int) ≠ 32 by omega)
                  clear hx
                  go_wp2_with fail
                  go_round
                  case rel => exact ⟨false, k + 1, by go_num, rfl, by omega, by omega, Hn⟩
                  case measure => simp [intOf]; omega
                · obtain ⟨q1, q2⟩ := eqB (show (a0[k].toNat : Int) = 10 by omega)
                  obtain ⟨q5, q6⟩ := neB (show (a0[k].toNat : Int) ≠ 32 by omega)
                  obtain ⟨q7, q8⟩ := neB (show (a0[k].toNat : Int) ≠ 9 by omega)
                  clear hx
                  go_wp2_with fail
                  go_round
                  case rel => exact ⟨false, k + 1, by go_num, rfl, by omega, by omega, Hn⟩
                  case measure => simp [intOf]; omega
                · obtain ⟨q1, q2⟩ := eqB (show (a0[k].toNat : Int) = 13 by omega)
                  obtain ⟨q5, q6⟩ := neB (show (a0[k].toNat : Int) ≠ 32 by omega)
                  obtain ⟨q7, q8⟩ := neB (show (a0[k].toNat : Int) ≠ 9 by omega)
                  obtain ⟨q9, q10⟩ := neB (show (a0[k].toNat : Int) ≠ 10 by omega)
                  clear hx
                  go_wp2_with fail
                  go_round
                  case rel => exact ⟨false, k + 1, by go_num, rfl, by omega, by omega, Hn⟩
                  case measure => simp [intOf]; omega
            · obtain rfl : k = P := by omega
              go_wp2_with fail
              go_roundw
              case rel => exact ⟨j + 1, k + tx.size, by go_num, by go_num, Lib.hid ⟨Hk2.out.drewN _, by omega, by rw [lst_length]; omega, Hnx.out⟩⟩
              case measure => simp [intOf]; omega
      · obtain rfl : j = ts.length := by omega
        obtain ⟨hl1, hl2⟩ := stand_last (lst a0) ts 0 Hst.out
        have c2 := (Hcell.out (ts.length - 1) hl1).2.2
        have hkx := Hp.out.kept
        have d2 := (Below.cell (p := ⟨gb, (ts.length - 1) * 3 + 2, none⟩) hkx hg).trans c2
        rw [hl2, lst_length] at d2
        have HA := Lib.hid (awake_any wr pL pW (HL.out.kept (Hk1.out.trans hkx)))
        have Hkx := Lib.hid (Hk1.out.trans hkx)
        have g0 : decide (0 < ts.length) = true := by simp; omega
        have g1 : (0 : Int) ≤ (ts.length : Int) - 1 := by omega
        have g2 : ((ts.length : Int) - 1).toNat = ts.length - 1 := by omega
        have g3 : (1 : Int) ≤ (ts.length : Int) := by omega
        clear c2 hl2 hkx
        go_wp2_with (go_at_call 7; refine (HA.out).mono ?_; rintro e w6 ⟨rfl, Hk6⟩)
        go_ret
        exact ⟨rfl, Lib.hid (Hkx.out.trans Hk6.out)⟩

set_option maxRecDepth 100000 in
theorem lifted (os : Os) (started : os.Started) (H : Type) (enc : TypeId × Value → H) :
    ReturnsInHanded {} Tryd.checked os 3 .any (fun w args => (Rows.lexPlacesSpec.pre enc Tryd.prog Tryd.f3 [] false w args ∧ laidMetH Tryd.prog Lex.laid3 w) ∧ sizedMet enc Tryd.prog Tryd.f3 (OpenSpec.ofChange Rows.lexPlacesSpec) false w args)
      (Rows.lexPlacesSpec.post enc Tryd.prog Tryd.f3 false true false false) := by
  refine returnsInHanded_of_change_and (C := Tryd.checked) (X := fun w _ => laidMetH Tryd.prog Lex.laid3 w) (fun _ _ _ hh h => h.of_heap hh) Lex.own started (by kernel_rfl) Tryd.func3
    (ChangeSpec.witness_shaped (enc := enc) (C := Tryd.checked) (os := os) (X := fun w _ => laidMetH Tryd.prog Lex.laid3 w) false (World.doorLaid Tryd.prog 400 os) #[.string ByteArray.empty] 8 rfl (World.shaped_of_RefB (by kernel_rfl) (by kernel_rfl)) (by kernel_rfl) (by kernel_rfl) (by kernel_rfl) (Lex.door_met os _)) ?_
  intro W base args ds gs before hval0 hW _ _ hL _
  have hval : ∀ (j : Nat) t v, Tryd.f3.params[j]? = some t → args[j]? = some v → Value.okWide Tryd.prog W .any base t v := hval0
  have hW' := hW
  obtain ⟨p, q, hA0, hV, rfl, hfz, hnd⟩ := hW
  have hA : DataW.TrodAll enc Tryd.prog W 0 (fun _ => true) true Tryd.f3.params.toList args.toList ds p := hA0
  rw [Tryd.params3] at hA hval
  obtain ⟨v0, vs0, d0, ds0, p0, q0, hargs, rfl, rfl, h0, r0⟩ := trodAll_cons hA
  obtain ⟨rfl, rfl, rfl⟩ := trodAll_nil r0
  obtain rfl : args = #[v0] := by cases args; simp_all
  obtain ⟨rfl, rfl⟩ := trodVars_none hV
  obtain ⟨a0, rfl, rfl, rfl, w0⟩ := open_string Tryd.underlying9 (hval 0 9 v0 rfl rfl) h0
  obtain ⟨pL, pW, hl⟩ := Lex.of_laid hL
  clear hA0 hval0
  simp only [List.append_nil] at hW'
  refine (walk a0 w0 W pL pW hl).mono fun e W' ⟨he, hg⟩ => ?_
  subst he
  exact ⟨_, rfl, post_kept hW' (fun _ _ _ => (trodAll_cons_mk (shut_bool Tryd.underlying4 _) trodAll_mk0)) (fun sp => (trodAll_cons_mk (shut_string Tryd.underlying9 w0) trodAll_mk0)) (fun _ => rfl) hg.out⟩

theorem over : Rows.lexPlacesRow.holds Tryd.pinned (OpenSpec.ofChange Rows.lexPlacesSpec) :=
  OpenClaim.holds_of_wide 3 Tryd.f3 rfl rfl rfl rfl rfl rfl rfl ⟨rfl, rfl, rfl, rfl, rfl⟩ rfl rfl rfl rfl rfl (by kernel_rfl) Tryd.func3 (by kernel_rfl)
    (of_decide_eq_true (by kernel_rfl)) (by unfold Func.isWrapper; first | (rw [if_pos (by decide +kernel)]; kernel_rfl) | (rw [if_neg (by decide +kernel)]; exact ⟨rfl, rfl⟩))
    (fun os started H enc _ => lifted os started H enc)

/-- THE STATEMENT. -/
theorem proved : Rows.LexPlacesCardSaid :=
  Claim7.holds_tied_plain_at .later [] [.handle, .sentinel, .sentinel] true (true, "ee1112072558f7a6c5aa3ce688a9ef52aca0c3a26d5136286683529d4e0046d5") true
    over (fun _ h => by cases h) (by kernel_rfl) (fun _ h => by cases h) lexPlaces_row_tie rfl ⟨rfl, rfl⟩ (by kernel_rfl) rfl
    (fun f fn hf hfn => by
      obtain rfl : f = 3 := Option.some.inj ((show Tryd.prog.funcNamed "calliper/calliperlaw2.LexPlaces" = some 3 by kernel_rfl).symm.trans hf) |>.symm
      obtain rfl : fn = Tryd.f3 := (Option.some.inj (Tryd.func3.symm.trans hfn)).symm
      exact ⟨by kernel_rfl, fun j t ht => by
        rw [Tryd.params3] at ht
        have hm : t ∈ [9] := by simpa using Array.mem_of_getElem? ht
        have hall : ([9].all fun u => !Tryd.prog.wantsStandIn u) = true := by kernel_rfl
        exact (show Tryd.prog.wantsStandIn t = false by simpa using List.all_eq_true.1 hall t hm)⟩)
    (by kernel_rfl)
#print axioms proved
end Go.Proofs.YtedifgfekpffcaaDoor.lexPlaces
