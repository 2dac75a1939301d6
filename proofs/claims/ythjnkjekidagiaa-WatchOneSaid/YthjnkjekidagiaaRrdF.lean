/-
  row of the document's answer's parser: at level 4 it is unary; plain facts of the levels' signs; the loop's state; row out of row and unary (row_step).
-/
import Derived.Test.YthjnkjekidagiaaRrdE
import Derived.Deep.LoopGhost
import Derived.WalkMore
namespace Go.Proofs.Ythjnkjekidagiaa.Rpr
open Go.RowKit
open Lex (Tok isKeyF)
open Prs

theorem row_four {f : Nat} (HU : UnarySaid f) {B G r d : Nat} {v : Value} {us us' : List Tok} {l l' : List Ex} (w : World) (h : EIn B G w r v us d l) (hf : chainF (f + 1) 4 us d none l = .ok us' none l') :
    Calls Try.prog 77 #[.pointer (some ⟨r, 0, none⟩), v, .int .i64 (4 : Nat)] w fun e w' => ∃ v', e = .returned v' ∧ Hid (EOut B G r v w w' v' us' d l') := by
  have e : chainF (f + 1) 4 us d none l = unaryF f us d none l := by simp [chainF]
  rw [e] at hf
  have HX := Lib.hid (HU w h hf)
  clear h hf e HU
  go_enter Try.func77, Try.ntmps77
  go_wp2_with (first | (go_at_call 81; refine (HX.out).mono ?_; rintro e w1 ⟨v1, rfl, H1⟩))
  go_ret
  exact ⟨_, rfl, H1⟩
theorem lvl_len {n : Nat} : 0 < (lvlF n).length ∧ (lvlF n).length ≤ 3 := by unfold lvlF; split <;> simp
theorem op_in {n j : Nat} (hn : n < 4) (hj : j < (lvlF n).length) : opF (lvlF n)[j].1 = ((lvlF n)[j].2, n) ∧ isSg (lvlF n)[j].1 = true ∧ (lvlF n)[j].2 ≠ 0 := by
  have h : ∀ n, n < 4 → ∀ x ∈ lvlF n, opF x.1 = (x.2, n) ∧ isSg x.1 = true ∧ x.2 ≠ 0 := by
    intro n hn x hx
    rcases (show n = 0 ∨ n = 1 ∨ n = 2 ∨ n = 3 by omega) with rfl | rfl | rfl | rfl <;> simp only [lvlF, List.mem_cons, List.not_mem_nil, or_false] at hx
    · rcases hx with rfl | rfl | rfl <;> exact ⟨rfl, rfl, by simp⟩
    · rcases hx with rfl | rfl <;> exact ⟨rfl, rfl, by simp⟩
    · rcases hx with rfl | rfl <;> exact ⟨rfl, rfl, by simp⟩
    · rcases hx with rfl | rfl | rfl <;> exact ⟨rfl, rfl, by simp⟩
  exact h n hn _ (List.getElem_mem hj)
theorem op_out {n : Nat} {s : List UInt8} (hn : n < 4) (h : ∀ j (hj : j < (lvlF n).length), s ≠ (lvlF n)[j].1) : (opF s).2 ≠ n := by
  intro e
  have hx : ∀ x ∈ lvlF n, s ≠ x.1 := fun x hx => by
    obtain ⟨j, hj, rfl⟩ := List.getElem_of_mem hx
    exact h j hj
  clear h
  unfold opF at e
  by_cases k : s = [38]
  · rw [if_pos k] at e; obtain rfl : n = 0 := e.symm; exact hx ([38], 13) (by simp [lvlF]) k
  rw [if_neg k] at e; clear k
  by_cases k : s = [124]
  · rw [if_pos k] at e; obtain rfl : n = 0 := e.symm; exact hx ([124], 14) (by simp [lvlF]) k
  rw [if_neg k] at e; clear k
  by_cases k : s = [94]
  · rw [if_pos k] at e; obtain rfl : n = 0 := e.symm; exact hx ([94], 15) (by simp [lvlF]) k
  rw [if_neg k] at e; clear k
  by_cases k : s = [60, 60]
  · rw [if_pos k] at e; obtain rfl : n = 1 := e.symm; exact hx ([60, 60], 16) (by simp [lvlF]) k
  rw [if_neg k] at e; clear k
  by_cases k : s = [62, 62]
  · rw [if_pos k] at e; obtain rfl : n = 1 := e.symm; exact hx ([62, 62], 17) (by simp [lvlF]) k
  rw [if_neg k] at e; clear k
  by_cases k : s = [43]
  · rw [if_pos k] at e; obtain rfl : n = 2 := e.symm; exact hx ([43], 8) (by simp [lvlF]) k
  rw [if_neg k] at e; clear k
  by_cases k : s = [45]
  · rw [if_pos k] at e; obtain rfl : n = 2 := e.symm; exact hx ([45], 9) (by simp [lvlF]) k
  rw [if_neg k] at e; clear k
  by_cases k : s = [42]
  · rw [if_pos k] at e; obtain rfl : n = 3 := e.symm; exact hx ([42], 10) (by simp [lvlF]) k
  rw [if_neg k] at e; clear k
  by_cases k : s = [47]
  · rw [if_pos k] at e; obtain rfl : n = 3 := e.symm; exact hx ([47], 11) (by simp [lvlF]) k
  rw [if_neg k] at e; clear k
  by_cases k : s = [37]
  · rw [if_pos k] at e; obtain rfl : n = 3 := e.symm; exact hx ([37], 12) (by simp [lvlF]) k
  rw [if_neg k] at e; clear k
  have e' : (9 : Nat) = n := e
  omega

/-- What stands at the head of each round: of the operators that bind so. -/
structure RwAt (B G r d lvl f S : Nat) (v : Value) (w : World) (us' : List Tok) (l' : List Ex) (wx : World) (vc : Value) (fc : Nat) (uc : List Tok) (lc : List Ex) : Prop where
  out : EOut B G r v w wx vc uc d lc
  sg : wx.heap[S]? = some (.cells (sgV (lvlF lvl)) 9 (0, 0))
  kd : wx.heap[S + 1]? = some (.cells (kdV (lvlF lvl)) 3 (0, 0))
  eq : loopF fc lvl uc d none lc = .ok us' none l'
  le : fc ≤ f
  pos : 0 < lc.length
theorem sg_cell {w : World} {S n j : Nat} (h : w.heap[S]? = some (.cells (sgV (lvlF n)) 9 (0, 0))) (hj : j < (lvlF n).length) : w.cell? ⟨S, j, none⟩ = some (.string ⟨(lvlF n)[j].1.toArray⟩) :=
  box_cell h j _ (by simp [sgV, hj])
theorem kd_cell {w : World} {S n j : Nat} (h : w.heap[S]? = some (.cells (kdV (lvlF n)) 3 (0, 0))) (hj : j < (lvlF n).length) : w.cell? ⟨S, j, none⟩ = some (.int .i64 (lvlF n)[j].2) :=
  box_cell h j _ (by simp [kdV, hj])

set_option maxRecDepth 100000 in
set_option maxHeartbeats 4000000 in
theorem row_step {f : Nat} (HCs : ∀ g, g ≤ f → RowSaid g) (HU : UnarySaid f) : RowSaid (f + 1) := by
  intro B G r d lvl v us us' l l' w hl h hf
  by_cases h4 : lvl = 4
  · subst h4; exact row_four HU w h hf
  have hlt : lvl < 4 := by omega
  have hb4 : ((lvl : Int) == 4) = false := by simp; omega
  have hb4' : ¬ ((lvl : Int) = 4) := by omega
  have e : chainF (f + 1) lvl us d none l = (chainF f (lvl + 1) us d none l).bind fun us dp l => loopF f lvl us d dp l := by simp [chainF, h4]
  rw [e] at hf
  obtain ⟨u1, d1, l1, e1, g1⟩ := bind_ok hf
  have hd1 : d1 = none := none_of_none (fun k hk => by subst hk; exact (stays f).loop _ _ _ _ _ _ _ _ g1) rfl
  subst hd1
  have HCH := Lib.hid HCs
  have HX := Lib.hid (HCs f (Nat.le_refl _) (lvl := lvl + 1) w (by omega) h e1)
  have HI := Lib.hid h
  have HL := Lib.hid g1
  have HG := Lib.hid ((grows f).chain _ _ _ _ _ _ _ _ e1)
  clear h e1 g1 hf e HU HCs hl
  go_enter Try.func77, Try.ntmps77
  go_wp2_with (first | (go_at_call 77; refine (HX.out).mono ?_; rintro e w1 ⟨v1, rfl, H1⟩) | (go_at_call 82; refine (level_any _ _ hlt).mono ?_; rintro e w2 ⟨rfl, rfl⟩))
  go_loopg [1, 9, 10, 11, 12] u1.length (fun k x _ _ _ _ wx => ∃ fc uc lc, k = uc.length ∧ RwAt B G r d lvl f w1.heap.size v w us' l' wx x fc uc lc)
  case atStart =>
    have hk := ((Kept.refl w1).alloc (.cells (sgV (lvlF lvl)) 9)).alloc (.cells (kdV (lvlF lvl)) 3)
    exact ⟨f, u1, l1, rfl, H1.out.trans (EOut.of_reader H1.out.to (Chg.of_kept hk) (H1.out.to.rd.kept hk) (Nat.le_refl _)), heap_alloc2_old w1 _ _, heap_alloc2_new w1 _ _, HL.out, Nat.le_refl _, by have := HG.out.1; omega⟩
  case round =>
    obtain ⟨fc, uc, lc, hk, ha⟩ := hrel
    cases fc with
    | zero => exact absurd ha.eq (by simp [loopF])
    | succ fc =>
      cases uc with
      | nil => exact absurd ha.eq (by simp [loopF])
      | cons x xs =>
        rename World => wo
        have HA := Lib.hid ha
        have HH := Lib.hid (fun w => here_any (B := B) (G := G) (r := r) (d := d) (t := x) (us := xs) w)
        obtain ⟨_, _, _, _, _, _, c3, _⟩ := ha.out.to.rd.head
        obtain ⟨_, _, hvc⟩ := own_form ha.out.to.own
        subst hvc
        have hl0 := ha.pos
        have hl1 := ha.out.to.sz
        have hq : ((lc.length : Int) - 1) = ((lc.length - 1 : Nat) : Int) := by omega
        clear ha
        generalize hm : lc.length - 1 = m at *
        go_wp2_with (first | (go_at_call 51; refine (HH.out _ HA.out.out.to.rd).mono ?_; rintro e w2 ⟨rfl, H2⟩))
        have hln := lvl_len (n := lvl)
        go_loopg [11, 12] (lvlF lvl).length (fun k y z wy => ∃ j, z = .int .i64 (j : Nat) ∧ k = (lvlF lvl).length - j ∧ j ≤ (lvlF lvl).length ∧ ((y = .int .i64 0 ∧ Hid (Kept wo wy ∧ ∀ i (hi : i < (lvlF lvl).length), i < j → x.text ≠ (lvlF lvl)[i].1)) ∨ ∃ K : Nat, y = .int .i64 K ∧ K ≠ 0 ∧ Hid ((opF x.text) = (K, lvl) ∧ Chg (fun k => k = r) wo wy ∧ RR B G wy r xs d)))
        case atStart => exact ⟨0, rfl, rfl, Nat.zero_le _, .inl ⟨rfl, Lib.hid ⟨H2, fun i hi h0 => absurd h0 (by omega)⟩⟩⟩
        case round =>
          obtain ⟨j, rfl, hkj, hj, hcase⟩ := hrel
          have hj3 : j ≤ 3 := by omega
          rcases hcase with ⟨rfl, HN⟩ | ⟨K, rfl, hK, HN⟩
          · by_cases hjl : j < (lvlF lvl).length
            · have hjb : ((j : Int) < ((lvlF lvl).length : Int)) := by omega
              have c1 := sg_cell ((Chg.of_kept (S := fun _ => False) HN.out.1).heap HA.out.sg id) hjl
              have hne := (HA.out.out.to.rd.apart HA.out.kd (by decide) (by decide)).1
              have hkd := (Chg.of_kept (S := fun _ => False) HN.out.1).heap HA.out.kd id
              obtain ⟨hs1, hs2, hs3⟩ := op_in hlt hjl
              by_cases ht : x.text = (lvlF lvl)[j].1
              · have HT := Lib.hid (take_yes wr (HA.out.out.to.rd.kept HN.out.1) (.inr hs2) ht)
                go_wp2_with (first | (go_at_call 64; refine (HT.out).mono ?_; rintro e w3 ⟨rfl, H3⟩; have c2 := kd_cell (H3.out.1.heap hkd hne) hjl))
                go_roundg ((lvlF lvl).length - (j + 1))
                case measure => omega
                case rel => exact ⟨j + 1, by simp, rfl, by omega, .inr ⟨(lvlF lvl)[j].2, rfl, hs3, Lib.hid ⟨by rw [ht]; exact hs1, (Chg.of_kept HN.out.1).then H3.out.1, H3.out.2⟩⟩⟩
              · have HT := Lib.hid (take_no wr (HA.out.out.to.rd.kept HN.out.1) (.inr hs2) ht)
                go_wp2_with (first | (go_at_call 64; refine (HT.out).mono ?_; rintro e w3 ⟨rfl, H3⟩))
                go_roundg ((lvlF lvl).length - (j + 1))
                case measure => omega
                case rel => exact ⟨j + 1, by simp, rfl, by omega, .inl ⟨rfl, Lib.hid ⟨HN.out.1.trans H3, fun i hi hij => if q : i < j then HN.out.2 i hi q else by have q2 : i = j := (by omega); subst q2; exact ht⟩⟩⟩
            · have hjb : ¬ ((j : Int) < ((lvlF lvl).length : Int)) := by omega
              have hx : (opF x.text).2 ≠ lvl := op_out hlt fun i hi => HN.out.2 i hi (by omega)
              have heq := HA.out.eq
              simp only [loopF, hx, if_false] at heq
              injection heq with q1 q2 q3
              subst q1; subst q3
              clear hx q2
              go_wp2_with fail
              go_ret
              exact ⟨_, rfl, Lib.hid (HA.out.out.trans (EOut.of_reader HA.out.out.to (Chg.of_kept HN.out.1) (HA.out.out.to.rd.kept HN.out.1) (Nat.le_refl _)))⟩
          · have hKb : ((K : Int) == 0) = false := by simp; exact hK
            have hKb' : ¬ ((K : Int) = 0) := by omega
            have heq := HA.out.eq
            simp only [loopF, HN.out.1, if_true] at heq
            obtain ⟨us2, d2, l2, e1, g1⟩ := bind_ok heq
            have hd2 : d2 = none := none_of_none (fun k hk => by subst hk; exact (stays fc).loop _ _ _ _ _ _ _ _ g1) rfl
            subst hd2
            have hgr := (grows fc).chain _ _ _ _ _ _ _ _ e1
            have hI := HA.out.out.to.reader HN.out.2.1 HN.out.2.2 (by simp)
            have HX2 := Lib.hid (HCH.out fc (by have := HA.out.le; omega) (lvl := lvl + 1) _ (by omega) hI e1)
            have HG1 := Lib.hid g1
            have HI2 := Lib.hid hI
            clear heq e1 g1 hI
            obtain ⟨hg1, hg2, hg3⟩ := hgr
            simp only [List.length_cons] at hl1
            by_cases hjl : j < (lvlF lvl).length
            · have hjb : ((j : Int) < ((lvlF lvl).length : Int)) := by omega
              go_wp2_with (first | (go_at_call 77; refine (HX2.out).mono ?_; rintro e w4 ⟨v4, rfl, H4⟩) | (go_at_call 83; refine (two_any w4 m K x.place H4.out.to.own H4.out.to.base (by omega) (by omega)).mono ?_; rintro e w5 ⟨v5, rfl, H5⟩))
              have E := ((EOut.of_reader HA.out.out.to HN.out.2.1 HN.out.2.2 (by simp)).trans H4.out).trans (EOut.push H4.out.to H5.out (by omega))
              go_roundg us2.length
              case measure => simp only [List.length_cons] at hk; omega
              case rel => exact ⟨fc, us2, _, rfl, HA.out.out.trans E, E.heap HA.out.out.to HA.out.sg (by decide) (by decide), E.heap HA.out.out.to HA.out.kd (by decide) (by decide), (by have h9 := HG1.out; simp only [hm] at h9; exact h9), (by have := HA.out.le; omega), by simp⟩
            · have hjb : ¬ ((j : Int) < ((lvlF lvl).length : Int)) := by omega
              go_wp2_with (first | (go_at_call 77; refine (HX2.out).mono ?_; rintro e w4 ⟨v4, rfl, H4⟩) | (go_at_call 83; refine (two_any w4 m K x.place H4.out.to.own H4.out.to.base (by omega) (by omega)).mono ?_; rintro e w5 ⟨v5, rfl, H5⟩))
              have E := ((EOut.of_reader HA.out.out.to HN.out.2.1 HN.out.2.2 (by simp)).trans H4.out).trans (EOut.push H4.out.to H5.out (by omega))
              go_roundg us2.length
              case measure => simp only [List.length_cons] at hk; omega
              case rel => exact ⟨fc, us2, _, rfl, HA.out.out.trans E, E.heap HA.out.out.to HA.out.sg (by decide) (by decide), E.heap HA.out.out.to HA.out.kd (by decide) (by decide), (by have h9 := HG1.out; simp only [hm] at h9; exact h9), (by have := HA.out.le; omega), by simp⟩
end Go.Proofs.Ythjnkjekidagiaa.Rpr
