/-
  rel, one, both and cond of the document's answer's parser, at whatever number of steps (cond_all).
-/
import Derived.Test.YthjnkjekidagiaaRrdH
import Derived.Deep.LoopGhost
import Derived.WalkMore
namespace Go.Proofs.Ythjnkjekidagiaa.Rpr
open Go.RowKit
open Lex (Tok isKeyF)
open Prs

set_option maxRecDepth 100000 in
set_option maxHeartbeats 1000000 in
theorem rrel_any (s : List UInt8) (w : World) : Calls Try.prog 72 #[.string ⟨s.toArray⟩] w fun e w' => e = .returned (.int .i64 (relF s)) ∧ Kept w w' := by
  go_enter Try.func72, Try.ntmps72
  go_wp2
  go_loopw [4] (fun i wx => ∃ k : Nat, 1 ≤ k ∧ k ≤ 7 ∧ i = .int .i64 k ∧ wx = w.alloc (.cells #[.string ⟨#[]⟩, .string ⟨#[61, 61]⟩, .string ⟨#[33, 61]⟩, .string ⟨#[60]⟩, .string ⟨#[60, 61]⟩, .string ⟨#[62]⟩, .string ⟨#[62, 61]⟩] 9) ∧ Hid (∀ j, 1 ≤ j → j < k → relT j ≠ s)) (fun i _ => 7 - (intOf i).toNat)
  case atStart => exact ⟨1, by omega, by omega, rfl, rfl, Lib.hid fun j h1 h2 => by omega⟩
  case round =>
    obtain ⟨k, h1, h7, rfl, rfl, hall⟩ := hrel
    rcases (show k = 7 ∨ k = 1 ∨ k = 2 ∨ k = 3 ∨ k = 4 ∨ k = 5 ∨ k = 6 by omega) with rfl | rfl | rfl | rfl | rfl | rfl | rfl
    · go_wp2
      go_ret
      exact ⟨by rw [rel_none hall.out]; rfl, (Kept.refl w).alloc _⟩
    · go_wp2
      · go_ret
        have he : relT 1 = s := beq_iff_eq.1 (by assumption)
        subst he
        exact ⟨rfl, (Kept.refl w).alloc _⟩
      · have hne : relT 1 ≠ s := beq_eq_false_iff_ne.1 (by assumption)
        refine ⟨⟨2, by omega, by omega, rfl, trivial, Lib.hid fun j a b => ?_⟩, by simp [intOf]⟩
        by_cases hj : j = 1
        · subst hj; exact hne
        · exact hall.out j a (by omega)
    · go_wp2
      · go_ret
        have he : relT 2 = s := beq_iff_eq.1 (by assumption)
        subst he
        exact ⟨rfl, (Kept.refl w).alloc _⟩
      · have hne : relT 2 ≠ s := beq_eq_false_iff_ne.1 (by assumption)
        refine ⟨⟨3, by omega, by omega, rfl, trivial, Lib.hid fun j a b => ?_⟩, by simp [intOf]⟩
        by_cases hj : j = 2
        · subst hj; exact hne
        · exact hall.out j a (by omega)
    · go_wp2
      · go_ret
        have he : relT 3 = s := beq_iff_eq.1 (by assumption)
        subst he
        exact ⟨rfl, (Kept.refl w).alloc _⟩
      · have hne : relT 3 ≠ s := beq_eq_false_iff_ne.1 (by assumption)
        refine ⟨⟨4, by omega, by omega, rfl, trivial, Lib.hid fun j a b => ?_⟩, by simp [intOf]⟩
        by_cases hj : j = 3
        · subst hj; exact hne
        · exact hall.out j a (by omega)
    · go_wp2
      · go_ret
        have he : relT 4 = s := beq_iff_eq.1 (by assumption)
        subst he
        exact ⟨rfl, (Kept.refl w).alloc _⟩
      · have hne : relT 4 ≠ s := beq_eq_false_iff_ne.1 (by assumption)
        refine ⟨⟨5, by omega, by omega, rfl, trivial, Lib.hid fun j a b => ?_⟩, by simp [intOf]⟩
        by_cases hj : j = 4
        · subst hj; exact hne
        · exact hall.out j a (by omega)
    · go_wp2
      · go_ret
        have he : relT 5 = s := beq_iff_eq.1 (by assumption)
        subst he
        exact ⟨rfl, (Kept.refl w).alloc _⟩
      · have hne : relT 5 ≠ s := beq_eq_false_iff_ne.1 (by assumption)
        refine ⟨⟨6, by omega, by omega, rfl, trivial, Lib.hid fun j a b => ?_⟩, by simp [intOf]⟩
        by_cases hj : j = 5
        · subst hj; exact hne
        · exact hall.out j a (by omega)
    · go_wp2
      · go_ret
        have he : relT 6 = s := beq_iff_eq.1 (by assumption)
        subst he
        exact ⟨rfl, (Kept.refl w).alloc _⟩
      · have hne : relT 6 ≠ s := beq_eq_false_iff_ne.1 (by assumption)
        refine ⟨⟨7, by omega, by omega, rfl, trivial, Lib.hid fun j a b => ?_⟩, by simp [intOf]⟩
        by_cases hj : j = 6
        · subst hj; exact hne
        · exact hall.out j a (by omega)
set_option maxRecDepth 100000 in
set_option maxHeartbeats 4000000 in
theorem one_not {f : Nat} (HOne : OneSaid f) {B G r d : Nat} {v v0 : Value} {t : Tok} {us us2 : List Tok} {l l2 : List Cn} {X : List (Value × List Ex)} (w0 w : World) (h : COut B G r v0 w0 w v (t :: us) d l X) (ht : t.text = [110, 111, 116]) (hd : d < 30) (hb : oneF f us (d + 1) none l = .ok us2 none l2) :
    Calls Try.prog 63 #[.pointer (some ⟨r, 0, none⟩), v] w fun e w' => ∃ v', e = .returned v' ∧ Hid (COut B G r v0 w0 w' v' us2 d (l2 ++ [⟨2, 0, [], [], (l2.length - 1 : Nat), -1, t.place⟩]) []) := by
  have hgr := (growsC f).one _ _ _ _ _ _ _ hb
  unfold MoC at hgr
  have Hb := Lib.hid hb
  have Ht := Lib.hid ht
  clear hb ht
  have HC := Lib.hid h
  have hsz := h.to.sz
  simp only [List.length_cons] at hsz
  obtain ⟨aa, cc, rfl⟩ := h.to.form
  obtain ⟨n, cap, p, c0, c1, c2, c3, f1, f2, hp, hn, hm, h8, hr, hG, k0, k1, k2⟩ := h.to.rd.head
  clear h c0 c1 c2 f1 f2 hp hn hm h8 hr hG k0 k1 k2
  go_enter Try.func63, Try.ntmps63
  go_upto_region 7 with (first | (go_at_call 51; refine (c_here HC.out).mono ?_; clear HC; rintro e wh ⟨rfl, HC⟩) | (go_at_call 50; refine (c_is_yes HC.out (by decide) Ht.out).mono ?_; clear HC; rintro e wi ⟨rfl, HC⟩) | (go_at_call 70; refine (c_open HC.out (by decide) Ht.out hd).mono ?_; clear HC; rintro e wo ⟨rfl, HC⟩) | (go_at_call 63; refine (HOne _ _ HC.out Hb.out).mono ?_; clear HC; rintro e w4 ⟨v4, rfl, HC⟩; obtain ⟨a4, k4, rfl⟩ := HC.out.to.form))
  obtain ⟨x1, x2, x3⟩ := HC.out.to.rd.deep_cell
  have HD := Lib.hid (HC.out.dive d (by have := HC.out.to.rd.deep; omega))
  have hdd : (((d + 1 : Nat) : Int) - 1) = d := by omega
  have hdd' : ((d : Int) + 1 - 1) = d := by omega
  go_upto_region 8 with fail
  generalize w4.setCell ⟨r, 2, none⟩ (.int .i64 d) = wd at *
  clear x1 x2 x3 HC
  obtain ⟨xs, hx⟩ := HD.out.to.own
  have HO := Lib.hid hx
  clear hx
  go_wp2_with (at_builtin; refine wpList_pushC rfl _ _ rfl (⟨2, 0, [], [], (l2.length - 1 : Nat), -1, t.place⟩) (.slice none 0 0) (.slice none 0 0) _ _ HO.out.1 HO.out.2 (World.ownsRow_nil _ _ _ _) (World.ownsRow_nil _ _ _ _) HD.out.to.base (by omega) rfl rfl (by simp [cnCell]; try omega) ?_; intro v6 w6 H6)
  go_ret
  exact ⟨_, rfl, Lib.hid (HD.out.push H6.out (by omega))⟩
set_option maxRecDepth 100000 in
set_option maxHeartbeats 4000000 in
theorem one_in {f : Nat} (HE : EitherSaid f) {B G r d : Nat} {v v0 : Value} {t t3 : Tok} {us us2 : List Tok} {l l2 : List Cn} {X : List (Value × List Ex)} (w0 w : World) (h : COut B G r v0 w0 w v (t :: us) d l X) (ht : t.text = [91]) (hd : d < 30) (hb : eitherF f us (d + 1) none l = .ok (t3 :: us2) none l2) (ht3 : t3.text = [93]) :
    Calls Try.prog 63 #[.pointer (some ⟨r, 0, none⟩), v] w fun e w' => ∃ v', e = .returned v' ∧ Hid (COut B G r v0 w0 w' v' us2 d (l2) []) := by
  have n1 : t.text ≠ [110, 111, 116] := by rw [ht]; decide
  have Hb := Lib.hid hb
  have Ht := Lib.hid ht
  have Ht3 := Lib.hid ht3
  clear hb ht ht3
  have HC := Lib.hid h
  have hsz := h.to.sz
  simp only [List.length_cons] at hsz
  obtain ⟨aa, cc, rfl⟩ := h.to.form
  obtain ⟨n, cap, p, c0, c1, c2, c3, f1, f2, hp, hn, hm, h8, hr, hG, k0, k1, k2⟩ := h.to.rd.head
  clear h c0 c1 c2 f1 f2 hp hn hm h8 hr hG k0 k1 k2
  go_enter Try.func63, Try.ntmps63
  go_upto_region 13 with (first | (go_at_call 51; refine (c_here HC.out).mono ?_; clear HC; rintro e wh ⟨rfl, HC⟩) | (go_at_call 50; refine (c_is_no HC.out (by decide) (by assumption)).mono ?_; clear HC; rintro e wi ⟨rfl, HC⟩) | (go_at_call 50; refine (c_is_yes HC.out (by decide) Ht.out).mono ?_; clear HC; rintro e wi ⟨rfl, HC⟩) | (go_at_call 70; refine (c_open HC.out (by decide) Ht.out hd).mono ?_; clear HC; rintro e wo ⟨rfl, HC⟩) | (go_at_call 31; refine (HE _ _ HC.out Hb.out).mono ?_; clear HC; rintro e w4 ⟨v4, rfl, HC⟩; obtain ⟨a4, k4, rfl⟩ := HC.out.to.form) | (go_at_call 52; refine (c_want HC.out (by decide) Ht3.out).mono ?_; clear HC; rintro e w5 ⟨rfl, HC⟩))
  obtain ⟨x1, x2, x3⟩ := HC.out.to.rd.deep_cell
  have HD := Lib.hid (HC.out.dive d (by have := HC.out.to.rd.deep; omega))
  have hdd : (((d + 1 : Nat) : Int) - 1) = d := by omega
  have hdd' : ((d : Int) + 1 - 1) = d := by omega
  go_upto_region 14 with fail
  generalize w5.setCell ⟨r, 2, none⟩ (.int .i64 d) = wd at *
  clear x1 x2 x3 HC
  go_wp2_with fail
  go_ret
  exact ⟨_, rfl, HD⟩
set_option maxRecDepth 100000 in
set_option maxHeartbeats 4000000 in
theorem one_rel {f : Nat} (HR : RowSaid f) {B G r d : Nat} {v v0 : Value} {t t2 : Tok} {us us1 us2 : List Tok} {l : List Cn} {X : List (Value × List Ex)} (w0 w : World) (h : COut B G r v0 w0 w v (t :: us) d l X) {lx ly : List Ex} (n1 : t.text ≠ [110, 111, 116]) (n2 : t.text ≠ [91]) (e1 : chainF f 0 (t :: us) d none [] = .ok (t2 :: us1) none lx) (hr0 : relF t2.text ≠ 0) (e3 : chainF f 0 us1 d none [] = .ok us2 none ly) :
    Calls Try.prog 63 #[.pointer (some ⟨r, 0, none⟩), v] w fun e w' => ∃ v', e = .returned v' ∧ Hid (COut B G r v0 w0 w' v' us2 d (l ++ [⟨1, relF t2.text, lx, ly, -1, -1, t2.place⟩]) []) := by
  have g1 := ((grows f).chain _ _ _ _ _ _ _ _ e1).2
  have g3 := ((grows f).chain _ _ _ _ _ _ _ _ e3).2
  unfold Mo at g1 g3
  simp only [List.length_cons, List.length_nil] at g1 g3
  have Hx := Lib.hid e1
  have Hy := Lib.hid e3
  have HL := Lib.hid (fun w => rrel_any t2.text w)
  obtain ⟨hsg, hr6⟩ := rel_sg hr0
  have Hsg := Lib.hid hsg
  generalize hn0 : relF t2.text = nr at *
  have hnb : ((nr : Int) == 0) = false := by simp; omega
  have hnb' : ¬ ((nr : Int) = 0) := by omega
  clear e1 e3 hr0 hn0 hsg
  have HC := Lib.hid h
  have hsz := h.to.sz
  simp only [List.length_cons] at hsz
  obtain ⟨aa, cc, rfl⟩ := h.to.form
  obtain ⟨n, cap, p, c0, c1, c2, c3, f1, f2, hp, hn, hm, h8, hr, hG, k0, k1, k2⟩ := h.to.rd.head
  clear h c0 c1 c2 f1 f2 hp hn hm h8 hr hG k0 k1 k2
  have hu8 : (t :: us).length ≤ 8193 := by simp only [List.length_cons]; omega
  go_enter Try.func63, Try.ntmps63
  go_upto_region 15 with (first | (go_at_call 51; refine (c_here HC.out).mono ?_; clear HC; rintro e wh ⟨rfl, HC⟩) | (go_at_call 50; refine (c_is_no HC.out (by decide) (by assumption)).mono ?_; clear HC; rintro e wi ⟨rfl, HC⟩))
  go_upto_region 16 with (go_at_call 71; refine (c_expr HR HC.out Hx.out hu8).mono ?_; clear HC; rintro e w4 ⟨vx, rfl, HC⟩)
  go_upto_region 17 with (go_at_call 51; refine (c_here HC.out).mono ?_; clear HC; rintro e wh ⟨rfl, HC⟩)
  obtain ⟨n, cap, p, c0, c1, c2, c3', f1, f2, hp, hn, hm, h8, hr, hG, k0, k1, k2⟩ := HC.out.to.rd.head
  have hk4 := (HC.out.to.rd.good t2 (by simp)).2.2.2.1
  have hk4 : t2.kind = 4 := by
    rcases hk4 with q | q | q
    · have := key_sg q.2; rw [Hsg.out] at this; cases this
    · exact q.1
    · rw [Hsg.out] at q; exact absurd q.2.2.2 (by decide)
  have Hk4 := Lib.hid hk4
  clear hk4
  simp only [maxLen] at hm
  go_region_held3 (fun w' => w'.cell? ⟨r, 0, none⟩ = some (.slice (some ⟨G, 0, none⟩) n cap) ∧ w'.cell? ⟨r, 1, none⟩ = some (.int .i64 (p : Nat)) ∧ w'.cell? ⟨G, p * 3 + 1, none⟩ = some (.string ⟨t2.text.toArray⟩))
    (first | go_keep | exact ⟨b0, b1, b2⟩)
    (first | (go_at_call 72; refine (HL.out _).mono ?_; rintro e w7 ⟨rfl, k7⟩; have HC7 := Lib.hid (HC.out.kept ((Kept.refl wh).drew.trans k7)); obtain ⟨n', cap', p', b0, b1, b2', b3, f1', f2', hp', hn', hm', h8', hr', hG', b4, b2, b6⟩ := HC7.out.to.rd.head; obtain ⟨e1, e2, e3⟩ : n' = n ∧ cap' = cap ∧ p' = p := by { have y0 := (World.cell?_of_block (((Kept.refl wh).drew.trans k7).block _ hr)).trans c0; have y1 := (World.cell?_of_block (((Kept.refl wh).drew.trans k7).block _ hr)).trans c1; rw [b0] at y0; rw [b1] at y1; injection y0 with y0; injection y0 with _ y0 y2; injection y1 with y1; injection y1 with _ y1; omega }; subst e1; subst e2; subst e3; clear k7))
  rw [Hk4.out] at b4
  go_wp2
  go_region
  have HD := Lib.hid (HC7.out.next b1)
  go_upto_region 22 with fail
  generalize w7.setCell ⟨r, 1, none⟩ (.int .i64 ((p' : Int) + 1)) = w8 at *
  clear c0 c1 c2 c3' f1 f2 hp hn hm h8 hr hG k0 k1 k2 b0 b1 b2 b2' b3 f1' f2' hp' hn' hm' h8' hr' hG' b4 b6 HC HC7
  have HE := Lib.hid (HD.out.kept (Kept.refl w8).drew)
  clear HD
  generalize w8.drew = w9 at *
  go_upto_region 23 with (go_at_call 71; refine (c_expr HR HE.out Hy.out (by omega)).mono ?_; rintro e w10 ⟨vy, rfl, HF⟩)
  obtain ⟨xs, hx⟩ := HF.out.to.own
  have HO := Lib.hid hx
  have rx := HF.out.rows (vx, lx) (by simp)
  have ry := HF.out.rows (vy, ly) (by simp)
  obtain ⟨ax, kx, ex⟩ := own_form rx
  obtain ⟨ay, ky, ey⟩ := own_form ry
  simp only at ex ey rx ry
  subst ex; subst ey
  have RX := Lib.hid rx
  have RY := Lib.hid ry
  clear hx rx ry
  go_wp2_with (at_builtin; refine wpList_pushC rfl _ _ rfl (⟨1, nr, lx, ly, -1, -1, t2.place⟩) (.slice ax lx.length kx) (.slice ay ly.length ky) _ _ HO.out.1 HO.out.2 RX.out RY.out HF.out.to.base (by omega) rfl rfl (by simp [cnCell]; try omega) ?_; intro v6 w6 H6)
  go_ret
  exact ⟨_, rfl, Lib.hid (HF.out.push H6.out (by omega))⟩
theorem one_step {f : Nat} (HR : RowSaid f) (HE : EitherSaid f) (HOne : OneSaid f) : OneSaid (f + 1) := by
  intro B G r d v v0 us us' l l' X w0 w h hf
  cases us with
  | nil => simp [oneF] at hf
  | cons t us =>
    simp only [oneF] at hf
    by_cases hn : t.text = [110, 111, 116]
    · rw [if_pos hn] at hf
      obtain ⟨u1, d1, l2, e1, g1⟩ := bind_ok hf
      injection g1 with q1 q2 q3
      subst q1; subst q2; subst q3
      have hd : dpF d none t.place = none := none_of_none (fun k hk => by rw [hk] at e1; exact (staysC f).one _ _ _ _ _ _ _ e1) rfl
      rw [hd] at e1
      exact one_not HOne w0 w h hn (none_dpF hd).2 e1
    rw [if_neg hn] at hf
    by_cases hb : t.text = [91]
    · rw [if_pos hb] at hf
      obtain ⟨u1, d1, l2, e1, g1⟩ := bind_ok hf
      obtain ⟨u3, d3, a3, h5, h6⟩ := bind_ok g1
      obtain ⟨e, t3, e2, e3, -⟩ := take_ok h5
      injection h6 with q1 q2 q3
      subst e2; subst q1; subst q2; subst q3; subst e
      have hd : dpF d none t.place = none := none_of_none (fun k hk => by rw [hk] at e1; exact (staysC f).either _ _ _ _ _ _ _ e1) rfl
      rw [hd] at e1
      exact one_in HE w0 w h hb (none_dpF hd).2 e1 e3
    rw [if_neg hb] at hf
    obtain ⟨u1, d1, c, e1, g1⟩ := bind_ok hf
    injection g1 with q1 q2 q3
    subst q1; subst q2; subst q3
    obtain ⟨t2, us1, dp1, lx, ly, k1, k2, k3, k4⟩ := compared_ok e1
    have hd : dp1 = none := none_of_none (fun k hk => by rw [hk] at k3; exact (stays f).chain _ _ _ _ _ _ _ _ k3) rfl
    subst hd; subst k4
    exact one_rel HR w0 w h hn hb k1 k2 k3

/-- What stands at the head of each round. -/
structure BothSaidAt (B G r d f : Nat) (v0 : Value) (w0 : World) (us' : List Tok) (l' : List Cn) (wx : World) (vc : Value) (fc : Nat) (uc : List Tok) (lc : List Cn) : Prop where
  out : COut B G r v0 w0 wx vc uc d lc []
  eq : bothL fc uc d none lc = .ok us' none l'
  le : fc ≤ f
  pos : 0 < lc.length
set_option maxRecDepth 100000 in
set_option maxHeartbeats 4000000 in
theorem both_step {f : Nat} (HCs : ∀ g, g ≤ f → OneSaid g) : BothSaid (f + 1) := by
  intro B G r d v v0 us us' l l' X w0 w h hf
  simp only [bothF] at hf
  obtain ⟨u1, d1, l1, e1, g1⟩ := bind_ok hf
  have hd1 : d1 = none := none_of_none (fun k hk => by subst hk; exact (staysC f).bothL _ _ _ _ _ _ _ g1) rfl
  subst hd1
  have HCH := Lib.hid HCs
  have HX := Lib.hid (HCs f (Nat.le_refl _) w0 w h e1)
  have HL := Lib.hid g1
  have HG := Lib.hid ((growsC f).one _ _ _ _ _ _ _ e1)
  clear h e1 g1 hf HCs
  go_enter Try.func49, Try.ntmps49
  go_wp2_with (first | (go_at_call 63; refine (HX.out).mono ?_; rintro e w1 ⟨v1, rfl, H1⟩))
  go_loopg [1, 5, 6] u1.length (fun k x _ _ wx => ∃ fc uc lc, k = uc.length ∧ BothSaidAt B G r d f v0 w0 us' l' wx x fc uc lc)
  case atStart => exact ⟨f, u1, l1, rfl, H1.out, HL.out, Nat.le_refl _, by have := HG.out.1; omega⟩
  case round =>
    obtain ⟨fc, uc, lc, hk, ha⟩ := hrel
    cases fc with
    | zero => exact absurd ha.eq (by simp [bothL])
    | succ fc =>
      cases uc with
      | nil => exact absurd ha.eq (by simp [bothL])
      | cons x xs =>
        have HA := Lib.hid ha
        obtain ⟨_, _, _, _, _, _, c3, _⟩ := ha.out.to.rd.head
        obtain ⟨_, _, hvc⟩ := ha.out.to.form
        subst hvc
        have hl0 := ha.pos
        have hl1 := ha.out.to.sz
        have hq : ((lc.length : Int) - 1) = ((lc.length - 1 : Nat) : Int) := by omega
        have HC : Hid (COut B G r v0 w0 wr (.slice _ lc.length _) (x :: xs) d lc []) := Lib.hid ha.out
        clear ha
        by_cases hx : x.text = [97, 110, 100]
        · have heq := HA.out.eq
          simp only [bothL, hx, if_true] at heq
          obtain ⟨us2, d2, l2, e1, g1⟩ := bind_ok heq
          have hd2 : d2 = none := none_of_none (fun k hk => by subst hk; exact (staysC fc).bothL _ _ _ _ _ _ _ g1) rfl
          subst hd2
          have hgr := (growsC fc).one _ _ _ _ _ _ _ e1
          unfold MoC at hgr
          have He := Lib.hid e1
          have HG1 := Lib.hid g1
          have Ht := Lib.hid hx
          clear heq e1 g1 hx
          simp only [List.length_cons] at hl1 hk
          generalize hm : lc.length - 1 = m at *
          go_wp2_with (first | (go_at_call 51; refine (c_here HC.out).mono ?_; clear HC; rintro e wh ⟨rfl, HC⟩) | (go_at_call 50; refine (c_is_yes HC.out (by decide) Ht.out).mono ?_; clear HC; rintro e wi ⟨rfl, HC⟩) | (go_at_call 52; refine (c_want HC.out (by decide) Ht.out).mono ?_; clear HC; rintro e w5 ⟨rfl, HC⟩) | (go_at_call 63; refine (HCH.out fc (by have := HA.out.le; omega) _ _ HC.out He.out).mono ?_; clear HC; rintro e w4 ⟨v4, rfl, HC⟩; obtain ⟨a4, k4, rfl⟩ := HC.out.to.form; obtain ⟨xs4, hx4⟩ := HC.out.to.own; have HO := Lib.hid hx4; clear hx4) | (at_builtin; refine wpList_pushC rfl _ _ rfl (⟨3, 0, [], [], m, (l2.length - 1 : Nat), x.place⟩) (.slice none 0 0) (.slice none 0 0) _ _ HO.out.1 HO.out.2 (World.ownsRow_nil _ _ _ _) (World.ownsRow_nil _ _ _ _) HC.out.to.base (by omega) rfl rfl (by simp [cnCell]; try omega) ?_; intro v6 w6 H6))
          go_roundg us2.length
          case measure => omega
          case rel => exact ⟨fc, us2, _, rfl, HC.out.push H6.out (by omega), HG1.out, (by have := HA.out.le; omega), by simp⟩
        · have heq := HA.out.eq
          simp only [bothL, hx, if_false] at heq
          injection heq with q1 q2 q3
          subst q1; subst q3
          clear q2
          go_wp2_with (go_at_call 50; refine (c_is_no HC.out (by decide) (by assumption)).mono ?_; clear HC; rintro e wi ⟨rfl, HC⟩)
          go_ret
          exact ⟨_, rfl, HC⟩

/-- What stands at the head of each round. -/
structure EitherSaidAt (B G r d f : Nat) (v0 : Value) (w0 : World) (us' : List Tok) (l' : List Cn) (wx : World) (vc : Value) (fc : Nat) (uc : List Tok) (lc : List Cn) : Prop where
  out : COut B G r v0 w0 wx vc uc d lc []
  eq : eitherL fc uc d none lc = .ok us' none l'
  le : fc ≤ f
  pos : 0 < lc.length
set_option maxRecDepth 100000 in
set_option maxHeartbeats 4000000 in
theorem cond_step {f : Nat} (HCs : ∀ g, g ≤ f → BothSaid g) : EitherSaid (f + 1) := by
  intro B G r d v v0 us us' l l' X w0 w h hf
  simp only [eitherF] at hf
  obtain ⟨u1, d1, l1, e1, g1⟩ := bind_ok hf
  have hd1 : d1 = none := none_of_none (fun k hk => by subst hk; exact (staysC f).eitherL _ _ _ _ _ _ _ g1) rfl
  subst hd1
  have HCH := Lib.hid HCs
  have HX := Lib.hid (HCs f (Nat.le_refl _) w0 w h e1)
  have HL := Lib.hid g1
  have HG := Lib.hid ((growsC f).both _ _ _ _ _ _ _ e1)
  clear h e1 g1 hf HCs
  go_enter Try.func31, Try.ntmps31
  go_wp2_with (first | (go_at_call 49; refine (HX.out).mono ?_; rintro e w1 ⟨v1, rfl, H1⟩))
  go_loopg [1, 5, 6] u1.length (fun k x _ _ wx => ∃ fc uc lc, k = uc.length ∧ EitherSaidAt B G r d f v0 w0 us' l' wx x fc uc lc)
  case atStart => exact ⟨f, u1, l1, rfl, H1.out, HL.out, Nat.le_refl _, by have := HG.out.1; omega⟩
  case round =>
    obtain ⟨fc, uc, lc, hk, ha⟩ := hrel
    cases fc with
    | zero => exact absurd ha.eq (by simp [eitherL])
    | succ fc =>
      cases uc with
      | nil => exact absurd ha.eq (by simp [eitherL])
      | cons x xs =>
        have HA := Lib.hid ha
        obtain ⟨_, _, _, _, _, _, c3, _⟩ := ha.out.to.rd.head
        obtain ⟨_, _, hvc⟩ := ha.out.to.form
        subst hvc
        have hl0 := ha.pos
        have hl1 := ha.out.to.sz
        have hq : ((lc.length : Int) - 1) = ((lc.length - 1 : Nat) : Int) := by omega
        have HC : Hid (COut B G r v0 w0 wr (.slice _ lc.length _) (x :: xs) d lc []) := Lib.hid ha.out
        clear ha
        by_cases hx : x.text = [111, 114]
        · have heq := HA.out.eq
          simp only [eitherL, hx, if_true] at heq
          obtain ⟨us2, d2, l2, e1, g1⟩ := bind_ok heq
          have hd2 : d2 = none := none_of_none (fun k hk => by subst hk; exact (staysC fc).eitherL _ _ _ _ _ _ _ g1) rfl
          subst hd2
          have hgr := (growsC fc).both _ _ _ _ _ _ _ e1
          unfold MoC at hgr
          have He := Lib.hid e1
          have HG1 := Lib.hid g1
          have Ht := Lib.hid hx
          clear heq e1 g1 hx
          simp only [List.length_cons] at hl1 hk
          generalize hm : lc.length - 1 = m at *
          go_wp2_with (first | (go_at_call 51; refine (c_here HC.out).mono ?_; clear HC; rintro e wh ⟨rfl, HC⟩) | (go_at_call 50; refine (c_is_yes HC.out (by decide) Ht.out).mono ?_; clear HC; rintro e wi ⟨rfl, HC⟩) | (go_at_call 52; refine (c_want HC.out (by decide) Ht.out).mono ?_; clear HC; rintro e w5 ⟨rfl, HC⟩) | (go_at_call 49; refine (HCH.out fc (by have := HA.out.le; omega) _ _ HC.out He.out).mono ?_; clear HC; rintro e w4 ⟨v4, rfl, HC⟩; obtain ⟨a4, k4, rfl⟩ := HC.out.to.form; obtain ⟨xs4, hx4⟩ := HC.out.to.own; have HO := Lib.hid hx4; clear hx4) | (at_builtin; refine wpList_pushC rfl _ _ rfl (⟨4, 0, [], [], m, (l2.length - 1 : Nat), x.place⟩) (.slice none 0 0) (.slice none 0 0) _ _ HO.out.1 HO.out.2 (World.ownsRow_nil _ _ _ _) (World.ownsRow_nil _ _ _ _) HC.out.to.base (by omega) rfl rfl (by simp [cnCell]; try omega) ?_; intro v6 w6 H6))
          go_roundg us2.length
          case measure => omega
          case rel => exact ⟨fc, us2, _, rfl, HC.out.push H6.out (by omega), HG1.out, (by have := HA.out.le; omega), by simp⟩
        · have heq := HA.out.eq
          simp only [eitherL, hx, if_false] at heq
          injection heq with q1 q2 q3
          subst q1; subst q3
          clear q2
          go_wp2_with (go_at_call 50; refine (c_is_no HC.out (by decide) (by assumption)).mono ?_; clear HC; rintro e wi ⟨rfl, HC⟩)
          go_ret
          exact ⟨_, rfl, HC⟩

theorem cond_all : ∀ f, OneSaid f ∧ BothSaid f ∧ EitherSaid f := by
  intro f
  induction f using Nat.strongRecOn with
  | ind f ih =>
    cases f with
    | zero =>
      refine ⟨?_, ?_, ?_⟩
      · intro B G r d v v0 us us' l l' X w0 w _ hf; simp [oneF] at hf
      · intro B G r d v v0 us us' l l' X w0 w _ hf; simp [bothF] at hf
      · intro B G r d v v0 us us' l l' X w0 w _ hf; simp [eitherF] at hf
    | succ f =>
      exact ⟨one_step (said_all f).1 (ih f (by omega)).2.2 (ih f (by omega)).1, both_step (fun g hg => (ih g (by omega)).1), cond_step (fun g hg => (ih g (by omega)).2.1)⟩
end Go.Proofs.Ythjnkjekidagiaa.Rpr
