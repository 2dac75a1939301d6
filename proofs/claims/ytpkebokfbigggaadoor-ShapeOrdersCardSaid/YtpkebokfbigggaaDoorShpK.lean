/-
  The document's order, Order and Reducible (package calliperref10): walked.
-/
import Derived.Test.YtpkebokfbigggaaDoorShpJ
namespace Go.Proofs.YtpkebokfbigggaaDoor.Shp
open Go.RowKit
open Classical

theorem heap_size_set (w : World) (p : Addr) (u : Value) : (w.setCell p u).heap.size = w.heap.size := by simp
theorem ret_pair {u : Value} {a b : Int} (h : a = b) : Ending.returned (.tuple #[u, .int .i64 a]) = .returned (.tuple #[u, .int .i64 b]) := by rw [h]
set_option maxRecDepth 100000 in
set_option maxHeartbeats 8000000 in
theorem order_in (w : World) (v : Value) (g : Gr) (f : Int) (hg : GraphAt w v g) (hl : g.length ≤ 2000) :
    Calls Tryd.prog 34 #[v, .int .i64 f] w fun e w' => ∃ u, e = .returned (.tuple #[u, .int .i64 ((cntR g f - (ordL g f).length : Nat) : Int)]) ∧ Hid (Kept w w' ∧ w'.ownsRow w.heap.size 3 1 u (ordL g f).length ((ordL g f).map vn)) := by
  obtain ⟨i0, hi, hz0, hz1, hz2⟩ := info_get int_inf
  have Hi := Lib.hid (And.intro hi (And.intro hz0 (And.intro hz1 hz2)))
  clear hi hz0 hz1 hz2
  obtain ⟨ga, gc, rfl⟩ := hg.form
  have HG := Lib.hid hg
  have HC := Lib.hid (dominators_any w (.slice ga g.length gc) g f hg hl)
  have HC2 := Lib.hid (fun W (hk : Kept w W) => reach_any W (.slice ga g.length gc) g f (hg.kept hk) hl)
  have Lr := Lib.hid (reachL_len (g := g) f)
  have Ld := Lib.hid (idomL_len (g := g) f)
  have hmk := made_bools g.length (by omega)
  generalize hL : cntR g f - (ordL g f).length = lf
  have HL := Lib.hid hL
  clear hg hL
  go_enter Tryd.func34, Tryd.ntmps34
  go_upto_region 2 with (first | (go_at_call 14; refine (HC.out).mono ?_; rintro e w1 ⟨vd, rfl, H1⟩) | (go_at_call 11; refine (HC2.out _ H1.out.1).mono ?_; rintro e w2 ⟨vr, rfl, H2⟩))
  have Kw := Lib.hid (H1.out.1.trans H2.out.1)
  have hd := own_list (f := vi) (l := idomL g f) (by rw [idomL_len]; exact own_kept H1.out.2 H2.out.1)
  have hr := own_list (f := vb) (l := reachL g f) (by rw [reachL_len]; exact H2.out.2)
  have HD := Lib.hid hd
  have HR := Lib.hid hr
  obtain ⟨da, dc, rfl⟩ := hd.form
  obtain ⟨ra, rc, e⟩ := hr.form
  rw [reachL_len] at e
  subst e
  have HM := Lib.hid (own_made (f := vb) w2 false g.length (by omega) 4)
  rw [← doneL_nil] at HM
  clear hd hr H1 H2 HC HC2
  go_wp2
  have hst : Hid (OrdAt w2 (w2.alloc (.cells (madeCells #[.bool false] g.length) 4)) (.slice (some ⟨w2.heap.size, 0, none⟩) g.length g.length) (.slice none 0 0) g []) := Lib.hid ⟨(Kept.refl w2).alloc _, HM.out, World.ownsRow_nil _ _ _ _⟩
  clear HM hmk
  generalize w2.alloc (.cells (madeCells #[.bool false] g.length) 4) = W0 at *
  go_loopg [10, 11] (g.length) (fun m n i wz => ∃ k : Nat, m = g.length - k ∧ k ≤ g.length ∧ i = .int .i64 (k : Int) ∧ n = .int .i64 (cntU g f k : Int) ∧ wz = W0)
  case atStart => exact ⟨0, by omega, by omega, rfl, rfl, rfl⟩
  case round =>
    obtain ⟨k, rfl, hk, rfl, rfl, rfl⟩ := hrel
    by_cases hlt : k < g.length
    · obtain ⟨x, rfl, h1, h2, c1⟩ := (HR.out.kept hst.out.kept).at (j := k) (by rw [reachL_len]; exact hlt)
      rw [reachL_at] at c1
      rw [reachL_len] at h1
      simp only [maxLen] at h2
      simp only [vb] at c1
      have hul := cntU_le (g := g) (f := f) k
      by_cases hre : ReI g f k
      · rw [decide_eq_true hre] at c1
        have HU := Lib.hid (cntU_yes hre)
        clear hre
        go_wp2
        go_roundg (g.length - (k + 1))
        case measure => omega
        case rel => exact ⟨k + 1, rfl, by omega, by simp, by rw [HU.out]; simp, rfl⟩
      · rw [decide_eq_false hre] at c1
        have HU := Lib.hid (cntU_no hre)
        clear hre
        go_wp2
        go_roundg (g.length - (k + 1))
        case measure => omega
        case rel => exact ⟨k + 1, rfl, by omega, by simp, by rw [HU.out], rfl⟩
    obtain rfl : k = g.length := by omega
    clear hlt
    rw [cntU_end]
    have hcr : cntR g f ≤ 2000 := Nat.le_trans (cntU_le (g := g) (f := f) g.length) hl
    go_wp2
    generalize hvd : Value.slice (some ⟨w2.heap.size, 0, none⟩) g.length g.length = vd at *
    obtain ⟨gd, cd, rfl⟩ : ∃ gd cd, vd = .slice (some ⟨gd, 0, none⟩) g.length cd := ⟨_, _, hvd.symm⟩
    clear hvd
    go_loopg [9] (cntR g f) (fun m vo wz => ∃ dl, m = cntR g f - dl.length ∧ dl.length ≤ cntR g f ∧ Hid (Ord g f dl ∧ OrdAt w2 wz (.slice (some ⟨gd, 0, none⟩) g.length cd) vo g dl))
    case atStart => exact ⟨[], by simp, by simp, Lib.hid ⟨ord_start, hst.out⟩⟩
    case round =>
      clear hst
      rename World => w5
      obtain ⟨dl, rfl, hdl, HK⟩ := hrel
      obtain ⟨oa, oc, e⟩ := own_form HK.out.2.out
      subst e
      by_cases hlt : dl.length < cntR g f
      case neg =>
        have HE := Lib.hid (HK.out.1.full (by omega))
        have HO := Lib.hid (And.intro (Kw.out.trans HK.out.2.kept) (own_low HK.out.2.out Kw.out.size))
        have hd0 : decide ((dl.length : Int) < (cntR g f : Int)) = false := decide_eq_false (by omega)
        have hd1 : decide (dl.length < cntR g f) = false := decide_eq_false (by omega)
        clear HK
        go_wp2
        go_ret2
        exact ⟨_, ret_pair (by rw [← HL.out, ← HE.out]; omega), by rw [← HE.out]; exact HO⟩
      have hst : Hid (OrdAt w2 w5 (.slice (some ⟨gd, 0, none⟩) g.length cd) (.slice oa dl.length oc) g dl) := Lib.hid HK.out.2
      have HO := Lib.hid HK.out.1
      have hs0 : Srch g f dl 0 (-1) := .inl ⟨rfl, fun c hc => absurd hc (by omega)⟩
      clear HK
      go_wp2
      go_loopg [12, 13] (g.length) (fun m nx i wz => ∃ (b : Nat) (x : Int), m = g.length - b ∧ b ≤ g.length ∧ i = .int .i64 (b : Int) ∧ nx = .int .i64 x ∧ Srch g f dl b x ∧ Hid (OrdAt w2 wz (.slice (some ⟨gd, 0, none⟩) g.length cd) (.slice oa dl.length oc) g dl))
      case atStart => exact ⟨0, -1, by omega, by omega, rfl, rfl, hs0, hst⟩
      case round =>
        clear hst hs0
        rename World => w6
        obtain ⟨b, x, rfl, hb, rfl, rfl, hS, HK⟩ := hrel
        by_cases hx : x = -1 ∧ b < g.length
        case neg =>
          have hd : (decide ((b : Int) < (g.length : Int)) && decide (x < 0)) = false := by
            rw [Bool.and_eq_false_iff, decide_eq_false_iff_not, decide_eq_false_iff_not]
            rcases hS with ⟨h, _⟩ | ⟨c, h, _⟩
            · left; omega
            · right; omega
          by_cases hx0 : x < 0
          · -- none may come next
            have hx1 : x = -1 := by
              rcases hS with ⟨h, _⟩ | ⟨c, h, _⟩
              · exact h
              · omega
            subst hx1
            have hbn : b = g.length := by omega
            subst hbn
            have hnone : nextF g f dl = none := by
              rcases hS with ⟨_, h⟩ | ⟨c, h, _⟩
              · exact srch_none h
              · omega
            have HE := Lib.hid (HO.out.stop hnone)
            have HQ := Lib.hid (And.intro (Kw.out.trans HK.out.kept) (own_low HK.out.out Kw.out.size))
            have hd2 : decide (g.length < g.length) = false := decide_eq_false (by omega)
            clear HK HO hd hS hx hnone
            go_wp2
            go_ret2
            exact ⟨_, ret_pair (by rw [← HL.out, ← HE.out]; omega), by rw [← HE.out]; exact HQ⟩
          · obtain ⟨c, rfl, hn⟩ : ∃ c : Nat, x = c ∧ nextF g f dl = some c := by
              rcases hS with ⟨h, _⟩ | h
              · omega
              · exact h
            have hcl : c < g.length := (nextF_some hn).1.2.lt
            have HN := Lib.hid (HO.out.next hlt hn)
            obtain ⟨gd', e, h4, h5, -, c1, f1⟩ := own_at HK.out.done (j := c) (by simp [doneL]; exact hcl)
            injection e with e
            injection e with e
            subst e
            simp only [maxLen] at h5
            have Hown0 := Lib.hid (show ((w6.setCell ⟨gd, c, none⟩ (.bool true)).alloc (.cells #[.int .i64 (c : Int)] 3)).ownsRow w2.heap.size 3 1 (.slice oa dl.length oc) dl.length (dl.map vn) from by
              obtain ⟨_, _, cc, hcc⟩ := own_ty HK.out.done (g := gd) rfl
              exact (own_other HK.out.out hcc (by decide) _).alloc _)
            have hws := Below.size HK.out.kept
            have hx9 : 0 ≤ (c : Int) := by omega
            clear hd hS hx hn
            generalize ((doneL g dl).map vb)[c]'(by simp [doneL]; exact hcl) = z at *
            go_wp2_with (at_builtin; refine wpList_append_lies _ rfl (.tmp 122) (.tmp 124) 23 rfl w2.heap.size 3 i0 _ 1 8 Tryd.underlying23 Hi.out.1 Hi.out.2.1 Hi.out.2.2.1 Hi.out.2.2.2 rfl (by omega) (.slice oa dl.length oc) dl.length (dl.map vn) rfl Hown0.out ⟨w6.heap.size, 0, none⟩ 1 1 [.int .i64 (c : Int)] rfl rfl (World.news_of_block (cs := #[.int .i64 (c : Int)]) (by have := heap_alloc_new (w6.setCell ⟨gd, c, none⟩ (.bool true)) (.cells #[.int .i64 (c : Int)] 3); simpa using this)) (by simp [Value.oneCell']) (by omega) (by simp only [maxLen]; omega) (by omega) (by simp; omega) (w6.heap.size + 1) (by simp) ?_; intro g7 cap7 w7 hown hgrow hat hlt7; have Hown := Lib.hid hown; have Hgrow := Lib.hid hgrow; clear hown hgrow hat)
            all_goals
              go_roundg (cntR g f - (dl ++ [c]).length)
              case measure => simp; omega
              case rel => exact ⟨dl ++ [c], rfl, by simp; omega, Lib.hid ⟨HN.out, HK.out.push Hgrow.out Hown.out⟩⟩
        obtain ⟨rfl, hbl⟩ := hx
        have hno : ∀ c, c < b → ¬ free g f dl c := by
          rcases hS with ⟨_, h⟩ | ⟨c, h, _⟩
          · exact h
          · omega
        have HNo := Lib.hid hno
        clear hS hno
        -- is b free?
        have hd0 : decide ((b : Int) < (g.length : Int)) = true := decide_eq_true (by omega)
        obtain ⟨x, rfl, r1, r2, c1⟩ := (HR.out.kept HK.out.kept).at (j := b) (by rw [reachL_len]; exact hbl)
        rw [reachL_at] at c1
        rw [reachL_len] at r1
        obtain ⟨gd', e, h4, h5, -, c2, -⟩ := own_at HK.out.done (j := b) (by simp [doneL]; exact hbl)
        injection e with e
        injection e with e
        subst e
        have e2 : ((doneL g dl).map vb)[b]'(by simp [doneL]; exact hbl) = .bool (decide (b ∈ dl)) := by simp [doneL, vb]
        rw [e2] at c2
        simp only [maxLen] at r2 h5
        simp only [vb] at c1
        have HF0 := Lib.hid (freeTo_zero (g := g) (f := f) (dl := dl) b)
        obtain ⟨p, hp⟩ : ∃ p, decide (ReI g f b) = p := ⟨_, rfl⟩
        obtain ⟨q, hq⟩ : ∃ q, decide (b ∈ dl) = q := ⟨_, rfl⟩
        rw [hp] at c1
        rw [hq] at c2
        have hpq : Hid (decide (FreeTo g f dl b 0 0) = (p && !q)) := Lib.hid (by
          rw [← hp, ← hq, Bool.eq_iff_iff, decide_eq_true_iff, HF0.out]; simp)
        clear hp hq e2 HF0
        go_upto_region 15 with (fail)
        go_cut [14] from 52 to 62 (fun fr wx => fr = .bool (decide (FreeTo g f dl b 0 0)) ∧ w6 = wx)
        case first =>
          clear HK
          cases p <;> cases q
          all_goals
            go_wp2
            go_meet
            case rel => exact ⟨by rw [hpq.out]; rfl, rfl⟩
        case rest =>
          obtain ⟨rfl, rfl⟩ := hcut
          clear c1 c2 hpq r1 r2 h4 h5
          go_upto_block 6 with (fail)
          go_cut [14] from 63 to 114 (fun fr wx => fr = .bool (decide (free g f dl b)) ∧ w6 = wx)
          case first =>
            go_wp2_with (fail)
            go_loopg [14, 15] (g.length) (fun m fr i wz => ∃ a : Nat, m = g.length - a ∧ a ≤ g.length ∧ i = .int .i64 (a : Int) ∧ fr = .bool (decide (FreeTo g f dl b a 0)) ∧ w6 = wz)
            case atStart => exact ⟨0, by omega, by omega, rfl, rfl, rfl⟩
            case round =>
              obtain ⟨a, rfl, ha, rfl, rfl, rfl⟩ := hrel
              by_cases hfa : FreeTo g f dl b a 0 ∧ a < g.length
              case neg =>
                have HE : Hid (decide (FreeTo g f dl b a 0) = decide (free g f dl b)) := Lib.hid (by
                  rw [decide_eq_decide, ← freeTo_end hbl]
                  by_cases e : a = g.length
                  · subst e; exact Iff.rfl
                  · have hn : ¬ FreeTo g f dl b a 0 := fun h => hfa ⟨h, by omega⟩
                    exact ⟨fun h => absurd h hn, fun h => absurd h (freeTo_mono (by omega) hn)⟩)
                have hor : a = g.length ∨ decide (FreeTo g f dl b a 0) = false := by
                  by_cases e : a = g.length
                  · exact .inl e
                  · exact .inr (decide_eq_false fun h => hfa ⟨h, by omega⟩)
                clear hfa
                rcases hor with e | e
                · subst e
                  have hd2 : decide (g.length < g.length) = false := decide_eq_false (by omega)
                  have hd3 : decide ((g.length : Int) < (g.length : Int)) = false := decide_eq_false (by omega)
                  go_wp2
                  go_meet
                  case rel => exact ⟨by rw [HE.out], rfl⟩
                · rw [e] at HE ⊢
                  clear e
                  by_cases hal : a < g.length
                  all_goals
                    go_wp2
                    go_meet
                    case rel => exact ⟨by rw [← HE.out], rfl⟩
              obtain ⟨hfa, hal⟩ := hfa
              have hd4 : decide (FreeTo g f dl b a 0) = true := decide_eq_true hfa
              have Hd4 := Lib.hid hd4
              obtain ⟨xg, b1, d1, rfl, q1, q2, cg, -, -⟩ := (HG.out.kept (Kw.out.trans HK.out.kept)).at hal
              simp only [maxLen] at q2
              rw [hd4]
              clear hfa hd4
              go_wp2
              go_loopg [14, 16] ((row g a).length) (fun m fr i wz => ∃ k : Nat, m = (row g a).length - k ∧ k ≤ (row g a).length ∧ i = .int .i64 (k : Int) ∧ fr = .bool (decide (FreeTo g f dl b a k)) ∧ w6 = wz)
              case atStart => exact ⟨0, by omega, by omega, rfl, by rw [Hd4.out], rfl⟩
              case round =>
                clear cg Hd4
                obtain ⟨k, rfl, hk, rfl, rfl, rfl⟩ := hrel
                obtain ⟨x', b2, d2, e1, q3, q4, cg, hrow, hwf⟩ := (HG.out.kept (Kw.out.trans HK.out.kept)).at hal
                injection e1 with e1
                subst e1
                have hrl := hrow.small
                simp only [maxLen] at q4 hrl
                by_cases hkl : k < (row g a).length
                case neg =>
                  have HE := Lib.hid (freeTo_row (g := g) (f := f) (dl := dl) (b := b) (a := a) (k := k) (by omega))
                  clear hrow hwf
                  go_wp2
                  go_roundg (g.length - (a + 1))
                  case measure => omega
                  case rel => exact ⟨a + 1, rfl, by omega, by simp, by congr 1; rw [decide_eq_decide]; exact HE.out, rfl⟩
                obtain ⟨x2, rfl, q5, q6, c3⟩ := hrow.at hkl
                simp only [maxLen] at q6
                simp only [vi] at c3
                have HE := Lib.hid (freeTo_step (g := g) (f := f) (dl := dl) (b := b) hal hkl)
                have HB := Lib.hid (backs_any w6 _ _ (idomL g f) (reachL g f) a b (HD.out.kept HK.out.kept) (HR.out.kept HK.out.kept) (by rw [Ld.out]; omega) (by rw [Lr.out]; omega) (by rw [Lr.out]; exact hal))
                obtain ⟨xr, e, r1, r2, c1⟩ := (HR.out.kept HK.out.kept).at (j := a) (by rw [reachL_len]; exact hal)
                injection e with e
                subst e
                rw [reachL_at] at c1
                rw [reachL_len] at r1
                obtain ⟨gd', e, h4, h5, -, c2, -⟩ := own_at HK.out.done (j := a) (by simp [doneL]; exact hal)
                injection e with e
                injection e with e
                subst e
                have e2 : ((doneL g dl).map vb)[a]'(by simp [doneL]; exact hal) = .bool (decide (a ∈ dl)) := by simp [doneL, vb]
                rw [e2] at c2
                simp only [maxLen] at r2 h5
                simp only [vb] at c1
                clear hrow hwf e2
                generalize (row g a)[k] = z at *
                generalize hbk : backB (idomL g f) (reachL g f) a b = bk at *
                clear hbk
                by_cases hs : FreeTo g f dl b a k
                case neg =>
                  have HE2 : Hid (decide (FreeTo g f dl b a (k + 1)) = false) := Lib.hid (decide_eq_false fun h => hs (HE.out.1 h).1)
                  rw [decide_eq_false hs]
                  clear hs HB HE c1 c2
                  go_wp2
                  go_roundg ((row g a).length - (k + 1))
                  case measure => omega
                  case rel => exact ⟨k + 1, rfl, by omega, by simp, by rw [HE2.out], rfl⟩
                rw [decide_eq_true hs]
                have stay (h : ¬ (z = (b : Int) ∧ ReI g f a ∧ a ∉ dl ∧ bk = false)) : Hid (decide (FreeTo g f dl b a (k + 1)) = true) := Lib.hid (decide_eq_true (HE.out.2 ⟨hs, h⟩))
                have ST := Lib.hid stay
                clear stay
                by_cases hz : z = b
                case neg =>
                  have HE2 := ST.out fun h => hz h.1
                  have hzb : (z == (b : Int)) = false := by rw [beq_eq_false_iff_ne]; exact hz
                  clear hs HB HE hz ST c1 c2
                  go_wp2
                  go_roundg ((row g a).length - (k + 1))
                  case measure => omega
                  case rel => exact ⟨k + 1, rfl, by omega, by simp, by rw [HE2.out], rfl⟩
                subst hz
                have hzb : ((b : Int) == (b : Int)) = true := by simp
                by_cases hre : ReI g f a
                case neg =>
                  have HE2 := ST.out fun h => hre h.2.1
                  rw [decide_eq_false hre] at c1
                  clear hs HB HE hre ST c2
                  go_wp2
                  go_roundg ((row g a).length - (k + 1))
                  case measure => omega
                  case rel => exact ⟨k + 1, rfl, by omega, by simp, by rw [HE2.out], rfl⟩
                rw [decide_eq_true hre] at c1
                by_cases hdn : a ∈ dl
                case pos =>
                  have HE2 := ST.out fun h => h.2.2.1 hdn
                  rw [decide_eq_true hdn] at c2
                  clear hs HB HE hre hdn ST
                  go_wp2
                  go_roundg ((row g a).length - (k + 1))
                  case measure => omega
                  case rel => exact ⟨k + 1, rfl, by omega, by simp, by rw [HE2.out], rfl⟩
                rw [decide_eq_false hdn] at c2
                have HE2 : Hid (decide (FreeTo g f dl b a (k + 1)) = bk) := Lib.hid (by
                  cases bk
                  · exact decide_eq_false fun h => (HE.out.1 h).2 ⟨rfl, hre, hdn, rfl⟩
                  · exact (ST.out fun h => by cases h.2.2.2).out)
                clear hs HE hre hdn ST
                cases bk
                all_goals
                  go_wp2_with (go_at_call 32; refine (HB.out).mono ?_; rintro e w' ⟨rfl, rfl⟩)
                  go_roundg ((row g a).length - (k + 1))
                  case measure => omega
                  case rel => exact ⟨k + 1, rfl, by omega, by simp, by rw [HE2.out], rfl⟩
          case rest =>
            obtain ⟨rfl, rfl⟩ := hcut
            by_cases hfr : free g f dl b
            · rw [decide_eq_true hfr]
              have hn := nextF_first hbl hfr HNo.out
              clear hfr
              go_wp2
              go_roundg (g.length - (b + 1))
              case measure => omega
              case rel => exact ⟨b + 1, b, rfl, by omega, by simp, rfl, .inr ⟨b, rfl, hn⟩, HK⟩
            · rw [decide_eq_false hfr]
              have hn : Srch g f dl (b + 1) (-1) := .inl ⟨rfl, fun c hc => by
                by_cases e : c = b
                · subst e; exact hfr
                · exact HNo.out c (by omega)⟩
              clear hfr
              go_wp2
              go_roundg (g.length - (b + 1))
              case measure => omega
              case rel => exact ⟨b + 1, -1, rfl, by omega, by simp, rfl, hn, HK⟩
end Go.Proofs.YtpkebokfbigggaaDoor.Shp
