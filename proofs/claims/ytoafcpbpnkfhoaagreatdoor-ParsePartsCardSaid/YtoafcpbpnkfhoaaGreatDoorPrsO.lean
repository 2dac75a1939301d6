/-
  The contract of program, out of a contract of function.
-/
import Derived.Test.YtoafcpbpnkfhoaaGreatDoorPrsN
namespace Go.Proofs.YtoafcpbpnkfhoaaGreatDoor.Prs
open Go.RowKit
open Lex (Tok Laid)
attribute [local go_sem] tok0 tok1 tok2

abbrev FnF := List Tok → Nat → Option Nat → Option (List Tok × Option Nat × Fn)
def progF (F : FnF) (d : Nat) : Nat → List Tok → Option Nat → List Gl → List Fn → Option (List Tok × Option Nat × List Gl × List Fn)
  | 0, _, _, _, _ => none
  | k + 1, us, dp, gs, fs =>
    match us with
    | [] => none
    | t :: _ =>
      if t.text = [103, 108, 111, 98, 97, 108] then match globalF us with | some (us1, g) => progF F d k us1 dp (gs ++ [g]) fs | none => none
      else if t.text = [102, 110] then match F us d dp with | some (us1, dp1, f) => progF F d k us1 dp1 gs (fs ++ [f]) | none => none
      else some (us, dp, gs, fs)
def FnSaid (F : FnF) : Prop := ∀ {B G r d : Nat} {us us' : List Tok} {dp dp' : Option Nat} {f : Fn} (w : World), Rd B G w r us d dp → F us d dp = some (us', dp', f) →
  Calls Tryz.prog 16 #[.pointer (some ⟨r, 0, none⟩)] w fun e w' => ∃ ap cp ar cr ae ce an nn cn ab cb, e = .returned (.agg #[.string ⟨f.name.toArray⟩, .int .i64 f.place, .slice ap f.np cp, .int .i64 f.ty, .slice ar f.nr cr, .slice ae f.ne ce, .slice an nn cn, .slice ab f.body.length cb]) ∧
    Hid (Chg (fun k => k = r) w w' ∧ Rd B G w' r us' d dp' ∧ StOwn w' B (.slice ab f.body.length cb) f.body ∧ us'.length + 1 ≤ us.length)
theorem globalF_len {us us' : List Tok} {g : Gl} (h : globalF us = some (us', g)) : us'.length + 1 ≤ us.length := by
  unfold globalF at h
  split at h
  · split at h
    · split at h
      · rename_i hst
        split at h
        · simp only [Option.some.injEq, Prod.mk.injEq] at h
          obtain ⟨rfl, _⟩ := h
          unfold startF at hst
          split at hst
          · split at hst
            · split at hst
              · simp only [Option.some.injEq, Prod.mk.injEq] at hst
                rw [hst.1]; simp only [List.length_cons]; omega
              · cases hst
            · split at hst
              · simp only [Option.some.injEq, Prod.mk.injEq, List.cons.injEq] at hst
                rw [hst.1.2]; simp only [List.length_cons]; omega
              · cases hst
          · cases hst
        · cases h
      · cases h
    · cases h
  · cases h
structure PgAt (F : FnF) (B G r d : Nat) (w : World) (b : Nat) (R : List Tok × Option Nat × List Gl × List Fn) (wx : World) (k : Nat) (us : List Tok) (dp : Option Nat) (gs : List Gl) (fs : List Fn) (vg vf : Value) : Prop where
  chg : Chg (fun k => k = r) w wx
  rd : Rd B G wx r us d dp
  b0 : wx.heap[w.heap.size]? = some (.cells #[.slice none 0 0, .slice none 0 0] 27 (0, 0))
  b1 : wx.heap[b]? = some (.cells #[vg, vf] 27 (0, 0))
  og : wx.ownsRow w.heap.size 33 5 vg gs.length (glCells gs)
  of : ∃ xs, wx.ownsRow w.heap.size 38 8 vf fs.length xs ∧ FnCells wx B fs xs
  eq : progF F d k us dp gs fs = some R
  sz : gs.length + fs.length + us.length ≤ 8193

set_option maxRecDepth 100000 in
set_option maxHeartbeats 4000000 in
theorem program_any {F : FnF} (HF : FnSaid F) {B G r d k : Nat} {us us' : List Tok} {dp dp' : Option Nat} {gs : List Gl} {fs : List Fn} (w : World) (h : Rd B G w r us d dp) (hs : progF F d k us dp [] [] = some (us', dp', gs, fs)) :
    Calls Tryz.prog 10 #[.pointer (some ⟨r, 0, none⟩)] w fun e w' => ∃ ag cg af cf, e = .returned (.agg #[.slice ag gs.length cg, .slice af fs.length cf]) ∧ Hid (Chg (fun k => k = r) w w' ∧ Rd B G w' r us' d dp' ∧ w'.ownsRow w.heap.size 33 5 (.slice ag gs.length cg) gs.length (glCells gs) ∧ ∃ xs, w'.ownsRow w.heap.size 38 8 (.slice af fs.length cf) fs.length xs ∧ FnCells w' B fs xs) := by
  have hk0 : Kept w ((w.alloc (.cells #[.slice none 0 0, .slice none 0 0] 27)).alloc (.cells #[.slice none 0 0, .slice none 0 0] 27)) := ((Kept.refl w).alloc _).alloc _
  have hb0 : Hid (((w.alloc (.cells #[.slice none 0 0, .slice none 0 0] 27)).alloc (.cells #[.slice none 0 0, .slice none 0 0] 27)).heap[w.heap.size]? = some (.cells #[.slice none 0 0, .slice none 0 0] 27 (0, 0))) := Lib.hid (by
    rw [Below.heap_alloc _ _ _ (by simp)]; exact heap_alloc_new w _)
  have hb1 : Hid (((w.alloc (.cells #[.slice none 0 0, .slice none 0 0] 27)).alloc (.cells #[.slice none 0 0, .slice none 0 0] 27)).heap[w.heap.size + 1]? = some (.cells #[.slice none 0 0, .slice none 0 0] 27 (0, 0))) := Lib.hid (by
    have := heap_alloc_new (w.alloc (.cells #[.slice none 0 0, .slice none 0 0] 27)) (.cells #[.slice none 0 0, .slice none 0 0] 27)
    simpa using this)
  have HH := Lib.hid h
  have Hk0 := Lib.hid hk0
  have hB := h.size
  have hrw := h.lt
  have hGw := h.ltG
  have hlow := h.low
  have Hs := Lib.hid hs
  obtain ⟨i0, hi0, hz0, hz1, hz2⟩ := info_parts gl_info
  have Hi := Lib.hid (And.intro hi0 (And.intro hz0 (And.intro hz1 hz2)))
  obtain ⟨j0, hj0, hy0, hy1, hy2⟩ := info_parts fn_info
  have Hj := Lib.hid (And.intro hj0 (And.intro hy0 (And.intro hy1 hy2)))
  have HFn : Hid (FnSaid F) := @HF
  clear h hk0 hs hi0 hz0 hz1 hz2 hj0 hy0 hy1 hy2 HF
  go_enter Tryz.func10, Tryz.ntmps10
  go_wp2_with fail
  go_step3
  go_wp2_with fail
  go_step3
  go_wp2_with fail
  go_loopg [4] k (fun k _ wx => ∃ us dp gs' fs' vg vf, PgAt F B G r d w (w.heap.size + 1) (us', dp', gs, fs) wx k us dp gs' fs' vg vf)
  case atStart =>
    exact ⟨us, dp, [], [], _, _, Chg.of_kept Hk0.out, HH.out.kept Hk0.out, hb0.out, hb1.out, World.ownsRow_nil _ _ _ _, ⟨[], World.ownsRow_nil _ _ _ _, rfl⟩, Hs.out, by simp; omega⟩
  case round =>
    obtain ⟨uc, dc, gc, fc, vg, vf, ha⟩ := hrel
    obtain ⟨hchg, hrd, hx0, hx1, hog, hof, heq, hsz⟩ := ha
    cases hgk : gk with
    | zero => rw [hgk] at heq; cases heq
    | succ k' =>
      rw [hgk] at heq
      cases uc with
      | nil => cases heq
      | cons t us1 =>
        have HP := Lib.hid (peek_any wr hrd)
        by_cases h1 : t.text = [103, 108, 111, 98, 97, 108]
        case pos =>
          have hb : (t.text == [103, 108, 111, 98, 97, 108]) = true := by rw [h1]; rfl
          simp only [progF, h1, if_true] at heq
          cases hg : globalF (t :: us1) with
          | none => rw [hg] at heq; cases heq
          | some p =>
            obtain ⟨us2, g⟩ := p
            rw [hg] at heq
            simp only at heq
            have Hg := Lib.hid hg
            have hln := globalF_len hg
            simp only [List.length_cons] at hln hsz
            have Heq := Lib.hid heq
            have Hchg := Lib.hid hchg
            have Hx0 := Lib.hid hx0
            have Hx1 := Lib.hid hx1
            have Hog := Lib.hid hog
            have Hof := Lib.hid hof
            have Hrd := Lib.hid hrd
            have Hgk := Lib.hid hgk
            clear heq hchg hx0 hx1 hog hof hrd h1 hg hgk
            obtain ⟨av, cv, hvg⟩ := own_slice Hog.out
            subst hvg
            go_upto_region 4 with (go_at_call 14; refine (HP.out).mono ?_; rintro e w1 ⟨rfl, K1⟩)
            have HG := Lib.hid (global_any w1.drew ((Hrd.out.kept K1.out).kept (Kept.refl w1).drew) Hg.out)
            have hx1' := (Below.block K1.out _ (box_lt Hx1.out)).trans Hx1.out
            have z0 := box_cell hx1' 0 _ rfl
            have Hx1' := Lib.hid hx1'
            clear hx1'
            have n1 : w.heap.size + 1 ≠ r := by omega
            have HA : Hid (∀ w2, Chg (fun k => k = r) w1.drew w2 → w2.heap[w.heap.size + 1]? = some (.cells #[.slice av gc.length cv, vf] 27 (0, 0)) ∧ w2.ownsRow w.heap.size 33 5 (.slice av gc.length cv) gc.length (glCells gc)) := Lib.hid fun w2 hc => by
              have hc' : Chg (fun k => k = r) wr w2 := ((Chg.of_kept K1.out).drew).then hc
              exact ⟨hc'.heap Hx1.out n1, own_chg Hog.out hc' (fun g hg e => by obtain ⟨c, hcc⟩ := own_ty Hog.out hg; exact (Hrd.out.apart hcc (by decide) (by decide)).1 e)⟩
            go_region_law (first
              | (go_simp; go_at_call 15; refine (HG.out).mono ?_; rintro e w2 ⟨rfl, K2⟩; have hs2 : w1.heap.size ≤ w2.heap.size := K2.out.1.size; have hb2 := (HA.out w2 K2.out.1).1; have y0 := box_cell hb2 0 _ rfl; have hl2 := box_lt hb2; clear hb2)
              | (refine step_append_lies _ rfl (.tmp 10) (.tmp 13) 24 rfl w.heap.size 33 i0 _ 5 48 Tryz.underlying24 Hi.out.1 Hi.out.2.1 Hi.out.2.2.1 Hi.out.2.2.2 rfl (by omega) (.slice av gc.length cv) gc.length (glCells gc) rfl ((HA.out w2 K2.out.1).2.alloc _) ⟨w2.heap.size, 0, none⟩ 1 1 [.string ⟨g.name.toArray⟩, .int .i64 g.ty, .int .i64 g.size, .int .i64 g.init, .int .i64 g.place] rfl rfl (World.news_of_block (cs := #[.string ⟨g.name.toArray⟩, .int .i64 g.ty, .int .i64 g.size, .int .i64 g.init, .int .i64 g.place]) (heap_alloc_new w2 _)) (by simp [Value.oneCell']) (by omega) (by simp only [maxLen]; omega) (by omega) (by have := Hchg.out.size; have := Below.size K1.out; simp; omega) (w2.heap.size + 1) (by simp) ?_; intro ga cap w3 hown hgrow hat hlt; have hb3 := (hgrow.block (w.heap.size + 1) (by have := Hchg.out.size; have := Below.size K1.out; have := box_lt Hx1.out; simp; omega) (fun e => by obtain ⟨c, hc⟩ := own_ty (HA.out w2 K2.out.1).2 e.symm; exact ne_of_ty (HA.out w2 K2.out.1).1 hc (by decide) rfl)).trans ((Below.heap_alloc _ _ _ (box_lt (HA.out w2 K2.out.1).1)).trans (HA.out w2 K2.out.1).1); have x0 := box_cell hb3 0 _ rfl; have xf := box_froz hb3; have Hb3 := Lib.hid hb3; have Hown := Lib.hid hown; have Hgrow := Lib.hid hgrow; have Hat := Lib.hid hat; clear hown hgrow hat hb3))
            all_goals
              go_wp2_with fail
              have cT : Chg (fun k => k = r ∨ k = w.heap.size + 1 ∨ (Value.slice av gc.length cv).ownBlock = some k) wr (w3.setCell ⟨w.heap.size + 1, 0, none⟩ (.slice (some ⟨ga, 0, none⟩) (gc.length + 1) cap)) :=
                (((((((Chg.of_kept K1.out).drew).mono (T := fun k => k = r ∨ k = w.heap.size + 1 ∨ (Value.slice av gc.length cv).ownBlock = some k) (fun _ _ e => e)).trans K2.out.1 (fun _ _ e => .inl e)).alloc _).grown Hgrow.out (fun _ _ e => .inr (.inr e))).trans (chg_set w3 (w.heap.size + 1) 0 _) (fun _ _ e => .inr (.inl e)))
              have hsw := Hchg.out.size
              have hbB : ∀ j, (Value.slice av gc.length cv).ownBlock = some j → w.heap.size ≤ j ∧ ∃ c, wr.heap[j]? = some (.cells c 33 (0, 0)) := fun j hj => ⟨(Hog.out.lt j hj).1, own_ty Hog.out hj⟩
              have hne : ga ≠ w.heap.size + 1 := fun e => by
                obtain ⟨c, hc⟩ := own_ty Hown.out (g := ga) rfl
                exact ne_of_ty hc Hb3.out (by decide) e
              have hna : ∀ {j : Nat} {c : Array Value} {t : TypeId}, wr.heap[j]? = some (.cells c t (0, 0)) → t ≠ 57 → t ≠ 62 → t ≠ 27 → t ≠ 33 → ¬ (j = r ∨ j = w.heap.size + 1 ∨ (Value.slice av gc.length cv).ownBlock = some j) := fun hj h1 h2 h3 h4 e => by
                rcases e with e | e | e
                · exact (Hrd.out.apart hj h1 h2).1 e
                · exact ne_of_ty hj Hx1.out h3 e
                · obtain ⟨_, c', hc'⟩ := hbB _ e
                  exact ne_of_ty hj hc' h4 rfl
              obtain ⟨xs, of1, of2⟩ := Hof.out
              go_roundg k'
              case measure => have := Hgk.out; omega
              case rel =>
                refine ⟨us2, dc, gc ++ [g], fc, _, vf, Hchg.out.trans cT (fun i hi e => ?_), ?_, cT.heap Hx0.out (fun e => ?_), heap_setCell_same _ _ _ _ _ _ Hb3.out, ?_, ⟨xs, own_chg of1 cT (fun j hj => ?_), of2.chg cT (fun j c hj => hna hj (by decide) (by decide) (by decide) (by decide))⟩, Heq.out, by simp; omega⟩
                · rcases e with e | e | e
                  · exact e
                  · omega
                  · have := (hbB i e).1; omega
                · refine (((K2.out.2.kept ((Kept.refl w2).alloc _)).chg (S := fun k => (Value.slice av gc.length cv).ownBlock = some k) ⟨Hgrow.out.os, Hgrow.out.tape, Hgrow.out.output, Hgrow.out.size, fun k hk hn => Hgrow.out.block k hk (fun e => hn e.symm)⟩ (fun j hj => ?_)).chg (chg_set w3 (w.heap.size + 1) 0 _) (fun j e => by subst e; exact ⟨by omega, n1, by omega⟩))
                  obtain ⟨hj1, c, hc⟩ := hbB j hj
                  exact ⟨by omega, Hrd.out.apart hc (by decide) (by decide)⟩
                · rcases e with e | e | e
                  · omega
                  · omega
                  · obtain ⟨_, c, hc⟩ := hbB _ e
                    exact ne_of_ty hc Hx0.out (by decide) rfl
                · have := own_chg Hown.out (chg_set w3 (w.heap.size + 1) 0 (.slice (some ⟨ga, 0, none⟩) (gc.length + 1) cap)) (fun j hj e => hne (by simp [Value.ownBlock] at hj; omega))
                  simpa [glCells] using this
                · obtain ⟨c, hc⟩ := own_ty of1 hj
                  exact hna hc (by decide) (by decide) (by decide) (by decide)
        case neg =>
          by_cases h2 : t.text = [102, 110]
          case neg =>
            have hb : (t.text == [103, 108, 111, 98, 97, 108]) = false := by simpa using h1
            have hb' : (t.text == [102, 110]) = false := by simpa using h2
            simp only [progF, h1, if_false, h2, Option.some.injEq, Prod.mk.injEq] at heq
            obtain ⟨rfl, rfl, rfl, rfl⟩ := heq
            have Hchg := Lib.hid hchg
            have Hx0 := Lib.hid hx0
            have Hx1 := Lib.hid hx1
            have Hog := Lib.hid hog
            have Hof := Lib.hid hof
            have Hrd := Lib.hid hrd
            clear hchg hx0 hx1 hog hof hrd h1 h2 hgk
            obtain ⟨xs, of1, of2⟩ := Hof.out
            have Hof1 := Lib.hid of1
            have Hof2 := Lib.hid of2
            obtain ⟨af, cf, hvf⟩ := own_slice of1
            obtain ⟨ag, cg, hvg⟩ := own_slice Hog.out
            clear of1 of2
            subst hvf hvg
            go_upto_region 7 with (go_at_call 14; refine (HP.out).mono ?_; rintro e w1 ⟨rfl, K1⟩)
            have hx1' := (Below.block K1.out _ (box_lt Hx1.out)).trans Hx1.out
            have hx0' := (Below.block K1.out _ (box_lt Hx0.out)).trans Hx0.out
            have z0 := box_cell hx1' 0 _ rfl
            have z1 := box_cell hx1' 1 _ rfl
            have l0 := box_cell hx0' 0 _ rfl
            have l1 := box_cell hx0' 1 _ rfl
            have lf := box_froz hx0'
            have Hx0' := Lib.hid hx0'
            clear hx1' hx0'
            go_wp2_with fail
            rw [Exit.noGoto_ret]
            have c2 : Chg (fun k => k = w.heap.size) w1 ((w1.setCell ⟨w.heap.size, 0, none⟩ (.slice ag gc.length cg)).setCell ⟨w.heap.size, 1, none⟩ (.slice af fc.length cf)) := (chg_set w1 w.heap.size 0 _).then (chg_set _ w.heap.size 1 _)
            refine bodyPost_ret (v := .agg #[.slice ag gc.length cg, .slice af fc.length cf]) ?_ rfl ⟨ag, cg, af, cf, rfl, Lib.hid ⟨?_, ?_, ?_, xs, ?_, ?_⟩⟩
            · simp [results, Tryz.results10, go_sem, l0, l1]
            · exact (Hchg.out.keep K1.out).trans c2 (fun i hi e => by omega)
            · exact (Hrd.out.kept K1.out).chg c2 (fun j e => by subst e; exact ⟨hB, by omega, by omega⟩)
            · refine own_chg (own_chg Hog.out (Chg.of_kept (S := fun _ => False) K1.out) (fun _ _ => id)) c2 (fun j hj e => ?_)
              obtain ⟨c, hc⟩ := own_ty Hog.out hj
              exact ne_of_ty hc Hx0.out (by decide) e
            · refine own_chg (own_chg Hof1.out (Chg.of_kept (S := fun _ => False) K1.out) (fun _ _ => id)) c2 (fun j hj e => ?_)
              obtain ⟨c, hc⟩ := own_ty Hof1.out hj
              exact ne_of_ty hc Hx0.out (by decide) e
            · exact (Hof2.out.chg (Chg.of_kept (S := fun _ => False) K1.out) (fun _ _ _ => id)).chg c2 (fun j c hj e => ne_of_ty hj Hx0'.out (by decide) e)
          case pos =>
            have hb : (t.text == [103, 108, 111, 98, 97, 108]) = false := by rw [h2]; rfl
            have hb' : (t.text == [102, 110]) = true := by rw [h2]; rfl
            simp only [progF, h2, if_true] at heq
            cases hg : F (t :: us1) d dc with
            | none => rw [hg] at heq; cases heq
            | some p =>
              obtain ⟨us2, dp2, g⟩ := p
              rw [hg] at heq
              simp only at heq
              have Hg := Lib.hid hg
              simp only [List.length_cons] at hsz
              have Heq := Lib.hid heq
              have Hchg := Lib.hid hchg
              have Hx0 := Lib.hid hx0
              have Hx1 := Lib.hid hx1
              have Hog := Lib.hid hog
              have Hof := Lib.hid hof
              have Hrd := Lib.hid hrd
              have Hgk := Lib.hid hgk
              clear heq hchg hx0 hx1 hog hof hrd h1 h2 hg hgk
              obtain ⟨xs, of1, of2⟩ := Hof.out
              have Hof1 := Lib.hid of1
              have Hof2 := Lib.hid of2
              obtain ⟨av, cv, hvf⟩ := own_slice of1
              clear of1 of2
              subst hvf
              go_upto_region 6 with (go_at_call 14; refine (HP.out).mono ?_; rintro e w1 ⟨rfl, K1⟩)
              have HG := Lib.hid (HFn.out w1.drew ((Hrd.out.kept K1.out).kept (Kept.refl w1).drew) Hg.out)
              have hx1' := (Below.block K1.out _ (box_lt Hx1.out)).trans Hx1.out
              have z0 := box_cell hx1' 1 _ rfl
              have Hx1' := Lib.hid hx1'
              clear hx1'
              have n1 : w.heap.size + 1 ≠ r := by omega
              have HA : Hid (∀ w2, Chg (fun k => k = r) w1.drew w2 → w2.heap[w.heap.size + 1]? = some (.cells #[vg, .slice av fc.length cv] 27 (0, 0)) ∧ w2.ownsRow w.heap.size 38 8 (.slice av fc.length cv) fc.length xs) := Lib.hid fun w2 hc => by
                have hc' : Chg (fun k => k = r) wr w2 := ((Chg.of_kept K1.out).drew).then hc
                exact ⟨hc'.heap Hx1.out n1, own_chg Hof1.out hc' (fun g hg e => by obtain ⟨c, hcc⟩ := own_ty Hof1.out hg; exact (Hrd.out.apart hcc (by decide) (by decide)).1 e)⟩
              go_region_law (first
                | (go_simp; go_at_call 16; refine (HG.out).mono ?_; rintro e w2 ⟨ap, cp, ar, cr, ae, ce, an, nn, cn, ab, cb, rfl, K2⟩; have hs2 : w1.heap.size ≤ w2.heap.size := K2.out.1.size; have hb2 := (HA.out w2 K2.out.1).1; have y0 := box_cell hb2 1 _ rfl; have hl2 := box_lt hb2; clear hb2)
                | (refine step_append_lies _ rfl (.tmp 19) (.tmp 22) 25 rfl w.heap.size 38 j0 _ 8 152 Tryz.underlying25 Hj.out.1 Hj.out.2.1 Hj.out.2.2.1 Hj.out.2.2.2 rfl (by omega) (.slice av fc.length cv) fc.length xs rfl ((HA.out w2 K2.out.1).2.alloc _) ⟨w2.heap.size, 0, none⟩ 1 1 [.string ⟨g.name.toArray⟩, .int .i64 g.place, .slice ap g.np cp, .int .i64 g.ty, .slice ar g.nr cr, .slice ae g.ne ce, .slice an nn cn, .slice ab g.body.length cb] rfl rfl (World.news_of_block (cs := #[.string ⟨g.name.toArray⟩, .int .i64 g.place, .slice ap g.np cp, .int .i64 g.ty, .slice ar g.nr cr, .slice ae g.ne ce, .slice an nn cn, .slice ab g.body.length cb]) (heap_alloc_new w2 _)) (by simp [Value.oneCell']) (by omega) (by simp only [maxLen]; omega) (by omega) (by have := Hchg.out.size; have := Below.size K1.out; simp; omega) (w2.heap.size + 1) (by simp) ?_; intro ga cap w3 hown hgrow hat hlt; have hb3 := (hgrow.block (w.heap.size + 1) (by have := Hchg.out.size; have := Below.size K1.out; have := box_lt Hx1.out; simp; omega) (fun e => by obtain ⟨c, hc⟩ := own_ty (HA.out w2 K2.out.1).2 e.symm; exact ne_of_ty (HA.out w2 K2.out.1).1 hc (by decide) rfl)).trans ((Below.heap_alloc _ _ _ (box_lt (HA.out w2 K2.out.1).1)).trans (HA.out w2 K2.out.1).1); have x0 := box_cell hb3 1 _ rfl; have xf := box_froz hb3; have Hb3 := Lib.hid hb3; have Hown := Lib.hid hown; have Hgrow := Lib.hid hgrow; have Hat := Lib.hid hat; clear hown hgrow hat hb3))
              all_goals
                go_wp2_with fail
                have cT : Chg (fun k => k = r ∨ k = w.heap.size + 1 ∨ (Value.slice av fc.length cv).ownBlock = some k) wr (w3.setCell ⟨w.heap.size + 1, 1, none⟩ (.slice (some ⟨ga, 0, none⟩) (fc.length + 1) cap)) :=
                  (((((((Chg.of_kept K1.out).drew).mono (T := fun k => k = r ∨ k = w.heap.size + 1 ∨ (Value.slice av fc.length cv).ownBlock = some k) (fun _ _ e => e)).trans K2.out.1 (fun _ _ e => .inl e)).alloc _).grown Hgrow.out (fun _ _ e => .inr (.inr e))).trans (chg_set w3 (w.heap.size + 1) 1 _) (fun _ _ e => .inr (.inl e)))
                have hsw := Hchg.out.size
                have hbB : ∀ j, (Value.slice av fc.length cv).ownBlock = some j → w.heap.size ≤ j ∧ ∃ c, wr.heap[j]? = some (.cells c 38 (0, 0)) := fun j hj => ⟨(Hof1.out.lt j hj).1, own_ty Hof1.out hj⟩
                have hne : ga ≠ w.heap.size + 1 := fun e => by
                  obtain ⟨c, hc⟩ := own_ty Hown.out (g := ga) rfl
                  exact ne_of_ty hc Hb3.out (by decide) e
                have hna : ∀ {j : Nat} {c : Array Value} {t : TypeId}, wr.heap[j]? = some (.cells c t (0, 0)) → t ≠ 57 → t ≠ 62 → t ≠ 27 → t ≠ 38 → ¬ (j = r ∨ j = w.heap.size + 1 ∨ (Value.slice av fc.length cv).ownBlock = some j) := fun hj h1 h2 h3 h4 e => by
                  rcases e with e | e | e
                  · exact (Hrd.out.apart hj h1 h2).1 e
                  · exact ne_of_ty hj Hx1.out h3 e
                  · obtain ⟨_, c', hc'⟩ := hbB _ e
                    exact ne_of_ty hj hc' h4 rfl
                have hlen := K2.out.2.2.2
                simp only [List.length_cons] at hlen
                go_roundg k'
                case measure => have := Hgk.out; omega
                case rel =>
                  refine ⟨us2, dp2, gc, fc ++ [g], vg, _, Hchg.out.trans cT (fun i hi e => ?_), ?_, cT.heap Hx0.out (fun e => ?_), heap_setCell_same _ _ _ _ _ _ Hb3.out, own_chg Hog.out cT (fun j hj => ?_), ?_, Heq.out, by simp; omega⟩
                  · rcases e with e | e | e
                    · exact e
                    · omega
                    · have := (hbB i e).1; omega
                  · refine (((K2.out.2.1.kept ((Kept.refl w2).alloc _)).chg (S := fun k => (Value.slice av fc.length cv).ownBlock = some k) ⟨Hgrow.out.os, Hgrow.out.tape, Hgrow.out.output, Hgrow.out.size, fun k hk hn => Hgrow.out.block k hk (fun e => hn e.symm)⟩ (fun j hj => ?_)).chg (chg_set w3 (w.heap.size + 1) 1 _) (fun j e => by subst e; exact ⟨by omega, n1, by omega⟩))
                    obtain ⟨hj1, c, hc⟩ := hbB j hj
                    exact ⟨by omega, Hrd.out.apart hc (by decide) (by decide)⟩
                  · rcases e with e | e | e
                    · omega
                    · omega
                    · obtain ⟨_, c, hc⟩ := hbB _ e
                      exact ne_of_ty hc Hx0.out (by decide) rfl
                  · obtain ⟨c, hc⟩ := own_ty Hog.out hj
                    exact hna hc (by decide) (by decide) (by decide) (by decide)
                  · have ho := own_chg Hown.out (chg_set w3 (w.heap.size + 1) 1 (.slice (some ⟨ga, 0, none⟩) (fc.length + 1) cap)) (fun j hj e => hne (by simp [Value.ownBlock] at hj; omega))
                    have cS : Chg (fun k => k = w.heap.size + 1 ∨ (Value.slice av fc.length cv).ownBlock = some k) w2 (w3.setCell ⟨w.heap.size + 1, 1, none⟩ (.slice (some ⟨ga, 0, none⟩) (fc.length + 1) cap)) :=
                      (((Chg.refl _ w2).alloc _).grown Hgrow.out (fun _ _ e => .inr e)).trans (chg_set w3 (w.heap.size + 1) 1 _) (fun _ _ e => .inl e)
                    refine ⟨_, by rw [List.length_append]; exact ho, FnCells.snoc (Hof2.out.chg cT (fun j c hj => hna hj (by decide) (by decide) (by decide) (by decide))) g (K2.out.2.2.1.chg cS (fun j c hj e => ?_))⟩
                    rcases e with e | e
                    · exact ne_of_ty hj (HA.out w2 K2.out.1).1 (by decide) e
                    · obtain ⟨c', hc'⟩ := own_ty (HA.out w2 K2.out.1).2 e
                      exact ne_of_ty hj hc' (by decide) rfl
end Go.Proofs.YtoafcpbpnkfhoaaGreatDoor.Prs
