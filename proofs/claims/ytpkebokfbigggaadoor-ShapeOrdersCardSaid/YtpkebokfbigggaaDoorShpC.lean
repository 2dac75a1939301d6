/-
  The document's Reach (package calliperref10): walked.
-/
import Derived.Test.YtpkebokfbigggaaDoorShpB
namespace Go.Proofs.YtpkebokfbigggaaDoor.Shp
open Go.RowKit

theorem info_get {k : TypeId} {z : Value} {s b : Nat} (h : (Tryd.prog.info? k).map (fun i => (i.zero, i.size, i.bytes)) = some (some z, s, b)) : ∃ i, Tryd.prog.info? k = some i ∧ i.zero = some z ∧ i.size = s ∧ i.bytes = b := by
  obtain ⟨i, hi, hzz⟩ := Option.map_eq_some_iff.1 h
  simp only [Prod.mk.injEq] at hzz
  exact ⟨i, hi, hzz⟩

theorem made_at (z : Value) (n f : Nat) (h : f < n) : (madeCells #[z] n)[f]? = some z := by
  rw [made_list]; simp [h]
theorem last_of {l : List Nat} (h : l ≠ []) : ∃ r y, l = r ++ [y] := ⟨l.dropLast, l.getLast h, (List.dropLast_concat_getLast h).symm⟩

set_option maxRecDepth 100000 in
set_option maxHeartbeats 4000000 in
theorem reach_in (w : World) (v : Value) (g : Gr) (f : Nat) (hg : GraphAt w v g) (hl : g.length ≤ 2000) (hf : f < g.length) :
    Calls Tryd.prog 11 #[v, .int .i64 (f : Int)] w fun e w' => ∃ u, e = .returned u ∧ Hid (∃ vt out k, DfsAt w w' u vt g f (fun _ => False) out [] g.length k) := by
  obtain ⟨i0, hi, hz0, hz1, hz2⟩ := info_get int_inf
  have Hi := Lib.hid (And.intro hi (And.intro hz0 (And.intro hz1 hz2)))
  clear hi hz0 hz1 hz2
  obtain ⟨ga, gc, rfl⟩ := hg.form
  have HG := Lib.hid hg
  have hmk := made_bools g.length (by omega)
  have hma := made_at (.bool false) g.length f hf
  have HM := Lib.hid (dfs_made w g hl hf (no := fun _ => False) not_false)
  have HF := Lib.hid (fun W => fits_yes W ga g.length gc (f : Int) hl (by omega) (by omega))
  clear hg
  go_enter Tryd.func11, Tryd.ntmps11
  go_wp2_with (go_at_call 26; refine (HF.out _).mono ?_; rintro e w' ⟨rfl, rfl⟩)
  have hst : Hid (left ((List.replicate g.length false).set f true) [f] ≤ 4001) := Lib.hid (by
    have := fls_le ((List.replicate g.length false).set f true)
    unfold left; simp at this ⊢; omega)
  generalize hvo : Value.slice (some ⟨w.heap.size, 0, none⟩) g.length g.length = vo at *
  generalize (w.alloc (.cells ((madeCells #[.bool false] g.length).setIfInBounds f (.bool true)) 4)).alloc (.cells #[.int .i64 (f : Int)] 3) = W0 at *
  clear hvo hmk hma HF
  go_loopg [6] (left ((List.replicate g.length false).set f true) [f]) (fun m vt wr => ∃ out todo, m = left out todo ∧ m ≤ 4001 ∧ Hid (DfsAt w wr vo vt g f (fun _ => False) out todo g.length 0))
  case atStart => exact ⟨_, _, rfl, hst.out, HM⟩
  case round =>
    obtain ⟨out, todo, rfl, hm, HD⟩ := hrel
    clear hst HM
    by_cases ht : todo = []
    · subst ht
      obtain ⟨-, a, c, rfl⟩ := HD.out.of_form
      go_wp2
      go_ret
      exact ⟨_, rfl, Lib.hid ⟨_, _, _, HD.out⟩⟩
    obtain ⟨todo, y, rfl⟩ := last_of ht
    clear ht
    obtain ⟨-, a, c, rfl⟩ := HD.out.of_form
    obtain ⟨gs, rfl, h1, h2, h3, c1⟩ := HD.out.top
    rw [h1] at HD h2 ⊢
    clear h1
    have hy : y < g.length := by
      have := (HD.out.dfs.tdo y (by simp)).lt
      rw [HD.out.dfs.len] at this; exact this
    have ht : todo.length ≤ 4000 := by unfold left at hm; simp at hm; omega
    have HP := Lib.hid HD.out.pop
    obtain ⟨L, hL⟩ : ∃ L, left out (todo ++ [y]) = L + 1 := ⟨left out todo, by unfold left; simp; omega⟩
    have hL' : left out todo ≤ L := by unfold left at hL ⊢; simp at hL; omega
    obtain ⟨x, b, d, rfl, r1, r2, c2, hrow, hwf⟩ := (HG.out.kept HD.out.kept).at hy
    have hrl := hrow.small
    simp only [maxLen] at h3 r2 hrl
    clear hrow hwf HD
    rw [hL] at hm
    have HL := Lib.hid hL
    clear hL
    go_wp2
    go_loopg [6, 8] ((row g y).length) (fun m vt i wz => ∃ out todo k, m = (row g y).length - k ∧ k ≤ (row g y).length ∧ i = .int .i64 (k : Int) ∧ left out todo ≤ L ∧ Hid (DfsAt w wz vo vt g f (fun _ => False) out todo y k))
    case atStart => exact ⟨_, _, 0, by simp, Nat.zero_le _, rfl, hL', HP⟩
    case round =>
      clear HP c1 c2 h2 h3 r1 r2 b d hrl
      obtain ⟨out, todo, k, rfl, hk, rfl, hlm, HD⟩ := hrel
      have hgk := HG.out.kept HD.out.kept
      obtain ⟨x', b, d, e1, r1, r2, c2, hrow, hwf⟩ := hgk.at hy
      injection e1 with e1
      subst e1
      obtain ⟨⟨va, vc, rfl⟩, ta, tc, rfl⟩ := HD.out.of_form
      have hrl := hrow.small
      simp only [maxLen] at r2 hrl
      by_cases hlt : k < (row g y).length
      case neg =>
        obtain rfl : k = (row g y).length := by omega
        have HN := Lib.hid (HD.out.with (HD.out.dfs.finish (Nat.le_refl _)))
        clear hrow hwf HD hgk
        go_wp2
        go_roundg (left out todo)
        case measure => rw [HL.out]; omega
        case rel => exact ⟨_, _, rfl, by omega, HN⟩
      obtain ⟨x2, rfl, d1, d2, c3⟩ := hrow.at hlt
      obtain ⟨w1, w2⟩ := hwf.at hlt
      have hE : (row g y)[k]? = some (row g y)[k] := List.getElem?_eq_getElem hlt
      simp only [maxLen] at d2
      simp only [vi] at c3
      have HD' := Lib.hid (And.intro HD.out hE)
      clear hrow hwf hgk HD hE
      generalize (row g y)[k] = z at *
      have skip (hs : ∀ b : Nat, z = (b : Int) → b < g.length → T out b) : Hid (DfsAt w wr (.slice va g.length vc) (.slice ta todo.length tc) g f (fun _ => False) out todo y (k + 1)) :=
        Lib.hid (HD'.out.1.with (HD'.out.1.dfs.skip fun b hb hl _ => hs b (by rw [HD'.out.2] at hb; injection hb) hl))
      have HS := Lib.hid skip
      clear skip
      by_cases hz : z < 0
      · have HN := HS.out (fun b hb _ => by omega)
        clear HS HD'
        go_wp2
        go_roundg ((row g y).length - (k + 1))
        case measure => omega
        case rel => exact ⟨_, _, k + 1, rfl, by omega, by simp, hlm, HN⟩
      by_cases hz2 : (g.length : Int) ≤ z
      · have HN := HS.out (fun b hb hb' => by omega)
        have hd : decide (z < (g.length : Int)) = false := decide_eq_false (by omega)
        have hd0 : 0 ≤ z := by omega
        clear HS HD'
        go_wp2
        go_roundg ((row g y).length - (k + 1))
        case measure => omega
        case rel => exact ⟨_, _, k + 1, rfl, by omega, by simp, hlm, HN⟩
      obtain ⟨q, rfl⟩ : ∃ q : Nat, z = q := ⟨z.toNat, by omega⟩
      have hq : q < g.length := by omega
      obtain ⟨go, rfl, _, m2, m3, m4, m5, m6⟩ := HD'.out.1.mark hq
      simp only [maxLen] at m3
      clear hz hz2
      cases ho : out.getD q false
      case' true =>
        have HN := HS.out (fun b hb hb' => by
          have : b = q := by omega
          subst this; exact ho)
        rw [ho] at m5
        clear HS HD' ho
        go_wp2
        go_roundg ((row g y).length - (k + 1))
        case measure => omega
        case rel => exact ⟨_, _, k + 1, rfl, by omega, by simp, hlm, HN⟩
      case' false =>
        rw [ho] at m5
        have hto : ¬ T out q := by unfold T; rw [ho]; decide
        have hql : q < out.length := by rw [HD'.out.1.dfs.len]; exact hq
        have hlp := left_push (todo := todo) hql hto
        have htl : todo.length ≤ 4000 := by unfold left at hlm; omega
        have HK := Lib.hid (show ((wr.setCell ⟨go, q, none⟩ (.bool true)).alloc (.cells #[.int .i64 (q : Int)] 3)).ownsRow w.heap.size 3 1 (.slice ta todo.length tc) todo.length (todo.map vn) from by
          obtain ⟨_, _, cc, hcc⟩ := own_ty HD'.out.1.own (g := go) rfl
          exact (own_other HD'.out.1.stk hcc (by decide) _).alloc _)
        have hws := Below.size HD'.out.1.kept
        clear HS ho hto hql
        go_wp2_with (at_builtin; refine wpList_append_lies _ rfl (.tmp 74) (.tmp 76) 23 rfl w.heap.size 3 i0 _ 1 8 Tryd.underlying23 Hi.out.1 Hi.out.2.1 Hi.out.2.2.1 Hi.out.2.2.2 rfl (by omega) (.slice ta todo.length tc) todo.length (todo.map vn) rfl HK.out ⟨wr.heap.size, 0, none⟩ 1 1 [.int .i64 (q : Int)] rfl rfl (World.news_of_block (cs := #[.int .i64 (q : Int)]) (by have := heap_alloc_new (wr.setCell ⟨go, q, none⟩ (.bool true)) (.cells #[.int .i64 (q : Int)] 3); simpa using this)) (by simp [Value.oneCell']) (by omega) (by simp only [maxLen]; omega) (by omega) (by simp; omega) (wr.heap.size + 1) (by simp) ?_; intro g7 cap7 w7 hown hgrow hat hlt7; have Hown := Lib.hid hown; have Hgrow := Lib.hid hgrow; clear hown hgrow hat)
        go_roundg ((row g y).length - (k + 1))
        case measure => omega
        case rel =>
          refine ⟨_, _, k + 1, rfl, by omega, by simp, ?_, Lib.hid (HD'.out.1.push hy HD'.out.2 hq not_false Hgrow.out Hown.out)⟩
          omega
theorem reach_out (w : World) (v : Value) (g : Gr) (f : Int) (hg : GraphAt w v g) (hl : g.length ≤ 2000) (hf : f < 0 ∨ (g.length : Int) ≤ f) :
    Calls Tryd.prog 11 #[v, .int .i64 f] w fun e w' => ∃ u, e = .returned u ∧ Hid (Kept w w' ∧ w'.ownsRow w.heap.size 4 1 u g.length ((List.replicate g.length false).map vb)) := by
  obtain ⟨ga, gc, rfl⟩ := hg.form
  have hmk := made_bools g.length (by omega)
  have HM := Lib.hid (own_made (f := vb) w false g.length (by omega) 4)
  have HF := Lib.hid (fun W => fits_no W ga g.length gc f hl hf)
  clear hg
  go_enter Tryd.func11, Tryd.ntmps11
  go_wp2_with (go_at_call 26; refine (HF.out _).mono ?_; rintro e w' ⟨rfl, rfl⟩)
  go_ret
  exact ⟨_, rfl, Lib.hid ⟨(Kept.refl w).alloc _, HM.out⟩⟩
open Classical in
/-- Reach, of any from. -/
theorem reach_any (w : World) (v : Value) (g : Gr) (f : Int) (hg : GraphAt w v g) (hl : g.length ≤ 2000) :
    Calls Tryd.prog 11 #[v, .int .i64 f] w fun e w' => ∃ u, e = .returned u ∧ Hid (Kept w w' ∧ w'.ownsRow w.heap.size 4 1 u g.length ((reachL g f).map vb)) := by
  by_cases hf : f < 0 ∨ (g.length : Int) ≤ f
  · refine (reach_out w v g f hg hl hf).mono ?_
    rintro e w' ⟨u, rfl, H⟩
    have : reachL g f = List.replicate g.length false := by
      apply List.ext_getElem
      · simp [reachL_len]
      · intro i h1 h2
        rw [reachL_at, List.getElem_replicate]
        refine decide_eq_false (fun k => ?_)
        have : f.toNat < g.length := by
          have : ∀ y, Re g f.toNat y → f.toNat < g.length := by
            intro y hy
            induction hy with
            | start h _ => exact h
            | step _ _ _ ih => exact ih
          exact this i k.2
        have := k.1
        omega
    rw [this]
    exact ⟨u, rfl, H⟩
  · obtain ⟨q, rfl⟩ : ∃ q : Nat, f = q := ⟨f.toNat, by omega⟩
    refine (reach_in w v g q hg hl (by omega)).mono ?_
    rintro e w' ⟨u, rfl, H⟩
    obtain ⟨vt, out, k, H⟩ := H.out
    refine ⟨u, rfl, Lib.hid ⟨H.kept, ?_⟩⟩
    have : reachL g (q : Int) = out := by
      rw [H.dfs.is]
      unfold reachL ReI
      refine List.map_congr_left fun x _ => ?_
      rw [decide_eq_decide]
      exact ⟨fun k => k.2, fun k => ⟨by omega, k⟩⟩
    rw [this]; exact H.own
end Go.Proofs.YtpkebokfbigggaaDoor.Shp
