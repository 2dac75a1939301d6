/-
  The document's Dominators (package calliperref10): walked.
-/
import Derived.Test.YtpkebokfbigggaaDoorShpG
namespace Go.Proofs.YtpkebokfbigggaaDoor.Shp
open Go.RowKit
open Classical

section
variable {g : Gr} {f : Int}
theorem byF_start (c : Nat) : byF g f 0 0 c = [] := by unfold byF; rw [if_neg (by omega)]; rfl
theorem byF_turn {a n c : Nat} (h : c < n) : byF g f a n c = byF g f (a + 1) 0 c := by unfold byF; rw [if_pos h, if_neg (by omega)]
theorem byF_no {a b : Nat} (h : ¬ (0 ≤ f ∧ SDom g f.toNat a b)) (c : Nat) : byF g f a b c = byF g f a (b + 1) c := by
  unfold byF
  by_cases e : c < b
  · rw [if_pos e, if_pos (by omega)]
  · rw [if_neg e]
    by_cases e' : c = b
    · subst e'; rw [if_pos (by omega), sdT_no h]
    · rw [if_neg (by omega)]
theorem byF_not {a : Nat} (h : ∀ b, ¬ (0 ≤ f ∧ SDom g f.toNat a b)) (c : Nat) : byF g f a 0 c = byF g f (a + 1) 0 c := by
  unfold byF
  rw [if_neg (by omega), if_neg (by omega), sdT_no (h c)]
theorem byF_yes {a b : Nat} (h : 0 ≤ f ∧ SDom g f.toNat a b) : byF g f a (b + 1) b = byF g f a b b ++ [a] := by
  unfold byF
  rw [if_pos (by omega), if_neg (by omega), sdT_yes h]
theorem byF_else {a b c : Nat} (h : c ≠ b) : byF g f a (b + 1) c = byF g f a b c := by
  unfold byF
  by_cases e : c < b
  · rw [if_pos e, if_pos (by omega)]
  · rw [if_neg e, if_neg (by omega)]
theorem byF_le {a b c : Nat} : (byF g f a b c).length ≤ a + 1 := by
  unfold byF
  split
  · exact sdT_le _ _
  · exact Nat.le_trans (sdT_le _ _) (by omega)
theorem byF_end {c : Nat} : byF g f g.length 0 c = sdT g f g.length c := by unfold byF; rw [if_neg (by omega)]
end
/-- What lies in memory as it goes. -/
structure DmAt (w W : World) (vo vr vv : Value) (g : Gr) (f : Int) (R : Nat) (us : List Value) (F : Nat → List Nat) (os : List Int) : Prop where
  len : us.length = g.length
  rows : RowsAt w W w.heap.size vv us F
  out : W.ownsRow w.heap.size 3 1 vo g.length (os.map vi)
  re : W.ownsRow R 4 1 vr g.length ((reachL g f).map vb)
theorem DmAt.keep {w W W' : World} {vo vr vv : Value} {g : Gr} {f : Int} {R : Nat} {us : List Value} {F : Nat → List Nat} {os : List Int} (h : DmAt w W vo vr vv g f R us F os) (hk : Kept W W') : DmAt w W' vo vr vv g f R us F os :=
  ⟨h.len, h.rows.keep hk, own_kept h.out hk, own_kept h.re hk⟩
theorem DmAt.congr {w W : World} {vo vr vv : Value} {g : Gr} {f : Int} {R : Nat} {us : List Value} {F F' : Nat → List Nat} {os : List Int} (h : DmAt w W vo vr vv g f R us F os) (e : ∀ b, b < g.length → F b = F' b) : DmAt w W vo vr vv g f R us F' os :=
  ⟨h.len, h.rows.congr fun b hb => e b (by rw [← h.len]; exact hb), h.out, h.re⟩

theorem toNat_nat (q : Nat) : ((q : Int)).toNat = q := by omega
theorem mark_at {W : World} {R n m c b : Nat} {a : Option Addr} {l : List Bool} (h : W.ownsRow R 4 1 (.slice a m c) n (l.map vb)) (hb : b < l.length) :
    ∃ gr, a = some ⟨gr, 0, none⟩ ∧ m = n ∧ l.length = n ∧ n ≤ c ∧ c ≤ maxLen ∧ W.cell? ⟨gr, b, none⟩ = some (.bool l[b]) := by
  obtain ⟨a', c', e⟩ := own_form h
  injection e with e1 e2 e3
  subst e1 e2 e3
  obtain ⟨gr, q1, q2, q3, _, q5, _⟩ := own_at h (j := b) (by simpa using hb)
  have := own_len h
  rw [List.length_map] at this
  exact ⟨gr, q1, rfl, this, q2, q3, by rw [q5]; simp [vb]⟩
theorem num_at {W : World} {R n m c b : Nat} {a : Option Addr} {l : List Int} (h : W.ownsRow R 3 1 (.slice a m c) n (l.map vi)) (hb : b < l.length) :
    ∃ gr, a = some ⟨gr, 0, none⟩ ∧ m = n ∧ l.length = n ∧ n ≤ c ∧ c ≤ maxLen ∧ W.cell? ⟨gr, b, none⟩ = some (.int .i64 l[b]) ∧ W.frozen? ⟨gr, b, none⟩ = false := by
  obtain ⟨a', c', e⟩ := own_form h
  injection e with e1 e2 e3
  subst e1 e2 e3
  obtain ⟨gr, q1, q2, q3, _, q5, q6⟩ := own_at h (j := b) (by simpa using hb)
  have := own_len h
  rw [List.length_map] at this
  exact ⟨gr, q1, rfl, this, q2, q3, by rw [q5]; simp [vi], q6⟩
theorem nat_at {W : World} {R n m c b : Nat} {a : Option Addr} {l : List Nat} (h : W.ownsRow R 3 1 (.slice a m c) n (l.map vn)) (hb : b < l.length) :
    ∃ gr, a = some ⟨gr, 0, none⟩ ∧ m = n ∧ l.length = n ∧ n ≤ c ∧ c ≤ maxLen ∧ W.cell? ⟨gr, b, none⟩ = some (.int .i64 ((l[b] : Nat) : Int)) := by
  obtain ⟨a', c', e⟩ := own_form h
  injection e with e1 e2 e3
  subst e1 e2 e3
  obtain ⟨gr, q1, q2, q3, _, q5, _⟩ := own_at h (j := b) (by simpa using hb)
  have := own_len h
  rw [List.length_map] at this
  exact ⟨gr, q1, rfl, this, q2, q3, by rw [q5]; simp [vn]⟩
/-- What lies in memory at the end. -/
structure EndAt (w W : World) (gv : Option Addr) (cv : Nat) (g : Gr) (f : Int) (us : List Value) (os : List Int) : Prop where
  len : us.length = g.length
  rows : RowsAt w W w.heap.size (.slice gv g.length cv) us (sdT g f g.length)
  out : W.ownsRow w.heap.size 3 1 (.slice (some ⟨w.heap.size, 0, none⟩) g.length g.length) g.length (os.map vi)
theorem EndAt.keep {w W W' : World} {gv : Option Addr} {cv : Nat} {g : Gr} {f : Int} {us : List Value} {os : List Int} (h : EndAt w W gv cv g f us os) (hk : Kept W W') : EndAt w W' gv cv g f us os :=
  ⟨h.len, h.rows.keep hk, own_kept h.out hk⟩
theorem EndAt.set {w W : World} {gv : Option Addr} {cv : Nat} {g : Gr} {f : Int} {us : List Value} {os : List Int} (h : EndAt w W gv cv g f us os) {n b : Nat} {x : Int} : EndAt w ((W.drewN n).setCell ⟨w.heap.size, b, none⟩ (.int .i64 x)) gv cv g f us (os.set b x) := by
  have h' := h.keep ((Kept.refl W).drewN n)
  obtain ⟨q1, q2, c, hc⟩ := own_ty h'.out (g := w.heap.size) rfl
  exact ⟨h'.len, h'.rows.set q1 hc, by rw [List.map_set]; exact own_set h'.out _⟩
theorem dm_start {w W : World} {vo vr vv : Value} {g : Gr} {f : Int} {R : Nat} (h1 : Kept w W) (h2 : w.heap.size < W.heap.size) (h3 : W.ownsRow w.heap.size 3 1 vo g.length ((minF g.length g.length).map vi)) (h4 : W.ownsRow R 4 1 vr g.length ((reachL g f).map vb))
    (h5 : W.ownsRow w.heap.size 23 1 vv g.length (List.replicate g.length (.slice none 0 0))) : DmAt w W vo vr vv g f R (List.replicate g.length (.slice none 0 0)) (byF g f 0 0) (outF g f 0 (-1)) := by
  refine ⟨by simp, ⟨h1, by simpa using h5, fun b hb => ?_, fun b c hb hc _ k hk => ?_, fun b hb k hk => ?_, h2⟩, by rw [← minF_end]; exact h3, h4⟩
  · rw [byF_start, List.getElem_replicate]; exact World.ownsRow_nil _ _ _ _
  · rw [List.getElem_replicate] at hk; cases hk
  · rw [List.getElem_replicate] at hk; cases hk
set_option maxRecDepth 100000 in
set_option maxHeartbeats 8000000 in
theorem dominators_any (w : World) (v : Value) (g : Gr) (f : Int) (hg : GraphAt w v g) (hl : g.length ≤ 2000) :
    Calls Tryd.prog 14 #[v, .int .i64 f] w fun e w' => ∃ u, e = .returned u ∧ Hid (Kept w w' ∧ w'.ownsRow w.heap.size 3 1 u g.length ((idomL g f).map vi)) := by
  obtain ⟨i0, hi, hz0, hz1, hz2⟩ := info_get int_inf
  have Hi := Lib.hid (And.intro hi (And.intro hz0 (And.intro hz1 hz2)))
  clear hi hz0 hz1 hz2
  obtain ⟨j0, hi, hz0, hz1, hz2⟩ := info_get slice_inf
  have Hj := Lib.hid (And.intro hi (And.intro hz0 (And.intro hz1 hz2)))
  clear hi hz0 hz1 hz2
  obtain ⟨ga, gc, rfl⟩ := hg.form
  have HG := Lib.hid hg
  have hmk := made_ints g.length (by omega)
  have HM := Lib.hid (own_made (f := vi) w 0 g.length (by omega) 3)
  rw [← minF_zero] at HM
  have K0 := Lib.hid ((Kept.refl w).alloc (.cells (madeCells #[.int .i64 0] g.length) 3))
  have hs0 : w.heap.size < (w.alloc (.cells (madeCells #[.int .i64 0] g.length) 3)).heap.size := by simp
  have Hs0 := Lib.hid hs0
  have HC := Lib.hid (reach_any w (.slice ga g.length gc) g f hg hl)
  clear hg hs0 HC
  go_enter Tryd.func14, Tryd.ntmps14
  go_wp2
  have hM' : (w.alloc (.cells (madeCells #[.int .i64 0] g.length) 3)).ownsRow w.heap.size 3 1 (.slice (some ⟨w.heap.size, 0, none⟩) g.length g.length) g.length ((minF g.length 0).map vi) := HM.out
  have HM' := Lib.hid hM'
  clear HM hM'
  generalize w.alloc (.cells (madeCells #[.int .i64 0] g.length) 3) = W0 at *
  clear hmk
  go_loopg [6] (g.length) (fun m i wr => ∃ k : Nat, m = g.length - k ∧ k ≤ g.length ∧ i = .int .i64 (k : Int) ∧ Hid (Kept w wr ∧ w.heap.size < wr.heap.size ∧ wr.ownsRow w.heap.size 3 1 (.slice (some ⟨w.heap.size, 0, none⟩) g.length g.length) g.length ((minF g.length k).map vi)))
  case atStart => exact ⟨0, by omega, by omega, rfl, Lib.hid ⟨K0.out, Hs0.out, HM'.out⟩⟩
  case round =>
    clear HM' K0 Hs0
    obtain ⟨k, rfl, hk, rfl, HK⟩ := hrel
    by_cases hlt : k < g.length
    · obtain ⟨go, e1, h1, h2, h3, c1, c2⟩ := own_at HK.out.2.2 (j := k) (by simp [minF]; exact hlt)
      injection e1 with e1
      injection e1 with e1
      subst e1
      have HN := Lib.hid (And.intro (HK.out.1.setCell (p := ⟨w.heap.size, k, none⟩) (Nat.le_refl _) (.int .i64 (-1))) (own_set (j := k) HK.out.2.2 (.int .i64 (-1))))
      have hs := HK.out.2.1
      clear HK h3
      generalize ((minF g.length k).map vi)[k]'(by simp [minF]; exact hlt) = z at *
      go_wp2
      go_roundg (g.length - (k + 1))
      case measure => omega
      case rel => exact ⟨k + 1, rfl, by omega, by simp, Lib.hid ⟨HN.out.1, by simpa using hs, by rw [← minF_set, List.map_set]; exact HN.out.2⟩⟩
    obtain rfl : k = g.length := by omega
    clear hlt
    have HC := Lib.hid (reach_any wr (.slice ga g.length gc) g f (HG.out.kept HK.out.1) hl)
    have HK2 := Lib.hid (fun W (hk : Kept wr W) => And.intro (HK.out.1.trans hk) (And.intro (Nat.lt_of_lt_of_le HK.out.2.1 hk.size) (own_kept HK.out.2.2 hk)))
    have hsz := Below.size HK.out.1
    clear HK
    generalize hR : wr.heap.size = R at *
    clear hR
    go_wp2_with (go_at_call 11; refine (HC.out).mono ?_; rintro e w1 ⟨vr, rfl, H1⟩)
    have HN := Lib.hid (And.intro (HK2.out _ H1.out.1) H1.out.2)
    clear HK2 H1 HC
    go_loopg [8, 9] (g.length) (fun m vv i wz => ∃ k : Nat, m = g.length - k ∧ k ≤ g.length ∧ i = .int .i64 (k : Int) ∧ Hid (Kept w wz ∧ w.heap.size < wz.heap.size ∧ wz.ownsRow w.heap.size 3 1 (.slice (some ⟨w.heap.size, 0, none⟩) g.length g.length) g.length ((minF g.length g.length).map vi) ∧ wz.ownsRow R 4 1 vr g.length ((reachL g f).map vb) ∧ wz.ownsRow w.heap.size 23 1 vv k (List.replicate k (.slice none 0 0))))
    case atStart => exact ⟨0, by omega, by omega, rfl, Lib.hid ⟨HN.out.1.1, HN.out.1.2.1, HN.out.1.2.2, HN.out.2, World.ownsRow_nil _ _ _ _⟩⟩
    case round =>
      clear HN
      rename World => wo
      obtain ⟨k, rfl, hk, rfl, HK⟩ := hrel
      by_cases hlt : k < g.length
      · have hws := Below.size HK.out.1
        obtain ⟨va, vc, e⟩ := own_form HK.out.2.2.2.2
        subst e
        go_wp2_with (at_builtin; refine wpList_append_lies _ rfl (.tmp 40) (.tmp 41) 22 rfl w.heap.size 23 j0 _ 1 24 Tryd.underlying22 Hj.out.1 Hj.out.2.1 Hj.out.2.2.1 Hj.out.2.2.2 rfl (by omega) (.slice va k vc) k (List.replicate k (.slice none 0 0)) rfl (HK.out.2.2.2.2.alloc _) ⟨wo.heap.size, 0, none⟩ 1 1 [.slice none 0 0] rfl rfl (World.news_of_block (cs := #[.slice none 0 0]) (heap_alloc_new wo _)) (by simp [Value.oneCell']) (by omega) (by simp only [maxLen]; omega) (by omega) (by simp; omega) (wo.heap.size + 1) (by simp) ?_; intro g7 cap7 w7 hown hgrow hat hlt7; have Hown := Lib.hid hown; have Hgrow := Lib.hid hgrow; clear hown hgrow hat)
        go_roundg (g.length - (k + 1))
        case measure => omega
        case rel =>
          have ka := HK.out.1.alloc (.cells #[.slice none 0 0] 23)
          have hC := chg_grown Hgrow.out
          have hne : ∀ {B : Nat} {e : TypeId} {v : Value} {n : Nat} {xs : List Value}, e ≠ 23 → wo.ownsRow B e 1 v n xs → w7.ownsRow B e 1 v n xs := by
            intro B e v n xs he hr
            refine own_chg (hr.alloc _) hC fun q hq h2 => ?_
            obtain ⟨_, _, c1, hc1⟩ := own_ty hr hq
            obtain ⟨_, _, c2, hc2⟩ := own_ty HK.out.2.2.2.2 h2
            exact ne_of_ty hc1 hc2 he rfl
          refine ⟨k + 1, rfl, by omega, by simp, Lib.hid ⟨?_, ?_, hne (by decide) HK.out.2.2.1, hne (by decide) HK.out.2.2.2.1, ?_⟩⟩
          · exact Below.trans ka (Kept.chg ka.size (chg_grown Hgrow.out) fun i hi => (own_ty HK.out.2.2.2.2 hi).1)
          · have := hC.size; have := HK.out.2.1; simp at *; omega
          · have := Hown.out
            rw [List.replicate_succ']; exact this
      obtain rfl : k = g.length := by omega
      clear hlt
      have hD : Hid (∃ us, DmAt w wo (.slice (some ⟨w.heap.size, 0, none⟩) g.length g.length) vr u8 g f R us (byF g f 0 0) (outF g f 0 (-1))) := Lib.hid ⟨_, dm_start HK.out.1 HK.out.2.1 HK.out.2.2.1 HK.out.2.2.2.1 HK.out.2.2.2.2⟩
      have HK0 := HK.out.2.2.2.2
      clear HK
      obtain ⟨gv, cv, e⟩ := own_form HK0
      subst e
      clear HK0
      go_wp2
      go_loopg [10] (g.length) (fun m i wz => ∃ k : Nat, m = g.length - k ∧ k ≤ g.length ∧ i = .int .i64 (k : Int) ∧ Hid (∃ us, DmAt w wz (.slice (some ⟨w.heap.size, 0, none⟩) g.length g.length) vr (.slice gv g.length cv) g f R us (byF g f k 0) (outF g f 0 (-1))))
      case atStart => exact ⟨0, by omega, by omega, rfl, hD⟩
      case round =>
        clear hD
        rename World => w5
        obtain ⟨a, rfl, ha, rfl, HD⟩ := hrel
        obtain ⟨us, HD0⟩ := HD.out
        have hD := Lib.hid HD0
        clear HD
        obtain ⟨ra, rc, e⟩ := own_form HD0.re
        subst e
        by_cases hlt : a < g.length
        · obtain ⟨gr, e, _, _, m2, m3, cr⟩ := mark_at HD0.re (b := a) (by rw [reachL_len]; exact hlt)
          subst e
          rw [reachL_at] at cr
          simp only [maxLen] at m3
          have hws := Below.size HD0.rows.kept
          clear HD0
          by_cases hre : ReI g f a
          case neg =>
            rw [decide_eq_false hre] at cr
            have HN := Lib.hid (hD.out.congr (F' := byF g f (a + 1) 0) fun b _ => byF_not (fun b hb => hre ⟨hb.1, hb.2.lt⟩) b)
            clear hD
            go_wp2
            go_roundg (g.length - (a + 1))
            case measure => omega
            case rel => exact ⟨a + 1, rfl, by omega, by simp, Lib.hid ⟨_, HN.out⟩⟩
          case pos =>
            rw [decide_eq_true hre] at cr
            obtain ⟨q, rfl⟩ : ∃ q : Nat, f = q := ⟨f.toNat, by have := hre.1; omega⟩
            have hq : q < g.length := by
              have : ∀ y, Re g q y → q < g.length := by
                intro y hy
                induction hy with
                | start h _ => exact h
                | step _ _ _ ih => exact ih
              exact this a hre.2
            have Hre := Lib.hid hre
            have HW := Lib.hid (without_any w5 (.slice ga g.length gc) g q a (HG.out.kept hD.out.rows.kept) hl hq hlt)
            clear hre
            go_wp2_with (go_at_call 29; refine (HW.out).mono ?_; rintro e w6 ⟨vw, rfl, H6⟩)
            have hst : Hid (∃ us, DmAt w w6 (.slice (some ⟨w.heap.size, 0, none⟩) g.length g.length) (.slice (some ⟨gr, 0, none⟩) g.length rc) (.slice gv g.length cv) g q R us (byF g q a 0) (outF g q 0 (-1)) ∧ w6.ownsRow w5.heap.size 4 1 vw g.length ((avoidL g q a).map vb)) := Lib.hid ⟨_, hD.out.keep H6.out.1, H6.out.2⟩
            clear hD H6 HW
            go_loopg [12] (g.length) (fun m i wz => ∃ b : Nat, m = g.length - b ∧ b ≤ g.length ∧ i = .int .i64 (b : Int) ∧ Hid (∃ us, DmAt w wz (.slice (some ⟨w.heap.size, 0, none⟩) g.length g.length) (.slice (some ⟨gr, 0, none⟩) g.length rc) (.slice gv g.length cv) g q R us (byF g q a b) (outF g q 0 (-1)) ∧ wz.ownsRow w5.heap.size 4 1 vw g.length ((avoidL g q a).map vb)))
            case atStart => exact ⟨0, by omega, by omega, rfl, hst⟩
            case round =>
              clear hst cr
              rename World => w7
              obtain ⟨b, rfl, hb, rfl, HD⟩ := hrel
              obtain ⟨us, HD0, HV0⟩ := HD.out
              have hD := Lib.hid HD0
              have hV := Lib.hid HV0
              clear HD
              by_cases hlt2 : b < g.length
              case neg =>
                obtain rfl : b = g.length := by omega
                have HN := Lib.hid (hD.out.congr (F' := byF g q (a + 1) 0) fun c hc => byF_turn hc)
                clear HD0 HV0 hD hV hlt2
                go_wp2
                go_roundg (g.length - (a + 1))
                case measure => omega
                case rel => exact ⟨a + 1, rfl, by omega, by simp, Lib.hid ⟨_, HN.out⟩⟩
              obtain ⟨gr', e, _, _, p1, p2, cr⟩ := mark_at HD0.re (b := b) (by rw [reachL_len]; exact hlt2)
              injection e with e
              injection e with e
              subst e
              rw [reachL_at] at cr
              obtain ⟨wa, wc, e⟩ := own_form HV0
              subst e
              obtain ⟨gw, e, _, _, p3, p4, cw⟩ := mark_at HV0 (b := b) (by rw [avoidL_len]; exact hlt2)
              subst e
              rw [avoidL_at] at cw
              have hbu : b < us.length := by rw [HD0.len]; exact hlt2
              obtain ⟨gb, ba, bc, e, hub, e2, p5, p6, cb, fb, hrow⟩ := HD0.rows.at hbu
              subst e
              simp only [maxLen] at p2 p4 p6
              have Hrow := Lib.hid hrow
              have Hub := Lib.hid hub
              have E2 := Lib.hid e2
              have no (h : ¬ (0 ≤ (q : Int) ∧ SDom g (q : Int).toNat a b)) := Lib.hid (hD.out.congr (F' := byF g q a (b + 1)) fun c _ => byF_no h c)
              have NO := Lib.hid no
              clear HD0 HV0 hrow hub e2 no
              by_cases hrb : ReI g q b
              case neg =>
                rw [decide_eq_false hrb] at cr
                have HN := NO.out fun h => hrb ⟨h.1, h.2.2.1⟩
                clear NO hD
                go_wp2
                go_roundg (g.length - (b + 1))
                case measure => omega
                case rel => exact ⟨b + 1, rfl, by omega, by simp, Lib.hid ⟨_, HN.out, hV.out⟩⟩
              rw [decide_eq_true hrb] at cr
              by_cases hav : Av g q a b
              case pos =>
                rw [decide_eq_true hav] at cw
                have HN := NO.out fun h => h.2.2.2 (by rw [toNat_nat]; exact hav)
                clear NO hD hrb hav
                go_wp2
                go_roundg (g.length - (b + 1))
                case measure => omega
                case rel => exact ⟨b + 1, rfl, by omega, by simp, Lib.hid ⟨_, HN.out, hV.out⟩⟩
              rw [decide_eq_false hav] at cw
              by_cases hab : b = a
              case pos =>
                have HN := NO.out fun h => h.2.1 hab.symm
                have hd : ((b : Int) != (a : Int)) = false := by simp [hab]
                clear NO hD hrb hav hab
                go_wp2
                go_roundg (g.length - (b + 1))
                case measure => omega
                case rel => exact ⟨b + 1, rfl, by omega, by simp, Lib.hid ⟨_, HN.out, hV.out⟩⟩
              have hd : ((b : Int) != (a : Int)) = true := by rw [bne_iff_ne]; omega
              have HS := Lib.hid (show 0 ≤ (q : Int) ∧ SDom g (q : Int).toNat a b from ⟨by omega, fun h => hab h.symm, hrb.2, by rw [toNat_nat]; exact hav⟩)
              have hbl := byF_le (g := g) (f := q) (a := a) (b := b) (c := b)
              have hws7 := Below.size hD.out.rows.kept
              clear NO hrb hav hab
              generalize hF : byF g q a b b = lb at *
              have HF := Lib.hid hF
              clear hF
              go_wp2_with (at_builtin; refine wpList_append_lies _ rfl (.tmp 85) (.tmp 87) 23 rfl w.heap.size 3 i0 _ 1 8 Tryd.underlying23 Hi.out.1 Hi.out.2.1 Hi.out.2.2.1 Hi.out.2.2.2 rfl (by omega) (.slice ba lb.length bc) lb.length (lb.map vn) rfl (Hrow.out.alloc _) ⟨w7.heap.size, 0, none⟩ 1 1 [.int .i64 (a : Int)] rfl rfl (World.news_of_block (cs := #[.int .i64 (a : Int)]) (heap_alloc_new w7 _)) (by simp [Value.oneCell']) (by omega) (by simp only [maxLen]; omega) (by omega) (by simp; omega) (w7.heap.size + 1) (by simp) ?_; intro g7 cap7 w8 hown hgrow hat hlt7; have Hown := Lib.hid hown; have Hgrow := Lib.hid hgrow; have Hat := Lib.hid hat; obtain ⟨c8, f8⟩ := hD.out.rows.stay hbu (by rw [Hub.out]; exact hgrow); rw [Hub.out] at c8; clear hown hgrow hat)
              go_roundg (g.length - (b + 1))
              case measure => omega
              case rel =>
                have hP := hD.out.rows.push (F' := byF g q a (b + 1)) (x := a) (o := .cells #[.int .i64 (a : Int)] 3) hbu (by rw [Hub.out]; exact Hgrow.out) (by rw [HF.out]; exact Hown.out) (by rw [Hub.out]; exact Hat.out) (by rw [HF.out, ← HF.out]; exact byF_yes HS.out) (fun c hc => byF_else hc)
                exact ⟨b + 1, rfl, by omega, by simp, Lib.hid ⟨_, ⟨by rw [List.length_set]; exact hD.out.len, hP.1, hP.2.2 hD.out.out, hP.2.1 hD.out.re⟩, hP.2.1 hV.out⟩⟩
        · obtain rfl : a = g.length := by omega
          have hst : Hid (EndAt w w5 gv cv g f us (outF g f 0 (-1))) := Lib.hid ⟨HD0.len, HD0.rows.congr fun b _ => byF_end, HD0.out⟩
          clear HD0 hD hlt
          go_wp2
          go_loopg [13] (g.length) (fun m i wz => ∃ b : Nat, m = g.length - b ∧ b ≤ g.length ∧ i = .int .i64 (b : Int) ∧ Hid (EndAt w wz gv cv g f us (outF g f b (-1))))
          case atStart => exact ⟨0, by omega, by omega, rfl, hst⟩
          case round =>
            clear hst
            rename World => w6
            obtain ⟨b, rfl, hb, rfl, HD⟩ := hrel
            by_cases hlt : b < g.length
            case neg =>
              obtain rfl : b = g.length := by omega
              have ho := HD.out.out
              rw [outF_end] at ho
              have HO := Lib.hid (And.intro HD.out.rows.kept ho)
              clear HD ho
              go_wp2
              go_ret
              exact ⟨_, rfl, HO⟩
            have hst : Hid (EndAt w w6 gv cv g f us (outF g f b (-1)) ∧ Pick g f b 0 (-1)) := Lib.hid ⟨HD.out, .inl ⟨rfl, rfl⟩⟩
            clear HD
            go_wp2
            go_loopg [14] ((sdT g f g.length b).length) (fun m i wz => ∃ (k : Nat) (cur : Int), m = (sdT g f g.length b).length - k ∧ k ≤ (sdT g f g.length b).length ∧ i = .int .i64 (k : Int) ∧ Hid (EndAt w wz gv cv g f us (outF g f b cur) ∧ Pick g f b k cur))
            case atStart => exact ⟨0, -1, by omega, by omega, rfl, hst⟩
            case round =>
              clear hst
              rename World => w7
              obtain ⟨k, cur, rfl, hk, rfl, HD⟩ := hrel
              have hbu : b < us.length := by rw [HD.out.1.len]; exact hlt
              obtain ⟨gb, ba, bc, e, hub, e2, p5, p6, cb, fb, hrow⟩ := HD.out.1.rows.at hbu
              subst e
              have hsl := sdT_le (g := g) (f := f) g.length b
              simp only [maxLen] at p6
              clear e2 hub
              by_cases hkl : k < (sdT g f g.length b).length
              case neg =>
                have HN := Lib.hid (pick_end HD.out.2 (by omega))
                have HE := Lib.hid HD.out.1
                clear hrow HD
                go_wp2
                go_roundg (g.length - (b + 1))
                case measure => omega
                case rel => exact ⟨b + 1, rfl, by omega, by simp, Lib.hid (by rw [← outF_next, ← HN.out]; exact HE.out)⟩
              obtain ⟨gr, e, -, -, p7, p8, ck⟩ := nat_at hrow hkl
              subst e
              have ha := (mem_sdT (g := g) (f := f) (n := g.length) (x := b)).1 (List.getElem_mem hkl)
              obtain ⟨go, e, -, -, -, -, co, fo⟩ := num_at HD.out.1.out (b := b) (by rw [outF_len]; exact hlt)
              injection e with e
              injection e with e
              subst e
              rw [outF_at] at co
              have hau : (sdT g f g.length b)[k] < us.length := by rw [HD.out.1.len]; exact ha.1
              obtain ⟨gb', aa, ac, e, -, -, -, -, ca, -, -⟩ := HD.out.1.rows.at hau
              injection e with e
              injection e with e
              subst e
              simp only [maxLen] at p8
              have hal := ha.1
              have hcl := sdT_le (g := g) (f := f) g.length (sdT g f g.length b)[k]
              have hf0 := ha.2.1
              have HN := Lib.hid (fun n => HD.out.1.set (n := n) (b := b) (x := ((sdT g f g.length b)[k] : Nat)))
              have HE := Lib.hid (fun n => HD.out.1.keep ((Kept.refl w7).drewN n))
              rw [outF_set] at HN
              rcases Nat.eq_zero_or_pos k with hk0 | hk0
              · subst hk0
                have hcur : cur = -1 := by
                  rcases HD.out.2 with ⟨_, h⟩ | ⟨m, hm, _⟩
                  · exact h
                  · simp at hm
                subst hcur
                have HP := Lib.hid (pick_first (g := g) (f := f) (x := b) hkl)
                clear hrow HD HE ha hau
                generalize (sdT g f g.length b)[0] = a at *
                go_wp2
                go_quiet (fail)
                go_wp2
                go_roundg ((sdT g f g.length b).length - (0 + 1))
                case measure => omega
                case rel => exact ⟨1, (a : Int), rfl, by omega, by simp, Lib.hid ⟨HN.out _, HP.out⟩⟩
              · obtain ⟨m, rfl, hm, _⟩ := pick_mem HD.out.2 hk0
                have hmu : m < us.length := by rw [HD.out.1.len]; exact hm
                obtain ⟨gb', ma, mc, e, -, -, -, -, cm, -, -⟩ := HD.out.1.rows.at hmu
                injection e with e
                injection e with e
                subst e
                have hcm := sdT_cnt (g := g) hf0 m
                have hca := sdT_cnt (g := g) hf0 (sdT g f g.length b)[k]
                have hml := sdT_le (g := g) (f := f) g.length m
                by_cases hc : cnt g f.toNat m < cnt g f.toNat (sdT g f g.length b)[k]
                · have HP := Lib.hid (pick_new hkl HD.out.2 hk0 hc)
                  have hd : decide ((sdT g f g.length m).length < (sdT g f g.length (sdT g f g.length b)[k]).length) = true := decide_eq_true (by omega)
                  clear hrow HD HE ha hau hcm hca hc
                  generalize (sdT g f g.length b)[k] = a at *
                  generalize (sdT g f g.length m).length = nm at *
                  generalize (sdT g f g.length a).length = na at *
                  have hd' : nm < na := of_decide_eq_true hd
                  go_wp2
                  go_quiet (fail)
                  go_wp2
                  go_roundg ((sdT g f g.length b).length - (k + 1))
                  case measure => omega
                  case rel => exact ⟨k + 1, (a : Int), rfl, by omega, by simp, Lib.hid ⟨HN.out _, HP.out⟩⟩
                · have HP := Lib.hid (pick_old hkl HD.out.2 hk0 (by omega))
                  have hd : decide ((sdT g f g.length m).length < (sdT g f g.length (sdT g f g.length b)[k]).length) = false := decide_eq_false (by omega)
                  clear hrow HD HN ha hau hcm hca hc
                  generalize (sdT g f g.length b)[k] = a at *
                  generalize (sdT g f g.length m).length = nm at *
                  generalize (sdT g f g.length a).length = na at *
                  have hd' : ¬ nm < na := of_decide_eq_false hd
                  go_wp2
                  go_quiet (fail)
                  go_wp2
                  go_roundg ((sdT g f g.length b).length - (k + 1))
                  case measure => omega
                  case rel => exact ⟨k + 1, (m : Int), rfl, by omega, by simp, Lib.hid ⟨HE.out _, HP.out⟩⟩
end Go.Proofs.YtpkebokfbigggaaDoor.Shp
