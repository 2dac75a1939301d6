/-
  The document's Heads (package calliperref10).
-/
import Derived.Test.YtpkebokfbigggaaDoorShpF
import Derived.Test.YtpkebokfbigggaaDoorShpH
import Derived.Test.YtpkebokfbigggaaDoorShpQ
namespace Go.Proofs.YtpkebokfbigggaaDoor.Shp
open Go.RowKit
open Classical

section
variable {g : Gr} {f : Int}
theorem reachL_getD {a : Nat} (ha : a < g.length) : (reachL g f).getD a false = decide (ReI g f a) := by
  rw [List.getD_eq_getElem?_getD, List.getElem?_eq_getElem (by rw [reachL_len]; exact ha)]
  exact reachL_at _
theorem backB_is {a b : Nat} (ha : a < g.length) (hb : b < g.length) : backB (idomL g f) (reachL g f) a b = decide (ReI g f a ∧ Dom g f.toNat b a) := by
  unfold backB
  rw [Int.toNat_natCast, reachL_getD ha, reachL_len, decide_eq_true (show 0 ≤ (b : Int) ∧ (b : Int) < g.length by omega), Bool.true_and]
  by_cases h : ReI g f a
  · rw [decide_eq_true h, Bool.true_and, domB_idom h.1 h.2, decide_eq_decide]
    exact ⟨fun k => ⟨h, k⟩, fun k => k.2⟩
  · rw [decide_eq_false h, Bool.false_and]
    exact (decide_eq_false fun k => h k.1).symm
/-- An edge back to b is among the first a rows, or the first k edges of row a. -/
def Seen (g : Gr) (f : Int) (b a k : Nat) : Prop := ∃ a' i, (a' < a ∨ (a' = a ∧ i < k)) ∧ a' < g.length ∧ (row g a')[i]? = some (b : Int) ∧ backB (idomL g f) (reachL g f) a' b = true
theorem seen_zero (b : Nat) : ¬ Seen g f b 0 0 := by rintro ⟨a', i, h | ⟨_, h⟩, _⟩ <;> omega
theorem seen_row {b a k : Nat} (hk : (row g a).length ≤ k) : Seen g f b a k ↔ Seen g f b (a + 1) 0 := by
  constructor
  · rintro ⟨a', i, h1, h2⟩
    exact ⟨a', i, .inl (by omega), h2⟩
  · rintro ⟨a', i, h1, h2, h3, h4⟩
    refine ⟨a', i, ?_, h2, h3, h4⟩
    by_cases e : a' = a
    · subst e
      refine .inr ⟨rfl, ?_⟩
      have := (List.getElem?_eq_some_iff.1 h3).1
      omega
    · exact .inl (by omega)
theorem seen_step {b a k : Nat} (ha : a < g.length) (hk : k < (row g a).length) : Seen g f b a (k + 1) ↔ Seen g f b a k ∨ ((row g a)[k] = (b : Int) ∧ backB (idomL g f) (reachL g f) a b = true) := by
  constructor
  · rintro ⟨a', i, h1, h2, h3, h4⟩
    by_cases e : a' = a ∧ i = k
    · obtain ⟨rfl, rfl⟩ := e
      rw [List.getElem?_eq_getElem hk] at h3
      injection h3 with h3
      exact .inr ⟨h3, h4⟩
    · exact .inl ⟨a', i, by omega, h2, h3, h4⟩
  · rintro (⟨a', i, h1, h2⟩ | ⟨h1, h2⟩)
    · exact ⟨a', i, by omega, h2⟩
    · exact ⟨a, k, .inr ⟨rfl, by omega⟩, ha, by rw [List.getElem?_eq_getElem hk, h1], h2⟩
theorem seen_end {b : Nat} (hb : b < g.length) : Seen g f b g.length 0 ↔ IsHead g f b := by
  constructor
  · rintro ⟨a, i, h1, h2, h3, h4⟩
    rw [backB_is h2 hb] at h4
    obtain ⟨h5, h6⟩ := of_decide_eq_true h4
    exact ⟨h5.1, a, h5.2, ⟨h2, hb, List.mem_of_getElem? h3⟩, h6⟩
  · rintro ⟨h0, a, h1, h2, h3⟩
    obtain ⟨i, hi, e⟩ := List.getElem_of_mem h2.2.2
    refine ⟨a, i, .inl h2.1, h2.1, by rw [List.getElem?_eq_getElem hi, e], ?_⟩
    rw [backB_is h2.1 hb]
    exact decide_eq_true ⟨⟨h0, h1⟩, h3⟩
noncomputable def headU (g : Gr) (f : Int) (n : Nat) : List Int := ((List.range n).filter fun b => decide (IsHead g f b)).map Int.ofNat
theorem headU_yes {b : Nat} (h : IsHead g f b) : headU g f (b + 1) = headU g f b ++ [(b : Int)] := by
  unfold headU
  rw [List.range_succ, List.filter_append, List.map_append]
  simp [h]
theorem headU_no {b : Nat} (h : ¬ IsHead g f b) : headU g f (b + 1) = headU g f b := by
  unfold headU
  rw [List.range_succ, List.filter_append]
  have : decide (IsHead g f b) = false := decide_eq_false h
  simp only [List.filter_cons, this, List.filter_nil]
  simp
theorem headU_le (b : Nat) : (headU g f b).length ≤ b := by
  unfold headU
  rw [List.length_map]
  exact Nat.le_trans (List.length_filter_le _ _) (by simp)
end

set_option maxRecDepth 100000 in
set_option maxHeartbeats 8000000 in
theorem heads_any (w : World) (v : Value) (g : Gr) (f : Int) (hg : GraphAt w v g) (hl : g.length ≤ 2000) :
    Calls Tryd.prog 18 #[v, .int .i64 f] w fun e w' => ∃ u, e = .returned u ∧ Hid (Kept w w' ∧ w'.ownsRow w.heap.size 3 1 u (headL g f).length ((headL g f).map vi)) := by
  obtain ⟨i0, hi, hz0, hz1, hz2⟩ := info_get int_inf
  have Hi := Lib.hid (And.intro hi (And.intro hz0 (And.intro hz1 hz2)))
  clear hi hz0 hz1 hz2
  obtain ⟨ga, gc, rfl⟩ := hg.form
  have HG := Lib.hid hg
  have HC := Lib.hid (dominators_any w (.slice ga g.length gc) g f hg hl)
  have HC2 := Lib.hid (fun W (hk : Kept w W) => reach_any W (.slice ga g.length gc) g f (hg.kept hk) hl)
  clear hg
  go_enter Tryd.func18, Tryd.ntmps18
  go_wp2_with (first | (go_at_call 14; refine (HC.out).mono ?_; rintro e w1 ⟨vd, rfl, H1⟩) | (go_at_call 11; refine (HC2.out _ H1.out.1).mono ?_; rintro e w2 ⟨vr, rfl, H2⟩))
  have Kw := Lib.hid (H1.out.1.trans H2.out.1)
  have hd := own_list (f := vi) (l := idomL g f) (by rw [idomL_len]; exact own_kept H1.out.2 H2.out.1)
  have hr := own_list (f := vb) (l := reachL g f) (by rw [reachL_len]; exact H2.out.2)
  have HD := Lib.hid hd
  have HR := Lib.hid hr
  obtain ⟨da, dc, rfl⟩ := hd.form
  obtain ⟨ra, rc, e⟩ := hr.form
  rw [reachL_len] at e
  subst e
  have Lr := Lib.hid (reachL_len (g := g) f)
  have Ld := Lib.hid (idomL_len (g := g) f)
  clear hd hr H1 H2 HC HC2
  go_loopg [7, 8] (g.length) (fun m vo i wz => ∃ b : Nat, m = g.length - b ∧ b ≤ g.length ∧ i = .int .i64 (b : Int) ∧ Hid (Kept w2 wz ∧ wz.ownsRow w2.heap.size 3 1 vo (headU g f b).length ((headU g f b).map vi)))
  case atStart => exact ⟨0, by omega, by omega, rfl, Lib.hid ⟨Kept.refl _, World.ownsRow_nil _ _ _ _⟩⟩
  case round =>
    obtain ⟨b, rfl, hb, rfl, HK⟩ := hrel
    obtain ⟨oa, oc, e⟩ := own_form HK.out.2
    subst e
    by_cases hlt : b < g.length
    case neg =>
      obtain rfl : b = g.length := by omega
      clear hlt
      go_wp2
      go_ret
      exact ⟨_, rfl, Lib.hid ⟨Kw.out.trans HK.out.1, own_low HK.out.2 Kw.out.size⟩⟩
    have hst : Hid (Kept w2 wr ∧ wr.ownsRow w2.heap.size 3 1 (.slice oa (headU g f b).length oc) (headU g f b).length ((headU g f b).map vi)) := HK
    have hS : Hid (decide (Seen g f b 0 0) = false) := Lib.hid (decide_eq_false (seen_zero b))
    clear HK
    go_wp2
    go_loopg [9, 10] (g.length) (fun m is i wz => ∃ a : Nat, m = g.length - a ∧ a ≤ g.length ∧ i = .int .i64 (a : Int) ∧ is = .bool (decide (Seen g f b a 0)) ∧ Hid (Kept w2 wz ∧ wz.ownsRow w2.heap.size 3 1 (.slice oa (headU g f b).length oc) (headU g f b).length ((headU g f b).map vi)))
    case atStart => exact ⟨0, by omega, by omega, rfl, by rw [hS.out], hst⟩
    case round =>
      clear hst hS
      rename World => w4
      obtain ⟨a, rfl, ha, rfl, rfl, HK⟩ := hrel
      by_cases hlta : a < g.length
      case neg =>
        obtain rfl : a = g.length := by omega
        clear hlta
        have hws := Below.size HK.out.1
        have hul := headU_le (g := g) (f := f) b
        by_cases hh : IsHead g f b
        · have hsn : decide (Seen g f b g.length 0) = true := decide_eq_true ((seen_end hlt).2 hh)
          have HU := Lib.hid (headU_yes hh)
          rw [hsn]
          clear hh hsn
          go_wp2_with (at_builtin; refine wpList_append_lies _ rfl (.tmp 59) (.tmp 61) 23 rfl w2.heap.size 3 i0 _ 1 8 Tryd.underlying23 Hi.out.1 Hi.out.2.1 Hi.out.2.2.1 Hi.out.2.2.2 rfl (by omega) (.slice oa (headU g f b).length oc) (headU g f b).length ((headU g f b).map vi) rfl (HK.out.2.alloc _) ⟨w4.heap.size, 0, none⟩ 1 1 [.int .i64 (b : Int)] rfl rfl (World.news_of_block (cs := #[.int .i64 (b : Int)]) (heap_alloc_new w4 _)) (by simp [Value.oneCell']) (by omega) (by simp only [maxLen]; omega) (by omega) (by simp; omega) (w4.heap.size + 1) (by simp) ?_; intro g7 cap7 w7 hown hgrow hat hlt7; have Hown := Lib.hid hown; have Hgrow := Lib.hid hgrow; clear hown hgrow hat)
          go_roundg (g.length - (b + 1))
          case measure => omega
          case rel =>
            refine ⟨b + 1, rfl, by omega, by simp, Lib.hid ⟨?_, ?_⟩⟩
            · exact Below.trans (HK.out.1.alloc _) (Kept.chg (HK.out.1.alloc _).size (chg_grown Hgrow.out) fun i hi => (own_ty HK.out.2 hi).1)
            · rw [HU.out, List.length_append, List.map_append]; exact Hown.out
        · have hsn : decide (Seen g f b g.length 0) = false := decide_eq_false (fun k => hh ((seen_end hlt).1 k))
          have HU := Lib.hid (headU_no hh)
          rw [hsn]
          clear hh hsn
          go_wp2
          go_roundg (g.length - (b + 1))
          case measure => omega
          case rel => exact ⟨b + 1, rfl, by omega, by simp, Lib.hid ⟨HK.out.1, by rw [HU.out]; exact HK.out.2⟩⟩
      obtain ⟨x, b1, d1, rfl, r1, r2, c2, hrow, hwf⟩ := (HG.out.kept (Kw.out.trans HK.out.1)).at hlta
      simp only [maxLen] at r2
      have HK' := HK
      clear hrow hwf HK
      go_wp2
      go_loopg [9, 11] ((row g a).length) (fun m is i wz => ∃ k : Nat, m = (row g a).length - k ∧ k ≤ (row g a).length ∧ i = .int .i64 (k : Int) ∧ is = .bool (decide (Seen g f b a k)) ∧ Hid (Kept w2 wz ∧ wz.ownsRow w2.heap.size 3 1 (.slice oa (headU g f b).length oc) (headU g f b).length ((headU g f b).map vi)))
      case atStart => exact ⟨0, by omega, by omega, rfl, rfl, HK'⟩
      case round =>
        clear HK' c2
        rename World => w5
        obtain ⟨k, rfl, hk, rfl, rfl, HK⟩ := hrel
        obtain ⟨x', b2, d2, e1, r3, r4, c2, hrow, hwf⟩ := (HG.out.kept (Kw.out.trans HK.out.1)).at hlta
        injection e1 with e1
        subst e1
        have hrl := hrow.small
        simp only [maxLen] at r4 hrl
        by_cases hkl : k < (row g a).length
        case neg =>
          have HE := Lib.hid (seen_row (g := g) (f := f) (b := b) (a := a) (k := k) (by omega))
          clear hrow hwf
          go_wp2
          go_roundg (g.length - (a + 1))
          case measure => omega
          case rel => exact ⟨a + 1, rfl, by omega, by simp, by congr 1; rw [decide_eq_decide]; exact HE.out, HK⟩
        obtain ⟨x2, rfl, q1, q2, c3⟩ := hrow.at hkl
        simp only [maxLen] at q2
        simp only [vi] at c3
        have HE := Lib.hid (seen_step (g := g) (f := f) (b := b) hlta hkl)
        have HB := Lib.hid (backs_any w5 _ _ (idomL g f) (reachL g f) a b (HD.out.kept HK.out.1) (HR.out.kept HK.out.1) (by rw [Ld.out]; omega) (by rw [Lr.out]; omega) (by rw [Lr.out]; exact hlta))
        clear hrow hwf
        generalize (row g a)[k] = z at *
        generalize backB (idomL g f) (reachL g f) a b = bk at *
        by_cases hs : Seen g f b a k
        · have hd1 : decide (Seen g f b a k) = true := decide_eq_true hs
          have HE2 : Hid (decide (Seen g f b a (k + 1)) = true) := Lib.hid (decide_eq_true (HE.out.2 (.inl hs)))
          rw [hd1]
          clear hs HB HE
          go_wp2
          go_roundg ((row g a).length - (k + 1))
          case measure => omega
          case rel => exact ⟨k + 1, rfl, by omega, by simp, by rw [HE2.out], HK⟩
        have hd1 : decide (Seen g f b a k) = false := decide_eq_false hs
        rw [hd1]
        by_cases hz : z = b
        case neg =>
          have HE2 : Hid (decide (Seen g f b a (k + 1)) = false) := Lib.hid (decide_eq_false fun h => by rcases HE.out.1 h with h | h; exact hs h; exact hz h.1)
          have hzb : (z == (b : Int)) = false := by rw [beq_eq_false_iff_ne]; exact hz
          clear hs HB HE hz
          go_wp2
          go_roundg ((row g a).length - (k + 1))
          case measure => omega
          case rel => exact ⟨k + 1, rfl, by omega, by simp, by rw [HE2.out], HK⟩
        subst hz
        have hzb : ((b : Int) == (b : Int)) = true := by simp
        have HE2 : Hid (decide (Seen g f b a (k + 1)) = bk) := Lib.hid (by
          cases bk
          · exact decide_eq_false fun h => by rcases HE.out.1 h with h | h; exact hs h; exact absurd h.2 (by decide)
          · exact decide_eq_true (HE.out.2 (.inr ⟨rfl, rfl⟩)))
        clear hs HE
        go_wp2_with (go_at_call 32; refine (HB.out).mono ?_; rintro e w' ⟨rfl, rfl⟩)
        go_roundg ((row g a).length - (k + 1))
        case measure => omega
        case rel => exact ⟨k + 1, rfl, by omega, by simp, by rw [HE2.out], HK⟩
end Go.Proofs.YtpkebokfbigggaaDoor.Shp
