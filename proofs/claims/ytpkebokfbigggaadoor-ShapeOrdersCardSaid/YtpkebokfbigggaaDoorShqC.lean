/-
  Package shape: reach, the nodes that ways lead to which go by none of some others.
-/
import Derived.Test.YtpkebokfbigggaaDoorShqB
namespace Go.Proofs.YtpkebokfbigggaaDoor.Shp
open Go.RowKit
open Classical

/-! Plain: the search, by two sets: what is reached, what was looked at. -/
def In (s i : Nat) : Prop := s.testBit i = true
noncomputable def rN (g : Gr) (f : Int) (no : Nat) : Nat := setN g.length fun x => decide (0 ≤ f ∧ RW g f.toNat (In no) x)
structure Sr (g : Gr) (f no x y : Nat) : Prop where
  fl : f < g.length
  bn : no < 2 ^ g.length
  bx : x < 2 ^ g.length
  bt : y < 2 ^ g.length
  sub : ∀ i, In no i → In y i
  st : In x f
  snd : ∀ i, In x i → i = f ∨ ∃ a, RW g f (In no) a ∧ edge g a i
  lk : ∀ i, In y i → In no i ∨ (RW g f (In no) i ∧ ∀ b, edge g i b → In x b)
theorem in_or {x y i : Nat} : In (x ||| y) i ↔ In x i ∨ In y i := by unfold In; rw [Nat.testBit_or, Bool.or_eq_true]
theorem in_pow {k i : Nat} : In (2 ^ k) i ↔ k = i := by unfold In; rw [Nat.testBit_two_pow]; simp
theorem in_lt {x i n : Nat} (h : x < 2 ^ n) (hi : In x i) : i < n := by
  apply Classical.byContradiction
  intro hn
  unfold In at hi
  rw [Nat.testBit_lt_two_pow (Nat.lt_of_lt_of_le h (Nat.pow_le_pow_right (by decide) (by omega)))] at hi
  cases hi
theorem in_setN {n i : Nat} {p : Nat → Bool} : In (setN n p) i ↔ i < n ∧ p i = true := by unfold In; rw [setN_bit]; simp
theorem in_xe {g : Gr} {a b : Nat} : In (xeN g a) b ↔ edge g a b := by
  unfold xeN
  rw [in_setN, decide_eq_true_eq]
  exact ⟨fun h => h.2, fun h => ⟨h.2.1, h⟩⟩
theorem in_less {x y i n : Nat} (hn : n ≤ 64) (hx : x < 2 ^ n) (hy : y < 2 ^ n) : In (lessN x y) i ↔ In x i ∧ ¬ In y i := by
  have e := Nat.pow_le_pow_right (n := 2) (by decide) hn
  unfold In
  rw [lessN_bit (Nat.lt_of_lt_of_le hx e) (Nat.lt_of_lt_of_le hy e)]
  simp
theorem zero_of {x : Nat} (h : ∀ i, ¬ In x i) : x = 0 := Nat.eq_of_testBit_eq fun i => by
  have := h i
  unfold In at this
  simpa using this
theorem not_in_zero (i : Nat) : ¬ In 0 i := by unfold In; simp
theorem pow_lt {k n : Nat} (h : k < n) : 2 ^ k < 2 ^ n := Nat.pow_lt_pow_right (by decide) h
theorem Sr.start {g : Gr} {f no : Nat} (hf : f < g.length) (hn : no < 2 ^ g.length) : Sr g f no (0 ||| 2 ^ f) no :=
  ⟨hf, hn, by rw [Nat.zero_or]; exact pow_lt hf, hn, fun _ h => h, in_or.2 (.inr (in_pow.2 rfl)), fun i hi => by
    rcases in_or.1 hi with h | h
    · exact absurd h (not_in_zero i)
    · exact .inl (in_pow.1 h).symm, fun _ h => .inl h⟩
theorem Sr.re {g : Gr} {f no x y a : Nat} (h : Sr g f no x y) (ha : In x a) (hn : ¬ In no a) : RW g f (In no) a := by
  rcases h.snd a ha with e | ⟨c, h1, h2⟩
  · subst e; exact .start h.fl hn
  · exact .step h1 h2 hn
theorem Sr.step {g : Gr} {f no x y a : Nat} (h : Sr g f no x y) (ha : In x a) (hy : ¬ In y a) : Sr g f no (x ||| xeN g a) (y ||| 2 ^ a) := by
  have hn : ¬ In no a := fun k => hy (h.sub a k)
  have hr := h.re ha hn
  refine ⟨h.fl, h.bn, Nat.or_lt_two_pow h.bx (setN_lt _ _), Nat.or_lt_two_pow h.bt (pow_lt hr.lt), fun i hi => in_or.2 (.inl (h.sub i hi)), in_or.2 (.inl h.st), fun i hi => ?_, fun i hi => ?_⟩
  · rcases in_or.1 hi with k | k
    · exact h.snd i k
    · exact .inr ⟨a, hr, in_xe.1 k⟩
  · rcases in_or.1 hi with k | k
    · rcases h.lk i k with k | ⟨k1, k2⟩
      · exact .inl k
      · exact .inr ⟨k1, fun b hb => in_or.2 (.inl (k2 b hb))⟩
    · rw [in_pow] at k
      subst k
      exact .inr ⟨hr, fun b hb => in_or.2 (.inr (in_xe.2 hb))⟩
theorem Sr.is {g : Gr} {f no x y : Nat} (h : Sr g f no x y) (hg : g.length ≤ 64) (hz : lessN x y = 0) : lessN x no = rN g f no := by
  have hs : ∀ i, In x i → In y i := fun i hi => Classical.byContradiction fun hn => by
    have := (in_less hg h.bx h.bt).2 ⟨hi, hn⟩
    rw [hz] at this
    exact not_in_zero i this
  have hc : ∀ i, RW g f (In no) i → In x i := by
    intro i hi
    induction hi with
    | start _ _ => exact h.st
    | @step a b ha he hb ih =>
      rcases h.lk a (hs a ih) with k | k
      · exact absurd k ha.ok
      · exact k.2 b he
  unfold rN
  refine setN_eq fun i => ?_
  rw [Bool.eq_iff_iff]
  simp only [Bool.and_eq_true, decide_eq_true_eq]
  show In (lessN x no) i ↔ _
  rw [in_less hg h.bx h.bn, Int.toNat_natCast]
  constructor
  · rintro ⟨h1, h2⟩
    exact ⟨in_lt h.bx h1, by omega, h.re h1 h2⟩
  · rintro ⟨_, _, h2⟩
    exact ⟨hc i h2, h2.ok⟩
/-- How many were not looked at yet. -/
def mu (n y : Nat) : Nat := ((List.range n).filter fun i => !y.testBit i).length
theorem mu_lt {n y a : Nat} (ha : a < n) (h : ¬ In y a) : mu n (y ||| 2 ^ a) < mu n y := by
  unfold mu
  refine filter_lt _ _ _ (fun i _ hi => ?_) a (List.mem_range.2 ha) (by unfold In at h; simpa using h) (by rw [or_two_pow_bit]; simp)
  rw [or_two_pow_bit] at hi
  simp only [Bool.not_or, Bool.and_eq_true, Bool.not_eq_true'] at hi
  simp [hi.1]
theorem rN_out {g : Gr} {f : Int} {no : Nat} (h : ¬ (0 ≤ f ∧ f < (g.length : Int))) : rN g f no = 0 := by
  refine setN_none fun i hi => decide_eq_false fun k => h ⟨k.1, ?_⟩
  have : ∀ x, RW g f.toNat (In no) x → f.toNat < g.length := by
    intro x hx
    induction hx with
    | start h _ => exact h
    | step _ _ _ ih => exact ih
  have := this i k.2
  omega
theorem rN_lt (g : Gr) (f : Int) (no : Nat) : rN g f no < 2 ^ g.length := setN_lt _ _

/-! In memory. -/
theorem setRow_alloc (w : World) (a b : Array Value) (t : TypeId) : (w.alloc (.cells a t)).setRow w.heap.size b = w.alloc (.cells b t) := by
  have e : (w.heap.push (.cells a t)).modify w.heap.size (fun | .cells _ t f => .cells b t f | o => o) = w.heap.push (.cells b t) := by
    apply Array.ext (by simp)
    intro i h1 h2
    rw [Array.getElem_modify, Array.getElem_push, Array.getElem_push]
    by_cases hi : i < w.heap.size
    · rw [dif_pos hi, if_neg (by omega)]; rw [dif_pos hi]
    · have : i = w.heap.size := by simp at h2; omega
      rw [dif_neg hi, if_pos this.symm]; rw [dif_neg hi]
  show { w with heap := (w.heap.push (.cells a t)).modify w.heap.size (fun | .cells _ t f => .cells b t f | o => o) } = ({ w with heap := w.heap.push (.cells b t) } : World)
  rw [e]
theorem store_new (w : World) (x : Nat) : (storeCells ⟨w.heap.size, 0, none⟩ (setC x).toList).run Tryd.prog (w.alloc (.cells (setC 0) 42)) = .ok () (w.alloc (.cells (setC x) 42)) := by
  have h := run_storeCells_at Tryd.prog w.heap.size 0 42 (setC x).toList 0 (setC 0) (w.alloc (.cells (setC 0) 42)) (heap_alloc_new _ _) (by simp [setC_size]) (fun v hv => by
    have := setC_one x
    rw [Array.all_eq_true'] at this
    exact this v (by simpa using hv))
  rw [h, List.take_zero, List.nil_append, List.drop_eq_nil_of_le (by simp [setC_size]), List.append_nil, Array.toArray_toList, setRow_alloc]

theorem Kept.trans_chg {S : Nat → Prop} {a b c : World} (h : Kept a b) (k : Chg S b c) (hs : ∀ i, S i → a.heap.size ≤ i) : Kept a c :=
  ⟨k.os.trans h.os, k.tape.trans h.tape, k.output.trans h.output, Nat.le_trans h.size k.size, fun i hi => (k.block i (Nat.lt_of_lt_of_le hi h.size) fun hk => by have := hs i hk; omega).trans (h.block i hi)⟩
structure RcAt (w W : World) (gb b5 b6 b7 b8 : Nat) (g : Gr) (f no x y : Nat) : Prop where
  kept : Kept w W
  low : w.heap.size ≤ b5 ∧ b5 < b6 ∧ b6 < b7 ∧ b7 < b8
  box5 : Box W b5 no
  box6 : Box W b6 0
  box7 : Box W b7 x
  box8 : Box W b8 y
  sr : Sr g f no x y
theorem RcAt.keep {w W W' : World} {gb b5 b6 b7 b8 f no x y : Nat} {g : Gr} (h : RcAt w W gb b5 b6 b7 b8 g f no x y) (hk : Kept W W') : RcAt w W' gb b5 b6 b7 b8 g f no x y :=
  ⟨h.kept.trans hk, h.low, h.box5.kept hk, h.box6.kept hk, h.box7.kept hk, h.box8.kept hk, h.sr⟩
theorem xeL_at {g : Gr} {a : Nat} (h : a < (xeL g).length) : (xeL g)[a] = xeN g a := by simp [xeL]
theorem xeL_len (g : Gr) : (xeL g).length = g.length := by simp [xeL]
set_option maxRecDepth 100000 in
set_option maxHeartbeats 4000000 in
theorem greach_any (w : World) (gb : Nat) (g : Gr) (f : Int) (no : Nat) (hg : Gs w gb (xeL g)) (hl : g.length ≤ 30) (hno : no < 2 ^ g.length) (hT : Tab w) :
    Calls Tryd.prog 24 #[.slice (some ⟨gb, 0, none⟩) g.length g.length, .int .i64 f, .agg (setC no)] w fun e w' => e = .returned (.agg (setC (rN g f no))) ∧ Hid (Kept w w') := by
  have HWi := Lib.hid (fun W => within_any W f g.length)
  have HT0 := Lib.hid (two_new w no 0)
  by_cases hin : 0 ≤ f ∧ f < (g.length : Int)
  case neg =>
    rw [decide_eq_false hin] at HWi
    rw [rN_out hin]
    clear hin hT hno hg
    go_enter Tryd.func24, Tryd.ntmps24
    go_wp2
    go_step3
    go_upto_region 2 with fail
    rw [← setC_zero]
    generalize ((w.alloc (.cells (setC no) 42)).alloc (.cells (setC 0) 42)).alloc (.cells (setC 0) 42) = w1 at *
    generalize hb5 : w.heap.size = b5 at *
    generalize hb6 : b5 + 1 = b6 at *
    generalize hb7 : b6 + 1 = b7 at *
    have HB7 := HT0.out.res
    have HB6 := HT0.out.other
    have HR2 : (w1.setRow b6 (setC 0)).heap[b6]? = some (.cells (setC 0) 42 (0, 0)) := setRow_heap w1 b6 _ _ _ _ HB6
    have HKr := Lib.hid (show Kept w (w1.setRow b6 (setC 0)) from kept_row HT0.out.kept (by omega) HB6)
    clear HT0 hb5 hb6 hb7
    go_wp2_with (first | (go_at_call 30; refine (HWi.out _).mono ?_; rintro e w2 ⟨rfl, rfl⟩) | (refine wpList_load_row rfl _ _ rfl b7 rfl 42 (setC 0) (0, 0) _ HB7 Tryd.underlying42 rfl (info42 0) ?_) | (refine wpList_store_row rfl _ _ _ rfl b6 (setC 0) rfl rfl 42 (setC 0) HB6 (info42 0) (by rw [setC_size]) (setC_one 0) ?_))
    rw [Exit.noGoto_ret]
    refine bodyPost_ret (results_cell_row rfl _ _ b6 42 (setC 0) (0, 0) _ rfl HR2 Tryd.underlying42 rfl (info42 0)) rfl ⟨rfl, HKr⟩
  case pos =>
    obtain ⟨q, rfl⟩ : ∃ q : Nat, f = q := ⟨f.toNat, by omega⟩
    have hq : q < g.length := by omega
    rw [decide_eq_true hin] at HWi
    obtain ⟨z, hz⟩ : ∃ z, rN g q no = z := ⟨_, rfl⟩
    rw [hz]
    have HZ := Lib.hid hz
    have HS0 := Lib.hid (Sr.start hq hno)
    have HG := Lib.hid hg
    have HT := Lib.hid hT
    clear hin hT hno hg hz
    go_enter Tryd.func24, Tryd.ntmps24
    go_wp2
    go_step3
    go_upto_region 2 with fail
    rw [← setC_zero]
    generalize ((w.alloc (.cells (setC no) 42)).alloc (.cells (setC 0) 42)).alloc (.cells (setC 0) 42) = w1 at *
    generalize hb5 : w.heap.size = b5 at *
    generalize hb6 : b5 + 1 = b6 at *
    generalize hb7 : b6 + 1 = b7 at *
    have HA := Lib.hid (box_add w1 b7 0 q (by omega) (by omega) HT0.out.res)
    clear hb5
    go_upto_region 5 with (first | (go_at_call 30; refine (HWi.out _).mono ?_; rintro e w2 ⟨rfl, rfl⟩) | (go_at_call 35; refine (HA.out).mono ?_; rintro e w5 ⟨rfl, H5⟩))
    obtain ⟨hl5, hl6, hl7⟩ : w.heap.size ≤ b5 ∧ b5 < b6 ∧ b6 < b7 := by have := HT0.out.low; omega
    have hl8 : b7 < w5.heap.size := Nat.lt_of_lt_of_le HT0.out.res.lt H5.out.1.size
    have HK5 : Kept w w5 := Kept.trans_chg HT0.out.kept H5.out.1 (by intro i e; omega)
    have HB5 := HT0.out.box.chg H5.out.1 (by omega)
    have HB6 := HT0.out.other.chg H5.out.1 (by omega)
    have HB7 := H5.out.2
    have hst : Hid (RcAt w (w5.alloc (.cells (setC no) 42)) gb b5 b6 b7 w5.heap.size g q no (0 ||| 2 ^ q) no) := Lib.hid ((⟨HK5.alloc _, ⟨hl5, hl6, hl7, hl8⟩, HB5.kept ((Kept.refl _).alloc _), HB6.kept ((Kept.refl _).alloc _), HB7.kept ((Kept.refl _).alloc _), Box.new _ _, HS0.out⟩))
    clear HT0 H5 HA HWi HB6 HB7 HK5 hl5 hl6 hl7 hb6 hb7
    have hsc := store_new w5 no
    rw [setC_zero] at hsc
    go_wp2_with (refine wpList_load_row rfl _ _ rfl b5 rfl 42 (setC no) (0, 0) _ HB5 Tryd.underlying42 rfl (info42 no) ?_)
    clear hsc HB5
    generalize w5.alloc (.cells (setC no) 42) = w6 at *
    generalize w5.heap.size = b8 at *
    clear hl8
    go_step3
    go_wp2
    go_loopg [21] (mu g.length no) (fun m i wz => ∃ x y, m = mu g.length y ∧ Hid (RcAt w wz gb b5 b6 b7 b8 g q no x y))
    case atStart => exact ⟨_, _, rfl, hst⟩
    case round =>
      clear hst
      rename World => wo
      obtain ⟨x, y, rfl, HK⟩ := hrel
      have hst : Hid (RcAt w wo gb b5 b6 b7 b8 g q no x y ∧ (0 < 0 → lessN x y = 0)) := Lib.hid ⟨HK.out, fun h => absurd h (by decide)⟩
      clear HK
      go_wp2
      go_loopg [21] (32) (fun m i wz => ∃ k : Nat, m = 32 - k ∧ k ≤ 32 ∧ i = .int .i64 (k : Int) ∧ Hid (RcAt w wz gb b5 b6 b7 b8 g q no x y ∧ (0 < k → lessN x y = 0)))
      case atStart => exact ⟨0, by omega, by omega, rfl, hst⟩
      case round =>
        clear hst
        obtain ⟨k, rfl, hk, rfl, HK⟩ := hrel
        by_cases hlt : k < 32
        case neg =>
          obtain rfl : k = 32 := by omega
          have hz := HK.out.2 (by decide)
          have HB7 := HK.out.1.box7
          have HB5 := HK.out.1.box5
          have HB6 := HK.out.1.box6
          have hx2 := HK.out.1.sr.bx
          have hn2 := HK.out.1.sr.bn
          have e2 := Nat.pow_le_pow_right (n := 2) (by decide) (show g.length ≤ 32 by omega)
          have HLs := Lib.hid (less_any wr x no (by omega) (by omega))
          rw [HK.out.1.sr.is (by omega) hz, HZ.out] at HLs
          have HKr := Lib.hid (fun W (h : Kept wr W) => (show Kept w (W.setRow b6 (setC z)) ∧ (W.setRow b6 (setC z)).heap[b6]? = some (.cells (setC z) 42 (0, 0)) from ⟨kept_row (HK.out.1.kept.trans h) (by have := HK.out.1.low; omega) (HB6.kept h), setRow_heap W b6 _ _ _ _ (HB6.kept h)⟩))
          clear HK hz hx2 hn2 e2 HT HG
          go_wp2_with (first | (refine wpList_load_row rfl _ _ rfl b7 rfl 42 (setC x) (0, 0) _ HB7 Tryd.underlying42 rfl (info42 x) ?_) | (refine wpList_load_row rfl _ _ rfl b5 rfl 42 (setC no) (0, 0) _ HB5 Tryd.underlying42 rfl (info42 no) ?_) | (go_at_call 38; refine (HLs.out).mono ?_; rintro e w7 ⟨rfl, H7⟩; have HB6' := HB6.kept H7) | (refine wpList_store_row rfl _ _ _ rfl b6 (setC z) rfl rfl 42 (setC 0) HB6' (info42 z) (by rw [setC_size, setC_size]) (setC_one z) ?_))
          rw [Exit.noGoto_ret]
          refine bodyPost_ret (results_cell_row rfl _ _ b6 42 (setC z) (0, 0) _ rfl (HKr.out w7 H7).2 Tryd.underlying42 rfl (info42 z)) rfl ⟨rfl, Lib.hid (HKr.out w7 H7).1⟩
        case pos =>
          have hxb := HK.out.1.sr.bx
          have hyb := HK.out.1.sr.bt
          have e2 := Nat.pow_le_pow_right (n := 2) (by decide) (show g.length ≤ 32 by omega)
          obtain ⟨c7, -⟩ := HK.out.1.box7.at k hlt
          obtain ⟨c8, -⟩ := HK.out.1.box8.at k hlt
          rw [Nat.zero_add] at c7 c8
          have hop : bits .andNot .u64 ((wd x k : Nat) : Int) ((wd y k : Nat) : Int) = ((wd (lessN x y) k : Nat) : Int) := by
            have h1 := wd_lt (i := k) (n := 32) (Nat.lt_of_lt_of_le hxb e2)
            have h2 := wd_lt (i := k) (n := 32) (Nat.lt_of_lt_of_le hyb e2)
            rw [bits_andNot (by omega) (by omega), wd_less]
          have hw0 : IntKind.i64.wrap (k : Int) = (k : Int) := IntWalk.i64_in _ (by omega)
          by_cases hfr : wd (lessN x y) k = 0
          · have hz : 0 < k + 1 → lessN x y = 0 := fun _ => by
              by_cases h0 : k = 0
              · subst h0; exact hfr
              · exact HK.out.2 (by omega)
            have HZ2 := Lib.hid hz
            rw [hfr] at hop
            clear hfr hz hxb hyb e2
            go_wp2
            go_quiet (fail)
            go_wp2
            go_roundg (32 - (k + 1))
            case measure => omega
            case rel => exact ⟨k + 1, rfl, by omega, by simp, Lib.hid ⟨HK.out.1.keep ((Kept.refl wr).drewN nq), HZ2.out⟩⟩
          · have h0 : k = 0 := Classical.byContradiction fun h => hfr (by rw [wd_pos _ (by omega)])
            subst h0
            simp only [wd_zero] at hfr hop c7 c8
            have hfl : lessN x y < 2 ^ g.length := lessN_lt hxb
            obtain ⟨l1, l2, -, -⟩ := low_bits hfr (by omega)
            obtain ⟨a, ha⟩ : ∃ a, Lib.ctz 64 (lessN x y) = a := ⟨_, rfl⟩
            have Htz := Lib.hid (fun W hT => tz_any W (lessN x y) (by omega) hfr hT)
            rw [ha] at l1 l2 Htz
            obtain ⟨i1, i2⟩ := (in_less (by omega) hxb hyb).1 l2
            have hal : a < g.length := in_lt hxb i1
            have hmu := mu_lt hal i2
            have HSn := Lib.hid (HK.out.1.sr.step i1 i2)
            have HA8 := Lib.hid (fun W hb => box_add W b8 y a (by omega) l1 hb)
            have HJ7 := Lib.hid (fun W hb hc => join_any W b7 gb (a * 32) x (xeN g a) (by omega) (Nat.lt_of_lt_of_le (setN_lt _ _) e2) hb hc (by have := HG.out.lt; have := HK.out.1.low; omega))
            have hne : ((lessN x y : Nat) : Int) ≠ 0 := by omega
            have hne' : (((lessN x y : Nat) : Int) == 0) = false := by rw [beq_eq_false_iff_ne]; exact hne
            have HGa := Lib.hid (show SetAt w gb (a * 32) (xeN g a) from by
              have := HG.out.at (j := a) (by rw [xeL_len]; exact hal)
              rwa [xeL_at] at this)
            generalize lessN x y = fr at *
            clear hfl l2 i1 i2 ha hxb hyb hfr hne
            go_wp2
            go_quiet (fail)
            have HQ := Lib.hid (HK.out.1.keep ((Kept.refl wr).drewN nq))
            clear c7 c8 HK hop
            generalize wr.drewN nq = wq at *
            have HTq := Lib.hid (HT.out.kept HQ.out.kept)
            go_upto_region 12 with (go_at_call 36; refine (Htz.out _ HTq.out).mono ?_; rintro e w7 ⟨rfl, rfl⟩)
            clear Htz
            have HGq := Lib.hid (HGa.out.chg (Chg.of_kept (S := fun _ => False) HQ.out.kept) id)
            have hgb := HG.out.lt
            go_wp2_with (first | (go_at_call 35; refine (HA8.out _ HQ.out.box8).mono ?_; rintro e w8 ⟨rfl, H8⟩; have H7b := Lib.hid (HQ.out.box7.chg H8.out.1 (by have := HQ.out.low; omega)); have H7g := Lib.hid (HGq.out.chg H8.out.1 (by have := HQ.out.low; omega))) | (go_at_call 37; refine (HJ7.out _ H7b.out H7g.out).mono ?_; rintro e w9 ⟨rfl, H9⟩))
            have HN : Hid (RcAt w w9 gb b5 b6 b7 b8 g q no (x ||| xeN g a) (y ||| 2 ^ a)) := by
              obtain ⟨q1, q2, q3, q4, q5, q6, q7⟩ := HQ.out
              have h8 := H8.out
              have h9 := H9.out
              exact Lib.hid ⟨Kept.trans_chg (Kept.trans_chg q1 h8.1 (by intro i e; omega)) h9.1 (by intro i e; omega), q2, (q3.chg h8.1 (by omega)).chg h9.1 (by omega), (q4.chg h8.1 (by omega)).chg h9.1 (by omega), h9.2, h8.2.chg h9.1 (by omega), HSn.out⟩
            go_roundg (mu g.length (y ||| 2 ^ a))
            case measure => exact hmu
            case rel => exact ⟨_, _, rfl, HN⟩
end Go.Proofs.YtpkebokfbigggaaDoor.Shp
