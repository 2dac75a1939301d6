/-
  Package eval: kidsFirst over a reckoner's spots: all that the root hangs on is told.
  Package eval: Value: what the node at a place has (valA), of any list whose kids stand ahead.
  Statements of layer 8: Names (the binds of a program's names), nodes (a text's nodes), where the text can be read.
  Statements of layer 8: Both (two memories with the same values): what its rows are, as a plain function. No program's step is named here.
  Statements of layer 8: Both: a memory with these values, here and as it should be (bothF).
  Statements of layer 8: what their texts are read as, what the nodes of these texts have, by what the names have and had (bothF); awake.
  What eval.Test tells, as a plain function on the list (tstF: each condition by its kids), and the state of a walk that goes kids first (OkJ). No program's step is named here.
  Package eval's judge in memory (Jd), and its methods told, enter, undecided.
  Package eval's judge: enter, undecided, newJudge.
  Package eval's judge: openKid.
  Package eval: whole (what an expression has at its root), meet of two answers, relation.
  Package eval's judge: close.
  Package eval: newJudge, kidsFirst over a judge's places, Test: what the condition at a place has (tstA), of any list whose kids stand ahead.
  Statements of layer 8: numbers that were just made as a slice; a list of conditions of one's own; what the texts of EvalMixed and EvalShort are read as, and what they have.
-/
import Derived.Test.YthjnkjekidagiaaEvH
import Derived.Deep.AppendLies
import Derived.Test.YthjnkjekidagiaaEvJ
import Derived.Test.YthjnkjekidagiaaStRd
import Derived.Test.YthjnkjekidagiaaMemT
import Derived.Deep.CutBlock
import Derived.Deep.CutRange
import Derived.Test.YthjnkjekidagiaaEvP
import Derived.Test.YthjnkjekidagiaaEvD
import Derived.Test.YthjnkjekidagiaaOrd
namespace Go.Proofs.Ythjnkjekidagiaa.Evl
open Go.RowKit
open Prs (Ex)
open Fnd (bx_cell bx_froz)
section
variable {w0 w w' : World} {q : Nat} {lv mv bv ov obv : Value} {l : List Ex} {E : Env} {g h : Nat → Nat} {e : Nat → List Bool} {a : Nat → List Ans}
theorem openKid_any (H : Rk w0 w q lv mv bv ov obv l E g h e a) {s : Nat × Nat} {st : List (Nat × Nat)} (hO : Ok l E e a (s :: st)) (hD : Down l) (hi : s.1 < l.length) (ht : s.2 < 2) :
    Calls Try.prog 87 #[.pointer (some ⟨q, 0, none⟩), .agg #[.int .i64 (s.1 : Int), .int .i64 (s.2 : Int)]] w fun x w' => ∃ (k0 k1 : Int) (b : Bool), x = .returned (.tuple #[.agg #[.int .i64 k0, .int .i64 k1], .bool b]) ∧
      Hid (Rpr.Chg (Own2 g h) w w' ∧ ((b = true ∧ ∃ i t : Nat, k0 = (i : Int) ∧ k1 = (t : Int) ∧ Rk w0 w' q lv mv bv ov obv l E g h (updF e (i, t) true) (updF a (i, t) Ans.none) ∧ Ok l E (updF e (i, t) true) (updF a (i, t) Ans.none) ((i, t) :: s :: st) ∧ left (updF e (i, t) true) ((i, t) :: s :: st) < left e (s :: st)) ∨
        (b = false ∧ Rk w0 w' q lv mv bv ov obv l E g h e a ∧ Past l e (kidA l[s.1] s.2) ∧ Past l e (kidB l[s.1] s.2)))) := by
  have hta := kidA_t l[s.1] ht
  have htb := kidB_t l[s.1] ht
  have hla := kidA_lt hD hi s.2
  have hlb := kidB_lt hD hi s.2
  have push : ∀ {k : Int × Nat}, Open l e k → k.2 < 2 → k.1 < s.1 → k = ((k.1.toNat : Int), k.2) ∧ Ok l E (updF e (k.1.toNat, k.2) true) (updF a (k.1.toNat, k.2) Ans.none) ((k.1.toNat, k.2) :: s :: st) ∧ left (updF e (k.1.toNat, k.2) true) ((k.1.toNat, k.2) :: s :: st) < left e (s :: st) := by
    rintro k ⟨i, h0, h1, h2⟩ h3 h4
    have hk : k.1.toNat = i := by omega
    refine ⟨Prod.ext (by show k.1 = ((k.1.toNat : Nat) : Int); omega) rfl, ?_, ?_⟩
    · rw [hk]
      refine hO.push h1 h3 fun x hx => ?_
      rcases List.mem_cons.1 hx with rfl | hx
      · show i < _; omega
      · have := hO.falls.1 x hx
        show i < _; omega
    · rw [hk]; exact left_push h3 h2
  rcases open_or l e (kidA l[s.1] s.2) with ho | hp
  · refine (openKid_a H hi ht ho).mono ?_
    rintro x w1 ⟨rfl, h1⟩
    obtain ⟨p0, p1, p2⟩ := push ho hta hla
    exact ⟨_, _, true, rfl, Lib.hid ⟨h1.out.2, .inl ⟨rfl, _, _, by rw [p0]; simp, rfl, h1.out.1, p1, p2⟩⟩⟩
  rcases open_or l e (kidB l[s.1] s.2) with ho | hp2
  · refine (openKid_b H hi ht hp ho).mono ?_
    rintro x w1 ⟨rfl, h1⟩
    obtain ⟨p0, p1, p2⟩ := push ho htb hlb
    exact ⟨_, _, true, rfl, Lib.hid ⟨h1.out.2, .inl ⟨rfl, _, _, by rw [p0]; simp, rfl, h1.out.1, p1, p2⟩⟩⟩
  · refine (openKid_no H hi ht hp hp2).mono ?_
    rintro x w1 ⟨rfl, h1⟩
    exact ⟨_, _, false, rfl, Lib.hid ⟨Rpr.Chg.of_kept h1, .inr ⟨rfl, H.keep h1, hp, hp2⟩⟩⟩
theorem close_done (H : Rk w0 w q lv mv bv ov obv l E g h e a) {s : Nat × Nat} {st : List (Nat × Nat)} (hO : Ok l E e a (s :: st)) (hD : Down l) (hi : s.1 < l.length) (ht : s.2 < 2) (hp : Past l e (kidA l[s.1] s.2)) (hp2 : Past l e (kidB l[s.1] s.2)) :
    Calls Try.prog 88 #[.pointer (some ⟨q, 0, none⟩), .agg #[.int .i64 (s.1 : Int), .int .i64 (s.2 : Int)]] w fun x w' => (∃ v, x = .returned v) ∧
      Hid (Rk w0 w' q lv mv bv ov obv l E g h e (updF a s (valA l E ((s.1 : Int), s.2))) ∧ Ok l E e (updF a s (valA l E ((s.1 : Int), s.2))) st ∧ Rpr.Chg (Own2 g h) w w') := by
  refine (close_any H hi ht).mono ?_
  rintro x w1 ⟨hx, h1⟩
  refine ⟨hx, Lib.hid ⟨?_, hO.pop, h1.out.2⟩⟩
  have h2 := h1.out.1
  rw [hO.told (kidA_lt hD hi s.2) (kidA_t _ ht) hp, hO.told (kidB_lt hD hi s.2) (kidB_t _ ht) hp2, ← valA_at hD hi] at h2
  exact h2

def stC (st : List (Nat × Nat)) : List Value := st.reverse.flatMap fun s => [.int .i64 (s.1 : Int), .int .i64 (s.2 : Int)]
theorem stC_cons (s : Nat × Nat) (st : List (Nat × Nat)) : stC (s :: st) = stC st ++ [.int .i64 (s.1 : Int), .int .i64 (s.2 : Int)] := by simp [stC]
theorem stC_len (st : List (Nat × Nat)) : (stC st).length = st.length * 2 := by
  induction st with
  | nil => rfl
  | cons s st ih => rw [stC_cons]; simp [ih]; omega
/-- A walk of kidsFirst under way. -/
structure KfAt (w0 ws w : World) (q : Nat) (lv mv bv ov obv : Value) (l : List Ex) (E : Env) (g h : Nat → Nat) (r : Nat × Nat) (e : Nat → List Bool) (a : Nat → List Ans) (st : List (Nat × Nat)) (v : Value) : Prop where
  rk : Rk w0 w q lv mv bv ov obv l E g h e a
  own : w.ownsRow ws.heap.size 139 2 v st.length (stC st)
  chg : Rpr.Chg (Own2 g h) ws w
  ok : Ok l E e a st
  root : markF e r = true
  small : left e st ≤ 40000
theorem KfAt.top {ws : World} {r : Nat × Nat} {s : Nat × Nat} {st : List (Nat × Nat)} {v : Value} (H : KfAt w0 ws w q lv mv bv ov obv l E g h r e a (s :: st) v) :
    ∃ b cap, v = .slice (some ⟨b, 0, none⟩) (st.length + 1) cap ∧ st.length + 1 ≤ cap ∧ cap ≤ maxLen ∧ w.cell? ⟨b, st.length * 2, none⟩ = some (.int .i64 (s.1 : Int)) ∧ w.cell? ⟨b, st.length * 2 + 1, none⟩ = some (.int .i64 (s.2 : Int)) := by
  obtain ⟨_, h2⟩ := H.own
  rcases h2 with ⟨_, h0⟩ | ⟨b, cap, cur, hv, hg, hh, hn, hcap, hsz, htake⟩
  · cases h0
  · have hc : ∀ j, j < 2 → cur[st.length * 2 + j]? = (stC (s :: st))[st.length * 2 + j]? := by
      intro j hj
      rw [← htake, List.getElem?_take, if_pos (by simp only [List.length_cons]; omega)]; simp
    refine ⟨b, cap, by rw [hv]; simp, by simpa using hn, hcap, bx_cell hh _ _ ?_, bx_cell hh _ _ ?_⟩
    · have := hc 0 (by omega)
      rw [Nat.add_zero] at this
      rw [this, stC_cons, List.getElem?_append_right (by rw [stC_len]; omega), stC_len]; simp
    · rw [hc 1 (by omega), stC_cons, List.getElem?_append_right (by rw [stC_len]; omega), stC_len]; simp
theorem row_chg {S : Nat → Prop} {base n size : Nat} {t : TypeId} {v : Value} {xs : List Value} (h : w.ownsRow base t size v n xs) (hc : Rpr.Chg S w w') (hn : ∀ b c, w.heap[b]? = some (.cells c t (0, 0)) → ¬ S b) : w'.ownsRow base t size v n xs := by
  refine ⟨h.1, ?_⟩
  rcases h.2 with h2 | ⟨b, cap, c, rfl, h1, h2, h3⟩
  · exact .inl h2
  · exact .inr ⟨b, cap, c, rfl, h1, hc.heap h2 (hn b c h2), h3⟩
theorem Rk.row (H : Rk w0 w q lv mv bv ov obv l E g h e a) (hC : Rpr.Chg (Own2 g h) w w') {base n : Nat} {v : Value} {xs : List Value} (h : w.ownsRow base 139 2 v n xs) : w'.ownsRow base 139 2 v n xs :=
  row_chg h hC fun b c hb => by
    rintro ⟨s, hs, rfl | rfl⟩
    · exact hne hb (H.eb s hs) (by decide) rfl
    · exact hne hb (H.ab s hs) (by decide) rfl
/-- The stack grows: the reckoner stays. -/
theorem Rk.grown (H : Rk w0 w q lv mv bv ov obv l E g h e a) {v : Value} (hg : w.grownBy w' v.ownBlock) {base n : Nat} {xs : List Value} (hr : w.ownsRow base 139 2 v n xs) (hb : w0.heap.size ≤ base) : Rk w0 w' q lv mv bv ov obv l E g h e a := by
  have ty : ∀ k, v.ownBlock = some k → base ≤ k ∧ ∃ c, w.heap[k]? = some (.cells c 139 (0, 0)) := by
    intro k hk
    rcases hr.2 with ⟨h2, _⟩ | ⟨b, cap, c, rfl, h1, h2, h3⟩
    · subst h2; cases hk
    · cases hk; exact ⟨h1, c, h2⟩
  have st : ∀ {k : Nat} {c : Array Value} {t : TypeId}, w.heap[k]? = some (.cells c t (0, 0)) → t ≠ 139 → w'.heap[k]? = some (.cells c t (0, 0)) := by
    intro k c t hk hn
    refine (hg.block k (Array.getElem?_eq_some_iff.1 hk).1 fun e => ?_).trans hk
    obtain ⟨_, c', hc'⟩ := ty k e.symm
    exact hne hk hc' hn rfl
  have hc : Rpr.Chg (fun k => v.ownBlock = some k) w0 w' := (Rpr.Chg.of_kept H.kept).grown hg fun _ _ h => h
  refine ⟨hc.kept fun i hi hs => ?_, H.loq, H.log, st H.box (by decide), fun s hs => st (H.eb s hs) (by decide), fun s hs => st (H.ab s hs) (by decide), H.el, H.al, H.ne, H.list, H.env⟩
  have := (ty i hs).1
  omega
theorem spot_info : (Try.prog.info? 139).map (fun i => (i.zero, i.size, i.bytes)) = some (some (.agg #[.int .i64 0, .int .i64 0]), 2, 16) := by kernel_rfl
set_option maxRecDepth 100000 in
set_option maxHeartbeats 4000000 in
theorem kf_any (H : Rk w0 w q lv mv bv ov obv l E g h e a) {r0 r1 : Nat} (hO : Ok l E e a [(r0, r1)]) (hD : Down l) (hsm : left e [(r0, r1)] ≤ 40000) :
    Calls Try.prog 86 #[.agg #[.int .i64 (r0 : Int), .int .i64 (r1 : Int)], .func (.func 87) #[.pointer (some ⟨q, 0, none⟩)] #[], .func (.func 88) #[.pointer (some ⟨q, 0, none⟩)] #[]] w fun x w' => x = .returned (.tuple #[]) ∧
      Hid (∃ e' a', Rk w0 w' q lv mv bv ov obv l E g h e' a' ∧ Ok l E e' a' [] ∧ markF e' (r0, r1) = true ∧ Rpr.Chg (Own2 g h) w w') := by
  obtain ⟨i0, hi0, hz0, hz1, hz2⟩ := info_parts spot_info
  have Hi := Lib.hid (And.intro hi0 (And.intro hz0 (And.intro hz1 hz2)))
  clear hi0 hz0 hz1 hz2
  have hm0 := (hO.on (r0, r1) (by simp)).2.2
  have H0 := Lib.hid (And.intro H (And.intro hO (And.intro hm0 hsm)))
  have HD := Lib.hid hD
  have hlo := Below.size H.kept
  clear H hO hm0 hsm hD
  go_enter Try.func86, Try.ntmps86
  go_wp2
  obtain ⟨x0, x1, kW⟩ := two w (.cells #[.int .i64 (r0 : Int), .int .i64 (r1 : Int)] 139) (.cells #[.int .i64 (r0 : Int), .int .i64 (r1 : Int)] 139)
  have hst : Hid (KfAt w0 w ((w.alloc (.cells #[.int .i64 (r0 : Int), .int .i64 (r1 : Int)] 139)).alloc (.cells #[.int .i64 (r0 : Int), .int .i64 (r1 : Int)] 139)) q lv mv bv ov obv l E g h (r0, r1) e a [(r0, r1)] (.slice (some ⟨w.heap.size + 1, 0, none⟩) 1 1)) :=
    Lib.hid ⟨H0.out.1.keep kW, ⟨by simp [stC], .inr ⟨w.heap.size + 1, 1, _, rfl, by omega, x1, by simp, by simp [maxLen], by simp, by simp [stC]⟩⟩, Rpr.Chg.of_kept kW, H0.out.2.1, H0.out.2.2.1, H0.out.2.2.2⟩
  clear x0 x1 kW H0
  go_loopg [6] (left e [(r0, r1)]) (fun k v wx => ∃ st e' a', k = left e' st ∧ Hid (KfAt w0 w wx q lv mv bv ov obv l E g h (r0, r1) e' a' st v))
  case atStart => exact ⟨[(r0, r1)], e, a, rfl, hst⟩
  case round =>
    obtain ⟨st, e', a', rfl, HK⟩ := hrel
    clear hst
    cases st with
    | nil =>
      obtain ⟨x, c, rfl⟩ : ∃ x c, u6 = .slice x 0 c := by
        rcases HK.out.own.2 with ⟨h2, _⟩ | ⟨b, cap, cur, h2, _⟩
        · exact ⟨none, 0, h2⟩
        · exact ⟨_, _, h2⟩
      go_wp2
      exact bodyPost_end (results_none rfl _ _ _) rfl ⟨rfl, Lib.hid ⟨e', a', HK.out.rk, HK.out.ok, HK.out.root, HK.out.chg⟩⟩
    | cons s st =>
      obtain ⟨b, cap, rfl, hcap, hmax, c0, c1⟩ := HK.out.top
      obtain ⟨hs1, hs2, hs3⟩ := HK.out.ok.on s (by simp)
      simp only [maxLen] at hmax
      have hsl : st.length ≤ 40000 := by have := HK.out.small; unfold left at this; simp at this; omega
      go_upto_region 4 with fail
      have y0 := World.alloc_heap_new wr (.cells #[.int .i64 (s.1 : Int), .int .i64 (s.2 : Int)] 139)
      have k1 := (Kept.refl wr).alloc (.cells #[.int .i64 (s.1 : Int), .int .i64 (s.2 : Int)] 139)
      generalize wr.alloc (.cells #[.int .i64 (s.1 : Int), .int .i64 (s.2 : Int)] 139) = W1 at *
      generalize wr.heap.size = tp at *
      have HR1 := Lib.hid (HK.out.rk.keep k1)
      have Hw1 := Lib.hid (row_chg (S := fun _ => False) HK.out.own (Rpr.Chg.of_kept k1) fun _ _ _ => id)
      have HO := Lib.hid HK.out.ok
      have HS := Lib.hid (And.intro HK.out.root HK.out.small)
      have HG := Lib.hid (HK.out.chg.keep k1)
      have t0 := bx_cell y0 0 _ rfl
      have t1 := bx_cell y0 1 _ rfl
      have Y := Lib.hid y0
      clear y0 k1 c0 c1 HK
      have HC := Lib.hid (openKid_any HR1.out HO.out HD.out hs1 hs2)
      go_upto_region 5 with (go_at_call 87; refine (HC.out).mono ?_; rintro e2 w2 ⟨k0, k1, bb, rfl, H2⟩; have y2 := HR1.out.stay H2.out.1 Y.out (by decide) (by decide); have t0' := bx_cell y2 0 _ rfl; have t1' := bx_cell y2 1 _ rfl; have Y2 := Lib.hid y2; clear y2 HC)
      have y3 := World.alloc_heap_new w2 (.cells #[.int .i64 k0, .int .i64 k1] 139)
      have k3 := (Kept.refl w2).alloc (.cells #[.int .i64 k0, .int .i64 k1] 139)
      generalize w2.alloc (.cells #[.int .i64 k0, .int .i64 k1] 139) = W3 at *
      generalize w2.heap.size = kb at *
      have u0 := bx_cell y3 0 _ rfl
      have u1 := bx_cell y3 1 _ rfl
      have tp3 := kh Y2.out k3
      clear t0' t1' t0 t1
      have t0 := bx_cell tp3 0 _ rfl
      have t1 := bx_cell tp3 1 _ rfl
      have Hw3 := Lib.hid (row_chg (S := fun _ => False) (HR1.out.row H2.out.1 Hw1.out) (Rpr.Chg.of_kept k3) fun _ _ _ => id)
      have HG3 := Lib.hid ((HG.out.then H2.out.1).keep k3)
      clear y3 tp3 Y Y2 Hw1
      obtain ⟨-, hd2⟩ := H2.out
      rcases hd2 with ⟨rfl, i, t, rfl, rfl, R2, O2, L2⟩ | ⟨rfl, R2, p1, p2⟩
      · have HR2 := Lib.hid (R2.keep k3)
        have HO2 := Lib.hid (And.intro O2 L2)
        have hil := (O2.on (i, t) (by simp)).1
        have hit := (O2.on (i, t) (by simp)).2.1
        clear R2 O2 L2 k3 H2 HR1
        go_wp2_with (at_builtin; refine wpList_append_lies _ rfl (.tmp 28) (.tmp 30) 156 rfl w.heap.size 139 i0 _ 2 16 Try.underlying156 Hi.out.1 Hi.out.2.1 Hi.out.2.2.1 Hi.out.2.2.2 rfl (by omega) (.slice (some ⟨b, 0, none⟩) (st.length + 1) cap) (st.length + 1) (stC (s :: st)) rfl (Hw3.out.alloc _) ⟨W3.heap.size, 0, none⟩ 1 1 [.int .i64 (i : Int), .int .i64 (t : Int)] rfl rfl (World.news_of_block (cs := #[.int .i64 (i : Int), .int .i64 (t : Int)]) (heap_alloc_new W3 _)) (by simp [Value.oneCell']) (by omega) (by simp only [maxLen]; omega) (by omega) (by have := HG3.out.size; simp; omega) (W3.heap.size + 1) (by simp) ?_; intro ga cap7 w7 hown hgrow hat hlt7; have Hown7 := Lib.hid hown; have Hgrow := Lib.hid hgrow; clear hown hgrow hat)
        go_roundg (left (updF e' (i, t) true) ((i, t) :: s :: st))
        case measure => exact HO2.out.2
        case rel =>
          refine ⟨(i, t) :: s :: st, _, _, rfl, Lib.hid ⟨?_, ?_, ?_, HO2.out.1, ?_, ?_⟩⟩
          · exact (HR2.out.keep ((Kept.refl W3).alloc _)).grown Hgrow.out (Hw3.out.alloc _) hlo
          · have := Hown7.out
            rw [← stC_cons (i, t)] at this
            exact this
          · refine (HG3.out.alloc _).grown Hgrow.out fun k hk he => ?_
            rcases Hw3.out.2 with ⟨h2, _⟩ | ⟨b', cap', c', h2, h3, _⟩
            · cases h2
            · injection h2 with h2; injection h2 with h2; injection h2 with h2
              have : b = k := by simpa [Value.ownBlock] using he
              omega
          · rw [mark_upd (by show i < (e' t).length; rw [HO.out.el t hit]; exact hil)]
            split
            · rfl
            · exact HS.out.1
          · have := HO2.out.2
            have := HS.out.2
            omega
      · have HR2 := Lib.hid (R2.keep k3)
        have HC := Lib.hid (close_done HR2.out HO.out HD.out hs1 hs2 p1 p2)
        clear R2 p1 p2 k3 H2 HR1
        go_wp2_with (go_at_call 88; refine (HC.out).mono ?_; rintro e4 w4 ⟨⟨v4, rfl⟩, H4⟩; clear HC)
        go_roundg (left e' st)
        case measure => unfold left; simp
        case rel =>
          refine ⟨st, _, _, rfl, Lib.hid ⟨H4.out.1, ?_, HG3.out.then H4.out.2.2, H4.out.2.1, HS.out.1, ?_⟩⟩
          · have := HR2.out.row H4.out.2.2 Hw3.out
            rw [stC_cons] at this
            exact ownsRow_pop (stC_len st) this
          · have := HS.out.2
            unfold left at *
            simp at this
            omega
end
end Go.Proofs.Ythjnkjekidagiaa.Evl
namespace Go.Proofs.Ythjnkjekidagiaa.Evl
open Go.RowKit
open Prs (Ex)
open Fnd (bx_cell bx_froz)
section
variable {w : World} {lv mv bv ov obv : Value} {l : List Ex} {E : Env}
theorem ok_start (l : List Ex) (E : Env) : Ok l E (fun _ => List.replicate l.length false) (fun _ => List.replicate l.length ⟨0, 0, 0, 0⟩) [] := by
  refine ⟨fun s hs => (by cases hs), fun s h1 _ hm => ?_, trivial, fun t _ => by simp, fun t _ => by simp⟩
  exfalso
  simp [markF, h1] at hm
theorem left_start (n : Nat) (h : n ≤ 8193) : left (fun _ => List.replicate n false) [] ≤ 40000 - 1 := by
  unfold left
  simp
  omega
set_option maxRecDepth 100000 in
set_option maxHeartbeats 4000000 in
theorem Value_any (hL : ListAt w lv l) (hE : EnvAt w mv bv ov obv E) (hD : Down l) (at_ : Int) : Calls Try.prog 78 #[lv, .int .i64 at_, envVal mv bv ov obv E] w fun x w' =>
    x = .returned (.tuple #[.int .i64 (valA l E (at_, 0)).v, .int .i64 (valA l E (at_, 0)).t, .int .i64 (valA l E (at_, 0)).ub, .int .i64 (valA l E (at_, 0)).at_]) ∧ Kept w w' := by
  have hn := hL.1
  obtain ⟨la, lc, hlv⟩ := hL.form
  obtain ⟨m, hm⟩ := hE.mem.form
  obtain ⟨o, ho⟩ := hE.old.form
  obtain ⟨ba, bl, bc, hb⟩ := binds_form hE.binds
  obtain ⟨oa, ol, oc, hob⟩ := binds_form hE.olds
  subst hlv hm ho hb hob
  have HH := Lib.hid (And.intro hL hE)
  have HD := Lib.hid hD
  have HO := Lib.hid (ok_start l E)
  have HLs := Lib.hid (left_start l.length hn)
  clear hL hE hD
  generalize hV : valA l E (at_, 0) = V
  have HV := Lib.hid hV
  clear hV
  unfold envVal
  go_enter Try.func78, Try.ntmps78
  go_upto_region 1 with fail
  have x0 := World.alloc_heap_new w (.cells #[.pointer m, .slice ba bl bc, .pointer o, .slice oa ol oc, .int .i64 E.res, .int .i64 E.t] 49)
  have kW := (Kept.refl w).alloc (.cells #[.pointer m, .slice ba bl bc, .pointer o, .slice oa ol oc, .int .i64 E.res, .int .i64 E.t] 49)
  generalize w.alloc (.cells #[.pointer m, .slice ba bl bc, .pointer o, .slice oa ol oc, .int .i64 E.res, .int .i64 E.t] 49) = W at *
  have c0 := bx_cell x0 0 _ rfl
  have c1 := bx_cell x0 1 _ rfl
  have c2 := bx_cell x0 2 _ rfl
  have c3 := bx_cell x0 3 _ rfl
  have c4 := bx_cell x0 4 _ rfl
  have c5 := bx_cell x0 5 _ rfl
  have KW := Lib.hid kW
  clear x0 kW
  have HN := Lib.hid (newReckoner_any W _ _ _ _ _ l E (HH.out.1.kept KW.out) (HH.out.2.kept KW.out))
  unfold envVal at HN
  go_upto_region 3 with (go_at_call 84; refine (HN.out).mono ?_; rintro e1 w1 ⟨q, g, h, rfl, HR⟩)
  clear c0 c1 c2 c3 c4 c5 HN
  have y0 := World.alloc_heap_new w1 (.cells #[.int .i64 at_, .int .i64 0] 139)
  have k1 := (Kept.refl w1).alloc (.cells #[.int .i64 at_, .int .i64 0] 139)
  generalize w1.alloc (.cells #[.int .i64 at_, .int .i64 0] 139) = W2 at *
  generalize w1.heap.size = tp at *
  have HR2 := Lib.hid (HR.out.keep k1)
  have t0 := bx_cell y0 0 _ rfl
  have t1 := bx_cell y0 1 _ rfl
  have Y := Lib.hid y0
  clear y0 k1 HR
  have fin : ∀ w3 e' a', Hid (Rk W w3 q (.slice la l.length lc) (.pointer m) (.slice ba bl bc) (.pointer o) (.slice oa ol oc) l E g h e' a' ∧ Ok l E e' a' [] ∧ Past l e' (at_, 0)) → Calls Try.prog 89 #[.pointer (some ⟨q, 0, none⟩), .agg #[.int .i64 at_, .int .i64 0]] w3 fun x w' => x = .returned (.agg #[.int .i64 V.v, .int .i64 V.t, .int .i64 V.ub, .int .i64 V.at_]) ∧ Kept w3 w' := by
    intro w3 e' a' H
    have := told_any H.out.1 (at_, 0) (show 0 < 2 by omega)
    rw [H.out.2.1.done (k := (at_, 0)) (by show 0 < 2; omega) H.out.2.2, HV.out] at this
    exact this
  have FIN := Lib.hid fin
  clear fin
  rcases open_or l (fun _ => List.replicate l.length false) (at_, 0) with ho | hp
  · obtain ⟨i, hi, hil, him⟩ := ho
    simp only at hi him
    subst hi
    have HE := Lib.hid (enter_yes HR2.out (t := 0) (by omega) hil him)
    unfold spotV at HE
    go_upto_region 4 with (go_at_call 85; refine (HE.out).mono ?_; rintro e3 w3 ⟨rfl, H3⟩; have y3 := HR2.out.stay H3.out.2 Y.out (by decide) (by decide); have t0' := bx_cell y3 0 _ rfl; have t1' := bx_cell y3 1 _ rfl; have Y3 := Lib.hid y3; clear y3 HE)
    have HP := Lib.hid (HO.out.push (k := (i, 0)) hil (by show 0 < 2; omega) (fun x hx => by cases hx))
    have hls : left (updF (fun _ => List.replicate l.length false) (i, 0) true) [(i, 0)] ≤ 40000 := by
      have h1 := left_push (e := fun _ => List.replicate l.length false) (st := []) (k := (i, 0)) (by show 0 < 2; omega) him
      have h2 := HLs.out
      omega
    have HK := Lib.hid (kf_any H3.out.1 HP.out HD.out hls)
    clear t0 t1 hls
    go_upto_region 5 with (go_at_call 86; refine (HK.out).mono ?_; rintro e4 w4 ⟨rfl, H4⟩; have y4 := H3.out.1.stay (by obtain ⟨_, _, _, _, _, h⟩ := H4.out; exact h) Y3.out (by decide) (by decide); have t0'' := bx_cell y4 0 _ rfl; have t1'' := bx_cell y4 1 _ rfl; clear y4 HK)
    obtain ⟨e', a', R4, O4, M4, C4⟩ := H4.out
    have HF := Lib.hid (FIN.out w4 e' a' (Lib.hid ⟨R4, O4, .inr (.inr (by simpa using M4))⟩))
    have K4 := Lib.hid (KW.out.trans R4.kept)
    clear R4 O4 M4 C4 H4 H3 HP FIN t0' t1'
    go_upto_region 6 with (go_at_call 89; refine (HF.out).mono ?_; rintro e5 w5 ⟨rfl, k5⟩; have K5 := Lib.hid (K4.out.trans k5); clear k5)
    have z := World.alloc_heap_new w5 (.cells #[.int .i64 V.v, .int .i64 V.t, .int .i64 V.ub, .int .i64 V.at_] 124)
    have K6 := Lib.hid (K5.out.alloc (.cells #[.int .i64 V.v, .int .i64 V.t, .int .i64 V.ub, .int .i64 V.at_] 124))
    generalize w5.alloc (.cells #[.int .i64 V.v, .int .i64 V.t, .int .i64 V.ub, .int .i64 V.at_] 124) = W6 at *
    have z0 := bx_cell z 0 _ rfl
    have z1 := bx_cell z 1 _ rfl
    have z2 := bx_cell z 2 _ rfl
    have z3 := bx_cell z 3 _ rfl
    clear z
    go_region
    go_wp2
    simp [bodyPost, results, Try.f78, go_sem]
    exact K6.out.drew
  · have HE := Lib.hid (enter_no HR2.out (at_, 0) (by show 0 < 2; omega) hp)
    unfold spotV at HE
    go_upto_region 5 with (go_at_call 85; refine (HE.out).mono ?_; rintro e3 w3 ⟨rfl, k3⟩; have y3 := kh Y.out k3; have t0' := bx_cell y3 0 _ rfl; have t1' := bx_cell y3 1 _ rfl; have K3 := Lib.hid k3; clear y3 k3 HE)
    have HF := Lib.hid (FIN.out w3 _ _ (Lib.hid ⟨HR2.out.keep K3.out, HO.out, hp⟩))
    have K4 := Lib.hid (KW.out.trans (HR2.out.kept.trans K3.out))
    clear HR2 K3 FIN t0 t1 Y
    go_upto_region 6 with (go_at_call 89; refine (HF.out).mono ?_; rintro e5 w5 ⟨rfl, k5⟩; have K5 := Lib.hid (K4.out.trans k5); clear k5)
    have z := World.alloc_heap_new w5 (.cells #[.int .i64 V.v, .int .i64 V.t, .int .i64 V.ub, .int .i64 V.at_] 124)
    have K6 := Lib.hid (K5.out.alloc (.cells #[.int .i64 V.v, .int .i64 V.t, .int .i64 V.ub, .int .i64 V.at_] 124))
    generalize w5.alloc (.cells #[.int .i64 V.v, .int .i64 V.t, .int .i64 V.ub, .int .i64 V.at_] 124) = W6 at *
    have z0 := bx_cell z 0 _ rfl
    have z1 := bx_cell z 1 _ rfl
    have z2 := bx_cell z 2 _ rfl
    have z3 := bx_cell z 3 _ rfl
    clear z
    go_region
    go_wp2
    simp [bodyPost, results, Try.f78, go_sem]
    exact K6.out.drew
end
end Go.Proofs.Ythjnkjekidagiaa.Evl
namespace Go.Proofs.Ythjnkjekidagiaa.Evl
open Go.RowKit
open Prs (Ex Cn)
open Fnd
open Lex (lst)
def namesL : List Bi := [⟨[120], 5, 0, 0⟩, ⟨[121], 2, 0, 1⟩, ⟨[103, 48], 6, 0, 2⟩, ⟨[103, 97], 3, 4, 3⟩]
def namesC : Array Value := #[.string ⟨#[120]⟩, .int .i64 5, .int .i64 0, .int .i64 0, .string ⟨#[121]⟩, .int .i64 2, .int .i64 0, .int .i64 1, .string ⟨#[103, 48]⟩, .int .i64 6, .int .i64 0, .int .i64 2, .string ⟨#[103, 97]⟩, .int .i64 3, .int .i64 4, .int .i64 3]
theorem names_any (w : World) : Calls Try.prog 18 #[] w fun x w' => x = .returned (.slice (some ⟨w.heap.size, 0, none⟩) 4 4) ∧ w' = w.alloc (.cells namesC 58) := by
  go_enter Try.func18, Try.ntmps18
  go_wp2
  go_ret
  exact ⟨rfl, rfl⟩
theorem names_at {w : World} {b : Nat} (h : w.heap[b]? = some (.cells namesC 58 (0, 0))) : BindsAt w.heap.size w (.slice (some ⟨b, 0, none⟩) 4 4) namesL := by
  refine ⟨by decide, .inr ⟨b, 4, rfl, by decide, by simp [maxLen], (Array.getElem?_eq_some_iff.1 h).1, fun j hj => ?_⟩⟩
  have hj4 : j < 4 := hj
  rcases (show j = 0 ∨ j = 1 ∨ j = 2 ∨ j = 3 by omega) with rfl | rfl | rfl | rfl <;> exact ⟨bx_cell h _ _ rfl, bx_cell h _ _ rfl, bx_cell h _ _ rfl, bx_cell h _ _ rfl⟩
theorem exs_at (l : List Ex) (i : Nat) (hi : i < l.length) (k : Nat) (hk : k < 7) : (Rpr.exCells l)[i * 7 + k]? = (Rpr.exCell l[i])[k]? := by
  unfold Rpr.exCells
  induction l generalizing i with
  | nil => simp at hi
  | cons a l ih =>
    rw [List.flatMap_cons]
    have h7 : (Rpr.exCell a).length = 7 := rfl
    cases i with
    | zero => rw [List.getElem?_append_left (by omega)]; simp
    | succ i =>
      rw [List.getElem?_append_right (by omega), h7, show (i + 1) * 7 + k - 7 = i * 7 + k by omega]
      exact ih i (by simpa using hi)
/-- A list of nodes of one's own lies in memory. -/
theorem own_list {w : World} {B : Nat} {v : Value} {l : List Ex} (h : w.ownsRow B 146 7 v l.length (Rpr.exCells l)) (hl : l.length ≤ 8193) : ListAt w v l := by
  refine ⟨hl, ?_⟩
  rcases h.2 with ⟨h1, h2⟩ | ⟨b, cap, cur, h0, hb, hh, hn, hm, hsz, ht⟩
  · exact .inl ⟨h1, List.length_eq_zero_iff.1 h2⟩
  · refine .inr ⟨b, cap, cur, h0, hn, hm, hh, fun i hi => ?_⟩
    have hc : ∀ k, k < 7 → cur[i * 7 + k]? = (Rpr.exCell l[i])[k]? := by
      intro k hk
      rw [← exs_at l i hi k hk, ← ht, List.getElem?_take, if_pos (by omega)]; simp
    have h0 := hc 0 (by omega)
    rw [Nat.add_zero] at h0
    exact ⟨h0, hc 1 (by omega), hc 2 (by omega), hc 3 (by omega), hc 4 (by omega), hc 5 (by omega), hc 6 (by omega)⟩
theorem lst_add (s : ByteArray) (b : Array UInt8) : lst (s ++ ⟨b⟩) = lst s ++ b.toList := by simp [lst]
end Go.Proofs.Ythjnkjekidagiaa.Evl
namespace Go.Proofs.Ythjnkjekidagiaa.Evl
open Go.RowKit
open Typ (wrapF)
open Mem (Row tv getT setT get_yes noughts)

def rowOf (t : Int) (s : Nat) (u : List Int) : Row := (t, (u.take s).map (wrapF t) ++ List.replicate (s - u.length) 0)
def fillF : List (Int × Nat) → List Int → List Row
  | [], _ => []
  | x :: r, u => rowOf x.1 x.2 u :: fillF r (u.drop x.2)
def sizesL : List (Int × Nat) := [(5, 1), (2, 1), (6, 1), (3, 4)]
def bothF (u : List Int) : List Row := fillF sizesL u
/-- A row under way: so many values are set. -/
def partF (t : Int) (s : Nat) (u : List Int) (j : Nat) : Row := (t, (u.take j).map (wrapF t) ++ List.replicate (s - j) 0)
theorem part_zero (t : Int) (s : Nat) (u : List Int) : partF t s u 0 = (t, List.replicate s 0) := rfl
theorem part_end (t : Int) (s : Nat) (u : List Int) (j : Nat) (hs : j ≤ s) (hj : j ≤ u.length) (h : j = s ∨ j = u.length) : partF t s u j = rowOf t s u := by
  unfold partF rowOf
  rcases h with rfl | rfl
  · rw [show j - u.length = j - j by omega]
  · rw [List.take_of_length_le (Nat.le_refl _), List.take_of_length_le hs]
theorem part_len (t : Int) (s : Nat) (u : List Int) (j : Nat) (hs : j ≤ s) (hj : j ≤ u.length) : (partF t s u j).2.length = s := by
  unfold partF
  simp
  omega
theorem part_step (t : Int) (s : Nat) (u : List Int) (j : Nat) (T : List Row) (x : Int) (hs : j < s) (hj : j < u.length) (hx : u[j] = x) :
    setT (T ++ [partF t s u j]) T.length j x = T ++ [partF t s u (j + 1)] := by
  have hl := part_len t s u j (by omega) (by omega)
  have h1 : (T ++ [partF t s u j])[T.length]? = some (partF t s u j) := by simp
  have h2 : (partF t s u j).2[j]? = some (0 : Int) := by
    have hlen : ((u.take j).map (wrapF t)).length = j := by rw [List.length_map, List.length_take]; omega
    show ((u.take j).map (wrapF t) ++ List.replicate (s - j) 0)[j]? = some 0
    rw [List.getElem?_append_right (by omega), hlen, Nat.sub_self, List.getElem?_replicate, if_pos (by omega)]
  unfold setT
  rw [get_yes h1 h2]
  simp only [if_true]
  rw [Int.toNat_natCast, h1]
  simp only
  rw [List.set_append_right _ _ (by simp)]
  simp only [Nat.sub_self, List.set_cons_zero, Int.toNat_natCast]
  congr 1
  congr 1
  unfold partF
  simp only
  congr 1
  rw [List.take_add_one, List.getElem?_eq_getElem hj, hx]
  rw [List.set_append_right _ _ (by simp; omega)]
  simp only [Option.toList_some, List.map_append, List.map_cons, List.map_nil, List.append_assoc, List.length_map, List.length_take, Nat.min_eq_left (Nat.le_of_lt hj), Nat.sub_self]
  congr 1
  rw [show s - j = (s - (j + 1)) + 1 by omega, List.replicate_succ]
  rfl
/-- Where each row's values begin. -/
def offF : Nat → Nat
  | 0 => 0 | 1 => 1 | 2 => 2 | 3 => 3 | _ => 7
def tyF : Nat → Int
  | 0 => 5 | 1 => 2 | 2 => 6 | _ => 3
def szF : Nat → Nat
  | 3 => 4 | _ => 1
def rowsAt (u : List Int) (i : Nat) : List Row := (bothF u).take i
theorem rows_len (u : List Int) (i : Nat) (h : i ≤ 4) : (rowsAt u i).length = i := by
  unfold rowsAt bothF sizesL fillF fillF fillF fillF fillF
  simp; omega
theorem rows_succ (u : List Int) (i : Nat) (h : i < 4) : rowsAt u (i + 1) = rowsAt u i ++ [rowOf (tyF i) (szF i) (u.drop (offF i))] := by
  rcases (show i = 0 ∨ i = 1 ∨ i = 2 ∨ i = 3 by omega) with rfl | rfl | rfl | rfl <;> simp [rowsAt, bothF, sizesL, fillF, tyF, szF, offF, List.drop_drop]
theorem rows_end (u : List Int) : rowsAt u 4 = bothF u := rfl
theorem off_succ (i : Nat) (h : i < 4) : offF (i + 1) = offF i + szF i := by
  rcases (show i = 0 ∨ i = 1 ∨ i = 2 ∨ i = 3 by omega) with rfl | rfl | rfl | rfl <;> rfl
theorem off_le (i : Nat) : offF i ≤ 7 := by
  unfold offF; split <;> omega
theorem sz_le (i : Nat) : 1 ≤ szF i ∧ szF i ≤ 4 := by
  unfold szF; split <;> omega
theorem noughts_sz (t : Int) (u : List Int) (i : Nat) : (t, noughts (szF i)) = partF t (szF i) u 0 := by
  rw [part_zero]
  unfold noughts
  have := sz_le i
  rw [show (min (max ((szF i : Nat) : Int) 1) 16).toNat = szF i by omega]
end Go.Proofs.Ythjnkjekidagiaa.Evl
namespace Go.Proofs.Ythjnkjekidagiaa.Evl
open Go.RowKit
open Fnd (bx_cell bx_froz)
open Mem (Row St Stays st_add st_radd st_set st_rset MemAt new_any new_at noughts)

/-- A row of numbers that came in. -/
def NumsAt (w : World) (v : Value) (vs : List Int) : Prop :=
  vs.length ≤ 20 ∧ ((v = .slice none 0 0 ∧ vs = []) ∨ ∃ (x : Addr) (c : Nat), v = .slice (some x) vs.length c ∧ vs.length ≤ c ∧ c ≤ maxLen ∧ ∀ j (h : j < vs.length), (x.add j).block < w.heap.size ∧ w.cell? (x.add j) = some (.int .i64 vs[j]))
theorem NumsAt.form {w : World} {v : Value} {vs : List Int} (h : NumsAt w v vs) : ∃ a c, v = .slice a vs.length c := by
  rcases h.2 with ⟨h1, h2⟩ | ⟨x, c, h1, _⟩
  · exact ⟨none, 0, by rw [h1, h2]; rfl⟩
  · exact ⟨_, _, h1⟩
theorem NumsAt.at {w w' : World} {a : Option Addr} {c n : Nat} {vs : List Int} (h : NumsAt w (.slice a n c) vs) (hk : Kept w w') {j : Nat} (hj : j < vs.length) : ∃ x, a = some x ∧ vs.length ≤ c ∧ c ≤ maxLen ∧ w'.cell? (x.add j) = some (.int .i64 vs[j]) := by
  rcases h.2 with ⟨h1, h2⟩ | ⟨x, c', h1, h2, h3, h5⟩
  · subst h2; simp at hj
  · injection h1 with e1 e2 e3
    subst e1 e3
    exact ⟨x, rfl, h2, h3, (World.cell?_of_block (a := x.add j) (hk.block (x.add j).block (h5 j hj).1)).trans (h5 j hj).2⟩
theorem st_begin (w : World) : St w ((w.alloc (.cells #[.slice none 0 0] 64)).alloc (.cells #[.slice none 0 0] 55)) w.heap.size (w.heap.size + 1) [] [] := by
  have h2 := World.alloc_heap_new (w.alloc (.cells #[.slice none 0 0] 64)) (.cells #[.slice none 0 0] 55)
  rw [show (w.alloc (.cells #[.slice none 0 0] 64)).heap.size = w.heap.size + 1 by simp] at h2
  refine ⟨.slice none 0 0, .slice none 0 0, [], [], ((Kept.refl w).alloc _).alloc _, (new_at w w.heap.size (Nat.le_refl _)).kept ((Kept.refl _).alloc _), rfl, ⟨by omega, h2, ⟨rfl, .inl ⟨rfl, rfl⟩⟩, by simp, by simp, by simp⟩, rfl, ?_⟩
  intro k hk hr
  rcases hk with rfl | hk | ⟨x, hx, _⟩
  · rcases hr with e | e | ⟨x, hx, _⟩
    · omega
    · simp [Value.ownBlock] at e
    · cases hx
  · simp [Value.ownBlock] at hk
  · cases hx
theorem _root_.Go.Proofs.Ythjnkjekidagiaa.Mem.St.keep0 {w0 w : World} {pm pr : Nat} {T T' : List Row} (h : St w0 w pm pr T T') : Kept w0 w := by
  obtain ⟨_, _, _, _, k, _⟩ := h
  exact k
def zF (i : Nat) : Int := if i = 3 then 4 else 0
theorem names_cell (i : Nat) (h : i < 4) : namesC[i * 4 + 1]? = some (.int .i64 (tyF i)) ∧ namesC[i * 4 + 2]? = some (.int .i64 (zF i)) := by
  rcases (show i = 0 ∨ i = 1 ∨ i = 2 ∨ i = 3 by omega) with rfl | rfl | rfl | rfl <;> exact ⟨rfl, rfl⟩
theorem z_max (i : Nat) : max 1 (zF i) = (szF i : Int) := by
  by_cases h : i = 3
  · subst h; rfl
  · unfold zF szF
    rw [if_neg h]
    split
    · exact absurd rfl h
    · rfl
set_option maxRecDepth 100000 in
set_option maxHeartbeats 4000000 in
theorem both_any (w : World) (v : Value) (vs : List Int) (hv : NumsAt w v vs) : Calls Try.prog 7 #[v] w fun x w' => ∃ pm pr, x = .returned (.tuple #[.pointer (some ⟨pm, 0, none⟩), .pointer (some ⟨pr, 0, none⟩), .bool true]) ∧ Hid (St w w' pm pr (bothF vs) (bothF vs)) := by
  obtain ⟨a, c, hf⟩ := hv.form
  subst hf
  have HV := Lib.hid hv
  have h20 : vs.length ≤ 20 := hv.1
  clear hv
  go_enter Try.func7, Try.ntmps7
  go_upto_region 2 with (go_at_call 12; refine (new_any _).mono ?_; rintro e w1 ⟨rfl, rfl⟩)
  have HS := Lib.hid (st_begin w)
  have hsz : ((w.alloc (.cells #[.slice none 0 0] 64)).alloc (.cells #[.slice none 0 0] 55)).heap.size = w.heap.size + 2 := by simp
  generalize ((w.alloc (.cells #[.slice none 0 0] 64)).alloc (.cells #[.slice none 0 0] 55)) = W1 at *
  go_upto_region 5 with (go_at_call 18; refine (names_any _).mono ?_; rintro e w2 ⟨rfl, rfl⟩)
  have hN := World.alloc_heap_new W1 (.cells namesC 58)
  have HS2 := Lib.hid (HS.out.kept ((Kept.refl W1).alloc (.cells namesC 58)))
  rw [hsz] at hN
  generalize w.heap.size + 2 = bn at *
  generalize W1.alloc (.cells namesC 58) = W2 at *
  have HN := Lib.hid hN
  clear hN hsz HS
  generalize w.heap.size + 1 = pr at *
  obtain ⟨pm, hpm⟩ : ∃ pm, w.heap.size = pm := ⟨_, rfl⟩
  rw [hpm] at HS2 ⊢
  clear hpm
  go_wp2_with fail
  go_loopw [8, 9] (fun k i wx => ∃ n m : Nat, k = .int .i64 (m : Int) ∧ i = .int .i64 (n : Int) ∧ n ≤ 4 ∧ m = min (offF n) vs.length ∧ Hid (St w wx pm pr (rowsAt vs n) (rowsAt vs n) ∧ wx.heap[bn]? = some (.cells namesC 58 (0, 0)))) (fun _ i _ => 4 - (intOf i).toNat)
  case atStart => exact ⟨0, 0, rfl, rfl, by omega, by simp [offF], Lib.hid ⟨HS2.out, HN.out⟩⟩
  case round =>
    obtain ⟨n, m, rfl, rfl, hn, hm, HI⟩ := hrel
    clear HS2 HN
    by_cases hlt : n < 4
    · obtain ⟨d1, d2⟩ := names_cell n hlt
      have c1 := bx_cell HI.out.2 _ _ d1
      have c2 := bx_cell HI.out.2 _ _ d2
      clear d1 d2
      have hz := z_max n
      have hzs := sz_le n
      have hTl := rows_len vs n hn
      obtain ⟨T, hT⟩ : ∃ T, rowsAt vs n = T := ⟨_, rfl⟩
      have HT := Lib.hid hT
      rw [hT] at HI hTl
      have HNo := Lib.hid (noughts_sz (tyF n) (vs.drop (offF n)) n)
      have HTl := Lib.hid hTl
      clear hT hTl
      have HA := Lib.hid (st_add (HI.out.1.kept (Kept.refl wr).drew) (by rw [HTl.out]; omega) (tyF n) (max 1 (zF n)) (by omega))
      obtain ⟨z, hzz⟩ : ∃ z, zF n = z := ⟨_, rfl⟩
      rw [hzz] at HA hz c2
      have HMm := Lib.hid hm
      clear hm
      obtain ⟨sz, hsz⟩ : ∃ sz, szF n = sz := ⟨_, rfl⟩
      obtain ⟨ty, hty⟩ : ∃ ty, tyF n = ty := ⟨_, rfl⟩
      rw [hsz] at HNo hz hzs
      rw [hty] at HNo HA c1
      rw [hz] at HA
      go_upto_block 1 with fail
      go_cut [8, 10] from 17 to 22 (fun x _ wx => x = .int .i64 ((min (offF (n + 1)) vs.length : Nat) : Int) ∧ Hid (St w wx pm pr (rowsAt vs (n + 1)) (rowsAt vs (n + 1)) ∧ wx.heap[bn]? = some (.cells namesC 58 (0, 0))))
      case first =>
        go_upto_region 9 with fail
        go_cut [9] from 17 to 22 (fun x wx => x = .int .i64 (n : Int) ∧ Hid (St w wx pm pr (T ++ [partF ty sz (vs.drop (offF n)) 0]) T ∧ wx.heap[bn]? = some (.cells namesC 58 (0, 0))))
        case first =>
          go_region_with (go_at_call 13; refine HA.out.mono ?_; rintro e w3 ⟨rfl, H3⟩)
          all_goals
            have HX : Hid (St w w3 pm pr (T ++ [partF ty sz (vs.drop (offF n)) 0]) T ∧ w3.heap[bn]? = some (.cells namesC 58 (0, 0))) := Lib.hid ⟨by rw [← HNo.out]; exact H3.out.1, H3.out.2 _ _ _ (by decide) (by decide) (by decide) (by decide) HI.out.2⟩
            go_wp2
            go_meet
            exact ⟨rfl, HX⟩
        case rest =>
          obtain ⟨rfl, HX⟩ := hcut
          clear HA c1 c2 HI
          obtain ⟨d1, d2⟩ := names_cell n hlt
          have c1 := bx_cell HX.out.2 _ _ d1
          have c2 := bx_cell HX.out.2 _ _ d2
          rw [hty] at c1
          rw [hzz] at c2
          clear d1 d2
          have HA := Lib.hid (st_radd (HX.out.1.kept (Kept.refl wc).drew) (by rw [HTl.out]; omega) ty (max 1 z) (by omega))
          rw [hz] at HA
          go_upto_region 10 with fail
          go_cut [9] from 17 to 22 (fun x wx => x = .int .i64 (n : Int) ∧ Hid (St w wx pm pr (T ++ [partF ty sz (vs.drop (offF n)) 0]) (T ++ [partF ty sz (vs.drop (offF n)) 0]) ∧ wx.heap[bn]? = some (.cells namesC 58 (0, 0))))
          case first =>
            go_region_with (go_at_call 19; refine HA.out.mono ?_; rintro e w3 ⟨rfl, H3⟩)
            all_goals
              have h3 := H3.out.1
              rw [HNo.out] at h3
              have HX2 : Hid (St w w3 pm pr (T ++ [partF ty sz (vs.drop (offF n)) 0]) (T ++ [partF ty sz (vs.drop (offF n)) 0]) ∧ w3.heap[bn]? = some (.cells namesC 58 (0, 0))) := Lib.hid ⟨h3, H3.out.2 _ _ _ (by decide) (by decide) (by decide) (by decide) HX.out.2⟩
              clear h3
              go_wp2
              go_meet
              exact ⟨rfl, HX2⟩
          case rest =>
            obtain ⟨rfl, HX2⟩ := hcut
            clear HA c1 c2 HX
            have hoff := off_le n
            have hm1 : m ≤ vs.length := by have := HMm.out; omega
            obtain ⟨U, hU⟩ : ∃ U, vs.drop (offF n) = U := ⟨_, rfl⟩
            have hUl : m + U.length = vs.length := by have := HMm.out; rw [← hU, List.length_drop]; omega
            have hUat : ∀ j (h : j < U.length), m + j < vs.length ∧ vs[m + j]? = some U[j] := by
              intro j h
              have h2 := HMm.out
              have h3 : offF n = m := by rw [← hU, List.length_drop] at h; omega
              refine ⟨by omega, ?_⟩
              subst hU
              rw [← List.getElem?_eq_getElem h, List.getElem?_drop, h3]
            have HUat := Lib.hid hUat
            rw [hU] at HX2
            have HU := Lib.hid hU
            clear hU hUat HNo hoff
            go_wp2_with fail
            go_loopw [8, 10] (fun k j wx => ∃ p q : Nat, k = .int .i64 (p : Int) ∧ j = .int .i64 (q : Int) ∧ q ≤ sz ∧ q ≤ U.length ∧ p = m + q ∧ Hid (St w wx pm pr (T ++ [partF ty sz U q]) (T ++ [partF ty sz U q]) ∧ wx.heap[bn]? = some (.cells namesC 58 (0, 0)))) (fun _ j _ => sz - (intOf j).toNat)
            case atStart => exact ⟨m, 0, rfl, rfl, by omega, by omega, by omega, HX2⟩
            case round =>
              clear HX2
              obtain ⟨p, q, rfl, rfl, hq, hqU, hp, HI⟩ := hrel
              obtain ⟨d1, d2⟩ := names_cell n hlt
              have c2 := bx_cell HI.out.2 _ _ d2
              rw [hzz] at c2
              clear d1 d2
              have hend : (q = sz ∨ q = U.length) → p = min (offF (n + 1)) vs.length ∧ T ++ [partF ty sz U q] = rowsAt vs (n + 1) := by
                intro h
                have h1 := off_succ n hlt
                have h2 := HMm.out
                have h3 := HU.out
                have h4 : U.length = vs.length - offF n := by rw [← h3, List.length_drop]
                refine ⟨by omega, ?_⟩
                rw [part_end ty sz U q hq hqU h, rows_succ vs n hlt, HT.out, hty, hsz, h3]
              have hpp := Lib.hid hp
              by_cases hqs : q < sz
              · by_cases hqu : q < U.length
                · have hpl : p < vs.length := by omega
                  have HVx := Lib.hid (fun w' (hk : Kept w w') => HV.out.at hk hpl)
                  obtain ⟨x, rfl, r1, r2, -⟩ := HV.out.at HI.out.1.keep0 hpl
                  obtain ⟨y, hy⟩ : ∃ y, vs[p] = y := ⟨_, rfl⟩
                  have HC : Hid (∀ w', Kept w w' → w'.cell? (x.add p) = some (.int .i64 y)) := Lib.hid fun w' hk => by
                    obtain ⟨x', e, -, -, h⟩ := HVx.out w' hk
                    injection e with e
                    subst e
                    rw [hy] at h
                    exact h
                  have c3 := HC.out _ HI.out.1.keep0
                  clear HVx
                  have hUy : U[q] = y := by
                    have := (HUat.out q hqu).2
                    rw [← hp, List.getElem?_eq_getElem hpl, hy] at this
                    injection this with this
                    exact this.symm
                  have HA := Lib.hid (st_set HI.out.1 (n : Int) (q : Int) y)
                  have hst := part_step ty sz U q T y hqs hqu hUy
                  rw [HTl.out] at hst
                  rw [hst] at HA
                  have HST := Lib.hid hst
                  simp only [maxLen] at r2
                  clear hst hend hUy hy hp
                  go_upto_region 15 with (go_at_call 15; refine HA.out.mono ?_; rintro e w3 ⟨rfl, H3⟩; have c3' := HC.out _ H3.out.1.keep0)
                  have HB := Lib.hid (st_rset H3.out.1 (n : Int) (q : Int) y)
                  rw [HST.out] at HB
                  clear c3
                  go_wp2_with (go_at_call 20; refine HB.out.mono ?_; rintro e w4 ⟨rfl, H4⟩)
                  go_roundw
                  case rel => exact ⟨p + 1, q + 1, by go_num, by go_num, by omega, by omega, by have := hpp.out; omega, Lib.hid ⟨H4.out.1, H4.out.2 _ _ _ (by decide) (by decide) (by decide) (by decide) (H3.out.2 _ _ _ (by decide) (by decide) (by decide) (by decide) HI.out.2)⟩⟩
                  case measure => simp [intOf]; omega
                · have hpl : p = vs.length := by omega
                  obtain ⟨e1, e2⟩ := hend (.inr (by omega))
                  rw [e2] at HI
                  clear hp
                  go_wp2
                  go_meet
                  exact ⟨by rw [← e1], HI⟩
              · obtain ⟨e1, e2⟩ := hend (.inl (by omega))
                have hqz : q = sz := by omega
                rw [e2] at HI
                have HE := Lib.hid e1
                clear e1 e2 hend hp
                go_wp2
                go_meet
                exact ⟨by rw [← HE.out], HI⟩
      case rest =>
        obtain ⟨rfl, HX3⟩ := hcut
        clear HA HNo c1 c2 HI HMm
        go_wp2
        go_roundw
        case rel => exact ⟨n + 1, _, rfl, by go_num, by omega, rfl, HX3⟩
        case measure => simp [intOf]; omega
    · obtain rfl : n = 4 := by omega
      go_wp2
      simp [bodyPost, results, Try.f7, go_sem]
      exact ⟨pm, pr, ⟨rfl, rfl⟩, Lib.hid HI.out.1⟩
end Go.Proofs.Ythjnkjekidagiaa.Evl
namespace Go.Proofs.Ythjnkjekidagiaa.Evl
open Go.RowKit
open Prs (Ex Cn)
open Fnd
open Mem (Bk MemAt St tv getT getV getV_tv)
open Lex (lst)
open Typ (wrapF inF)

def tAw : Cn := ⟨1, 1, [⟨1, 1, 5, [], -1, -1, 0⟩, ⟨1, 2, 5, [], -1, -1, 4⟩, ⟨8, 0, 0, [], 0, 1, 2⟩], [⟨1, 0, 5, [], -1, -1, 9⟩], -1, -1, 6⟩
def tOx : Cn := ⟨1, 1, [⟨2, 0, 0, [120], -1, -1, 6⟩, ⟨4, 0, 0, [], 0, -1, 0⟩, ⟨2, 0, 0, [120], -1, -1, 12⟩, ⟨9, 0, 0, [], 1, 2, 10⟩], [⟨1, 0, 5, [], -1, -1, 17⟩], -1, -1, 14⟩
def tGa (k : Nat) : Cn := ⟨1, 1, [⟨1, k, 5, [], -1, -1, 11⟩, ⟨3, 0, 0, [103, 97], 0, -1, 6⟩, ⟨4, 0, 0, [], 1, -1, 0⟩], [⟨1, 0, 5, [], -1, -1, 20⟩], -1, -1, 17⟩
theorem tAw_read : Rpr.condRead (lst ⟨#[49, 32, 43, 32, 50]⟩ ++ [32, 61, 61, 32, 48]) = some [tAw] := by decide +kernel
theorem tOx_read : Rpr.condRead (lst ⟨#[111, 108, 100, 32, 40, 32, 120, 32, 41, 32, 45, 32, 120]⟩ ++ [32, 61, 61, 32, 48]) = some [tOx] := by decide +kernel
theorem tGa_read (k : Nat) (hk : k < 9) : Rpr.condRead (lst (((⟨#[111, 108, 100, 32, 40, 32, 103, 97, 32, 91, 32]⟩ : ByteArray) ++ (⟨#[(k + 48).toUInt8]⟩ : ByteArray)) ++ (⟨#[32, 93, 32, 41]⟩ : ByteArray)) ++ [32, 61, 61, 32, 48]) = some [tGa k] := by
  rw [lst_add, lst_add]
  rcases (show k = 0 ∨ k = 1 ∨ k = 2 ∨ k = 3 ∨ k = 4 ∨ k = 5 ∨ k = 6 ∨ k = 7 ∨ k = 8 by omega) with rfl | rfl | rfl | rfl | rfl | rfl | rfl | rfl | rfl <;> decide +kernel
/-- What names have, and had, in the statements. -/
def lawE (L : List Bk) (o : Option (List Bk)) (ob : List Bi) (r t : Int) : Env := ⟨some L, namesL, o, ob, r, t⟩
def downB : List Ex → Nat → Bool
  | [], _ => true
  | x :: r, n => decide (x.a < (n : Int)) && decide (x.b < (n : Int)) && downB r (n + 1)
theorem down_from : ∀ (l : List Ex) (n : Nat), downB l n = true → ∀ i (h : i < l.length), l[i].a < ((n + i : Nat) : Int) ∧ l[i].b < ((n + i : Nat) : Int)
  | [], _, _, i, h => by simp at h
  | x :: r, n, hb, i, h => by
    unfold downB at hb
    simp only [Bool.and_eq_true, decide_eq_true_eq] at hb
    cases i with
    | zero => simpa using hb.1
    | succ i =>
      have := down_from r (n + 1) hb.2 i (by simpa using h)
      simp only [List.getElem_cons_succ]
      rw [show n + (i + 1) = n + 1 + i by omega]
      exact this
theorem down_of {l : List Ex} (h : downB l 0 = true) : Down l := fun i hi => by simpa using down_from l 0 h i hi
theorem down_aw : Down tAw.x := down_of rfl
theorem down_ox : Down tOx.x := down_of rfl
theorem down_ga (k : Nat) : Down (tGa k).x := down_of rfl
theorem closeA_ok (n : Ex) (E : Env) {a b : Ans} (ha : a.ub = 0) (hb : b.ub = 0) : closeA n E a b = nodeA n E a b := by
  unfold closeA
  rw [if_neg (by omega), if_neg (by omega)]
section
variable {l : List Ex} {E : Env} {s : Int} {n : Ex}
theorem val_at (hD : Down l) (i t : Nat) (hs : s = i) (hn : l[i]? = some n) : valA l E (s, t) = closeA n (envT E t) (valA l E (kidA n t)) (valA l E (kidB n t)) := by
  subst hs
  obtain ⟨hi, e⟩ := List.getElem?_eq_some_iff.1 hn
  subst e
  exact valA_at hD hi
theorem val_no (t : Nat) : valA l E (-1, t) = Ans.none := valA_out (.inl (by show (-1 : Int) < 0; decide))
theorem val_leaf (hD : Down l) (i t : Nat) (hs : s = i) (hn : l[i]? = some n) (hk : n.kind = 1 ∨ n.kind = 2) : valA l E (s, t) = nodeA n (envT E t) Ans.none Ans.none := by
  rw [val_at hD i t hs hn]
  have h1 : ¬ twoK n.kind := by unfold twoK; omega
  have h2 : ¬ oneK n.kind := by unfold oneK; omega
  unfold kidA kidB
  rw [if_neg (by omega), if_neg (fun h => h.elim h1 h2), if_neg h1, val_no]
  exact closeA_ok _ _ rfl rfl
theorem val_two (hD : Down l) (i t : Nat) (hs : s = i) (hn : l[i]? = some n) (hk : twoK n.kind) : valA l E (s, t) = closeA n (envT E t) (valA l E (n.a, t)) (valA l E (n.b, t)) := by
  rw [val_at hD i t hs hn]
  unfold kidA kidB
  rw [if_neg (by unfold twoK at hk; omega), if_pos (.inl hk), if_pos hk]
theorem val_one (hD : Down l) (i t : Nat) (hs : s = i) (hn : l[i]? = some n) (hk : oneK n.kind) : valA l E (s, t) = closeA n (envT E t) (valA l E (n.a, t)) Ans.none := by
  rw [val_at hD i t hs hn]
  unfold kidA kidB
  rw [if_neg (by unfold oneK at hk; omega), if_pos (.inr hk), if_neg (by unfold oneK at hk; unfold twoK; omega), val_no]
theorem val_old (hD : Down l) (i t : Nat) (hs : s = i) (hn : l[i]? = some n) (hk : n.kind = 4) : valA l E (s, t) = closeA n (envT E t) (valA l E (n.a, 1)) Ans.none := by
  rw [val_at hD i t hs hn]
  unfold kidA kidB
  rw [if_pos hk, if_neg (by unfold twoK; omega), val_no]
end
theorem nd_lit (k : Nat) (a b p : Int) (ty : Nat) (nm : List UInt8) (E : Env) (x y : Ans) : nodeA ⟨1, k, ty, nm, a, b, p.toNat⟩ E x y = ⟨k, ty, 0, 0⟩ := rfl
theorem nd_var {nm : List UInt8} {b : Bi} (hb : findF namesL nm = some b) (L : List Bk) (o : Option (List Bk)) (ob : List Bi) (r t : Int) (k ty p : Nat) (i j : Int) (x y : Ans) : nodeA ⟨2, k, ty, nm, i, j, p⟩ (lawE L o ob r t) x y = ⟨(getV L b.id 0).1, b.t, 0, 0⟩ := by
  unfold nodeA
  rw [if_neg (by simp), if_pos (.inl rfl)]
  unfold namedA bindF lawE
  simp only [hb, Option.map_some]
  rw [if_neg (by simp)]
theorem nd_elem {nm : List UInt8} {b : Bi} (hb : findF namesL nm = some b) (L : List Bk) (o : Option (List Bk)) (ob : List Bi) (r t : Int) (k ty p : Nat) (i j : Int) (x y : Ans) : nodeA ⟨3, k, ty, nm, i, j, p⟩ (lawE L o ob r t) x y = if hasF b x.v = false then ⟨0, b.t, 4, p⟩ else ⟨(getV L b.id x.v).1, b.t, 0, 0⟩ := by
  unfold nodeA
  rw [if_neg (by simp), if_pos (.inr rfl)]
  unfold namedA bindF lawE
  simp only [hb, Option.map_some]
  rw [if_pos trivial]
theorem nd_old (_L : List Bk) (E : Env) (k ty p : Nat) (nm : List UInt8) (i j : Int) (x y : Ans) : nodeA ⟨4, k, ty, nm, i, j, p⟩ E x y = x := rfl
theorem env_now (E : Env) : envT E 0 = E := rfl
theorem env_old (L O : List Bk) (r t : Int) : envT (lawE L (some O) namesL r t) 1 = lawE O (some O) namesL r t := rfl
theorem find_x : findF namesL [120] = some ⟨[120], 5, 0, 0⟩ := rfl
theorem find_y : findF namesL [121] = some ⟨[121], 2, 0, 1⟩ := rfl
theorem find_g0 : findF namesL [103, 48] = some ⟨[103, 48], 6, 0, 2⟩ := rfl
theorem find_ga : findF namesL [103, 97] = some ⟨[103, 97], 3, 4, 3⟩ := rfl
theorem aw_val : valA tAw.x ⟨none, [], none, [], 0, 0⟩ (2, 0) = ⟨3, 5, 0, 0⟩ := by
  rw [val_two (s := 2) down_aw 2 0 rfl rfl (by decide)]
  rw [val_leaf (s := 0) down_aw 0 0 rfl rfl (by decide), val_leaf (s := 1) down_aw 1 0 rfl rfl (by decide)]
  kernel_rfl
theorem ox_val (L O : List Bk) : valA tOx.x (lawE L (some O) namesL 0 0) (3, 0) = closeA ⟨9, 0, 0, [], 1, 2, 10⟩ (lawE L (some O) namesL 0 0) ⟨(getV O 0 0).1, 5, 0, 0⟩ ⟨(getV L 0 0).1, 5, 0, 0⟩ := by
  rw [val_two (s := 3) down_ox 3 0 rfl rfl (by decide)]
  rw [val_old (s := 1) down_ox 1 0 rfl rfl rfl, val_leaf (s := 2) down_ox 2 0 rfl rfl (by decide), val_leaf (s := 0) down_ox 0 1 rfl rfl (by decide)]
  rw [env_now, env_old, nd_var find_x, nd_var find_x, closeA_ok ⟨4, 0, 0, [], 0, -1, 0⟩ _ rfl rfl, nd_old L]
theorem own_get (L : List Bk) (u : List Int) (h : L.map tv = bothF u) (id at_ : Int) : getV L id at_ = getT (bothF u) id at_ := by rw [getV_tv, h]
theorem wrap_i16 {v : Int} (h : -32768 ≤ v ∧ v ≤ 32767) : wrapF 5 v = v := by unfold wrapF; simp; omega
theorem ox_any (L O : List Bk) (x y : Int) (hx : -32768 ≤ x ∧ x ≤ 32767) (hy : -32768 ≤ y ∧ y ≤ 32767) (hL : L.map tv = bothF [x]) (hO : O.map tv = bothF [y, 0, 0, 5, 6, 7, 8]) :
    (valA tOx.x (lawE L (some O) namesL 0 0) (3, 0)).v = y - x := by
  rw [ox_val, own_get L _ hL, own_get O _ hO]
  rw [show (getT (bothF [y, 0, 0, 5, 6, 7, 8]) 0 0).1 = wrapF 5 y from rfl, show (getT (bothF [x]) 0 0).1 = wrapF 5 x from rfl, wrap_i16 hx, wrap_i16 hy]
  unfold closeA
  rw [if_neg (by simp), if_neg (by simp)]
  have h1 := (Typ.low5 (k := 9) (a := y) (b := x) (v := y - x) (by omega) (by omega) (by omega) (by omega) rfl).1 (by omega)
  show (doA 9 5 (wrapF 5 y) (wrapF 5 x) 10).v = _
  rw [wrap_i16 hx, wrap_i16 hy]
  unfold doA
  rw [if_pos h1.2, h1.1]
theorem ga_val (k : Nat) (L O : List Bk) : valA (tGa k).x (lawE L (some O) namesL 0 0) (2, 0) = closeA ⟨4, 0, 0, [], 1, -1, 0⟩ (lawE L (some O) namesL 0 0) (if hasF ⟨[103, 97], 3, 4, 3⟩ k = false then ⟨0, 3, 4, 6⟩ else ⟨(getV O 3 k).1, 3, 0, 0⟩) Ans.none := by
  rw [val_old (s := 2) (down_ga k) 2 0 rfl rfl rfl]
  rw [show valA (tGa k).x (lawE L (some O) namesL 0 0) ((1 : Int), 1) = _ from val_one (s := 1) (down_ga k) 1 1 rfl rfl (by decide)]
  rw [show valA (tGa k).x (lawE L (some O) namesL 0 0) ((0 : Int), 1) = _ from val_leaf (s := 0) (down_ga k) 0 1 rfl rfl (by simp)]
  rw [env_now, env_old, closeA_ok ⟨3, 0, 0, [103, 97], 0, -1, 6⟩ _ rfl rfl, nd_elem find_ga]
  rfl
theorem ga_in (k : Nat) (hk : k < 4) (L O : List Bk) (y : Int) (hO : O.map tv = bothF [y, 0, 0, 5, 6, 7, 8]) : valA (tGa k).x (lawE L (some O) namesL 0 0) (2, 0) = ⟨5 + k, 3, 0, 0⟩ := by
  rw [ga_val]
  have h : hasF ⟨[103, 97], 3, 4, 3⟩ k = true := by unfold hasF; simp; omega
  rw [if_neg (by rw [h]; decide), closeA_ok _ _ rfl rfl, nd_old L, own_get O _ hO]
  rcases (show k = 0 ∨ k = 1 ∨ k = 2 ∨ k = 3 by omega) with rfl | rfl | rfl | rfl <;> rfl
theorem ga_out (k : Nat) (hk : 3 < k) (L O : List Bk) : valA (tGa k).x (lawE L (some O) namesL 0 0) (2, 0) = ⟨0, 3, 4, 6⟩ := by
  rw [ga_val]
  have h : hasF ⟨[103, 97], 3, 4, 3⟩ k = false := by unfold hasF; simp; omega
  rw [if_pos h]
  rfl
theorem binds_nil (w : World) : BindsAt w.heap.size w (.slice none 0 0) [] := ⟨by decide, .inl ⟨rfl, rfl⟩⟩
end Go.Proofs.Ythjnkjekidagiaa.Evl
namespace Go.Proofs.Ythjnkjekidagiaa.Evl
open Typ (wrapF relF)
open Prs (Ex Cn)

/-- A finding. -/
structure Fi where
  is : Bool
  ub : Int
  at_ : Int
deriving DecidableEq
def Fi.none : Fi := ⟨false, 0, 0⟩
def relA (c : Cn) (E : Env) : Fi :=
  let x := valA c.x E ((c.x.length : Int) - 1, 0)
  let y := valA c.y E ((c.y.length : Int) - 1, 0)
  if x.ub ≠ 0 then ⟨false, x.ub, x.at_⟩ else if y.ub ≠ 0 then ⟨false, y.ub, y.at_⟩ else ⟨relF c.rel (wrapF (meetF x y) x.v) (wrapF (meetF x y) y.v), 0, 0⟩
/-- Its first kid leaves it to the second one. -/
def undA (c : Cn) (a : Fi) : Bool := decide (a.ub = 0) && (a.is == decide (c.kind = 3))
def twoC (k : Nat) : Prop := k = 3 ∨ k = 4
instance (k : Nat) : Decidable (twoC k) := by unfold twoC; infer_instance
def clsA (c : Cn) (E : Env) (a b : Fi) : Fi :=
  if c.kind = 1 then relA c E else if twoC c.kind then (if undA c a = true then b else a) else if c.kind = 2 then ⟨decide (a.ub = 0) && !a.is, a.ub, a.at_⟩ else Fi.none
def tstF (l : List Cn) (E : Env) : Nat → Int → Fi
  | 0, _ => Fi.none
  | f + 1, s => if 0 ≤ s then match l[s.toNat]? with
    | some x => clsA x E (if twoC x.kind ∨ x.kind = 2 then tstF l E f x.a else Fi.none) (if twoC x.kind then tstF l E f x.b else Fi.none)
    | none => Fi.none
    else Fi.none
/-- Kids stand ahead of their conditions. -/
def DownC (l : List Cn) : Prop := ∀ i (h : i < l.length), l[i].a < i ∧ l[i].b < i
theorem tst_out {l : List Cn} {E : Env} {f : Nat} {s : Int} (h : s < 0 ∨ (l.length : Int) ≤ s) : tstF l E f s = Fi.none := by
  cases f with
  | zero => rfl
  | succ f =>
    unfold tstF
    split
    · rw [List.getElem?_eq_none (by omega)]
    · rfl
theorem tst_fuel {l : List Cn} {E : Env} (h : DownC l) : ∀ (f g : Nat) (s : Int), s < f → s < g → tstF l E f s = tstF l E g s := by
  intro f
  induction f with
  | zero => intro g s hf hg; rw [tst_out (.inl (by omega)), tst_out (.inl (by omega))]
  | succ f ih =>
    intro g s hf hg
    by_cases h0 : s < 0
    · rw [tst_out (.inl h0), tst_out (.inl h0)]
    by_cases h1 : (l.length : Int) ≤ s
    · rw [tst_out (.inr h1), tst_out (.inr h1)]
    cases g with
    | zero => omega
    | succ g =>
      have hi : s.toNat < l.length := by omega
      unfold tstF
      rw [if_pos (by omega), if_pos (by omega), List.getElem?_eq_getElem hi]
      have ⟨ha, hb⟩ := h s.toNat hi
      simp only
      rw [ih g l[s.toNat].a (by omega) (by omega), ih g l[s.toNat].b (by omega) (by omega)]
/-- What a place has. -/
def tstA (l : List Cn) (E : Env) (s : Int) : Fi := tstF l E (s.toNat + 1) s
theorem tstA_out {l : List Cn} {E : Env} {s : Int} (h : s < 0 ∨ (l.length : Int) ≤ s) : tstA l E s = Fi.none := tst_out h
theorem tstA_at {l : List Cn} {E : Env} (h : DownC l) {i : Nat} (hi : i < l.length) : tstA l E (i : Int) = clsA l[i] E (if twoC l[i].kind ∨ l[i].kind = 2 then tstA l E l[i].a else Fi.none) (if twoC l[i].kind then tstA l E l[i].b else Fi.none) := by
  have ⟨ha, hb⟩ := h i hi
  have fuel : ∀ s : Int, s < i → tstF l E i s = tstF l E (s.toNat + 1) s := by
    intro s hs
    by_cases h0 : s < 0
    · rw [tst_out (.inl h0), tst_out (.inl h0)]
    · exact tst_fuel h _ _ _ (by omega) (by omega)
  unfold tstA
  rw [Int.toNat_natCast]
  conv => lhs; unfold tstF
  rw [if_pos (by omega), Int.toNat_natCast, List.getElem?_eq_getElem hi]
  simp only
  rw [fuel _ ha, fuel _ hb]

/-- Is a place marked, what is noted of it. -/
def mkF (e : List Bool) (s : Nat) : Bool := (e[s]?).getD true
def ntF (a : List Fi) (s : Nat) : Fi := (a[s]?).getD Fi.none
theorem mk_set {e : List Bool} {s x : Nat} {b : Bool} (hs : s < e.length) : mkF (e.set s b) x = if x = s then b else mkF e x := by
  unfold mkF
  by_cases h : x = s
  · subst h; simp [hs]
  · rw [if_neg h, List.getElem?_set_ne (by omega)]
theorem nt_set {a : List Fi} {s x : Nat} {b : Fi} (hs : s < a.length) : ntF (a.set s b) x = if x = s then b else ntF a x := by
  unfold ntF
  by_cases h : x = s
  · subst h; simp [hs]
  · rw [if_neg h, List.getElem?_set_ne (by omega)]
def FallsJ : List Nat → Prop
  | [] => True
  | s :: st => (∀ x ∈ st, s < x) ∧ FallsJ st
structure OkJ (l : List Cn) (E : Env) (e : List Bool) (a : List Fi) (st : List Nat) : Prop where
  on : ∀ s ∈ st, s < l.length ∧ mkF e s = true
  good : ∀ s, s < l.length → mkF e s = true → s ∈ st ∨ ntF a s = tstA l E (s : Int)
  falls : FallsJ st
  el : e.length = l.length
  al : a.length = l.length
def tldA (l : List Cn) (a : List Fi) (s : Int) : Fi := if 0 ≤ s ∧ s < l.length then ntF a s.toNat else Fi.none
/-- Nothing is to be done of a place: it is not there, or marked. -/
def PastJ (l : List Cn) (e : List Bool) (s : Int) : Prop := s < 0 ∨ (l.length : Int) ≤ s ∨ mkF e s.toNat = true
section
variable {l : List Cn} {E : Env} {e : List Bool} {a : List Fi} {st : List Nat}
theorem OkJ.told {s : Nat} (h : OkJ l E e a (s :: st)) {k : Int} (hk : k < s) (hp : PastJ l e k) : tldA l a k = tstA l E k := by
  unfold tldA
  by_cases h0 : 0 ≤ k ∧ k < l.length
  · rw [if_pos h0]
    have hm : mkF e k.toNat = true := by
      rcases hp with h | h | h
      · omega
      · omega
      · exact h
    rcases h.good k.toNat (by omega) hm with hin | he
    · exfalso
      rcases List.mem_cons.1 hin with hin | hin
      · omega
      · have := h.falls.1 _ hin
        omega
    · rw [he, show ((k.toNat : Nat) : Int) = k by omega]
  · rw [if_neg h0, tstA_out (by omega)]
theorem OkJ.done (h : OkJ l E e a []) {k : Int} (hp : PastJ l e k) : tldA l a k = tstA l E k := by
  unfold tldA
  by_cases h0 : 0 ≤ k ∧ k < l.length
  · rw [if_pos h0]
    have hm : mkF e k.toNat = true := by
      rcases hp with h | h | h
      · omega
      · omega
      · exact h
    rcases h.good k.toNat (by omega) hm with hin | he
    · cases hin
    · rw [he, show ((k.toNat : Nat) : Int) = k by omega]
  · rw [if_neg h0, tstA_out (by omega)]
theorem OkJ.push (h : OkJ l E e a st) {k : Nat} (h1 : k < l.length) (hf : ∀ x ∈ st, k < x) : OkJ l E (e.set k true) a (k :: st) := by
  have he : k < e.length := by rw [h.el]; exact h1
  refine ⟨fun s hs => ?_, fun s s1 hm => ?_, ⟨hf, h.falls⟩, by simpa using h.el, h.al⟩
  · rw [mk_set he]
    rcases List.mem_cons.1 hs with rfl | hs
    · exact ⟨h1, by rw [if_pos rfl]⟩
    · obtain ⟨q1, q3⟩ := h.on s hs
      exact ⟨q1, by split <;> first | rfl | exact q3⟩
  · by_cases hsk : s = k
    · subst hsk; exact .inl (by simp)
    · rw [mk_set he, if_neg hsk] at hm
      rcases h.good s s1 hm with hin | hv
      · exact .inl (by simp [hin])
      · exact .inr hv
theorem OkJ.pop {s : Nat} (h : OkJ l E e a (s :: st)) : OkJ l E e (a.set s (tstA l E (s : Int))) st := by
  obtain ⟨q1, q3⟩ := h.on s (by simp)
  have ha : s < a.length := by rw [h.al]; exact q1
  refine ⟨fun x hx => h.on x (by simp [hx]), fun x x1 hm => ?_, h.falls.2, h.el, by simpa using h.al⟩
  rw [nt_set ha]
  by_cases hxs : x = s
  · subst hxs; exact .inr (by rw [if_pos rfl])
  · rw [if_neg hxs]
    rcases h.good x x1 hm with hin | hv
    · rcases List.mem_cons.1 hin with hin | hin
      · exact absurd hin hxs
      · exact .inl hin
    · exact .inr hv
/-- A condition whose kids are past is told by what they have. -/
theorem OkJ.close {s : Nat} (h : OkJ l E e a (s :: st)) (hD : DownC l) (hs : s < l.length) (h1 : (twoC l[s].kind ∨ l[s].kind = 2) → PastJ l e l[s].a) (h2 : twoC l[s].kind → undA l[s] (tldA l a l[s].a) = true → PastJ l e l[s].b) :
    clsA l[s] E (tldA l a l[s].a) (tldA l a l[s].b) = tstA l E (s : Int) := by
  have ⟨ha, hb⟩ := hD s hs
  rw [tstA_at hD hs]
  by_cases ht : twoC l[s].kind
  · have e1 := h.told ha (h1 (.inl ht))
    rw [if_pos (.inl ht), if_pos ht]
    have hk : ¬ l[s].kind = 1 := by unfold twoC at ht; omega
    unfold clsA
    rw [if_neg hk, if_pos ht, if_neg hk, if_pos ht, ← e1]
    split
    · rename_i hu
      exact h.told hb (h2 ht hu)
    · rfl
  · by_cases h2' : l[s].kind = 2
    · have e1 := h.told ha (h1 (.inr h2'))
      rw [if_pos (.inr h2')]
      have hk : ¬ l[s].kind = 1 := by omega
      unfold clsA
      rw [if_neg hk, if_neg ht, if_pos h2', if_neg hk, if_neg ht, if_pos h2', e1]
    · unfold clsA
      rw [if_neg ht, if_neg h2', if_neg ht, if_neg h2']
end
/-- How much is left to do. -/
def leftJ (e : List Bool) (st : List Nat) : Nat := 2 * e.count false + st.length
theorem leftJ_push {e : List Bool} {st : List Nat} {k : Nat} (hm : mkF e k = false) : leftJ (e.set k true) (k :: st) < leftJ e st := by
  have hc := count_set (L := e) (i := k) hm
  unfold leftJ
  simp only [List.length_cons]; omega
end Go.Proofs.Ythjnkjekidagiaa.Evl
namespace Go.Proofs.Ythjnkjekidagiaa.Evl
open Go.RowKit
open Prs (Ex Cn)
open Fnd (bx_cell bx_froz)

/-- The cells of one condition of a list; its two lists of nodes lie in memory. -/
structure CondCell (w : World) (cur : Array Value) (i : Nat) (c : Cn) (x y : Value) : Prop where
  c0 : cur[i * 7]? = some (.int .i64 c.kind)
  c1 : cur[i * 7 + 1]? = some (.int .i64 c.rel)
  c2 : cur[i * 7 + 2]? = some x
  c3 : cur[i * 7 + 3]? = some y
  c4 : cur[i * 7 + 4]? = some (.int .i64 c.a)
  c5 : cur[i * 7 + 5]? = some (.int .i64 c.b)
  c6 : cur[i * 7 + 6]? = some (.int .i64 c.place)
  lx : ListAt w x c.x
  ly : ListAt w y c.y
/-- A list of conditions lies in memory. -/
def CondsAt (w : World) (cv : Value) (l : List Cn) : Prop :=
  l.length ≤ 8193 ∧ ((cv = .slice none 0 0 ∧ l = []) ∨ ∃ b cap cur, cv = .slice (some ⟨b, 0, none⟩) l.length cap ∧ l.length ≤ cap ∧ cap ≤ maxLen ∧ w.heap[b]? = some (.cells cur 101 (0, 0)) ∧ ∀ i (hi : i < l.length), ∃ x y, CondCell w cur i l[i] x y)
theorem CondsAt.form {w : World} {cv : Value} {l : List Cn} (h : CondsAt w cv l) : ∃ a c, cv = .slice a l.length c := by
  rcases h.2 with ⟨h1, h2⟩ | ⟨b, cap, cur, h1, _⟩
  · exact ⟨none, 0, by rw [h1, h2]; rfl⟩
  · exact ⟨_, _, h1⟩
theorem CondCell.kept {w w' : World} {cur : Array Value} {i : Nat} {c : Cn} {x y : Value} (h : CondCell w cur i c x y) (hk : Kept w w') : CondCell w' cur i c x y :=
  ⟨h.c0, h.c1, h.c2, h.c3, h.c4, h.c5, h.c6, h.lx.kept hk, h.ly.kept hk⟩
theorem CondsAt.kept {w w' : World} {cv : Value} {l : List Cn} (h : CondsAt w cv l) (hk : Kept w w') : CondsAt w' cv l := by
  obtain ⟨h0, h | ⟨b, cap, cur, h1, h2, h3, h4, h5⟩⟩ := h
  · exact ⟨h0, .inl h⟩
  · refine ⟨h0, .inr ⟨b, cap, cur, h1, h2, h3, kh h4 hk, fun i hi => ?_⟩⟩
    obtain ⟨x, y, h6⟩ := h5 i hi
    exact ⟨x, y, h6.kept hk⟩
def fiC (a : Fi) : List Value := [.bool a.is, .int .i64 a.ub, .int .i64 a.at_]
def fis (l : List Fi) : Array Value := (l.flatMap fiC).toArray
def fiVal (a : Fi) : Value := .agg #[.bool a.is, .int .i64 a.ub, .int .i64 a.at_]
theorem fis_at (l : List Fi) (i : Nat) (hi : i < l.length) : (fis l)[i * 3]? = some (.bool l[i].is) ∧ (fis l)[i * 3 + 1]? = some (.int .i64 l[i].ub) ∧ (fis l)[i * 3 + 2]? = some (.int .i64 l[i].at_) := by
  unfold fis
  simp only [List.getElem?_toArray]
  induction l generalizing i with
  | nil => simp at hi
  | cons a l ih =>
    have hc : (a :: l).flatMap fiC = .bool a.is :: .int .i64 a.ub :: .int .i64 a.at_ :: l.flatMap fiC := rfl
    rw [hc]
    cases i with
    | zero => simp
    | succ i =>
      have := ih i (by simpa using hi)
      rw [show (i + 1) * 3 = i * 3 + 3 by omega]
      simpa using this
theorem fis_set (l : List Fi) (i : Nat) (hi : i < l.length) (x : Fi) : (((fis l).setIfInBounds (i * 3) (.bool x.is)).setIfInBounds (i * 3 + 1) (.int .i64 x.ub)).setIfInBounds (i * 3 + 2) (.int .i64 x.at_) = fis (l.set i x) := by
  unfold fis
  simp only [List.setIfInBounds_toArray]
  congr 1
  induction l generalizing i with
  | nil => simp at hi
  | cons a l ih =>
    have hc : ∀ (a : Fi) (l : List Fi), (a :: l).flatMap fiC = .bool a.is :: .int .i64 a.ub :: .int .i64 a.at_ :: l.flatMap fiC := fun _ _ => rfl
    cases i with
    | zero => simp [hc]
    | succ i =>
      have := ih i (by simpa using hi)
      rw [List.set_cons_succ, hc, hc, ← this, show (i + 1) * 3 = i * 3 + 3 by omega]
      simp
def jdCells (cv mv bv ov obv : Value) (E : Env) (n : Nat) (g h : Nat) : Array Value :=
  #[cv, mv, bv, ov, obv, .int .i64 E.res, .int .i64 E.t, .slice (some ⟨g, 0, none⟩) n n, .slice (some ⟨h, 0, none⟩) n n]
/-- The judge lies at q: g, h: the blocks of what is entered, and of the findings; what it was made of lay in w0. -/
structure Jd (w0 w : World) (q : Nat) (cv mv bv ov obv : Value) (l : List Cn) (E : Env) (g h : Nat) (e : List Bool) (a : List Fi) : Prop where
  kept : Kept w0 w
  loq : w0.heap.size ≤ q
  log : w0.heap.size ≤ g ∧ w0.heap.size ≤ h
  box : w.heap[q]? = some (.cells (jdCells cv mv bv ov obv E l.length g h) 118 (0, 0))
  eb : w.heap[g]? = some (.cells (bools e) 4 (0, 0))
  ab : w.heap[h]? = some (.cells (fis a) 107 (0, 0))
  el : e.length = l.length
  al : a.length = l.length
  list : CondsAt w0 cv l
  env : EnvAt w0 mv bv ov obv E
section
variable {w0 w w' : World} {q : Nat} {cv mv bv ov obv : Value} {l : List Cn} {E : Env} {g h : Nat} {e : List Bool} {a : List Fi}
theorem Jd.keep (H : Jd w0 w q cv mv bv ov obv l E g h e a) (hk : Kept w w') : Jd w0 w' q cv mv bv ov obv l E g h e a :=
  ⟨H.kept.trans hk, H.loq, H.log, kh H.box hk, kh H.eb hk, kh H.ab hk, H.el, H.al, H.list, H.env⟩
theorem nt_at {a : List Fi} {i : Nat} (h : i < a.length) : ntF a i = a[i] := by simp [ntF, h]
theorem mk_at {e : List Bool} {i : Nat} (h : i < e.length) : mkF e i = e[i] := by simp [mkF, h]
theorem Jd.fiCells (H : Jd w0 w q cv mv bv ov obv l E g h e a) {i : Nat} (hi : i < l.length) :
    w.cell? ⟨h, i * 3, none⟩ = some (.bool (ntF a i).is) ∧ w.cell? ⟨h, i * 3 + 1, none⟩ = some (.int .i64 (ntF a i).ub) ∧ w.cell? ⟨h, i * 3 + 2, none⟩ = some (.int .i64 (ntF a i).at_) := by
  have hl : i < a.length := by rw [H.al]; exact hi
  obtain ⟨a0, a1, a2⟩ := fis_at a i hl
  rw [nt_at hl]
  exact ⟨bx_cell H.ab _ _ a0, bx_cell H.ab _ _ a1, bx_cell H.ab _ _ a2⟩
theorem Jd.markCell (H : Jd w0 w q cv mv bv ov obv l E g h e a) {i : Nat} (hi : i < l.length) : w.cell? ⟨g, i, none⟩ = some (.bool (mkF e i)) ∧ w.frozen? ⟨g, i, none⟩ = false := by
  have hl : i < e.length := by rw [H.el]; exact hi
  rw [mk_at hl]
  exact ⟨bx_cell H.eb _ _ (bools_at _ _ hl), bx_froz H.eb _⟩
theorem Jd.mark (H : Jd w0 w q cv mv bv ov obv l E g h e a) (i : Nat) : Jd w0 (w.setCell ⟨g, i, none⟩ (.bool true)) q cv mv bv ov obv l E g h (e.set i true) a := by
  have hq := hne H.box H.eb (by decide)
  refine ⟨Below.setCell H.kept (p := ⟨g, i, none⟩) H.log.1 _, H.loq, H.log, (heap_setCell_other _ _ _ _ hq).trans H.box, ?_, ?_, by simpa using H.el, H.al, H.list, H.env⟩
  · rw [heap_setCell_same _ _ _ _ _ _ H.eb, bools_set]
  · rw [heap_setCell_other _ _ _ _ (hne H.ab H.eb (by decide))]; exact H.ab
theorem Jd.note (H : Jd w0 w q cv mv bv ov obv l E g h e a) {i : Nat} (hi : i < l.length) (x : Fi) :
    Jd w0 (((w.setCell ⟨h, i * 3, none⟩ (.bool x.is)).setCell ⟨h, i * 3 + 1, none⟩ (.int .i64 x.ub)).setCell ⟨h, i * 3 + 2, none⟩ (.int .i64 x.at_)) q cv mv bv ov obv l E g h e (a.set i x) := by
  have hl := H.log.2
  have e1 := heap_setCell_same w h (i * 3) _ _ (.bool x.is) H.ab
  have e2 := heap_setCell_same _ h (i * 3 + 1) _ _ (.int .i64 x.ub) e1
  have e3 := heap_setCell_same _ h (i * 3 + 2) _ _ (.int .i64 x.at_) e2
  have ot : ∀ k, k ≠ h → (((w.setCell ⟨h, i * 3, none⟩ (.bool x.is)).setCell ⟨h, i * 3 + 1, none⟩ (.int .i64 x.ub)).setCell ⟨h, i * 3 + 2, none⟩ (.int .i64 x.at_)).heap[k]? = w.heap[k]? := fun k hk => by
    rw [heap_setCell_other _ _ _ _ hk, heap_setCell_other _ _ _ _ hk, heap_setCell_other _ _ _ _ hk]
  refine ⟨((Below.setCell H.kept (p := ⟨h, i * 3, none⟩) hl _).setCell (p := ⟨h, i * 3 + 1, none⟩) hl _).setCell (p := ⟨h, i * 3 + 2, none⟩) hl _, H.loq, H.log, (ot _ (hne H.box H.ab (by decide))).trans H.box, (ot _ (hne H.eb H.ab (by decide))).trans H.eb, ?_, H.el, by simpa using H.al, H.list, H.env⟩
  rw [e3, fis_set _ _ (by rw [H.al]; exact hi)]
theorem put3 {w W : World} {i : Nat} {x0 x1 x2 : Value} {t : TypeId} (a b c : Value) (hi : w.heap.size ≤ i) (hk : Kept w W) (h3 : W.heap[i]? = some (.cells #[x0, x1, x2] t (0, 0))) :
    (((W.setCell ⟨i, 0, none⟩ a).setCell ⟨i, 1, none⟩ b).setCell ⟨i, 2, none⟩ c).heap[i]? = some (.cells #[a, b, c] t (0, 0)) ∧ Kept w (((W.setCell ⟨i, 0, none⟩ a).setCell ⟨i, 1, none⟩ b).setCell ⟨i, 2, none⟩ c) := by
  have e1 := heap_setCell_same W i 0 _ _ a h3
  have e2 := heap_setCell_same _ i 1 _ _ b e1
  have e3 := heap_setCell_same _ i 2 _ _ c e2
  exact ⟨by simpa using e3, ((Below.setCell hk (p := ⟨i, 0, none⟩) hi _).setCell (p := ⟨i, 1, none⟩) hi _).setCell (p := ⟨i, 2, none⟩) hi _⟩
set_option maxRecDepth 100000 in
set_option maxHeartbeats 4000000 in
theorem jtold_any (H : Jd w0 w q cv mv bv ov obv l E g h e a) (k : Int) : Calls Try.prog 58 #[.pointer (some ⟨q, 0, none⟩), .int .i64 k] w fun x w' => x = .returned (fiVal (tldA l a k)) ∧ Kept w w' := by
  obtain ⟨la, lc, hlv⟩ := H.list.form
  have hn := H.list.1
  subst hlv
  unfold tldA
  by_cases h0 : k < 0
  · rw [if_neg (by omega)]
    unfold fiVal Fi.none
    go_enter Try.func58, Try.ntmps58
    go_upto_region 1 with fail
    have x0 := World.alloc_heap_new w (.cells #[.bool false, .int .i64 0, .int .i64 0] 107)
    have kW := (Kept.refl w).alloc (.cells #[.bool false, .int .i64 0, .int .i64 0] 107)
    generalize w.alloc (.cells #[.bool false, .int .i64 0, .int .i64 0] 107) = W at *
    have r0 := bx_cell x0 0 _ rfl
    have r1 := bx_cell x0 1 _ rfl
    have r2 := bx_cell x0 2 _ rfl
    have rf := bx_froz x0
    have hB := kh H.box kW
    have c0 := bx_cell hB 0 _ rfl
    simp only [jdCells] at c0
    have X := Lib.hid x0
    have KW := Lib.hid kW
    clear x0 kW hB H
    go_wp2
    have s := put3 (w := w) (W := W) (i := w.heap.size) (.bool false) (.int .i64 0) (.int .i64 0) (by omega) KW.out X.out
    have z0 := bx_cell s.1 0 _ rfl
    have z1 := bx_cell s.1 1 _ rfl
    have z2 := bx_cell s.1 2 _ rfl
    have S := Lib.hid s.2
    clear s
    simp [bodyPost, results, Try.f58, go_sem, z0, z1, z2]
    exact S.out
  by_cases h1 : (l.length : Int) ≤ k
  · have h0' : (0 : Int) ≤ k := by omega
    rw [if_neg (by omega)]
    unfold fiVal Fi.none
    go_enter Try.func58, Try.ntmps58
    go_upto_region 1 with fail
    have x0 := World.alloc_heap_new w (.cells #[.bool false, .int .i64 0, .int .i64 0] 107)
    have kW := (Kept.refl w).alloc (.cells #[.bool false, .int .i64 0, .int .i64 0] 107)
    generalize w.alloc (.cells #[.bool false, .int .i64 0, .int .i64 0] 107) = W at *
    have r0 := bx_cell x0 0 _ rfl
    have r1 := bx_cell x0 1 _ rfl
    have r2 := bx_cell x0 2 _ rfl
    have rf := bx_froz x0
    have hB := kh H.box kW
    have c0 := bx_cell hB 0 _ rfl
    simp only [jdCells] at c0
    have X := Lib.hid x0
    have KW := Lib.hid kW
    clear x0 kW hB H
    go_wp2
    have s := put3 (w := w) (W := W) (i := w.heap.size) (.bool false) (.int .i64 0) (.int .i64 0) (by omega) KW.out X.out
    have z0 := bx_cell s.1 0 _ rfl
    have z1 := bx_cell s.1 1 _ rfl
    have z2 := bx_cell s.1 2 _ rfl
    have S := Lib.hid s.2
    clear s
    simp [bodyPost, results, Try.f58, go_sem, z0, z1, z2]
    exact S.out
  obtain ⟨i, rfl⟩ := Int.eq_ofNat_of_zero_le (by omega : 0 ≤ k)
  have hi : i < l.length := by omega
  rw [if_pos (by omega)]
  simp only [Int.toNat_natCast]
  have hA := fun (w' : World) (hk : Kept w w') => (H.keep hk).fiCells hi
  unfold fiVal
  generalize ntF a i = V at *
  have hi1 : ((i : Int) < (l.length : Int)) := by omega
  have hlc : (1 : Nat) ≤ l.length := by omega
  clear h0 h1
  go_enter Try.func58, Try.ntmps58
  go_upto_region 1 with fail
  have x0 := World.alloc_heap_new w (.cells #[.bool false, .int .i64 0, .int .i64 0] 107)
  have kW := (Kept.refl w).alloc (.cells #[.bool false, .int .i64 0, .int .i64 0] 107)
  generalize w.alloc (.cells #[.bool false, .int .i64 0, .int .i64 0] 107) = W at *
  have r0 := bx_cell x0 0 _ rfl
  have r1 := bx_cell x0 1 _ rfl
  have r2 := bx_cell x0 2 _ rfl
  have rf := bx_froz x0
  have hB := kh H.box kW
  have c0 := bx_cell hB 0 _ rfl
  have c8 := bx_cell hB 8 _ rfl
  simp only [jdCells] at c0 c8
  obtain ⟨v0, v1, v2⟩ := hA _ kW
  have X := Lib.hid x0
  have KW := Lib.hid kW
  clear x0 kW hB H hA
  have hnn : ((i : Int) < 0) = False := by simp
  have hnb : decide ((i : Int) < 0) = false := by simp
  go_wp2
  have s := put3 (w := w) (W := W) (i := w.heap.size) (.bool V.is) (.int .i64 V.ub) (.int .i64 V.at_) (by omega) KW.out X.out
  have z0 := bx_cell s.1 0 _ rfl
  have z1 := bx_cell s.1 1 _ rfl
  have z2 := bx_cell s.1 2 _ rfl
  have S := Lib.hid s.2
  clear s
  simp [bodyPost, results, Try.f58, go_sem, z0, z1, z2]
  exact S.out
end
end Go.Proofs.Ythjnkjekidagiaa.Evl
namespace Go.Proofs.Ythjnkjekidagiaa.Evl
open Go.RowKit
open Prs (Ex Cn)
open Fnd (bx_cell bx_froz)
/-- The blocks that the judge writes. -/
def OwnJ (g h k : Nat) : Prop := k = g ∨ k = h
section
variable {w0 w w' : World} {q : Nat} {cv mv bv ov obv : Value} {l : List Cn} {E : Env} {g h : Nat} {e : List Bool} {a : List Fi}
set_option maxRecDepth 100000 in
set_option maxHeartbeats 4000000 in
theorem jenter_no (H : Jd w0 w q cv mv bv ov obv l E g h e a) (k : Int) (hp : PastJ l e k) : Calls Try.prog 54 #[.pointer (some ⟨q, 0, none⟩), .int .i64 k] w fun x w' => x = .returned (.bool false) ∧ Kept w w' := by
  obtain ⟨la, lc, hlv⟩ := H.list.form
  have hn := H.list.1
  subst hlv
  have hB := H.box
  have c0 := bx_cell hB 0 _ rfl
  have c7 := bx_cell hB 7 _ rfl
  simp only [jdCells] at c0 c7
  clear hB
  by_cases h0 : k < 0
  · clear H
    go_enter Try.func54, Try.ntmps54
    go_upto_region 1 with fail
    go_wp2
    go_ret
    exact ⟨rfl, Kept.refl w⟩
  by_cases h1 : (l.length : Int) ≤ k
  · have h0' : (0 : Int) ≤ k := by omega
    clear H
    go_enter Try.func54, Try.ntmps54
    go_upto_region 1 with fail
    go_wp2
    go_ret
    exact ⟨rfl, Kept.refl w⟩
  obtain ⟨i, rfl⟩ := Int.eq_ofNat_of_zero_le (by omega : 0 ≤ k)
  have hi : i < l.length := by omega
  have hm : mkF e i = true := by
    rcases hp with h | h | h
    · exact absurd h h0
    · exact absurd h h1
    · exact h
  have m0 := (H.markCell hi).1
  rw [hm] at m0
  have hi1 : ((i : Int) < (l.length : Int)) := by omega
  have hlc : (1 : Nat) ≤ l.length := by omega
  clear h0 h1 hp hm H
  have hnb : decide ((i : Int) < 0) = false := by simp
  have hnc : decide ((l.length : Int) ≤ (i : Int)) = false := by simp; omega
  have hnd : decide (l.length ≤ i) = false := by simp; omega
  have hne0 : ¬ ((i : Int) < 0) := by omega
  have hne1 : ¬ ((l.length : Int) ≤ (i : Int)) := by omega
  go_enter Try.func54, Try.ntmps54
  go_upto_region 1 with fail
  go_wp2
  go_ret
  exact ⟨rfl, Kept.refl w⟩
set_option maxRecDepth 100000 in
set_option maxHeartbeats 4000000 in
theorem jenter_yes (H : Jd w0 w q cv mv bv ov obv l E g h e a) {i : Nat} (hi : i < l.length) (hm : mkF e i = false) : Calls Try.prog 54 #[.pointer (some ⟨q, 0, none⟩), .int .i64 (i : Int)] w fun x w' => x = .returned (.bool true) ∧ Hid (Jd w0 w' q cv mv bv ov obv l E g h (e.set i true) a ∧ Rpr.Chg (OwnJ g h) w w') := by
  obtain ⟨la, lc, hlv⟩ := H.list.form
  have hn := H.list.1
  subst hlv
  have hB := H.box
  have c0 := bx_cell hB 0 _ rfl
  have c7 := bx_cell hB 7 _ rfl
  simp only [jdCells] at c0 c7
  clear hB
  obtain ⟨m0, mf⟩ := H.markCell hi
  rw [hm] at m0
  have HH := Lib.hid H
  have hi1 : ((i : Int) < (l.length : Int)) := by omega
  have hlc : (1 : Nat) ≤ l.length := by omega
  clear hm H
  have hnb : decide ((i : Int) < 0) = false := by simp
  have hnc : decide ((l.length : Int) ≤ (i : Int)) = false := by simp; omega
  have hnd : decide (l.length ≤ i) = false := by simp; omega
  have hne0 : ¬ ((i : Int) < 0) := by omega
  have hne1 : ¬ ((l.length : Int) ≤ (i : Int)) := by omega
  go_enter Try.func54, Try.ntmps54
  go_upto_region 1 with fail
  go_wp2
  go_wp2
  go_ret
  refine ⟨rfl, Lib.hid ⟨?_, ?_⟩⟩
  · exact (HH.out.keep (Kept.refl w)).mark i
  · exact (Rpr.Chg.of_kept (Kept.refl w)).setCell (fun _ => .inl rfl) _
def condVal (c : Cn) (x y : Value) : Value := .agg #[.int .i64 c.kind, .int .i64 c.rel, x, y, .int .i64 c.a, .int .i64 c.b, .int .i64 c.place]
set_option maxRecDepth 100000 in
set_option maxHeartbeats 4000000 in
theorem und_any (H : Jd w0 w q cv mv bv ov obv l E g h e a) (c : Cn) (xa ya : Option Addr) (xn xc yn yc : Nat) : Calls Try.prog 65 #[.pointer (some ⟨q, 0, none⟩), .agg #[.int .i64 c.kind, .int .i64 c.rel, .slice xa xn xc, .slice ya yn yc, .int .i64 c.a, .int .i64 c.b, .int .i64 c.place]] w fun x w' => x = .returned (.bool (undA c (tldA l a c.a))) ∧ Kept w w' := by
  have HT := Lib.hid (fun w1 (hk : Kept w w1) => jtold_any (H.keep hk) c.a)
  generalize hV : tldA l a c.a = V at *
  unfold fiVal at HT
  clear H hV
  unfold undA
  by_cases hk3 : c.kind = 3
  case' pos =>
    have hkb : ((c.kind : Int) == 3) = true := by simp; omega
    rw [show decide (c.kind = 3) = true from decide_eq_true hk3]
  case' neg =>
    have hkb : ((c.kind : Int) == 3) = false := by rw [beq_eq_false_iff_ne]; omega
    rw [show decide (c.kind = 3) = false from decide_eq_false hk3]
  all_goals
    clear hk3
    by_cases hu : V.ub = 0
    case' pos =>
      have hub : (V.ub == 0) = true := by simpa using hu
      rw [show decide (V.ub = 0) = true from decide_eq_true hu]
    case' neg =>
      have hub : (V.ub == 0) = false := by simpa using hu
      rw [show decide (V.ub = 0) = false from decide_eq_false hu]
  all_goals
    clear hu
    go_enter Try.func65, Try.ntmps65
    go_upto_region 1 with fail
    have x0 := World.alloc_heap_new w (.cells #[.int .i64 c.kind, .int .i64 c.rel, .slice xa xn xc, .slice ya yn yc, .int .i64 c.a, .int .i64 c.b, .int .i64 c.place] 101)
    have kW := (Kept.refl w).alloc (.cells #[.int .i64 c.kind, .int .i64 c.rel, .slice xa xn xc, .slice ya yn yc, .int .i64 c.a, .int .i64 c.b, .int .i64 c.place] 101)
    generalize w.alloc (.cells #[.int .i64 c.kind, .int .i64 c.rel, .slice xa xn xc, .slice ya yn yc, .int .i64 c.a, .int .i64 c.b, .int .i64 c.place] 101) = W at *
    generalize w.heap.size = cb at *
    have c4 := bx_cell x0 4 _ rfl
    have X := Lib.hid x0
    have KW := Lib.hid kW
    clear x0 kW
    go_upto_region 2 with (go_at_call 58; refine (HT.out _ KW.out).mono ?_; rintro e1 w1 ⟨rfl, k1⟩; have X1 := Lib.hid (kh X.out k1); have K1 := Lib.hid (KW.out.trans k1); clear k1 c4 HT)
    have z := World.alloc_heap_new w1 (.cells #[.bool V.is, .int .i64 V.ub, .int .i64 V.at_] 107)
    have k6 := (Kept.refl w1).alloc (.cells #[.bool V.is, .int .i64 V.ub, .int .i64 V.at_] 107)
    generalize w1.alloc (.cells #[.bool V.is, .int .i64 V.ub, .int .i64 V.at_] 107) = W6 at *
    have z0 := bx_cell z 0 _ rfl
    have z1 := bx_cell z 1 _ rfl
    have c0 := bx_cell (kh X1.out k6) 0 _ rfl
    have K6 := Lib.hid (K1.out.trans k6)
    clear z k6
    go_wp2
    go_ret
    refine ⟨?_, K6.out⟩
    first | rfl | simp | (cases V.is <;> rfl)
end
end Go.Proofs.Ythjnkjekidagiaa.Evl
namespace Go.Proofs.Ythjnkjekidagiaa.Evl
open Go.RowKit
open Prs (Ex Cn)
open Fnd (bx_cell bx_froz)
section
variable {w0 w w' : World} {q : Nat} {cv mv bv ov obv : Value} {l : List Cn} {E : Env} {g h : Nat} {e : List Bool} {a : List Fi}
/-- What is there of a place: it can be entered, or it is past. -/
theorem open_orJ (l : List Cn) (e : List Bool) (k : Int) : (∃ i : Nat, k = i ∧ i < l.length ∧ mkF e i = false) ∨ PastJ l e k := by
  unfold PastJ
  by_cases h0 : k < 0
  · exact .inr (.inl h0)
  by_cases h1 : (l.length : Int) ≤ k
  · exact .inr (.inr (.inl h1))
  obtain ⟨i, rfl⟩ := Int.eq_ofNat_of_zero_le (by omega : 0 ≤ k)
  cases hm : mkF e i with
  | false => exact .inl ⟨i, rfl, by omega, hm⟩
  | true => exact .inr (.inr (.inr (by simpa using hm)))
theorem CondsAt.cells (h : CondsAt w cv l) {i : Nat} (hi : i < l.length) : ∃ b cap xa xc ya yc, cv = .slice (some ⟨b, 0, none⟩) l.length cap ∧ l.length ≤ cap ∧ cap ≤ maxLen ∧ b < w.heap.size ∧ ListAt w (.slice xa l[i].x.length xc) l[i].x ∧ ListAt w (.slice ya l[i].y.length yc) l[i].y ∧
    ∀ w', Kept w w' → w'.cell? ⟨b, i * 7, none⟩ = some (.int .i64 l[i].kind) ∧ w'.cell? ⟨b, i * 7 + 1, none⟩ = some (.int .i64 l[i].rel) ∧ w'.cell? ⟨b, i * 7 + 2, none⟩ = some (.slice xa l[i].x.length xc) ∧ w'.cell? ⟨b, i * 7 + 3, none⟩ = some (.slice ya l[i].y.length yc) ∧ w'.cell? ⟨b, i * 7 + 4, none⟩ = some (.int .i64 l[i].a) ∧ w'.cell? ⟨b, i * 7 + 5, none⟩ = some (.int .i64 l[i].b) ∧ w'.cell? ⟨b, i * 7 + 6, none⟩ = some (.int .i64 l[i].place) := by
  rcases h.2 with ⟨_, h2⟩ | ⟨b, cap, cur, h1, h2, h3, h4, h5⟩
  · subst h2; simp at hi
  · obtain ⟨x, y, hc⟩ := h5 i hi
    obtain ⟨xa, xc, hx⟩ := hc.lx.form
    obtain ⟨ya, yc, hy⟩ := hc.ly.form
    subst hx hy
    exact ⟨b, cap, xa, xc, ya, yc, h1, h2, h3, (Array.getElem?_eq_some_iff.1 h4).1, hc.lx, hc.ly, fun w' hk =>
      ⟨bx_cell (kh h4 hk) _ _ hc.c0, bx_cell (kh h4 hk) _ _ hc.c1, bx_cell (kh h4 hk) _ _ hc.c2, bx_cell (kh h4 hk) _ _ hc.c3, bx_cell (kh h4 hk) _ _ hc.c4, bx_cell (kh h4 hk) _ _ hc.c5, bx_cell (kh h4 hk) _ _ hc.c6⟩⟩
theorem Jd.stay (H : Jd w0 w q cv mv bv ov obv l E g h e a) (hc : Rpr.Chg (OwnJ g h) w w') {b : Nat} {c : Array Value} {t : TypeId} (hb : w.heap[b]? = some (.cells c t (0, 0))) (h1 : t ≠ 4) (h2 : t ≠ 107) : w'.heap[b]? = some (.cells c t (0, 0)) :=
  hc.heap hb fun hs => by
    rcases hs with rfl | rfl
    · exact hne hb H.eb h1 rfl
    · exact hne hb H.ab h2 rfl
/-- A place's kids are past. -/
def KidsPast (l : List Cn) (e : List Bool) (a : List Fi) (c : Cn) : Prop := ((twoC c.kind ∨ c.kind = 2) → PastJ l e c.a) ∧ (twoC c.kind → undA c (tldA l a c.a) = true → PastJ l e c.b)
/-- What openKid tells. -/
def Opened (w0 w w' : World) (q : Nat) (cv mv bv ov obv : Value) (l : List Cn) (E : Env) (g h : Nat) (e : List Bool) (a : List Fi) (c : Cn) (k0 : Int) (bb : Bool) : Prop :=
  Rpr.Chg (OwnJ g h) w w' ∧ ((bb = true ∧ ∃ i : Nat, k0 = i ∧ (k0 = c.a ∨ k0 = c.b) ∧ Jd w0 w' q cv mv bv ov obv l E g h (e.set i true) a ∧ i < l.length ∧ mkF e i = false) ∨ (bb = false ∧ Jd w0 w' q cv mv bv ov obv l E g h e a ∧ KidsPast l e a c))

set_option maxRecDepth 100000 in
set_option maxHeartbeats 4000000 in
theorem openA3 (H : Jd w0 w q cv mv bv ov obv l E g h e a) {i : Nat} (hi : i < l.length) (hk : l[i].kind = 3) {j : Nat} (hj0 : l[i].a = j) (hjl : j < l.length) (hm : mkF e j = false) : Calls Try.prog 56 #[.pointer (some ⟨q, 0, none⟩), .int .i64 (i : Int)] w fun x w' => ∃ k0 bb, x = .returned (.tuple #[.int .i64 k0, .bool bb]) ∧ Hid (Opened w0 w w' q cv mv bv ov obv l E g h e a l[i] k0 bb) := by
  have hk3 : ((l[i].kind : Int) == 3) = true := by rw [hk]; rfl
  have hk4 : ((l[i].kind : Int) == 4) = false := by rw [hk]; rfl
  have hk2 : ((l[i].kind : Int) == 2) = false := by rw [hk]; rfl
  clear hk
  have hj := Lib.hid hj0
  clear hj0
  obtain ⟨b, cap, xa, xc, ya, yc, hcv, hcap, hmax, hbw, -, -, hcell⟩ := (H.list.kept H.kept).cells hi
  have hn := H.list.1
  subst hcv
  have hqw := (Array.getElem?_eq_some_iff.1 H.box).1
  have q0 := bx_cell H.box 0 _ rfl
  simp only [jdCells] at q0
  obtain ⟨m0, m1, m2, m3, m4, m5, m6⟩ := hcell _ (Kept.refl w)
  have HH := Lib.hid H
  have hi1 : ((i : Int) < (l.length : Int)) := by omega
  clear hcell
  generalize l[i] = x at *
  clear H
  go_enter Try.func56, Try.ntmps56
  go_upto_region 2 with fail
  have x0 := World.alloc_heap_new w (.cells #[.int .i64 x.kind, .int .i64 x.rel, .slice xa x.x.length xc, .slice ya x.y.length yc, .int .i64 x.a, .int .i64 x.b, .int .i64 x.place] 101)
  have kW := (Kept.refl w).alloc (.cells #[.int .i64 x.kind, .int .i64 x.rel, .slice xa x.x.length xc, .slice ya x.y.length yc, .int .i64 x.a, .int .i64 x.b, .int .i64 x.place] 101)
  generalize w.alloc (.cells #[.int .i64 x.kind, .int .i64 x.rel, .slice xa x.x.length xc, .slice ya x.y.length yc, .int .i64 x.a, .int .i64 x.b, .int .i64 x.place] 101) = W at *
  generalize w.heap.size = cb at *
  have c0 := bx_cell x0 0 _ rfl
  have c1 := bx_cell x0 1 _ rfl
  have c2 := bx_cell x0 2 _ rfl
  have c3 := bx_cell x0 3 _ rfl
  have c4 := bx_cell x0 4 _ rfl
  have c5 := bx_cell x0 5 _ rfl
  have c6 := bx_cell x0 6 _ rfl
  have X := Lib.hid x0
  have KW := Lib.hid kW
  have HW := Lib.hid (HH.out.keep kW)
  clear x0 kW m0 m1 m2 m3 m4 m5 m6
  have HE := Lib.hid (jenter_yes HW.out hjl hm)
  rw [← hj.out] at HE
  go_upto_region 6 with (go_at_call 54; refine (HE.out).mono ?_; rintro e1 w1 ⟨rfl, H1⟩; have X1 := Lib.hid (HW.out.stay H1.out.2 X.out (by decide) (by decide)); have c4' := bx_cell X1.out 4 _ rfl; clear c0 c1 c2 c3 c4 c5 c6)
  go_wp2
  simp [bodyPost, results, Try.f56, go_sem]
  exact Lib.hid ⟨(Rpr.Chg.of_kept KW.out).then H1.out.2, .inl ⟨rfl, j, hj.out, .inl rfl, H1.out.1, hjl, hm⟩⟩

set_option maxRecDepth 100000 in
set_option maxHeartbeats 4000000 in
theorem openA4 (H : Jd w0 w q cv mv bv ov obv l E g h e a) {i : Nat} (hi : i < l.length) (hk : l[i].kind = 4) {j : Nat} (hj0 : l[i].a = j) (hjl : j < l.length) (hm : mkF e j = false) : Calls Try.prog 56 #[.pointer (some ⟨q, 0, none⟩), .int .i64 (i : Int)] w fun x w' => ∃ k0 bb, x = .returned (.tuple #[.int .i64 k0, .bool bb]) ∧ Hid (Opened w0 w w' q cv mv bv ov obv l E g h e a l[i] k0 bb) := by
  have hk3 : ((l[i].kind : Int) == 3) = false := by rw [hk]; rfl
  have hk4 : ((l[i].kind : Int) == 4) = true := by rw [hk]; rfl
  have hk2 : ((l[i].kind : Int) == 2) = false := by rw [hk]; rfl
  clear hk
  have hj := Lib.hid hj0
  clear hj0
  obtain ⟨b, cap, xa, xc, ya, yc, hcv, hcap, hmax, hbw, -, -, hcell⟩ := (H.list.kept H.kept).cells hi
  have hn := H.list.1
  subst hcv
  have hqw := (Array.getElem?_eq_some_iff.1 H.box).1
  have q0 := bx_cell H.box 0 _ rfl
  simp only [jdCells] at q0
  obtain ⟨m0, m1, m2, m3, m4, m5, m6⟩ := hcell _ (Kept.refl w)
  have HH := Lib.hid H
  have hi1 : ((i : Int) < (l.length : Int)) := by omega
  clear hcell
  generalize l[i] = x at *
  clear H
  go_enter Try.func56, Try.ntmps56
  go_upto_region 2 with fail
  have x0 := World.alloc_heap_new w (.cells #[.int .i64 x.kind, .int .i64 x.rel, .slice xa x.x.length xc, .slice ya x.y.length yc, .int .i64 x.a, .int .i64 x.b, .int .i64 x.place] 101)
  have kW := (Kept.refl w).alloc (.cells #[.int .i64 x.kind, .int .i64 x.rel, .slice xa x.x.length xc, .slice ya x.y.length yc, .int .i64 x.a, .int .i64 x.b, .int .i64 x.place] 101)
  generalize w.alloc (.cells #[.int .i64 x.kind, .int .i64 x.rel, .slice xa x.x.length xc, .slice ya x.y.length yc, .int .i64 x.a, .int .i64 x.b, .int .i64 x.place] 101) = W at *
  generalize w.heap.size = cb at *
  have c0 := bx_cell x0 0 _ rfl
  have c1 := bx_cell x0 1 _ rfl
  have c2 := bx_cell x0 2 _ rfl
  have c3 := bx_cell x0 3 _ rfl
  have c4 := bx_cell x0 4 _ rfl
  have c5 := bx_cell x0 5 _ rfl
  have c6 := bx_cell x0 6 _ rfl
  have X := Lib.hid x0
  have KW := Lib.hid kW
  have HW := Lib.hid (HH.out.keep kW)
  clear x0 kW m0 m1 m2 m3 m4 m5 m6
  have HE := Lib.hid (jenter_yes HW.out hjl hm)
  rw [← hj.out] at HE
  go_upto_region 6 with (go_at_call 54; refine (HE.out).mono ?_; rintro e1 w1 ⟨rfl, H1⟩; have X1 := Lib.hid (HW.out.stay H1.out.2 X.out (by decide) (by decide)); have c4' := bx_cell X1.out 4 _ rfl; clear c0 c1 c2 c3 c4 c5 c6)
  go_wp2
  simp [bodyPost, results, Try.f56, go_sem]
  exact Lib.hid ⟨(Rpr.Chg.of_kept KW.out).then H1.out.2, .inl ⟨rfl, j, hj.out, .inl rfl, H1.out.1, hjl, hm⟩⟩

set_option maxRecDepth 100000 in
set_option maxHeartbeats 4000000 in
theorem openB3n (H : Jd w0 w q cv mv bv ov obv l E g h e a) {i : Nat} (hi : i < l.length) (hk : l[i].kind = 3) (hp : PastJ l e l[i].a) (hu : undA l[i] (tldA l a l[i].a) = false) : Calls Try.prog 56 #[.pointer (some ⟨q, 0, none⟩), .int .i64 (i : Int)] w fun x w' => ∃ k0 bb, x = .returned (.tuple #[.int .i64 k0, .bool bb]) ∧ Hid (Opened w0 w w' q cv mv bv ov obv l E g h e a l[i] k0 bb) := by
  have hk3 : ((l[i].kind : Int) == 3) = true := by rw [hk]; rfl
  have hk4 : ((l[i].kind : Int) == 4) = false := by rw [hk]; rfl
  have hk2 : ((l[i].kind : Int) == 2) = false := by rw [hk]; rfl
  obtain ⟨b, cap, xa, xc, ya, yc, hcv, hcap, hmax, hbw, -, -, hcell⟩ := (H.list.kept H.kept).cells hi
  have hn := H.list.1
  subst hcv
  have hqw := (Array.getElem?_eq_some_iff.1 H.box).1
  have q0 := bx_cell H.box 0 _ rfl
  simp only [jdCells] at q0
  obtain ⟨m0, m1, m2, m3, m4, m5, m6⟩ := hcell _ (Kept.refl w)
  have HH := Lib.hid H
  have hi1 : ((i : Int) < (l.length : Int)) := by omega
  clear hcell
  have HU := Lib.hid (fun w1 (hk : Kept w w1) => und_any (H.keep hk) l[i] xa ya l[i].x.length xc l[i].y.length yc)
  rw [hu] at HU
  have hkk := Lib.hid hk
  have huu := Lib.hid hu
  clear hu hk
  generalize l[i] = x at *
  clear H
  go_enter Try.func56, Try.ntmps56
  go_upto_region 2 with fail
  have x0 := World.alloc_heap_new w (.cells #[.int .i64 x.kind, .int .i64 x.rel, .slice xa x.x.length xc, .slice ya x.y.length yc, .int .i64 x.a, .int .i64 x.b, .int .i64 x.place] 101)
  have kW := (Kept.refl w).alloc (.cells #[.int .i64 x.kind, .int .i64 x.rel, .slice xa x.x.length xc, .slice ya x.y.length yc, .int .i64 x.a, .int .i64 x.b, .int .i64 x.place] 101)
  generalize w.alloc (.cells #[.int .i64 x.kind, .int .i64 x.rel, .slice xa x.x.length xc, .slice ya x.y.length yc, .int .i64 x.a, .int .i64 x.b, .int .i64 x.place] 101) = W at *
  generalize w.heap.size = cb at *
  have c0 := bx_cell x0 0 _ rfl
  have c1 := bx_cell x0 1 _ rfl
  have c2 := bx_cell x0 2 _ rfl
  have c3 := bx_cell x0 3 _ rfl
  have c4 := bx_cell x0 4 _ rfl
  have c5 := bx_cell x0 5 _ rfl
  have c6 := bx_cell x0 6 _ rfl
  have X := Lib.hid x0
  have KW := Lib.hid kW
  have HW := Lib.hid (HH.out.keep kW)
  clear x0 kW m0 m1 m2 m3 m4 m5 m6
  have HE := Lib.hid (jenter_no HW.out _ hp)
  go_upto_region 7 with (go_at_call 54; refine (HE.out).mono ?_; rintro e1 w1 ⟨rfl, k1⟩; have X1 := Lib.hid (kh X.out k1); have K1 := Lib.hid (KW.out.trans k1); clear k1 c0 c1 c2 c3 c4 c5 c6; have c0 := bx_cell X1.out 0 _ rfl; have c1 := bx_cell X1.out 1 _ rfl; have c2 := bx_cell X1.out 2 _ rfl; have c3 := bx_cell X1.out 3 _ rfl; have c4 := bx_cell X1.out 4 _ rfl; have c5 := bx_cell X1.out 5 _ rfl; have c6 := bx_cell X1.out 6 _ rfl)
  go_upto_region 11 with (go_at_call 65; refine (HU.out _ K1.out).mono ?_; rintro e2 w2 ⟨rfl, k2⟩; have X2 := Lib.hid (kh X1.out k2); have K2 := Lib.hid (K1.out.trans k2); clear k2 c0 c1 c2 c3 c4 c5 c6; have c5 := bx_cell X2.out 5 _ rfl)
  go_wp2
  simp [bodyPost, results, Try.f56, go_sem]
  exact Lib.hid ⟨Rpr.Chg.of_kept K2.out, .inr ⟨rfl, HH.out.keep K2.out, fun _ => hp, fun _ h => absurd h (by rw [huu.out]; simp)⟩⟩

set_option maxRecDepth 100000 in
set_option maxHeartbeats 4000000 in
theorem openB3p (H : Jd w0 w q cv mv bv ov obv l E g h e a) {i : Nat} (hi : i < l.length) (hk : l[i].kind = 3) (hp : PastJ l e l[i].a) (hu : undA l[i] (tldA l a l[i].a) = true) (hp2 : PastJ l e l[i].b) : Calls Try.prog 56 #[.pointer (some ⟨q, 0, none⟩), .int .i64 (i : Int)] w fun x w' => ∃ k0 bb, x = .returned (.tuple #[.int .i64 k0, .bool bb]) ∧ Hid (Opened w0 w w' q cv mv bv ov obv l E g h e a l[i] k0 bb) := by
  have hk3 : ((l[i].kind : Int) == 3) = true := by rw [hk]; rfl
  have hk4 : ((l[i].kind : Int) == 4) = false := by rw [hk]; rfl
  have hk2 : ((l[i].kind : Int) == 2) = false := by rw [hk]; rfl
  obtain ⟨b, cap, xa, xc, ya, yc, hcv, hcap, hmax, hbw, -, -, hcell⟩ := (H.list.kept H.kept).cells hi
  have hn := H.list.1
  subst hcv
  have hqw := (Array.getElem?_eq_some_iff.1 H.box).1
  have q0 := bx_cell H.box 0 _ rfl
  simp only [jdCells] at q0
  obtain ⟨m0, m1, m2, m3, m4, m5, m6⟩ := hcell _ (Kept.refl w)
  have HH := Lib.hid H
  have hi1 : ((i : Int) < (l.length : Int)) := by omega
  clear hcell
  have HU := Lib.hid (fun w1 (hk : Kept w w1) => und_any (H.keep hk) l[i] xa ya l[i].x.length xc l[i].y.length yc)
  rw [hu] at HU
  have hkk := Lib.hid hk
  have huu := Lib.hid hu
  clear hu hk
  generalize l[i] = x at *
  clear H
  go_enter Try.func56, Try.ntmps56
  go_upto_region 2 with fail
  have x0 := World.alloc_heap_new w (.cells #[.int .i64 x.kind, .int .i64 x.rel, .slice xa x.x.length xc, .slice ya x.y.length yc, .int .i64 x.a, .int .i64 x.b, .int .i64 x.place] 101)
  have kW := (Kept.refl w).alloc (.cells #[.int .i64 x.kind, .int .i64 x.rel, .slice xa x.x.length xc, .slice ya x.y.length yc, .int .i64 x.a, .int .i64 x.b, .int .i64 x.place] 101)
  generalize w.alloc (.cells #[.int .i64 x.kind, .int .i64 x.rel, .slice xa x.x.length xc, .slice ya x.y.length yc, .int .i64 x.a, .int .i64 x.b, .int .i64 x.place] 101) = W at *
  generalize w.heap.size = cb at *
  have c0 := bx_cell x0 0 _ rfl
  have c1 := bx_cell x0 1 _ rfl
  have c2 := bx_cell x0 2 _ rfl
  have c3 := bx_cell x0 3 _ rfl
  have c4 := bx_cell x0 4 _ rfl
  have c5 := bx_cell x0 5 _ rfl
  have c6 := bx_cell x0 6 _ rfl
  have X := Lib.hid x0
  have KW := Lib.hid kW
  have HW := Lib.hid (HH.out.keep kW)
  clear x0 kW m0 m1 m2 m3 m4 m5 m6
  have HE := Lib.hid (jenter_no HW.out _ hp)
  go_upto_region 7 with (go_at_call 54; refine (HE.out).mono ?_; rintro e1 w1 ⟨rfl, k1⟩; have X1 := Lib.hid (kh X.out k1); have K1 := Lib.hid (KW.out.trans k1); clear k1 c0 c1 c2 c3 c4 c5 c6; have c0 := bx_cell X1.out 0 _ rfl; have c1 := bx_cell X1.out 1 _ rfl; have c2 := bx_cell X1.out 2 _ rfl; have c3 := bx_cell X1.out 3 _ rfl; have c4 := bx_cell X1.out 4 _ rfl; have c5 := bx_cell X1.out 5 _ rfl; have c6 := bx_cell X1.out 6 _ rfl)
  go_upto_region 8 with (go_at_call 65; refine (HU.out _ K1.out).mono ?_; rintro e2 w2 ⟨rfl, k2⟩; have X2 := Lib.hid (kh X1.out k2); have K2 := Lib.hid (K1.out.trans k2); clear k2 c0 c1 c2 c3 c4 c5 c6; have c5 := bx_cell X2.out 5 _ rfl)
  have HE2 := Lib.hid (jenter_no (HH.out.keep K2.out) _ hp2)
  go_region_held3 (fun w' => w'.cell? ⟨cb, 5, none⟩ = some (.int .i64 x.b)) (first | exact c5 | go_keep | exact CC.out)
    ((go_at_call 54; refine (jenter_no (HH.out.keep (K2.out.trans (Kept.refl w2).drew)) _ hp2).mono ?_; rintro e3 w3 ⟨rfl, k3⟩; have CC := Lib.hid (bx_cell (kh X2.out ((Kept.refl w2).drew.trans k3)) 5 _ rfl); have K3 := Lib.hid (K2.out.trans ((Kept.refl w2).drew.trans k3)); clear k3))
  all_goals
    go_wp2
    simp [bodyPost, results, Try.f56, go_sem]
    exact Lib.hid ⟨Rpr.Chg.of_kept K3.out, .inr ⟨rfl, HH.out.keep K3.out, fun _ => hp, fun _ _ => hp2⟩⟩

set_option maxRecDepth 100000 in
set_option maxHeartbeats 4000000 in
theorem openB3o (H : Jd w0 w q cv mv bv ov obv l E g h e a) {i : Nat} (hi : i < l.length) (hk : l[i].kind = 3) (hp : PastJ l e l[i].a) (hu : undA l[i] (tldA l a l[i].a) = true) {j : Nat} (hj0 : l[i].b = j) (hjl : j < l.length) (hm : mkF e j = false) : Calls Try.prog 56 #[.pointer (some ⟨q, 0, none⟩), .int .i64 (i : Int)] w fun x w' => ∃ k0 bb, x = .returned (.tuple #[.int .i64 k0, .bool bb]) ∧ Hid (Opened w0 w w' q cv mv bv ov obv l E g h e a l[i] k0 bb) := by
  have hj := Lib.hid hj0
  clear hj0
  have hk3 : ((l[i].kind : Int) == 3) = true := by rw [hk]; rfl
  have hk4 : ((l[i].kind : Int) == 4) = false := by rw [hk]; rfl
  have hk2 : ((l[i].kind : Int) == 2) = false := by rw [hk]; rfl
  obtain ⟨b, cap, xa, xc, ya, yc, hcv, hcap, hmax, hbw, -, -, hcell⟩ := (H.list.kept H.kept).cells hi
  have hn := H.list.1
  subst hcv
  have hqw := (Array.getElem?_eq_some_iff.1 H.box).1
  have q0 := bx_cell H.box 0 _ rfl
  simp only [jdCells] at q0
  obtain ⟨m0, m1, m2, m3, m4, m5, m6⟩ := hcell _ (Kept.refl w)
  have HH := Lib.hid H
  have hi1 : ((i : Int) < (l.length : Int)) := by omega
  clear hcell
  have HU := Lib.hid (fun w1 (hk : Kept w w1) => und_any (H.keep hk) l[i] xa ya l[i].x.length xc l[i].y.length yc)
  rw [hu] at HU
  have hkk := Lib.hid hk
  have huu := Lib.hid hu
  clear hu hk
  generalize l[i] = x at *
  clear H
  go_enter Try.func56, Try.ntmps56
  go_upto_region 2 with fail
  have x0 := World.alloc_heap_new w (.cells #[.int .i64 x.kind, .int .i64 x.rel, .slice xa x.x.length xc, .slice ya x.y.length yc, .int .i64 x.a, .int .i64 x.b, .int .i64 x.place] 101)
  have kW := (Kept.refl w).alloc (.cells #[.int .i64 x.kind, .int .i64 x.rel, .slice xa x.x.length xc, .slice ya x.y.length yc, .int .i64 x.a, .int .i64 x.b, .int .i64 x.place] 101)
  generalize w.alloc (.cells #[.int .i64 x.kind, .int .i64 x.rel, .slice xa x.x.length xc, .slice ya x.y.length yc, .int .i64 x.a, .int .i64 x.b, .int .i64 x.place] 101) = W at *
  generalize w.heap.size = cb at *
  have c0 := bx_cell x0 0 _ rfl
  have c1 := bx_cell x0 1 _ rfl
  have c2 := bx_cell x0 2 _ rfl
  have c3 := bx_cell x0 3 _ rfl
  have c4 := bx_cell x0 4 _ rfl
  have c5 := bx_cell x0 5 _ rfl
  have c6 := bx_cell x0 6 _ rfl
  have X := Lib.hid x0
  have KW := Lib.hid kW
  have HW := Lib.hid (HH.out.keep kW)
  clear x0 kW m0 m1 m2 m3 m4 m5 m6
  have HE := Lib.hid (jenter_no HW.out _ hp)
  go_upto_region 7 with (go_at_call 54; refine (HE.out).mono ?_; rintro e1 w1 ⟨rfl, k1⟩; have X1 := Lib.hid (kh X.out k1); have K1 := Lib.hid (KW.out.trans k1); clear k1 c0 c1 c2 c3 c4 c5 c6; have c0 := bx_cell X1.out 0 _ rfl; have c1 := bx_cell X1.out 1 _ rfl; have c2 := bx_cell X1.out 2 _ rfl; have c3 := bx_cell X1.out 3 _ rfl; have c4 := bx_cell X1.out 4 _ rfl; have c5 := bx_cell X1.out 5 _ rfl; have c6 := bx_cell X1.out 6 _ rfl)
  go_upto_region 8 with (go_at_call 65; refine (HU.out _ K1.out).mono ?_; rintro e2 w2 ⟨rfl, k2⟩; have X2 := Lib.hid (kh X1.out k2); have K2 := Lib.hid (K1.out.trans k2); clear k2 c0 c1 c2 c3 c4 c5 c6; have c5 := bx_cell X2.out 5 _ rfl)
  have HE2 : Hid _ := Lib.hid (jenter_yes (HH.out.keep (K2.out.trans (Kept.refl w2).drew)) hjl hm)
  rw [← hj.out] at HE2
  go_region_held3 (fun w' => w'.cell? ⟨cb, 5, none⟩ = some (.int .i64 x.b)) (first | exact c5 | go_keep | exact CC.out)
    ((go_at_call 54; refine (HE2.out).mono ?_; rintro e3 w3 ⟨rfl, H3⟩; have CC := Lib.hid (bx_cell ((HH.out.keep (K2.out.trans (Kept.refl w2).drew)).stay H3.out.2 (kh X2.out (Kept.refl w2).drew) (by decide) (by decide)) 5 _ rfl); have K3 := Lib.hid ((Rpr.Chg.of_kept (K2.out.trans (Kept.refl w2).drew)).then H3.out.2)))
  all_goals
    go_wp2
    simp [bodyPost, results, Try.f56, go_sem]
    exact Lib.hid ⟨K3.out, .inl ⟨rfl, j, hj.out, .inr rfl, H3.out.1, hjl, hm⟩⟩

set_option maxRecDepth 100000 in
set_option maxHeartbeats 4000000 in
theorem openB4n (H : Jd w0 w q cv mv bv ov obv l E g h e a) {i : Nat} (hi : i < l.length) (hk : l[i].kind = 4) (hp : PastJ l e l[i].a) (hu : undA l[i] (tldA l a l[i].a) = false) : Calls Try.prog 56 #[.pointer (some ⟨q, 0, none⟩), .int .i64 (i : Int)] w fun x w' => ∃ k0 bb, x = .returned (.tuple #[.int .i64 k0, .bool bb]) ∧ Hid (Opened w0 w w' q cv mv bv ov obv l E g h e a l[i] k0 bb) := by
  have hk3 : ((l[i].kind : Int) == 3) = false := by rw [hk]; rfl
  have hk4 : ((l[i].kind : Int) == 4) = true := by rw [hk]; rfl
  have hk2 : ((l[i].kind : Int) == 2) = false := by rw [hk]; rfl
  obtain ⟨b, cap, xa, xc, ya, yc, hcv, hcap, hmax, hbw, -, -, hcell⟩ := (H.list.kept H.kept).cells hi
  have hn := H.list.1
  subst hcv
  have hqw := (Array.getElem?_eq_some_iff.1 H.box).1
  have q0 := bx_cell H.box 0 _ rfl
  simp only [jdCells] at q0
  obtain ⟨m0, m1, m2, m3, m4, m5, m6⟩ := hcell _ (Kept.refl w)
  have HH := Lib.hid H
  have hi1 : ((i : Int) < (l.length : Int)) := by omega
  clear hcell
  have HU := Lib.hid (fun w1 (hk : Kept w w1) => und_any (H.keep hk) l[i] xa ya l[i].x.length xc l[i].y.length yc)
  rw [hu] at HU
  have hkk := Lib.hid hk
  have huu := Lib.hid hu
  clear hu hk
  generalize l[i] = x at *
  clear H
  go_enter Try.func56, Try.ntmps56
  go_upto_region 2 with fail
  have x0 := World.alloc_heap_new w (.cells #[.int .i64 x.kind, .int .i64 x.rel, .slice xa x.x.length xc, .slice ya x.y.length yc, .int .i64 x.a, .int .i64 x.b, .int .i64 x.place] 101)
  have kW := (Kept.refl w).alloc (.cells #[.int .i64 x.kind, .int .i64 x.rel, .slice xa x.x.length xc, .slice ya x.y.length yc, .int .i64 x.a, .int .i64 x.b, .int .i64 x.place] 101)
  generalize w.alloc (.cells #[.int .i64 x.kind, .int .i64 x.rel, .slice xa x.x.length xc, .slice ya x.y.length yc, .int .i64 x.a, .int .i64 x.b, .int .i64 x.place] 101) = W at *
  generalize w.heap.size = cb at *
  have c0 := bx_cell x0 0 _ rfl
  have c1 := bx_cell x0 1 _ rfl
  have c2 := bx_cell x0 2 _ rfl
  have c3 := bx_cell x0 3 _ rfl
  have c4 := bx_cell x0 4 _ rfl
  have c5 := bx_cell x0 5 _ rfl
  have c6 := bx_cell x0 6 _ rfl
  have X := Lib.hid x0
  have KW := Lib.hid kW
  have HW := Lib.hid (HH.out.keep kW)
  clear x0 kW m0 m1 m2 m3 m4 m5 m6
  have HE := Lib.hid (jenter_no HW.out _ hp)
  go_upto_region 7 with (go_at_call 54; refine (HE.out).mono ?_; rintro e1 w1 ⟨rfl, k1⟩; have X1 := Lib.hid (kh X.out k1); have K1 := Lib.hid (KW.out.trans k1); clear k1 c0 c1 c2 c3 c4 c5 c6; have c0 := bx_cell X1.out 0 _ rfl; have c1 := bx_cell X1.out 1 _ rfl; have c2 := bx_cell X1.out 2 _ rfl; have c3 := bx_cell X1.out 3 _ rfl; have c4 := bx_cell X1.out 4 _ rfl; have c5 := bx_cell X1.out 5 _ rfl; have c6 := bx_cell X1.out 6 _ rfl)
  go_upto_region 11 with (go_at_call 65; refine (HU.out _ K1.out).mono ?_; rintro e2 w2 ⟨rfl, k2⟩; have X2 := Lib.hid (kh X1.out k2); have K2 := Lib.hid (K1.out.trans k2); clear k2 c0 c1 c2 c3 c4 c5 c6; have c5 := bx_cell X2.out 5 _ rfl)
  go_wp2
  simp [bodyPost, results, Try.f56, go_sem]
  exact Lib.hid ⟨Rpr.Chg.of_kept K2.out, .inr ⟨rfl, HH.out.keep K2.out, fun _ => hp, fun _ h => absurd h (by rw [huu.out]; simp)⟩⟩

set_option maxRecDepth 100000 in
set_option maxHeartbeats 4000000 in
theorem openB4p (H : Jd w0 w q cv mv bv ov obv l E g h e a) {i : Nat} (hi : i < l.length) (hk : l[i].kind = 4) (hp : PastJ l e l[i].a) (hu : undA l[i] (tldA l a l[i].a) = true) (hp2 : PastJ l e l[i].b) : Calls Try.prog 56 #[.pointer (some ⟨q, 0, none⟩), .int .i64 (i : Int)] w fun x w' => ∃ k0 bb, x = .returned (.tuple #[.int .i64 k0, .bool bb]) ∧ Hid (Opened w0 w w' q cv mv bv ov obv l E g h e a l[i] k0 bb) := by
  have hk3 : ((l[i].kind : Int) == 3) = false := by rw [hk]; rfl
  have hk4 : ((l[i].kind : Int) == 4) = true := by rw [hk]; rfl
  have hk2 : ((l[i].kind : Int) == 2) = false := by rw [hk]; rfl
  obtain ⟨b, cap, xa, xc, ya, yc, hcv, hcap, hmax, hbw, -, -, hcell⟩ := (H.list.kept H.kept).cells hi
  have hn := H.list.1
  subst hcv
  have hqw := (Array.getElem?_eq_some_iff.1 H.box).1
  have q0 := bx_cell H.box 0 _ rfl
  simp only [jdCells] at q0
  obtain ⟨m0, m1, m2, m3, m4, m5, m6⟩ := hcell _ (Kept.refl w)
  have HH := Lib.hid H
  have hi1 : ((i : Int) < (l.length : Int)) := by omega
  clear hcell
  have HU := Lib.hid (fun w1 (hk : Kept w w1) => und_any (H.keep hk) l[i] xa ya l[i].x.length xc l[i].y.length yc)
  rw [hu] at HU
  have hkk := Lib.hid hk
  have huu := Lib.hid hu
  clear hu hk
  generalize l[i] = x at *
  clear H
  go_enter Try.func56, Try.ntmps56
  go_upto_region 2 with fail
  have x0 := World.alloc_heap_new w (.cells #[.int .i64 x.kind, .int .i64 x.rel, .slice xa x.x.length xc, .slice ya x.y.length yc, .int .i64 x.a, .int .i64 x.b, .int .i64 x.place] 101)
  have kW := (Kept.refl w).alloc (.cells #[.int .i64 x.kind, .int .i64 x.rel, .slice xa x.x.length xc, .slice ya x.y.length yc, .int .i64 x.a, .int .i64 x.b, .int .i64 x.place] 101)
  generalize w.alloc (.cells #[.int .i64 x.kind, .int .i64 x.rel, .slice xa x.x.length xc, .slice ya x.y.length yc, .int .i64 x.a, .int .i64 x.b, .int .i64 x.place] 101) = W at *
  generalize w.heap.size = cb at *
  have c0 := bx_cell x0 0 _ rfl
  have c1 := bx_cell x0 1 _ rfl
  have c2 := bx_cell x0 2 _ rfl
  have c3 := bx_cell x0 3 _ rfl
  have c4 := bx_cell x0 4 _ rfl
  have c5 := bx_cell x0 5 _ rfl
  have c6 := bx_cell x0 6 _ rfl
  have X := Lib.hid x0
  have KW := Lib.hid kW
  have HW := Lib.hid (HH.out.keep kW)
  clear x0 kW m0 m1 m2 m3 m4 m5 m6
  have HE := Lib.hid (jenter_no HW.out _ hp)
  go_upto_region 7 with (go_at_call 54; refine (HE.out).mono ?_; rintro e1 w1 ⟨rfl, k1⟩; have X1 := Lib.hid (kh X.out k1); have K1 := Lib.hid (KW.out.trans k1); clear k1 c0 c1 c2 c3 c4 c5 c6; have c0 := bx_cell X1.out 0 _ rfl; have c1 := bx_cell X1.out 1 _ rfl; have c2 := bx_cell X1.out 2 _ rfl; have c3 := bx_cell X1.out 3 _ rfl; have c4 := bx_cell X1.out 4 _ rfl; have c5 := bx_cell X1.out 5 _ rfl; have c6 := bx_cell X1.out 6 _ rfl)
  go_upto_region 8 with (go_at_call 65; refine (HU.out _ K1.out).mono ?_; rintro e2 w2 ⟨rfl, k2⟩; have X2 := Lib.hid (kh X1.out k2); have K2 := Lib.hid (K1.out.trans k2); clear k2 c0 c1 c2 c3 c4 c5 c6; have c5 := bx_cell X2.out 5 _ rfl)
  have HE2 := Lib.hid (jenter_no (HH.out.keep K2.out) _ hp2)
  go_region_held3 (fun w' => w'.cell? ⟨cb, 5, none⟩ = some (.int .i64 x.b)) (first | exact c5 | go_keep | exact CC.out)
    ((go_at_call 54; refine (jenter_no (HH.out.keep (K2.out.trans (Kept.refl w2).drew)) _ hp2).mono ?_; rintro e3 w3 ⟨rfl, k3⟩; have CC := Lib.hid (bx_cell (kh X2.out ((Kept.refl w2).drew.trans k3)) 5 _ rfl); have K3 := Lib.hid (K2.out.trans ((Kept.refl w2).drew.trans k3)); clear k3))
  all_goals
    go_wp2
    simp [bodyPost, results, Try.f56, go_sem]
    exact Lib.hid ⟨Rpr.Chg.of_kept K3.out, .inr ⟨rfl, HH.out.keep K3.out, fun _ => hp, fun _ _ => hp2⟩⟩

set_option maxRecDepth 100000 in
set_option maxHeartbeats 4000000 in
theorem openB4o (H : Jd w0 w q cv mv bv ov obv l E g h e a) {i : Nat} (hi : i < l.length) (hk : l[i].kind = 4) (hp : PastJ l e l[i].a) (hu : undA l[i] (tldA l a l[i].a) = true) {j : Nat} (hj0 : l[i].b = j) (hjl : j < l.length) (hm : mkF e j = false) : Calls Try.prog 56 #[.pointer (some ⟨q, 0, none⟩), .int .i64 (i : Int)] w fun x w' => ∃ k0 bb, x = .returned (.tuple #[.int .i64 k0, .bool bb]) ∧ Hid (Opened w0 w w' q cv mv bv ov obv l E g h e a l[i] k0 bb) := by
  have hj := Lib.hid hj0
  clear hj0
  have hk3 : ((l[i].kind : Int) == 3) = false := by rw [hk]; rfl
  have hk4 : ((l[i].kind : Int) == 4) = true := by rw [hk]; rfl
  have hk2 : ((l[i].kind : Int) == 2) = false := by rw [hk]; rfl
  obtain ⟨b, cap, xa, xc, ya, yc, hcv, hcap, hmax, hbw, -, -, hcell⟩ := (H.list.kept H.kept).cells hi
  have hn := H.list.1
  subst hcv
  have hqw := (Array.getElem?_eq_some_iff.1 H.box).1
  have q0 := bx_cell H.box 0 _ rfl
  simp only [jdCells] at q0
  obtain ⟨m0, m1, m2, m3, m4, m5, m6⟩ := hcell _ (Kept.refl w)
  have HH := Lib.hid H
  have hi1 : ((i : Int) < (l.length : Int)) := by omega
  clear hcell
  have HU := Lib.hid (fun w1 (hk : Kept w w1) => und_any (H.keep hk) l[i] xa ya l[i].x.length xc l[i].y.length yc)
  rw [hu] at HU
  have hkk := Lib.hid hk
  have huu := Lib.hid hu
  clear hu hk
  generalize l[i] = x at *
  clear H
  go_enter Try.func56, Try.ntmps56
  go_upto_region 2 with fail
  have x0 := World.alloc_heap_new w (.cells #[.int .i64 x.kind, .int .i64 x.rel, .slice xa x.x.length xc, .slice ya x.y.length yc, .int .i64 x.a, .int .i64 x.b, .int .i64 x.place] 101)
  have kW := (Kept.refl w).alloc (.cells #[.int .i64 x.kind, .int .i64 x.rel, .slice xa x.x.length xc, .slice ya x.y.length yc, .int .i64 x.a, .int .i64 x.b, .int .i64 x.place] 101)
  generalize w.alloc (.cells #[.int .i64 x.kind, .int .i64 x.rel, .slice xa x.x.length xc, .slice ya x.y.length yc, .int .i64 x.a, .int .i64 x.b, .int .i64 x.place] 101) = W at *
  generalize w.heap.size = cb at *
  have c0 := bx_cell x0 0 _ rfl
  have c1 := bx_cell x0 1 _ rfl
  have c2 := bx_cell x0 2 _ rfl
  have c3 := bx_cell x0 3 _ rfl
  have c4 := bx_cell x0 4 _ rfl
  have c5 := bx_cell x0 5 _ rfl
  have c6 := bx_cell x0 6 _ rfl
  have X := Lib.hid x0
  have KW := Lib.hid kW
  have HW := Lib.hid (HH.out.keep kW)
  clear x0 kW m0 m1 m2 m3 m4 m5 m6
  have HE := Lib.hid (jenter_no HW.out _ hp)
  go_upto_region 7 with (go_at_call 54; refine (HE.out).mono ?_; rintro e1 w1 ⟨rfl, k1⟩; have X1 := Lib.hid (kh X.out k1); have K1 := Lib.hid (KW.out.trans k1); clear k1 c0 c1 c2 c3 c4 c5 c6; have c0 := bx_cell X1.out 0 _ rfl; have c1 := bx_cell X1.out 1 _ rfl; have c2 := bx_cell X1.out 2 _ rfl; have c3 := bx_cell X1.out 3 _ rfl; have c4 := bx_cell X1.out 4 _ rfl; have c5 := bx_cell X1.out 5 _ rfl; have c6 := bx_cell X1.out 6 _ rfl)
  go_upto_region 8 with (go_at_call 65; refine (HU.out _ K1.out).mono ?_; rintro e2 w2 ⟨rfl, k2⟩; have X2 := Lib.hid (kh X1.out k2); have K2 := Lib.hid (K1.out.trans k2); clear k2 c0 c1 c2 c3 c4 c5 c6; have c5 := bx_cell X2.out 5 _ rfl)
  have HE2 : Hid _ := Lib.hid (jenter_yes (HH.out.keep (K2.out.trans (Kept.refl w2).drew)) hjl hm)
  rw [← hj.out] at HE2
  go_region_held3 (fun w' => w'.cell? ⟨cb, 5, none⟩ = some (.int .i64 x.b)) (first | exact c5 | go_keep | exact CC.out)
    ((go_at_call 54; refine (HE2.out).mono ?_; rintro e3 w3 ⟨rfl, H3⟩; have CC := Lib.hid (bx_cell ((HH.out.keep (K2.out.trans (Kept.refl w2).drew)).stay H3.out.2 (kh X2.out (Kept.refl w2).drew) (by decide) (by decide)) 5 _ rfl); have K3 := Lib.hid ((Rpr.Chg.of_kept (K2.out.trans (Kept.refl w2).drew)).then H3.out.2)))
  all_goals
    go_wp2
    simp [bodyPost, results, Try.f56, go_sem]
    exact Lib.hid ⟨K3.out, .inl ⟨rfl, j, hj.out, .inr rfl, H3.out.1, hjl, hm⟩⟩

set_option maxRecDepth 100000 in
set_option maxHeartbeats 4000000 in
theorem openN_yes (H : Jd w0 w q cv mv bv ov obv l E g h e a) {i : Nat} (hi : i < l.length) (hk : l[i].kind = 2) {j : Nat} (hj0 : l[i].a = j) (hjl : j < l.length) (hm : mkF e j = false) : Calls Try.prog 56 #[.pointer (some ⟨q, 0, none⟩), .int .i64 (i : Int)] w fun x w' => ∃ k0 bb, x = .returned (.tuple #[.int .i64 k0, .bool bb]) ∧ Hid (Opened w0 w w' q cv mv bv ov obv l E g h e a l[i] k0 bb) := by
  have hk3 : ((l[i].kind : Int) == 3) = false := by rw [hk]; rfl
  have hk4 : ((l[i].kind : Int) == 4) = false := by rw [hk]; rfl
  have hk2 : ((l[i].kind : Int) == 2) = true := by rw [hk]; rfl
  clear hk
  have hj := Lib.hid hj0
  clear hj0
  obtain ⟨b, cap, xa, xc, ya, yc, hcv, hcap, hmax, hbw, -, -, hcell⟩ := (H.list.kept H.kept).cells hi
  have hn := H.list.1
  subst hcv
  have hqw := (Array.getElem?_eq_some_iff.1 H.box).1
  have q0 := bx_cell H.box 0 _ rfl
  simp only [jdCells] at q0
  obtain ⟨m0, m1, m2, m3, m4, m5, m6⟩ := hcell _ (Kept.refl w)
  have HH := Lib.hid H
  have hi1 : ((i : Int) < (l.length : Int)) := by omega
  clear hcell
  generalize l[i] = x at *
  clear H
  go_enter Try.func56, Try.ntmps56
  go_upto_region 2 with fail
  have x0 := World.alloc_heap_new w (.cells #[.int .i64 x.kind, .int .i64 x.rel, .slice xa x.x.length xc, .slice ya x.y.length yc, .int .i64 x.a, .int .i64 x.b, .int .i64 x.place] 101)
  have kW := (Kept.refl w).alloc (.cells #[.int .i64 x.kind, .int .i64 x.rel, .slice xa x.x.length xc, .slice ya x.y.length yc, .int .i64 x.a, .int .i64 x.b, .int .i64 x.place] 101)
  generalize w.alloc (.cells #[.int .i64 x.kind, .int .i64 x.rel, .slice xa x.x.length xc, .slice ya x.y.length yc, .int .i64 x.a, .int .i64 x.b, .int .i64 x.place] 101) = W at *
  generalize w.heap.size = cb at *
  have c0 := bx_cell x0 0 _ rfl
  have c1 := bx_cell x0 1 _ rfl
  have c2 := bx_cell x0 2 _ rfl
  have c3 := bx_cell x0 3 _ rfl
  have c4 := bx_cell x0 4 _ rfl
  have c5 := bx_cell x0 5 _ rfl
  have c6 := bx_cell x0 6 _ rfl
  have X := Lib.hid x0
  have KW := Lib.hid kW
  have HW := Lib.hid (HH.out.keep kW)
  clear x0 kW m0 m1 m2 m3 m4 m5 m6
  have HE2 : Hid _ := Lib.hid (jenter_yes (HW.out.keep (Kept.refl W).drew) hjl hm)
  rw [← hj.out] at HE2
  go_upto_region 10 with fail
  go_region_held3 (fun w' => w'.cell? ⟨cb, 4, none⟩ = some (.int .i64 x.a)) (first | exact c4 | go_keep | exact CC.out)
    ((go_at_call 54; refine (HE2.out).mono ?_; rintro e3 w3 ⟨rfl, H3⟩; have CC := Lib.hid (bx_cell ((HW.out.keep (Kept.refl W).drew).stay H3.out.2 (kh X.out (Kept.refl W).drew) (by decide) (by decide)) 4 _ rfl); have K3 := Lib.hid ((Rpr.Chg.of_kept (KW.out.trans (Kept.refl W).drew)).then H3.out.2)))
  all_goals
    go_wp2
    simp [bodyPost, results, Try.f56, go_sem]
    exact Lib.hid ⟨K3.out, .inl ⟨rfl, j, hj.out, .inl rfl, H3.out.1, hjl, hm⟩⟩

set_option maxRecDepth 100000 in
set_option maxHeartbeats 4000000 in
theorem openN_no (H : Jd w0 w q cv mv bv ov obv l E g h e a) {i : Nat} (hi : i < l.length) (hk : l[i].kind = 2) (hp : PastJ l e l[i].a) : Calls Try.prog 56 #[.pointer (some ⟨q, 0, none⟩), .int .i64 (i : Int)] w fun x w' => ∃ k0 bb, x = .returned (.tuple #[.int .i64 k0, .bool bb]) ∧ Hid (Opened w0 w w' q cv mv bv ov obv l E g h e a l[i] k0 bb) := by
  have hk3 : ((l[i].kind : Int) == 3) = false := by rw [hk]; rfl
  have hk4 : ((l[i].kind : Int) == 4) = false := by rw [hk]; rfl
  have hk2 : ((l[i].kind : Int) == 2) = true := by rw [hk]; rfl
  have hkk := Lib.hid hk
  clear hk
  obtain ⟨b, cap, xa, xc, ya, yc, hcv, hcap, hmax, hbw, -, -, hcell⟩ := (H.list.kept H.kept).cells hi
  have hn := H.list.1
  subst hcv
  have hqw := (Array.getElem?_eq_some_iff.1 H.box).1
  have q0 := bx_cell H.box 0 _ rfl
  simp only [jdCells] at q0
  obtain ⟨m0, m1, m2, m3, m4, m5, m6⟩ := hcell _ (Kept.refl w)
  have HH := Lib.hid H
  have hi1 : ((i : Int) < (l.length : Int)) := by omega
  clear hcell
  generalize l[i] = x at *
  clear H
  go_enter Try.func56, Try.ntmps56
  go_upto_region 2 with fail
  have x0 := World.alloc_heap_new w (.cells #[.int .i64 x.kind, .int .i64 x.rel, .slice xa x.x.length xc, .slice ya x.y.length yc, .int .i64 x.a, .int .i64 x.b, .int .i64 x.place] 101)
  have kW := (Kept.refl w).alloc (.cells #[.int .i64 x.kind, .int .i64 x.rel, .slice xa x.x.length xc, .slice ya x.y.length yc, .int .i64 x.a, .int .i64 x.b, .int .i64 x.place] 101)
  generalize w.alloc (.cells #[.int .i64 x.kind, .int .i64 x.rel, .slice xa x.x.length xc, .slice ya x.y.length yc, .int .i64 x.a, .int .i64 x.b, .int .i64 x.place] 101) = W at *
  generalize w.heap.size = cb at *
  have c0 := bx_cell x0 0 _ rfl
  have c1 := bx_cell x0 1 _ rfl
  have c2 := bx_cell x0 2 _ rfl
  have c3 := bx_cell x0 3 _ rfl
  have c4 := bx_cell x0 4 _ rfl
  have c5 := bx_cell x0 5 _ rfl
  have c6 := bx_cell x0 6 _ rfl
  have X := Lib.hid x0
  have KW := Lib.hid kW
  have HW := Lib.hid (HH.out.keep kW)
  clear x0 kW m0 m1 m2 m3 m4 m5 m6
  go_upto_region 10 with fail
  go_region_held3 (fun w' => w'.cell? ⟨cb, 4, none⟩ = some (.int .i64 x.a)) (first | exact c4 | go_keep | exact CC.out)
    ((go_at_call 54; refine (jenter_no (HW.out.keep (Kept.refl W).drew) _ hp).mono ?_; rintro e3 w3 ⟨rfl, k3⟩; have CC := Lib.hid (bx_cell (kh X.out ((Kept.refl W).drew.trans k3)) 4 _ rfl); have K3 := Lib.hid (KW.out.trans ((Kept.refl W).drew.trans k3)); clear k3))
  all_goals
    go_wp2
    simp [bodyPost, results, Try.f56, go_sem]
    exact Lib.hid ⟨Rpr.Chg.of_kept K3.out, .inr ⟨rfl, HH.out.keep K3.out, fun _ => hp, fun h => absurd h (by have := hkk.out; unfold twoC; omega)⟩⟩

set_option maxRecDepth 100000 in
set_option maxHeartbeats 4000000 in
theorem openX (H : Jd w0 w q cv mv bv ov obv l E g h e a) {i : Nat} (hi : i < l.length) (hk : ¬ (twoC l[i].kind ∨ l[i].kind = 2)) : Calls Try.prog 56 #[.pointer (some ⟨q, 0, none⟩), .int .i64 (i : Int)] w fun x w' => ∃ k0 bb, x = .returned (.tuple #[.int .i64 k0, .bool bb]) ∧ Hid (Opened w0 w w' q cv mv bv ov obv l E g h e a l[i] k0 bb) := by
  have hk3 : ((l[i].kind : Int) == 3) = false := by rw [beq_eq_false_iff_ne]; unfold twoC at hk; omega
  have hk4 : ((l[i].kind : Int) == 4) = false := by rw [beq_eq_false_iff_ne]; unfold twoC at hk; omega
  have hk2 : ((l[i].kind : Int) == 2) = false := by rw [beq_eq_false_iff_ne]; unfold twoC at hk; omega
  have hkk := Lib.hid hk
  clear hk
  obtain ⟨b, cap, xa, xc, ya, yc, hcv, hcap, hmax, hbw, -, -, hcell⟩ := (H.list.kept H.kept).cells hi
  have hn := H.list.1
  subst hcv
  have hqw := (Array.getElem?_eq_some_iff.1 H.box).1
  have q0 := bx_cell H.box 0 _ rfl
  simp only [jdCells] at q0
  obtain ⟨m0, m1, m2, m3, m4, m5, m6⟩ := hcell _ (Kept.refl w)
  have HH := Lib.hid H
  have hi1 : ((i : Int) < (l.length : Int)) := by omega
  clear hcell
  generalize l[i] = x at *
  clear H
  go_enter Try.func56, Try.ntmps56
  go_upto_region 2 with fail
  have x0 := World.alloc_heap_new w (.cells #[.int .i64 x.kind, .int .i64 x.rel, .slice xa x.x.length xc, .slice ya x.y.length yc, .int .i64 x.a, .int .i64 x.b, .int .i64 x.place] 101)
  have kW := (Kept.refl w).alloc (.cells #[.int .i64 x.kind, .int .i64 x.rel, .slice xa x.x.length xc, .slice ya x.y.length yc, .int .i64 x.a, .int .i64 x.b, .int .i64 x.place] 101)
  generalize w.alloc (.cells #[.int .i64 x.kind, .int .i64 x.rel, .slice xa x.x.length xc, .slice ya x.y.length yc, .int .i64 x.a, .int .i64 x.b, .int .i64 x.place] 101) = W at *
  generalize w.heap.size = cb at *
  have c0 := bx_cell x0 0 _ rfl
  have c1 := bx_cell x0 1 _ rfl
  have c2 := bx_cell x0 2 _ rfl
  have c3 := bx_cell x0 3 _ rfl
  have c4 := bx_cell x0 4 _ rfl
  have c5 := bx_cell x0 5 _ rfl
  have c6 := bx_cell x0 6 _ rfl
  have X := Lib.hid x0
  have KW := Lib.hid kW
  have HW := Lib.hid (HH.out.keep kW)
  clear x0 kW m0 m1 m2 m3 m4 m5 m6
  go_wp2
  simp [bodyPost, results, Try.f56, go_sem]
  exact Lib.hid ⟨Rpr.Chg.of_kept KW.out, .inr ⟨rfl, HW.out, fun h => absurd h hkk.out, fun h => absurd (Or.inl h) hkk.out⟩⟩

theorem open_any (H : Jd w0 w q cv mv bv ov obv l E g h e a) {i : Nat} (hi : i < l.length) : Calls Try.prog 56 #[.pointer (some ⟨q, 0, none⟩), .int .i64 (i : Int)] w fun x w' => ∃ k0 bb, x = .returned (.tuple #[.int .i64 k0, .bool bb]) ∧ Hid (Opened w0 w w' q cv mv bv ov obv l E g h e a l[i] k0 bb) := by
  by_cases hk : twoC l[i].kind ∨ l[i].kind = 2
  · rcases open_orJ l e l[i].a with ⟨j, h1, h2, h3⟩ | hp
    · rcases (show l[i].kind = 3 ∨ l[i].kind = 4 ∨ l[i].kind = 2 by unfold twoC at hk; omega) with h | h | h
      · exact openA3 H hi h h1 h2 h3
      · exact openA4 H hi h h1 h2 h3
      · exact openN_yes H hi h h1 h2 h3
    · rcases (show l[i].kind = 3 ∨ l[i].kind = 4 ∨ l[i].kind = 2 by unfold twoC at hk; omega) with h | h | h
      · cases hu : undA l[i] (tldA l a l[i].a) with
        | false => exact openB3n H hi h hp hu
        | true =>
          rcases open_orJ l e l[i].b with ⟨j, h1, h2, h3⟩ | hp2
          · exact openB3o H hi h hp hu h1 h2 h3
          · exact openB3p H hi h hp hu hp2
      · cases hu : undA l[i] (tldA l a l[i].a) with
        | false => exact openB4n H hi h hp hu
        | true =>
          rcases open_orJ l e l[i].b with ⟨j, h1, h2, h3⟩ | hp2
          · exact openB4o H hi h hp hu h1 h2 h3
          · exact openB4p H hi h hp hu hp2
      · exact openN_no H hi h hp
  · exact openX H hi hk
end
end Go.Proofs.Ythjnkjekidagiaa.Evl
namespace Go.Proofs.Ythjnkjekidagiaa.Evl
open Go.RowKit
open Prs (Ex Cn)
open Fnd (bx_cell bx_froz)
open Typ (wrapF relF)
section
variable {w : World} {lv mv bv ov obv : Value} {l : List Ex} {E : Env}
def wholeA (l : List Ex) (E : Env) : Ans := valA l E ((l.length : Int) - 1, 0)
set_option maxRecDepth 100000 in
set_option maxHeartbeats 4000000 in
theorem whole_any (hL : ListAt w lv l) (hE : EnvAt w mv bv ov obv E) (hD : Down l) : Calls Try.prog 73 #[lv, envVal mv bv ov obv E] w fun x w' => x = .returned (ansVal (wholeA l E)) ∧ Kept w w' := by
  have HC := Lib.hid (fun w1 (hk : Kept w w1) => Value_any (hL.kept hk) (hE.kept hk) hD ((l.length : Int) - 1))
  have hn := hL.1
  obtain ⟨la, lc, hlv⟩ := hL.form
  obtain ⟨m, hm⟩ := hE.mem.form
  obtain ⟨o, ho⟩ := hE.old.form
  obtain ⟨ba, bl, bc, hb⟩ := binds_form hE.binds
  obtain ⟨oa, ol, oc, hob⟩ := binds_form hE.olds
  subst hlv hm ho hb hob
  unfold wholeA
  generalize valA l E ((l.length : Int) - 1, 0) = V at *
  clear hL hE hD
  unfold envVal at HC ⊢
  unfold ansVal
  have hl1 : -9223372036854775808 ≤ (l.length : Int) - 1 ∧ (l.length : Int) - 1 ≤ 9223372036854775807 := by omega
  go_enter Try.func73, Try.ntmps73
  go_upto_region 1 with fail
  obtain ⟨x0, x1, kW⟩ := two w (.cells #[.pointer m, .slice ba bl bc, .pointer o, .slice oa ol oc, .int .i64 E.res, .int .i64 E.t] 49) (.cells #[.int .i64 0, .int .i64 0, .int .i64 0, .int .i64 0] 124)
  generalize (w.alloc (.cells #[.pointer m, .slice ba bl bc, .pointer o, .slice oa ol oc, .int .i64 E.res, .int .i64 E.t] 49)).alloc (.cells #[.int .i64 0, .int .i64 0, .int .i64 0, .int .i64 0] 124) = W at *
  have c0 := bx_cell x0 0 _ rfl
  have c1 := bx_cell x0 1 _ rfl
  have c2 := bx_cell x0 2 _ rfl
  have c3 := bx_cell x0 3 _ rfl
  have c4 := bx_cell x0 4 _ rfl
  have c5 := bx_cell x0 5 _ rfl
  have X := Lib.hid x1
  have KW := Lib.hid kW
  clear x0 x1 kW
  go_upto_region 2 with (go_at_call 78; refine (HC.out _ KW.out).mono ?_; rintro e1 w1 ⟨rfl, k1⟩; have X1 := Lib.hid (kh X.out k1); have K1 := Lib.hid (KW.out.trans k1); clear k1 HC c0 c1 c2 c3 c4 c5)
  have of := bx_froz X1.out
  have o0 := bx_cell X1.out 0 _ rfl
  have o1 := bx_cell X1.out 1 _ rfl
  have o2 := bx_cell X1.out 2 _ rfl
  have o3 := bx_cell X1.out 3 _ rfl
  go_wp2
  have s := put4 (w := w) (W := w1) (i := w.heap.size + 1) (.int .i64 V.v) (.int .i64 V.t) (.int .i64 V.ub) (.int .i64 V.at_) (by omega) K1.out X1.out
  have z0 := bx_cell s.1 0 _ rfl
  have z1 := bx_cell s.1 1 _ rfl
  have z2 := bx_cell s.1 2 _ rfl
  have z3 := bx_cell s.1 3 _ rfl
  have S := Lib.hid s.2
  clear s
  simp [bodyPost, results, Try.f73, go_sem, z0, z1, z2, z3]
  exact S.out
/-! relation -/
def relV (r : Int) (x y : Ans) : Fi := if x.ub ≠ 0 then ⟨false, x.ub, x.at_⟩ else if y.ub ≠ 0 then ⟨false, y.ub, y.at_⟩ else ⟨relF r (wrapF (meetF x y) x.v) (wrapF (meetF x y) y.v), 0, 0⟩
theorem relA_eq (c : Cn) (E : Env) : relA c E = relV c.rel (wholeA c.x E) (wholeA c.y E) := rfl
attribute [local go_sem] idx0 idx1
theorem three_blocks (w : World) (o0 o1 o2 : Obj) : (((w.alloc o0).alloc o1).alloc o2).heap[w.heap.size]? = some o0 ∧ (((w.alloc o0).alloc o1).alloc o2).heap[w.heap.size + 1]? = some o1 ∧
    (((w.alloc o0).alloc o1).alloc o2).heap[w.heap.size + 2]? = some o2 ∧ Kept w (((w.alloc o0).alloc o1).alloc o2) := by
  obtain ⟨h1, h2, h3, h4, _⟩ := three w o0 o1 o2
  exact ⟨h1, h2, h3, h4⟩
theorem kept3 {a w : World} (hk : Kept a w) {i : Nat} (hi : a.heap.size ≤ i) (x y z : Value) : Kept a (((w.setCell ⟨i, 0, none⟩ x).setCell ⟨i, 1, none⟩ y).setCell ⟨i, 2, none⟩ z) :=
  ((Below.setCell hk (p := ⟨i, 0, none⟩) hi x).setCell (p := ⟨i, 1, none⟩) hi y).setCell (p := ⟨i, 2, none⟩) hi z
set_option maxRecDepth 100000 in
set_option maxHeartbeats 4000000 in
theorem relation_any (c : Cn) (x y : Value) (hx : ListAt w x c.x) (hy : ListAt w y c.y) (hE : EnvAt w mv bv ov obv E) (hdx : Down c.x) (hdy : Down c.y) : Calls Try.prog 66 #[condVal c x y, envVal mv bv ov obv E] w fun r w' => r = .returned (fiVal (relA c E)) ∧ Kept w w' := by
  have HX := Lib.hid (fun w1 (hk : Kept w w1) => whole_any (hx.kept hk) (hE.kept hk) hdx)
  have HY := Lib.hid (fun w1 (hk : Kept w w1) => whole_any (hy.kept hk) (hE.kept hk) hdy)
  obtain ⟨xa, xc, hxv⟩ := hx.form
  obtain ⟨ya, yc, hyv⟩ := hy.form
  obtain ⟨m, hm⟩ := hE.mem.form
  obtain ⟨o, ho⟩ := hE.old.form
  obtain ⟨ba, bl, bc, hb⟩ := binds_form hE.binds
  obtain ⟨oa, ol, oc, hob⟩ := binds_form hE.olds
  subst hxv hyv hm ho hb hob
  rw [relA_eq]
  generalize wholeA c.x E = vx at *
  generalize wholeA c.y E = vy at *
  clear hx hy hE hdx hdy
  have HM := Lib.hid (fun w => meet_any vx vy w)
  unfold envVal at *
  unfold condVal
  unfold ansVal at *
  go_enter Try.func66, Try.ntmps66
  go_upto_region 1 with fail
  obtain ⟨x0, x1, x2, kW⟩ := three_blocks w (.cells #[.int .i64 c.kind, .int .i64 c.rel, .slice xa c.x.length xc, .slice ya c.y.length yc, .int .i64 c.a, .int .i64 c.b, .int .i64 c.place] 101) (.cells #[.pointer m, .slice ba bl bc, .pointer o, .slice oa ol oc, .int .i64 E.res, .int .i64 E.t] 49) (.cells #[.bool false, .int .i64 0, .int .i64 0] 107)
  have hlo : w.heap.size ≤ w.heap.size + 2 := by omega
  have KW := Lib.hid kW
  have hF : ∀ w', Kept (((w.alloc (.cells #[.int .i64 c.kind, .int .i64 c.rel, .slice xa c.x.length xc, .slice ya c.y.length yc, .int .i64 c.a, .int .i64 c.b, .int .i64 c.place] 101)).alloc (.cells #[.pointer m, .slice ba bl bc, .pointer o, .slice oa ol oc, .int .i64 E.res, .int .i64 E.t] 49)).alloc (.cells #[.bool false, .int .i64 0, .int .i64 0] 107)) w' →
      (w'.cell? ⟨w.heap.size, 1, none⟩ = some (.int .i64 c.rel) ∧ w'.cell? ⟨w.heap.size, 2, none⟩ = some (.slice xa c.x.length xc) ∧ w'.cell? ⟨w.heap.size, 3, none⟩ = some (.slice ya c.y.length yc)) ∧
      (w'.cell? ⟨w.heap.size + 1, 0, none⟩ = some (.pointer m) ∧ w'.cell? ⟨w.heap.size + 1, 1, none⟩ = some (.slice ba bl bc) ∧ w'.cell? ⟨w.heap.size + 1, 2, none⟩ = some (.pointer o) ∧ w'.cell? ⟨w.heap.size + 1, 3, none⟩ = some (.slice oa ol oc) ∧ w'.cell? ⟨w.heap.size + 1, 4, none⟩ = some (.int .i64 E.res) ∧ w'.cell? ⟨w.heap.size + 1, 5, none⟩ = some (.int .i64 E.t)) ∧
      w'.heap[w.heap.size + 2]? = some (.cells #[.bool false, .int .i64 0, .int .i64 0] 107 (0, 0)) := fun w' hk =>
    ⟨⟨bx_cell (kh x0 hk) 1 _ rfl, bx_cell (kh x0 hk) 2 _ rfl, bx_cell (kh x0 hk) 3 _ rfl⟩, ⟨bx_cell (kh x1 hk) 0 _ rfl, bx_cell (kh x1 hk) 1 _ rfl, bx_cell (kh x1 hk) 2 _ rfl, bx_cell (kh x1 hk) 3 _ rfl, bx_cell (kh x1 hk) 4 _ rfl, bx_cell (kh x1 hk) 5 _ rfl⟩, kh x2 hk⟩
  have HF := Lib.hid hF
  clear hF x0 x1 x2 kW
  generalize (((w.alloc (.cells #[.int .i64 c.kind, .int .i64 c.rel, .slice xa c.x.length xc, .slice ya c.y.length yc, .int .i64 c.a, .int .i64 c.b, .int .i64 c.place] 101)).alloc (.cells #[.pointer m, .slice ba bl bc, .pointer o, .slice oa ol oc, .int .i64 E.res, .int .i64 E.t] 49)).alloc (.cells #[.bool false, .int .i64 0, .int .i64 0] 107)) = W at *
  generalize hcb : w.heap.size = cb at *
  go_cut [5, 6] from 7 (fun v5 v6 wx => ∃ bl br, v5 = .pointer (some ⟨bl, 0, none⟩) ∧ v6 = .pointer (some ⟨br, 0, none⟩) ∧ Hid (Kept W wx ∧ wx.heap[bl]? = some (.cells #[.int .i64 vx.v, .int .i64 vx.t, .int .i64 vx.ub, .int .i64 vx.at_] 124 (0, 0)) ∧ wx.heap[br]? = some (.cells #[.int .i64 vy.v, .int .i64 vy.t, .int .i64 vy.ub, .int .i64 vy.at_] 124 (0, 0))))
  case first =>
    refine Ord.named_act fun A0 hA0 => ?_
    obtain ⟨F, hF⟩ : ∃ F : Value → Value → Value → Value → Value → Value → Value → Value → Value → Value → Act, F = fun v0 v1 v2 v3 v4 v5 v6 v7 v8 v9 => (((((((((A0.put (some 10) v0).put (some 11) v1).put (some 12) v2).put (some 13) v3).put (some 14) v4).put (some 15) v5).put (some 16) v6).put (some 17) v7).put (some 5) v8).put (some 6) v9 := ⟨_, rfl⟩
    rw [hA0] at hF
    simp only [go_sem, List.setIfInBounds_toArray, List.set_cons_succ, List.set_cons_zero] at hF
    refine Ord.wp_region_inv (fun f a wx => ∃ v0 v1 v2 v3 v4 v5 v6 v7 v8 v9 : Value, a = F v0 v1 v2 v3 v4 v5 v6 v7 v8 v9 ∧ Hid (Kept W wx) ∧ (f 0 = true → v0 = .pointer (some ⟨cb, 2, none⟩)) ∧ (f 1 = true → v1 = .slice xa c.x.length xc) ∧ (f 2 = true → v2 = .agg #[.pointer m, .slice ba bl bc, .pointer o, .slice oa ol oc, .int .i64 E.res, .int .i64 E.t]) ∧ (f 3 = true → v3 = .agg #[.int .i64 vx.v, .int .i64 vx.t, .int .i64 vx.ub, .int .i64 vx.at_]) ∧ (f 4 = true → v4 = .pointer (some ⟨cb, 3, none⟩)) ∧ (f 5 = true → v5 = .slice ya c.y.length yc) ∧ (f 6 = true → v6 = .agg #[.pointer m, .slice ba bl bc, .pointer o, .slice oa ol oc, .int .i64 E.res, .int .i64 E.t]) ∧ (f 7 = true → v7 = .agg #[.int .i64 vy.v, .int .i64 vy.t, .int .i64 vy.ub, .int .i64 vy.at_]) ∧ Hid (Ord.PairAt W.heap.size 124 #[.int .i64 0, .int .i64 0, .int .i64 0, .int .i64 0] #[.int .i64 vx.v, .int .i64 vx.t, .int .i64 vx.ub, .int .i64 vx.at_] #[.int .i64 vy.v, .int .i64 vy.t, .int .i64 vy.ub, .int .i64 vy.at_] (f 8) (f 9) (f 10) (f 11) v8 v9 wx)) (by kernel_rfl) (by kernel_rfl) ?_ ?_ ?_
    · subst hF
      exact ⟨undef, undef, undef, undef, undef, undef, undef, undef, undef, undef, hA0, Lib.hid (Kept.refl W).drew, fun h => Bool.noConfusion (h : false = true), fun h => Bool.noConfusion (h : false = true), fun h => Bool.noConfusion (h : false = true), fun h => Bool.noConfusion (h : false = true), fun h => Bool.noConfusion (h : false = true), fun h => Bool.noConfusion (h : false = true), fun h => Bool.noConfusion (h : false = true), fun h => Bool.noConfusion (h : false = true), Lib.hid ⟨fun h => Bool.noConfusion (h : false = true), fun h => Bool.noConfusion (h : false = true), fun h => Bool.noConfusion (h : false = true), fun h => Bool.noConfusion (h : false = true), fun h => Bool.noConfusion (h : false = true)⟩⟩
    · refine Ord.InvL.cons ?_ (Ord.InvL.cons ?_ (Ord.InvL.cons ?_ (Ord.InvL.cons ?_ (Ord.InvL.cons ?_ (Ord.InvL.cons ?_ (Ord.InvL.cons ?_ (Ord.InvL.cons ?_ (Ord.InvL.cons ?_ (Ord.InvL.cons ?_ (Ord.InvL.cons ?_ (Ord.InvL.cons ?_ (Ord.InvL.nil))))))))))))
      · rintro f a wx ⟨v0, v1, v2, v3, v4, v5, v6, v7, v8, v9, rfl, HK2, f0, f1, f2, f3, f4, f5, f6, f7, HP⟩ hf hd K hK'; subst hF
        clear hd
        go_simp
        refine hK'.out _ _ ⟨_, v1, v2, v3, v4, v5, v6, v7, v8, v9, rfl, HK2, fun _ => rfl, f1, f2, f3, f4, f5, f6, f7, HP⟩
      · rintro f a wx ⟨v0, v1, v2, v3, v4, v5, v6, v7, v8, v9, rfl, HK2, f0, f1, f2, f3, f4, f5, f6, f7, HP⟩ hf hd K hK'; subst hF; simp only [Ord.deps, Region.binds, forall_const] at hd
        obtain rfl := f0 (by first | exact hd.1 | exact hd.2.1 | exact hd.2.2.1 | exact hd.2.2.2.1 | exact hd.2.2.2.2.1 | exact hd.2.2.2.2.2.1 | exact hd.2.2.2.2.2.2.1 | exact hd.2.2.2.2.2.2.2.1 | exact hd.2.2.2.2.2.2.2.2.1 | exact hd.2.2.2.2.2.2.2.2.2.1 | exact hd.2.2.2.2.2.2.2.2.2.2.1 | exact hd.2.2.2.2.2.2.2.2.2.2.2.1 | exact hd.2.2.2.2.2.2.2.2.2.2.2.2.1 | exact hd.2.2.2.2.2.2.2.2.2.2.2.2.2.1 | exact hd.2.2.2.2.2.2.2.2.2.2.2.2.2.2.1 | exact hd.2.2.2.2.2.2.2.2.2.2.2.2.2.2.2.1)
        obtain ⟨⟨q1, q2, q3⟩, ⟨n0, n1, n2, n3, n4, n5⟩, -⟩ := HF.out _ HK2.out
        clear hd
        go_simp
        refine hK'.out _ _ ⟨_, _, v2, v3, v4, v5, v6, v7, v8, v9, rfl, HK2, fun _ => rfl, fun _ => rfl, f2, f3, f4, f5, f6, f7, HP⟩
      · rintro f a wx ⟨v0, v1, v2, v3, v4, v5, v6, v7, v8, v9, rfl, HK2, f0, f1, f2, f3, f4, f5, f6, f7, HP⟩ hf hd K hK'; subst hF
        obtain ⟨⟨q1, q2, q3⟩, ⟨n0, n1, n2, n3, n4, n5⟩, -⟩ := HF.out _ HK2.out
        clear hd
        go_simp
        refine hK'.out _ _ ⟨v0, v1, _, v3, v4, v5, v6, v7, v8, v9, rfl, HK2, f0, f1, fun _ => rfl, f3, f4, f5, f6, f7, HP⟩
      · rintro f a wx ⟨v0, v1, v2, v3, v4, v5, v6, v7, v8, v9, rfl, HK2, f0, f1, f2, f3, f4, f5, f6, f7, HP⟩ hf hd K hK'; subst hF; simp only [Ord.deps, Region.binds, forall_const] at hd
        obtain rfl := f1 (by first | exact hd.1 | exact hd.2.1 | exact hd.2.2.1 | exact hd.2.2.2.1 | exact hd.2.2.2.2.1 | exact hd.2.2.2.2.2.1 | exact hd.2.2.2.2.2.2.1 | exact hd.2.2.2.2.2.2.2.1 | exact hd.2.2.2.2.2.2.2.2.1 | exact hd.2.2.2.2.2.2.2.2.2.1 | exact hd.2.2.2.2.2.2.2.2.2.2.1 | exact hd.2.2.2.2.2.2.2.2.2.2.2.1 | exact hd.2.2.2.2.2.2.2.2.2.2.2.2.1 | exact hd.2.2.2.2.2.2.2.2.2.2.2.2.2.1 | exact hd.2.2.2.2.2.2.2.2.2.2.2.2.2.2.1 | exact hd.2.2.2.2.2.2.2.2.2.2.2.2.2.2.2.1)
        obtain rfl := f2 (by first | exact hd.1 | exact hd.2.1 | exact hd.2.2.1 | exact hd.2.2.2.1 | exact hd.2.2.2.2.1 | exact hd.2.2.2.2.2.1 | exact hd.2.2.2.2.2.2.1 | exact hd.2.2.2.2.2.2.2.1 | exact hd.2.2.2.2.2.2.2.2.1 | exact hd.2.2.2.2.2.2.2.2.2.1 | exact hd.2.2.2.2.2.2.2.2.2.2.1 | exact hd.2.2.2.2.2.2.2.2.2.2.2.1 | exact hd.2.2.2.2.2.2.2.2.2.2.2.2.1 | exact hd.2.2.2.2.2.2.2.2.2.2.2.2.2.1 | exact hd.2.2.2.2.2.2.2.2.2.2.2.2.2.2.1 | exact hd.2.2.2.2.2.2.2.2.2.2.2.2.2.2.2.1)
        clear hd
        go_simp
        go_wp2_with (go_at_call 73; refine (HX.out _ (KW.out.trans HK2.out)).mono ?_; rintro e w5 ⟨rfl, k5⟩; have K3 := Lib.hid k5; clear k5)
        refine hK'.out _ _ ⟨v0, _, _, _, v4, v5, v6, v7, v8, v9, rfl, Lib.hid (HK2.out.trans K3.out), f0, fun _ => rfl, fun _ => rfl, fun _ => rfl, f4, f5, f6, f7, Lib.hid (HP.out.keep K3.out)⟩
      · rintro f a wx ⟨v0, v1, v2, v3, v4, v5, v6, v7, v8, v9, rfl, HK2, f0, f1, f2, f3, f4, f5, f6, f7, HP⟩ hf hd K hK'; subst hF
        clear hd
        go_simp
        refine hK'.out _ _ ⟨v0, v1, v2, v3, _, v5, v6, v7, v8, v9, rfl, HK2, f0, f1, f2, f3, fun _ => rfl, f5, f6, f7, HP⟩
      · rintro f a wx ⟨v0, v1, v2, v3, v4, v5, v6, v7, v8, v9, rfl, HK2, f0, f1, f2, f3, f4, f5, f6, f7, HP⟩ hf hd K hK'; subst hF; simp only [Ord.deps, Region.binds, forall_const] at hd
        obtain rfl := f4 (by first | exact hd.1 | exact hd.2.1 | exact hd.2.2.1 | exact hd.2.2.2.1 | exact hd.2.2.2.2.1 | exact hd.2.2.2.2.2.1 | exact hd.2.2.2.2.2.2.1 | exact hd.2.2.2.2.2.2.2.1 | exact hd.2.2.2.2.2.2.2.2.1 | exact hd.2.2.2.2.2.2.2.2.2.1 | exact hd.2.2.2.2.2.2.2.2.2.2.1 | exact hd.2.2.2.2.2.2.2.2.2.2.2.1 | exact hd.2.2.2.2.2.2.2.2.2.2.2.2.1 | exact hd.2.2.2.2.2.2.2.2.2.2.2.2.2.1 | exact hd.2.2.2.2.2.2.2.2.2.2.2.2.2.2.1 | exact hd.2.2.2.2.2.2.2.2.2.2.2.2.2.2.2.1)
        obtain ⟨⟨q1, q2, q3⟩, ⟨n0, n1, n2, n3, n4, n5⟩, -⟩ := HF.out _ HK2.out
        clear hd
        go_simp
        refine hK'.out _ _ ⟨v0, v1, v2, v3, _, _, v6, v7, v8, v9, rfl, HK2, f0, f1, f2, f3, fun _ => rfl, fun _ => rfl, f6, f7, HP⟩
      · rintro f a wx ⟨v0, v1, v2, v3, v4, v5, v6, v7, v8, v9, rfl, HK2, f0, f1, f2, f3, f4, f5, f6, f7, HP⟩ hf hd K hK'; subst hF
        obtain ⟨⟨q1, q2, q3⟩, ⟨n0, n1, n2, n3, n4, n5⟩, -⟩ := HF.out _ HK2.out
        clear hd
        go_simp
        refine hK'.out _ _ ⟨v0, v1, v2, v3, v4, v5, _, v7, v8, v9, rfl, HK2, f0, f1, f2, f3, f4, f5, fun _ => rfl, f7, HP⟩
      · rintro f a wx ⟨v0, v1, v2, v3, v4, v5, v6, v7, v8, v9, rfl, HK2, f0, f1, f2, f3, f4, f5, f6, f7, HP⟩ hf hd K hK'; subst hF; simp only [Ord.deps, Region.binds, forall_const] at hd
        obtain rfl := f5 (by first | exact hd.1 | exact hd.2.1 | exact hd.2.2.1 | exact hd.2.2.2.1 | exact hd.2.2.2.2.1 | exact hd.2.2.2.2.2.1 | exact hd.2.2.2.2.2.2.1 | exact hd.2.2.2.2.2.2.2.1 | exact hd.2.2.2.2.2.2.2.2.1 | exact hd.2.2.2.2.2.2.2.2.2.1 | exact hd.2.2.2.2.2.2.2.2.2.2.1 | exact hd.2.2.2.2.2.2.2.2.2.2.2.1 | exact hd.2.2.2.2.2.2.2.2.2.2.2.2.1 | exact hd.2.2.2.2.2.2.2.2.2.2.2.2.2.1 | exact hd.2.2.2.2.2.2.2.2.2.2.2.2.2.2.1 | exact hd.2.2.2.2.2.2.2.2.2.2.2.2.2.2.2.1)
        obtain rfl := f6 (by first | exact hd.1 | exact hd.2.1 | exact hd.2.2.1 | exact hd.2.2.2.1 | exact hd.2.2.2.2.1 | exact hd.2.2.2.2.2.1 | exact hd.2.2.2.2.2.2.1 | exact hd.2.2.2.2.2.2.2.1 | exact hd.2.2.2.2.2.2.2.2.1 | exact hd.2.2.2.2.2.2.2.2.2.1 | exact hd.2.2.2.2.2.2.2.2.2.2.1 | exact hd.2.2.2.2.2.2.2.2.2.2.2.1 | exact hd.2.2.2.2.2.2.2.2.2.2.2.2.1 | exact hd.2.2.2.2.2.2.2.2.2.2.2.2.2.1 | exact hd.2.2.2.2.2.2.2.2.2.2.2.2.2.2.1 | exact hd.2.2.2.2.2.2.2.2.2.2.2.2.2.2.2.1)
        clear hd
        go_simp
        go_wp2_with (go_at_call 73; refine (HY.out _ (KW.out.trans HK2.out)).mono ?_; rintro e w5 ⟨rfl, k5⟩; have K3 := Lib.hid k5; clear k5)
        refine hK'.out _ _ ⟨v0, v1, v2, v3, v4, _, _, _, v8, v9, rfl, Lib.hid (HK2.out.trans K3.out), f0, f1, f2, f3, f4, fun _ => rfl, fun _ => rfl, fun _ => rfl, Lib.hid (HP.out.keep K3.out)⟩
      · rintro f a wx ⟨v0, v1, v2, v3, v4, v5, v6, v7, v8, v9, rfl, HK2, f0, f1, f2, f3, f4, f5, f6, f7, HP⟩ hf hd K hK'; subst hF
        have h9 : f 10 = false := by
          cases h : f 10 with
          | false => rfl
          | true => exact absurd (HP.out.fill6 h) (by rw [hf]; simp)
        clear hd
        go_simp
        refine hK'.out _ _ ⟨v0, v1, v2, v3, v4, v5, v6, v7, _, v9, rfl, Lib.hid (HK2.out.alloc _), f0, f1, f2, f3, f4, f5, f6, f7, Lib.hid ?_⟩
        have HQ := HP.out
        rw [hf, h9] at HQ
        show Ord.PairAt _ _ _ _ _ true (f 9) (f 10) (f 11) _ _ _
        rw [h9]
        exact HQ.make6 (Below.size HK2.out)
      · rintro f a wx ⟨v0, v1, v2, v3, v4, v5, v6, v7, v8, v9, rfl, HK2, f0, f1, f2, f3, f4, f5, f6, f7, HP⟩ hf hd K hK'; subst hF
        have h9 : f 11 = false := by
          cases h : f 11 with
          | false => rfl
          | true => exact absurd (HP.out.fill7 h) (by rw [hf]; simp)
        clear hd
        go_simp
        refine hK'.out _ _ ⟨v0, v1, v2, v3, v4, v5, v6, v7, v8, _, rfl, Lib.hid (HK2.out.alloc _), f0, f1, f2, f3, f4, f5, f6, f7, Lib.hid ?_⟩
        have HQ := HP.out
        rw [hf, h9] at HQ
        show Ord.PairAt _ _ _ _ _ (f 8) true (f 10) (f 11) _ _ _
        rw [h9]
        exact HQ.make7 (Below.size HK2.out)
      · rintro f a wx ⟨v0, v1, v2, v3, v4, v5, v6, v7, v8, v9, rfl, HK2, f0, f1, f2, f3, f4, f5, f6, f7, HP⟩ hf hd K hK'; subst hF; simp only [Ord.deps, Region.binds, forall_const] at hd
        obtain rfl := f3 (by first | exact hd.1 | exact hd.2.1 | exact hd.2.2.1 | exact hd.2.2.2.1 | exact hd.2.2.2.2.1 | exact hd.2.2.2.2.2.1 | exact hd.2.2.2.2.2.2.1 | exact hd.2.2.2.2.2.2.2.1 | exact hd.2.2.2.2.2.2.2.2.1 | exact hd.2.2.2.2.2.2.2.2.2.1 | exact hd.2.2.2.2.2.2.2.2.2.2.1 | exact hd.2.2.2.2.2.2.2.2.2.2.2.1 | exact hd.2.2.2.2.2.2.2.2.2.2.2.2.1 | exact hd.2.2.2.2.2.2.2.2.2.2.2.2.2.1 | exact hd.2.2.2.2.2.2.2.2.2.2.2.2.2.2.1 | exact hd.2.2.2.2.2.2.2.2.2.2.2.2.2.2.2.1)
        have h8 : f 8 = true := by first | exact hd.1 | exact hd.2.1 | exact hd.2.2.1 | exact hd.2.2.2.1 | exact hd.2.2.2.2.1 | exact hd.2.2.2.2.2.1 | exact hd.2.2.2.2.2.2.1 | exact hd.2.2.2.2.2.2.2.1 | exact hd.2.2.2.2.2.2.2.2.1 | exact hd.2.2.2.2.2.2.2.2.2.1 | exact hd.2.2.2.2.2.2.2.2.2.2.1 | exact hd.2.2.2.2.2.2.2.2.2.2.2.1 | exact hd.2.2.2.2.2.2.2.2.2.2.2.2.1 | exact hd.2.2.2.2.2.2.2.2.2.2.2.2.2.1
        have hoth : f 9 = true := by first | exact hd.1 | exact hd.2.1 | exact hd.2.2.1 | exact hd.2.2.2.1 | exact hd.2.2.2.2.1 | exact hd.2.2.2.2.2.1 | exact hd.2.2.2.2.2.2.1 | exact hd.2.2.2.2.2.2.2.1 | exact hd.2.2.2.2.2.2.2.2.1 | exact hd.2.2.2.2.2.2.2.2.2.1 | exact hd.2.2.2.2.2.2.2.2.2.2.1 | exact hd.2.2.2.2.2.2.2.2.2.2.2.1 | exact hd.2.2.2.2.2.2.2.2.2.2.2.2.1 | exact hd.2.2.2.2.2.2.2.2.2.2.2.2.2.1
        have HQ := HP.out
        rw [hf, h8, hoth] at HQ
        obtain ⟨bo, rfl, hb, hx⟩ := HQ.one rfl
        simp only [Bool.false_eq_true, if_false] at hx
        have HX := Lib.hid HQ
        have xc0 := bx_cell hx 0 _ rfl
        have xc1 := bx_cell hx 1 _ rfl
        have xc2 := bx_cell hx 2 _ rfl
        have xc3 := bx_cell hx 3 _ rfl
        have xcf := bx_froz hx
        have xcl := (Array.getElem?_eq_some_iff.1 hx).1
        clear HQ hx
        clear hd
        go_simp
        refine hK'.out _ _ ⟨v0, v1, v2, _, v4, v5, v6, v7, _, v9, rfl, Lib.hid (Ord.below4 HK2.out hb _ _ _ _), f0, f1, f2, fun _ => rfl, f4, f5, f6, f7, Lib.hid ?_⟩
        show Ord.PairAt _ _ _ _ _ (f 8) (f 9) true (f 11) _ _ _
        rw [h8, hoth]
        exact HX.out.fill8
      · rintro f a wx ⟨v0, v1, v2, v3, v4, v5, v6, v7, v8, v9, rfl, HK2, f0, f1, f2, f3, f4, f5, f6, f7, HP⟩ hf hd K hK'; subst hF; simp only [Ord.deps, Region.binds, forall_const] at hd
        obtain rfl := f7 (by first | exact hd.1 | exact hd.2.1 | exact hd.2.2.1 | exact hd.2.2.2.1 | exact hd.2.2.2.2.1 | exact hd.2.2.2.2.2.1 | exact hd.2.2.2.2.2.2.1 | exact hd.2.2.2.2.2.2.2.1 | exact hd.2.2.2.2.2.2.2.2.1 | exact hd.2.2.2.2.2.2.2.2.2.1 | exact hd.2.2.2.2.2.2.2.2.2.2.1 | exact hd.2.2.2.2.2.2.2.2.2.2.2.1 | exact hd.2.2.2.2.2.2.2.2.2.2.2.2.1 | exact hd.2.2.2.2.2.2.2.2.2.2.2.2.2.1 | exact hd.2.2.2.2.2.2.2.2.2.2.2.2.2.2.1 | exact hd.2.2.2.2.2.2.2.2.2.2.2.2.2.2.2.1)
        have h9 : f 9 = true := by first | exact hd.1 | exact hd.2.1 | exact hd.2.2.1 | exact hd.2.2.2.1 | exact hd.2.2.2.2.1 | exact hd.2.2.2.2.2.1 | exact hd.2.2.2.2.2.2.1 | exact hd.2.2.2.2.2.2.2.1 | exact hd.2.2.2.2.2.2.2.2.1 | exact hd.2.2.2.2.2.2.2.2.2.1 | exact hd.2.2.2.2.2.2.2.2.2.2.1 | exact hd.2.2.2.2.2.2.2.2.2.2.2.1 | exact hd.2.2.2.2.2.2.2.2.2.2.2.2.1 | exact hd.2.2.2.2.2.2.2.2.2.2.2.2.2.1
        have hoth : f 8 = true := by first | exact hd.1 | exact hd.2.1 | exact hd.2.2.1 | exact hd.2.2.2.1 | exact hd.2.2.2.2.1 | exact hd.2.2.2.2.2.1 | exact hd.2.2.2.2.2.2.1 | exact hd.2.2.2.2.2.2.2.1 | exact hd.2.2.2.2.2.2.2.2.1 | exact hd.2.2.2.2.2.2.2.2.2.1 | exact hd.2.2.2.2.2.2.2.2.2.2.1 | exact hd.2.2.2.2.2.2.2.2.2.2.2.1 | exact hd.2.2.2.2.2.2.2.2.2.2.2.2.1 | exact hd.2.2.2.2.2.2.2.2.2.2.2.2.2.1
        have HQ := HP.out
        rw [hf, hoth, h9] at HQ
        obtain ⟨bo, rfl, hb, hx⟩ := HQ.two rfl
        simp only [Bool.false_eq_true, if_false] at hx
        have HX := Lib.hid HQ
        have xc0 := bx_cell hx 0 _ rfl
        have xc1 := bx_cell hx 1 _ rfl
        have xc2 := bx_cell hx 2 _ rfl
        have xc3 := bx_cell hx 3 _ rfl
        have xcf := bx_froz hx
        have xcl := (Array.getElem?_eq_some_iff.1 hx).1
        clear HQ hx
        clear hd
        go_simp
        refine hK'.out _ _ ⟨v0, v1, v2, v3, v4, v5, v6, _, v8, _, rfl, Lib.hid (Ord.below4 HK2.out hb _ _ _ _), f0, f1, f2, f3, f4, f5, f6, fun _ => rfl, Lib.hid ?_⟩
        show Ord.PairAt _ _ _ _ _ (f 8) (f 9) (f 10) true _ _ _
        rw [hoth, h9]
        exact HX.out.fill9
    · rintro f a wx hall ⟨v0, v1, v2, v3, v4, v5, v6, v7, v8, v9, rfl, HK2, f0, f1, f2, f3, f4, f5, f6, f7, HP⟩
      subst hF
      obtain rfl := f0 (hall 0 (by decide))
      obtain rfl := f1 (hall 1 (by decide))
      obtain rfl := f2 (hall 2 (by decide))
      obtain rfl := f3 (hall 3 (by decide))
      obtain rfl := f4 (hall 4 (by decide))
      obtain rfl := f5 (hall 5 (by decide))
      obtain rfl := f6 (hall 6 (by decide))
      obtain rfl := f7 (hall 7 (by decide))
      have HQ := HP.out
      rw [hall 8 (by decide), hall 9 (by decide), hall 10 (by decide), hall 11 (by decide)] at HQ
      obtain ⟨bl, rfl, hb, hx⟩ := HQ.one rfl
      obtain ⟨br, rfl, hb2, hx2⟩ := HQ.two rfl
      simp only [if_true] at hx hx2
      have HXX := Lib.hid (And.intro HK2.out (And.intro hx hx2))
      clear HQ hx hx2 HP hall HK2
      go_wp2
      go_meet
      exact ⟨bl, br, rfl, rfl, HXX⟩
  case rest =>
    obtain ⟨bx, br, rfl, rfl, HC⟩ := hcut
    generalize wc = w3 at *
    have HG : Hid (∀ w', Kept w3 w' → (w'.cell? ⟨bx, 0, none⟩ = some (.int .i64 vx.v) ∧ w'.cell? ⟨bx, 1, none⟩ = some (.int .i64 vx.t) ∧ w'.cell? ⟨bx, 2, none⟩ = some (.int .i64 vx.ub) ∧ w'.cell? ⟨bx, 3, none⟩ = some (.int .i64 vx.at_)) ∧
        (w'.cell? ⟨br, 0, none⟩ = some (.int .i64 vy.v) ∧ w'.cell? ⟨br, 1, none⟩ = some (.int .i64 vy.t) ∧ w'.cell? ⟨br, 2, none⟩ = some (.int .i64 vy.ub) ∧ w'.cell? ⟨br, 3, none⟩ = some (.int .i64 vy.at_)) ∧ w'.cell? ⟨cb, 1, none⟩ = some (.int .i64 c.rel) ∧ w'.heap[cb + 2]? = some (.cells #[.bool false, .int .i64 0, .int .i64 0] 107 (0, 0)) ∧ Kept w w') := Lib.hid fun w' hk => by
      have hl := kh HC.out.2.1 hk
      have hr := kh HC.out.2.2 hk
      obtain ⟨⟨q1, -, -⟩, -, q4⟩ := HF.out _ (HC.out.1.trans hk)
      exact ⟨⟨bx_cell hl 0 _ rfl, bx_cell hl 1 _ rfl, bx_cell hl 2 _ rfl, bx_cell hl 3 _ rfl⟩, ⟨bx_cell hr 0 _ rfl, bx_cell hr 1 _ rfl, bx_cell hr 2 _ rfl, bx_cell hr 3 _ rfl⟩, q1, q4, KW.out.trans (HC.out.1.trans hk)⟩
    obtain ⟨⟨a0, a1, a2, a3⟩, ⟨r0, r1, r2, r3⟩, -⟩ := HG.out _ (Kept.refl _)
    clear HC HF HX HY KW
    go_upto_block 0 with fail
    go_wp2_with fail
    go_loopg [21] 2 (fun k y wx => ∃ j : Nat, y = .int .i64 (j : Int) ∧ k = 2 - j ∧ j ≤ 2 ∧ (1 ≤ j → vx.ub = 0) ∧ (2 ≤ j → vy.ub = 0) ∧ Hid (Kept w3 wx))
    case atStart => exact ⟨0, rfl, rfl, by omega, fun h => absurd h (by omega), fun h => absurd h (by omega), Lib.hid (Kept.refl _)⟩
    case round =>
      obtain ⟨j, rfl, rfl, hj, ha, hb, HK6⟩ := hrel
      clear a0 a1 a2 a3 r0 r1 r2 r3
      rcases (show j = 0 ∨ j = 1 ∨ j = 2 by omega) with rfl | rfl | rfl
      · by_cases hu : vx.ub = 0
        · have hub : (vx.ub != 0) = false := by simp [hu]
          go_wp2
          go_roundg 1
          case measure => omega
          case rel => exact ⟨1, rfl, rfl, by omega, fun _ => hu, fun h => absurd h (by omega), Lib.hid (HK6.out.alloc _)⟩
        · have hub : (vx.ub != 0) = true := by simp [hu]
          have hrl : relV c.rel vx vy = ⟨false, vx.ub, vx.at_⟩ := by unfold relV; rw [if_pos hu]
          have k7 := HK6.out.alloc (.cells #[.int .i64 vx.v, .int .i64 vx.t, .int .i64 vx.ub, .int .i64 vx.at_] 124)
          obtain ⟨-, -, -, q4, kw⟩ := HG.out _ k7
          have ob0 := bx_cell q4 0 _ rfl
          have ob1 := bx_cell q4 1 _ rfl
          have ob2 := bx_cell q4 2 _ rfl
          have obf := bx_froz q4
          have obl := (Array.getElem?_eq_some_iff.1 q4).1
          have s := put3 (w := w) (W := wr.alloc (.cells #[.int .i64 vx.v, .int .i64 vx.t, .int .i64 vx.ub, .int .i64 vx.at_] 124)) (i := cb + 2) (.bool false) (.int .i64 vx.ub) (.int .i64 vx.at_) (by omega) kw q4
          have z0 := bx_cell s.1 0 _ rfl
          have z1 := bx_cell s.1 1 _ rfl
          have z2 := bx_cell s.1 2 _ rfl
          have S := Lib.hid s.2
          clear s q4 kw k7
          go_wp2
          simp [bodyPost, results, Try.f66, go_sem, z0, z1, z2, fiVal, hrl]
          exact S.out
      · by_cases hu : vy.ub = 0
        · have hub : (vy.ub != 0) = false := by simp [hu]
          go_wp2
          go_roundg 0
          case measure => omega
          case rel => exact ⟨2, rfl, rfl, by omega, fun _ => ha (by omega), fun h => hu, Lib.hid (HK6.out.alloc _)⟩
        · have hub : (vy.ub != 0) = true := by simp [hu]
          have hrl : relV c.rel vx vy = ⟨false, vy.ub, vy.at_⟩ := by unfold relV; rw [if_neg (by have := ha (by omega); omega), if_pos hu]
          have k7 := HK6.out.alloc (.cells #[.int .i64 vy.v, .int .i64 vy.t, .int .i64 vy.ub, .int .i64 vy.at_] 124)
          obtain ⟨-, -, -, q4, kw⟩ := HG.out _ k7
          have ob0 := bx_cell q4 0 _ rfl
          have ob1 := bx_cell q4 1 _ rfl
          have ob2 := bx_cell q4 2 _ rfl
          have obf := bx_froz q4
          have obl := (Array.getElem?_eq_some_iff.1 q4).1
          have s := put3 (w := w) (W := wr.alloc (.cells #[.int .i64 vy.v, .int .i64 vy.t, .int .i64 vy.ub, .int .i64 vy.at_] 124)) (i := cb + 2) (.bool false) (.int .i64 vy.ub) (.int .i64 vy.at_) (by omega) kw q4
          have z0 := bx_cell s.1 0 _ rfl
          have z1 := bx_cell s.1 1 _ rfl
          have z2 := bx_cell s.1 2 _ rfl
          have S := Lib.hid s.2
          clear s q4 kw k7
          go_wp2
          simp [bodyPost, results, Try.f66, go_sem, z0, z1, z2, fiVal, hrl]
          exact S.out
      · have hrl : relV c.rel vx vy = ⟨relF c.rel (wrapF (meetF vx vy) vx.v) (wrapF (meetF vx vy) vy.v), 0, 0⟩ := by unfold relV; rw [if_neg (by have := ha (by omega); omega), if_neg (by have := hb (by omega); omega)]
        have HRL := Lib.hid hrl
        clear hrl ha hb
        obtain ⟨⟨a0, a1, a2, a3⟩, ⟨r0, r1, r2, r3⟩, -⟩ := HG.out _ HK6.out
        go_upto_region 9 with (go_at_call 74; refine (HM.out _).mono ?_; rintro e w5 ⟨rfl, k5⟩; have K5 := Lib.hid (HK6.out.trans k5); clear k5 a0 a1 a2 a3 r0 r1 r2 r3)
        generalize meetF vx vy = mt at *
        refine Ord.named_act fun A0 hA0 => ?_
        obtain ⟨F, hF⟩ : ∃ F : Value → Value → Value → Value → Value → Value → Value → Value → Value → Value → Value → Value → Act, F = fun v0 v1 v2 v3 v4 v5 v6 v7 v8 v9 v10 v11 => (((((((((((A0.put (some 36) v0).put (some 37) v1).put (some 38) v2).put (some 39) v3).put (some 40) v4).put (some 41) v5).put (some 42) v6).put (some 43) v7).put (some 44) v8).put (some 45) v9).put (some 46) v10).put (some 47) v11 := ⟨_, rfl⟩
        rw [hA0] at hF
        simp only [go_sem, List.setIfInBounds_toArray, List.set_cons_succ, List.set_cons_zero] at hF
        refine Ord.wp_region_inv (fun f a wx => ∃ v0 v1 v2 v3 v4 v5 v6 v7 v8 v9 v10 v11 : Value, a = F v0 v1 v2 v3 v4 v5 v6 v7 v8 v9 v10 v11 ∧ Hid ((f 12 = false → Kept w5 wx) ∧ (f 12 = true → Kept w wx ∧ wx.heap[cb + 2]? = some (.cells #[.bool (relF c.rel (wrapF mt vx.v) (wrapF mt vy.v)), .int .i64 0, .int .i64 0] 107 (0, 0))) ∧ (f 12 = true → ∀ j, j < 12 → f j = true)) ∧ (f 0 = true → v0 = .pointer (some ⟨cb, 1, none⟩)) ∧ (f 1 = true → v1 = .int .i64 c.rel) ∧ (f 2 = true → v2 = .int .i64 mt) ∧ (f 3 = true → v3 = .pointer (some ⟨bx, 0, none⟩)) ∧ (f 4 = true → v4 = .int .i64 vx.v) ∧ (f 5 = true → v5 = .int .i64 (wrapF mt vx.v)) ∧ (f 6 = true → v6 = .int .i64 mt) ∧ (f 7 = true → v7 = .pointer (some ⟨br, 0, none⟩)) ∧ (f 8 = true → v8 = .int .i64 vy.v) ∧ (f 9 = true → v9 = .int .i64 (wrapF mt vy.v)) ∧ (f 10 = true → v10 = .bool (relF c.rel (wrapF mt vx.v) (wrapF mt vy.v))) ∧ (f 11 = true → v11 = .agg #[.bool (relF c.rel (wrapF mt vx.v) (wrapF mt vy.v)), .int .i64 0, .int .i64 0])) (by kernel_rfl) (by kernel_rfl) ?_ ?_ ?_
        · subst hF
          exact ⟨u36, u37, u38, u39, u40, u41, u42, u43, u44, u45, u46, u47, hA0, Lib.hid ⟨fun _ => (Kept.refl w5).drew, fun h => Bool.noConfusion (h : false = true), fun h => Bool.noConfusion (h : false = true)⟩, fun h => Bool.noConfusion (h : false = true), fun h => Bool.noConfusion (h : false = true), fun h => Bool.noConfusion (h : false = true), fun h => Bool.noConfusion (h : false = true), fun h => Bool.noConfusion (h : false = true), fun h => Bool.noConfusion (h : false = true), fun h => Bool.noConfusion (h : false = true), fun h => Bool.noConfusion (h : false = true), fun h => Bool.noConfusion (h : false = true), fun h => Bool.noConfusion (h : false = true), fun h => Bool.noConfusion (h : false = true), fun h => Bool.noConfusion (h : false = true)⟩
        · refine Ord.InvL.cons ?_ (Ord.InvL.cons ?_ (Ord.InvL.cons ?_ (Ord.InvL.cons ?_ (Ord.InvL.cons ?_ (Ord.InvL.cons ?_ (Ord.InvL.cons ?_ (Ord.InvL.cons ?_ (Ord.InvL.cons ?_ (Ord.InvL.cons ?_ (Ord.InvL.cons ?_ (Ord.InvL.cons ?_ (Ord.InvL.cons ?_ (Ord.InvL.nil)))))))))))))
          · rintro f a wx ⟨v0, v1, v2, v3, v4, v5, v6, v7, v8, v9, v10, v11, rfl, HK2, f0, f1, f2, f3, f4, f5, f6, f7, f8, f9, f10, f11⟩ hf hd K hK'; subst hF
            have h12 : f 12 = false := by
              cases h : f 12 with
              | false => rfl
              | true => exact absurd (HK2.out.2.2 h 0 (by decide)) (by rw [hf]; simp)
            have KX := HK2.out.1 h12
            have h12n : ¬ f 12 = true := by rw [h12]; simp
            obtain ⟨⟨a0, a1, a2, a3⟩, ⟨r0, r1, r2, r3⟩, q1, q4, kw⟩ := HG.out _ (K5.out.trans KX)
            clear hd
            go_simp
            refine hK'.out _ _ ⟨_, v1, v2, v3, v4, v5, v6, v7, v8, v9, v10, v11, rfl, Lib.hid ⟨fun _ => KX, fun h => absurd h h12n, fun h => absurd h h12n⟩, fun _ => rfl, f1, f2, f3, f4, f5, f6, f7, f8, f9, f10, f11⟩
          · rintro f a wx ⟨v0, v1, v2, v3, v4, v5, v6, v7, v8, v9, v10, v11, rfl, HK2, f0, f1, f2, f3, f4, f5, f6, f7, f8, f9, f10, f11⟩ hf hd K hK'; subst hF; simp only [Ord.deps, Region.binds, forall_const] at hd
            obtain rfl := f0 (by first | exact hd.1 | exact hd.2.1 | exact hd.2.2.1 | exact hd.2.2.2.1 | exact hd.2.2.2.2.1 | exact hd.2.2.2.2.2.1 | exact hd.2.2.2.2.2.2.1 | exact hd.2.2.2.2.2.2.2.1 | exact hd.2.2.2.2.2.2.2.2.1 | exact hd.2.2.2.2.2.2.2.2.2.1 | exact hd.2.2.2.2.2.2.2.2.2.2.1 | exact hd.2.2.2.2.2.2.2.2.2.2.2.1 | exact hd.2.2.2.2.2.2.2.2.2.2.2.2.1 | exact hd.2.2.2.2.2.2.2.2.2.2.2.2.2.1 | exact hd.2.2.2.2.2.2.2.2.2.2.2.2.2.2.1 | exact hd.2.2.2.2.2.2.2.2.2.2.2.2.2.2.2.1)
            have h12 : f 12 = false := by
              cases h : f 12 with
              | false => rfl
              | true => exact absurd (HK2.out.2.2 h 1 (by decide)) (by rw [hf]; simp)
            have KX := HK2.out.1 h12
            have h12n : ¬ f 12 = true := by rw [h12]; simp
            obtain ⟨⟨a0, a1, a2, a3⟩, ⟨r0, r1, r2, r3⟩, q1, q4, kw⟩ := HG.out _ (K5.out.trans KX)
            clear hd
            go_simp
            refine hK'.out _ _ ⟨_, _, v2, v3, v4, v5, v6, v7, v8, v9, v10, v11, rfl, Lib.hid ⟨fun _ => KX, fun h => absurd h h12n, fun h => absurd h h12n⟩, fun _ => rfl, fun _ => rfl, f2, f3, f4, f5, f6, f7, f8, f9, f10, f11⟩
          · rintro f a wx ⟨v0, v1, v2, v3, v4, v5, v6, v7, v8, v9, v10, v11, rfl, HK2, f0, f1, f2, f3, f4, f5, f6, f7, f8, f9, f10, f11⟩ hf hd K hK'; subst hF
            have h12 : f 12 = false := by
              cases h : f 12 with
              | false => rfl
              | true => exact absurd (HK2.out.2.2 h 2 (by decide)) (by rw [hf]; simp)
            have KX := HK2.out.1 h12
            have h12n : ¬ f 12 = true := by rw [h12]; simp
            obtain ⟨⟨a0, a1, a2, a3⟩, ⟨r0, r1, r2, r3⟩, q1, q4, kw⟩ := HG.out _ (K5.out.trans KX)
            clear hd
            go_simp
            refine hK'.out _ _ ⟨v0, v1, _, v3, v4, v5, v6, v7, v8, v9, v10, v11, rfl, Lib.hid ⟨fun _ => KX, fun h => absurd h h12n, fun h => absurd h h12n⟩, f0, f1, fun _ => rfl, f3, f4, f5, f6, f7, f8, f9, f10, f11⟩
          · rintro f a wx ⟨v0, v1, v2, v3, v4, v5, v6, v7, v8, v9, v10, v11, rfl, HK2, f0, f1, f2, f3, f4, f5, f6, f7, f8, f9, f10, f11⟩ hf hd K hK'; subst hF
            have h12 : f 12 = false := by
              cases h : f 12 with
              | false => rfl
              | true => exact absurd (HK2.out.2.2 h 3 (by decide)) (by rw [hf]; simp)
            have KX := HK2.out.1 h12
            have h12n : ¬ f 12 = true := by rw [h12]; simp
            obtain ⟨⟨a0, a1, a2, a3⟩, ⟨r0, r1, r2, r3⟩, q1, q4, kw⟩ := HG.out _ (K5.out.trans KX)
            clear hd
            go_simp
            refine hK'.out _ _ ⟨v0, v1, v2, _, v4, v5, v6, v7, v8, v9, v10, v11, rfl, Lib.hid ⟨fun _ => KX, fun h => absurd h h12n, fun h => absurd h h12n⟩, f0, f1, f2, fun _ => rfl, f4, f5, f6, f7, f8, f9, f10, f11⟩
          · rintro f a wx ⟨v0, v1, v2, v3, v4, v5, v6, v7, v8, v9, v10, v11, rfl, HK2, f0, f1, f2, f3, f4, f5, f6, f7, f8, f9, f10, f11⟩ hf hd K hK'; subst hF; simp only [Ord.deps, Region.binds, forall_const] at hd
            obtain rfl := f3 (by first | exact hd.1 | exact hd.2.1 | exact hd.2.2.1 | exact hd.2.2.2.1 | exact hd.2.2.2.2.1 | exact hd.2.2.2.2.2.1 | exact hd.2.2.2.2.2.2.1 | exact hd.2.2.2.2.2.2.2.1 | exact hd.2.2.2.2.2.2.2.2.1 | exact hd.2.2.2.2.2.2.2.2.2.1 | exact hd.2.2.2.2.2.2.2.2.2.2.1 | exact hd.2.2.2.2.2.2.2.2.2.2.2.1 | exact hd.2.2.2.2.2.2.2.2.2.2.2.2.1 | exact hd.2.2.2.2.2.2.2.2.2.2.2.2.2.1 | exact hd.2.2.2.2.2.2.2.2.2.2.2.2.2.2.1 | exact hd.2.2.2.2.2.2.2.2.2.2.2.2.2.2.2.1)
            have h12 : f 12 = false := by
              cases h : f 12 with
              | false => rfl
              | true => exact absurd (HK2.out.2.2 h 4 (by decide)) (by rw [hf]; simp)
            have KX := HK2.out.1 h12
            have h12n : ¬ f 12 = true := by rw [h12]; simp
            obtain ⟨⟨a0, a1, a2, a3⟩, ⟨r0, r1, r2, r3⟩, q1, q4, kw⟩ := HG.out _ (K5.out.trans KX)
            clear hd
            go_simp
            refine hK'.out _ _ ⟨v0, v1, v2, _, _, v5, v6, v7, v8, v9, v10, v11, rfl, Lib.hid ⟨fun _ => KX, fun h => absurd h h12n, fun h => absurd h h12n⟩, f0, f1, f2, fun _ => rfl, fun _ => rfl, f5, f6, f7, f8, f9, f10, f11⟩
          · rintro f a wx ⟨v0, v1, v2, v3, v4, v5, v6, v7, v8, v9, v10, v11, rfl, HK2, f0, f1, f2, f3, f4, f5, f6, f7, f8, f9, f10, f11⟩ hf hd K hK'; subst hF; simp only [Ord.deps, Region.binds, forall_const] at hd
            obtain rfl := f2 (by first | exact hd.1 | exact hd.2.1 | exact hd.2.2.1 | exact hd.2.2.2.1 | exact hd.2.2.2.2.1 | exact hd.2.2.2.2.2.1 | exact hd.2.2.2.2.2.2.1 | exact hd.2.2.2.2.2.2.2.1 | exact hd.2.2.2.2.2.2.2.2.1 | exact hd.2.2.2.2.2.2.2.2.2.1 | exact hd.2.2.2.2.2.2.2.2.2.2.1 | exact hd.2.2.2.2.2.2.2.2.2.2.2.1 | exact hd.2.2.2.2.2.2.2.2.2.2.2.2.1 | exact hd.2.2.2.2.2.2.2.2.2.2.2.2.2.1 | exact hd.2.2.2.2.2.2.2.2.2.2.2.2.2.2.1 | exact hd.2.2.2.2.2.2.2.2.2.2.2.2.2.2.2.1)
            obtain rfl := f4 (by first | exact hd.1 | exact hd.2.1 | exact hd.2.2.1 | exact hd.2.2.2.1 | exact hd.2.2.2.2.1 | exact hd.2.2.2.2.2.1 | exact hd.2.2.2.2.2.2.1 | exact hd.2.2.2.2.2.2.2.1 | exact hd.2.2.2.2.2.2.2.2.1 | exact hd.2.2.2.2.2.2.2.2.2.1 | exact hd.2.2.2.2.2.2.2.2.2.2.1 | exact hd.2.2.2.2.2.2.2.2.2.2.2.1 | exact hd.2.2.2.2.2.2.2.2.2.2.2.2.1 | exact hd.2.2.2.2.2.2.2.2.2.2.2.2.2.1 | exact hd.2.2.2.2.2.2.2.2.2.2.2.2.2.2.1 | exact hd.2.2.2.2.2.2.2.2.2.2.2.2.2.2.2.1)
            have h12 : f 12 = false := by
              cases h : f 12 with
              | false => rfl
              | true => exact absurd (HK2.out.2.2 h 5 (by decide)) (by rw [hf]; simp)
            have KX := HK2.out.1 h12
            have h12n : ¬ f 12 = true := by rw [h12]; simp
            obtain ⟨⟨a0, a1, a2, a3⟩, ⟨r0, r1, r2, r3⟩, q1, q4, kw⟩ := HG.out _ (K5.out.trans KX)
            clear hd
            go_simp
            go_wp2_with (go_at_call 29; refine (Typ.wrap_any _ _ _).mono ?_; rintro e w7 ⟨rfl, rfl⟩)
            refine hK'.out _ _ ⟨v0, v1, _, v3, _, _, v6, v7, v8, v9, v10, v11, rfl, Lib.hid ⟨fun _ => KX, fun h => absurd h h12n, fun h => absurd h h12n⟩, f0, f1, fun _ => rfl, f3, fun _ => rfl, fun _ => rfl, f6, f7, f8, f9, f10, f11⟩
          · rintro f a wx ⟨v0, v1, v2, v3, v4, v5, v6, v7, v8, v9, v10, v11, rfl, HK2, f0, f1, f2, f3, f4, f5, f6, f7, f8, f9, f10, f11⟩ hf hd K hK'; subst hF
            have h12 : f 12 = false := by
              cases h : f 12 with
              | false => rfl
              | true => exact absurd (HK2.out.2.2 h 6 (by decide)) (by rw [hf]; simp)
            have KX := HK2.out.1 h12
            have h12n : ¬ f 12 = true := by rw [h12]; simp
            obtain ⟨⟨a0, a1, a2, a3⟩, ⟨r0, r1, r2, r3⟩, q1, q4, kw⟩ := HG.out _ (K5.out.trans KX)
            clear hd
            go_simp
            refine hK'.out _ _ ⟨v0, v1, v2, v3, v4, v5, _, v7, v8, v9, v10, v11, rfl, Lib.hid ⟨fun _ => KX, fun h => absurd h h12n, fun h => absurd h h12n⟩, f0, f1, f2, f3, f4, f5, fun _ => rfl, f7, f8, f9, f10, f11⟩
          · rintro f a wx ⟨v0, v1, v2, v3, v4, v5, v6, v7, v8, v9, v10, v11, rfl, HK2, f0, f1, f2, f3, f4, f5, f6, f7, f8, f9, f10, f11⟩ hf hd K hK'; subst hF
            have h12 : f 12 = false := by
              cases h : f 12 with
              | false => rfl
              | true => exact absurd (HK2.out.2.2 h 7 (by decide)) (by rw [hf]; simp)
            have KX := HK2.out.1 h12
            have h12n : ¬ f 12 = true := by rw [h12]; simp
            obtain ⟨⟨a0, a1, a2, a3⟩, ⟨r0, r1, r2, r3⟩, q1, q4, kw⟩ := HG.out _ (K5.out.trans KX)
            clear hd
            go_simp
            refine hK'.out _ _ ⟨v0, v1, v2, v3, v4, v5, v6, _, v8, v9, v10, v11, rfl, Lib.hid ⟨fun _ => KX, fun h => absurd h h12n, fun h => absurd h h12n⟩, f0, f1, f2, f3, f4, f5, f6, fun _ => rfl, f8, f9, f10, f11⟩
          · rintro f a wx ⟨v0, v1, v2, v3, v4, v5, v6, v7, v8, v9, v10, v11, rfl, HK2, f0, f1, f2, f3, f4, f5, f6, f7, f8, f9, f10, f11⟩ hf hd K hK'; subst hF; simp only [Ord.deps, Region.binds, forall_const] at hd
            obtain rfl := f7 (by first | exact hd.1 | exact hd.2.1 | exact hd.2.2.1 | exact hd.2.2.2.1 | exact hd.2.2.2.2.1 | exact hd.2.2.2.2.2.1 | exact hd.2.2.2.2.2.2.1 | exact hd.2.2.2.2.2.2.2.1 | exact hd.2.2.2.2.2.2.2.2.1 | exact hd.2.2.2.2.2.2.2.2.2.1 | exact hd.2.2.2.2.2.2.2.2.2.2.1 | exact hd.2.2.2.2.2.2.2.2.2.2.2.1 | exact hd.2.2.2.2.2.2.2.2.2.2.2.2.1 | exact hd.2.2.2.2.2.2.2.2.2.2.2.2.2.1 | exact hd.2.2.2.2.2.2.2.2.2.2.2.2.2.2.1 | exact hd.2.2.2.2.2.2.2.2.2.2.2.2.2.2.2.1)
            have h12 : f 12 = false := by
              cases h : f 12 with
              | false => rfl
              | true => exact absurd (HK2.out.2.2 h 8 (by decide)) (by rw [hf]; simp)
            have KX := HK2.out.1 h12
            have h12n : ¬ f 12 = true := by rw [h12]; simp
            obtain ⟨⟨a0, a1, a2, a3⟩, ⟨r0, r1, r2, r3⟩, q1, q4, kw⟩ := HG.out _ (K5.out.trans KX)
            clear hd
            go_simp
            refine hK'.out _ _ ⟨v0, v1, v2, v3, v4, v5, v6, _, _, v9, v10, v11, rfl, Lib.hid ⟨fun _ => KX, fun h => absurd h h12n, fun h => absurd h h12n⟩, f0, f1, f2, f3, f4, f5, f6, fun _ => rfl, fun _ => rfl, f9, f10, f11⟩
          · rintro f a wx ⟨v0, v1, v2, v3, v4, v5, v6, v7, v8, v9, v10, v11, rfl, HK2, f0, f1, f2, f3, f4, f5, f6, f7, f8, f9, f10, f11⟩ hf hd K hK'; subst hF; simp only [Ord.deps, Region.binds, forall_const] at hd
            obtain rfl := f6 (by first | exact hd.1 | exact hd.2.1 | exact hd.2.2.1 | exact hd.2.2.2.1 | exact hd.2.2.2.2.1 | exact hd.2.2.2.2.2.1 | exact hd.2.2.2.2.2.2.1 | exact hd.2.2.2.2.2.2.2.1 | exact hd.2.2.2.2.2.2.2.2.1 | exact hd.2.2.2.2.2.2.2.2.2.1 | exact hd.2.2.2.2.2.2.2.2.2.2.1 | exact hd.2.2.2.2.2.2.2.2.2.2.2.1 | exact hd.2.2.2.2.2.2.2.2.2.2.2.2.1 | exact hd.2.2.2.2.2.2.2.2.2.2.2.2.2.1 | exact hd.2.2.2.2.2.2.2.2.2.2.2.2.2.2.1 | exact hd.2.2.2.2.2.2.2.2.2.2.2.2.2.2.2.1)
            obtain rfl := f8 (by first | exact hd.1 | exact hd.2.1 | exact hd.2.2.1 | exact hd.2.2.2.1 | exact hd.2.2.2.2.1 | exact hd.2.2.2.2.2.1 | exact hd.2.2.2.2.2.2.1 | exact hd.2.2.2.2.2.2.2.1 | exact hd.2.2.2.2.2.2.2.2.1 | exact hd.2.2.2.2.2.2.2.2.2.1 | exact hd.2.2.2.2.2.2.2.2.2.2.1 | exact hd.2.2.2.2.2.2.2.2.2.2.2.1 | exact hd.2.2.2.2.2.2.2.2.2.2.2.2.1 | exact hd.2.2.2.2.2.2.2.2.2.2.2.2.2.1 | exact hd.2.2.2.2.2.2.2.2.2.2.2.2.2.2.1 | exact hd.2.2.2.2.2.2.2.2.2.2.2.2.2.2.2.1)
            have h12 : f 12 = false := by
              cases h : f 12 with
              | false => rfl
              | true => exact absurd (HK2.out.2.2 h 9 (by decide)) (by rw [hf]; simp)
            have KX := HK2.out.1 h12
            have h12n : ¬ f 12 = true := by rw [h12]; simp
            obtain ⟨⟨a0, a1, a2, a3⟩, ⟨r0, r1, r2, r3⟩, q1, q4, kw⟩ := HG.out _ (K5.out.trans KX)
            clear hd
            go_simp
            go_wp2_with (go_at_call 29; refine (Typ.wrap_any _ _ _).mono ?_; rintro e w7 ⟨rfl, rfl⟩)
            refine hK'.out _ _ ⟨v0, v1, v2, v3, v4, v5, _, v7, _, _, v10, v11, rfl, Lib.hid ⟨fun _ => KX, fun h => absurd h h12n, fun h => absurd h h12n⟩, f0, f1, f2, f3, f4, f5, fun _ => rfl, f7, fun _ => rfl, fun _ => rfl, f10, f11⟩
          · rintro f a wx ⟨v0, v1, v2, v3, v4, v5, v6, v7, v8, v9, v10, v11, rfl, HK2, f0, f1, f2, f3, f4, f5, f6, f7, f8, f9, f10, f11⟩ hf hd K hK'; subst hF; simp only [Ord.deps, Region.binds, forall_const] at hd
            obtain rfl := f1 (by first | exact hd.1 | exact hd.2.1 | exact hd.2.2.1 | exact hd.2.2.2.1 | exact hd.2.2.2.2.1 | exact hd.2.2.2.2.2.1 | exact hd.2.2.2.2.2.2.1 | exact hd.2.2.2.2.2.2.2.1 | exact hd.2.2.2.2.2.2.2.2.1 | exact hd.2.2.2.2.2.2.2.2.2.1 | exact hd.2.2.2.2.2.2.2.2.2.2.1 | exact hd.2.2.2.2.2.2.2.2.2.2.2.1 | exact hd.2.2.2.2.2.2.2.2.2.2.2.2.1 | exact hd.2.2.2.2.2.2.2.2.2.2.2.2.2.1 | exact hd.2.2.2.2.2.2.2.2.2.2.2.2.2.2.1 | exact hd.2.2.2.2.2.2.2.2.2.2.2.2.2.2.2.1)
            obtain rfl := f5 (by first | exact hd.1 | exact hd.2.1 | exact hd.2.2.1 | exact hd.2.2.2.1 | exact hd.2.2.2.2.1 | exact hd.2.2.2.2.2.1 | exact hd.2.2.2.2.2.2.1 | exact hd.2.2.2.2.2.2.2.1 | exact hd.2.2.2.2.2.2.2.2.1 | exact hd.2.2.2.2.2.2.2.2.2.1 | exact hd.2.2.2.2.2.2.2.2.2.2.1 | exact hd.2.2.2.2.2.2.2.2.2.2.2.1 | exact hd.2.2.2.2.2.2.2.2.2.2.2.2.1 | exact hd.2.2.2.2.2.2.2.2.2.2.2.2.2.1 | exact hd.2.2.2.2.2.2.2.2.2.2.2.2.2.2.1 | exact hd.2.2.2.2.2.2.2.2.2.2.2.2.2.2.2.1)
            obtain rfl := f9 (by first | exact hd.1 | exact hd.2.1 | exact hd.2.2.1 | exact hd.2.2.2.1 | exact hd.2.2.2.2.1 | exact hd.2.2.2.2.2.1 | exact hd.2.2.2.2.2.2.1 | exact hd.2.2.2.2.2.2.2.1 | exact hd.2.2.2.2.2.2.2.2.1 | exact hd.2.2.2.2.2.2.2.2.2.1 | exact hd.2.2.2.2.2.2.2.2.2.2.1 | exact hd.2.2.2.2.2.2.2.2.2.2.2.1 | exact hd.2.2.2.2.2.2.2.2.2.2.2.2.1 | exact hd.2.2.2.2.2.2.2.2.2.2.2.2.2.1 | exact hd.2.2.2.2.2.2.2.2.2.2.2.2.2.2.1 | exact hd.2.2.2.2.2.2.2.2.2.2.2.2.2.2.2.1)
            have h12 : f 12 = false := by
              cases h : f 12 with
              | false => rfl
              | true => exact absurd (HK2.out.2.2 h 10 (by decide)) (by rw [hf]; simp)
            have KX := HK2.out.1 h12
            have h12n : ¬ f 12 = true := by rw [h12]; simp
            obtain ⟨⟨a0, a1, a2, a3⟩, ⟨r0, r1, r2, r3⟩, q1, q4, kw⟩ := HG.out _ (K5.out.trans KX)
            clear hd
            go_simp
            go_wp2_with (go_at_call 75; refine (Typ.rel_any _ _ _ _).mono ?_; rintro e w7 ⟨rfl, rfl⟩)
            refine hK'.out _ _ ⟨v0, _, v2, v3, v4, _, v6, v7, v8, _, _, v11, rfl, Lib.hid ⟨fun _ => KX, fun h => absurd h h12n, fun h => absurd h h12n⟩, f0, fun _ => rfl, f2, f3, f4, fun _ => rfl, f6, f7, f8, fun _ => rfl, fun _ => rfl, f11⟩
          · rintro f a wx ⟨v0, v1, v2, v3, v4, v5, v6, v7, v8, v9, v10, v11, rfl, HK2, f0, f1, f2, f3, f4, f5, f6, f7, f8, f9, f10, f11⟩ hf hd K hK'; subst hF; simp only [Ord.deps, Region.binds, forall_const] at hd
            obtain rfl := f10 (by first | exact hd.1 | exact hd.2.1 | exact hd.2.2.1 | exact hd.2.2.2.1 | exact hd.2.2.2.2.1 | exact hd.2.2.2.2.2.1 | exact hd.2.2.2.2.2.2.1 | exact hd.2.2.2.2.2.2.2.1 | exact hd.2.2.2.2.2.2.2.2.1 | exact hd.2.2.2.2.2.2.2.2.2.1 | exact hd.2.2.2.2.2.2.2.2.2.2.1 | exact hd.2.2.2.2.2.2.2.2.2.2.2.1 | exact hd.2.2.2.2.2.2.2.2.2.2.2.2.1 | exact hd.2.2.2.2.2.2.2.2.2.2.2.2.2.1 | exact hd.2.2.2.2.2.2.2.2.2.2.2.2.2.2.1 | exact hd.2.2.2.2.2.2.2.2.2.2.2.2.2.2.2.1)
            have h12 : f 12 = false := by
              cases h : f 12 with
              | false => rfl
              | true => exact absurd (HK2.out.2.2 h 11 (by decide)) (by rw [hf]; simp)
            have KX := HK2.out.1 h12
            have h12n : ¬ f 12 = true := by rw [h12]; simp
            obtain ⟨⟨a0, a1, a2, a3⟩, ⟨r0, r1, r2, r3⟩, q1, q4, kw⟩ := HG.out _ (K5.out.trans KX)
            clear hd
            go_simp
            refine hK'.out _ _ ⟨v0, v1, v2, v3, v4, v5, v6, v7, v8, v9, _, _, rfl, Lib.hid ⟨fun _ => KX, fun h => absurd h h12n, fun h => absurd h h12n⟩, f0, f1, f2, f3, f4, f5, f6, f7, f8, f9, fun _ => rfl, fun _ => rfl⟩
          · rintro f a wx ⟨v0, v1, v2, v3, v4, v5, v6, v7, v8, v9, v10, v11, rfl, HK2, f0, f1, f2, f3, f4, f5, f6, f7, f8, f9, f10, f11⟩ hf hd K hK'; subst hF; simp only [Ord.deps, Region.binds, forall_const] at hd
            obtain rfl := f11 (by first | exact hd.1 | exact hd.2.1 | exact hd.2.2.1 | exact hd.2.2.2.1 | exact hd.2.2.2.2.1 | exact hd.2.2.2.2.2.1 | exact hd.2.2.2.2.2.2.1 | exact hd.2.2.2.2.2.2.2.1 | exact hd.2.2.2.2.2.2.2.2.1 | exact hd.2.2.2.2.2.2.2.2.2.1 | exact hd.2.2.2.2.2.2.2.2.2.2.1 | exact hd.2.2.2.2.2.2.2.2.2.2.2.1 | exact hd.2.2.2.2.2.2.2.2.2.2.2.2.1 | exact hd.2.2.2.2.2.2.2.2.2.2.2.2.2.1 | exact hd.2.2.2.2.2.2.2.2.2.2.2.2.2.2.1 | exact hd.2.2.2.2.2.2.2.2.2.2.2.2.2.2.2.1)
            have KX := HK2.out.1 hf
            obtain ⟨⟨a0, a1, a2, a3⟩, ⟨r0, r1, r2, r3⟩, q1, q4, kw⟩ := HG.out _ (K5.out.trans KX)
            have hall : ∀ j, j < 12 → f j = true := by
              obtain ⟨d0, d1, d2, d3, d4, d5, d6, d7, d8, d9, d10, d11, d12, d13⟩ := hd
              intro j hj
              rcases (show j = 0 ∨ j = 1 ∨ j = 2 ∨ j = 3 ∨ j = 4 ∨ j = 5 ∨ j = 6 ∨ j = 7 ∨ j = 8 ∨ j = 9 ∨ j = 10 ∨ j = 11 by omega) with rfl | rfl | rfl | rfl | rfl | rfl | rfl | rfl | rfl | rfl | rfl | rfl <;> assumption
            have HAL := Lib.hid hall
            clear hall
            have ob0 := bx_cell q4 0 _ rfl
            have ob1 := bx_cell q4 1 _ rfl
            have ob2 := bx_cell q4 2 _ rfl
            have obf := bx_froz q4
            have obl := (Array.getElem?_eq_some_iff.1 q4).1
            have s := put3 (w := w) (W := wx) (i := cb + 2) (.bool (relF c.rel (wrapF mt vx.v) (wrapF mt vy.v))) (.int .i64 0) (.int .i64 0) (by omega) kw q4
            have S := Lib.hid s
            clear s q4 kw
            clear hd
            go_simp
            refine hK'.out _ _ ⟨v0, v1, v2, v3, v4, v5, v6, v7, v8, v9, v10, _, rfl, Lib.hid ⟨fun h => Bool.noConfusion (h : true = false), fun _ => ⟨S.out.2, S.out.1⟩, fun _ j hj => ?_⟩, f0, f1, f2, f3, f4, f5, f6, f7, f8, f9, f10, fun _ => rfl⟩
            show (if j = 12 then true else f j) = true
            rw [if_neg (by omega)]
            exact HAL.out j hj
        · rintro f a wx hall ⟨v0, v1, v2, v3, v4, v5, v6, v7, v8, v9, v10, v11, rfl, HK2, f0, f1, f2, f3, f4, f5, f6, f7, f8, f9, f10, f11⟩
          subst hF
          obtain rfl := f0 (hall 0 (by decide))
          obtain rfl := f1 (hall 1 (by decide))
          obtain rfl := f2 (hall 2 (by decide))
          obtain rfl := f3 (hall 3 (by decide))
          obtain rfl := f4 (hall 4 (by decide))
          obtain rfl := f5 (hall 5 (by decide))
          obtain rfl := f6 (hall 6 (by decide))
          obtain rfl := f7 (hall 7 (by decide))
          obtain rfl := f8 (hall 8 (by decide))
          obtain rfl := f9 (hall 9 (by decide))
          obtain rfl := f10 (hall 10 (by decide))
          obtain rfl := f11 (hall 11 (by decide))
          have S := HK2.out.2.1 (hall 12 (by decide))
          have z0 := bx_cell S.2 0 _ rfl
          have z1 := bx_cell S.2 1 _ rfl
          have z2 := bx_cell S.2 2 _ rfl
          have S1 := Lib.hid S.1
          have hrl := HRL.out
          clear S hall HK2
          go_wp2
          simp [bodyPost, results, Try.f66, go_sem, z0, z1, z2, fiVal]
          exact S1.out
end
end Go.Proofs.Ythjnkjekidagiaa.Evl
namespace Go.Proofs.Ythjnkjekidagiaa.Evl
open Go.RowKit
open Prs (Ex Cn)
open Fnd (bx_cell bx_froz)
section
variable {w0 w w' : World} {q : Nat} {cv mv bv ov obv : Value} {l : List Cn} {E : Env} {g h : Nat} {e : List Bool} {a : List Fi}
def ClosesTo (w0 w : World) (q : Nat) (cv mv bv ov obv : Value) (l : List Cn) (E : Env) (g h : Nat) (e : List Bool) (a : List Fi) (i : Nat) (F : Fi) : Prop :=
  Calls Try.prog 57 #[.pointer (some ⟨q, 0, none⟩), .int .i64 (i : Int)] w fun x w' => (∃ v, x = .returned v) ∧ Hid (Jd w0 w' q cv mv bv ov obv l E g h e (a.set i F) ∧ Rpr.Chg (OwnJ g h) w w')
theorem jnote_end {W : World} (HR : Jd w0 W q cv mv bv ov obv l E g h e a) {i : Nat} (hi : i < l.length) (hW : Kept w W) (x : Fi) :
    Jd w0 (((W.setCell ⟨h, i * 3, none⟩ (.bool x.is)).setCell ⟨h, i * 3 + 1, none⟩ (.int .i64 x.ub)).setCell ⟨h, i * 3 + 2, none⟩ (.int .i64 x.at_)).drew q cv mv bv ov obv l E g h e (a.set i x) ∧
    Rpr.Chg (OwnJ g h) w (((W.setCell ⟨h, i * 3, none⟩ (.bool x.is)).setCell ⟨h, i * 3 + 1, none⟩ (.int .i64 x.ub)).setCell ⟨h, i * 3 + 2, none⟩ (.int .i64 x.at_)).drew := by
  refine ⟨(HR.note hi x).keep (Kept.refl _).drew, ?_⟩
  have hs : OwnJ g h h := .inr rfl
  exact ((((Rpr.Chg.of_kept hW).setCell (p := ⟨h, i * 3, none⟩) (fun _ => hs) _).setCell (p := ⟨h, i * 3 + 1, none⟩) (fun _ => hs) _).setCell (p := ⟨h, i * 3 + 2, none⟩) (fun _ => hs) _).drew
theorem jput1 {w W : World} {i : Nat} {x0 x1 x2 : Value} {t : TypeId} (a : Value) (hi : w.heap.size ≤ i) (hk : Kept w W) (h3 : W.heap[i]? = some (.cells #[x0, x1, x2] t (0, 0))) :
    (W.setCell ⟨i, 0, none⟩ a).heap[i]? = some (.cells #[a, x1, x2] t (0, 0)) ∧ Kept w (W.setCell ⟨i, 0, none⟩ a) := by
  have e1 := heap_setCell_same W i 0 _ _ a h3
  exact ⟨by simpa using e1, Below.setCell hk (p := ⟨i, 0, none⟩) hi _⟩

set_option maxRecDepth 100000 in
set_option maxHeartbeats 4000000 in
theorem closeX (H : Jd w0 w q cv mv bv ov obv l E g h e a) {i : Nat} (hi : i < l.length) (hk : l[i].kind ≠ 1 ∧ l[i].kind ≠ 2 ∧ l[i].kind ≠ 3 ∧ l[i].kind ≠ 4) : ClosesTo w0 w q cv mv bv ov obv l E g h e a i (Fi.none) := by
  have hk1 : ((l[i].kind : Int) == 1) = false := by first | (rw [hk]; rfl) | (rw [beq_eq_false_iff_ne]; omega)
  have hk3 : ((l[i].kind : Int) == 3) = false := by first | (rw [hk]; rfl) | (rw [beq_eq_false_iff_ne]; omega)
  have hk4 : ((l[i].kind : Int) == 4) = false := by first | (rw [hk]; rfl) | (rw [beq_eq_false_iff_ne]; omega)
  have hk2 : ((l[i].kind : Int) == 2) = false := by first | (rw [hk]; rfl) | (rw [beq_eq_false_iff_ne]; omega)
  clear hk
  obtain ⟨b, cap, xa, xc, ya, yc, hcv, hcap, hmax, hbw, hlx, hly, hcell⟩ := (H.list.kept H.kept).cells hi
  have hn := H.list.1
  obtain ⟨m, hm⟩ := H.env.mem.form
  obtain ⟨o, ho⟩ := H.env.old.form
  obtain ⟨ba, bl, bc, hb⟩ := binds_form H.env.binds
  obtain ⟨oa, ol, oc, hob⟩ := binds_form H.env.olds
  subst hcv hm ho hb hob
  have q0 := bx_cell H.box 0 _ rfl
  simp only [jdCells] at q0
  have hqw := (Array.getElem?_eq_some_iff.1 H.box).1
  obtain ⟨m0, m1, m2, m3, m4, m5, m6⟩ := hcell _ (Kept.refl w)
  have HH := Lib.hid H
  have hi1 : ((i : Int) < (l.length : Int)) := by omega
  clear hcell
  generalize l[i] = x at *
  have HI := Lib.hid hi
  unfold ClosesTo
  clear H
  go_enter Try.func57, Try.ntmps57
  go_upto_region 2 with fail
  obtain ⟨x0, x1, kW⟩ := two w (.cells #[.int .i64 x.kind, .int .i64 x.rel, .slice xa x.x.length xc, .slice ya x.y.length yc, .int .i64 x.a, .int .i64 x.b, .int .i64 x.place] 101) (.cells #[.bool false, .int .i64 0, .int .i64 0] 107)
  generalize ((w.alloc (.cells #[.int .i64 x.kind, .int .i64 x.rel, .slice xa x.x.length xc, .slice ya x.y.length yc, .int .i64 x.a, .int .i64 x.b, .int .i64 x.place] 101)).alloc (.cells #[.bool false, .int .i64 0, .int .i64 0] 107)) = W at *
  obtain ⟨fb, hfb⟩ : ∃ fb, fb = w.heap.size + 1 := ⟨_, rfl⟩
  have Hfb := Lib.hid (show w.heap.size ≤ fb by omega)
  rw [← hfb] at x1 ⊢
  clear hfb
  obtain ⟨cb, hcb⟩ : ∃ cb, w.heap.size = cb := ⟨_, rfl⟩
  rw [hcb] at x0 Hfb ⊢
  have Hcb := Lib.hid hcb
  clear hcb hqw
  have c0 := bx_cell x0 0 _ rfl
  have c1 := bx_cell x0 1 _ rfl
  have c2 := bx_cell x0 2 _ rfl
  have c3 := bx_cell x0 3 _ rfl
  have c4 := bx_cell x0 4 _ rfl
  have c5 := bx_cell x0 5 _ rfl
  have c6 := bx_cell x0 6 _ rfl
  have f0 := bx_cell x1 0 _ rfl
  have f1 := bx_cell x1 1 _ rfl
  have f2 := bx_cell x1 2 _ rfl
  have ff := bx_froz x1
  have X := Lib.hid x0
  have Y := Lib.hid x1
  have KW := Lib.hid kW
  clear x0 x1 kW m0 m1 m2 m3 m4 m5 m6 q0
  go_upto_region 13 with fail
  have KN := KW
  have YN := Y
  have HN := Lib.hid (HH.out.keep KN.out)
  have q8 := bx_cell HN.out.box 8 _ rfl
  simp only [jdCells] at q8
  have vf := bx_froz HN.out.ab
  have vl := (Array.getElem?_eq_some_iff.1 HN.out.ab).1
  obtain ⟨v0, v1, v2⟩ := HN.out.fiCells HI.out
  have z0 := bx_cell YN.out 0 _ rfl
  have z1 := bx_cell YN.out 1 _ rfl
  have z2 := bx_cell YN.out 2 _ rfl
  go_region
  go_wp2
  refine bodyPost_end (results_none rfl _ _ _) rfl ⟨⟨_, rfl⟩, Lib.hid ?_⟩
  have hf := jnote_end HN.out HI.out KN.out Fi.none
  exact hf

set_option maxRecDepth 100000 in
set_option maxHeartbeats 4000000 in
theorem close1 (H : Jd w0 w q cv mv bv ov obv l E g h e a) {i : Nat} (hi : i < l.length) (hk : l[i].kind = 1) (hdx : Down l[i].x) (hdy : Down l[i].y) : ClosesTo w0 w q cv mv bv ov obv l E g h e a i (relA l[i] E) := by
  have hk1 : ((l[i].kind : Int) == 1) = true := by first | (rw [hk]; rfl) | (rw [beq_eq_false_iff_ne]; omega)
  clear hk
  obtain ⟨b, cap, xa, xc, ya, yc, hcv, hcap, hmax, hbw, hlx, hly, hcell⟩ := (H.list.kept H.kept).cells hi
  have hn := H.list.1
  obtain ⟨m, hm⟩ := H.env.mem.form
  obtain ⟨o, ho⟩ := H.env.old.form
  obtain ⟨ba, bl, bc, hb⟩ := binds_form H.env.binds
  obtain ⟨oa, ol, oc, hob⟩ := binds_form H.env.olds
  subst hcv hm ho hb hob
  have q0 := bx_cell H.box 0 _ rfl
  simp only [jdCells] at q0
  have hqw := (Array.getElem?_eq_some_iff.1 H.box).1
  obtain ⟨m0, m1, m2, m3, m4, m5, m6⟩ := hcell _ (Kept.refl w)
  have HH := Lib.hid H
  have hi1 : ((i : Int) < (l.length : Int)) := by omega
  clear hcell
  have HR := Lib.hid (fun w1 (hk : Kept w w1) => relation_any l[i] _ _ (hlx.kept hk) (hly.kept hk) ((HH.out.env.kept HH.out.kept).kept hk) hdx hdy)
  obtain ⟨V, hV⟩ : ∃ V, relA l[i] E = V := ⟨_, rfl⟩
  rw [hV] at HR ⊢
  unfold fiVal condVal envVal at HR
  clear hV hdx hdy hlx hly
  generalize l[i] = x at *
  have HI := Lib.hid hi
  unfold ClosesTo
  clear H
  go_enter Try.func57, Try.ntmps57
  go_upto_region 2 with fail
  obtain ⟨x0, x1, kW⟩ := two w (.cells #[.int .i64 x.kind, .int .i64 x.rel, .slice xa x.x.length xc, .slice ya x.y.length yc, .int .i64 x.a, .int .i64 x.b, .int .i64 x.place] 101) (.cells #[.bool false, .int .i64 0, .int .i64 0] 107)
  generalize ((w.alloc (.cells #[.int .i64 x.kind, .int .i64 x.rel, .slice xa x.x.length xc, .slice ya x.y.length yc, .int .i64 x.a, .int .i64 x.b, .int .i64 x.place] 101)).alloc (.cells #[.bool false, .int .i64 0, .int .i64 0] 107)) = W at *
  obtain ⟨fb, hfb⟩ : ∃ fb, fb = w.heap.size + 1 := ⟨_, rfl⟩
  have Hfb := Lib.hid (show w.heap.size ≤ fb by omega)
  rw [← hfb] at x1 ⊢
  clear hfb
  obtain ⟨cb, hcb⟩ : ∃ cb, w.heap.size = cb := ⟨_, rfl⟩
  rw [hcb] at x0 Hfb ⊢
  have Hcb := Lib.hid hcb
  clear hcb hqw
  have c0 := bx_cell x0 0 _ rfl
  have c1 := bx_cell x0 1 _ rfl
  have c2 := bx_cell x0 2 _ rfl
  have c3 := bx_cell x0 3 _ rfl
  have c4 := bx_cell x0 4 _ rfl
  have c5 := bx_cell x0 5 _ rfl
  have c6 := bx_cell x0 6 _ rfl
  have f0 := bx_cell x1 0 _ rfl
  have f1 := bx_cell x1 1 _ rfl
  have f2 := bx_cell x1 2 _ rfl
  have ff := bx_froz x1
  have X := Lib.hid x0
  have Y := Lib.hid x1
  have KW := Lib.hid kW
  clear x0 x1 kW m0 m1 m2 m3 m4 m5 m6 q0
  have HQ := Lib.hid (HH.out.keep KW.out)
  have qW := (Array.getElem?_eq_some_iff.1 HQ.out.box).1
  have q1 := bx_cell HQ.out.box 1 _ rfl
  have q2 := bx_cell HQ.out.box 2 _ rfl
  have q3 := bx_cell HQ.out.box 3 _ rfl
  have q4 := bx_cell HQ.out.box 4 _ rfl
  have q5 := bx_cell HQ.out.box 5 _ rfl
  have q6 := bx_cell HQ.out.box 6 _ rfl
  simp only [jdCells] at q1 q2 q3 q4 q5 q6
  go_upto_region 4 with fail
  go_region_with (go_at_call 66; refine (HR.out _ (KW.out.drew)).mono ?_; rintro e1 WX ⟨rfl, k1⟩; have KX := Lib.hid (KW.out.trans ((Kept.refl W).drew.trans k1)); have YX := Lib.hid (kh Y.out ((Kept.refl W).drew.trans k1)); clear k1 f0 f1 f2 ff; have f0 := bx_cell YX.out 0 _ rfl; have f1 := bx_cell YX.out 1 _ rfl; have f2 := bx_cell YX.out 2 _ rfl; have ff := bx_froz YX.out)
  all_goals
    have YP := put3 (w := w) (.bool V.is) (.int .i64 V.ub) (.int .i64 V.at_) (by rw [Hcb.out]; exact Hfb.out) (KX.out) YX.out
    have KN := Lib.hid YP.2
    have YN := Lib.hid YP.1
    clear YP
    generalize (((WX.setCell ⟨fb, 0, none⟩ (.bool V.is)).setCell ⟨fb, 1, none⟩ (.int .i64 V.ub)).setCell ⟨fb, 2, none⟩ (.int .i64 V.at_)) = W9 at *
    clear HQ q1 q2 q3 q4 q5 q6
    go_upto_region 13 with fail
    have HN := Lib.hid (HH.out.keep KN.out)
    have q8 := bx_cell HN.out.box 8 _ rfl
    simp only [jdCells] at q8
    have vf := bx_froz HN.out.ab
    have vl := (Array.getElem?_eq_some_iff.1 HN.out.ab).1
    obtain ⟨v0, v1, v2⟩ := HN.out.fiCells HI.out
    have z0 := bx_cell YN.out 0 _ rfl
    have z1 := bx_cell YN.out 1 _ rfl
    have z2 := bx_cell YN.out 2 _ rfl
    go_region
    go_wp2
    refine bodyPost_end (results_none rfl _ _ _) rfl ⟨⟨_, rfl⟩, Lib.hid ?_⟩
    have hf := jnote_end HN.out HI.out KN.out V
    exact hf

set_option maxRecDepth 100000 in
set_option maxHeartbeats 4000000 in
theorem close3d (H : Jd w0 w q cv mv bv ov obv l E g h e a) {i : Nat} (hi : i < l.length) (hk : l[i].kind = 3) (hu : undA l[i] (tldA l a l[i].a) = false) : ClosesTo w0 w q cv mv bv ov obv l E g h e a i (tldA l a l[i].a) := by
  have hk1 : ((l[i].kind : Int) == 1) = false := by first | (rw [hk]; rfl) | (rw [beq_eq_false_iff_ne]; omega)
  have hk3 : ((l[i].kind : Int) == 3) = true := by first | (rw [hk]; rfl) | (rw [beq_eq_false_iff_ne]; omega)
  clear hk
  obtain ⟨b, cap, xa, xc, ya, yc, hcv, hcap, hmax, hbw, hlx, hly, hcell⟩ := (H.list.kept H.kept).cells hi
  have hn := H.list.1
  obtain ⟨m, hm⟩ := H.env.mem.form
  obtain ⟨o, ho⟩ := H.env.old.form
  obtain ⟨ba, bl, bc, hb⟩ := binds_form H.env.binds
  obtain ⟨oa, ol, oc, hob⟩ := binds_form H.env.olds
  subst hcv hm ho hb hob
  have q0 := bx_cell H.box 0 _ rfl
  simp only [jdCells] at q0
  have hqw := (Array.getElem?_eq_some_iff.1 H.box).1
  obtain ⟨m0, m1, m2, m3, m4, m5, m6⟩ := hcell _ (Kept.refl w)
  have HH := Lib.hid H
  have hi1 : ((i : Int) < (l.length : Int)) := by omega
  clear hcell
  have HU := Lib.hid (fun w1 (hk : Kept w w1) => und_any (H.keep hk) l[i] xa ya l[i].x.length xc l[i].y.length yc)
  rw [hu] at HU
  have HT := Lib.hid (fun w1 (hk : Kept w w1) => jtold_any (H.keep hk) l[i].a)
  obtain ⟨V, hV⟩ : ∃ V, tldA l a l[i].a = V := ⟨_, rfl⟩
  rw [hV] at HT ⊢
  unfold fiVal at HT
  clear hV hu hlx hly
  generalize l[i] = x at *
  have HI := Lib.hid hi
  unfold ClosesTo
  clear H
  go_enter Try.func57, Try.ntmps57
  go_upto_region 2 with fail
  obtain ⟨x0, x1, kW⟩ := two w (.cells #[.int .i64 x.kind, .int .i64 x.rel, .slice xa x.x.length xc, .slice ya x.y.length yc, .int .i64 x.a, .int .i64 x.b, .int .i64 x.place] 101) (.cells #[.bool false, .int .i64 0, .int .i64 0] 107)
  generalize ((w.alloc (.cells #[.int .i64 x.kind, .int .i64 x.rel, .slice xa x.x.length xc, .slice ya x.y.length yc, .int .i64 x.a, .int .i64 x.b, .int .i64 x.place] 101)).alloc (.cells #[.bool false, .int .i64 0, .int .i64 0] 107)) = W at *
  obtain ⟨fb, hfb⟩ : ∃ fb, fb = w.heap.size + 1 := ⟨_, rfl⟩
  have Hfb := Lib.hid (show w.heap.size ≤ fb by omega)
  rw [← hfb] at x1 ⊢
  clear hfb
  obtain ⟨cb, hcb⟩ : ∃ cb, w.heap.size = cb := ⟨_, rfl⟩
  rw [hcb] at x0 Hfb ⊢
  have Hcb := Lib.hid hcb
  clear hcb hqw
  have c0 := bx_cell x0 0 _ rfl
  have c1 := bx_cell x0 1 _ rfl
  have c2 := bx_cell x0 2 _ rfl
  have c3 := bx_cell x0 3 _ rfl
  have c4 := bx_cell x0 4 _ rfl
  have c5 := bx_cell x0 5 _ rfl
  have c6 := bx_cell x0 6 _ rfl
  have f0 := bx_cell x1 0 _ rfl
  have f1 := bx_cell x1 1 _ rfl
  have f2 := bx_cell x1 2 _ rfl
  have ff := bx_froz x1
  have X := Lib.hid x0
  have Y := Lib.hid x1
  have KW := Lib.hid kW
  clear x0 x1 kW m0 m1 m2 m3 m4 m5 m6 q0
  go_upto_region 9 with (first | (go_at_call 65; refine (HU.out _ KW.out).mono ?_; rintro e1 w1 ⟨rfl, k1⟩; have X1 := Lib.hid (kh X.out k1); have Y1 := Lib.hid (kh Y.out k1); have K1 := Lib.hid (KW.out.trans k1); clear k1 c0 c1 c2 c3 c4 c5 c6 f0 f1 f2 ff HU; have c4 := bx_cell X1.out 4 _ rfl; have c5 := bx_cell X1.out 5 _ rfl))
  go_upto_region 13 with (go_at_call 58; refine (HT.out _ K1.out).mono ?_; rintro e2 WX ⟨rfl, k2⟩; have KX := Lib.hid (K1.out.trans k2); have YX := Lib.hid (kh Y1.out k2); clear k2 HT; have f0 := bx_cell YX.out 0 _ rfl; have f1 := bx_cell YX.out 1 _ rfl; have f2 := bx_cell YX.out 2 _ rfl; have ff := bx_froz YX.out)
  have YP := put3 (w := w) (.bool V.is) (.int .i64 V.ub) (.int .i64 V.at_) (by rw [Hcb.out]; exact Hfb.out) (KX.out) YX.out
  have KN := Lib.hid YP.2
  have YN := Lib.hid YP.1
  clear YP
  generalize (((WX.setCell ⟨fb, 0, none⟩ (.bool V.is)).setCell ⟨fb, 1, none⟩ (.int .i64 V.ub)).setCell ⟨fb, 2, none⟩ (.int .i64 V.at_)) = W9 at *
  have HN := Lib.hid (HH.out.keep KN.out)
  have q8 := bx_cell HN.out.box 8 _ rfl
  simp only [jdCells] at q8
  have vf := bx_froz HN.out.ab
  have vl := (Array.getElem?_eq_some_iff.1 HN.out.ab).1
  obtain ⟨v0, v1, v2⟩ := HN.out.fiCells HI.out
  have z0 := bx_cell YN.out 0 _ rfl
  have z1 := bx_cell YN.out 1 _ rfl
  have z2 := bx_cell YN.out 2 _ rfl
  go_region
  go_wp2
  refine bodyPost_end (results_none rfl _ _ _) rfl ⟨⟨_, rfl⟩, Lib.hid ?_⟩
  have hf := jnote_end HN.out HI.out KN.out V
  exact hf

set_option maxRecDepth 100000 in
set_option maxHeartbeats 4000000 in
theorem close3u (H : Jd w0 w q cv mv bv ov obv l E g h e a) {i : Nat} (hi : i < l.length) (hk : l[i].kind = 3) (hu : undA l[i] (tldA l a l[i].a) = true) : ClosesTo w0 w q cv mv bv ov obv l E g h e a i (tldA l a l[i].b) := by
  have hk1 : ((l[i].kind : Int) == 1) = false := by first | (rw [hk]; rfl) | (rw [beq_eq_false_iff_ne]; omega)
  have hk3 : ((l[i].kind : Int) == 3) = true := by first | (rw [hk]; rfl) | (rw [beq_eq_false_iff_ne]; omega)
  clear hk
  obtain ⟨b, cap, xa, xc, ya, yc, hcv, hcap, hmax, hbw, hlx, hly, hcell⟩ := (H.list.kept H.kept).cells hi
  have hn := H.list.1
  obtain ⟨m, hm⟩ := H.env.mem.form
  obtain ⟨o, ho⟩ := H.env.old.form
  obtain ⟨ba, bl, bc, hb⟩ := binds_form H.env.binds
  obtain ⟨oa, ol, oc, hob⟩ := binds_form H.env.olds
  subst hcv hm ho hb hob
  have q0 := bx_cell H.box 0 _ rfl
  simp only [jdCells] at q0
  have hqw := (Array.getElem?_eq_some_iff.1 H.box).1
  obtain ⟨m0, m1, m2, m3, m4, m5, m6⟩ := hcell _ (Kept.refl w)
  have HH := Lib.hid H
  have hi1 : ((i : Int) < (l.length : Int)) := by omega
  clear hcell
  have HU := Lib.hid (fun w1 (hk : Kept w w1) => und_any (H.keep hk) l[i] xa ya l[i].x.length xc l[i].y.length yc)
  rw [hu] at HU
  have HT := Lib.hid (fun w1 (hk : Kept w w1) => jtold_any (H.keep hk) l[i].b)
  obtain ⟨V, hV⟩ : ∃ V, tldA l a l[i].b = V := ⟨_, rfl⟩
  rw [hV] at HT ⊢
  unfold fiVal at HT
  clear hV hu hlx hly
  generalize l[i] = x at *
  have HI := Lib.hid hi
  unfold ClosesTo
  clear H
  go_enter Try.func57, Try.ntmps57
  go_upto_region 2 with fail
  obtain ⟨x0, x1, kW⟩ := two w (.cells #[.int .i64 x.kind, .int .i64 x.rel, .slice xa x.x.length xc, .slice ya x.y.length yc, .int .i64 x.a, .int .i64 x.b, .int .i64 x.place] 101) (.cells #[.bool false, .int .i64 0, .int .i64 0] 107)
  generalize ((w.alloc (.cells #[.int .i64 x.kind, .int .i64 x.rel, .slice xa x.x.length xc, .slice ya x.y.length yc, .int .i64 x.a, .int .i64 x.b, .int .i64 x.place] 101)).alloc (.cells #[.bool false, .int .i64 0, .int .i64 0] 107)) = W at *
  obtain ⟨fb, hfb⟩ : ∃ fb, fb = w.heap.size + 1 := ⟨_, rfl⟩
  have Hfb := Lib.hid (show w.heap.size ≤ fb by omega)
  rw [← hfb] at x1 ⊢
  clear hfb
  obtain ⟨cb, hcb⟩ : ∃ cb, w.heap.size = cb := ⟨_, rfl⟩
  rw [hcb] at x0 Hfb ⊢
  have Hcb := Lib.hid hcb
  clear hcb hqw
  have c0 := bx_cell x0 0 _ rfl
  have c1 := bx_cell x0 1 _ rfl
  have c2 := bx_cell x0 2 _ rfl
  have c3 := bx_cell x0 3 _ rfl
  have c4 := bx_cell x0 4 _ rfl
  have c5 := bx_cell x0 5 _ rfl
  have c6 := bx_cell x0 6 _ rfl
  have f0 := bx_cell x1 0 _ rfl
  have f1 := bx_cell x1 1 _ rfl
  have f2 := bx_cell x1 2 _ rfl
  have ff := bx_froz x1
  have X := Lib.hid x0
  have Y := Lib.hid x1
  have KW := Lib.hid kW
  clear x0 x1 kW m0 m1 m2 m3 m4 m5 m6 q0
  go_upto_region 8 with (first | (go_at_call 65; refine (HU.out _ KW.out).mono ?_; rintro e1 w1 ⟨rfl, k1⟩; have X1 := Lib.hid (kh X.out k1); have Y1 := Lib.hid (kh Y.out k1); have K1 := Lib.hid (KW.out.trans k1); clear k1 c0 c1 c2 c3 c4 c5 c6 f0 f1 f2 ff HU; have c4 := bx_cell X1.out 4 _ rfl; have c5 := bx_cell X1.out 5 _ rfl))
  go_upto_region 13 with (go_at_call 58; refine (HT.out _ K1.out).mono ?_; rintro e2 WX ⟨rfl, k2⟩; have KX := Lib.hid (K1.out.trans k2); have YX := Lib.hid (kh Y1.out k2); clear k2 HT; have f0 := bx_cell YX.out 0 _ rfl; have f1 := bx_cell YX.out 1 _ rfl; have f2 := bx_cell YX.out 2 _ rfl; have ff := bx_froz YX.out)
  have YP := put3 (w := w) (.bool V.is) (.int .i64 V.ub) (.int .i64 V.at_) (by rw [Hcb.out]; exact Hfb.out) (KX.out) YX.out
  have KN := Lib.hid YP.2
  have YN := Lib.hid YP.1
  clear YP
  generalize (((WX.setCell ⟨fb, 0, none⟩ (.bool V.is)).setCell ⟨fb, 1, none⟩ (.int .i64 V.ub)).setCell ⟨fb, 2, none⟩ (.int .i64 V.at_)) = W9 at *
  have HN := Lib.hid (HH.out.keep KN.out)
  have q8 := bx_cell HN.out.box 8 _ rfl
  simp only [jdCells] at q8
  have vf := bx_froz HN.out.ab
  have vl := (Array.getElem?_eq_some_iff.1 HN.out.ab).1
  obtain ⟨v0, v1, v2⟩ := HN.out.fiCells HI.out
  have z0 := bx_cell YN.out 0 _ rfl
  have z1 := bx_cell YN.out 1 _ rfl
  have z2 := bx_cell YN.out 2 _ rfl
  go_region
  go_wp2
  refine bodyPost_end (results_none rfl _ _ _) rfl ⟨⟨_, rfl⟩, Lib.hid ?_⟩
  have hf := jnote_end HN.out HI.out KN.out V
  exact hf

set_option maxRecDepth 100000 in
set_option maxHeartbeats 4000000 in
theorem close4d (H : Jd w0 w q cv mv bv ov obv l E g h e a) {i : Nat} (hi : i < l.length) (hk : l[i].kind = 4) (hu : undA l[i] (tldA l a l[i].a) = false) : ClosesTo w0 w q cv mv bv ov obv l E g h e a i (tldA l a l[i].a) := by
  have hk1 : ((l[i].kind : Int) == 1) = false := by first | (rw [hk]; rfl) | (rw [beq_eq_false_iff_ne]; omega)
  have hk3 : ((l[i].kind : Int) == 3) = false := by first | (rw [hk]; rfl) | (rw [beq_eq_false_iff_ne]; omega)
  have hk4 : ((l[i].kind : Int) == 4) = true := by first | (rw [hk]; rfl) | (rw [beq_eq_false_iff_ne]; omega)
  clear hk
  obtain ⟨b, cap, xa, xc, ya, yc, hcv, hcap, hmax, hbw, hlx, hly, hcell⟩ := (H.list.kept H.kept).cells hi
  have hn := H.list.1
  obtain ⟨m, hm⟩ := H.env.mem.form
  obtain ⟨o, ho⟩ := H.env.old.form
  obtain ⟨ba, bl, bc, hb⟩ := binds_form H.env.binds
  obtain ⟨oa, ol, oc, hob⟩ := binds_form H.env.olds
  subst hcv hm ho hb hob
  have q0 := bx_cell H.box 0 _ rfl
  simp only [jdCells] at q0
  have hqw := (Array.getElem?_eq_some_iff.1 H.box).1
  obtain ⟨m0, m1, m2, m3, m4, m5, m6⟩ := hcell _ (Kept.refl w)
  have HH := Lib.hid H
  have hi1 : ((i : Int) < (l.length : Int)) := by omega
  clear hcell
  have HU := Lib.hid (fun w1 (hk : Kept w w1) => und_any (H.keep hk) l[i] xa ya l[i].x.length xc l[i].y.length yc)
  rw [hu] at HU
  have HT := Lib.hid (fun w1 (hk : Kept w w1) => jtold_any (H.keep hk) l[i].a)
  obtain ⟨V, hV⟩ : ∃ V, tldA l a l[i].a = V := ⟨_, rfl⟩
  rw [hV] at HT ⊢
  unfold fiVal at HT
  clear hV hu hlx hly
  generalize l[i] = x at *
  have HI := Lib.hid hi
  unfold ClosesTo
  clear H
  go_enter Try.func57, Try.ntmps57
  go_upto_region 2 with fail
  obtain ⟨x0, x1, kW⟩ := two w (.cells #[.int .i64 x.kind, .int .i64 x.rel, .slice xa x.x.length xc, .slice ya x.y.length yc, .int .i64 x.a, .int .i64 x.b, .int .i64 x.place] 101) (.cells #[.bool false, .int .i64 0, .int .i64 0] 107)
  generalize ((w.alloc (.cells #[.int .i64 x.kind, .int .i64 x.rel, .slice xa x.x.length xc, .slice ya x.y.length yc, .int .i64 x.a, .int .i64 x.b, .int .i64 x.place] 101)).alloc (.cells #[.bool false, .int .i64 0, .int .i64 0] 107)) = W at *
  obtain ⟨fb, hfb⟩ : ∃ fb, fb = w.heap.size + 1 := ⟨_, rfl⟩
  have Hfb := Lib.hid (show w.heap.size ≤ fb by omega)
  rw [← hfb] at x1 ⊢
  clear hfb
  obtain ⟨cb, hcb⟩ : ∃ cb, w.heap.size = cb := ⟨_, rfl⟩
  rw [hcb] at x0 Hfb ⊢
  have Hcb := Lib.hid hcb
  clear hcb hqw
  have c0 := bx_cell x0 0 _ rfl
  have c1 := bx_cell x0 1 _ rfl
  have c2 := bx_cell x0 2 _ rfl
  have c3 := bx_cell x0 3 _ rfl
  have c4 := bx_cell x0 4 _ rfl
  have c5 := bx_cell x0 5 _ rfl
  have c6 := bx_cell x0 6 _ rfl
  have f0 := bx_cell x1 0 _ rfl
  have f1 := bx_cell x1 1 _ rfl
  have f2 := bx_cell x1 2 _ rfl
  have ff := bx_froz x1
  have X := Lib.hid x0
  have Y := Lib.hid x1
  have KW := Lib.hid kW
  clear x0 x1 kW m0 m1 m2 m3 m4 m5 m6 q0
  go_upto_region 9 with (first | (go_at_call 65; refine (HU.out _ KW.out).mono ?_; rintro e1 w1 ⟨rfl, k1⟩; have X1 := Lib.hid (kh X.out k1); have Y1 := Lib.hid (kh Y.out k1); have K1 := Lib.hid (KW.out.trans k1); clear k1 c0 c1 c2 c3 c4 c5 c6 f0 f1 f2 ff HU; have c4 := bx_cell X1.out 4 _ rfl; have c5 := bx_cell X1.out 5 _ rfl))
  go_upto_region 13 with (go_at_call 58; refine (HT.out _ K1.out).mono ?_; rintro e2 WX ⟨rfl, k2⟩; have KX := Lib.hid (K1.out.trans k2); have YX := Lib.hid (kh Y1.out k2); clear k2 HT; have f0 := bx_cell YX.out 0 _ rfl; have f1 := bx_cell YX.out 1 _ rfl; have f2 := bx_cell YX.out 2 _ rfl; have ff := bx_froz YX.out)
  have YP := put3 (w := w) (.bool V.is) (.int .i64 V.ub) (.int .i64 V.at_) (by rw [Hcb.out]; exact Hfb.out) (KX.out) YX.out
  have KN := Lib.hid YP.2
  have YN := Lib.hid YP.1
  clear YP
  generalize (((WX.setCell ⟨fb, 0, none⟩ (.bool V.is)).setCell ⟨fb, 1, none⟩ (.int .i64 V.ub)).setCell ⟨fb, 2, none⟩ (.int .i64 V.at_)) = W9 at *
  have HN := Lib.hid (HH.out.keep KN.out)
  have q8 := bx_cell HN.out.box 8 _ rfl
  simp only [jdCells] at q8
  have vf := bx_froz HN.out.ab
  have vl := (Array.getElem?_eq_some_iff.1 HN.out.ab).1
  obtain ⟨v0, v1, v2⟩ := HN.out.fiCells HI.out
  have z0 := bx_cell YN.out 0 _ rfl
  have z1 := bx_cell YN.out 1 _ rfl
  have z2 := bx_cell YN.out 2 _ rfl
  go_region
  go_wp2
  refine bodyPost_end (results_none rfl _ _ _) rfl ⟨⟨_, rfl⟩, Lib.hid ?_⟩
  have hf := jnote_end HN.out HI.out KN.out V
  exact hf

set_option maxRecDepth 100000 in
set_option maxHeartbeats 4000000 in
theorem close4u (H : Jd w0 w q cv mv bv ov obv l E g h e a) {i : Nat} (hi : i < l.length) (hk : l[i].kind = 4) (hu : undA l[i] (tldA l a l[i].a) = true) : ClosesTo w0 w q cv mv bv ov obv l E g h e a i (tldA l a l[i].b) := by
  have hk1 : ((l[i].kind : Int) == 1) = false := by first | (rw [hk]; rfl) | (rw [beq_eq_false_iff_ne]; omega)
  have hk3 : ((l[i].kind : Int) == 3) = false := by first | (rw [hk]; rfl) | (rw [beq_eq_false_iff_ne]; omega)
  have hk4 : ((l[i].kind : Int) == 4) = true := by first | (rw [hk]; rfl) | (rw [beq_eq_false_iff_ne]; omega)
  clear hk
  obtain ⟨b, cap, xa, xc, ya, yc, hcv, hcap, hmax, hbw, hlx, hly, hcell⟩ := (H.list.kept H.kept).cells hi
  have hn := H.list.1
  obtain ⟨m, hm⟩ := H.env.mem.form
  obtain ⟨o, ho⟩ := H.env.old.form
  obtain ⟨ba, bl, bc, hb⟩ := binds_form H.env.binds
  obtain ⟨oa, ol, oc, hob⟩ := binds_form H.env.olds
  subst hcv hm ho hb hob
  have q0 := bx_cell H.box 0 _ rfl
  simp only [jdCells] at q0
  have hqw := (Array.getElem?_eq_some_iff.1 H.box).1
  obtain ⟨m0, m1, m2, m3, m4, m5, m6⟩ := hcell _ (Kept.refl w)
  have HH := Lib.hid H
  have hi1 : ((i : Int) < (l.length : Int)) := by omega
  clear hcell
  have HU := Lib.hid (fun w1 (hk : Kept w w1) => und_any (H.keep hk) l[i] xa ya l[i].x.length xc l[i].y.length yc)
  rw [hu] at HU
  have HT := Lib.hid (fun w1 (hk : Kept w w1) => jtold_any (H.keep hk) l[i].b)
  obtain ⟨V, hV⟩ : ∃ V, tldA l a l[i].b = V := ⟨_, rfl⟩
  rw [hV] at HT ⊢
  unfold fiVal at HT
  clear hV hu hlx hly
  generalize l[i] = x at *
  have HI := Lib.hid hi
  unfold ClosesTo
  clear H
  go_enter Try.func57, Try.ntmps57
  go_upto_region 2 with fail
  obtain ⟨x0, x1, kW⟩ := two w (.cells #[.int .i64 x.kind, .int .i64 x.rel, .slice xa x.x.length xc, .slice ya x.y.length yc, .int .i64 x.a, .int .i64 x.b, .int .i64 x.place] 101) (.cells #[.bool false, .int .i64 0, .int .i64 0] 107)
  generalize ((w.alloc (.cells #[.int .i64 x.kind, .int .i64 x.rel, .slice xa x.x.length xc, .slice ya x.y.length yc, .int .i64 x.a, .int .i64 x.b, .int .i64 x.place] 101)).alloc (.cells #[.bool false, .int .i64 0, .int .i64 0] 107)) = W at *
  obtain ⟨fb, hfb⟩ : ∃ fb, fb = w.heap.size + 1 := ⟨_, rfl⟩
  have Hfb := Lib.hid (show w.heap.size ≤ fb by omega)
  rw [← hfb] at x1 ⊢
  clear hfb
  obtain ⟨cb, hcb⟩ : ∃ cb, w.heap.size = cb := ⟨_, rfl⟩
  rw [hcb] at x0 Hfb ⊢
  have Hcb := Lib.hid hcb
  clear hcb hqw
  have c0 := bx_cell x0 0 _ rfl
  have c1 := bx_cell x0 1 _ rfl
  have c2 := bx_cell x0 2 _ rfl
  have c3 := bx_cell x0 3 _ rfl
  have c4 := bx_cell x0 4 _ rfl
  have c5 := bx_cell x0 5 _ rfl
  have c6 := bx_cell x0 6 _ rfl
  have f0 := bx_cell x1 0 _ rfl
  have f1 := bx_cell x1 1 _ rfl
  have f2 := bx_cell x1 2 _ rfl
  have ff := bx_froz x1
  have X := Lib.hid x0
  have Y := Lib.hid x1
  have KW := Lib.hid kW
  clear x0 x1 kW m0 m1 m2 m3 m4 m5 m6 q0
  go_upto_region 8 with (first | (go_at_call 65; refine (HU.out _ KW.out).mono ?_; rintro e1 w1 ⟨rfl, k1⟩; have X1 := Lib.hid (kh X.out k1); have Y1 := Lib.hid (kh Y.out k1); have K1 := Lib.hid (KW.out.trans k1); clear k1 c0 c1 c2 c3 c4 c5 c6 f0 f1 f2 ff HU; have c4 := bx_cell X1.out 4 _ rfl; have c5 := bx_cell X1.out 5 _ rfl))
  go_upto_region 13 with (go_at_call 58; refine (HT.out _ K1.out).mono ?_; rintro e2 WX ⟨rfl, k2⟩; have KX := Lib.hid (K1.out.trans k2); have YX := Lib.hid (kh Y1.out k2); clear k2 HT; have f0 := bx_cell YX.out 0 _ rfl; have f1 := bx_cell YX.out 1 _ rfl; have f2 := bx_cell YX.out 2 _ rfl; have ff := bx_froz YX.out)
  have YP := put3 (w := w) (.bool V.is) (.int .i64 V.ub) (.int .i64 V.at_) (by rw [Hcb.out]; exact Hfb.out) (KX.out) YX.out
  have KN := Lib.hid YP.2
  have YN := Lib.hid YP.1
  clear YP
  generalize (((WX.setCell ⟨fb, 0, none⟩ (.bool V.is)).setCell ⟨fb, 1, none⟩ (.int .i64 V.ub)).setCell ⟨fb, 2, none⟩ (.int .i64 V.at_)) = W9 at *
  have HN := Lib.hid (HH.out.keep KN.out)
  have q8 := bx_cell HN.out.box 8 _ rfl
  simp only [jdCells] at q8
  have vf := bx_froz HN.out.ab
  have vl := (Array.getElem?_eq_some_iff.1 HN.out.ab).1
  obtain ⟨v0, v1, v2⟩ := HN.out.fiCells HI.out
  have z0 := bx_cell YN.out 0 _ rfl
  have z1 := bx_cell YN.out 1 _ rfl
  have z2 := bx_cell YN.out 2 _ rfl
  go_region
  go_wp2
  refine bodyPost_end (results_none rfl _ _ _) rfl ⟨⟨_, rfl⟩, Lib.hid ?_⟩
  have hf := jnote_end HN.out HI.out KN.out V
  exact hf

set_option maxRecDepth 100000 in
set_option maxHeartbeats 4000000 in
theorem close2y (H : Jd w0 w q cv mv bv ov obv l E g h e a) {i : Nat} (hi : i < l.length) (hk : l[i].kind = 2) (hu : (tldA l a l[i].a).ub = 0) : ClosesTo w0 w q cv mv bv ov obv l E g h e a i (⟨!(tldA l a l[i].a).is, (tldA l a l[i].a).ub, (tldA l a l[i].a).at_⟩) := by
  have hk1 : ((l[i].kind : Int) == 1) = false := by first | (rw [hk]; rfl) | (rw [beq_eq_false_iff_ne]; omega)
  have hk3 : ((l[i].kind : Int) == 3) = false := by first | (rw [hk]; rfl) | (rw [beq_eq_false_iff_ne]; omega)
  have hk4 : ((l[i].kind : Int) == 4) = false := by first | (rw [hk]; rfl) | (rw [beq_eq_false_iff_ne]; omega)
  have hk2 : ((l[i].kind : Int) == 2) = true := by first | (rw [hk]; rfl) | (rw [beq_eq_false_iff_ne]; omega)
  clear hk
  obtain ⟨b, cap, xa, xc, ya, yc, hcv, hcap, hmax, hbw, hlx, hly, hcell⟩ := (H.list.kept H.kept).cells hi
  have hn := H.list.1
  obtain ⟨m, hm⟩ := H.env.mem.form
  obtain ⟨o, ho⟩ := H.env.old.form
  obtain ⟨ba, bl, bc, hb⟩ := binds_form H.env.binds
  obtain ⟨oa, ol, oc, hob⟩ := binds_form H.env.olds
  subst hcv hm ho hb hob
  have q0 := bx_cell H.box 0 _ rfl
  simp only [jdCells] at q0
  have hqw := (Array.getElem?_eq_some_iff.1 H.box).1
  obtain ⟨m0, m1, m2, m3, m4, m5, m6⟩ := hcell _ (Kept.refl w)
  have HH := Lib.hid H
  have hi1 : ((i : Int) < (l.length : Int)) := by omega
  clear hcell
  have HT := Lib.hid (fun w1 (hk : Kept w w1) => jtold_any (H.keep hk) l[i].a)
  obtain ⟨V, hV⟩ : ∃ V, tldA l a l[i].a = V := ⟨_, rfl⟩
  rw [hV] at HT hu ⊢
  unfold fiVal at HT
  clear hV hlx hly
  have hub : (V.ub == 0) = true := by simpa using hu
  clear hu
  generalize l[i] = x at *
  have HI := Lib.hid hi
  unfold ClosesTo
  clear H
  go_enter Try.func57, Try.ntmps57
  go_upto_region 2 with fail
  obtain ⟨x0, x1, kW⟩ := two w (.cells #[.int .i64 x.kind, .int .i64 x.rel, .slice xa x.x.length xc, .slice ya x.y.length yc, .int .i64 x.a, .int .i64 x.b, .int .i64 x.place] 101) (.cells #[.bool false, .int .i64 0, .int .i64 0] 107)
  generalize ((w.alloc (.cells #[.int .i64 x.kind, .int .i64 x.rel, .slice xa x.x.length xc, .slice ya x.y.length yc, .int .i64 x.a, .int .i64 x.b, .int .i64 x.place] 101)).alloc (.cells #[.bool false, .int .i64 0, .int .i64 0] 107)) = W at *
  obtain ⟨fb, hfb⟩ : ∃ fb, fb = w.heap.size + 1 := ⟨_, rfl⟩
  have Hfb := Lib.hid (show w.heap.size ≤ fb by omega)
  rw [← hfb] at x1 ⊢
  clear hfb
  obtain ⟨cb, hcb⟩ : ∃ cb, w.heap.size = cb := ⟨_, rfl⟩
  rw [hcb] at x0 Hfb ⊢
  have Hcb := Lib.hid hcb
  clear hcb hqw
  have c0 := bx_cell x0 0 _ rfl
  have c1 := bx_cell x0 1 _ rfl
  have c2 := bx_cell x0 2 _ rfl
  have c3 := bx_cell x0 3 _ rfl
  have c4 := bx_cell x0 4 _ rfl
  have c5 := bx_cell x0 5 _ rfl
  have c6 := bx_cell x0 6 _ rfl
  have f0 := bx_cell x1 0 _ rfl
  have f1 := bx_cell x1 1 _ rfl
  have f2 := bx_cell x1 2 _ rfl
  have ff := bx_froz x1
  have X := Lib.hid x0
  have Y := Lib.hid x1
  have KW := Lib.hid kW
  clear x0 x1 kW m0 m1 m2 m3 m4 m5 m6 q0
  go_upto_region 12 with (go_at_call 58; refine (HT.out _ KW.out).mono ?_; rintro e2 WX ⟨rfl, k2⟩; have KX := Lib.hid (KW.out.trans k2); have YX := Lib.hid (kh Y.out k2); clear k2 HT f0 f1 f2 ff; have f0 := bx_cell YX.out 0 _ rfl; have f1 := bx_cell YX.out 1 _ rfl; have f2 := bx_cell YX.out 2 _ rfl; have ff := bx_froz YX.out)
  have YP := put3 (w := w) (.bool V.is) (.int .i64 V.ub) (.int .i64 V.at_) (by rw [Hcb.out]; exact Hfb.out) (KX.out) YX.out
  have KN := Lib.hid YP.2
  have YN := Lib.hid YP.1
  clear YP
  generalize (((WX.setCell ⟨fb, 0, none⟩ (.bool V.is)).setCell ⟨fb, 1, none⟩ (.int .i64 V.ub)).setCell ⟨fb, 2, none⟩ (.int .i64 V.at_)) = W9 at *
  have z0 := bx_cell YN.out 0 _ rfl
  have z1 := bx_cell YN.out 1 _ rfl
  have zf := bx_froz YN.out
  go_upto_region 13 with fail
  have YQ := Lib.hid (jput1 (w := w) (.bool (!V.is)) (by rw [Hcb.out]; exact Hfb.out) KN.out YN.out)
  clear KN YN z0 z1 zf
  have KN := Lib.hid YQ.out.2
  have YN := Lib.hid YQ.out.1
  clear YQ
  generalize W9.setCell ⟨fb, 0, none⟩ (.bool (!V.is)) = WY at *
  have HN := Lib.hid (HH.out.keep KN.out)
  have q8 := bx_cell HN.out.box 8 _ rfl
  simp only [jdCells] at q8
  have vf := bx_froz HN.out.ab
  have vl := (Array.getElem?_eq_some_iff.1 HN.out.ab).1
  obtain ⟨v0, v1, v2⟩ := HN.out.fiCells HI.out
  have z0 := bx_cell YN.out 0 _ rfl
  have z1 := bx_cell YN.out 1 _ rfl
  have z2 := bx_cell YN.out 2 _ rfl
  go_region
  go_wp2
  refine bodyPost_end (results_none rfl _ _ _) rfl ⟨⟨_, rfl⟩, Lib.hid ?_⟩
  have hf := jnote_end HN.out HI.out KN.out ⟨!V.is, V.ub, V.at_⟩
  exact hf

set_option maxRecDepth 100000 in
set_option maxHeartbeats 4000000 in
theorem close2n (H : Jd w0 w q cv mv bv ov obv l E g h e a) {i : Nat} (hi : i < l.length) (hk : l[i].kind = 2) (hu : (tldA l a l[i].a).ub ≠ 0) : ClosesTo w0 w q cv mv bv ov obv l E g h e a i (⟨false, (tldA l a l[i].a).ub, (tldA l a l[i].a).at_⟩) := by
  have hk1 : ((l[i].kind : Int) == 1) = false := by first | (rw [hk]; rfl) | (rw [beq_eq_false_iff_ne]; omega)
  have hk3 : ((l[i].kind : Int) == 3) = false := by first | (rw [hk]; rfl) | (rw [beq_eq_false_iff_ne]; omega)
  have hk4 : ((l[i].kind : Int) == 4) = false := by first | (rw [hk]; rfl) | (rw [beq_eq_false_iff_ne]; omega)
  have hk2 : ((l[i].kind : Int) == 2) = true := by first | (rw [hk]; rfl) | (rw [beq_eq_false_iff_ne]; omega)
  clear hk
  obtain ⟨b, cap, xa, xc, ya, yc, hcv, hcap, hmax, hbw, hlx, hly, hcell⟩ := (H.list.kept H.kept).cells hi
  have hn := H.list.1
  obtain ⟨m, hm⟩ := H.env.mem.form
  obtain ⟨o, ho⟩ := H.env.old.form
  obtain ⟨ba, bl, bc, hb⟩ := binds_form H.env.binds
  obtain ⟨oa, ol, oc, hob⟩ := binds_form H.env.olds
  subst hcv hm ho hb hob
  have q0 := bx_cell H.box 0 _ rfl
  simp only [jdCells] at q0
  have hqw := (Array.getElem?_eq_some_iff.1 H.box).1
  obtain ⟨m0, m1, m2, m3, m4, m5, m6⟩ := hcell _ (Kept.refl w)
  have HH := Lib.hid H
  have hi1 : ((i : Int) < (l.length : Int)) := by omega
  clear hcell
  have HT := Lib.hid (fun w1 (hk : Kept w w1) => jtold_any (H.keep hk) l[i].a)
  obtain ⟨V, hV⟩ : ∃ V, tldA l a l[i].a = V := ⟨_, rfl⟩
  rw [hV] at HT hu ⊢
  unfold fiVal at HT
  clear hV hlx hly
  have hub : (V.ub == 0) = false := by simpa using hu
  clear hu
  generalize l[i] = x at *
  have HI := Lib.hid hi
  unfold ClosesTo
  clear H
  go_enter Try.func57, Try.ntmps57
  go_upto_region 2 with fail
  obtain ⟨x0, x1, kW⟩ := two w (.cells #[.int .i64 x.kind, .int .i64 x.rel, .slice xa x.x.length xc, .slice ya x.y.length yc, .int .i64 x.a, .int .i64 x.b, .int .i64 x.place] 101) (.cells #[.bool false, .int .i64 0, .int .i64 0] 107)
  generalize ((w.alloc (.cells #[.int .i64 x.kind, .int .i64 x.rel, .slice xa x.x.length xc, .slice ya x.y.length yc, .int .i64 x.a, .int .i64 x.b, .int .i64 x.place] 101)).alloc (.cells #[.bool false, .int .i64 0, .int .i64 0] 107)) = W at *
  obtain ⟨fb, hfb⟩ : ∃ fb, fb = w.heap.size + 1 := ⟨_, rfl⟩
  have Hfb := Lib.hid (show w.heap.size ≤ fb by omega)
  rw [← hfb] at x1 ⊢
  clear hfb
  obtain ⟨cb, hcb⟩ : ∃ cb, w.heap.size = cb := ⟨_, rfl⟩
  rw [hcb] at x0 Hfb ⊢
  have Hcb := Lib.hid hcb
  clear hcb hqw
  have c0 := bx_cell x0 0 _ rfl
  have c1 := bx_cell x0 1 _ rfl
  have c2 := bx_cell x0 2 _ rfl
  have c3 := bx_cell x0 3 _ rfl
  have c4 := bx_cell x0 4 _ rfl
  have c5 := bx_cell x0 5 _ rfl
  have c6 := bx_cell x0 6 _ rfl
  have f0 := bx_cell x1 0 _ rfl
  have f1 := bx_cell x1 1 _ rfl
  have f2 := bx_cell x1 2 _ rfl
  have ff := bx_froz x1
  have X := Lib.hid x0
  have Y := Lib.hid x1
  have KW := Lib.hid kW
  clear x0 x1 kW m0 m1 m2 m3 m4 m5 m6 q0
  go_upto_region 12 with (go_at_call 58; refine (HT.out _ KW.out).mono ?_; rintro e2 WX ⟨rfl, k2⟩; have KX := Lib.hid (KW.out.trans k2); have YX := Lib.hid (kh Y.out k2); clear k2 HT f0 f1 f2 ff; have f0 := bx_cell YX.out 0 _ rfl; have f1 := bx_cell YX.out 1 _ rfl; have f2 := bx_cell YX.out 2 _ rfl; have ff := bx_froz YX.out)
  have YP := put3 (w := w) (.bool V.is) (.int .i64 V.ub) (.int .i64 V.at_) (by rw [Hcb.out]; exact Hfb.out) (KX.out) YX.out
  have KN := Lib.hid YP.2
  have YN := Lib.hid YP.1
  clear YP
  generalize (((WX.setCell ⟨fb, 0, none⟩ (.bool V.is)).setCell ⟨fb, 1, none⟩ (.int .i64 V.ub)).setCell ⟨fb, 2, none⟩ (.int .i64 V.at_)) = W9 at *
  have z0 := bx_cell YN.out 0 _ rfl
  have z1 := bx_cell YN.out 1 _ rfl
  have zf := bx_froz YN.out
  go_upto_region 13 with fail
  have YQ := Lib.hid (jput1 (w := w) (.bool false) (by rw [Hcb.out]; exact Hfb.out) KN.out YN.out)
  clear KN YN z0 z1 zf
  have KN := Lib.hid YQ.out.2
  have YN := Lib.hid YQ.out.1
  clear YQ
  generalize W9.setCell ⟨fb, 0, none⟩ (.bool false) = WY at *
  have HN := Lib.hid (HH.out.keep KN.out)
  have q8 := bx_cell HN.out.box 8 _ rfl
  simp only [jdCells] at q8
  have vf := bx_froz HN.out.ab
  have vl := (Array.getElem?_eq_some_iff.1 HN.out.ab).1
  obtain ⟨v0, v1, v2⟩ := HN.out.fiCells HI.out
  have z0 := bx_cell YN.out 0 _ rfl
  have z1 := bx_cell YN.out 1 _ rfl
  have z2 := bx_cell YN.out 2 _ rfl
  go_region
  go_wp2
  refine bodyPost_end (results_none rfl _ _ _) rfl ⟨⟨_, rfl⟩, Lib.hid ?_⟩
  have hf := jnote_end HN.out HI.out KN.out ⟨false, V.ub, V.at_⟩
  exact hf

end
end Go.Proofs.Ythjnkjekidagiaa.Evl
namespace Go.Proofs.Ythjnkjekidagiaa.Evl
open Go.RowKit
open Prs (Ex Cn)
open Fnd (bx_cell bx_froz)
section
variable {w0 w w' : World} {q : Nat} {cv mv bv ov obv : Value} {l : List Cn} {E : Env} {g h : Nat} {e : List Bool} {a : List Fi}
/-- Each list of a condition, too, has kids ahead of their nodes. -/
def DownA (l : List Cn) : Prop := DownC l ∧ ∀ i (h : i < l.length), Down l[i].x ∧ Down l[i].y
theorem jclose_any (H : Jd w0 w q cv mv bv ov obv l E g h e a) {i : Nat} (hi : i < l.length) (hD : DownA l) : ClosesTo w0 w q cv mv bv ov obv l E g h e a i (clsA l[i] E (tldA l a l[i].a) (tldA l a l[i].b)) := by
  unfold clsA
  by_cases h1 : l[i].kind = 1
  · rw [if_pos h1]
    exact close1 H hi h1 (hD.2 i hi).1 (hD.2 i hi).2
  rw [if_neg h1]
  by_cases h2 : twoC l[i].kind
  · rw [if_pos h2]
    cases hu : undA l[i] (tldA l a l[i].a) with
    | true =>
      rw [if_pos rfl]
      rcases h2 with h3 | h4
      · exact close3u H hi h3 hu
      · exact close4u H hi h4 hu
    | false =>
      rw [if_neg (by decide)]
      rcases h2 with h3 | h4
      · exact close3d H hi h3 hu
      · exact close4d H hi h4 hu
  rw [if_neg h2]
  by_cases h3 : l[i].kind = 2
  · rw [if_pos h3]
    by_cases hu : (tldA l a l[i].a).ub = 0
    · rw [show decide ((tldA l a l[i].a).ub = 0) = true from decide_eq_true hu, Bool.true_and]
      exact close2y H hi h3 hu
    · rw [show decide ((tldA l a l[i].a).ub = 0) = false from decide_eq_false hu, Bool.false_and]
      exact close2n H hi h3 hu
  · rw [if_neg h3]
    exact closeX H hi (by unfold twoC at h2; omega)
theorem jopen_st (H : Jd w0 w q cv mv bv ov obv l E g h e a) {s : Nat} {st : List Nat} (hO : OkJ l E e a (s :: st)) (hD : DownA l) : Calls Try.prog 56 #[.pointer (some ⟨q, 0, none⟩), .int .i64 (s : Int)] w fun x w' => ∃ k0 bb, x = .returned (.tuple #[.int .i64 k0, .bool bb]) ∧
    Hid (Rpr.Chg (OwnJ g h) w w' ∧ ((bb = true ∧ ∃ i : Nat, k0 = (i : Int) ∧ Jd w0 w' q cv mv bv ov obv l E g h (e.set i true) a ∧ OkJ l E (e.set i true) a (i :: s :: st) ∧ leftJ (e.set i true) (i :: s :: st) < leftJ e (s :: st)) ∨
      (bb = false ∧ Jd w0 w' q cv mv bv ov obv l E g h e a ∧ ∀ hs : s < l.length, KidsPast l e a l[s]))) := by
  have hs := (hO.on s (by simp)).1
  refine (open_any H hs).mono ?_
  rintro x w1 ⟨k0, bb, rfl, h1⟩
  refine ⟨k0, bb, rfl, Lib.hid ⟨h1.out.1, ?_⟩⟩
  rcases h1.out.2 with ⟨rfl, i, rfl, hab, h2, h3, h4⟩ | ⟨rfl, h2, h3⟩
  · refine .inl ⟨rfl, i, rfl, h2, ?_, leftJ_push h4⟩
    refine hO.push h3 fun x hx => ?_
    have ⟨d1, d2⟩ := hD.1 s hs
    have his : i < s := by omega
    rcases List.mem_cons.1 hx with rfl | hx
    · exact his
    · have := hO.falls.1 x hx; omega
  · exact .inr ⟨rfl, h2, fun _ => h3⟩
theorem jclose_st (H : Jd w0 w q cv mv bv ov obv l E g h e a) {s : Nat} {st : List Nat} (hO : OkJ l E e a (s :: st)) (hD : DownA l) (hp : ∀ hs : s < l.length, KidsPast l e a l[s]) : Calls Try.prog 57 #[.pointer (some ⟨q, 0, none⟩), .int .i64 (s : Int)] w fun x w' => (∃ v, x = .returned v) ∧
    Hid (Jd w0 w' q cv mv bv ov obv l E g h e (a.set s (tstA l E (s : Int))) ∧ OkJ l E e (a.set s (tstA l E (s : Int))) st ∧ Rpr.Chg (OwnJ g h) w w') := by
  have hs := (hO.on s (by simp)).1
  refine (jclose_any H hs hD).mono ?_
  rintro x w1 ⟨hx, h1⟩
  refine ⟨hx, Lib.hid ⟨?_, hO.pop, h1.out.2⟩⟩
  have h2 := h1.out.1
  rw [hO.close hD.1 hs (hp hs).1 (hp hs).2] at h2
  exact h2
def stJ (st : List Nat) : List Value := st.reverse.map fun (s : Nat) => .int .i64 (s : Int)
theorem stJ_cons (s : Nat) (st : List Nat) : stJ (s :: st) = stJ st ++ [.int .i64 (s : Int)] := by simp [stJ]
theorem stJ_len (st : List Nat) : (stJ st).length = st.length * 1 := by simp [stJ]
/-- A walk of kidsFirst over a judge's places under way. -/
structure KjAt (w0 ws w : World) (q : Nat) (cv mv bv ov obv : Value) (l : List Cn) (E : Env) (g h : Nat) (r : Nat) (e : List Bool) (a : List Fi) (st : List Nat) (v : Value) : Prop where
  jd : Jd w0 w q cv mv bv ov obv l E g h e a
  own : w.ownsRow ws.heap.size 3 1 v st.length (stJ st)
  chg : Rpr.Chg (OwnJ g h) ws w
  ok : OkJ l E e a st
  root : mkF e r = true
  small : leftJ e st ≤ 40000
theorem KjAt.top {ws : World} {r : Nat} {s : Nat} {st : List Nat} {v : Value} (H : KjAt w0 ws w q cv mv bv ov obv l E g h r e a (s :: st) v) :
    ∃ b cap, v = .slice (some ⟨b, 0, none⟩) (st.length + 1) cap ∧ st.length + 1 ≤ cap ∧ cap ≤ maxLen ∧ w.cell? ⟨b, st.length, none⟩ = some (.int .i64 (s : Int)) := by
  obtain ⟨_, h2⟩ := H.own
  rcases h2 with ⟨_, h0⟩ | ⟨b, cap, cur, hv, hg, hh, hn, hcap, hsz, htake⟩
  · cases h0
  · refine ⟨b, cap, by rw [hv]; simp, by simpa using hn, hcap, bx_cell hh _ _ ?_⟩
    have : cur[st.length]? = (stJ (s :: st))[st.length]? := by
      rw [← htake, List.getElem?_take, if_pos (by simp)]; simp
    rw [this, stJ_cons, List.getElem?_append_right (by simp [stJ])]; simp [stJ]
theorem Jd.row (H : Jd w0 w q cv mv bv ov obv l E g h e a) (hC : Rpr.Chg (OwnJ g h) w w') {base n : Nat} {v : Value} {xs : List Value} (hr : w.ownsRow base 3 1 v n xs) : w'.ownsRow base 3 1 v n xs :=
  row_chg hr hC fun b c hb => by
    rintro (rfl | rfl)
    · exact hne hb H.eb (by decide) rfl
    · exact hne hb H.ab (by decide) rfl
/-- The stack grows: the judge stays. -/
theorem Jd.grown (H : Jd w0 w q cv mv bv ov obv l E g h e a) {v : Value} (hg : w.grownBy w' v.ownBlock) {base n : Nat} {xs : List Value} (hr : w.ownsRow base 3 1 v n xs) (hb : w0.heap.size ≤ base) : Jd w0 w' q cv mv bv ov obv l E g h e a := by
  have ty : ∀ k, v.ownBlock = some k → base ≤ k ∧ ∃ c, w.heap[k]? = some (.cells c 3 (0, 0)) := by
    intro k hk
    rcases hr.2 with ⟨h2, _⟩ | ⟨b, cap, c, rfl, h1, h2, h3⟩
    · subst h2; cases hk
    · cases hk; exact ⟨h1, c, h2⟩
  have st : ∀ {k : Nat} {c : Array Value} {t : TypeId}, w.heap[k]? = some (.cells c t (0, 0)) → t ≠ 3 → w'.heap[k]? = some (.cells c t (0, 0)) := by
    intro k c t hk hn
    refine (hg.block k (Array.getElem?_eq_some_iff.1 hk).1 fun e => ?_).trans hk
    obtain ⟨_, c', hc'⟩ := ty k e.symm
    exact hne hk hc' hn rfl
  have hc : Rpr.Chg (fun k => v.ownBlock = some k) w0 w' := (Rpr.Chg.of_kept H.kept).grown hg fun _ _ h => h
  refine ⟨hc.kept fun i hi hs => ?_, H.loq, H.log, st H.box (by decide), st H.eb (by decide), st H.ab (by decide), H.el, H.al, H.list, H.env⟩
  have := (ty i hs).1
  omega
theorem int_info : (Try.prog.info? 3).map (fun i => (i.zero, i.size, i.bytes)) = some (some (.int .i64 0), 1, 8) := by kernel_rfl
set_option maxRecDepth 100000 in
set_option maxHeartbeats 4000000 in
theorem kj_any (H : Jd w0 w q cv mv bv ov obv l E g h e a) {r : Nat} (hO : OkJ l E e a [r]) (hD : DownA l) (hsm : leftJ e [r] ≤ 40000) :
    Calls Try.prog 55 #[.int .i64 (r : Int), .func (.func 56) #[.pointer (some ⟨q, 0, none⟩)] #[], .func (.func 57) #[.pointer (some ⟨q, 0, none⟩)] #[]] w fun x w' => x = .returned (.tuple #[]) ∧
      Hid (∃ e' a', Jd w0 w' q cv mv bv ov obv l E g h e' a' ∧ OkJ l E e' a' [] ∧ mkF e' r = true ∧ Rpr.Chg (OwnJ g h) w w') := by
  obtain ⟨i0, hi0, hz0, hz1, hz2⟩ := info_parts int_info
  have Hi := Lib.hid (And.intro hi0 (And.intro hz0 (And.intro hz1 hz2)))
  clear hi0 hz0 hz1 hz2
  have hm0 := (hO.on r (by simp)).2
  have H0 := Lib.hid (And.intro H (And.intro hO (And.intro hm0 hsm)))
  have HD := Lib.hid hD
  have hlo := Below.size H.kept
  clear H hO hm0 hsm hD
  go_enter Try.func55, Try.ntmps55
  go_wp2
  have x0 := World.alloc_heap_new w (.cells #[.int .i64 (r : Int)] 3)
  have kW := (Kept.refl w).alloc (.cells #[.int .i64 (r : Int)] 3)
  have hst : Hid (KjAt w0 w (w.alloc (.cells #[.int .i64 (r : Int)] 3)) q cv mv bv ov obv l E g h r e a [r] (.slice (some ⟨w.heap.size, 0, none⟩) 1 1)) :=
    Lib.hid ⟨H0.out.1.keep kW, ⟨by simp [stJ], .inr ⟨w.heap.size, 1, _, rfl, by omega, x0, by simp, by simp [maxLen], by simp, by simp [stJ]⟩⟩, Rpr.Chg.of_kept kW, H0.out.2.1, H0.out.2.2.1, H0.out.2.2.2⟩
  clear x0 kW H0
  go_loopg [6] (leftJ e [r]) (fun k v wx => ∃ st e' a', k = leftJ e' st ∧ Hid (KjAt w0 w wx q cv mv bv ov obv l E g h r e' a' st v))
  case atStart => exact ⟨[r], e, a, rfl, hst⟩
  case round =>
    obtain ⟨st, e', a', rfl, HK⟩ := hrel
    clear hst
    cases st with
    | nil =>
      obtain ⟨x, c, rfl⟩ : ∃ x c, u6 = .slice x 0 c := by
        rcases HK.out.own.2 with ⟨h2, _⟩ | ⟨b, cap, cur, h2, _⟩
        · exact ⟨none, 0, h2⟩
        · exact ⟨_, _, h2⟩
      go_wp2
      exact bodyPost_end (results_none rfl _ _ _) rfl ⟨rfl, Lib.hid ⟨e', a', HK.out.jd, HK.out.ok, HK.out.root, HK.out.chg⟩⟩
    | cons s st =>
      obtain ⟨b, cap, rfl, hcap, hmax, c0⟩ := HK.out.top
      simp only [maxLen] at hmax
      have hsl : st.length ≤ 40000 := by have := HK.out.small; unfold leftJ at this; simp at this; omega
      have HC := Lib.hid (jopen_st HK.out.jd HK.out.ok HD.out)
      go_upto_region 4 with (go_at_call 56; refine (HC.out).mono ?_; rintro e2 w2 ⟨k0, bb, rfl, H2⟩; clear HC)
      clear c0
      have HR1 := Lib.hid HK.out.jd
      have HO := Lib.hid HK.out.ok
      have HS := Lib.hid (And.intro HK.out.root HK.out.small)
      have Hw2 := Lib.hid (HK.out.jd.row H2.out.1 HK.out.own)
      have HG2 := Lib.hid (HK.out.chg.then H2.out.1)
      clear HK
      obtain ⟨-, hd2⟩ := H2.out
      rcases hd2 with ⟨rfl, i, rfl, R2, O2, L2⟩ | ⟨rfl, R2, p2⟩
      · have HR2 := Lib.hid R2
        have HO2 := Lib.hid (And.intro O2 L2)
        have hil := (O2.on i (by simp)).1
        clear R2 O2 L2 H2
        go_wp2_with (at_builtin; refine wpList_append_lies _ rfl (.tmp 28) (.tmp 30) 22 rfl w.heap.size 3 i0 _ 1 8 Try.underlying22 Hi.out.1 Hi.out.2.1 Hi.out.2.2.1 Hi.out.2.2.2 rfl (by omega) (.slice (some ⟨b, 0, none⟩) (st.length + 1) cap) (st.length + 1) (stJ (s :: st)) rfl (Hw2.out.alloc _) ⟨w2.heap.size, 0, none⟩ 1 1 [.int .i64 (i : Int)] rfl rfl (World.news_of_block (cs := #[.int .i64 (i : Int)]) (heap_alloc_new w2 _)) (by simp [Value.oneCell']) (by omega) (by simp only [maxLen]; omega) (by omega) (by have := HG2.out.size; simp; omega) (w2.heap.size + 1) (by simp) ?_; intro ga cap7 w7 hown hgrow hat hlt7; have Hown7 := Lib.hid hown; have Hgrow := Lib.hid hgrow; clear hown hgrow hat)
        go_roundg (leftJ (e'.set i true) (i :: s :: st))
        case measure => exact HO2.out.2
        case rel =>
          refine ⟨i :: s :: st, _, _, rfl, Lib.hid ⟨?_, ?_, ?_, HO2.out.1, ?_, ?_⟩⟩
          · exact (HR2.out.keep ((Kept.refl w2).alloc _)).grown Hgrow.out (Hw2.out.alloc _) hlo
          · have := Hown7.out
            rw [← stJ_cons i] at this
            exact this
          · refine (HG2.out.alloc _).grown Hgrow.out fun k hk he => ?_
            rcases Hw2.out.2 with ⟨h2, _⟩ | ⟨b', cap', c', h2, h3, _⟩
            · cases h2
            · injection h2 with h2; injection h2 with h2; injection h2 with h2
              have : b = k := by simpa [Value.ownBlock] using he
              omega
          · rw [mk_set (by rw [HO.out.el]; exact hil)]
            split
            · rfl
            · exact HS.out.1
          · have := HO2.out.2
            have := HS.out.2
            omega
      · have HR2 := Lib.hid R2
        have HC := Lib.hid (jclose_st HR2.out HO.out HD.out p2)
        clear R2 p2 H2
        go_wp2_with (go_at_call 57; refine (HC.out).mono ?_; rintro e4 w4 ⟨⟨v4, rfl⟩, H4⟩; clear HC)
        go_roundg (leftJ e' st)
        case measure => unfold leftJ; simp
        case rel =>
          refine ⟨st, _, _, rfl, Lib.hid ⟨H4.out.1, ?_, HG2.out.then H4.out.2.2, H4.out.2.1, HS.out.1, ?_⟩⟩
          · have := HR2.out.row H4.out.2.2 Hw2.out
            rw [stJ_cons] at this
            exact ownsRow_pop (stJ_len st) this
          · have := HS.out.2
            unfold leftJ at *
            simp at this
            omega
theorem fi_info : (Try.prog.info? 107).map (fun i => (i.zero, i.size, i.bytes)) = some (some (.agg #[.bool false, .int .i64 0, .int .i64 0]), 3, 24) := by kernel_rfl
theorem made_fis (n : Nat) (h : n ≤ 100000) : ∀ w : World, (Instr.makeSlice 116 (.int .i64 (n : Int)) (.int .i64 (n : Int))).run Try.prog w = .ok (.slice (some ⟨w.heap.size, 0, none⟩) n n) (w.alloc (.cells (madeCells #[.bool false, .int .i64 0, .int .i64 0] (n * 3)) 107)) := by
  intro w
  obtain ⟨i0, hi0, hz0, hz1, hz2⟩ := info_parts fi_info
  have := run_make (P := Try.prog) w 116 107 i0 _ Try.underlying116 hi0 hz0 .i64 .i64 (n : Int) (n : Int) (by omega) (by omega) (by rw [hz2]; omega) (by omega)
  rw [hz1] at this
  simpa [Value.cells] using this
theorem fis_made (n : Nat) : madeCells #[.bool false, .int .i64 0, .int .i64 0] (n * 3) = fis (List.replicate n Fi.none) := by
  apply Array.ext
  · unfold fis
    simp [madeCells, fiC]
  · intro i h1 h2
    have hn : i < n * 3 := by simpa [madeCells] using h1
    have hl : i / 3 < (List.replicate n Fi.none).length := by simp; omega
    obtain ⟨e0, e1, e2⟩ := fis_at (List.replicate n Fi.none) (i / 3) hl
    rcases (show i % 3 = 0 ∨ i % 3 = 1 ∨ i % 3 = 2 by omega) with h | h | h
    · have hi : i = i / 3 * 3 := by omega
      rw [← hi, Array.getElem?_eq_getElem h2] at e0
      injection e0 with e0
      rw [e0]
      simp [madeCells, h, Fi.none]
    · have hi : i = i / 3 * 3 + 1 := by omega
      rw [← hi, Array.getElem?_eq_getElem h2] at e1
      injection e1 with e1
      rw [e1]
      simp [madeCells, h, Fi.none]
    · have hi : i = i / 3 * 3 + 2 := by omega
      rw [← hi, Array.getElem?_eq_getElem h2] at e2
      injection e2 with e2
      rw [e2]
      simp [madeCells, h, Fi.none]
theorem nj_one {W : World} (hk : Kept w W) (hL : CondsAt w cv l) (hE : EnvAt w mv bv ov obv E) :
    Jd w (((W.alloc (.cells (madeCells #[.bool false] l.length) 4)).alloc (.cells (madeCells #[.bool false, .int .i64 0, .int .i64 0] (l.length * 3)) 107)).alloc (.cells #[cv, mv, bv, ov, obv, .int .i64 E.res, .int .i64 E.t, .slice (some ⟨W.heap.size, 0, none⟩) l.length l.length, .slice (some ⟨W.heap.size + 1, 0, none⟩) l.length l.length] 118)).drew (W.heap.size + 1 + 1) cv mv bv ov obv l E W.heap.size (W.heap.size + 1) (List.replicate l.length false) (List.replicate l.length Fi.none) := by
  obtain ⟨h1, h2, h3, h4⟩ := three_blocks W (.cells (madeCells #[.bool false] l.length) 4) (.cells (madeCells #[.bool false, .int .i64 0, .int .i64 0] (l.length * 3)) 107) (.cells #[cv, mv, bv, ov, obv, .int .i64 E.res, .int .i64 E.t, .slice (some ⟨W.heap.size, 0, none⟩) l.length l.length, .slice (some ⟨W.heap.size + 1, 0, none⟩) l.length l.length] 118)
  have hs := hk.size
  rw [bools_made] at h1 h2 h3 h4 ⊢
  rw [fis_made] at h1 h2 h3 h4 ⊢
  exact ⟨(hk.trans h4).drew, by omega, ⟨by omega, by omega⟩, h3, h1, h2, by simp, by simp, hL, hE⟩
theorem nj_two {W : World} (hk : Kept w W) (hL : CondsAt w cv l) (hE : EnvAt w mv bv ov obv E) :
    Jd w (((W.alloc (.cells (madeCells #[.bool false, .int .i64 0, .int .i64 0] (l.length * 3)) 107)).alloc (.cells (madeCells #[.bool false] l.length) 4)).alloc (.cells #[cv, mv, bv, ov, obv, .int .i64 E.res, .int .i64 E.t, .slice (some ⟨W.heap.size + 1, 0, none⟩) l.length l.length, .slice (some ⟨W.heap.size, 0, none⟩) l.length l.length] 118)).drew (W.heap.size + 1 + 1) cv mv bv ov obv l E (W.heap.size + 1) W.heap.size (List.replicate l.length false) (List.replicate l.length Fi.none) := by
  obtain ⟨h1, h2, h3, h4⟩ := three_blocks W (.cells (madeCells #[.bool false, .int .i64 0, .int .i64 0] (l.length * 3)) 107) (.cells (madeCells #[.bool false] l.length) 4) (.cells #[cv, mv, bv, ov, obv, .int .i64 E.res, .int .i64 E.t, .slice (some ⟨W.heap.size + 1, 0, none⟩) l.length l.length, .slice (some ⟨W.heap.size, 0, none⟩) l.length l.length] 118)
  have hs := hk.size
  rw [bools_made] at h1 h2 h3 h4 ⊢
  rw [fis_made] at h1 h2 h3 h4 ⊢
  exact ⟨(hk.trans h4).drew, by omega, ⟨by omega, by omega⟩, h3, h2, h1, by simp, by simp, hL, hE⟩
set_option maxRecDepth 100000 in
set_option maxHeartbeats 4000000 in
theorem newJudge_any (w : World) (hL : CondsAt w cv l) (hE : EnvAt w mv bv ov obv E) :
    Calls Try.prog 53 #[cv, envVal mv bv ov obv E] w fun x w' => ∃ q g h, x = .returned (.pointer (some ⟨q, 0, none⟩)) ∧ Hid (Jd w w' q cv mv bv ov obv l E g h (List.replicate l.length false) (List.replicate l.length Fi.none)) := by
  obtain ⟨la, lc, hlv⟩ := hL.form
  obtain ⟨m, hm⟩ := hE.mem.form
  obtain ⟨o, ho⟩ := hE.old.form
  obtain ⟨ba, bl, bc, hb⟩ := binds_form hE.binds
  obtain ⟨oa, ol, oc, hob⟩ := binds_form hE.olds
  have hn := hL.1
  subst hlv hm ho hb hob
  have HH := Lib.hid (And.intro hL hE)
  clear hL hE
  unfold envVal
  have hm1 := run_make_row' (P := Try.prog) 37 4 (.bool false) 1 Try.underlying37 bool_info rfl .i64 .i64 l.length (by omega) (by omega)
  have hm2 := made_fis l.length (by omega)
  go_enter Try.func53, Try.ntmps53
  go_upto_region 1 with fail
  have x0 := World.alloc_heap_new w (.cells #[.pointer m, .slice ba bl bc, .pointer o, .slice oa ol oc, .int .i64 E.res, .int .i64 E.t] 49)
  have kW := (Kept.refl w).alloc (.cells #[.pointer m, .slice ba bl bc, .pointer o, .slice oa ol oc, .int .i64 E.res, .int .i64 E.t] 49)
  generalize w.alloc (.cells #[.pointer m, .slice ba bl bc, .pointer o, .slice oa ol oc, .int .i64 E.res, .int .i64 E.t] 49) = W at *
  have c0 := bx_cell x0 0 _ rfl
  have c1 := bx_cell x0 1 _ rfl
  have c2 := bx_cell x0 2 _ rfl
  have c3 := bx_cell x0 3 _ rfl
  have c4 := bx_cell x0 4 _ rfl
  have c5 := bx_cell x0 5 _ rfl
  have KW := Lib.hid kW
  have hcw := (Array.getElem?_eq_some_iff.1 x0).1
  obtain ⟨cb, hcb⟩ : ∃ cb, w.heap.size = cb := ⟨_, rfl⟩
  rw [hcb] at hcw c0 c1 c2 c3 c4 c5 ⊢
  clear x0 kW hcb
  go_region
  all_goals
    go_wp2
    go_ret
    first | exact ⟨_, _, _, rfl, Lib.hid (nj_one KW.out HH.out.1 HH.out.2)⟩ | exact ⟨_, _, _, rfl, Lib.hid (nj_two KW.out HH.out.1 HH.out.2)⟩
theorem okj_start (l : List Cn) (E : Env) : OkJ l E (List.replicate l.length false) (List.replicate l.length Fi.none) [] := by
  refine ⟨fun s hs => (by cases hs), fun s h1 hm => ?_, trivial, by simp, by simp⟩
  exfalso
  simp [mkF, h1] at hm
set_option maxRecDepth 100000 in
set_option maxHeartbeats 4000000 in
theorem Test_any (hL : CondsAt w cv l) (hE : EnvAt w mv bv ov obv E) (hD : DownA l) (at_ : Int) : Calls Try.prog 33 #[cv, .int .i64 at_, envVal mv bv ov obv E] w fun x w' =>
    x = .returned (.tuple #[.bool (tstA l E at_).is, .int .i64 (tstA l E at_).ub, .int .i64 (tstA l E at_).at_]) ∧ Kept w w' := by
  have hn := hL.1
  obtain ⟨la, lc, hlv⟩ := hL.form
  obtain ⟨m, hm⟩ := hE.mem.form
  obtain ⟨o, ho⟩ := hE.old.form
  obtain ⟨ba, bl, bc, hb⟩ := binds_form hE.binds
  obtain ⟨oa, ol, oc, hob⟩ := binds_form hE.olds
  subst hlv hm ho hb hob
  have HH := Lib.hid (And.intro hL hE)
  have HD := Lib.hid hD
  have HO := Lib.hid (okj_start l E)
  have hls : ∀ i : Nat, leftJ ((List.replicate l.length false).set i true) [i] ≤ 40000 := by
    intro i
    have : ((List.replicate l.length false).set i true).count false ≤ l.length := by
      have := List.count_le_length (a := false) (l := (List.replicate l.length false).set i true)
      simpa using this
    unfold leftJ
    simp only [List.length_cons, List.length_nil]; omega
  have HLs := Lib.hid hls
  clear hL hE hD hls
  generalize hV : tstA l E at_ = V
  have HV := Lib.hid hV
  clear hV
  unfold envVal
  go_enter Try.func33, Try.ntmps33
  go_upto_region 1 with fail
  have x0 := World.alloc_heap_new w (.cells #[.pointer m, .slice ba bl bc, .pointer o, .slice oa ol oc, .int .i64 E.res, .int .i64 E.t] 49)
  have kW := (Kept.refl w).alloc (.cells #[.pointer m, .slice ba bl bc, .pointer o, .slice oa ol oc, .int .i64 E.res, .int .i64 E.t] 49)
  generalize w.alloc (.cells #[.pointer m, .slice ba bl bc, .pointer o, .slice oa ol oc, .int .i64 E.res, .int .i64 E.t] 49) = W at *
  have c0 := bx_cell x0 0 _ rfl
  have c1 := bx_cell x0 1 _ rfl
  have c2 := bx_cell x0 2 _ rfl
  have c3 := bx_cell x0 3 _ rfl
  have c4 := bx_cell x0 4 _ rfl
  have c5 := bx_cell x0 5 _ rfl
  have KW := Lib.hid kW
  clear x0 kW
  have HN := Lib.hid (newJudge_any W (HH.out.1.kept KW.out) (HH.out.2.kept KW.out))
  unfold envVal at HN
  go_upto_region 2 with (go_at_call 53; refine (HN.out).mono ?_; rintro e1 w1 ⟨q, g, h, rfl, HR⟩)
  clear c0 c1 c2 c3 c4 c5 HN
  have fin : ∀ w3 e' a', Hid (Jd W w3 q (.slice la l.length lc) (.pointer m) (.slice ba bl bc) (.pointer o) (.slice oa ol oc) l E g h e' a' ∧ OkJ l E e' a' [] ∧ PastJ l e' at_) → Calls Try.prog 58 #[.pointer (some ⟨q, 0, none⟩), .int .i64 at_] w3 fun x w' => x = .returned (.agg #[.bool V.is, .int .i64 V.ub, .int .i64 V.at_]) ∧ Kept w3 w' := by
    intro w3 e' a' H
    have := jtold_any H.out.1 at_
    rw [H.out.2.1.done H.out.2.2, HV.out] at this
    exact this
  have FIN := Lib.hid fin
  clear fin
  rcases open_orJ l (List.replicate l.length false) at_ with ho | hp
  · obtain ⟨i, hi, hil, him⟩ := ho
    subst hi
    have HE := Lib.hid (jenter_yes HR.out hil him)
    go_upto_region 3 with (go_at_call 54; refine (HE.out).mono ?_; rintro e3 w3 ⟨rfl, H3⟩; clear HE)
    have HP := Lib.hid (HO.out.push hil (fun x hx => by cases hx))
    have HK := Lib.hid (kj_any H3.out.1 HP.out HD.out (HLs.out i))
    go_upto_region 4 with (go_at_call 55; refine (HK.out).mono ?_; rintro e4 w4 ⟨rfl, H4⟩; clear HK)
    obtain ⟨e', a', R4, O4, M4, C4⟩ := H4.out
    have HF := Lib.hid (FIN.out w4 e' a' (Lib.hid ⟨R4, O4, .inr (.inr (by simpa using M4))⟩))
    have K4 := Lib.hid (KW.out.trans R4.kept)
    clear R4 O4 M4 C4 H4 H3 HP FIN
    go_upto_region 5 with (go_at_call 58; refine (HF.out).mono ?_; rintro e5 w5 ⟨rfl, k5⟩; have K5 := Lib.hid (K4.out.trans k5); clear k5)
    have z := World.alloc_heap_new w5 (.cells #[.bool V.is, .int .i64 V.ub, .int .i64 V.at_] 107)
    have K6 := Lib.hid (K5.out.alloc (.cells #[.bool V.is, .int .i64 V.ub, .int .i64 V.at_] 107))
    generalize w5.alloc (.cells #[.bool V.is, .int .i64 V.ub, .int .i64 V.at_] 107) = W6 at *
    have z0 := bx_cell z 0 _ rfl
    have z1 := bx_cell z 1 _ rfl
    have z2 := bx_cell z 2 _ rfl
    clear z
    go_region
    go_wp2
    simp [bodyPost, results, Try.f33, go_sem]
    exact K6.out.drew
  · have HE := Lib.hid (jenter_no HR.out at_ hp)
    go_upto_region 4 with (go_at_call 54; refine (HE.out).mono ?_; rintro e3 w3 ⟨rfl, k3⟩; have K3 := Lib.hid k3; clear k3 HE)
    have HF := Lib.hid (FIN.out w3 _ _ (Lib.hid ⟨HR.out.keep K3.out, HO.out, hp⟩))
    have K4 := Lib.hid (KW.out.trans (HR.out.kept.trans K3.out))
    clear HR K3 FIN
    go_upto_region 5 with (go_at_call 58; refine (HF.out).mono ?_; rintro e5 w5 ⟨rfl, k5⟩; have K5 := Lib.hid (K4.out.trans k5); clear k5)
    have z := World.alloc_heap_new w5 (.cells #[.bool V.is, .int .i64 V.ub, .int .i64 V.at_] 107)
    have K6 := Lib.hid (K5.out.alloc (.cells #[.bool V.is, .int .i64 V.ub, .int .i64 V.at_] 107))
    generalize w5.alloc (.cells #[.bool V.is, .int .i64 V.ub, .int .i64 V.at_] 107) = W6 at *
    have z0 := bx_cell z 0 _ rfl
    have z1 := bx_cell z 1 _ rfl
    have z2 := bx_cell z 2 _ rfl
    clear z
    go_region
    go_wp2
    simp [bodyPost, results, Try.f33, go_sem]
    exact K6.out.drew
end
end Go.Proofs.Ythjnkjekidagiaa.Evl
namespace Go.Proofs.Ythjnkjekidagiaa.Evl
open Go.RowKit
open Prs (Ex Cn)
open Fnd (bx_cell)
open Mem (Bk MemAt St Two tv getT getV)
open Lex (lst)
open Typ (wrapF)

theorem nums_new {w : World} {b : Nat} {vs : List Int} {cs : Array Value} {t : TypeId} (h : w.heap[b]? = some (.cells cs t (0, 0))) (hc : cs = (vs.map (Value.int .i64)).toArray) (hl : vs.length ≤ 20) : NumsAt w (.slice (some ⟨b, 0, none⟩) vs.length vs.length) vs := by
  subst hc
  refine ⟨hl, .inr ⟨_, _, rfl, Nat.le_refl _, by simp only [maxLen]; omega, fun j hj => ?_⟩⟩
  have ha : (⟨b, 0, none⟩ : Addr).add j = ⟨b, j, none⟩ := by
    by_cases h0 : j = 0
    · subst h0; rfl
    · simp [Addr.add, h0]
  rw [ha]
  refine ⟨?_, ?_⟩
  · exact (Array.getElem?_eq_some_iff.1 h).1
  · have := bx_cell h j (.int .i64 vs[j]) (by simp [hj])
    simpa using this
theorem mem_is {w w' : World} {w0 : World} {pm pr : Nat} {T T' : List Mem.Row} (h : St w0 w pm pr T T') (hk : Kept w w') : ∃ L, L.map tv = T ∧ MemIs w' (.pointer (some ⟨pm, 0, none⟩)) (some L) := by
  obtain ⟨vm, vr, Lm, Lr, hT⟩ := h
  exact ⟨Lm, hT.2.2.1, (MemIs.kept (.inr ⟨_, _, _, _, rfl, hT.2.1, rfl⟩) hk)⟩
/-- Of the node at a place: where its text stands. -/
theorem ListAt.place {w : World} {v : Value} {l : List Ex} (h : ListAt w v l) {i : Nat} (hi : i < l.length) : ∃ b cap, v = .slice (some ⟨b, 0, none⟩) l.length cap ∧ l.length ≤ cap ∧ cap ≤ maxLen ∧ ∀ w', Kept w w' → w'.cell? ⟨b, i * 7 + 6, none⟩ = some (.int .i64 l[i].place) := by
  rcases h.2 with ⟨_, h2⟩ | ⟨b, cap, cur, h1, h2, h3, h4, h5⟩
  · subst h2; simp at hi
  · exact ⟨b, cap, h1, h2, h3, fun w' hk => bx_cell (kh h4 hk) _ _ (h5 i hi).2.2.2.2.2.2⟩
theorem conds_at {w : World} {B : Nat} {v : Value} {l : List Cn} (h : Rpr.CnOwn w B v l) (hl : l.length ≤ 8193) (hx : ∀ i (h : i < l.length), l[i].x.length ≤ 8193 ∧ l[i].y.length ≤ 8193) : CondsAt w v l := by
  obtain ⟨xs, hown, hcc⟩ := h
  refine ⟨hl, ?_⟩
  rcases hown.2 with ⟨h1, h2⟩ | ⟨b, cap, cur, h0, hb, hh, hn, hm, hsz, ht⟩
  · exact .inl ⟨h1, List.length_eq_zero_iff.1 h2⟩
  · have hget : ∀ (l : List Cn) (xs : List Value), Rpr.CnCells w B l xs → ∀ (i : Nat) (hi : i < l.length), ∃ x y, (∀ k, k < 7 → xs[i * 7 + k]? = (Rpr.cnCell l[i] x y)[k]?) ∧ w.ownsRow B 146 7 x l[i].x.length (Rpr.exCells l[i].x) ∧ w.ownsRow B 146 7 y l[i].y.length (Rpr.exCells l[i].y) := by
      intro l
      induction l with
      | nil => intro xs _ i hi; simp at hi
      | cons c l ih =>
        rintro xs ⟨x, y, rest, rfl, hx, hy, hr⟩ i hi
        have h7 : (Rpr.cnCell c x y).length = 7 := rfl
        cases i with
        | zero => exact ⟨x, y, fun k hk => by rw [List.getElem?_append_left (by omega)]; simp, hx, hy⟩
        | succ i =>
          obtain ⟨x', y', h1, h2, h3⟩ := ih rest hr i (by simpa using hi)
          refine ⟨x', y', fun k hk => ?_, h2, h3⟩
          rw [List.getElem?_append_right (by omega), h7, show (i + 1) * 7 + k - 7 = i * 7 + k by omega]
          exact h1 k hk
    refine .inr ⟨b, cap, cur, h0, hn, hm, hh, fun i hi => ?_⟩
    obtain ⟨x, y, h1, h2, h3⟩ := hget l xs hcc i hi
    have hc : ∀ k, k < 7 → cur[i * 7 + k]? = (Rpr.cnCell l[i] x y)[k]? := by
      intro k hk
      rw [← h1 k hk, ← ht, List.getElem?_take, if_pos (by omega)]; simp
    have e0 := hc 0 (by omega)
    rw [Nat.add_zero] at e0
    exact ⟨x, y, e0, hc 1 (by omega), hc 2 (by omega), hc 3 (by omega), hc 4 (by omega), hc 5 (by omega), hc 6 (by omega), own_list h2 (hx i hi).1, own_list h3 (hx i hi).2⟩
def tYm : Cn := ⟨1, 1, [⟨2, 0, 0, [121], -1, -1, 0⟩, ⟨1, 300, 5, [], -1, -1, 4⟩, ⟨8, 0, 0, [], 0, 1, 2⟩], [⟨1, 0, 5, [], -1, -1, 11⟩], -1, -1, 8⟩
def tXg : Cn := ⟨1, 1, [⟨2, 0, 0, [120], -1, -1, 0⟩, ⟨2, 0, 0, [103, 48], -1, -1, 4⟩, ⟨8, 0, 0, [], 0, 1, 2⟩], [⟨1, 0, 5, [], -1, -1, 10⟩], -1, -1, 7⟩
def tUx : Cn := ⟨1, 1, [⟨2, 0, 0, [120], -1, -1, 5⟩, ⟨18, 0, 2, [], 0, -1, 0⟩], [⟨1, 0, 5, [], -1, -1, 12⟩], -1, -1, 9⟩
def tLt : Cn := ⟨1, 3, [⟨2, 0, 0, [120], -1, -1, 0⟩], [⟨2, 0, 0, [103, 48], -1, -1, 4⟩], -1, -1, 2⟩
theorem tYm_read : Rpr.condRead (lst ⟨#[121, 32, 43, 32, 51, 48, 48]⟩ ++ [32, 61, 61, 32, 48]) = some [tYm] := by decide +kernel
theorem tXg_read : Rpr.condRead (lst ⟨#[120, 32, 43, 32, 103, 48]⟩ ++ [32, 61, 61, 32, 48]) = some [tXg] := by decide +kernel
theorem tUx_read : Rpr.condRead (lst ⟨#[117, 56, 32, 40, 32, 120, 32, 41]⟩ ++ [32, 61, 61, 32, 48]) = some [tUx] := by decide +kernel
theorem tLt_read : Rpr.condRead (lst ⟨#[120, 32, 60, 32, 103, 48]⟩) = some [tLt] := by decide +kernel
theorem down_ym : Down tYm.x := down_of rfl
theorem down_xg : Down tXg.x := down_of rfl
theorem down_ux : Down tUx.x := down_of rfl
section
variable {L : List Bk} {x y g : Int} {r : List Int}
theorem own_x (hL : L.map tv = bothF (x :: r)) (hx : -2147483648 ≤ x ∧ x ≤ 2147483647) : (getV L 0 0).1 = x := by
  rw [own_get L _ hL, show (getT (bothF (x :: r)) 0 0).1 = wrapF 5 x from rfl, Typ.wrap5 hx]
theorem own_y (hL : L.map tv = bothF (x :: y :: r)) (hy : 0 ≤ y ∧ y ≤ 255) : (getV L 1 0).1 = y := by
  rw [own_get L _ hL, show (getT (bothF (x :: y :: r)) 1 0).1 = wrapF 2 y from rfl]
  unfold wrapF; simp; omega
theorem own_g (hL : L.map tv = bothF (x :: y :: g :: r)) (hg : 0 ≤ g ∧ g ≤ 4294967295) : (getV L 2 0).1 = g := by
  rw [own_get L _ hL, show (getT (bothF (x :: y :: g :: r)) 2 0).1 = wrapF 6 g from rfl, Typ.wrap6 hg]
theorem ym_val (hL : L.map tv = bothF (x :: y :: r)) (hy : 0 ≤ y ∧ y ≤ 255) : valA tYm.x (lawE L none [] 0 0) (2, 0) = ⟨y + 300, 5, 0, 0⟩ := by
  rw [val_two (s := 2) down_ym 2 0 rfl rfl (by decide)]
  rw [val_leaf (s := 0) down_ym 0 0 rfl rfl (by decide), val_leaf (s := 1) down_ym 1 0 rfl rfl (by decide)]
  rw [env_now, nd_var find_y, closeA_ok _ _ rfl rfl, own_y hL hy]
  have h1 := (Typ.low5 (k := 8) (a := y) (b := 300) (v := y + 300) (by omega) (by omega) (by omega) (by omega) rfl).1 (by omega)
  show doA 8 5 (wrapF 5 y) (wrapF 5 300) 2 = _
  rw [Typ.wrap5 (by omega), Typ.wrap5 (by omega)]
  unfold doA
  rw [if_pos h1.2, h1.1]
theorem xg_val (hL : L.map tv = bothF (x :: y :: g :: r)) (hx : -2147483648 ≤ x ∧ x ≤ 2147483647) (hg : 0 ≤ g ∧ g ≤ 4294967295) : valA tXg.x (lawE L none [] 0 0) (2, 0) = ⟨(x % 4294967296 + g) % 4294967296, 6, 0, 0⟩ := by
  rw [val_two (s := 2) down_xg 2 0 rfl rfl (by decide)]
  rw [val_leaf (s := 0) down_xg 0 0 rfl rfl (by decide), val_leaf (s := 1) down_xg 1 0 rfl rfl (by decide)]
  rw [env_now, nd_var find_x, nd_var find_g0, closeA_ok _ _ rfl rfl, own_x hL hx, own_g hL hg]
  have h1 := Typ.low6 (k := 8) (a := x % 4294967296) (b := g) (v := (x % 4294967296 + g) % 4294967296) (by omega) (by omega) (by omega) (by omega) (Typ.wrap6' _)
  show doA 8 6 (wrapF 6 x) (wrapF 6 g) 2 = _
  rw [Typ.wrap6', Typ.wrap6 (by omega)]
  unfold doA
  rw [if_pos h1.2, h1.1]
theorem ux_val (hL : L.map tv = bothF (x :: r)) (hx : -2147483648 ≤ x ∧ x ≤ 2147483647) : valA tUx.x (lawE L none [] 0 0) (1, 0) = ⟨x % 256, 2, 0, 0⟩ := by
  rw [val_one (s := 1) down_ux 1 0 rfl rfl (by decide)]
  rw [val_leaf (s := 0) down_ux 0 0 rfl rfl (by decide)]
  rw [env_now, nd_var find_x, closeA_ok _ _ rfl rfl, own_x hL hx]
  show (⟨wrapF 2 x, 2, 0, 0⟩ : Ans) = _
  rw [show wrapF 2 x = x % 256 by unfold wrapF; simp]
/-- Kids ahead, in a list of conditions. -/
theorem downA_lt : DownA [tLt] := by
  refine ⟨fun i h => ?_, fun i h => ?_⟩
  · obtain rfl : i = 0 := by simpa using h
    exact ⟨show (-1 : Int) < 0 by decide, show (-1 : Int) < 0 by decide⟩
  · obtain rfl : i = 0 := by simpa using h
    exact ⟨down_of rfl, down_of rfl⟩
theorem lt_val (hL : L.map tv = bothF (x :: y :: g :: r)) (hx : -2147483648 ≤ x ∧ x ≤ 2147483647) (hg : 0 ≤ g ∧ g ≤ 4294967295) : tstA [tLt] (lawE L none [] 0 0) 0 = ⟨decide (x % 4294967296 < g), 0, 0⟩ := by
  rw [show tstA [tLt] (lawE L none [] 0 0) 0 = relA tLt (lawE L none [] 0 0) from tstA_at downA_lt.1 (i := 0) (by decide)]
  unfold relA
  rw [show valA tLt.x (lawE L none [] 0 0) (((tLt.x.length : Nat) : Int) - 1, 0) = _ from val_leaf (s := 0) (down_of rfl) 0 0 rfl rfl (by decide)]
  rw [show valA tLt.y (lawE L none [] 0 0) (((tLt.y.length : Nat) : Int) - 1, 0) = _ from val_leaf (s := 0) (down_of rfl) 0 0 rfl rfl (by decide)]
  rw [env_now, nd_var find_x, nd_var find_g0, own_x hL hx, own_g hL hg]
  show (⟨decide (wrapF 6 x < wrapF 6 g), 0, 0⟩ : Fi) = _
  rw [Typ.wrap6', Typ.wrap6 (by omega)]
end
def cA : Cn := ⟨1, 5, [⟨2, 0, 0, [120], -1, -1, 0⟩], [⟨1, 9, 5, [], -1, -1, 4⟩], -1, -1, 2⟩
def cB (p : Nat) : Cn := ⟨1, 1, [⟨1, 1, 5, [], -1, -1, p⟩, ⟨1, 0, 5, [], -1, -1, p + 4⟩, ⟨11, 0, 0, [], 0, 1, p + 2⟩], [⟨1, 1, 5, [], -1, -1, p + 9⟩], -1, -1, p + 6⟩
def cC (k : Nat) : Cn := ⟨k, 0, [], [], 0, 1, 6⟩
theorem and_read : Rpr.condRead (lst (((⟨#[120, 32, 62, 32, 57, 32]⟩ : ByteArray) ++ (⟨#[97, 110, 100]⟩ : ByteArray)) ++ (⟨#[32, 49, 32, 47, 32, 48, 32, 61, 61, 32, 49]⟩ : ByteArray))) = some [cA, cB 10, cC 3] := by decide +kernel
theorem or_read : Rpr.condRead (lst (((⟨#[120, 32, 62, 32, 57, 32]⟩ : ByteArray) ++ (⟨#[111, 114]⟩ : ByteArray)) ++ (⟨#[32, 49, 32, 47, 32, 48, 32, 61, 61, 32, 49]⟩ : ByteArray))) = some [cA, cB 9, cC 4] := by decide +kernel
theorem small_sh (p k : Nat) : ∀ i (h : i < [cA, cB p, cC k].length), [cA, cB p, cC k][i].x.length ≤ 8193 ∧ [cA, cB p, cC k][i].y.length ≤ 8193 := by
  intro i h
  have h3 : i < 3 := h
  rcases (show i = 0 ∨ i = 1 ∨ i = 2 by omega) with rfl | rfl | rfl
  · exact ⟨show 1 ≤ 8193 by decide, show 1 ≤ 8193 by decide⟩
  · exact ⟨show 3 ≤ 8193 by decide, show 1 ≤ 8193 by decide⟩
  · exact ⟨show 0 ≤ 8193 by decide, show 0 ≤ 8193 by decide⟩
theorem downA_sh (p k : Nat) : DownA [cA, cB p, cC k] := by
  refine ⟨fun i h => ?_, fun i h => ?_⟩
  · have h3 : i < 3 := h
    rcases (show i = 0 ∨ i = 1 ∨ i = 2 by omega) with rfl | rfl | rfl
    · exact ⟨show (-1 : Int) < 0 by decide, show (-1 : Int) < 0 by decide⟩
    · exact ⟨show (-1 : Int) < 1 by decide, show (-1 : Int) < 1 by decide⟩
    · exact ⟨show (0 : Int) < 2 by decide, show (1 : Int) < 2 by decide⟩
  · have h3 : i < 3 := h
    rcases (show i = 0 ∨ i = 1 ∨ i = 2 by omega) with rfl | rfl | rfl <;> exact ⟨down_of rfl, down_of rfl⟩
section
variable {L : List Bk} {x : Int} {r : List Int}
theorem cA_val (hL : L.map tv = bothF (x :: r)) (hx : -2147483648 ≤ x ∧ x ≤ 2147483647) : relA cA (lawE L none [] 0 0) = ⟨decide (9 < x), 0, 0⟩ := by
  unfold relA
  rw [show valA cA.x (lawE L none [] 0 0) (((cA.x.length : Nat) : Int) - 1, 0) = _ from val_leaf (s := 0) (down_of rfl) 0 0 rfl rfl (by decide)]
  rw [show valA cA.y (lawE L none [] 0 0) (((cA.y.length : Nat) : Int) - 1, 0) = _ from val_leaf (s := 0) (down_of rfl) 0 0 rfl rfl (by decide)]
  rw [env_now, nd_var find_x, own_x hL hx]
  show (⟨decide (wrapF 5 9 < wrapF 5 x), 0, 0⟩ : Fi) = _
  rw [Typ.wrap5 hx, Typ.wrap5 (by omega)]
theorem nd_op {k : Nat} (hk : 8 ≤ k ∧ k ≤ 15) (m ty p : Nat) (nm : List UInt8) (i j : Int) (E : Env) (a b : Ans) : nodeA ⟨k, m, ty, nm, i, j, p⟩ E a b = doA k (meetF a b) (wrapF (meetF a b) a.v) (wrapF (meetF a b) b.v) p := by
  unfold nodeA
  rw [if_neg (show ¬ k = 1 by omega), if_neg (show ¬ (k = 2 ∨ k = 3) by omega), if_neg (show ¬ k = 4 by omega), if_neg (show ¬ k = 5 by omega), if_neg (show ¬ k = 18 by omega)]
  unfold opA
  rw [if_pos (show 8 ≤ k ∧ k ≤ 15 from hk)]
theorem cB_val (p : Nat) : relA (cB p) (lawE L none [] 0 0) = ⟨false, 2, p + 2⟩ := by
  have hv : valA (cB p).x (lawE L none [] 0 0) ((((cB p).x.length : Nat) : Int) - 1, 0) = ⟨0, 5, 2, p + 2⟩ := by
    rw [show valA (cB p).x (lawE L none [] 0 0) ((((cB p).x.length : Nat) : Int) - 1, 0) = _ from val_two (s := 2) (down_of rfl) 2 0 rfl rfl (show twoK 11 by decide)]
    rw [show valA (cB p).x (lawE L none [] 0 0) ((0 : Int), 0) = _ from val_leaf (s := 0) (down_of rfl) 0 0 rfl rfl (.inl rfl)]
    rw [show valA (cB p).x (lawE L none [] 0 0) ((1 : Int), 0) = _ from val_leaf (s := 1) (down_of rfl) 1 0 rfl rfl (.inl rfl)]
    rw [closeA_ok _ _ rfl rfl, nd_op (by omega)]
    rw [show nodeA ⟨1, 1, 5, [], -1, -1, p⟩ (envT (lawE L none [] 0 0) 0) Ans.none Ans.none = ⟨1, 5, 0, 0⟩ from rfl, show nodeA ⟨1, 0, 5, [], -1, -1, p + 4⟩ (envT (lawE L none [] 0 0) 0) Ans.none Ans.none = ⟨0, 5, 0, 0⟩ from rfl]
    rw [show meetF ⟨1, 5, 0, 0⟩ ⟨0, 5, 0, 0⟩ = 5 from rfl]
    simp only
    rw [Typ.wrap5 (by omega), Typ.wrap5 (by omega)]
    unfold doA
    rw [show ((11 : Nat) : Int) = 11 from rfl]
    rw [Typ.div0 (k := 11) (t := 5) (a := 1) (.inl rfl) (.inl rfl) (Typ.in5' (by omega)), if_neg (by decide)]
    simp
  unfold relA
  simp only [hv]
  rw [if_pos (by decide)]
theorem sh_val (p k : Nat) (hk : k = 3 ∨ k = 4) (hL : L.map tv = bothF (x :: r)) (hx : -2147483648 ≤ x ∧ x ≤ 2147483647) : tstA [cA, cB p, cC k] (lawE L none [] 0 0) 2 = if decide (9 < x) = decide (k = 3) then ⟨false, 2, p + 2⟩ else ⟨decide (9 < x), 0, 0⟩ := by
  rw [show tstA [cA, cB p, cC k] (lawE L none [] 0 0) 2 = _ from tstA_at (downA_sh p k).1 (i := 2) (show 2 < 3 by decide)]
  have h2 : twoC ([cA, cB p, cC k][2].kind) := hk
  rw [if_pos (.inl h2), if_pos h2]
  rw [show tstA [cA, cB p, cC k] (lawE L none [] 0 0) ([cA, cB p, cC k][2].a) = relA cA (lawE L none [] 0 0) from tstA_at (downA_sh p k).1 (i := 0) (show 0 < 3 by decide)]
  have hb2 : [cA, cB p, cC k][2].b = 1 := rfl
  have e1 : tstA [cA, cB p, cC k] (lawE L none [] 0 0) 1 = relA (cB p) (lawE L none [] 0 0) := by
    rw [show (1 : Int) = ((1 : Nat) : Int) from rfl, tstA_at (downA_sh p k).1 (i := 1) (show 1 < 3 by decide)]
    show clsA (cB p) _ _ _ = _
    unfold clsA
    exact if_pos rfl
  rw [hb2, e1]
  rw [cA_val hL hx, cB_val]
  show clsA (cC k) _ _ _ = _
  unfold clsA
  rw [if_neg (show ¬ (cC k).kind = 1 from show ¬ k = 1 by omega), if_pos (show twoC (cC k).kind from h2)]
  unfold undA
  show (if (decide ((0 : Int) = 0) && (decide (9 < x) == decide (k = 3))) = true then _ else _) = _
  by_cases h : decide (9 < x) = decide (k = 3)
  · rw [if_pos h, if_pos (by rw [h]; simp)]
  · rw [if_neg h, if_neg (by simpa using h)]
end
end Go.Proofs.Ythjnkjekidagiaa.Evl
