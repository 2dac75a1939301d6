/-
  Proved: the statement 'EvalAllSaid' of the seat: for every input that law returns true, and each argument reads afterwards as it read before. No condition of ours.
  The frame follows the guide's shell; the walk and the contracts that it uses are ours.
  Ahead of it: Statements of layer 8 of any text: the document's Value; nodes; numbers that came in; what a node has does not hang on where memories stand; both memories beside each other.
-/
import Derived.Test.YtnlkcjbnmkpnhaaEvTop
import Derived.Test.YtnlkcjbnmkpnhaaRvAll
import Derived.Test.YtnlkcjbnmkpnhaaSrdAll
import Derived.Test.YtnlkcjbnmkpnhaaRows
import Derived.WalkKit
import Derived.ProofKit
import Derived.OpenShut
import Derived.Test.YtnlkcjbnmkpnhaaBase
import Derived.Deep.CutBlock
import Derived.Deep.CutRange
import Derived.Deep.RegionHeld3
import Derived.Deep.LoopGhost
import Derived.ShutString
import Derived.ChangeOld
import Derived.Below
namespace Go.Proofs.Ytnlkcjbnmkpnhaa.Evl
open Go.RowKit
open Prs (Ex Cn)
open Fnd
open Mem (Bk MemAt St Two tv getT getV getV_tv)
open Lex (lst)
open Typ (wrapF)

set_option maxRecDepth 100000 in
set_option maxHeartbeats 4000000 in
theorem rValue_any {w : World} {lv mv bv ov obv : Value} {l : List Ex} {E : Env} (hL : ListAt w lv l) (hD : Down l) (hE : REnvAt w mv bv ov obv E) (at_ : Int) : Calls Try.prog 12 #[lv, .int .i64 at_, envVal mv bv ov obv E] w fun x w' =>
    x = .returned (.tuple #[.int .i64 (valA l E (at_, 0)).v, .int .i64 (valA l E (at_, 0)).t, .int .i64 (valA l E (at_, 0)).ub, .int .i64 (valA l E (at_, 0)).at_]) ∧ Kept w w' := by
  have HV := Lib.hid (fun W (hk : Kept w W) => rvalue_any (hL.kept hk) hD (hE.kept hk) at_)
  obtain ⟨m, hm⟩ := hE.mem.form
  obtain ⟨o, ho⟩ := hE.old.form
  obtain ⟨ba, bl, bc, hbv⟩ := binds_form hE.binds
  obtain ⟨oa, ol, oc, hob⟩ := binds_form hE.olds
  subst hm ho hbv hob
  clear hL hE
  generalize valA l E (at_, 0) = V at *
  unfold ansVal envVal at HV
  unfold envVal
  go_enter Try.func12, Try.ntmps12
  go_upto_region 1 with fail
  have x0 := World.alloc_heap_new w (.cells #[.pointer m, .slice ba bl bc, .pointer o, .slice oa ol oc, .int .i64 E.res, .int .i64 E.t] 35)
  have kW := (Kept.refl w).alloc (.cells #[.pointer m, .slice ba bl bc, .pointer o, .slice oa ol oc, .int .i64 E.res, .int .i64 E.t] 35)
  generalize w.alloc (.cells #[.pointer m, .slice ba bl bc, .pointer o, .slice oa ol oc, .int .i64 E.res, .int .i64 E.t] 35) = W at *
  have c0 := bx_cell x0 0 _ rfl
  have c1 := bx_cell x0 1 _ rfl
  have c2 := bx_cell x0 2 _ rfl
  have c3 := bx_cell x0 3 _ rfl
  have c4 := bx_cell x0 4 _ rfl
  have c5 := bx_cell x0 5 _ rfl
  have KW := Lib.hid kW
  clear x0 kW
  go_upto_region 2 with (go_at_call 28; refine (HV.out _ KW.out).mono ?_; rintro y w5 ⟨rfl, k5⟩; have K5 := Lib.hid (KW.out.trans k5); clear k5)
  have z := World.alloc_heap_new w5 (.cells #[.int .i64 V.v, .int .i64 V.t, .int .i64 V.ub, .int .i64 V.at_] 77)
  have K6 := Lib.hid (K5.out.alloc (.cells #[.int .i64 V.v, .int .i64 V.t, .int .i64 V.ub, .int .i64 V.at_] 77))
  generalize w5.alloc (.cells #[.int .i64 V.v, .int .i64 V.t, .int .i64 V.ub, .int .i64 V.at_] 77) = W6 at *
  have z0 := bx_cell z 0 _ rfl
  have z1 := bx_cell z 1 _ rfl
  have z2 := bx_cell z 2 _ rfl
  have z3 := bx_cell z 3 _ rfl
  clear z c0 c1 c2 c3 c4 c5
  go_region
  go_wp2
  simp [bodyPost, results, Try.f12, go_sem]
  exact K6.out.drew
/-- What nodes tells of any text: a list whose kids stand ahead. -/
def NodesOut (w w' : World) (x : Ending) : Prop := ∃ (v : Value) (l : List Ex), x = .returned v ∧ Kept w w' ∧ ListAt w' v l ∧ Down l
theorem NodesOut.none {w w' : World} (hk : Kept w w') : NodesOut w w' (.returned (.slice none 0 0)) := ⟨_, [], rfl, hk, ⟨by simp, .inl ⟨rfl, rfl⟩⟩, fun i h => by simp at h⟩
set_option maxRecDepth 100000 in
set_option maxHeartbeats 4000000 in
theorem nodes_safe (s : ByteArray) (w : World) (hs : s.size ≤ 8000) : Calls Try.prog 8 #[.string s] w fun x w' => NodesOut w w' x := by
  have hz : (s ++ (⟨#[32, 61, 61, 32, 48]⟩ : ByteArray)).size = s.size + 5 := by simp; rfl
  have HC := Lib.hid (Srd.Cond_safe (s ++ ⟨#[32, 61, 61, 32, 48]⟩) w (by omega))
  go_enter Try.func8, Try.ntmps8
  go_upto_region 2 with (go_at_call 13; refine (HC.out).mono ?_; clear HC; rintro e1 w1 ⟨v, c, a, l, rfl, k1, hown, hn, hl, hc⟩)
  have K1 := Lib.hid k1
  clear k1
  rcases (show c ≠ 0 ∨ (c = 0 ∧ l.length ≠ 1) ∨ (c = 0 ∧ l.length = 1) by omega) with f1 | ⟨f1, f2⟩ | ⟨f1, f2⟩
  · have f3 : ((c : Int) != 0) = true := by rw [bne_iff_ne]; omega
    obtain ⟨xs, h1, h2⟩ := hown
    obtain ⟨a2, c2, rfl⟩ := Rpr.own_form h1
    clear h1 h2 hc
    go_wp2
    go_ret
    exact NodesOut.none K1.out
  · have f3 : ((c : Int) != 0) = false := by rw [bne_eq_false_iff_eq]; omega
    have f4 : ((l.length : Int) != 1) = true := by rw [bne_iff_ne]; omega
    obtain ⟨xs, h1, h2⟩ := hown
    obtain ⟨a2, c2, rfl⟩ := Rpr.own_form h1
    clear h1 h2 hc f1
    go_wp2
    go_ret
    exact NodesOut.none K1.out
  · obtain ⟨cn, rfl⟩ : ∃ cn, l = [cn] := by
      cases l with
      | nil => simp at f2
      | cons x l => cases l with
        | nil => exact ⟨x, rfl⟩
        | cons y l => simp at f2
    obtain ⟨xs, hown, hcn⟩ := hown
    obtain ⟨x, y, rest, e, hox, hoy, hr⟩ := hcn
    obtain rfl : rest = [] := hr
    rcases hown.2 with ⟨_, h0⟩ | ⟨b, cap, cur, hv, hb, hh, hnn, hm, hsz, ht⟩
    · simp at h0
    have ht' : cur.toList.take 7 = Rpr.cnCell cn x y := by rw [show (7 : Nat) = [cn].length * 7 from rfl, ht, e]; simp
    have hc2 : cur[2]? = some x := by
      have : (cur.toList.take 7)[2]? = some x := by rw [ht']; rfl
      rw [List.getElem?_take, if_pos (by omega)] at this
      simpa using this
    have c2 := bx_cell hh 2 _ hc2
    have hx := (hn.ok cn (by simp)).2.2.2.2.2.2.1
    obtain ⟨xa, xc, hxv⟩ := (own_list hox hx).form
    have hv' : v = .slice (some ⟨b, 0, none⟩) 1 cap := hv
    subst hv' hxv f1
    have HL := Lib.hid (And.intro (own_list hox hx) (show Down cn.x from (hn.kids cn (by simp)).1.down))
    clear hown hox hoy hh hc2 ht ht' e hv hc hn
    go_wp2
    go_ret
    exact ⟨_, _, rfl, K1.out, HL.out.1, HL.out.2⟩
theorem nums_row {w : World} {a : Option Addr} {n cap : Nat} {zs : List Int} (hn : n ≤ 20) (h : (a = none ∧ n = 0 ∧ cap = 0 ∧ zs = []) ∨ ∃ x, a = some x ∧ n ≤ cap ∧ cap ≤ maxLen ∧ zs.length = cap ∧ (∀ i, i < zs.length → w.cell? (x.add i) = some (.int .i64 (zs.getD i 0))) ∧ ∀ n ∈ zs, (Lit.int .i64 n).wf = true) : NumsAt w (.slice a n cap) (zs.take n) ∧ (zs.take n).length = n := by
  rcases h with ⟨rfl, rfl, rfl, rfl⟩ | ⟨x, rfl, h1, h2, h3, h4, -⟩
  · exact ⟨⟨by simp, .inl ⟨rfl, rfl⟩⟩, rfl⟩
  · have hlen : (zs.take n).length = n := by rw [List.length_take]; omega
    refine ⟨⟨by omega, .inr ⟨x, cap, by rw [hlen], by omega, h2, fun j hj => ?_⟩⟩, hlen⟩
    have hj' : j < zs.length := by omega
    have hc := h4 j hj'
    refine ⟨?_, ?_⟩
    · by_cases hb : (x.add j).block < w.heap.size
      · exact hb
      · exfalso
        have : w.heap[(x.add j).block]? = none := Array.getElem?_eq_none (by omega)
        simp [World.cell?, this] at hc
    · rw [hc]
      simp [List.getD, hj']
theorem nums_kept {w w' : World} {v : Value} {vs : List Int} (h : NumsAt w v vs) (hk : Kept w w') : NumsAt w' v vs := by
  obtain ⟨h0, h1 | ⟨x, c, h1, h2, h3, h4⟩⟩ := h
  · exact ⟨h0, .inl h1⟩
  · refine ⟨h0, .inr ⟨x, c, h1, h2, h3, fun j hj => ?_⟩⟩
    obtain ⟨q1, q2⟩ := h4 j hj
    exact ⟨Nat.lt_of_lt_of_le q1 (Below.size hk), (World.cell?_of_block (Below.block hk _ q1)).trans q2⟩
/-- Two environments that names have the same in. -/
structure Same (E F : Env) : Prop where
  mem : E.mem.map (List.map tv) = F.mem.map (List.map tv)
  binds : E.binds = F.binds
  old : E.old.map (List.map tv) = F.old.map (List.map tv)
  olds : E.olds = F.olds
  res : E.res = F.res
  t : E.t = F.t
theorem Same.past {E F : Env} (h : Same E F) : Same E.past F.past := ⟨h.old, h.olds, h.old, h.olds, h.res, h.t⟩
theorem Same.env {E F : Env} (h : Same E F) (t : Nat) : Same (envT E t) (envT F t) := by
  unfold envT
  split
  · exact h
  · exact h.past
theorem named_same {E F : Env} (h : Same E F) (n : Ex) (i : Int) : namedA n E i = namedA n F i := by
  have hm := h.mem
  have hb := h.binds
  unfold namedA bindF
  cases he : E.mem with
  | none =>
    rw [he] at hm
    cases hf : F.mem with
    | none => rfl
    | some L => rw [hf] at hm; simp at hm
  | some L =>
    rw [he] at hm
    cases hf : F.mem with
    | none => rw [hf] at hm; simp at hm
    | some L' =>
      rw [hf] at hm
      have hL : L.map tv = L'.map tv := by simpa using hm
      rw [hb]
      cases hq : findF F.binds n.name with
      | none => rfl
      | some b =>
        simp only [Option.map_some]
        rw [getV_tv L, getV_tv L, getV_tv L', getV_tv L', hL]
theorem node_same {E F : Env} (h : Same E F) (n : Ex) (a b : Ans) : nodeA n E a b = nodeA n F a b := by
  unfold nodeA
  rw [named_same h, h.res, h.t]
theorem val_same {E F : Env} (h : Same E F) (l : List Ex) : ∀ (f : Nat) (s : Int × Nat), valF l E f s = valF l F f s := by
  intro f
  induction f with
  | zero => intro s; rfl
  | succ f ih =>
    intro s
    rw [val_succ, val_succ]
    split
    · split
      · rename_i x _
        unfold closeA
        rw [node_same (h.env s.2), ih, ih]
      · rfl
    · rfl
theorem valA_same {E F : Env} (h : Same E F) (l : List Ex) (s : Int × Nat) : valA l E s = valA l F s := val_same h l _ s
theorem mems_is {w w' : World} {w0 : World} {pm pr : Nat} {T T' : List Mem.Row} (h : St w0 w pm pr T T') (hk : Kept w w') : ∃ L R, L.map tv = T ∧ R.map tv = T' ∧ MemIs w' (.pointer (some ⟨pm, 0, none⟩)) (some L) ∧ RMemIs w' (.pointer (some ⟨pr, 0, none⟩)) (some R) := by
  obtain ⟨vm, vr, Lm, Lr, hT⟩ := h
  have e := hT
  unfold Two at e
  obtain ⟨e1, e2, e3, e4, e5, e6⟩ := e
  exact ⟨Lm, Lr, e3, by first | exact e5 | exact e4 | exact e6, MemIs.kept (.inr ⟨_, _, _, _, rfl, e2, rfl⟩) hk, RMemIs.kept (.inr ⟨_, _, _, _, rfl, by first | exact e4 | exact e5, rfl⟩) hk⟩
theorem names_sz : ∀ b ∈ namesL, 0 ≤ b.size := by
  intro b hb
  simp only [namesL, List.mem_cons, List.not_mem_nil, or_false] at hb
  rcases hb with rfl | rfl | rfl | rfl <;> simp
end Go.Proofs.Ytnlkcjbnmkpnhaa.Evl
namespace Go.Proofs.Ytnlkcjbnmkpnhaa.evalAll
open Go.ChangeShapes Go.WideShapes Go.ChangeAt Go.RowKit
open Go.ChangeMaps (open_string shut_string)
set_option linter.unusedVariables false

theorem own : ownKnob Try.prog.godebug = none := by kernel_rfl
theorem laidOut : laidOutB Try.prog = true := by kernel_rfl

/-- A slice of integers that came in: nil; or a row of cap cells, the numbers zs, each fitting its kind. -/
def IsRow (k : IntKind) (w : World) (a : Option Addr) (len cap : Nat) (zs : List Int) : Prop :=
  (a = none ∧ len = 0 ∧ cap = 0 ∧ zs = []) ∨
  ∃ x, a = some x ∧ len ≤ cap ∧ cap ≤ maxLen ∧ zs.length = cap ∧ (∀ i, i < zs.length → w.cell? (x.add i) = some (.int k (zs.getD i 0))) ∧ ∀ n ∈ zs, (Lit.int k n).wf = true

open Evl
open Prs (Ex Cn)
open Fnd (bx_cell bx_froz)
open Mem (Bk MemAt St tv)

/-! The walk: the Go text returns true and writes nothing that was there. -/
set_option maxRecDepth 100000 in
set_option maxHeartbeats 4000000 in
theorem walk (a0 : ByteArray) (a1 : Option Addr) (len1 cap1 : Nat) (z1 : List Int) (a2 : Option Addr) (len2 cap2 : Nat) (z2 : List Int) (a3 : Int) (a4 : Int) (a5 : Int) (w : World) (w0 : a0.size ≤ maxLen) (w1 : IsRow .i64 w a1 len1 cap1 z1) (w2 : IsRow .i64 w a2 len2 cap2 z2) (w3 : (Lit.int .i64 a3).wf = true) (w4 : (Lit.int .i64 a4).wf = true) (w5 : (Lit.int .i64 a5).wf = true) :
    Calls Try.prog 3 #[.string a0, .slice a1 len1 cap1, .slice a2 len2 cap2, .int .i64 a3, .int .i64 a4, .int .i64 a5] w fun e w' => e = .returned (.bool true) ∧ Below w.heap.size w w' := by
  have HA := Lib.hid (fun wx => awake_any wx)
  have hmx := w0
  have h3 := bounds_i64 w3
  have h4 := bounds_i64 w4
  have h5 := bounds_i64 w5
  simp only [maxLen] at hmx
  have hl1 : len1 ≤ 9223372036854775807 := by rcases w1 with ⟨_, h, _⟩ | ⟨_, _, h1, h2, _⟩ <;> (simp only [maxLen] at *; omega)
  have hl2 : len2 ≤ 9223372036854775807 := by rcases w2 with ⟨_, h, _⟩ | ⟨_, _, h1, h2, _⟩ <;> (simp only [maxLen] at *; omega)
  by_cases hbig : 400 < a0.size ∨ 20 < len1 ∨ 20 < len2
  · rcases (show 400 < a0.size ∨ (a0.size ≤ 400 ∧ 20 < len1) ∨ (a0.size ≤ 400 ∧ len1 ≤ 20 ∧ 20 < len2) by omega) with h | ⟨h, h'⟩ | ⟨h, h', h''⟩
    all_goals
      clear hbig w1 w2
      go_enter Try.func3, Try.ntmps3
      go_wp2_with (go_at_call 7; refine (HA.out _).mono ?_; rintro e9 v9 ⟨rfl, H9⟩)
      go_ret
      exact ⟨rfl, H9.out⟩
  have hs0 : a0.size ≤ 400 := by omega
  have hn1 : len1 ≤ 20 := by omega
  have hn2 : len2 ≤ 20 := by omega
  clear hbig
  obtain ⟨N1, e1⟩ := nums_row hn1 w1
  obtain ⟨N2, e2⟩ := nums_row hn2 w2
  generalize z1.take len1 = u1 at *
  generalize z2.take len2 = u2 at *
  have HN1 := Lib.hid N1
  have HN2 := Lib.hid N2
  clear N1 N2 w1 w2 w3 w4 w5
  have HN := Lib.hid (nodes_safe a0 w (by omega))
  go_enter Try.func3, Try.ntmps3
  go_upto_region 4 with (go_at_call 8; refine (HN.out).mono ?_; clear HN; rintro y wn ⟨lv, l, rfl, kn, hl, hd⟩; have KN := Lib.hid kn; have HL := Lib.hid hl; have HD := Lib.hid hd; clear kn hl hd)
  obtain ⟨la, lc, hlv⟩ := HL.out.form
  have hll := HL.out.1
  subst hlv
  have HB1 := Lib.hid (both_any wn _ u1 (nums_kept HN1.out KN.out))
  go_upto_region 5 with (go_at_call 9; refine (HB1.out).mono ?_; rintro y v1 ⟨pm, pr, rfl, H1⟩)
  clear HB1
  have K1 := Lib.hid (KN.out.trans H1.out.keep0)
  have HB2 := Lib.hid (both_any v1 _ u2 (nums_kept HN2.out K1.out))
  go_upto_region 6 with (go_at_call 9; refine (HB2.out).mono ?_; rintro y v2 ⟨pm2, pr2, rfl, H2⟩)
  clear HB2
  obtain ⟨tt, htt⟩ : ∃ tt, wrap64 (1 + (wrap64 (a4.tmod 6 + 6)).tmod 6) = tt := ⟨_, rfl⟩
  go_upto_region 9 with (go_at_call 10; refine (names_any _).mono ?_; rintro y v4 ⟨rfl, rfl⟩)
  try rw [htt]
  obtain ⟨x0, x1, x2, kW⟩ := three_blocks v2 (.cells namesC 63) (.cells namesC 63) (.cells #[.pointer (some ⟨pm, 0, none⟩), .slice (some ⟨v2.heap.size, 0, none⟩) 4 4, .pointer (some ⟨pm2, 0, none⟩), .slice (some ⟨v2.heap.size + 1, 0, none⟩) 4 4, .int .i64 a3, .int .i64 tt] 33)
  generalize (((v2.alloc (.cells namesC 63)).alloc (.cells namesC 63)).alloc (.cells #[.pointer (some ⟨pm, 0, none⟩), .slice (some ⟨v2.heap.size, 0, none⟩) 4 4, .pointer (some ⟨pm2, 0, none⟩), .slice (some ⟨v2.heap.size + 1, 0, none⟩) 4 4, .int .i64 a3, .int .i64 tt] 33)) = W at *
  rw [show v2.heap.size + 2 = v2.heap.size + 1 + 1 from rfl] at x2
  have K2 := Lib.hid (H2.out.keep0.trans kW)
  have KA := Lib.hid kW
  generalize v2.heap.size = nb at *
  have X := Lib.hid (And.intro x0 (And.intro x1 x2))
  clear x0 x1 x2 kW
  go_upto_region 10 with (go_at_call 10; refine (names_any _).mono ?_; rintro y v4 ⟨rfl, rfl⟩)
  try rw [htt]
  obtain ⟨x0, x1, x2, kW⟩ := three_blocks W (.cells namesC 63) (.cells namesC 63) (.cells #[.pointer (some ⟨pr, 0, none⟩), .slice (some ⟨W.heap.size, 0, none⟩) 4 4, .pointer (some ⟨pr2, 0, none⟩), .slice (some ⟨W.heap.size + 1, 0, none⟩) 4 4, .int .i64 a3, .int .i64 tt] 35)
  generalize (((W.alloc (.cells namesC 63)).alloc (.cells namesC 63)).alloc (.cells #[.pointer (some ⟨pr, 0, none⟩), .slice (some ⟨W.heap.size, 0, none⟩) 4 4, .pointer (some ⟨pr2, 0, none⟩), .slice (some ⟨W.heap.size + 1, 0, none⟩) 4 4, .int .i64 a3, .int .i64 tt] 35)) = W2 at *
  rw [show W.heap.size + 2 = W.heap.size + 1 + 1 from rfl] at x2
  generalize W.heap.size = nc at *
  obtain ⟨L1, R1, hL1, hR1, m1, r1⟩ := mems_is H1.out (K2.out.trans kW)
  obtain ⟨L2, R2, hL2, hR2, m2, r2⟩ := mems_is H2.out (KA.out.trans kW)
  have KW := Lib.hid ((K1.out.trans K2.out).trans kW)
  have hsame : Same ⟨some L1, namesL, some L2, namesL, a3, tt⟩ ⟨some R1, namesL, some R2, namesL, a3, tt⟩ := ⟨by simp [hL1, hR1], rfl, by simp [hL2, hR2], rfl, rfl, rfl⟩
  have hE : EnvAt W2 _ _ _ _ ⟨some L1, namesL, some L2, namesL, a3, tt⟩ := ⟨m1, binds_kept (names_at X.out.1) kW, m2, binds_kept (names_at X.out.2.1) kW⟩
  have hR : REnvAt W2 _ _ _ _ ⟨some R1, namesL, some R2, namesL, a3, tt⟩ := ⟨r1, names_at x0, r2, names_at x1, names_sz, names_sz⟩
  have hKL := (H1.out.keep0.trans K2.out).trans kW
  obtain ⟨V, hV⟩ : ∃ V : Int → Ans, ∀ i, valA l ⟨some L1, namesL, some L2, namesL, a3, tt⟩ (i, 0) = V i := ⟨_, fun i => rfl⟩
  have hv : ∀ w', Kept W2 w' → ∀ i : Int, Calls Try.prog 11 #[.slice la l.length lc, .int .i64 i, .agg #[.pointer (some ⟨pm, 0, none⟩), .slice (some ⟨nb, 0, none⟩) 4 4, .pointer (some ⟨pm2, 0, none⟩), .slice (some ⟨nb + 1, 0, none⟩) 4 4, .int .i64 a3, .int .i64 tt]] w' fun x w'' => x = .returned (.tuple #[.int .i64 (V i).v, .int .i64 (V i).t, .int .i64 (V i).ub, .int .i64 (V i).at_]) ∧ Kept w' w'' := fun w' hk i => by
    have := Value_any (HL.out.kept (hKL.trans hk)) (hE.kept hk) HD.out i
    rw [hV] at this
    exact this
  have hr : ∀ w', Kept W2 w' → ∀ i : Int, Calls Try.prog 12 #[.slice la l.length lc, .int .i64 i, .agg #[.pointer (some ⟨pr, 0, none⟩), .slice (some ⟨nc, 0, none⟩) 4 4, .pointer (some ⟨pr2, 0, none⟩), .slice (some ⟨nc + 1, 0, none⟩) 4 4, .int .i64 a3, .int .i64 tt]] w' fun x w'' => x = .returned (.tuple #[.int .i64 (V i).v, .int .i64 (V i).t, .int .i64 (V i).ub, .int .i64 (V i).at_]) ∧ Kept w' w'' := fun w' hk i => by
    have := rValue_any (HL.out.kept (hKL.trans hk)) HD.out (hR.kept hk) i
    rw [← valA_same hsame, hV] at this
    exact this
  have HV := Lib.hid hv
  have HR := Lib.hid hr
  have HF := Lib.hid (fun w' (hk : Kept W2 w') => (And.intro (bx_cell (kh (kh X.out.2.2 kW) hk) 0 _ rfl) (And.intro (bx_cell (kh (kh X.out.2.2 kW) hk) 1 _ rfl) (And.intro (bx_cell (kh (kh X.out.2.2 kW) hk) 2 _ rfl) (And.intro (bx_cell (kh (kh X.out.2.2 kW) hk) 3 _ rfl) (And.intro (bx_cell (kh (kh X.out.2.2 kW) hk) 4 _ rfl) (bx_cell (kh (kh X.out.2.2 kW) hk) 5 _ rfl)))))))
  have HG := Lib.hid (fun w' (hk : Kept W2 w') => (And.intro (bx_cell (kh x2 hk) 0 _ rfl) (And.intro (bx_cell (kh x2 hk) 1 _ rfl) (And.intro (bx_cell (kh x2 hk) 2 _ rfl) (And.intro (bx_cell (kh x2 hk) 3 _ rfl) (And.intro (bx_cell (kh x2 hk) 4 _ rfl) (bx_cell (kh x2 hk) 5 _ rfl)))))))
  clear x0 x1 x2 kW hL1 hR1 m1 r1 hL2 hR2 m2 r2 hsame hE hR hKL hV hv hr H1 H2 K1 K2 KA X HN1 HN2 htt
  go_wp2
  go_loopg [22] (l.length + 2) (fun k v wx => ∃ j : Nat, j ≤ l.length + 2 ∧ v = .int .i64 ((j : Int) - 1) ∧ k = l.length + 2 - j ∧ Hid (Kept W2 wx))
  case atStart => exact ⟨0, by omega, rfl, by omega, Lib.hid (Kept.refl _)⟩
  case round =>
    obtain ⟨j, hj, rfl, hk, KX⟩ := hrel
    obtain ⟨c0, c1, c2, c3, c4, c5⟩ := HF.out _ KX.out
    by_cases hlt : j < l.length + 2
    · have hc : ((j : Int) - 1 ≤ (l.length : Int)) := by omega
      go_upto_region 14 with (go_at_call 11; refine (HV.out _ KX.out _).mono ?_; rintro y w8 ⟨rfl, k8⟩; have K8 := Lib.hid (KX.out.trans k8); clear k8)
      clear c0 c1 c2 c3 c4 c5
      obtain ⟨d0, d1, d2, d3, d4, d5⟩ := HG.out _ K8.out
      go_wp2_with (go_at_call 12; refine (HR.out _ K8.out _).mono ?_; rintro y w9 ⟨rfl, k9⟩; have K9 := Lib.hid (K8.out.trans k9); clear k9)
      go_roundg (l.length + 2 - (j + 1))
      case measure => omega
      case rel => exact ⟨j + 1, by omega, by congr 1; omega, rfl, K9⟩
    · have hc : ¬ ((j : Int) - 1 ≤ (l.length : Int)) := by omega
      go_upto_region 18 with (go_at_call 11; refine (HV.out _ KX.out _).mono ?_; rintro y w8 ⟨rfl, k8⟩; have K8 := Lib.hid (KX.out.trans k8); clear k8)
      clear c0 c1 c2 c3 c4 c5
      obtain ⟨d0, d1, d2, d3, d4, d5⟩ := HG.out _ K8.out
      go_upto_region 19 with (go_at_call 12; refine (HR.out _ K8.out _).mono ?_; rintro y w9 ⟨rfl, k9⟩; have K9 := Lib.hid (K8.out.trans k9); clear k9)
      go_wp2_with (go_at_call 7; refine (HA.out _).mono ?_; rintro e9 v9 ⟨rfl, H9⟩)
      go_ret
      exact ⟨rfl, KW.out.trans (K9.out.trans H9.out)⟩

set_option maxRecDepth 100000 in
theorem lifted (os : Os) (started : os.Started) (H : Type) (enc : TypeId × Value → H) :
    ReturnsInHanded {} Try.checked os 3 .any (Rows.evalAllSpec.pre6 enc Try.prog Try.f3 Rows.evalAllRow.domain false) (Rows.evalAllSpec.post enc Try.prog Try.f3 false true false false) := by
  refine returnsInHanded_of_change (C := Try.checked) own started (by kernel_rfl) Try.func3
    (ChangeSpec.witness6 (enc := enc) (C := Try.checked) false ⟨#[], #[.string ByteArray.empty, .slice none 0 0, .slice none 0 0, .int .i64 0, .int .i64 0, .int .i64 0], []⟩ 8 (by kernel_rfl) (by kernel_rfl) (by kernel_rfl) (by kernel_rfl)) ?_
  intro W base args ds gs before hval0 hW hcnd _
  have hval : ∀ (j : Nat) t v, Try.f3.params[j]? = some t → args[j]? = some v → Value.okWide Try.prog W .any base t v := hval0
  have hW' := hW
  obtain ⟨p, q, hA0, hV, rfl, hfz, hnd⟩ := hW
  have hA : DataW.TrodAll enc Try.prog W 0 (fun _ => true) true Try.f3.params.toList args.toList ds p := hA0
  rw [Try.params3] at hA hval
  obtain ⟨v0, vs0, d0, ds0, p0, q0, hargs, rfl, rfl, h0, r0⟩ := trodAll_cons hA
  obtain ⟨v1, vs1, d1, ds1, p1, q1, rfl, rfl, rfl, h1, r1⟩ := trodAll_cons r0
  obtain ⟨v2, vs2, d2, ds2, p2, q2, rfl, rfl, rfl, h2, r2⟩ := trodAll_cons r1
  obtain ⟨v3, vs3, d3, ds3, p3, q3, rfl, rfl, rfl, h3, r3⟩ := trodAll_cons r2
  obtain ⟨v4, vs4, d4, ds4, p4, q4, rfl, rfl, rfl, h4, r4⟩ := trodAll_cons r3
  obtain ⟨v5, vs5, d5, ds5, p5, q5, rfl, rfl, rfl, h5, r5⟩ := trodAll_cons r4
  obtain ⟨rfl, rfl, rfl⟩ := trodAll_nil r5
  obtain rfl : args = #[v0, v1, v2, v3, v4, v5] := by cases args; simp_all
  obtain ⟨rfl, rfl⟩ := trodVars_none hV
  obtain ⟨a0, rfl, rfl, rfl, w0⟩ := open_string Try.underlying9 (hval 0 9 v0 rfl rfl) h0
  obtain ⟨a1, len1, cap1, rfl⟩ := okWide_slice Try.underlying22 (hval 1 22 v1 rfl rfl)
  have k1 := h1
  have lt1 : ∀ x ∈ p1, x.block < W.heap.size := by obtain ⟨m, hm⟩ := k1; exact DataW.trod_lt m _ _ _ hm
  obtain ⟨z1, w1⟩ : ∃ zs, IsRow .i64 W a1 len1 cap1 zs := by
    obtain ⟨fuel, hf⟩ := h1
    rcases open_ints Try.underlying22 Try.underlying3 (by kernel_rfl) hf with ⟨hcs, _⟩ | ⟨x, l, c, zs, hcs, _, hl, hm, hz, _, hcell, hwz⟩
    · simp [Value.cells] at hcs
      obtain ⟨rfl, rfl, rfl⟩ := hcs
      exact ⟨[], .inl ⟨rfl, rfl, rfl, rfl⟩⟩
    · simp [Value.cells] at hcs
      obtain ⟨rfl, rfl, rfl⟩ := hcs
      exact ⟨zs, .inr ⟨_, rfl, hl, hm, by simpa using hz, hcell, hwz⟩⟩
  obtain ⟨a2, len2, cap2, rfl⟩ := okWide_slice Try.underlying22 (hval 2 22 v2 rfl rfl)
  have k2 := h2
  have lt2 : ∀ x ∈ p2, x.block < W.heap.size := by obtain ⟨m, hm⟩ := k2; exact DataW.trod_lt m _ _ _ hm
  obtain ⟨z2, w2⟩ : ∃ zs, IsRow .i64 W a2 len2 cap2 zs := by
    obtain ⟨fuel, hf⟩ := h2
    rcases open_ints Try.underlying22 Try.underlying3 (by kernel_rfl) hf with ⟨hcs, _⟩ | ⟨x, l, c, zs, hcs, _, hl, hm, hz, _, hcell, hwz⟩
    · simp [Value.cells] at hcs
      obtain ⟨rfl, rfl, rfl⟩ := hcs
      exact ⟨[], .inl ⟨rfl, rfl, rfl, rfl⟩⟩
    · simp [Value.cells] at hcs
      obtain ⟨rfl, rfl, rfl⟩ := hcs
      exact ⟨zs, .inr ⟨_, rfl, hl, hm, by simpa using hz, hcell, hwz⟩⟩
  obtain ⟨a3, rfl, rfl, rfl, w3⟩ := open_int Try.underlying3 (hval 3 3 v3 rfl rfl) h3
  obtain ⟨a4, rfl, rfl, rfl, w4⟩ := open_int Try.underlying3 (hval 4 3 v4 rfl rfl) h4
  obtain ⟨a5, rfl, rfl, rfl, w5⟩ := open_int Try.underlying3 (hval 5 3 v5 rfl rfl) h5
  clear hA0 hval0
  refine (walk a0 a1 len1 cap1 z1 a2 len2 cap2 z2 a3 a4 a5 W w0 w1 w2 w3 w4 w5).mono fun e W' ⟨he, bel⟩ => ?_
  subst he
  exact ⟨_, rfl, _, _, _, [], _, [], hW', trodAll_mk1 (shut_bool Try.underlying4 _), (trodAll_cons_mk (shut_string Try.underlying9 w0) (trodAll_cons_mk (Below.trod laidOut (by kernel_rfl) (of_decide_eq_true (by kernel_rfl)) k1 bel lt1) (trodAll_cons_mk (Below.trod laidOut (by kernel_rfl) (of_decide_eq_true (by kernel_rfl)) k2 bel lt2) (trodAll_cons_mk (shut_int Try.underlying3 w3) (trodAll_cons_mk (shut_int Try.underlying3 w4) (trodAll_cons_mk (shut_int Try.underlying3 w5) trodAll_mk0)))))), rfl, bel.frame _, fun h => by cases h⟩

theorem over : Rows.evalAllRow.holds Try.pinned (OpenSpec.ofChange Rows.evalAllSpec) :=
  OpenClaim.holds_of_wide 3 Try.f3 rfl rfl rfl rfl rfl rfl rfl ⟨rfl, rfl, rfl, rfl, rfl⟩ rfl rfl rfl rfl rfl (by kernel_rfl) Try.func3 (by kernel_rfl)
    (of_decide_eq_true (by kernel_rfl)) (by unfold Func.isWrapper; first | (rw [if_pos (by decide +kernel)]; kernel_rfl) | (rw [if_neg (by decide +kernel)]; exact ⟨rfl, rfl⟩))
    (fun os started H enc _ => lifted os started H enc)

/-- The statement. -/
theorem proved : Rows.EvalAllSaid := over
#print axioms proved
end Go.Proofs.Ytnlkcjbnmkpnhaa.evalAll
