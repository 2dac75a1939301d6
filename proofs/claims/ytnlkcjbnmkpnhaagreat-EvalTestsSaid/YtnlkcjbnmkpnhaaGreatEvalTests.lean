/-
  Statements of layer 8 of any text: numbers that came in; what a node has does not hang on where memories stand; both memories beside each other.
  The document's answer for layer 8: Rel, and Test: what the condition at a place has (tstA), of any list whose kids stand ahead.
  Proved: the statement 'EvalTestsSaid' of the seat: for every input that law returns true, and each argument reads afterwards as it read before. No condition of ours.
  The frame follows the guide's shell; the walk and the contracts that it uses are ours.
-/
import Derived.Test.YtnlkcjbnmkpnhaaGreatEvTop
import Derived.Test.YtnlkcjbnmkpnhaaGreatRvAll
import Derived.Test.YtnlkcjbnmkpnhaaGreatRows
import Derived.WalkKit
import Derived.ProofKit
import Derived.OpenShut
import Derived.Test.YtnlkcjbnmkpnhaaGreatBase
import Derived.Test.YtnlkcjbnmkpnhaaGreatSrdAll
import Derived.Deep.CutBlock
import Derived.Deep.CutRange
import Derived.Deep.RegionHeld3
import Derived.Deep.LoopGhost
import Derived.ShutString
import Derived.ChangeOld
import Derived.Below
namespace Go.Proofs.YtnlkcjbnmkpnhaaGreat.Evl
open Go.RowKit
open Prs (Ex Cn)
open Fnd
open Mem (Bk MemAt St Two tv getT getV getV_tv)
open Lex (lst)
open Typ (wrapF)

theorem nums_row {w : World} {a : Option Addr} {n cap : Nat} {zs : List Int} (hn : n ≤ 20) (h : (a = none ∧ n = 0 ∧ cap = 0 ∧ zs = []) ∨ ∃ x, a = some x ∧ n ≤ cap ∧ cap ≤ maxLen ∧ zs.length = cap ∧ (∀ i, i < zs.length → w.cell? (x.add i) = some (.int .i64 (zs.getD i 0))) ∧ ∀ n ∈ zs, (Lit.int .i64 n).wf = true) : NumsAt w (.slice a n cap) (zs.take n) ∧ (zs.take n).length = n := by
  rcases h with ⟨rfl, rfl, rfl, rfl⟩ | ⟨x, rfl, h1, h2, h3, h4, -⟩
  · exact ⟨⟨by simp, .inl ⟨rfl, rfl⟩⟩, rfl⟩
  · have hlen : (zs.take n).length = n := by rw [List.length_take]; omega
    refine ⟨⟨by omega, .inr ⟨x, cap, by rw [hlen], by omega, h2, fun j hj => ?_⟩⟩, hlen⟩
    have hj' : j < zs.length := by omega
    have hc := h4 j hj'
    refine ⟨?_, ?_⟩
    · by_cases hb : (x.add j).block < w.heap.size
      · exact hb
      · exfalso
        have : w.heap[(x.add j).block]? = none := Array.getElem?_eq_none (by omega)
        simp [World.cell?, this] at hc
    · rw [hc]
      simp [List.getD, hj']
theorem nums_kept {w w' : World} {v : Value} {vs : List Int} (h : NumsAt w v vs) (hk : Kept w w') : NumsAt w' v vs := by
  obtain ⟨h0, h1 | ⟨x, c, h1, h2, h3, h4⟩⟩ := h
  · exact ⟨h0, .inl h1⟩
  · refine ⟨h0, .inr ⟨x, c, h1, h2, h3, fun j hj => ?_⟩⟩
    obtain ⟨q1, q2⟩ := h4 j hj
    exact ⟨Nat.lt_of_lt_of_le q1 (Below.size hk), (World.cell?_of_block (Below.block hk _ q1)).trans q2⟩
/-- Two environments that names have the same in. -/
structure Same (E F : Env) : Prop where
  mem : E.mem.map (List.map tv) = F.mem.map (List.map tv)
  binds : E.binds = F.binds
  old : E.old.map (List.map tv) = F.old.map (List.map tv)
  olds : E.olds = F.olds
  res : E.res = F.res
  t : E.t = F.t
theorem Same.past {E F : Env} (h : Same E F) : Same E.past F.past := ⟨h.old, h.olds, h.old, h.olds, h.res, h.t⟩
theorem Same.env {E F : Env} (h : Same E F) (t : Nat) : Same (envT E t) (envT F t) := by
  unfold envT
  split
  · exact h
  · exact h.past
theorem named_same {E F : Env} (h : Same E F) (n : Ex) (i : Int) : namedA n E i = namedA n F i := by
  have hm := h.mem
  have hb := h.binds
  unfold namedA bindF
  cases he : E.mem with
  | none =>
    rw [he] at hm
    cases hf : F.mem with
    | none => rfl
    | some L => rw [hf] at hm; simp at hm
  | some L =>
    rw [he] at hm
    cases hf : F.mem with
    | none => rw [hf] at hm; simp at hm
    | some L' =>
      rw [hf] at hm
      have hL : L.map tv = L'.map tv := by simpa using hm
      rw [hb]
      cases hq : findF F.binds n.name with
      | none => rfl
      | some b =>
        simp only [Option.map_some]
        rw [getV_tv L, getV_tv L, getV_tv L', getV_tv L', hL]
theorem node_same {E F : Env} (h : Same E F) (n : Ex) (a b : Ans) : nodeA n E a b = nodeA n F a b := by
  unfold nodeA
  rw [named_same h, h.res, h.t]
theorem val_same {E F : Env} (h : Same E F) (l : List Ex) : ∀ (f : Nat) (s : Int × Nat), valF l E f s = valF l F f s := by
  intro f
  induction f with
  | zero => intro s; rfl
  | succ f ih =>
    intro s
    rw [val_succ, val_succ]
    split
    · split
      · rename_i x _
        unfold closeA
        rw [node_same (h.env s.2), ih, ih]
      · rfl
    · rfl
theorem valA_same {E F : Env} (h : Same E F) (l : List Ex) (s : Int × Nat) : valA l E s = valA l F s := val_same h l _ s
theorem mems_is {w w' : World} {w0 : World} {pm pr : Nat} {T T' : List Mem.Row} (h : St w0 w pm pr T T') (hk : Kept w w') : ∃ L R, L.map tv = T ∧ R.map tv = T' ∧ MemIs w' (.pointer (some ⟨pm, 0, none⟩)) (some L) ∧ RMemIs w' (.pointer (some ⟨pr, 0, none⟩)) (some R) := by
  obtain ⟨vm, vr, Lm, Lr, hT⟩ := h
  have e := hT
  unfold Two at e
  obtain ⟨e1, e2, e3, e4, e5, e6⟩ := e
  exact ⟨Lm, Lr, e3, by first | exact e5 | exact e4 | exact e6, MemIs.kept (.inr ⟨_, _, _, _, rfl, e2, rfl⟩) hk, RMemIs.kept (.inr ⟨_, _, _, _, rfl, by first | exact e4 | exact e5, rfl⟩) hk⟩
theorem names_sz : ∀ b ∈ namesL, 0 ≤ b.size := by
  intro b hb
  simp only [namesL, List.mem_cons, List.not_mem_nil, or_false] at hb
  rcases hb with rfl | rfl | rfl | rfl <;> simp
end Go.Proofs.YtnlkcjbnmkpnhaaGreat.Evl
namespace Go.Proofs.YtnlkcjbnmkpnhaaGreat.Typ
open Go.RowKit
theorem rrel_any (r a b : Int) (w : World) : Calls Tryz.prog 29 #[.int .i64 r, .int .i64 a, .int .i64 b] w fun e w' => e = .returned (.bool (relF r a b)) ∧ w = w' := by
  rcases eight r with rfl | rfl | rfl | rfl | rfl | rfl | ⟨hn, hh⟩ | ⟨hn, hh⟩
  case' inr.inr.inr.inr.inr.inr.inl =>
    rw [rel_none hn]
    obtain ⟨h1, h2, h3, h4, h5, h6⟩ := hn
  case' inr.inr.inr.inr.inr.inr.inr =>
    rw [rel_none hn]
    obtain ⟨h1, h2, h3, h4, h5, h6⟩ := hn
  all_goals
    go_enter Tryz.func29, Tryz.ntmps29
    go_wp2
    go_ret
    exact ⟨rfl, rfl⟩

end Go.Proofs.YtnlkcjbnmkpnhaaGreat.Typ
namespace Go.Proofs.YtnlkcjbnmkpnhaaGreat.Evl
open Go.RowKit
open Prs (Ex Cn)
open Fnd (bx_cell bx_froz)
open Typ (wrapF relF)

/-- What cannot be told does not hold. -/
theorem cls_ub {c : Cn} {E : Env} {a b : Fi} (ha : a.ub ≠ 0 → a.is = false) (hb : b.ub ≠ 0 → b.is = false) (h : (clsA c E a b).ub ≠ 0) : (clsA c E a b).is = false := by
  unfold clsA at h ⊢
  by_cases h1 : c.kind = 1
  · rw [if_pos h1] at h ⊢
    rw [relA_eq] at h ⊢
    unfold relV at h ⊢
    by_cases h2 : (wholeA c.x E).ub ≠ 0
    · rw [if_pos h2]
    · rw [if_neg h2] at h ⊢
      by_cases h3 : (wholeA c.y E).ub ≠ 0
      · rw [if_pos h3]
      · rw [if_neg h3] at h; exact absurd rfl h
  rw [if_neg h1] at h ⊢
  by_cases h2 : twoC c.kind
  · rw [if_pos h2] at h ⊢
    by_cases h3 : undA c a = true
    · rw [if_pos h3] at h ⊢; exact hb h
    · rw [if_neg h3] at h ⊢; exact ha h
  rw [if_neg h2] at h ⊢
  by_cases h3 : c.kind = 2
  · rw [if_pos h3] at h ⊢
    simp only at h ⊢
    rw [decide_eq_false h]; rfl
  · rw [if_neg h3]; rfl
theorem tstF_ub (l : List Cn) (E : Env) : ∀ (f : Nat) (s : Int), (tstF l E f s).ub ≠ 0 → (tstF l E f s).is = false := by
  intro f
  induction f with
  | zero => intro s h; exact absurd rfl h
  | succ f ih =>
    intro s
    unfold tstF
    split
    · split
      · refine cls_ub ?_ ?_
        · split
          · exact ih _
          · intro h; exact absurd rfl h
        · split
          · exact ih _
          · intro h; exact absurd rfl h
      · intro h; exact absurd rfl h
    · intro h; exact absurd rfl h
theorem tstA_ub (l : List Cn) (E : Env) (s : Int) (h : (tstA l E s).ub ≠ 0) : (tstA l E s).is = false := tstF_ub l E _ s h
def fiT (F : Fi) : Value := .tuple #[.bool F.is, .int .i64 F.ub, .int .i64 F.at_]
/-- What a call for a place tells. -/
def TestCalls (w : World) (cv mv bv ov obv : Value) (E : Env) (a : Int) (F : Fi) : Prop :=
  ∀ w1, Kept w w1 → Calls Tryz.prog 9 #[cv, .int .i64 a, envVal mv bv ov obv E] w1 fun e w' => e = .returned (fiT F) ∧ Kept w1 w'
set_option maxRecDepth 100000 in
set_option maxHeartbeats 4000000 in
theorem rt_rel {w : World} {cv mv bv ov obv : Value} {l : List Cn} {i : Nat} {E : Env} (hL : CondsAt w cv l) (hi : i < l.length) (hE : REnvAt w mv bv ov obv E) (hk : l[i].kind = 1) (hdx : Down l[i].x) (hdy : Down l[i].y) :
    Calls Tryz.prog 9 #[cv, .int .i64 (i : Int), envVal mv bv ov obv E] w fun e w' => e = .returned (fiT (relA l[i] E)) ∧ Kept w w' := by
  obtain ⟨b, cap, xa, xc, ya, yc, hcv, hcap, hmax, -, hx, hy, hcell⟩ := hL.cells hi
  simp only [maxLen] at hmax
  have hnx := hx.1
  have hny := hy.1
  obtain ⟨m, hm⟩ := hE.mem.form
  obtain ⟨o, ho⟩ := hE.old.form
  obtain ⟨ba, bl, bc, hb⟩ := binds_form hE.binds
  obtain ⟨oa, ol, oc, hob⟩ := binds_form hE.olds
  subst hcv hm ho hb hob
  have HC := Lib.hid hcell
  have hn := hL.1
  clear hcell hL
  have HX := Lib.hid (fun w1 (hk' : Kept w w1) => rvalue_any (hx.kept hk') hdx (hE.kept hk') ((l[i].x.length : Int) - 1))
  have HY := Lib.hid (fun w1 (hk' : Kept w w1) => rvalue_any (hy.kept hk') hdy (hE.kept hk') ((l[i].y.length : Int) - 1))
  rw [relA_eq]
  unfold wholeA
  generalize hvx : valA l[i].x E ((l[i].x.length : Int) - 1, 0) = vx at *
  generalize hvy : valA l[i].y E ((l[i].y.length : Int) - 1, 0) = vy at *
  clear hvx hvy hx hy hE hdx hdy
  have hK : (l[i].kind : Int) = 1 := by omega
  rw [hK] at HC
  clear hK hk
  generalize l[i] = x at *
  unfold envVal ansVal at *
  unfold relV fiT
  have hwx : -9223372036854775808 ≤ (x.x.length : Int) - 1 ∧ (x.x.length : Int) - 1 ≤ 9223372036854775807 := by omega
  have hwy : -9223372036854775808 ≤ (x.y.length : Int) - 1 ∧ (x.y.length : Int) - 1 ≤ 9223372036854775807 := by omega
  rcases (show vx.ub ≠ 0 ∨ (vx.ub = 0 ∧ vy.ub ≠ 0) ∨ (vx.ub = 0 ∧ vy.ub = 0) by omega) with hu | ⟨hu, hu2⟩ | ⟨hu, hu2⟩
  · rw [if_pos hu]; have hub : (vx.ub != 0) = true := (by simpa using hu)
    clear hu
    try simp only
    go_enter Tryz.func9, Tryz.ntmps9
    go_upto_region 1 with fail
    have x0 := World.alloc_heap_new w (.cells #[.pointer m, .slice ba bl bc, .pointer o, .slice oa ol oc, .int .i64 E.res, .int .i64 E.t] 39)
    have kV := (Kept.refl w).alloc (.cells #[.pointer m, .slice ba bl bc, .pointer o, .slice oa ol oc, .int .i64 E.res, .int .i64 E.t] 39)
    have hvs : (w.alloc (.cells #[.pointer m, .slice ba bl bc, .pointer o, .slice oa ol oc, .int .i64 E.res, .int .i64 E.t] 39)).heap.size = w.heap.size + 1 := by simp
    generalize w.alloc (.cells #[.pointer m, .slice ba bl bc, .pointer o, .slice oa ol oc, .int .i64 E.res, .int .i64 E.t] 39) = V at *
    obtain ⟨y0, y1, y2, y3, y4, y5, y6⟩ := HC.out _ kV
    go_upto_region 4 with fail
    have z0 := World.alloc_heap_new V (.cells #[.int .i64 1, .int .i64 x.rel, .slice xa x.x.length xc, .slice ya x.y.length yc, .int .i64 x.a, .int .i64 x.b, .int .i64 x.place] 74)
    have kx := (Kept.refl V).alloc (.cells #[.int .i64 1, .int .i64 x.rel, .slice xa x.x.length xc, .slice ya x.y.length yc, .int .i64 x.a, .int .i64 x.b, .int .i64 x.place] 74)
    rw [hvs] at z0
    have Y := Lib.hid (And.intro (kh x0 kx) z0)
    have KW := Lib.hid (kV.trans kx)
    generalize V.alloc (.cells #[.int .i64 1, .int .i64 x.rel, .slice xa x.x.length xc, .slice ya x.y.length yc, .int .i64 x.a, .int .i64 x.b, .int .i64 x.place] 74) = W at *
    try rw [hvs]
    generalize w.heap.size = ne at *
    clear y0 y1 y2 y3 y4 y5 y6 x0 z0 kV kx hvs
    have e0 := bx_cell Y.out.1 0 _ rfl
    have e1 := bx_cell Y.out.1 1 _ rfl
    have e2 := bx_cell Y.out.1 2 _ rfl
    have e3 := bx_cell Y.out.1 3 _ rfl
    have e4 := bx_cell Y.out.1 4 _ rfl
    have e5 := bx_cell Y.out.1 5 _ rfl
    have n0 := bx_cell Y.out.2 0 _ rfl
    have n1 := bx_cell Y.out.2 1 _ rfl
    have n2 := bx_cell Y.out.2 2 _ rfl
    have n3 := bx_cell Y.out.2 3 _ rfl
    have n4 := bx_cell Y.out.2 4 _ rfl
    have n5 := bx_cell Y.out.2 5 _ rfl
    go_upto_region 7 with (go_at_call 27; refine (HX.out _ KW.out).mono ?_; rintro e w5 ⟨rfl, k5⟩; have K5 := Lib.hid k5; clear k5)
    have s1 := new4 (w := w5) #[.int .i64 vx.v, .int .i64 vx.t, .int .i64 vx.ub, .int .i64 vx.at_] 76 K5.out
    generalize w5.alloc (.cells #[.int .i64 vx.v, .int .i64 vx.t, .int .i64 vx.ub, .int .i64 vx.at_] 76) = W6 at *
    generalize w5.heap.size = c at *
    have Z := Lib.hid s1
    clear e0 e1 e2 e3 e4 e5 n0 n1 n2 n3 n4 n5 s1
    have g0 := bx_cell Z.out.1 0 _ rfl
    have g1 := bx_cell Z.out.1 1 _ rfl
    have g2 := bx_cell Z.out.1 2 _ rfl
    have g3 := bx_cell Z.out.1 3 _ rfl
    have K6 := Lib.hid Z.out.2
    have e0 := bx_cell (kh Y.out.1 K6.out) 0 _ rfl
    have e1 := bx_cell (kh Y.out.1 K6.out) 1 _ rfl
    have e2 := bx_cell (kh Y.out.1 K6.out) 2 _ rfl
    have e3 := bx_cell (kh Y.out.1 K6.out) 3 _ rfl
    have e4 := bx_cell (kh Y.out.1 K6.out) 4 _ rfl
    have e5 := bx_cell (kh Y.out.1 K6.out) 5 _ rfl
    have n1 := bx_cell (kh Y.out.2 K6.out) 1 _ rfl
    have n3 := bx_cell (kh Y.out.2 K6.out) 3 _ rfl
    have n5 := bx_cell (kh Y.out.2 K6.out) 5 _ rfl
    go_upto_region 8 with fail
    go_region
    go_wp2
    go_ret3
    exact ⟨rfl, (KW.out.trans K6.out).drew⟩
  · rw [if_neg (by omega), if_pos hu2]; have hub : (vx.ub != 0) = false := (by simpa using hu); have hub2 : (vy.ub != 0) = true := (by simpa using hu2); clear hu2
    clear hu
    try simp only
    go_enter Tryz.func9, Tryz.ntmps9
    go_upto_region 1 with fail
    have x0 := World.alloc_heap_new w (.cells #[.pointer m, .slice ba bl bc, .pointer o, .slice oa ol oc, .int .i64 E.res, .int .i64 E.t] 39)
    have kV := (Kept.refl w).alloc (.cells #[.pointer m, .slice ba bl bc, .pointer o, .slice oa ol oc, .int .i64 E.res, .int .i64 E.t] 39)
    have hvs : (w.alloc (.cells #[.pointer m, .slice ba bl bc, .pointer o, .slice oa ol oc, .int .i64 E.res, .int .i64 E.t] 39)).heap.size = w.heap.size + 1 := by simp
    generalize w.alloc (.cells #[.pointer m, .slice ba bl bc, .pointer o, .slice oa ol oc, .int .i64 E.res, .int .i64 E.t] 39) = V at *
    obtain ⟨y0, y1, y2, y3, y4, y5, y6⟩ := HC.out _ kV
    go_upto_region 4 with fail
    have z0 := World.alloc_heap_new V (.cells #[.int .i64 1, .int .i64 x.rel, .slice xa x.x.length xc, .slice ya x.y.length yc, .int .i64 x.a, .int .i64 x.b, .int .i64 x.place] 74)
    have kx := (Kept.refl V).alloc (.cells #[.int .i64 1, .int .i64 x.rel, .slice xa x.x.length xc, .slice ya x.y.length yc, .int .i64 x.a, .int .i64 x.b, .int .i64 x.place] 74)
    rw [hvs] at z0
    have Y := Lib.hid (And.intro (kh x0 kx) z0)
    have KW := Lib.hid (kV.trans kx)
    generalize V.alloc (.cells #[.int .i64 1, .int .i64 x.rel, .slice xa x.x.length xc, .slice ya x.y.length yc, .int .i64 x.a, .int .i64 x.b, .int .i64 x.place] 74) = W at *
    try rw [hvs]
    generalize w.heap.size = ne at *
    clear y0 y1 y2 y3 y4 y5 y6 x0 z0 kV kx hvs
    have e0 := bx_cell Y.out.1 0 _ rfl
    have e1 := bx_cell Y.out.1 1 _ rfl
    have e2 := bx_cell Y.out.1 2 _ rfl
    have e3 := bx_cell Y.out.1 3 _ rfl
    have e4 := bx_cell Y.out.1 4 _ rfl
    have e5 := bx_cell Y.out.1 5 _ rfl
    have n0 := bx_cell Y.out.2 0 _ rfl
    have n1 := bx_cell Y.out.2 1 _ rfl
    have n2 := bx_cell Y.out.2 2 _ rfl
    have n3 := bx_cell Y.out.2 3 _ rfl
    have n4 := bx_cell Y.out.2 4 _ rfl
    have n5 := bx_cell Y.out.2 5 _ rfl
    go_upto_region 7 with (go_at_call 27; refine (HX.out _ KW.out).mono ?_; rintro e w5 ⟨rfl, k5⟩; have K5 := Lib.hid k5; clear k5)
    have s1 := new4 (w := w5) #[.int .i64 vx.v, .int .i64 vx.t, .int .i64 vx.ub, .int .i64 vx.at_] 76 K5.out
    generalize w5.alloc (.cells #[.int .i64 vx.v, .int .i64 vx.t, .int .i64 vx.ub, .int .i64 vx.at_] 76) = W6 at *
    generalize w5.heap.size = c at *
    have Z := Lib.hid s1
    clear e0 e1 e2 e3 e4 e5 n0 n1 n2 n3 n4 n5 s1
    have g0 := bx_cell Z.out.1 0 _ rfl
    have g1 := bx_cell Z.out.1 1 _ rfl
    have g2 := bx_cell Z.out.1 2 _ rfl
    have g3 := bx_cell Z.out.1 3 _ rfl
    have K6 := Lib.hid Z.out.2
    have e0 := bx_cell (kh Y.out.1 K6.out) 0 _ rfl
    have e1 := bx_cell (kh Y.out.1 K6.out) 1 _ rfl
    have e2 := bx_cell (kh Y.out.1 K6.out) 2 _ rfl
    have e3 := bx_cell (kh Y.out.1 K6.out) 3 _ rfl
    have e4 := bx_cell (kh Y.out.1 K6.out) 4 _ rfl
    have e5 := bx_cell (kh Y.out.1 K6.out) 5 _ rfl
    have n1 := bx_cell (kh Y.out.2 K6.out) 1 _ rfl
    have n3 := bx_cell (kh Y.out.2 K6.out) 3 _ rfl
    have n5 := bx_cell (kh Y.out.2 K6.out) 5 _ rfl
    go_upto_region 10 with (go_at_call 27; refine (HY.out _ (KW.out.trans K6.out)).mono ?_; rintro e w7 ⟨rfl, k7⟩; have K7 := Lib.hid k7; clear k7)
    have s2 := new4 (w := w7) #[.int .i64 vy.v, .int .i64 vy.t, .int .i64 vy.ub, .int .i64 vy.at_] 76 K7.out
    generalize w7.alloc (.cells #[.int .i64 vy.v, .int .i64 vy.t, .int .i64 vy.ub, .int .i64 vy.at_] 76) = W8 at *
    generalize w7.heap.size = d at *
    clear e0 e1 e2 e3 e4 e5 n1 n3 n5 g0 g1 g2 g3
    have S2 := Lib.hid s2
    clear s2
    have g0 := bx_cell (kh Z.out.1 S2.out.2) 0 _ rfl
    have g1 := bx_cell (kh Z.out.1 S2.out.2) 1 _ rfl
    have h0 := bx_cell S2.out.1 0 _ rfl
    have h1 := bx_cell S2.out.1 1 _ rfl
    have h2 := bx_cell S2.out.1 2 _ rfl
    have h3 := bx_cell S2.out.1 3 _ rfl
    have K8 := Lib.hid (K6.out.trans S2.out.2)
    have n1 := bx_cell (kh Y.out.2 K8.out) 1 _ rfl
    go_upto_region 11 with fail
    go_region
    go_wp2
    go_ret3
    exact ⟨rfl, (KW.out.trans K8.out).drew⟩
  · rw [if_neg (by omega), if_neg (by omega)]; have hub : (vx.ub != 0) = false := (by simpa using hu); have hub2 : (vy.ub != 0) = false := (by simpa using hu2); clear hu2
    clear hu
    try simp only
    go_enter Tryz.func9, Tryz.ntmps9
    go_upto_region 1 with fail
    have x0 := World.alloc_heap_new w (.cells #[.pointer m, .slice ba bl bc, .pointer o, .slice oa ol oc, .int .i64 E.res, .int .i64 E.t] 39)
    have kV := (Kept.refl w).alloc (.cells #[.pointer m, .slice ba bl bc, .pointer o, .slice oa ol oc, .int .i64 E.res, .int .i64 E.t] 39)
    have hvs : (w.alloc (.cells #[.pointer m, .slice ba bl bc, .pointer o, .slice oa ol oc, .int .i64 E.res, .int .i64 E.t] 39)).heap.size = w.heap.size + 1 := by simp
    generalize w.alloc (.cells #[.pointer m, .slice ba bl bc, .pointer o, .slice oa ol oc, .int .i64 E.res, .int .i64 E.t] 39) = V at *
    obtain ⟨y0, y1, y2, y3, y4, y5, y6⟩ := HC.out _ kV
    go_upto_region 4 with fail
    have z0 := World.alloc_heap_new V (.cells #[.int .i64 1, .int .i64 x.rel, .slice xa x.x.length xc, .slice ya x.y.length yc, .int .i64 x.a, .int .i64 x.b, .int .i64 x.place] 74)
    have kx := (Kept.refl V).alloc (.cells #[.int .i64 1, .int .i64 x.rel, .slice xa x.x.length xc, .slice ya x.y.length yc, .int .i64 x.a, .int .i64 x.b, .int .i64 x.place] 74)
    rw [hvs] at z0
    have Y := Lib.hid (And.intro (kh x0 kx) z0)
    have KW := Lib.hid (kV.trans kx)
    generalize V.alloc (.cells #[.int .i64 1, .int .i64 x.rel, .slice xa x.x.length xc, .slice ya x.y.length yc, .int .i64 x.a, .int .i64 x.b, .int .i64 x.place] 74) = W at *
    try rw [hvs]
    generalize w.heap.size = ne at *
    clear y0 y1 y2 y3 y4 y5 y6 x0 z0 kV kx hvs
    have e0 := bx_cell Y.out.1 0 _ rfl
    have e1 := bx_cell Y.out.1 1 _ rfl
    have e2 := bx_cell Y.out.1 2 _ rfl
    have e3 := bx_cell Y.out.1 3 _ rfl
    have e4 := bx_cell Y.out.1 4 _ rfl
    have e5 := bx_cell Y.out.1 5 _ rfl
    have n0 := bx_cell Y.out.2 0 _ rfl
    have n1 := bx_cell Y.out.2 1 _ rfl
    have n2 := bx_cell Y.out.2 2 _ rfl
    have n3 := bx_cell Y.out.2 3 _ rfl
    have n4 := bx_cell Y.out.2 4 _ rfl
    have n5 := bx_cell Y.out.2 5 _ rfl
    go_upto_region 7 with (go_at_call 27; refine (HX.out _ KW.out).mono ?_; rintro e w5 ⟨rfl, k5⟩; have K5 := Lib.hid k5; clear k5)
    have s1 := new4 (w := w5) #[.int .i64 vx.v, .int .i64 vx.t, .int .i64 vx.ub, .int .i64 vx.at_] 76 K5.out
    generalize w5.alloc (.cells #[.int .i64 vx.v, .int .i64 vx.t, .int .i64 vx.ub, .int .i64 vx.at_] 76) = W6 at *
    generalize w5.heap.size = c at *
    have Z := Lib.hid s1
    clear e0 e1 e2 e3 e4 e5 n0 n1 n2 n3 n4 n5 s1
    have g0 := bx_cell Z.out.1 0 _ rfl
    have g1 := bx_cell Z.out.1 1 _ rfl
    have g2 := bx_cell Z.out.1 2 _ rfl
    have g3 := bx_cell Z.out.1 3 _ rfl
    have K6 := Lib.hid Z.out.2
    have e0 := bx_cell (kh Y.out.1 K6.out) 0 _ rfl
    have e1 := bx_cell (kh Y.out.1 K6.out) 1 _ rfl
    have e2 := bx_cell (kh Y.out.1 K6.out) 2 _ rfl
    have e3 := bx_cell (kh Y.out.1 K6.out) 3 _ rfl
    have e4 := bx_cell (kh Y.out.1 K6.out) 4 _ rfl
    have e5 := bx_cell (kh Y.out.1 K6.out) 5 _ rfl
    have n1 := bx_cell (kh Y.out.2 K6.out) 1 _ rfl
    have n3 := bx_cell (kh Y.out.2 K6.out) 3 _ rfl
    have n5 := bx_cell (kh Y.out.2 K6.out) 5 _ rfl
    go_upto_region 10 with (go_at_call 27; refine (HY.out _ (KW.out.trans K6.out)).mono ?_; rintro e w7 ⟨rfl, k7⟩; have K7 := Lib.hid k7; clear k7)
    have s2 := new4 (w := w7) #[.int .i64 vy.v, .int .i64 vy.t, .int .i64 vy.ub, .int .i64 vy.at_] 76 K7.out
    generalize w7.alloc (.cells #[.int .i64 vy.v, .int .i64 vy.t, .int .i64 vy.ub, .int .i64 vy.at_] 76) = W8 at *
    generalize w7.heap.size = d at *
    clear e0 e1 e2 e3 e4 e5 n1 n3 n5 g0 g1 g2 g3
    have S2 := Lib.hid s2
    clear s2
    have g0 := bx_cell (kh Z.out.1 S2.out.2) 0 _ rfl
    have g1 := bx_cell (kh Z.out.1 S2.out.2) 1 _ rfl
    have h0 := bx_cell S2.out.1 0 _ rfl
    have h1 := bx_cell S2.out.1 1 _ rfl
    have h2 := bx_cell S2.out.1 2 _ rfl
    have h3 := bx_cell S2.out.1 3 _ rfl
    have K8 := Lib.hid (K6.out.trans S2.out.2)
    have n1 := bx_cell (kh Y.out.2 K8.out) 1 _ rfl
    go_upto_region 13 with (go_at_call 28; refine (mixed_any _ _ _ _).mono ?_; rintro e w9 ⟨rfl, rfl⟩; rw [mix_two (k := 8) (A := vx) (B := vy) (by omega)])
    go_region_held3 (fun w' => w'.cell? ⟨ne + 1, 1, none⟩ = some (.int .i64 x.rel) ∧ w'.cell? ⟨c, 0, none⟩ = some (.int .i64 vx.v) ∧ w'.cell? ⟨d, 0, none⟩ = some (.int .i64 vy.v)) (first | go_keep | exact ⟨n1, g0, h0⟩) (first | (go_at_call 30; refine (Typ.rwrap_any _ _ _).mono ?_; rintro e w9 ⟨rfl, rfl⟩) | (go_at_call 29; refine (Typ.rrel_any _ _ _ _).mono ?_; rintro e w9 ⟨rfl, rfl⟩))
    all_goals
      go_wp2
      go_ret3
      exact ⟨rfl, (KW.out.trans K8.out).drew⟩
set_option maxRecDepth 100000 in
set_option maxHeartbeats 4000000 in
theorem rt_not {w : World} {cv mv bv ov obv : Value} {l : List Cn} {i : Nat} {E : Env} (hL : CondsAt w cv l) (hi : i < l.length) (hE : REnvAt w mv bv ov obv E) (hk : l[i].kind = 2) {X : Fi} (hX : TestCalls w cv mv bv ov obv E l[i].a X) :
    Calls Tryz.prog 9 #[cv, .int .i64 (i : Int), envVal mv bv ov obv E] w fun e w' => e = .returned (fiT (⟨decide (X.ub = 0) && !X.is, X.ub, X.at_⟩)) ∧ Kept w w' := by
  obtain ⟨b, cap, xa, xc, ya, yc, hcv, hcap, hmax, -, hx, hy, hcell⟩ := hL.cells hi
  simp only [maxLen] at hmax
  have hnx := hx.1
  have hny := hy.1
  obtain ⟨m, hm⟩ := hE.mem.form
  obtain ⟨o, ho⟩ := hE.old.form
  obtain ⟨ba, bl, bc, hb⟩ := binds_form hE.binds
  obtain ⟨oa, ol, oc, hob⟩ := binds_form hE.olds
  subst hcv hm ho hb hob
  have HC := Lib.hid hcell
  have hn := hL.1
  clear hcell hL
  have HX := Lib.hid hX
  clear hX
  have hK : (l[i].kind : Int) = 2 := by omega
  rw [hK] at HC
  clear hK hk
  clear hx hy hE hnx hny
  generalize l[i] = x at *
  unfold TestCalls envVal fiT at *
  by_cases hu : X.ub = 0
  case' pos => rw [decide_eq_true hu]; have hub : (X.ub == 0) = true := (by simpa using hu)
  case' neg => rw [decide_eq_false hu]; have hub : (X.ub == 0) = false := (by simpa using hu)
  all_goals
    clear hu
    cases hxi : X.is
  all_goals
    rw [hxi] at HX
    clear hxi
    try simp only
    go_enter Tryz.func9, Tryz.ntmps9
    go_upto_region 1 with fail
    have x0 := World.alloc_heap_new w (.cells #[.pointer m, .slice ba bl bc, .pointer o, .slice oa ol oc, .int .i64 E.res, .int .i64 E.t] 39)
    have kV := (Kept.refl w).alloc (.cells #[.pointer m, .slice ba bl bc, .pointer o, .slice oa ol oc, .int .i64 E.res, .int .i64 E.t] 39)
    have hvs : (w.alloc (.cells #[.pointer m, .slice ba bl bc, .pointer o, .slice oa ol oc, .int .i64 E.res, .int .i64 E.t] 39)).heap.size = w.heap.size + 1 := by simp
    generalize w.alloc (.cells #[.pointer m, .slice ba bl bc, .pointer o, .slice oa ol oc, .int .i64 E.res, .int .i64 E.t] 39) = V at *
    obtain ⟨y0, y1, y2, y3, y4, y5, y6⟩ := HC.out _ kV
    go_upto_region 4 with fail
    have z0 := World.alloc_heap_new V (.cells #[.int .i64 2, .int .i64 x.rel, .slice xa x.x.length xc, .slice ya x.y.length yc, .int .i64 x.a, .int .i64 x.b, .int .i64 x.place] 74)
    have kx := (Kept.refl V).alloc (.cells #[.int .i64 2, .int .i64 x.rel, .slice xa x.x.length xc, .slice ya x.y.length yc, .int .i64 x.a, .int .i64 x.b, .int .i64 x.place] 74)
    rw [hvs] at z0
    have Y := Lib.hid (And.intro (kh x0 kx) z0)
    have KW := Lib.hid (kV.trans kx)
    generalize V.alloc (.cells #[.int .i64 2, .int .i64 x.rel, .slice xa x.x.length xc, .slice ya x.y.length yc, .int .i64 x.a, .int .i64 x.b, .int .i64 x.place] 74) = W at *
    try rw [hvs]
    generalize w.heap.size = ne at *
    clear y0 y1 y2 y3 y4 y5 y6 x0 z0 kV kx hvs
    have e0 := bx_cell Y.out.1 0 _ rfl
    have e1 := bx_cell Y.out.1 1 _ rfl
    have e2 := bx_cell Y.out.1 2 _ rfl
    have e3 := bx_cell Y.out.1 3 _ rfl
    have e4 := bx_cell Y.out.1 4 _ rfl
    have e5 := bx_cell Y.out.1 5 _ rfl
    have n0 := bx_cell Y.out.2 0 _ rfl
    have n1 := bx_cell Y.out.2 1 _ rfl
    have n2 := bx_cell Y.out.2 2 _ rfl
    have n3 := bx_cell Y.out.2 3 _ rfl
    have n4 := bx_cell Y.out.2 4 _ rfl
    have n5 := bx_cell Y.out.2 5 _ rfl
    go_upto_region 16 with (go_at_call 9; refine (HX.out _ (KW.out)).mono ?_; rintro e w5 ⟨rfl, k5⟩; have K5 := Lib.hid k5; clear k5)
    clear e0 e1 e2 e3 e4 e5 n0 n1 n2 n3 n4 n5
    go_wp2
    go_ret3
    exact ⟨rfl, KW.out.trans K5.out⟩
set_option maxRecDepth 100000 in
set_option maxHeartbeats 4000000 in
theorem rt_and {w : World} {cv mv bv ov obv : Value} {l : List Cn} {i : Nat} {E : Env} (hL : CondsAt w cv l) (hi : i < l.length) (hE : REnvAt w mv bv ov obv E) (hk : l[i].kind = 3) {X Y : Fi} (hu : X.ub ≠ 0 → X.is = false) (hX : TestCalls w cv mv bv ov obv E l[i].a X) (hY : TestCalls w cv mv bv ov obv E l[i].b Y) :
    Calls Tryz.prog 9 #[cv, .int .i64 (i : Int), envVal mv bv ov obv E] w fun e w' => e = .returned (fiT (if (decide (X.ub = 0) && (X.is == true)) = true then Y else X)) ∧ Kept w w' := by
  obtain ⟨b, cap, xa, xc, ya, yc, hcv, hcap, hmax, -, hx, hy, hcell⟩ := hL.cells hi
  simp only [maxLen] at hmax
  have hnx := hx.1
  have hny := hy.1
  obtain ⟨m, hm⟩ := hE.mem.form
  obtain ⟨o, ho⟩ := hE.old.form
  obtain ⟨ba, bl, bc, hb⟩ := binds_form hE.binds
  obtain ⟨oa, ol, oc, hob⟩ := binds_form hE.olds
  subst hcv hm ho hb hob
  have HC := Lib.hid hcell
  have hn := hL.1
  clear hcell hL
  have HX := Lib.hid hX
  have HY := Lib.hid hY
  clear hX hY
  have hK : (l[i].kind : Int) = 3 := by omega
  rw [hK] at HC
  clear hK hk
  clear hx hy hE hnx hny
  generalize l[i] = x at *
  unfold TestCalls envVal fiT at *
  rcases (show (X.ub = 0 ∧ X.is = true) ∨ (X.ub ≠ 0 ∧ X.is = false) ∨ (X.ub = 0 ∧ X.is = false) by
    by_cases h : X.ub = 0
    · cases hb : X.is
      · first | exact .inl ⟨h, rfl⟩ | exact .inr (.inr ⟨h, rfl⟩)
      · first | exact .inl ⟨h, rfl⟩ | exact .inr (.inr ⟨h, rfl⟩)
    · exact .inr (.inl ⟨h, hu h⟩)) with ⟨h1, h2⟩ | ⟨h1, h2⟩ | ⟨h1, h2⟩
  · rw [if_pos (by rw [decide_eq_true h1, h2]; rfl)]; have hub : (X.ub != 0) = false := (by simpa using h1); have hub2 : (X.ub == 0) = true := (by simpa using h1)
    rw [h2] at HX
    try rw [h2]
    clear hu h1 h2
    try simp only
    go_enter Tryz.func9, Tryz.ntmps9
    go_upto_region 1 with fail
    have x0 := World.alloc_heap_new w (.cells #[.pointer m, .slice ba bl bc, .pointer o, .slice oa ol oc, .int .i64 E.res, .int .i64 E.t] 39)
    have kV := (Kept.refl w).alloc (.cells #[.pointer m, .slice ba bl bc, .pointer o, .slice oa ol oc, .int .i64 E.res, .int .i64 E.t] 39)
    have hvs : (w.alloc (.cells #[.pointer m, .slice ba bl bc, .pointer o, .slice oa ol oc, .int .i64 E.res, .int .i64 E.t] 39)).heap.size = w.heap.size + 1 := by simp
    generalize w.alloc (.cells #[.pointer m, .slice ba bl bc, .pointer o, .slice oa ol oc, .int .i64 E.res, .int .i64 E.t] 39) = V at *
    obtain ⟨y0, y1, y2, y3, y4, y5, y6⟩ := HC.out _ kV
    go_upto_region 4 with fail
    have z0 := World.alloc_heap_new V (.cells #[.int .i64 3, .int .i64 x.rel, .slice xa x.x.length xc, .slice ya x.y.length yc, .int .i64 x.a, .int .i64 x.b, .int .i64 x.place] 74)
    have kx := (Kept.refl V).alloc (.cells #[.int .i64 3, .int .i64 x.rel, .slice xa x.x.length xc, .slice ya x.y.length yc, .int .i64 x.a, .int .i64 x.b, .int .i64 x.place] 74)
    rw [hvs] at z0
    have Y := Lib.hid (And.intro (kh x0 kx) z0)
    have KW := Lib.hid (kV.trans kx)
    generalize V.alloc (.cells #[.int .i64 3, .int .i64 x.rel, .slice xa x.x.length xc, .slice ya x.y.length yc, .int .i64 x.a, .int .i64 x.b, .int .i64 x.place] 74) = W at *
    try rw [hvs]
    generalize w.heap.size = ne at *
    clear y0 y1 y2 y3 y4 y5 y6 x0 z0 kV kx hvs
    have e0 := bx_cell Y.out.1 0 _ rfl
    have e1 := bx_cell Y.out.1 1 _ rfl
    have e2 := bx_cell Y.out.1 2 _ rfl
    have e3 := bx_cell Y.out.1 3 _ rfl
    have e4 := bx_cell Y.out.1 4 _ rfl
    have e5 := bx_cell Y.out.1 5 _ rfl
    have n0 := bx_cell Y.out.2 0 _ rfl
    have n1 := bx_cell Y.out.2 1 _ rfl
    have n2 := bx_cell Y.out.2 2 _ rfl
    have n3 := bx_cell Y.out.2 3 _ rfl
    have n4 := bx_cell Y.out.2 4 _ rfl
    have n5 := bx_cell Y.out.2 5 _ rfl
    go_upto_region 19 with (go_at_call 9; refine (HX.out _ (KW.out)).mono ?_; rintro e w5 ⟨rfl, k5⟩; have K5 := Lib.hid k5; clear k5)
    clear e0 e1 e2 e3 e4 e5 n0 n1 n2 n3 n4 n5
    have e0 := bx_cell (kh Y.out.1 K5.out) 0 _ rfl
    have e1 := bx_cell (kh Y.out.1 K5.out) 1 _ rfl
    have e2 := bx_cell (kh Y.out.1 K5.out) 2 _ rfl
    have e3 := bx_cell (kh Y.out.1 K5.out) 3 _ rfl
    have e4 := bx_cell (kh Y.out.1 K5.out) 4 _ rfl
    have e5 := bx_cell (kh Y.out.1 K5.out) 5 _ rfl
    have n1 := bx_cell (kh Y.out.2 K5.out) 1 _ rfl
    have n3 := bx_cell (kh Y.out.2 K5.out) 3 _ rfl
    have n5 := bx_cell (kh Y.out.2 K5.out) 5 _ rfl
    go_wp2_with (go_at_call 9; refine (HY.out _ (KW.out.trans K5.out)).mono ?_; rintro e w7 ⟨rfl, k7⟩; have K7 := Lib.hid k7; clear k7)
    go_ret3
    exact ⟨rfl, (KW.out.trans K5.out).trans K7.out⟩
  · rw [if_neg (by rw [decide_eq_false h1]; simp)]; have hub : (X.ub != 0) = true := (by simpa using h1); have hub2 : (X.ub == 0) = false := (by simpa using h1)
    rw [h2] at HX
    try rw [h2]
    clear hu h1 h2
    try simp only
    go_enter Tryz.func9, Tryz.ntmps9
    go_upto_region 1 with fail
    have x0 := World.alloc_heap_new w (.cells #[.pointer m, .slice ba bl bc, .pointer o, .slice oa ol oc, .int .i64 E.res, .int .i64 E.t] 39)
    have kV := (Kept.refl w).alloc (.cells #[.pointer m, .slice ba bl bc, .pointer o, .slice oa ol oc, .int .i64 E.res, .int .i64 E.t] 39)
    have hvs : (w.alloc (.cells #[.pointer m, .slice ba bl bc, .pointer o, .slice oa ol oc, .int .i64 E.res, .int .i64 E.t] 39)).heap.size = w.heap.size + 1 := by simp
    generalize w.alloc (.cells #[.pointer m, .slice ba bl bc, .pointer o, .slice oa ol oc, .int .i64 E.res, .int .i64 E.t] 39) = V at *
    obtain ⟨y0, y1, y2, y3, y4, y5, y6⟩ := HC.out _ kV
    go_upto_region 4 with fail
    have z0 := World.alloc_heap_new V (.cells #[.int .i64 3, .int .i64 x.rel, .slice xa x.x.length xc, .slice ya x.y.length yc, .int .i64 x.a, .int .i64 x.b, .int .i64 x.place] 74)
    have kx := (Kept.refl V).alloc (.cells #[.int .i64 3, .int .i64 x.rel, .slice xa x.x.length xc, .slice ya x.y.length yc, .int .i64 x.a, .int .i64 x.b, .int .i64 x.place] 74)
    rw [hvs] at z0
    have Y := Lib.hid (And.intro (kh x0 kx) z0)
    have KW := Lib.hid (kV.trans kx)
    generalize V.alloc (.cells #[.int .i64 3, .int .i64 x.rel, .slice xa x.x.length xc, .slice ya x.y.length yc, .int .i64 x.a, .int .i64 x.b, .int .i64 x.place] 74) = W at *
    try rw [hvs]
    generalize w.heap.size = ne at *
    clear y0 y1 y2 y3 y4 y5 y6 x0 z0 kV kx hvs
    have e0 := bx_cell Y.out.1 0 _ rfl
    have e1 := bx_cell Y.out.1 1 _ rfl
    have e2 := bx_cell Y.out.1 2 _ rfl
    have e3 := bx_cell Y.out.1 3 _ rfl
    have e4 := bx_cell Y.out.1 4 _ rfl
    have e5 := bx_cell Y.out.1 5 _ rfl
    have n0 := bx_cell Y.out.2 0 _ rfl
    have n1 := bx_cell Y.out.2 1 _ rfl
    have n2 := bx_cell Y.out.2 2 _ rfl
    have n3 := bx_cell Y.out.2 3 _ rfl
    have n4 := bx_cell Y.out.2 4 _ rfl
    have n5 := bx_cell Y.out.2 5 _ rfl
    go_upto_region 19 with (go_at_call 9; refine (HX.out _ (KW.out)).mono ?_; rintro e w5 ⟨rfl, k5⟩; have K5 := Lib.hid k5; clear k5)
    clear e0 e1 e2 e3 e4 e5 n0 n1 n2 n3 n4 n5
    have e0 := bx_cell (kh Y.out.1 K5.out) 0 _ rfl
    have e1 := bx_cell (kh Y.out.1 K5.out) 1 _ rfl
    have e2 := bx_cell (kh Y.out.1 K5.out) 2 _ rfl
    have e3 := bx_cell (kh Y.out.1 K5.out) 3 _ rfl
    have e4 := bx_cell (kh Y.out.1 K5.out) 4 _ rfl
    have e5 := bx_cell (kh Y.out.1 K5.out) 5 _ rfl
    have n1 := bx_cell (kh Y.out.2 K5.out) 1 _ rfl
    have n3 := bx_cell (kh Y.out.2 K5.out) 3 _ rfl
    have n5 := bx_cell (kh Y.out.2 K5.out) 5 _ rfl
    go_wp2
    go_ret3
    exact ⟨rfl, KW.out.trans K5.out⟩
  · rw [if_neg (by rw [h2]; simp)]; have hub : (X.ub != 0) = false := (by simpa using h1); have hub2 : (X.ub == 0) = true := (by simpa using h1)
    rw [h2] at HX
    try rw [h2]
    clear hu h1 h2
    try simp only
    go_enter Tryz.func9, Tryz.ntmps9
    go_upto_region 1 with fail
    have x0 := World.alloc_heap_new w (.cells #[.pointer m, .slice ba bl bc, .pointer o, .slice oa ol oc, .int .i64 E.res, .int .i64 E.t] 39)
    have kV := (Kept.refl w).alloc (.cells #[.pointer m, .slice ba bl bc, .pointer o, .slice oa ol oc, .int .i64 E.res, .int .i64 E.t] 39)
    have hvs : (w.alloc (.cells #[.pointer m, .slice ba bl bc, .pointer o, .slice oa ol oc, .int .i64 E.res, .int .i64 E.t] 39)).heap.size = w.heap.size + 1 := by simp
    generalize w.alloc (.cells #[.pointer m, .slice ba bl bc, .pointer o, .slice oa ol oc, .int .i64 E.res, .int .i64 E.t] 39) = V at *
    obtain ⟨y0, y1, y2, y3, y4, y5, y6⟩ := HC.out _ kV
    go_upto_region 4 with fail
    have z0 := World.alloc_heap_new V (.cells #[.int .i64 3, .int .i64 x.rel, .slice xa x.x.length xc, .slice ya x.y.length yc, .int .i64 x.a, .int .i64 x.b, .int .i64 x.place] 74)
    have kx := (Kept.refl V).alloc (.cells #[.int .i64 3, .int .i64 x.rel, .slice xa x.x.length xc, .slice ya x.y.length yc, .int .i64 x.a, .int .i64 x.b, .int .i64 x.place] 74)
    rw [hvs] at z0
    have Y := Lib.hid (And.intro (kh x0 kx) z0)
    have KW := Lib.hid (kV.trans kx)
    generalize V.alloc (.cells #[.int .i64 3, .int .i64 x.rel, .slice xa x.x.length xc, .slice ya x.y.length yc, .int .i64 x.a, .int .i64 x.b, .int .i64 x.place] 74) = W at *
    try rw [hvs]
    generalize w.heap.size = ne at *
    clear y0 y1 y2 y3 y4 y5 y6 x0 z0 kV kx hvs
    have e0 := bx_cell Y.out.1 0 _ rfl
    have e1 := bx_cell Y.out.1 1 _ rfl
    have e2 := bx_cell Y.out.1 2 _ rfl
    have e3 := bx_cell Y.out.1 3 _ rfl
    have e4 := bx_cell Y.out.1 4 _ rfl
    have e5 := bx_cell Y.out.1 5 _ rfl
    have n0 := bx_cell Y.out.2 0 _ rfl
    have n1 := bx_cell Y.out.2 1 _ rfl
    have n2 := bx_cell Y.out.2 2 _ rfl
    have n3 := bx_cell Y.out.2 3 _ rfl
    have n4 := bx_cell Y.out.2 4 _ rfl
    have n5 := bx_cell Y.out.2 5 _ rfl
    go_upto_region 19 with (go_at_call 9; refine (HX.out _ (KW.out)).mono ?_; rintro e w5 ⟨rfl, k5⟩; have K5 := Lib.hid k5; clear k5)
    clear e0 e1 e2 e3 e4 e5 n0 n1 n2 n3 n4 n5
    have e0 := bx_cell (kh Y.out.1 K5.out) 0 _ rfl
    have e1 := bx_cell (kh Y.out.1 K5.out) 1 _ rfl
    have e2 := bx_cell (kh Y.out.1 K5.out) 2 _ rfl
    have e3 := bx_cell (kh Y.out.1 K5.out) 3 _ rfl
    have e4 := bx_cell (kh Y.out.1 K5.out) 4 _ rfl
    have e5 := bx_cell (kh Y.out.1 K5.out) 5 _ rfl
    have n1 := bx_cell (kh Y.out.2 K5.out) 1 _ rfl
    have n3 := bx_cell (kh Y.out.2 K5.out) 3 _ rfl
    have n5 := bx_cell (kh Y.out.2 K5.out) 5 _ rfl
    go_wp2
    go_ret3
    exact ⟨rfl, KW.out.trans K5.out⟩
set_option maxRecDepth 100000 in
set_option maxHeartbeats 4000000 in
theorem rt_or {w : World} {cv mv bv ov obv : Value} {l : List Cn} {i : Nat} {E : Env} (hL : CondsAt w cv l) (hi : i < l.length) (hE : REnvAt w mv bv ov obv E) (hk : l[i].kind = 4) {X Y : Fi} (hu : X.ub ≠ 0 → X.is = false) (hX : TestCalls w cv mv bv ov obv E l[i].a X) (hY : TestCalls w cv mv bv ov obv E l[i].b Y) :
    Calls Tryz.prog 9 #[cv, .int .i64 (i : Int), envVal mv bv ov obv E] w fun e w' => e = .returned (fiT (if (decide (X.ub = 0) && (X.is == false)) = true then Y else X)) ∧ Kept w w' := by
  obtain ⟨b, cap, xa, xc, ya, yc, hcv, hcap, hmax, -, hx, hy, hcell⟩ := hL.cells hi
  simp only [maxLen] at hmax
  have hnx := hx.1
  have hny := hy.1
  obtain ⟨m, hm⟩ := hE.mem.form
  obtain ⟨o, ho⟩ := hE.old.form
  obtain ⟨ba, bl, bc, hb⟩ := binds_form hE.binds
  obtain ⟨oa, ol, oc, hob⟩ := binds_form hE.olds
  subst hcv hm ho hb hob
  have HC := Lib.hid hcell
  have hn := hL.1
  clear hcell hL
  have HX := Lib.hid hX
  have HY := Lib.hid hY
  clear hX hY
  have hK : (l[i].kind : Int) = 4 := by omega
  rw [hK] at HC
  clear hK hk
  clear hx hy hE hnx hny
  generalize l[i] = x at *
  unfold TestCalls envVal fiT at *
  rcases (show (X.ub = 0 ∧ X.is = false) ∨ (X.ub ≠ 0 ∧ X.is = false) ∨ (X.ub = 0 ∧ X.is = true) by
    by_cases h : X.ub = 0
    · cases hb : X.is
      · first | exact .inl ⟨h, rfl⟩ | exact .inr (.inr ⟨h, rfl⟩)
      · first | exact .inl ⟨h, rfl⟩ | exact .inr (.inr ⟨h, rfl⟩)
    · exact .inr (.inl ⟨h, hu h⟩)) with ⟨h1, h2⟩ | ⟨h1, h2⟩ | ⟨h1, h2⟩
  · rw [if_pos (by rw [decide_eq_true h1, h2]; rfl)]; have hub : (X.ub != 0) = false := (by simpa using h1); have hub2 : (X.ub == 0) = true := (by simpa using h1)
    rw [h2] at HX
    try rw [h2]
    clear hu h1 h2
    try simp only
    go_enter Tryz.func9, Tryz.ntmps9
    go_upto_region 1 with fail
    have x0 := World.alloc_heap_new w (.cells #[.pointer m, .slice ba bl bc, .pointer o, .slice oa ol oc, .int .i64 E.res, .int .i64 E.t] 39)
    have kV := (Kept.refl w).alloc (.cells #[.pointer m, .slice ba bl bc, .pointer o, .slice oa ol oc, .int .i64 E.res, .int .i64 E.t] 39)
    have hvs : (w.alloc (.cells #[.pointer m, .slice ba bl bc, .pointer o, .slice oa ol oc, .int .i64 E.res, .int .i64 E.t] 39)).heap.size = w.heap.size + 1 := by simp
    generalize w.alloc (.cells #[.pointer m, .slice ba bl bc, .pointer o, .slice oa ol oc, .int .i64 E.res, .int .i64 E.t] 39) = V at *
    obtain ⟨y0, y1, y2, y3, y4, y5, y6⟩ := HC.out _ kV
    go_upto_region 4 with fail
    have z0 := World.alloc_heap_new V (.cells #[.int .i64 4, .int .i64 x.rel, .slice xa x.x.length xc, .slice ya x.y.length yc, .int .i64 x.a, .int .i64 x.b, .int .i64 x.place] 74)
    have kx := (Kept.refl V).alloc (.cells #[.int .i64 4, .int .i64 x.rel, .slice xa x.x.length xc, .slice ya x.y.length yc, .int .i64 x.a, .int .i64 x.b, .int .i64 x.place] 74)
    rw [hvs] at z0
    have Y := Lib.hid (And.intro (kh x0 kx) z0)
    have KW := Lib.hid (kV.trans kx)
    generalize V.alloc (.cells #[.int .i64 4, .int .i64 x.rel, .slice xa x.x.length xc, .slice ya x.y.length yc, .int .i64 x.a, .int .i64 x.b, .int .i64 x.place] 74) = W at *
    try rw [hvs]
    generalize w.heap.size = ne at *
    clear y0 y1 y2 y3 y4 y5 y6 x0 z0 kV kx hvs
    have e0 := bx_cell Y.out.1 0 _ rfl
    have e1 := bx_cell Y.out.1 1 _ rfl
    have e2 := bx_cell Y.out.1 2 _ rfl
    have e3 := bx_cell Y.out.1 3 _ rfl
    have e4 := bx_cell Y.out.1 4 _ rfl
    have e5 := bx_cell Y.out.1 5 _ rfl
    have n0 := bx_cell Y.out.2 0 _ rfl
    have n1 := bx_cell Y.out.2 1 _ rfl
    have n2 := bx_cell Y.out.2 2 _ rfl
    have n3 := bx_cell Y.out.2 3 _ rfl
    have n4 := bx_cell Y.out.2 4 _ rfl
    have n5 := bx_cell Y.out.2 5 _ rfl
    go_upto_region 24 with (go_at_call 9; refine (HX.out _ (KW.out)).mono ?_; rintro e w5 ⟨rfl, k5⟩; have K5 := Lib.hid k5; clear k5)
    clear e0 e1 e2 e3 e4 e5 n0 n1 n2 n3 n4 n5
    have e0 := bx_cell (kh Y.out.1 K5.out) 0 _ rfl
    have e1 := bx_cell (kh Y.out.1 K5.out) 1 _ rfl
    have e2 := bx_cell (kh Y.out.1 K5.out) 2 _ rfl
    have e3 := bx_cell (kh Y.out.1 K5.out) 3 _ rfl
    have e4 := bx_cell (kh Y.out.1 K5.out) 4 _ rfl
    have e5 := bx_cell (kh Y.out.1 K5.out) 5 _ rfl
    have n1 := bx_cell (kh Y.out.2 K5.out) 1 _ rfl
    have n3 := bx_cell (kh Y.out.2 K5.out) 3 _ rfl
    have n5 := bx_cell (kh Y.out.2 K5.out) 5 _ rfl
    go_wp2_with (go_at_call 9; refine (HY.out _ (KW.out.trans K5.out)).mono ?_; rintro e w7 ⟨rfl, k7⟩; have K7 := Lib.hid k7; clear k7)
    go_ret3
    exact ⟨rfl, (KW.out.trans K5.out).trans K7.out⟩
  · rw [if_neg (by rw [decide_eq_false h1]; simp)]; have hub : (X.ub != 0) = true := (by simpa using h1); have hub2 : (X.ub == 0) = false := (by simpa using h1)
    rw [h2] at HX
    try rw [h2]
    clear hu h1 h2
    try simp only
    go_enter Tryz.func9, Tryz.ntmps9
    go_upto_region 1 with fail
    have x0 := World.alloc_heap_new w (.cells #[.pointer m, .slice ba bl bc, .pointer o, .slice oa ol oc, .int .i64 E.res, .int .i64 E.t] 39)
    have kV := (Kept.refl w).alloc (.cells #[.pointer m, .slice ba bl bc, .pointer o, .slice oa ol oc, .int .i64 E.res, .int .i64 E.t] 39)
    have hvs : (w.alloc (.cells #[.pointer m, .slice ba bl bc, .pointer o, .slice oa ol oc, .int .i64 E.res, .int .i64 E.t] 39)).heap.size = w.heap.size + 1 := by simp
    generalize w.alloc (.cells #[.pointer m, .slice ba bl bc, .pointer o, .slice oa ol oc, .int .i64 E.res, .int .i64 E.t] 39) = V at *
    obtain ⟨y0, y1, y2, y3, y4, y5, y6⟩ := HC.out _ kV
    go_upto_region 4 with fail
    have z0 := World.alloc_heap_new V (.cells #[.int .i64 4, .int .i64 x.rel, .slice xa x.x.length xc, .slice ya x.y.length yc, .int .i64 x.a, .int .i64 x.b, .int .i64 x.place] 74)
    have kx := (Kept.refl V).alloc (.cells #[.int .i64 4, .int .i64 x.rel, .slice xa x.x.length xc, .slice ya x.y.length yc, .int .i64 x.a, .int .i64 x.b, .int .i64 x.place] 74)
    rw [hvs] at z0
    have Y := Lib.hid (And.intro (kh x0 kx) z0)
    have KW := Lib.hid (kV.trans kx)
    generalize V.alloc (.cells #[.int .i64 4, .int .i64 x.rel, .slice xa x.x.length xc, .slice ya x.y.length yc, .int .i64 x.a, .int .i64 x.b, .int .i64 x.place] 74) = W at *
    try rw [hvs]
    generalize w.heap.size = ne at *
    clear y0 y1 y2 y3 y4 y5 y6 x0 z0 kV kx hvs
    have e0 := bx_cell Y.out.1 0 _ rfl
    have e1 := bx_cell Y.out.1 1 _ rfl
    have e2 := bx_cell Y.out.1 2 _ rfl
    have e3 := bx_cell Y.out.1 3 _ rfl
    have e4 := bx_cell Y.out.1 4 _ rfl
    have e5 := bx_cell Y.out.1 5 _ rfl
    have n0 := bx_cell Y.out.2 0 _ rfl
    have n1 := bx_cell Y.out.2 1 _ rfl
    have n2 := bx_cell Y.out.2 2 _ rfl
    have n3 := bx_cell Y.out.2 3 _ rfl
    have n4 := bx_cell Y.out.2 4 _ rfl
    have n5 := bx_cell Y.out.2 5 _ rfl
    go_upto_region 24 with (go_at_call 9; refine (HX.out _ (KW.out)).mono ?_; rintro e w5 ⟨rfl, k5⟩; have K5 := Lib.hid k5; clear k5)
    clear e0 e1 e2 e3 e4 e5 n0 n1 n2 n3 n4 n5
    have e0 := bx_cell (kh Y.out.1 K5.out) 0 _ rfl
    have e1 := bx_cell (kh Y.out.1 K5.out) 1 _ rfl
    have e2 := bx_cell (kh Y.out.1 K5.out) 2 _ rfl
    have e3 := bx_cell (kh Y.out.1 K5.out) 3 _ rfl
    have e4 := bx_cell (kh Y.out.1 K5.out) 4 _ rfl
    have e5 := bx_cell (kh Y.out.1 K5.out) 5 _ rfl
    have n1 := bx_cell (kh Y.out.2 K5.out) 1 _ rfl
    have n3 := bx_cell (kh Y.out.2 K5.out) 3 _ rfl
    have n5 := bx_cell (kh Y.out.2 K5.out) 5 _ rfl
    go_wp2
    go_ret3
    exact ⟨rfl, KW.out.trans K5.out⟩
  · rw [if_neg (by rw [h2]; simp)]; have hub : (X.ub != 0) = false := (by simpa using h1); have hub2 : (X.ub == 0) = true := (by simpa using h1)
    rw [h2] at HX
    try rw [h2]
    clear hu h1 h2
    try simp only
    go_enter Tryz.func9, Tryz.ntmps9
    go_upto_region 1 with fail
    have x0 := World.alloc_heap_new w (.cells #[.pointer m, .slice ba bl bc, .pointer o, .slice oa ol oc, .int .i64 E.res, .int .i64 E.t] 39)
    have kV := (Kept.refl w).alloc (.cells #[.pointer m, .slice ba bl bc, .pointer o, .slice oa ol oc, .int .i64 E.res, .int .i64 E.t] 39)
    have hvs : (w.alloc (.cells #[.pointer m, .slice ba bl bc, .pointer o, .slice oa ol oc, .int .i64 E.res, .int .i64 E.t] 39)).heap.size = w.heap.size + 1 := by simp
    generalize w.alloc (.cells #[.pointer m, .slice ba bl bc, .pointer o, .slice oa ol oc, .int .i64 E.res, .int .i64 E.t] 39) = V at *
    obtain ⟨y0, y1, y2, y3, y4, y5, y6⟩ := HC.out _ kV
    go_upto_region 4 with fail
    have z0 := World.alloc_heap_new V (.cells #[.int .i64 4, .int .i64 x.rel, .slice xa x.x.length xc, .slice ya x.y.length yc, .int .i64 x.a, .int .i64 x.b, .int .i64 x.place] 74)
    have kx := (Kept.refl V).alloc (.cells #[.int .i64 4, .int .i64 x.rel, .slice xa x.x.length xc, .slice ya x.y.length yc, .int .i64 x.a, .int .i64 x.b, .int .i64 x.place] 74)
    rw [hvs] at z0
    have Y := Lib.hid (And.intro (kh x0 kx) z0)
    have KW := Lib.hid (kV.trans kx)
    generalize V.alloc (.cells #[.int .i64 4, .int .i64 x.rel, .slice xa x.x.length xc, .slice ya x.y.length yc, .int .i64 x.a, .int .i64 x.b, .int .i64 x.place] 74) = W at *
    try rw [hvs]
    generalize w.heap.size = ne at *
    clear y0 y1 y2 y3 y4 y5 y6 x0 z0 kV kx hvs
    have e0 := bx_cell Y.out.1 0 _ rfl
    have e1 := bx_cell Y.out.1 1 _ rfl
    have e2 := bx_cell Y.out.1 2 _ rfl
    have e3 := bx_cell Y.out.1 3 _ rfl
    have e4 := bx_cell Y.out.1 4 _ rfl
    have e5 := bx_cell Y.out.1 5 _ rfl
    have n0 := bx_cell Y.out.2 0 _ rfl
    have n1 := bx_cell Y.out.2 1 _ rfl
    have n2 := bx_cell Y.out.2 2 _ rfl
    have n3 := bx_cell Y.out.2 3 _ rfl
    have n4 := bx_cell Y.out.2 4 _ rfl
    have n5 := bx_cell Y.out.2 5 _ rfl
    go_upto_region 24 with (go_at_call 9; refine (HX.out _ (KW.out)).mono ?_; rintro e w5 ⟨rfl, k5⟩; have K5 := Lib.hid k5; clear k5)
    clear e0 e1 e2 e3 e4 e5 n0 n1 n2 n3 n4 n5
    have e0 := bx_cell (kh Y.out.1 K5.out) 0 _ rfl
    have e1 := bx_cell (kh Y.out.1 K5.out) 1 _ rfl
    have e2 := bx_cell (kh Y.out.1 K5.out) 2 _ rfl
    have e3 := bx_cell (kh Y.out.1 K5.out) 3 _ rfl
    have e4 := bx_cell (kh Y.out.1 K5.out) 4 _ rfl
    have e5 := bx_cell (kh Y.out.1 K5.out) 5 _ rfl
    have n1 := bx_cell (kh Y.out.2 K5.out) 1 _ rfl
    have n3 := bx_cell (kh Y.out.2 K5.out) 3 _ rfl
    have n5 := bx_cell (kh Y.out.2 K5.out) 5 _ rfl
    go_wp2
    go_ret3
    exact ⟨rfl, KW.out.trans K5.out⟩
set_option maxRecDepth 100000 in
set_option maxHeartbeats 4000000 in
theorem rt_none {w : World} {cv mv bv ov obv : Value} {l : List Cn} {i : Nat} {E : Env} (hL : CondsAt w cv l) (hi : i < l.length) (hE : REnvAt w mv bv ov obv E) (hk : l[i].kind = 0 ∨ 4 < l[i].kind) :
    Calls Tryz.prog 9 #[cv, .int .i64 (i : Int), envVal mv bv ov obv E] w fun e w' => e = .returned (fiT (Fi.none)) ∧ Kept w w' := by
  obtain ⟨b, cap, xa, xc, ya, yc, hcv, hcap, hmax, -, hx, hy, hcell⟩ := hL.cells hi
  simp only [maxLen] at hmax
  have hnx := hx.1
  have hny := hy.1
  obtain ⟨m, hm⟩ := hE.mem.form
  obtain ⟨o, ho⟩ := hE.old.form
  obtain ⟨ba, bl, bc, hb⟩ := binds_form hE.binds
  obtain ⟨oa, ol, oc, hob⟩ := binds_form hE.olds
  subst hcv hm ho hb hob
  have HC := Lib.hid hcell
  have hn := hL.1
  clear hcell hL
  clear hx hy hE hnx hny
  generalize l[i] = x at *
  unfold envVal fiT Fi.none at *
  obtain ⟨K, hK⟩ : ∃ K : Int, (x.kind : Int) = K := ⟨_, rfl⟩
  rw [hK] at HC
  have k1 : (K == 1) = false := (by simp; omega)
  have k2 : (K == 2) = false := (by simp; omega)
  have k3 : (K == 3) = false := (by simp; omega)
  have k4 : (K == 4) = false := (by simp; omega)
  clear hK hk
  have HD : True := trivial
  all_goals
    go_enter Tryz.func9, Tryz.ntmps9
    go_upto_region 1 with fail
    have x0 := World.alloc_heap_new w (.cells #[.pointer m, .slice ba bl bc, .pointer o, .slice oa ol oc, .int .i64 E.res, .int .i64 E.t] 39)
    have kV := (Kept.refl w).alloc (.cells #[.pointer m, .slice ba bl bc, .pointer o, .slice oa ol oc, .int .i64 E.res, .int .i64 E.t] 39)
    have hvs : (w.alloc (.cells #[.pointer m, .slice ba bl bc, .pointer o, .slice oa ol oc, .int .i64 E.res, .int .i64 E.t] 39)).heap.size = w.heap.size + 1 := by simp
    generalize w.alloc (.cells #[.pointer m, .slice ba bl bc, .pointer o, .slice oa ol oc, .int .i64 E.res, .int .i64 E.t] 39) = V at *
    obtain ⟨y0, y1, y2, y3, y4, y5, y6⟩ := HC.out _ kV
    go_upto_region 4 with fail
    have z0 := World.alloc_heap_new V (.cells #[.int .i64 K, .int .i64 x.rel, .slice xa x.x.length xc, .slice ya x.y.length yc, .int .i64 x.a, .int .i64 x.b, .int .i64 x.place] 74)
    have kx := (Kept.refl V).alloc (.cells #[.int .i64 K, .int .i64 x.rel, .slice xa x.x.length xc, .slice ya x.y.length yc, .int .i64 x.a, .int .i64 x.b, .int .i64 x.place] 74)
    rw [hvs] at z0
    have Y := Lib.hid (And.intro (kh x0 kx) z0)
    have KW := Lib.hid (kV.trans kx)
    generalize V.alloc (.cells #[.int .i64 K, .int .i64 x.rel, .slice xa x.x.length xc, .slice ya x.y.length yc, .int .i64 x.a, .int .i64 x.b, .int .i64 x.place] 74) = W at *
    try rw [hvs]
    generalize w.heap.size = ne at *
    clear y0 y1 y2 y3 y4 y5 y6 x0 z0 kV kx hvs
    have e0 := bx_cell Y.out.1 0 _ rfl
    have e1 := bx_cell Y.out.1 1 _ rfl
    have e2 := bx_cell Y.out.1 2 _ rfl
    have e3 := bx_cell Y.out.1 3 _ rfl
    have e4 := bx_cell Y.out.1 4 _ rfl
    have e5 := bx_cell Y.out.1 5 _ rfl
    have n0 := bx_cell Y.out.2 0 _ rfl
    have n1 := bx_cell Y.out.2 1 _ rfl
    have n2 := bx_cell Y.out.2 2 _ rfl
    have n3 := bx_cell Y.out.2 3 _ rfl
    have n4 := bx_cell Y.out.2 4 _ rfl
    have n5 := bx_cell Y.out.2 5 _ rfl
    go_wp2
    go_ret3
    exact ⟨rfl, KW.out⟩
set_option maxRecDepth 100000 in
set_option maxHeartbeats 4000000 in
theorem rt_off {w : World} {cv mv bv ov obv : Value} {l : List Cn} {E : Env} (hL : CondsAt w cv l) (hE : REnvAt w mv bv ov obv E) (at_ : Int) (h : at_ < 0 ∨ (l.length : Int) ≤ at_) :
    Calls Tryz.prog 9 #[cv, .int .i64 at_, envVal mv bv ov obv E] w fun e w' => e = .returned (fiT Fi.none) ∧ Kept w w' := by
  have hlen := hL.1
  obtain ⟨la, lc, hlv⟩ := hL.form
  obtain ⟨m, hm⟩ := hE.mem.form
  obtain ⟨o, ho⟩ := hE.old.form
  obtain ⟨ba, bl, bc, hb⟩ := binds_form hE.binds
  obtain ⟨oa, ol, oc, hob⟩ := binds_form hE.olds
  subst hlv hm ho hb hob
  clear hL hE
  unfold fiT Fi.none envVal
  simp only
  rcases h with h | h
  all_goals
    go_enter Tryz.func9, Tryz.ntmps9
    go_upto_region 1 with fail
    have kV := (Kept.refl w).alloc (.cells #[.pointer m, .slice ba bl bc, .pointer o, .slice oa ol oc, .int .i64 E.res, .int .i64 E.t] 39)
    generalize w.alloc (.cells #[.pointer m, .slice ba bl bc, .pointer o, .slice oa ol oc, .int .i64 E.res, .int .i64 E.t] 39) = V at *
    go_wp2
    go_ret3
    exact ⟨rfl, kV⟩
/-- What the calls for the places ahead tell. -/
def AheadC (w : World) (cv mv bv ov obv : Value) (l : List Cn) (E : Env) (i : Nat) : Prop := ∀ a : Int, a < i → TestCalls w cv mv bv ov obv E a (tstA l E a)
theorem rt_step {w : World} {cv mv bv ov obv : Value} {l : List Cn} {i : Nat} {E : Env} (hL : CondsAt w cv l) (hD : DownA l) (hi : i < l.length) (hE : REnvAt w mv bv ov obv E) (hA : AheadC w cv mv bv ov obv l E i) :
    Calls Tryz.prog 9 #[cv, .int .i64 (i : Int), envVal mv bv ov obv E] w fun e w' => e = .returned (fiT (tstA l E (i : Int))) ∧ Kept w w' := by
  have hk := hD.1 i hi
  have ha := hA l[i].a hk.1
  have hb := hA l[i].b hk.2
  have hd := hD.2 i hi
  rw [tstA_at hD.1 hi]
  unfold clsA
  rcases (show l[i].kind = 1 ∨ l[i].kind = 2 ∨ l[i].kind = 3 ∨ l[i].kind = 4 ∨ (l[i].kind = 0 ∨ 4 < l[i].kind) by omega) with h | h | h | h | h
  · rw [if_pos h]
    exact rt_rel hL hi hE h hd.1 hd.2
  · have e2 : ¬ twoC l[i].kind := by unfold twoC; omega
    rw [if_neg (show ¬ l[i].kind = 1 by omega), if_pos (.inr h : twoC l[i].kind ∨ l[i].kind = 2), if_neg e2, if_pos h]
    exact rt_not hL hi hE h ha
  · have e2 : twoC l[i].kind := .inl h
    rw [if_neg (show ¬ l[i].kind = 1 by omega), if_pos (.inl e2 : twoC l[i].kind ∨ l[i].kind = 2), if_pos e2, if_pos e2]
    unfold undA
    rw [decide_eq_true h]
    exact rt_and hL hi hE h (tstA_ub l E _) ha hb
  · have e2 : twoC l[i].kind := .inr h
    rw [if_neg (show ¬ l[i].kind = 1 by omega), if_pos (.inl e2 : twoC l[i].kind ∨ l[i].kind = 2), if_pos e2, if_pos e2]
    unfold undA
    rw [decide_eq_false (show ¬ l[i].kind = 3 by omega)]
    exact rt_or hL hi hE h (tstA_ub l E _) ha hb
  · have e2 : ¬ twoC l[i].kind := by unfold twoC; omega
    rw [if_neg (show ¬ l[i].kind = 1 by omega), if_neg e2, if_neg (show ¬ l[i].kind = 2 by omega)]
    exact rt_none hL hi hE h
theorem aheadC_any {cv mv bv ov obv : Value} {l : List Cn} {E : Env} (hD : DownA l) : ∀ i, ∀ w, CondsAt w cv l → REnvAt w mv bv ov obv E → AheadC w cv mv bv ov obv l E i := by
  intro i
  induction i with
  | zero =>
    intro w hL hE a ha w1 hk
    rw [tstA_out (.inl (by simpa using ha))]
    exact rt_off (hL.kept hk) (hE.kept hk) a (.inl (by simpa using ha))
  | succ i ih =>
    intro w hL hE a ha w1 hk
    by_cases h0 : a < i
    · exact ih w hL hE a h0 w1 hk
    obtain rfl : a = (i : Int) := by omega
    by_cases hi : i < l.length
    · exact rt_step (hL.kept hk) hD hi (hE.kept hk) (ih w1 (hL.kept hk) (hE.kept hk))
    · rw [tstA_out (.inr (by omega))]
      exact rt_off (hL.kept hk) (hE.kept hk) _ (.inr (by omega))
/-- What the document's Test tells of any place. -/
theorem rTest_any {w : World} {cv mv bv ov obv : Value} {l : List Cn} {E : Env} (hL : CondsAt w cv l) (hD : DownA l) (hE : REnvAt w mv bv ov obv E) (at_ : Int) :
    Calls Tryz.prog 9 #[cv, .int .i64 at_, envVal mv bv ov obv E] w fun e w' => e = .returned (.tuple #[.bool (tstA l E at_).is, .int .i64 (tstA l E at_).ub, .int .i64 (tstA l E at_).at_]) ∧ Kept w w' :=
  aheadC_any hD (at_.toNat + 1) w hL hE at_ (by omega) w (Kept.refl w)
/-- Where the memories' values agree, so does what conditions tell. -/
theorem tstF_same {l : List Cn} {E F : Env} (h : Same E F) : ∀ (f : Nat) (s : Int), tstF l E f s = tstF l F f s := by
  intro f
  induction f with
  | zero => intro s; rfl
  | succ f ih =>
    intro s
    unfold tstF
    split
    · split
      · rename_i x _
        rw [ih, ih]
        unfold clsA relA
        rw [valA_same h _ _, valA_same h _ _]
      · rfl
    · rfl
theorem tst_same {l : List Cn} {E F : Env} (h : Same E F) (s : Int) : tstA l E s = tstA l F s := tstF_same h _ s
end Go.Proofs.YtnlkcjbnmkpnhaaGreat.Evl
namespace Go.Proofs.YtnlkcjbnmkpnhaaGreat.evalTests
open Go.ChangeShapes Go.WideShapes Go.ChangeAt Go.RowKit
open Go.ChangeMaps (open_string shut_string)
set_option linter.unusedVariables false

theorem own : ownKnob Tryz.prog.godebug = none := by kernel_rfl
theorem laidOut : laidOutB Tryz.prog = true := by kernel_rfl

/-- A slice of integers that came in: nil; or a row of cap cells, the numbers zs, each fitting its kind. -/
def IsRow (k : IntKind) (w : World) (a : Option Addr) (len cap : Nat) (zs : List Int) : Prop :=
  (a = none ∧ len = 0 ∧ cap = 0 ∧ zs = []) ∨
  ∃ x, a = some x ∧ len ≤ cap ∧ cap ≤ maxLen ∧ zs.length = cap ∧ (∀ i, i < zs.length → w.cell? (x.add i) = some (.int k (zs.getD i 0))) ∧ ∀ n ∈ zs, (Lit.int k n).wf = true

open Evl
open Prs (Ex Cn)
open Fnd (bx_cell bx_froz)
open Mem (Bk MemAt St tv)
/-- What Cond tells of any text: a list whose kids stand ahead. -/
theorem conds_safe {w w' : World} {x : Ending} (h : Srd.CondOut w w' x) : ∃ (v : Value) (c a : Nat) (l : List Cn), x = .returned (.tuple #[v, .int .i64 c, .int .i64 a]) ∧ Kept w w' ∧ CondsAt w' v l ∧ DownA l := by
  obtain ⟨v, c, a, l, h1, h2, h3, h4, h5, -⟩ := h
  refine ⟨v, c, a, l, h1, h2, conds_at h3 h5 fun i hi => ?_, h4.down, fun i hi => ?_⟩
  · have := h4.ok l[i] (List.getElem_mem hi)
    exact ⟨this.2.2.2.2.2.2.1, this.2.2.2.2.2.2.2⟩
  · have := h4.kids l[i] (List.getElem_mem hi)
    exact ⟨this.1.down, this.2.down⟩

/-! The walk: the Go text returns true and writes nothing that was there. -/
set_option maxRecDepth 100000 in
set_option maxHeartbeats 4000000 in
theorem walk (a0 : ByteArray) (a1 : Option Addr) (len1 cap1 : Nat) (z1 : List Int) (a2 : Option Addr) (len2 cap2 : Nat) (z2 : List Int) (a3 : Int) (w : World) (w0 : a0.size ≤ maxLen) (w1 : IsRow .i64 w a1 len1 cap1 z1) (w2 : IsRow .i64 w a2 len2 cap2 z2) (w3 : (Lit.int .i64 a3).wf = true) :
    Calls Tryz.prog 3 #[.string a0, .slice a1 len1 cap1, .slice a2 len2 cap2, .int .i64 a3] w fun e w' => e = .returned (.bool true) ∧ Below w.heap.size w w' := by
  have HA := Lib.hid (fun wx => awake_any wx)
  have hmx := w0
  have h3 := bounds_i64 w3
  simp only [maxLen] at hmx
  have hl1 : len1 ≤ 9223372036854775807 := by rcases w1 with ⟨_, h, _⟩ | ⟨_, _, h1, h2, _⟩ <;> (simp only [maxLen] at *; omega)
  have hl2 : len2 ≤ 9223372036854775807 := by rcases w2 with ⟨_, h, _⟩ | ⟨_, _, h1, h2, _⟩ <;> (simp only [maxLen] at *; omega)
  by_cases hbig : 400 < a0.size ∨ 20 < len1 ∨ 20 < len2
  · rcases (show 400 < a0.size ∨ (a0.size ≤ 400 ∧ 20 < len1) ∨ (a0.size ≤ 400 ∧ len1 ≤ 20 ∧ 20 < len2) by omega) with h | ⟨h, h'⟩ | ⟨h, h', h''⟩
    all_goals
      clear hbig w1 w2
      go_enter Tryz.func3, Tryz.ntmps3
      go_wp2_with (go_at_call 4; refine (HA.out _).mono ?_; rintro e9 v9 ⟨rfl, H9⟩)
      go_ret
      exact ⟨rfl, H9.out⟩
  have hs0 : a0.size ≤ 400 := by omega
  have hn1 : len1 ≤ 20 := by omega
  have hn2 : len2 ≤ 20 := by omega
  clear hbig
  obtain ⟨N1, e1⟩ := nums_row hn1 w1
  obtain ⟨N2, e2⟩ := nums_row hn2 w2
  generalize z1.take len1 = u1 at *
  generalize z2.take len2 = u2 at *
  have HN1 := Lib.hid N1
  have HN2 := Lib.hid N2
  clear N1 N2 w1 w2 w3
  have HN := Lib.hid (Srd.Cond_safe a0 w (by omega))
  go_enter Tryz.func3, Tryz.ntmps3
  go_upto_region 4 with (go_at_call 5; refine (HN.out).mono ?_; clear HN; rintro y wn hcs; obtain ⟨lv, ec, ea, l, rfl, kn, hl, hd⟩ := conds_safe hcs; have KN := Lib.hid kn; have HL := Lib.hid hl; have HD := Lib.hid hd; clear kn hl hd hcs)
  obtain ⟨la, lc, hlv⟩ := HL.out.form
  have hll := HL.out.1
  subst hlv
  have HB1 := Lib.hid (both_any wn _ u1 (nums_kept HN1.out KN.out))
  go_upto_region 5 with (go_at_call 6; refine (HB1.out).mono ?_; rintro y v1 ⟨pm, pr, rfl, H1⟩)
  clear HB1
  have K1 := Lib.hid (KN.out.trans H1.out.keep0)
  have HB2 := Lib.hid (both_any v1 _ u2 (nums_kept HN2.out K1.out))
  go_upto_region 6 with (go_at_call 6; refine (HB2.out).mono ?_; rintro y v2 ⟨pm2, pr2, rfl, H2⟩)
  clear HB2
  obtain ⟨L1, R1, hL1, hR1, m1, r1⟩ := mems_is H1.out H2.out.keep0
  obtain ⟨L2, R2, hL2, hR2, m2, r2⟩ := mems_is H2.out (Kept.refl v2)
  have KW := Lib.hid (K1.out.trans H2.out.keep0)
  have hsame : Same ⟨some L1, namesL, some L2, namesL, a3, 5⟩ ⟨some R1, namesL, some R2, namesL, a3, 5⟩ := ⟨by simp [hL1, hR1], rfl, by simp [hL2, hR2], rfl, rfl, rfl⟩
  have hKL := H1.out.keep0.trans H2.out.keep0
  obtain ⟨V, hV⟩ : ∃ V : Int → Fi, ∀ i, tstA l ⟨some L1, namesL, some L2, namesL, a3, 5⟩ i = V i := ⟨_, fun i => rfl⟩
  have hv : ∀ wx, Kept v2 wx → ∀ i : Int, Calls Tryz.prog 7 #[.slice la l.length lc, .int .i64 i, .agg #[.pointer (some ⟨pm, 0, none⟩), .slice (some ⟨wx.heap.size, 0, none⟩) 4 4, .pointer (some ⟨pm2, 0, none⟩), .slice (some ⟨wx.heap.size + 1, 0, none⟩) 4 4, .int .i64 a3, .int .i64 5]] ((wx.alloc (.cells namesC 63)).alloc (.cells namesC 63)) fun x w'' => x = .returned (.tuple #[.bool (V i).is, .int .i64 (V i).ub, .int .i64 (V i).at_]) ∧ Kept wx w'' := fun wx hk i => by
    obtain ⟨x0, x1, kW⟩ := two wx (.cells namesC 63) (.cells namesC 63)
    have hE : EnvAt ((wx.alloc (.cells namesC 63)).alloc (.cells namesC 63)) _ _ _ _ ⟨some L1, namesL, some L2, namesL, a3, 5⟩ := ⟨MemIs.kept m1 (hk.trans kW), names_at x0, MemIs.kept m2 (hk.trans kW), names_at x1⟩
    have := Test_any (HL.out.kept (hKL.trans (hk.trans kW))) hE HD.out i
    rw [hV] at this
    exact this.mono fun x w'' ⟨h1, h2⟩ => ⟨h1, kW.trans h2⟩
  have hr : ∀ wx, Kept v2 wx → ∀ i : Int, Calls Tryz.prog 9 #[.slice la l.length lc, .int .i64 i, .agg #[.pointer (some ⟨pr, 0, none⟩), .slice (some ⟨wx.heap.size, 0, none⟩) 4 4, .pointer (some ⟨pr2, 0, none⟩), .slice (some ⟨wx.heap.size + 1, 0, none⟩) 4 4, .int .i64 a3, .int .i64 5]] ((wx.alloc (.cells namesC 63)).alloc (.cells namesC 63)) fun x w'' => x = .returned (.tuple #[.bool (V i).is, .int .i64 (V i).ub, .int .i64 (V i).at_]) ∧ Kept wx w'' := fun wx hk i => by
    obtain ⟨x0, x1, kW⟩ := two wx (.cells namesC 63) (.cells namesC 63)
    have hE : REnvAt ((wx.alloc (.cells namesC 63)).alloc (.cells namesC 63)) _ _ _ _ ⟨some R1, namesL, some R2, namesL, a3, 5⟩ := ⟨RMemIs.kept r1 (hk.trans kW), names_at x0, RMemIs.kept r2 (hk.trans kW), names_at x1, names_sz, names_sz⟩
    have := rTest_any (HL.out.kept (hKL.trans (hk.trans kW))) HD.out hE i
    rw [← tst_same hsame, hV] at this
    exact this.mono fun x w'' ⟨h1, h2⟩ => ⟨h1, kW.trans h2⟩
  have HV := Lib.hid hv
  have HR := Lib.hid hr
  clear hL1 hR1 m1 r1 hL2 hR2 m2 r2 hsame hKL hV hv hr H1 H2 K1 HN1 HN2
  go_wp2
  go_loopg [18] (l.length + 2) (fun k v wx => ∃ j : Nat, j ≤ l.length + 2 ∧ v = .int .i64 ((j : Int) - 1) ∧ k = l.length + 2 - j ∧ Hid (Kept v2 wx))
  case atStart => exact ⟨0, by omega, rfl, by omega, Lib.hid (Kept.refl _)⟩
  case round =>
    obtain ⟨j, hj, rfl, hk, KX⟩ := hrel
    by_cases hlt : j < l.length + 2
    · have hc : ((j : Int) - 1 ≤ (l.length : Int)) := by omega
      go_upto_region 12 with (first | (go_at_call 8; refine (names_any _).mono ?_; rintro y v4 ⟨rfl, rfl⟩) | (go_at_call 7; refine (HV.out _ KX.out _).mono ?_; rintro y w8 ⟨rfl, k8⟩; have K8 := Lib.hid (KX.out.trans k8); clear k8))
      go_wp2_with (first | (go_at_call 8; refine (names_any _).mono ?_; rintro y v4 ⟨rfl, rfl⟩) | (go_at_call 9; refine (HR.out _ K8.out _).mono ?_; rintro y w9 ⟨rfl, k9⟩; have K9 := Lib.hid (K8.out.trans k9); clear k9))
      go_roundg (l.length + 2 - (j + 1))
      case measure => omega
      case rel => exact ⟨j + 1, by omega, by congr 1; omega, rfl, K9⟩
    · have hc : ¬ ((j : Int) - 1 ≤ (l.length : Int)) := by omega
      go_wp2_with (go_at_call 4; refine (HA.out _).mono ?_; rintro e9 v9 ⟨rfl, H9⟩)
      go_ret
      exact ⟨rfl, KW.out.trans (KX.out.trans H9.out)⟩

set_option maxRecDepth 100000 in
theorem lifted (os : Os) (started : os.Started) (H : Type) (enc : TypeId × Value → H) :
    ReturnsInHanded {} Tryz.checked os 3 .any (Rows.evalTestsSpec.pre6 enc Tryz.prog Tryz.f3 Rows.evalTestsRow.domain false) (Rows.evalTestsSpec.post enc Tryz.prog Tryz.f3 false true false false) := by
  refine returnsInHanded_of_change (C := Tryz.checked) own started (by kernel_rfl) Tryz.func3
    (ChangeSpec.witness6 (enc := enc) (C := Tryz.checked) false ⟨#[], #[.string ByteArray.empty, .slice none 0 0, .slice none 0 0, .int .i64 0], []⟩ 8 (by kernel_rfl) (by kernel_rfl) (by kernel_rfl) (by kernel_rfl)) ?_
  intro W base args ds gs before hval0 hW hcnd _
  have hval : ∀ (j : Nat) t v, Tryz.f3.params[j]? = some t → args[j]? = some v → Value.okWide Tryz.prog W .any base t v := hval0
  have hW' := hW
  obtain ⟨p, q, hA0, hV, rfl, hfz, hnd⟩ := hW
  have hA : DataW.TrodAll enc Tryz.prog W 0 (fun _ => true) true Tryz.f3.params.toList args.toList ds p := hA0
  rw [Tryz.params3] at hA hval
  obtain ⟨v0, vs0, d0, ds0, p0, q0, hargs, rfl, rfl, h0, r0⟩ := trodAll_cons hA
  obtain ⟨v1, vs1, d1, ds1, p1, q1, rfl, rfl, rfl, h1, r1⟩ := trodAll_cons r0
  obtain ⟨v2, vs2, d2, ds2, p2, q2, rfl, rfl, rfl, h2, r2⟩ := trodAll_cons r1
  obtain ⟨v3, vs3, d3, ds3, p3, q3, rfl, rfl, rfl, h3, r3⟩ := trodAll_cons r2
  obtain ⟨rfl, rfl, rfl⟩ := trodAll_nil r3
  obtain rfl : args = #[v0, v1, v2, v3] := by cases args; simp_all
  obtain ⟨rfl, rfl⟩ := trodVars_none hV
  obtain ⟨a0, rfl, rfl, rfl, w0⟩ := open_string Tryz.underlying9 (hval 0 9 v0 rfl rfl) h0
  obtain ⟨a1, len1, cap1, rfl⟩ := okWide_slice Tryz.underlying22 (hval 1 22 v1 rfl rfl)
  have k1 := h1
  have lt1 : ∀ x ∈ p1, x.block < W.heap.size := by obtain ⟨m, hm⟩ := k1; exact DataW.trod_lt m _ _ _ hm
  obtain ⟨z1, w1⟩ : ∃ zs, IsRow .i64 W a1 len1 cap1 zs := by
    obtain ⟨fuel, hf⟩ := h1
    rcases open_ints Tryz.underlying22 Tryz.underlying3 (by kernel_rfl) hf with ⟨hcs, _⟩ | ⟨x, l, c, zs, hcs, _, hl, hm, hz, _, hcell, hwz⟩
    · simp [Value.cells] at hcs
      obtain ⟨rfl, rfl, rfl⟩ := hcs
      exact ⟨[], .inl ⟨rfl, rfl, rfl, rfl⟩⟩
    · simp [Value.cells] at hcs
      obtain ⟨rfl, rfl, rfl⟩ := hcs
      exact ⟨zs, .inr ⟨_, rfl, hl, hm, by simpa using hz, hcell, hwz⟩⟩
  obtain ⟨a2, len2, cap2, rfl⟩ := okWide_slice Tryz.underlying22 (hval 2 22 v2 rfl rfl)
  have k2 := h2
  have lt2 : ∀ x ∈ p2, x.block < W.heap.size := by obtain ⟨m, hm⟩ := k2; exact DataW.trod_lt m _ _ _ hm
  obtain ⟨z2, w2⟩ : ∃ zs, IsRow .i64 W a2 len2 cap2 zs := by
    obtain ⟨fuel, hf⟩ := h2
    rcases open_ints Tryz.underlying22 Tryz.underlying3 (by kernel_rfl) hf with ⟨hcs, _⟩ | ⟨x, l, c, zs, hcs, _, hl, hm, hz, _, hcell, hwz⟩
    · simp [Value.cells] at hcs
      obtain ⟨rfl, rfl, rfl⟩ := hcs
      exact ⟨[], .inl ⟨rfl, rfl, rfl, rfl⟩⟩
    · simp [Value.cells] at hcs
      obtain ⟨rfl, rfl, rfl⟩ := hcs
      exact ⟨zs, .inr ⟨_, rfl, hl, hm, by simpa using hz, hcell, hwz⟩⟩
  obtain ⟨a3, rfl, rfl, rfl, w3⟩ := open_int Tryz.underlying3 (hval 3 3 v3 rfl rfl) h3
  clear hA0 hval0
  refine (walk a0 a1 len1 cap1 z1 a2 len2 cap2 z2 a3 W w0 w1 w2 w3).mono fun e W' ⟨he, bel⟩ => ?_
  subst he
  exact ⟨_, rfl, _, _, _, [], _, [], hW', trodAll_mk1 (shut_bool Tryz.underlying4 _), (trodAll_cons_mk (shut_string Tryz.underlying9 w0) (trodAll_cons_mk (Below.trod laidOut (by kernel_rfl) (of_decide_eq_true (by kernel_rfl)) k1 bel lt1) (trodAll_cons_mk (Below.trod laidOut (by kernel_rfl) (of_decide_eq_true (by kernel_rfl)) k2 bel lt2) (trodAll_cons_mk (shut_int Tryz.underlying3 w3) trodAll_mk0)))), rfl, bel.frame _, fun h => by cases h⟩

theorem over : Rows.evalTestsRow.holds Tryz.pinned (OpenSpec.ofChange Rows.evalTestsSpec) :=
  OpenClaim.holds_of_wide 3 Tryz.f3 rfl rfl rfl rfl rfl rfl rfl ⟨rfl, rfl, rfl, rfl, rfl⟩ rfl rfl rfl rfl rfl (by kernel_rfl) Tryz.func3 (by kernel_rfl)
    (of_decide_eq_true (by kernel_rfl)) (by unfold Func.isWrapper; first | (rw [if_pos (by decide +kernel)]; kernel_rfl) | (rw [if_neg (by decide +kernel)]; exact ⟨rfl, rfl⟩))
    (fun os started H enc _ => lifted os started H enc)

/-- The statement. -/
theorem proved : Rows.EvalTestsSaid := over
#print axioms proved
end Go.Proofs.YtnlkcjbnmkpnhaaGreat.evalTests
