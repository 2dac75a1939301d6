/-
  Package eval: what a name has (named), what a node has, its kids reckoned (node), by whatever names there are.
-/
import Derived.Test.YthjnkjekidagiaaEvA
namespace Go.Proofs.Ythjnkjekidagiaa.Evl
open Go.RowKit
open Typ (upF joinF wrapF doV doU)
open Prs (Ex)
open Fnd (Bi BindsAt findF foundV biVal bx_cell bx_froz)
open Mem (Bk MemAt getV)

/-- What names have, and had. -/
structure Env where
  mem : Option (List Bk)
  binds : List Bi
  old : Option (List Bk)
  olds : List Bi
  res : Int
  t : Int
def MemIs (w : World) (mv : Value) (m : Option (List Bk)) : Prop :=
  (mv = .pointer none ∧ m = none) ∨ ∃ B p v L, mv = .pointer (some ⟨p, 0, none⟩) ∧ MemAt B 64 w p v L ∧ m = some L
theorem MemIs.kept {w w' : World} {mv : Value} {m : Option (List Bk)} (h : MemIs w mv m) (hk : Kept w w') : MemIs w' mv m := by
  rcases h with h | ⟨B, p, v, L, h1, h2, h3⟩
  · exact .inl h
  · exact .inr ⟨B, p, v, L, h1, h2.kept hk, h3⟩
theorem binds_kept {w w' : World} {v : Value} {zs : List Bi} (h : BindsAt w.heap.size w v zs) (hk : Kept w w') : BindsAt w'.heap.size w' v zs := by
  obtain ⟨q0, q | ⟨b, cp, q1, q2, q3, q4, q5⟩⟩ := h.below hk
  · exact ⟨q0, .inl q⟩
  · exact ⟨q0, .inr ⟨b, cp, q1, q2, q3, Nat.lt_of_lt_of_le q4 (Below.size hk), q5⟩⟩
def envVal (mv bv ov obv : Value) (E : Env) : Value := .agg #[mv, bv, ov, obv, .int .i64 E.res, .int .i64 E.t]
structure EnvAt (w : World) (mv bv ov obv : Value) (E : Env) : Prop where
  mem : MemIs w mv E.mem
  binds : BindsAt w.heap.size w bv E.binds
  old : MemIs w ov E.old
  olds : BindsAt w.heap.size w obv E.olds
theorem EnvAt.kept {w w' : World} {mv bv ov obv : Value} {E : Env} (h : EnvAt w mv bv ov obv E) (hk : Kept w w') : EnvAt w' mv bv ov obv E :=
  ⟨h.mem.kept hk, binds_kept h.binds hk, h.old.kept hk, binds_kept h.olds hk⟩
def hasF (b : Bi) (at_ : Int) : Bool := decide (0 ≤ at_ ∧ at_ < if b.size = 0 then 1 else b.size)
def bindF (E : Env) (nm : List UInt8) : Option (List Bk × Bi) := match E.mem with | none => none | some L => (findF E.binds nm).map fun b => (L, b)
def namedA (n : Ex) (E : Env) (idx : Int) : Ans :=
  match bindF E n.name with
  | none => Ans.none
  | some (L, b) => if n.kind = 3 then (if hasF b idx = false then ⟨0, b.t, 4, n.place⟩ else ⟨(getV L b.id idx).1, b.t, 0, 0⟩) else ⟨(getV L b.id 0).1, b.t, 0, 0⟩

theorem hasPlace_any (b : Bi) (at_ : Int) (w : World) : Calls Try.prog 100 #[biVal b, .int .i64 at_] w fun e w' => e = .returned (.bool (hasF b at_)) ∧ Kept w w' := by
  obtain ⟨s, hs⟩ : ∃ s, (if b.size = 0 then 1 else b.size) = s := ⟨_, rfl⟩
  have hh : hasF b at_ = decide (0 ≤ at_ ∧ at_ < s) := by unfold hasF; rw [hs]
  rw [hh]; clear hh
  unfold biVal
  by_cases h0 : b.size = 0
  case' pos =>
    rw [if_pos h0] at hs
    subst hs
    have hb : (b.size == 0) = true := by simpa using h0
  case' neg =>
    rw [if_neg h0] at hs
    have hb : (b.size == 0) = false := by simpa using h0
    subst hs
  case' pos => rcases (show at_ < 0 ∨ (0 ≤ at_ ∧ at_ < 1) ∨ (0 ≤ at_ ∧ 1 ≤ at_) by omega) with h1 | ⟨h1, h2⟩ | ⟨h1, h2⟩
  case' neg => rcases (show at_ < 0 ∨ (0 ≤ at_ ∧ at_ < b.size) ∨ (0 ≤ at_ ∧ b.size ≤ at_) by omega) with h1 | ⟨h1, h2⟩ | ⟨h1, h2⟩
  case' pos.inl => rw [show decide (0 ≤ at_ ∧ at_ < 1) = false from decide_eq_false (by omega)]
  case' pos.inr.inl => rw [show decide (0 ≤ at_ ∧ at_ < 1) = true from decide_eq_true (by omega)]
  case' pos.inr.inr => rw [show decide (0 ≤ at_ ∧ at_ < 1) = false from decide_eq_false (by omega)]
  case' neg.inl => rw [show decide (0 ≤ at_ ∧ at_ < b.size) = false from decide_eq_false (by omega)]
  case' neg.inr.inl => rw [show decide (0 ≤ at_ ∧ at_ < b.size) = true from decide_eq_true (by omega)]
  case' neg.inr.inr => rw [show decide (0 ≤ at_ ∧ at_ < b.size) = false from decide_eq_false (by omega)]
  all_goals
    go_enter Try.func100, Try.ntmps100
    go_wp2
    go_ret
    refine ⟨?_, (Kept.refl w).alloc _⟩
    first | rfl | (simp; omega) | simp [h2]
theorem three (w : World) (o0 o1 o2 : Obj) : (((w.alloc o0).alloc o1).alloc o2).heap[w.heap.size]? = some o0 ∧ (((w.alloc o0).alloc o1).alloc o2).heap[w.heap.size + 1]? = some o1 ∧
    (((w.alloc o0).alloc o1).alloc o2).heap[w.heap.size + 1 + 1]? = some o2 ∧ Kept w (((w.alloc o0).alloc o1).alloc o2) ∧ (((w.alloc o0).alloc o1).alloc o2).heap.size = w.heap.size + 3 := by
  have e (w : World) (o : Obj) : (w.alloc o).heap[w.heap.size]? = some o := World.alloc_heap_new w o
  refine ⟨?_, ?_, ?_, (((Kept.refl w).alloc _).alloc _).alloc _, by simp⟩
  · rw [Below.heap_alloc _ _ _ (by simp <;> omega), Below.heap_alloc _ _ _ (by simp <;> omega)]; exact e w o0
  · rw [Below.heap_alloc _ _ _ (by simp <;> omega)]
    have := e (w.alloc o0) o1; simpa using this
  · have := e ((w.alloc o0).alloc o1) o2; simpa using this
theorem put4b {w W : World} {i : Nat} {x0 x1 x2 x3 : Value} {t : TypeId} (a b c d : Value) (hi : w.heap.size ≤ i) (hk : Kept w W) (h4 : W.heap[i]? = some (.cells #[x0, x1, x2, x3] t (0, 0))) :
    ((((W.setCell ⟨i, 0, none⟩ a).setCell ⟨i, 1, none⟩ b).setCell ⟨i, 2, none⟩ c).setCell ⟨i, 3, none⟩ d).heap[i]? = some (.cells #[a, b, c, d] t (0, 0)) ∧ Kept w ((((W.setCell ⟨i, 0, none⟩ a).setCell ⟨i, 1, none⟩ b).setCell ⟨i, 2, none⟩ c).setCell ⟨i, 3, none⟩ d) ∧
    ∀ k, k ≠ i → ((((W.setCell ⟨i, 0, none⟩ a).setCell ⟨i, 1, none⟩ b).setCell ⟨i, 2, none⟩ c).setCell ⟨i, 3, none⟩ d).heap[k]? = W.heap[k]? := by
  obtain ⟨h1, h2⟩ := put4 a b c d hi hk h4
  refine ⟨h1, h2, fun k hne => ?_⟩
  rw [heap_setCell_other _ _ _ _ hne, heap_setCell_other _ _ _ _ hne, heap_setCell_other _ _ _ _ hne, heap_setCell_other _ _ _ _ hne]
/-- What find tells, by what names have. -/
theorem find_env {w : World} {mv bv ov obv : Value} {E : Env} (hE : EnvAt w mv bv ov obv E) (nm : List UInt8) : ∀ w1, Kept w w1 → Calls Try.prog 99 #[.agg #[mv, bv, ov, obv, .int .i64 E.res, .int .i64 E.t], .string ⟨nm.toArray⟩] w1 fun e w' =>
    e = .returned (match bindF E nm with | none => .tuple #[biVal Bi.none, .bool false] | some (_, b) => .tuple #[biVal b, .bool true]) ∧ Kept w1 w' := by
  intro w1 hk
  have h1 := hE.kept hk
  rcases h1.mem with ⟨rfl, hm⟩ | ⟨B, p, v, L, rfl, hM, hm⟩
  · rw [show bindF E nm = none by unfold bindF; rw [hm]]
    exact Fnd.find_nil w1 _ _ _ _ _ nm
  · refine (Fnd.find_any w1 ⟨p, 0, none⟩ bv ov obv _ _ nm E.binds h1.binds).mono ?_
    rintro e w' ⟨rfl, h⟩
    refine ⟨?_, h⟩
    unfold bindF foundV
    rw [hm]
    cases findF E.binds nm <;> rfl
set_option maxRecDepth 100000 in
set_option maxHeartbeats 4000000 in
theorem named_any (n : Ex) (idx : Int) (w : World) (mv bv ov obv : Value) (E : Env) (hE : EnvAt w mv bv ov obv E) : Calls Try.prog 97 #[exVal n, envVal mv bv ov obv E, .int .i64 idx] w fun e w' => e = .returned (ansVal (namedA n E idx)) ∧ Kept w w' := by
  have HF := Lib.hid (find_env hE n.name)
  unfold namedA
  cases hb : bindF E n.name with
  | none =>
    rw [hb] at HF
    have HA := Lib.hid (fun w => absent_any w)
    unfold ansVal Ans.none at HA
    unfold ansVal Ans.none
    unfold exVal envVal
    simp only
    clear hE hb
    unfold biVal Bi.none at HF
    simp only at HF
    go_enter Try.func97, Try.ntmps97
    go_upto_region 1 with fail
    obtain ⟨x0, x1, x2, kW, hsz⟩ := three w (.cells #[.int .i64 n.kind, .int .i64 n.num, .int .i64 n.ty, .string ⟨n.name.toArray⟩, .int .i64 n.a, .int .i64 n.b, .int .i64 n.place] 146) (.cells #[mv, bv, ov, obv, .int .i64 E.res, .int .i64 E.t] 49) (.cells #[.int .i64 0, .int .i64 0, .int .i64 0, .int .i64 0] 124)
    generalize (((w.alloc (.cells #[.int .i64 n.kind, .int .i64 n.num, .int .i64 n.ty, .string ⟨n.name.toArray⟩, .int .i64 n.a, .int .i64 n.b, .int .i64 n.place] 146)).alloc (.cells #[mv, bv, ov, obv, .int .i64 E.res, .int .i64 E.t] 49)).alloc (.cells #[.int .i64 0, .int .i64 0, .int .i64 0, .int .i64 0] 124)) = W at *
    have n3 := bx_cell x0 3 _ rfl
    have e0 := bx_cell x1 0 _ rfl
    have e1 := bx_cell x1 1 _ rfl
    have e2 := bx_cell x1 2 _ rfl
    have e3 := bx_cell x1 3 _ rfl
    have e4 := bx_cell x1 4 _ rfl
    have e5 := bx_cell x1 5 _ rfl
    have r0 := bx_cell x2 0 _ rfl
    have r1 := bx_cell x2 1 _ rfl
    have r2 := bx_cell x2 2 _ rfl
    have r3 := bx_cell x2 3 _ rfl
    have rf := bx_froz x2
    have X := Lib.hid x2
    have KW := Lib.hid kW
    clear x0 x1 x2 kW
    go_upto_region 2 with (go_at_call 99; refine (HF.out _ KW.out).mono ?_; rintro e w5 ⟨rfl, k5⟩; have K5 := Lib.hid k5; clear k5)
    have KY := Lib.hid (KW.out.trans (K5.out.alloc (.cells #[.string ⟨#[]⟩, .int .i64 0, .int .i64 0, .int .i64 0] 58)))
    have Y := Lib.hid (kh X.out (K5.out.alloc (.cells #[.string ⟨#[]⟩, .int .i64 0, .int .i64 0, .int .i64 0] 58)))
    generalize w5.alloc (.cells #[.string ⟨#[]⟩, .int .i64 0, .int .i64 0, .int .i64 0] 58) = w6 at *
    generalize w5.heap.size = c at *
    go_wp2_with (go_at_call 94; refine (HA.out _).mono ?_; rintro e w7 ⟨rfl, k7⟩; have y2 := kh Y.out k7; have r0' := bx_cell y2 0 _ rfl; have r1' := bx_cell y2 1 _ rfl; have r2' := bx_cell y2 2 _ rfl; have r3' := bx_cell y2 3 _ rfl; have rf' := bx_froz y2; have Y2 := Lib.hid y2; have KZ := Lib.hid (KY.out.trans k7); clear k7 y2)
    have s := put4 (w := w) (W := w7) (i := w.heap.size + 1 + 1) (.int .i64 0) (.int .i64 5) (.int .i64 0) (.int .i64 0) (by omega) KZ.out Y2.out
    have z0 := bx_cell s.1 0 _ rfl
    have z1 := bx_cell s.1 1 _ rfl
    have z2 := bx_cell s.1 2 _ rfl
    have z3 := bx_cell s.1 3 _ rfl
    have S := Lib.hid s.2
    clear s HF HA
    simp [bodyPost, results, Try.f97, go_sem, z0, z1, z2, z3]
    exact S.out
  | some q =>
    obtain ⟨L, b⟩ := q
    rw [hb] at HF
    obtain ⟨B, p, v, hmv, hM⟩ : ∃ B p v, mv = .pointer (some ⟨p, 0, none⟩) ∧ MemAt B 64 w p v L := by
      unfold bindF at hb
      rcases hE.mem with ⟨_, hm⟩ | ⟨B, p, v, L', h1, h2, h3⟩
      · rw [hm] at hb; cases hb
      · rw [h3] at hb
        cases hf : findF E.binds n.name with
        | none => rw [hf] at hb; cases hb
        | some b' => rw [hf] at hb; injection hb with hb; injection hb with hb _; subst hb; exact ⟨B, p, v, h1, h2⟩
    subst hmv
    have HG : Hid (∀ w1, Kept w w1 → ∀ at_, Calls Try.prog 101 #[.pointer (some ⟨p, 0, none⟩), .int .i64 b.id, .int .i64 at_] w1 fun e w' => e = .returned (.tuple #[.int .i64 (getV L b.id at_).1, .bool (getV L b.id at_).2]) ∧ w1 = w') := Lib.hid fun w1 hk at_ => Mem.get_any (hM.kept hk) b.id at_
    have HP := Lib.hid (fun w => hasPlace_any b idx w)
    unfold biVal at HF HP
    simp only at HF ⊢
    clear hE hb hM
    obtain ⟨K, hK⟩ : ∃ K : Int, (n.kind : Int) = K := ⟨_, rfl⟩
    by_cases h3 : n.kind = 3
    case' neg => rw [if_neg h3]; have hb3 : (K == 3) = false := by simp; omega
    case' pos =>
      rw [if_pos h3]
      by_cases hh : hasF b idx = false
      case' pos => rw [if_pos hh]; rw [hh] at HP
      case' neg => rw [if_neg hh]; rw [show hasF b idx = true by simpa using hh] at HP
      all_goals have hb3 : (K == 3) = true := by simp; omega
    all_goals
      unfold ansVal exVal envVal
      rw [hK]
      clear hK h3
      go_enter Try.func97, Try.ntmps97
      go_upto_region 1 with fail
      obtain ⟨x0, x1, x2, kW, hsz⟩ := three w (.cells #[.int .i64 K, .int .i64 n.num, .int .i64 n.ty, .string ⟨n.name.toArray⟩, .int .i64 n.a, .int .i64 n.b, .int .i64 n.place] 146) (.cells #[.pointer (some ⟨p, 0, none⟩), bv, ov, obv, .int .i64 E.res, .int .i64 E.t] 49) (.cells #[.int .i64 0, .int .i64 0, .int .i64 0, .int .i64 0] 124)
      generalize (((w.alloc (.cells #[.int .i64 K, .int .i64 n.num, .int .i64 n.ty, .string ⟨n.name.toArray⟩, .int .i64 n.a, .int .i64 n.b, .int .i64 n.place] 146)).alloc (.cells #[.pointer (some ⟨p, 0, none⟩), bv, ov, obv, .int .i64 E.res, .int .i64 E.t] 49)).alloc (.cells #[.int .i64 0, .int .i64 0, .int .i64 0, .int .i64 0] 124)) = W at *
      have n0 := bx_cell x0 0 _ rfl
      have n3 := bx_cell x0 3 _ rfl
      have n6 := bx_cell x0 6 _ rfl
      have e0 := bx_cell x1 0 _ rfl
      have e1 := bx_cell x1 1 _ rfl
      have e2 := bx_cell x1 2 _ rfl
      have e3 := bx_cell x1 3 _ rfl
      have e4 := bx_cell x1 4 _ rfl
      have e5 := bx_cell x1 5 _ rfl
      have r0 := bx_cell x2 0 _ rfl
      have r1 := bx_cell x2 1 _ rfl
      have r2 := bx_cell x2 2 _ rfl
      have r3 := bx_cell x2 3 _ rfl
      have rf := bx_froz x2
      have X := Lib.hid (And.intro x0 (And.intro x1 x2))
      have KW := Lib.hid kW
      clear x0 x1 x2 kW
      go_upto_region 2 with (go_at_call 99; refine (HF.out _ KW.out).mono ?_; rintro e w5 ⟨rfl, k5⟩; have K5 := Lib.hid k5; clear k5)
      have y0 := kh X.out.1 (K5.out.alloc (.cells #[.string ⟨b.name.toArray⟩, .int .i64 b.t, .int .i64 b.size, .int .i64 b.id] 58))
      have y1 := kh X.out.2.1 (K5.out.alloc (.cells #[.string ⟨b.name.toArray⟩, .int .i64 b.t, .int .i64 b.size, .int .i64 b.id] 58))
      have y2 := kh X.out.2.2 (K5.out.alloc (.cells #[.string ⟨b.name.toArray⟩, .int .i64 b.t, .int .i64 b.size, .int .i64 b.id] 58))
      have y3 := World.alloc_heap_new w5 (.cells #[.string ⟨b.name.toArray⟩, .int .i64 b.t, .int .i64 b.size, .int .i64 b.id] 58)
      have n01 := bx_cell y0 0 _ rfl
      have n61 := bx_cell y0 6 _ rfl
      have e01 := bx_cell y1 0 _ rfl
      have r01 := bx_cell y2 0 _ rfl
      have r11 := bx_cell y2 1 _ rfl
      have r21 := bx_cell y2 2 _ rfl
      have r31 := bx_cell y2 3 _ rfl
      have b01 := bx_cell y3 0 _ rfl
      have b11 := bx_cell y3 1 _ rfl
      have b21 := bx_cell y3 2 _ rfl
      have b31 := bx_cell y3 3 _ rfl
      have rf1 := bx_froz y2
      have Y := Lib.hid (And.intro y0 (And.intro y1 (And.intro y2 y3)))
      have KY := Lib.hid (KW.out.trans (K5.out.alloc (.cells #[.string ⟨b.name.toArray⟩, .int .i64 b.t, .int .i64 b.size, .int .i64 b.id] 58)))
      have h5 : w.heap.size + 3 ≤ w5.heap.size := by have := Below.size K5.out; omega
      clear y0 y1 y2 y3 n0 n3 n6 e0 e1 e2 e3 e4 e5 r0 r1 r2 r3 rf
      generalize w5.alloc (.cells #[.string ⟨b.name.toArray⟩, .int .i64 b.t, .int .i64 b.size, .int .i64 b.id] 58) = w6 at *
      generalize w5.heap.size = c at *
      go_wp2_with (first | (go_at_call 101; refine (HG.out _ (by exact KY.out) _).mono ?_; rintro e w' ⟨rfl, rfl⟩) | (go_at_call 100; refine (HP.out _).mono ?_; rintro e w7 ⟨rfl, k7⟩; have y0 := kh Y.out.1 k7; have y1 := kh Y.out.2.1 k7; have y2 := kh Y.out.2.2.1 k7; have y3 := kh Y.out.2.2.2 k7; have n02 := bx_cell y0 0 _ rfl; have n62 := bx_cell y0 6 _ rfl; have e02 := bx_cell y1 0 _ rfl; have r02 := bx_cell y2 0 _ rfl; have r12 := bx_cell y2 1 _ rfl; have r22 := bx_cell y2 2 _ rfl; have r32 := bx_cell y2 3 _ rfl; have b02 := bx_cell y3 0 _ rfl; have b12 := bx_cell y3 1 _ rfl; have b22 := bx_cell y3 2 _ rfl; have b32 := bx_cell y3 3 _ rfl; have rf2 := bx_froz y2; have Y2 := Lib.hid (And.intro y0 (And.intro y1 (And.intro y2 y3))); have KY := Lib.hid (KY.out.trans k7); clear k7 y0 y1 y2 y3))
      first | (have s := put4 (w := w) (W := w6) (i := w.heap.size + 1 + 1) (.int .i64 (getV L b.id 0).1) (.int .i64 b.t) (.int .i64 0) (.int .i64 0) (by omega) KY.out Y.out.2.2.1; have z0 := bx_cell s.1 0 _ rfl; have z1 := bx_cell s.1 1 _ rfl; have z2 := bx_cell s.1 2 _ rfl; have z3 := bx_cell s.1 3 _ rfl; have S := Lib.hid s.2; clear s HF HP HG; simp [bodyPost, results, Try.f97, go_sem, z0, z1, z2, z3]; exact S.out) | (have s := put4 (w := w) (W := w7) (i := w.heap.size + 1 + 1) (.int .i64 (getV L b.id idx).1) (.int .i64 b.t) (.int .i64 0) (.int .i64 0) (by omega) KY.out Y2.out.2.2.1; have z0 := bx_cell s.1 0 _ rfl; have z1 := bx_cell s.1 1 _ rfl; have z2 := bx_cell s.1 2 _ rfl; have z3 := bx_cell s.1 3 _ rfl; have S := Lib.hid s.2; clear s HF HP HG; simp [bodyPost, results, Try.f97, go_sem, z0, z1, z2, z3]; exact S.out) | (have s := put4 (w := w) (W := w7) (i := w.heap.size + 1 + 1) (.int .i64 0) (.int .i64 b.t) (.int .i64 4) (.int .i64 n.place) (by omega) KY.out Y2.out.2.2.1; have z0 := bx_cell s.1 0 _ rfl; have z1 := bx_cell s.1 1 _ rfl; have z2 := bx_cell s.1 2 _ rfl; have z3 := bx_cell s.1 3 _ rfl; have S := Lib.hid s.2; clear s HF HP HG; simp [bodyPost, results, Try.f97, go_sem, z0, z1, z2, z3]; exact S.out)
end Go.Proofs.Ythjnkjekidagiaa.Evl
