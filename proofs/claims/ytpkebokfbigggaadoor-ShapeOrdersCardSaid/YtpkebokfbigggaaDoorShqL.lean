/-
  Package shape: parted.
-/
import Derived.Test.YtpkebokfbigggaaDoorShqK
import Derived.Laws.StructEq
namespace Go.Proofs.YtpkebokfbigggaaDoor.Shp
open Go.RowKit Go.Shelf
open Classical
attribute [local go_sem] Oper.semAt_some

/-! A set is held against the one that has nothing. -/
theorem eqIn_u64 (d : Nat) (a b : Int) (w : World) : (Op.equalIn (d + 1) 40 (.int .u64 a) (.int .u64 b)).run Tryd.prog w = .ok (a == b) w := by
  simp [Op.equalIn, run_underlying Tryd.underlying40]
theorem part_set (x i : Nat) (hi : i < 32) (w : World) : (part 40 (setC x) i).run Tryd.prog w = .ok (.int .u64 (wd x i : Nat)) w := by
  have h := setC_at x i hi
  simp [part, Sem.run_bind, Tryd.isAgg40, h, Result.andThen_ok]
def eqStep (x : Nat) : Nat → Option Bool × Unit → Sem (ForInStep (Option Bool × Unit)) := fun i _ => do
  let a ← part 40 (setC x) i
  let b ← part 40 (setC 0) i
  let r ← Op.equalIn 9999 40 a b
  if (!r) = true then pure (ForInStep.done (some false, ())) else pure (ForInStep.yield (none, ()))
theorem run_eqStep (x i : Nat) (hi : i < 32) (s : Option Bool × Unit) (w : World) : (eqStep x i s).run Tryd.prog w = .ok (if wd x i = 0 then ForInStep.yield (none, ()) else ForInStep.done (some false, ())) w := by
  unfold eqStep
  simp only [Sem.run_bind, part_set x i hi, part_set 0 i hi, Result.andThen_ok, show (9999 : Nat) = 9998 + 1 from rfl, eqIn_u64]
  by_cases h : wd x i = 0
  · rw [if_pos h]
    have e2 : (((wd x i : Nat) : Int) == ((wd 0 i : Nat) : Int)) = true := by
      have : wd 0 i = 0 := by unfold wd; split <;> rfl
      rw [this, h]; rfl
    rw [e2]; simp
  · rw [if_neg h]
    have e2 : (((wd x i : Nat) : Int) == ((wd 0 i : Nat) : Int)) = false := by
      have : wd 0 i = 0 := by unfold wd; split <;> rfl
      rw [this, beq_eq_false_iff_ne]; omega
    rw [e2]; simp
theorem eq_rest (x : Nat) : ∀ (l : List Nat), (∀ i ∈ l, i < 32 ∧ wd x i = 0) → ∀ w, (forIn l ((none, ()) : Option Bool × Unit) (eqStep x)).run Tryd.prog w = .ok (none, ()) w
  | [], _, w => by simp
  | i :: l, h, w => by
    rw [List.forIn_cons, Sem.run_bind, run_eqStep x i (h i (by simp)).1, if_pos (h i (by simp)).2, Result.andThen_ok]
    exact eq_rest x l (fun j hj => h j (by simp [hj])) w
theorem eq_set (w : World) (x : Nat) : (Op.equal 42 (.agg (setC x)) (.agg (setC 0))).run Tryd.prog w = .ok (x == 0) w := by
  unfold Op.equal Op.maxDepth
  rw [show 10000 = 9999 + 1 from rfl]
  unfold Op.equalIn
  simp only [Sem.run_bind, run_underlying Tryd.underlying42, Result.andThen_ok, Tryd.sizeOf40, Nat.mul_one]
  rw [Std.Legacy.Range.forIn_eq_forIn_range']
  have hr : List.range' ([:32] : Std.Legacy.Range).start ([:32] : Std.Legacy.Range).size ([:32] : Std.Legacy.Range).step = 0 :: List.range' 1 31 := by decide
  have hx : (fun (i : Nat) (__s : Option Bool × Unit) => (do
            let a ← part 40 (setC x) i
            let b ← part 40 (setC 0) i
            let r ← Op.equalIn 9999 40 a b
            if (!r) = true then pure (ForInStep.done (some false, ())) else pure (ForInStep.yield (none, ())) : Sem (ForInStep (Option Bool × Unit)))) = eqStep x := rfl
  rw [hr, hx]
  rw [List.forIn_cons, Sem.run_bind, run_eqStep x 0 (by decide)]
  by_cases h : x = 0
  · subst h
    rw [if_pos (show wd 0 0 = 0 from rfl), Result.andThen_ok]
    simp only
    rw [eq_rest 0 _ (fun i hi => by have := List.mem_range'.1 hi; exact ⟨by omega, by unfold wd; split <;> rfl⟩)]
    simp
  · have : wd x 0 ≠ 0 := h
    rw [if_neg this, Result.andThen_ok]
    simp [h]
theorem guard_set (w : World) (x y : Nat) (a b : Operand) : (eqGuard .eql 42 a b (.agg (setC x)) (.agg (setC y))).run Tryd.prog w = .ok () w := by
  have h : Tryd.prog.eqGuardType Tryd.prog.depth 42 = false := by kernel_rfl
  simp [eqGuard, Sem.run_bind, h]
theorem run_eq_set (w : World) (x : Nat) : (binOp .eql 42 (.agg (setC x)) (.agg (setC 0))).run Tryd.prog w = .ok (.bool (x == 0)) w := by
  simp [binOp, Sem.run_bind, eq_set, Result.andThen_ok]
theorem opIn_eqset {F : Fence} {n : Nat} {Q : Exit → Act → World → Prop} {o : Oper} {a : Act} {w : World} {K : Act → World → Prop} {x y : Operand} {t' : TypeId} {s : Nat} (hop : o.op = .binOp .eql 42 x y t') (hx : a.eval x = .agg (setC s)) (hy : a.eval y = .agg (setC 0)) (hK : K (a.put o.dst (.bool (s == 0))) w) : o.wpIn F n Tryd.prog a w K Q := by
  refine opIn_run (v := .bool (s == 0)) (w' := w) (by simp [Oper.about, hop]) (by rw [hop]; intro c h; cases h) ?_ hK
  unfold execOp
  simp [hop, hx, hy, Sem.run_bind, guard_set, run_eq_set, Result.andThen_ok]
/-- .. in a plain walk. -/
theorem wpList_eqset {ops : Array Oper} {rest : List Oper} {o : Oper} {a : Act} {w : World} {Q : Exit → Act → World → Prop} (hgd : o.guard = none) (x y : Operand) {t' : TypeId} (ho : o.op = .binOp .eql 42 x y t')
    (s : Nat) (hx : a.eval x = .agg (setC s)) (hy : a.eval y = .agg (setC 0)) (h : wpList Tryd.prog ops Q rest (a.put o.dst (.bool (s == 0))) w) : wpList Tryd.prog ops Q (o :: rest) a w :=
  wpList_plain hgd fun K hK => by
    unfold Oper.wp execOp
    simp only [ho, hx, hy, Sem.run_bind, guard_set, run_eq_set, Result.andThen_ok, Sem.run_pure]
    exact hK _ _ h

/-! Plain. -/
noncomputable def onN (g : Gr) (f : Int) (a : Nat) : Nat := setN g.length fun b => decide (0 ≤ f ∧ fwd g f.toNat a b)
noncomputable def onL (g : Gr) (f : Int) : List Nat := (List.range g.length).map (onN g f)
noncomputable def onP (g : Gr) (f : Int) (k : Nat) : List Nat := (List.range g.length).map fun a => if a < k then onN g f a else 0
noncomputable def hdN (g : Gr) (f : Int) : Nat := setN g.length fun b => decide (IsHead g f b)
noncomputable def hdP (g : Gr) (f : Int) (k : Nat) : Nat := setN g.length fun b => decide (0 ≤ f ∧ ∃ a, a < k ∧ back g f.toNat a b)
noncomputable def dmN (g : Gr) (f : Int) (k : Nat) : Nat := setN g.length fun a => dmB g f a k
theorem in_dm {g : Gr} {f : Int} {k b : Nat} : In (dmN g f k) b ↔ 0 ≤ f ∧ Re g f.toNat k ∧ Dom g f.toNat b k := by
  unfold dmN
  rw [in_setN]
  unfold dmB
  rw [decide_eq_true_eq]
  constructor
  · exact fun h => h.2
  · rintro ⟨h1, h2, h3⟩
    refine ⟨?_, h1, h2, h3⟩
    rcases h3 with e | h3
    · subst e; exact h2.lt
    · exact h3.lt.lt
theorem dmN_zero {g : Gr} {f : Int} {k : Nat} : dmN g f k = 0 ↔ ¬ ReI g f k := by
  constructor
  · intro h hr
    have : In (dmN g f k) k := in_dm.2 ⟨hr.1, hr.2, .inl rfl⟩
    rw [h] at this
    exact not_in_zero k this
  · intro h
    exact zero_of fun i hi => h ⟨(in_dm.1 hi).1, (in_dm.1 hi).2.1⟩
theorem ext_in {x y : Nat} (h : ∀ i, In x i ↔ In y i) : x = y := Nat.eq_of_testBit_eq fun i => by
  have := h i
  unfold In at this
  rw [Bool.eq_iff_iff]; exact this
theorem in_and {x y i : Nat} : In (x &&& y) i ↔ In x i ∧ In y i := by unfold In; rw [Nat.testBit_and, Bool.and_eq_true]
theorem hd_step {g : Gr} {f : Int} {k : Nat} : hdP g f k ||| (xeN g k &&& dmN g f k) = hdP g f (k + 1) := by
  refine ext_in fun b => ?_
  unfold hdP
  rw [in_or, in_and, in_xe, in_dm, in_setN, in_setN, decide_eq_true_eq, decide_eq_true_eq]
  constructor
  · rintro (⟨h1, h2, a, h3, h4⟩ | ⟨h1, h2, h3, h4⟩)
    · exact ⟨h1, h2, a, by omega, h4⟩
    · exact ⟨h1.2.1, h2, k, by omega, h3, h1, h4⟩
  · rintro ⟨h1, h2, a, h3, h4⟩
    by_cases e : a = k
    · subst e; exact .inr ⟨h4.2.1, h2, h4.1, h4.2.2⟩
    · exact .inl ⟨h1, h2, a, by omega, h4⟩
theorem hd_skip {g : Gr} {f : Int} {k : Nat} (h : ¬ ReI g f k) : hdP g f k = hdP g f (k + 1) := by
  rw [← hd_step, dmN_zero.2 h]; simp
theorem hd_zero (g : Gr) (f : Int) : hdP g f 0 = 0 := setN_none fun b _ => decide_eq_false fun h => by obtain ⟨_, a, h, _⟩ := h; omega
theorem hd_end (g : Gr) (f : Int) : hdP g f g.length = hdN g f := by
  unfold hdP hdN
  refine setN_congr fun b _ => ?_
  rw [decide_eq_decide]
  exact ⟨fun ⟨h1, a, _, h2⟩ => ⟨h1, a, h2⟩, fun ⟨h1, a, h2⟩ => ⟨h1, a, h2.1.lt, h2⟩⟩
theorem on_less {g : Gr} (hl : g.length ≤ 64) {f : Int} {k : Nat} (h : ReI g f k) : lessN (xeN g k) (xeN g k &&& dmN g f k) = onN g f k := by
  refine ext_in fun b => ?_
  have h1 : xeN g k < 2 ^ g.length := setN_lt _ _
  rw [in_less hl h1 (Nat.lt_of_le_of_lt Nat.and_le_left h1), in_and, in_xe, in_dm]
  unfold onN
  rw [in_setN, decide_eq_true_eq]
  constructor
  · rintro ⟨k1, k2⟩
    exact ⟨k1.2.1, h.1, h.2, k1, fun k3 => k2 ⟨k1, h.1, h.2, k3⟩⟩
  · rintro ⟨k1, k2, k3, k4, k5⟩
    exact ⟨k4, fun q => k5 q.2.2.2⟩
theorem on_none {g : Gr} {f : Int} {k : Nat} (h : ¬ ReI g f k) : onN g f k = 0 := setN_none fun b _ => decide_eq_false fun q => h ⟨q.1, q.2.1⟩
theorem onP_len (g : Gr) (f : Int) (k : Nat) : (onP g f k).length = g.length := by simp [onP]
theorem onP_zero (g : Gr) (f : Int) : onP g f 0 = List.replicate g.length 0 := by
  apply List.ext_getElem (by simp [onP])
  intro i h1 h2
  simp [onP]
theorem onP_end (g : Gr) (f : Int) : onP g f g.length = onL g f := by
  unfold onP onL
  apply List.map_congr_left
  intro i hi
  rw [if_pos (List.mem_range.1 hi)]
theorem onP_set {g : Gr} {f : Int} {k : Nat} : (onP g f k).set k (onN g f k) = onP g f (k + 1) := by
  apply List.ext_getElem (by simp [onP])
  intro i h1 h2
  rw [List.getElem_set]
  simp only [onP, List.getElem_map, List.getElem_range]
  by_cases e : k = i
  · subst e; simp
  · rw [if_neg e]
    by_cases h : i < k
    · rw [if_pos h, if_pos (by omega)]
    · rw [if_neg h, if_neg (by omega)]
theorem onP_skip {g : Gr} {f : Int} {k : Nat} (h : ¬ ReI g f k) : onP g f k = onP g f (k + 1) := by
  rw [← onP_set, on_none h]
  apply List.ext_getElem (by simp)
  intro i h1 h2
  rw [List.getElem_set]
  split
  · rename_i e; subst e; simp [onP]
  · rfl
/-- A set in a slice of sets is stored whole. -/
theorem gs_store {w : World} {b : Nat} {X : List Nat} (h : Gs w b X) {j : Nat} (hj : j < X.length) (z : Nat) : ∃ w', (storeVar 42 ⟨b, j * 32, none⟩ (.agg (setC z))).run Tryd.prog w = .ok () w' ∧ Chg (fun k => k = b) w w' ∧ Gs w' b (X.set j z) := by
  obtain ⟨cs, h1, h2, h3⟩ := h
  have hr := run_storeCells_at Tryd.prog b (j * 32) 42 (setC z).toList 0 cs w h1 (by rw [h2]; simp [setC_size]; omega) (fun v hv => by
    have := setC_one z
    rw [Array.all_eq_true'] at this
    exact this v (by simpa using hv))
  obtain ⟨A, hA⟩ : ∃ A, (cs.toList.take (j * 32 + 0) ++ (setC z).toList ++ cs.toList.drop (j * 32 + 0 + (setC z).toList.length)).toArray = A := ⟨_, rfl⟩
  rw [hA] at hr
  refine ⟨w.setRow b A, ?_, ⟨rfl, rfl, rfl, by simp [World.setRow], fun k _ hk => setRow_other w b k _ hk⟩, A, setRow_heap w b _ _ _ _ h1, ?_, fun k hk i hi => ?_⟩
  · have e : (Value.agg (setC z)).cells = setC z := rfl
    simp only [storeVar, Sem.run_bind, Tryd.sizeOf42, Result.andThen_ok, e, setC_size]
    simpa using hr
  · rw [← hA]; simp [setC_size, h2]; omega
  · rw [← hA]
    rw [List.length_set] at hk
    have e1 : (setC z).toList.length = 32 := by simp [setC_size]
    rw [List.getElem?_toArray, List.getElem_set]
    by_cases e : j = k
    · subst e
      rw [if_pos rfl, List.append_assoc, List.getElem?_append_right (by simp; omega), List.getElem?_append_left (by simp [setC_size, h2]; omega)]
      have e2 : j * 32 + i - (List.take (j * 32 + 0) cs.toList).length = i := by simp [h2]; omega
      rw [e2, Array.getElem?_toList]
      exact setC_at z i hi
    · rw [if_neg e]
      by_cases h4 : k < j
      · rw [List.append_assoc, List.getElem?_append_left (by simp [h2]; omega), List.getElem?_take, if_pos (by omega), Array.getElem?_toList]
        exact h3 k hk i hi
      · rw [List.append_assoc, List.getElem?_append_right (by simp [h2]; omega), List.getElem?_append_right (by simp [h2, setC_size]; omega), List.getElem?_drop, Array.getElem?_toList]
        have e3 : j * 32 + 0 + (setC z).toList.length + (k * 32 + i - (List.take (j * 32 + 0) cs.toList).length - (setC z).toList.length) = k * 32 + i := by simp [h2, setC_size]; omega
        rw [e3]
        exact h3 k hk i hi
end Go.Proofs.YtpkebokfbigggaaDoor.Shp
