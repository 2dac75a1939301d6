/-
  A region that draws its order, within a round: where each operation, whenever it comes up, yields its own value and leaves a world that keeps what is asked, the order does not matter.
-/
import Derived.Test.YtpkebokfbigggaaDoorShqF
import Derived.OrdersIn
namespace Go.Proofs.YtpkebokfbigggaaDoor.Shp
open Go.RowKit Go.Shelf

section
variable {F : Fence} {n : Nat} {P : Program} {ops : Array Oper} {Q : Exit → Act → World → Prop} {base : Nat} {vals : Nat → Value} {a0 : Act} {Inv : Array Bool → World → Prop}
/-- The frame behind the operations that are listed: each in its own slot. -/
structure Fr (ops : Array Oper) (base : Nat) (vals : Nat → Value) (a0 : Act) (L : Array Bool) (a : Act) : Prop where
  defers : a.defers = a0.defers
  size : a.tmps.size = a0.tmps.size
  at' : ∀ s, a.tmps[s]? = if base ≤ s ∧ s - base < ops.size ∧ L.getD (s - base) false = true then some (vals (s - base)) else a0.tmps[s]?
theorem Fr.put {L : Array Bool} {a : Act} (h : Fr ops base vals a0 L a) (hsz : base + ops.size ≤ a0.tmps.size) (hL : L.size = ops.size) {i : Nat} (hi : i < ops.size) : Fr ops base vals a0 (L.setIfInBounds i true) (a.put (some (base + i)) (vals i)) := by
  refine ⟨h.defers, by simp [Act.put, h.size], fun s => ?_⟩
  show (a.tmps.setIfInBounds (base + i) (vals i))[s]? = _
  rw [Array.getElem?_setIfInBounds]
  by_cases e : base + i = s
  · subst e
    rw [if_pos rfl, if_pos (by rw [h.size]; omega), if_pos ⟨by omega, by omega, by rw [Nat.add_sub_cancel_left]; simp [hL, hi]⟩, Nat.add_sub_cancel_left]
  · rw [if_neg e, h.at']
    by_cases h1 : base ≤ s ∧ s - base < ops.size
    · have e2 : i ≠ s - base := by omega
      have e3 : (L.setIfInBounds i true).getD (s - base) false = L.getD (s - base) false := by
        simp [Array.getD_eq_getD_getElem?, Array.getElem?_setIfInBounds, e2]
      simp only [e3]
    · rw [if_neg (fun k => h1 ⟨k.1, k.2.1⟩), if_neg (fun k => h1 ⟨k.1, k.2.1⟩)]
/-- A slot that is listed. -/
theorem Fr.val {L : Array Bool} {a : Act} (h : Fr ops base vals a0 L a) {i : Nat} (hi : i < ops.size) (hl : L.getD i false = true) : a.eval (.tmp (base + i)) = vals i := by
  have := h.at' (base + i)
  rw [if_pos ⟨by omega, by omega, by rw [Nat.add_sub_cancel_left]; exact hl⟩, Nat.add_sub_cancel_left] at this
  simp [Act.eval, this]
/-- A slot of before. -/
theorem Fr.old {L : Array Bool} {a : Act} (h : Fr ops base vals a0 L a) {s : Nat} (hs : s < base) : a.eval (.tmp s) = a0.eval (.tmp s) := by
  have := h.at' s
  rw [if_neg (by omega)] at this
  simp [Act.eval, this]
def putAll (vals : Nat → Value) (base : Nat) : Nat → Array Value → Array Value
  | 0, t => t
  | k + 1, t => (putAll vals base k t).setIfInBounds (base + k) (vals k)
theorem putAll_size (k : Nat) (t : Array Value) : (putAll vals base k t).size = t.size := by
  induction k with
  | zero => rfl
  | succ k ih => simp [putAll, ih]
theorem putAll_at {k : Nat} {t : Array Value} (hk : base + k ≤ t.size) (s : Nat) : (putAll vals base k t)[s]? = if base ≤ s ∧ s - base < k then some (vals (s - base)) else t[s]? := by
  induction k with
  | zero => rw [if_neg (by omega)]; rfl
  | succ k ih =>
    unfold putAll
    rw [Array.getElem?_setIfInBounds, ih (by omega)]
    by_cases e : base + k = s
    · subst e
      rw [if_pos rfl, if_pos (by rw [putAll_size]; omega), if_pos (by omega), Nat.add_sub_cancel_left]
    · rw [if_neg e]
      by_cases h1 : base ≤ s ∧ s - base < k
      · rw [if_pos h1, if_pos (by omega)]
      · rw [if_neg h1, if_neg (by omega)]
theorem Fr.all {L : Array Bool} {a : Act} (h : Fr ops base vals a0 L a) (hsz : base + ops.size ≤ a0.tmps.size) (hall : ∀ i, i < ops.size → L.getD i false = true) : a = { tmps := putAll vals base ops.size a0.tmps, defers := a0.defers } := by
  have e : a.tmps = putAll vals base ops.size a0.tmps := by
    apply Array.ext_getElem?
    intro s
    rw [h.at', putAll_at hsz]
    by_cases h1 : base ≤ s ∧ s - base < ops.size
    · rw [if_pos ⟨h1.1, h1.2, hall _ h1.2⟩, if_pos h1]
    · rw [if_neg (fun k => h1 ⟨k.1, k.2.1⟩), if_neg h1]
  obtain ⟨t, d⟩ := a
  simp only at e
  have hd := h.defers
  simp only at hd
  subst e hd
  rfl
def unl (L : Array Bool) : Nat := (L.toList.filter fun b => !b).length
theorem unl_set {L : Array Bool} {i : Nat} (hi : i < L.size) (h : L.getD i false = false) : unl (L.setIfInBounds i true) < unl L := by
  have e : L.toList[i]? = some false := by
    rw [Array.getElem?_toList, Array.getElem?_eq_getElem hi]
    simp [Array.getD_eq_getD_getElem?, hi] at h
    simp [h]
  have : ∀ (l : List Bool) (i : Nat), l[i]? = some false → ((l.set i true).filter fun b => !b).length < (l.filter fun b => !b).length := by
    intro l
    induction l with
    | nil => intro i h; cases h
    | cons b l ih =>
      intro i h
      cases i with
      | zero =>
        simp at h
        subst h
        simp
      | succ i =>
        have := ih i (by simpa using h)
        cases b <;> simp <;> omega
  unfold unl
  rw [Array.toList_setIfInBounds]
  exact this _ _ e
theorem unl_pos {L : Array Bool} {i : Nat} (hi : i < L.size) (h : L.getD i false = false) : 0 < unl L := Nat.lt_of_le_of_lt (Nat.zero_le _) (unl_set hi h)
theorem any_inv (hsz : base + ops.size ≤ a0.tmps.size) (hd : ∀ i o, ops[i]? = some o → o.dst = some (base + i) ∧ o.guard = none)
    (hstep : ∀ i o L a w (K : Act → World → Prop), ops[i]? = some o → L.getD i false = false → L.size = ops.size → (∀ e ∈ o.after, Region.binds .any e = true → L.getD e.on false = true) → Fr ops base vals a0 L a → Inv L w → (∀ w', Inv (L.setIfInBounds i true) w' → K (a.put (some (base + i)) (vals i)) w') → o.wpIn F n P a w K Q)
    (hend : ∀ L w, (∀ i, i < ops.size → L.getD i false = true) → Inv L w → Q .normal { tmps := putAll vals base ops.size a0.tmps, defers := a0.defers } w)
    (hacyc : ∀ L : Array Bool, L.size = ops.size → Region.ready .any ops L = [] → ∀ i, i < ops.size → L.getD i false = true) :
    ∀ (fuel : Nat) (L : Array Bool) (a : Act) (w : World), unl L ≤ fuel → L.size = ops.size → Fr ops base vals a0 L a → Inv L w → wpAnyIn F n P .any ops Q fuel L a w := by
  intro fuel
  induction fuel with
  | zero =>
    intro L a w hu hL hF hI
    have hall : ∀ i, i < ops.size → L.getD i false = true := fun i hi => by
      cases h : L.getD i false with
      | true => rfl
      | false => have := unl_pos (by omega) h; omega
    refine ⟨?_, by rw [hF.all hsz hall]; exact hend L w hall hI⟩
    rw [List.eq_nil_iff_forall_not_mem]
    intro i hi
    obtain ⟨h0, o, ho, _⟩ := mem_ready.1 hi
    have hlt := (Array.getElem?_eq_some_iff.1 ho).1
    have := hall i hlt
    have hL' : i < L.size := by omega
    simp [Array.getD_eq_getD_getElem?, hL'] at this h0
    rw [this] at h0; cases h0
  | succ fuel ih =>
    intro L a w hu hL hF hI
    refine ⟨fun hr => by rw [hF.all hsz (hacyc L hL hr)]; exact hend L w (hacyc L hL hr) hI, fun i hi => ?_⟩
    obtain ⟨h0, o, ho, hdep⟩ := mem_ready.1 hi
    have hlt := (Array.getElem?_eq_some_iff.1 ho).1
    obtain ⟨hd1, hd2⟩ := hd i o ho
    have hf : L.getD i false = false := by
      have hL' : i < L.size := by omega
      simp [Array.getD_eq_getD_getElem?, hL'] at h0 ⊢
      exact h0
    unfold wpOpIn
    rw [ho]
    have hw : Region.wanted o (yielded ops a.tmps) = true := by simp [Region.wanted, hd2]
    simp only [hw, if_true]
    refine hstep i o L a w _ ho hf hL hdep hF hI fun w' hI' => ?_
    exact ih _ _ _ (by have := unl_set (L := L) (by omega) hf; omega) (by simp [hL]) (hF.put hsz hL hlt) hI'
/-- The region. -/
theorem region_inv {id : Nat} {w : World} (hm : P.follows .mixedOrders = true) (hsz : base + ops.size ≤ a0.tmps.size) (hd : ∀ i o, ops[i]? = some o → o.dst = some (base + i) ∧ o.guard = none)
    (hstep : ∀ i o L a w (K : Act → World → Prop), ops[i]? = some o → L.getD i false = false → L.size = ops.size → (∀ e ∈ o.after, Region.binds .any e = true → L.getD e.on false = true) → Fr ops base vals a0 L a → Inv L w → (∀ w', Inv (L.setIfInBounds i true) w' → K (a.put (some (base + i)) (vals i)) w') → o.wpIn F n P a w K Q)
    (hend : ∀ L w, (∀ i, i < ops.size → L.getD i false = true) → Inv L w → Q .normal { tmps := putAll vals base ops.size a0.tmps, defers := a0.defers } w)
    (hacyc : ∀ L : Array Bool, L.size = ops.size → Region.ready .any ops L = [] → ∀ i, i < ops.size → L.getD i false = true) (h0 : Inv (Array.replicate ops.size false) { w with drawn := w.drawn + 1 }) :
    (Code.region id ops true).wpIn F n P Q a0 w := by
  refine wpIn_region_any hm (any_inv hsz hd hstep hend hacyc _ _ _ _ ?_ (by simp) ⟨rfl, rfl, fun s => ?_⟩ h0)
  · unfold unl
    refine Nat.le_trans (List.length_filter_le _ _) (by simp)
  · rw [if_neg]
    rintro ⟨_, h2, h3⟩
    simp [Array.getD_eq_getD_getElem?, h2] at h3
/-- A region whose operations wait for those ahead of them alone. -/
def lowB (ops : Array Oper) : Bool := (List.range ops.size).all fun i => ((ops[i]?).map fun o => o.after.all fun e => !Region.binds .any e || decide (e.on < i)).getD true
theorem acyc_of {ops : Array Oper} (h : lowB ops = true) (L : Array Bool) (hL : L.size = ops.size) (hr : Region.ready .any ops L = []) : ∀ i, i < ops.size → L.getD i false = true := by
  intro i
  induction i using Nat.strongRecOn with
  | _ i ih =>
    intro hi
    have hL' : i < L.size := by omega
    apply Classical.byContradiction
    intro hn
    have hn' : i ∉ Region.ready .any ops L := by rw [hr]; simp
    refine hn' (mem_ready.2 ⟨?_, ops[i], Array.getElem?_eq_getElem hi, fun e he hb => ?_⟩)
    · simp [Array.getD_eq_getD_getElem?, hL'] at hn ⊢
      exact hn
    · unfold lowB at h
      rw [List.all_eq_true] at h
      have h1 := h i (List.mem_range.2 hi)
      rw [Array.getElem?_eq_getElem hi] at h1
      simp only [Option.map_some, Option.getD_some] at h1
      rw [Array.all_eq_true'] at h1
      have h3 := h1 e he
      rw [hb] at h3
      have h2 := of_decide_eq_true (show decide (e.on < i) = true by simpa using h3)
      exact ih e.on h2 (by omega)
/-- What an operation waits for. -/
theorem dep_of {o : Oper} {L : Array Bool} (h : ∀ e ∈ o.after, Region.binds .any e = true → L.getD e.on false = true) {i : Nat} (hi : (o.after.any fun e => Region.binds .any e && e.on == i) = true) : L.getD i false = true := by
  rw [Array.any_eq_true'] at hi
  obtain ⟨e, he, h1⟩ := hi
  simp only [Bool.and_eq_true, beq_iff_eq] at h1
  have := h e he h1.1
  rw [h1.2] at this
  exact this

/-! Operations, one by one, within a round or not. -/
theorem opIn_value {o : Oper} {a : Act} {w : World} {K : Act → World → Prop} {d : Tmp} {v : Value} (hdst : o.dst = some d) (hab : o.about P w a.eval = none) (hdf : ∀ c, o.op ≠ .defer c) (hr : (execOp a.eval o).run P w = .ok (.value v) w) (hK : K (a.put (some d) v) w) : o.wpIn F n P a w K Q := by
  unfold Oper.wpIn
  refine ⟨(by rw [hab]; intro f h; cases h), ?_⟩
  rw [Oper.semAt_plain F _ _ hdf, hr]
  show K (a.put o.dst v) w
  rw [hdst]; exact hK
theorem opIn_load {o : Oper} {a : Act} {w : World} {K : Act → World → Prop} {d : Tmp} {v : Value} {t : TypeId} {x : Operand} {p : Addr} (hdst : o.dst = some d) (hop : o.op = .load t x) (hx : a.eval x = .pointer (some p)) (hl : (loadVar t p).run P w = .ok v w) (hK : K (a.put (some d) v) w) : o.wpIn F n P a w K Q :=
  opIn_value hdst (by simp [Oper.about, hop]) (by rw [hop]; intro c h; cases h) (by unfold execOp; simp [hop, hx, Instr.loadAt, Instr.sureAddr, Sem.run_bind, Sem.run_pure, Result.andThen_ok, hl]) hK
theorem opIn_move {o : Oper} {a : Act} {w : World} {K : Act → World → Prop} {d : Tmp} {x : Operand} (hdst : o.dst = some d) (hop : o.op = .move x) (hK : K (a.put (some d) (a.eval x)) w) : o.wpIn F n P a w K Q :=
  opIn_value hdst (by simp [Oper.about, hop]) (by rw [hop]; intro c h; cases h) (by unfold execOp; simp [hop, Sem.run_pure]) hK
theorem opIn_index {o : Oper} {a : Act} {w : World} {K : Act → World → Prop} {d : Tmp} {t : TypeId} {x y : Operand} {b m c j sz : Nat} (hdst : o.dst = some d) (hop : o.op = .indexAddr t x y) (hx : a.eval x = .slice (some ⟨b, 0, none⟩) m c) (hy : a.eval y = .int .i64 (j : Int))
    (ht : P.underlying t = some (.slice (P.elem t))) (hs : (sizeOf (P.elem t)).run P w = .ok sz w) (hj : j < m) (hK : K (a.put (some d) (.pointer (some ⟨b, j * sz, none⟩))) w) : o.wpIn F n P a w K Q := by
  refine opIn_value hdst (by simp [Oper.about, hop]) (by rw [hop]; intro c h; cases h) ?_ hK
  have hadd : (⟨b, 0, none⟩ : Addr).add (j * sz) = ⟨b, j * sz, none⟩ := by unfold Addr.add; split <;> simp_all
  have hr := run_indexAt_slice (P := P) (w := w) t ⟨b, 0, none⟩ m c .i64 j ht
  rw [if_pos (by omega), hs] at hr
  simp only [Result.andThen_ok, Int.toNat_natCast, hadd] at hr
  unfold execOp
  simp [hop, hx, hy, Sem.run_bind, Sem.run_pure, hr, Result.andThen_ok]
theorem loadVar_one {w : World} {t : TypeId} {p : Addr} {v : Value} (ht : ∀ w, (isAgg t).run P w = .ok false w) (hc : w.cell? p = some v) : (loadVar t p).run P w = .ok v w := by
  simp [loadVar, Sem.run_bind, ht, run_load, hc, Result.andThen_ok]
theorem opIn_call {o : Oper} {a : Act} {w : World} {K : Act → World → Prop} {d : Tmp} {f : FuncId} {xs : Array Operand} {ts : Array TypeId} {args : Array Value} (hdst : o.dst = some d) (hop : o.op = .call { callee := .value (.func f), args := xs, argTypes := ts }) (hx : xs.map a.eval = args)
    (hent : ∀ w, (callFunc f args).run P w = .ok (.enter f args) w) (hF : ∀ g, F.fn g) (hdep : F.depth.isSome = true → 1 ≤ n) {R : Ending → World → Prop} (hc : CallsIn F (n - 1) P f args w R) (hR : ∀ e w', R e w' → ∃ v, e = .returned v ∧ K (a.put (some d) v) w') : o.wpIn F n P a w K Q := by
  unfold Oper.wpIn
  refine ⟨fun g _ => hF g, ?_⟩
  rw [Oper.semAt_plain F _ _ (by rw [hop]; intro c h; cases h)]
  have e : (execOp a.eval o).run P w = .ok (.enter f args) w := by
    unfold execOp
    simp [hop, resolve, hx, Deferred.ofValue, Act.eval, Sem.run_bind, Sem.run_pure, Result.andThen_ok, invoke, hent]
  rw [e, Oper.uponIn_enter]
  refine ⟨hdep, hc.mono fun e w' h => ?_⟩
  obtain ⟨v, rfl, hK⟩ := hR e w' h
  show K (a.put o.dst v) w'
  rw [hdst]; exact hK
end
end Go.Proofs.YtpkebokfbigggaaDoor.Shp
