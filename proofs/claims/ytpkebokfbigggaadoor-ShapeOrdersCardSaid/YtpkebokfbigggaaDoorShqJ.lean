/-
  A region that draws its order, whatever its operations yield: an invariant of what is listed, of the values so far and of the world; operations one by one.
-/
import Derived.Test.YtpkebokfbigggaaDoorShqG
namespace Go.Proofs.YtpkebokfbigggaaDoor.Shp
open Go.RowKit Go.Shelf

section
variable {F : Fence} {n : Nat} {P : Program} {ops : Array Oper} {Q : Exit → Act → World → Prop} {D : Nat → Option Nat} {vals : Nat → Value} {a0 : Act} {Inv : (Nat → Value) → Array Bool → World → Prop}
def upv (vals : Nat → Value) (i : Nat) (v : Value) : Nat → Value := fun j => if j = i then v else vals j
theorem upv_same (vals : Nat → Value) (i : Nat) (v : Value) : upv vals i v i = v := by simp [upv]
theorem upv_other (vals : Nat → Value) {i j : Nat} (v : Value) (h : j ≠ i) : upv vals i v j = vals j := by simp [upv, h]
/-- The frame behind what is listed: each in its own slot, if it has one. -/
structure Fs (ops : Array Oper) (D : Nat → Option Nat) (vals : Nat → Value) (a0 : Act) (L : Array Bool) (a : Act) : Prop where
  defers : a.defers = a0.defers
  size : a.tmps.size = a0.tmps.size
  val' : ∀ i s, i < ops.size → L.getD i false = true → D i = some s → a.tmps[s]? = some (vals i)
  old' : ∀ s, (∀ i, i < ops.size → L.getD i false = true → D i ≠ some s) → a.tmps[s]? = a0.tmps[s]?
theorem getD_set {L : Array Bool} {i j : Nat} (hi : i < L.size) : (L.setIfInBounds i true).getD j false = if i = j then true else L.getD j false := by
  simp only [Array.getD_eq_getD_getElem?, Array.getElem?_setIfInBounds]
  by_cases e : i = j
  · subst e; simp [hi]
  · simp [e]
theorem Fs.put {L : Array Bool} {a : Act} (h : Fs ops D vals a0 L a) (hD : ∀ i s, i < ops.size → D i = some s → s < a0.tmps.size) (hinj : ∀ i j s, i < ops.size → j < ops.size → D i = some s → D j = some s → i = j) (hL : L.size = ops.size) {i : Nat} (hi : i < ops.size) (v : Value) : Fs ops D (upv vals i v) a0 (L.setIfInBounds i true) (a.put (D i) v) := by
  have hset : ∀ j, (L.setIfInBounds i true).getD j false = if i = j then true else L.getD j false := fun j => getD_set (by omega)
  cases hd : D i with
  | none =>
    refine ⟨h.defers, h.size, fun j s hj hl hs => ?_, fun s hs => h.old' s fun j hj hl => hs j hj (by rw [hset]; simp [hl])⟩
    have e : i ≠ j := fun e => by subst e; rw [hd] at hs; cases hs
    rw [hset, if_neg e] at hl
    rw [upv_other _ _ (Ne.symm e)]
    exact h.val' j s hj hl hs
  | some s0 =>
    have e0 : ∀ s, (a.put (some s0) v).tmps[s]? = if s0 = s then some v else a.tmps[s]? := fun s => by
      show (a.tmps.setIfInBounds s0 v)[s]? = _
      rw [Array.getElem?_setIfInBounds]
      by_cases e : s0 = s
      · subst e; rw [if_pos rfl, if_pos (by rw [h.size]; exact hD i s0 hi hd), if_pos rfl]
      · rw [if_neg e, if_neg e]
    refine ⟨h.defers, by show (a.tmps.setIfInBounds s0 v).size = _; rw [Array.size_setIfInBounds]; exact h.size, fun j s hj hl hs => ?_, fun s hs => ?_⟩
    · rw [e0]
      by_cases e : i = j
      · subst e
        rw [hd] at hs
        injection hs with hs
        rw [if_pos hs, upv_same]
      · rw [if_neg fun e2 => e (hinj i j s hi hj (by rw [hd, e2]) hs), upv_other _ _ (Ne.symm e)]
        rw [hset, if_neg e] at hl
        exact h.val' j s hj hl hs
    · rw [e0, if_neg fun e => hs i hi (by rw [hset]; simp) (by rw [hd, e])]
      exact h.old' s fun j hj hl => hs j hj (by rw [hset]; simp [hl])
theorem Fs.val {L : Array Bool} {a : Act} (h : Fs ops D vals a0 L a) (i s : Nat) (hi : i < ops.size) (hs : D i = some s) (hl : L.getD i false = true) : a.eval (.tmp s) = vals i := by
  simp [Act.eval, h.val' i s hi hl hs]
theorem Fs.old {L : Array Bool} {a : Act} (h : Fs ops D vals a0 L a) (s : Nat) (hs : ∀ i, i < ops.size → D i ≠ some s) : a.eval (.tmp s) = a0.eval (.tmp s) := by
  simp [Act.eval, h.old' s fun i hi _ => hs i hi]
/-- All of them put. -/
def putD (D : Nat → Option Nat) (vals : Nat → Value) : Nat → Array Value → Array Value
  | 0, t => t
  | k + 1, t => match D k with
    | none => putD D vals k t
    | some s => (putD D vals k t).setIfInBounds s (vals k)
theorem putD_size (k : Nat) (t : Array Value) : (putD D vals k t).size = t.size := by
  induction k with
  | zero => rfl
  | succ k ih => unfold putD; split <;> simp [ih]
theorem putD_old {k : Nat} {t : Array Value} {s : Nat} (h : ∀ i, i < k → D i ≠ some s) : (putD D vals k t)[s]? = t[s]? := by
  induction k with
  | zero => rfl
  | succ k ih =>
    unfold putD
    split
    · exact ih fun i hi => h i (by omega)
    · rename_i s0 e
      rw [Array.getElem?_setIfInBounds, if_neg fun e2 => h k (by omega) (by rw [e, e2])]
      exact ih fun i hi => h i (by omega)
theorem putD_val {k : Nat} {t : Array Value} {i s : Nat} (hinj : ∀ i j s, i < k → j < k → D i = some s → D j = some s → i = j) (hi : i < k) (hs : D i = some s) (hlt : s < t.size) : (putD D vals k t)[s]? = some (vals i) := by
  induction k with
  | zero => omega
  | succ k ih =>
    unfold putD
    by_cases e : i = k
    · subst e
      rw [hs]
      simp only
      rw [Array.getElem?_setIfInBounds, if_pos rfl, if_pos (by rw [putD_size]; exact hlt)]
    · have h1 := ih (fun i j s hi hj => hinj i j s (by omega) (by omega)) (by omega)
      split
      · exact h1
      · rename_i s0 e0
        rw [Array.getElem?_setIfInBounds, if_neg fun e2 => e (hinj i k s (by omega) (by omega) hs (by rw [e0, e2]))]
        exact h1
theorem Fs.all {L : Array Bool} {a : Act} (h : Fs ops D vals a0 L a) (hD : ∀ i s, i < ops.size → D i = some s → s < a0.tmps.size) (hinj : ∀ i j s, i < ops.size → j < ops.size → D i = some s → D j = some s → i = j) (hall : ∀ i, i < ops.size → L.getD i false = true) : a = { tmps := putD D vals ops.size a0.tmps, defers := a0.defers } := by
  have e : a.tmps = putD D vals ops.size a0.tmps := by
    apply Array.ext_getElem?
    intro s
    by_cases hs : ∃ i, i < ops.size ∧ D i = some s
    · obtain ⟨i, hi, hd⟩ := hs
      rw [h.val' i s hi (hall i hi) hd, putD_val hinj hi hd (hD i s hi hd)]
    · have hs' : ∀ i, i < ops.size → D i ≠ some s := fun i hi k => hs ⟨i, hi, k⟩
      rw [h.old' s fun i hi _ => hs' i hi, putD_old hs']
  obtain ⟨t, d⟩ := a
  simp only at e
  have hd := h.defers
  simp only at hd
  subst e hd
  rfl
theorem any_invs (hD : ∀ i s, i < ops.size → D i = some s → s < a0.tmps.size) (hinj : ∀ i j s, i < ops.size → j < ops.size → D i = some s → D j = some s → i = j) (hd : ∀ i o, ops[i]? = some o → o.dst = D i ∧ o.guard = none)
    (hstep : ∀ i o L vals a w (K : Act → World → Prop), ops[i]? = some o → L.getD i false = false → L.size = ops.size → (∀ e ∈ o.after, Region.binds .any e = true → L.getD e.on false = true) → Fs ops D vals a0 L a → Inv vals L w → (∀ v w', Inv (upv vals i v) (L.setIfInBounds i true) w' → K (a.put (D i) v) w') → o.wpIn F n P a w K Q)
    (hend : ∀ L vals w, (∀ i, i < ops.size → L.getD i false = true) → Inv vals L w → Q .normal { tmps := putD D vals ops.size a0.tmps, defers := a0.defers } w)
    (hacyc : ∀ L : Array Bool, L.size = ops.size → Region.ready .any ops L = [] → ∀ i, i < ops.size → L.getD i false = true) :
    ∀ (fuel : Nat) (L : Array Bool) (vals : Nat → Value) (a : Act) (w : World), unl L ≤ fuel → L.size = ops.size → Fs ops D vals a0 L a → Inv vals L w → wpAnyIn F n P .any ops Q fuel L a w := by
  intro fuel
  induction fuel with
  | zero =>
    intro L vals a w hu hL hF hI
    have hall : ∀ i, i < ops.size → L.getD i false = true := fun i hi => by
      cases h : L.getD i false with
      | true => rfl
      | false => have := unl_pos (by omega) h; omega
    refine ⟨?_, by rw [hF.all hD hinj hall]; exact hend L vals w hall hI⟩
    rw [List.eq_nil_iff_forall_not_mem]
    intro i hi
    obtain ⟨h0, o, ho, _⟩ := mem_ready.1 hi
    have hlt := (Array.getElem?_eq_some_iff.1 ho).1
    have := hall i hlt
    have hL' : i < L.size := by omega
    simp [Array.getD_eq_getD_getElem?, hL'] at this h0
    rw [this] at h0; cases h0
  | succ fuel ih =>
    intro L vals a w hu hL hF hI
    refine ⟨fun hr => by rw [hF.all hD hinj (hacyc L hL hr)]; exact hend L vals w (hacyc L hL hr) hI, fun i hi => ?_⟩
    obtain ⟨h0, o, ho, hdep⟩ := mem_ready.1 hi
    have hlt := (Array.getElem?_eq_some_iff.1 ho).1
    obtain ⟨hd1, hd2⟩ := hd i o ho
    have hf : L.getD i false = false := by
      have hL' : i < L.size := by omega
      simp [Array.getD_eq_getD_getElem?, hL'] at h0 ⊢
      exact h0
    unfold wpOpIn
    rw [ho]
    have hw : Region.wanted o (yielded ops a.tmps) = true := by simp [Region.wanted, hd2]
    simp only [hw, if_true]
    refine hstep i o L vals a w _ ho hf hL hdep hF hI fun v w' hI' => ?_
    exact ih _ _ _ _ (by have := unl_set (L := L) (by omega) hf; omega) (by simp [hL]) (hF.put hD hinj hL hlt v) hI'
/-- The region. -/
theorem region_invs (D : Nat → Option Nat) (vals : Nat → Value) (Inv : (Nat → Value) → Array Bool → World → Prop) {id : Nat} {w : World} (hm : P.follows .mixedOrders = true) (hD : ∀ i s, i < ops.size → D i = some s → s < a0.tmps.size) (hinj : ∀ i j s, i < ops.size → j < ops.size → D i = some s → D j = some s → i = j) (hd : ∀ i o, ops[i]? = some o → o.dst = D i ∧ o.guard = none)
    (hlow : lowB ops = true) (h0 : Inv vals (Array.replicate ops.size false) { w with drawn := w.drawn + 1 })
    (hstep : ∀ i o L vals a w (K : Act → World → Prop), ops[i]? = some o → L.getD i false = false → L.size = ops.size → (∀ e ∈ o.after, Region.binds .any e = true → L.getD e.on false = true) → Fs ops D vals a0 L a → Inv vals L w → (∀ v w', Inv (upv vals i v) (L.setIfInBounds i true) w' → K (a.put (D i) v) w') → o.wpIn F n P a w K Q)
    (hend : ∀ L vals w, (∀ i, i < ops.size → L.getD i false = true) → Inv vals L w → Q .normal { tmps := putD D vals ops.size a0.tmps, defers := a0.defers } w) :
    (Code.region id ops true).wpIn F n P Q a0 w := by
  refine wpIn_region_any hm (any_invs hD hinj hd hstep hend (acyc_of hlow) _ _ vals _ _ ?_ (by simp) ⟨rfl, rfl, fun i s hi hl => ?_, fun s _ => rfl⟩ h0)
  · unfold unl
    refine Nat.le_trans (List.length_filter_le _ _) (by simp)
  · simp [Array.getD_eq_getD_getElem?, hi] at hl

theorem putD_congr {D : Nat → Option Nat} {u v : Nat → Value} {k : Nat} (h : ∀ i, i < k → u i = v i) (t : Array Value) : putD D u k t = putD D v k t := by
  induction k with
  | zero => rfl
  | succ k ih => unfold putD; rw [ih fun i hi => h i (by omega), h k (by omega)]
/-- The region, where each operation yields its own value. -/
theorem region_fix (D : Nat → Option Nat) (fx : Nat → Value) (J : Array Bool → World → Prop) {id : Nat} {w : World} (hm : P.follows .mixedOrders = true) (hD : ∀ i s, i < ops.size → D i = some s → s < a0.tmps.size) (hinj : ∀ i j s, i < ops.size → j < ops.size → D i = some s → D j = some s → i = j) (hd : ∀ i o, ops[i]? = some o → o.dst = D i ∧ o.guard = none)
    (hlow : lowB ops = true) (h0 : J (Array.replicate ops.size false) { w with drawn := w.drawn + 1 })
    (hstep : ∀ i o L a w (K : Act → World → Prop), ops[i]? = some o → L.getD i false = false → L.size = ops.size → (∀ e ∈ o.after, Region.binds .any e = true → L.getD e.on false = true) →
      (∀ j s, j < ops.size → D j = some s → L.getD j false = true → a.eval (.tmp s) = fx j) → (∀ s, (∀ i, i < ops.size → D i ≠ some s) → a.eval (.tmp s) = a0.eval (.tmp s)) → J L w → (∀ w', J (L.setIfInBounds i true) w' → K (a.put (D i) (fx i)) w') → o.wpIn F n P a w K Q)
    (hend : ∀ L w, (∀ i, i < ops.size → L.getD i false = true) → J L w → Q .normal { tmps := putD D fx ops.size a0.tmps, defers := a0.defers } w) :
    (Code.region id ops true).wpIn F n P Q a0 w := by
  refine region_invs D fx (fun vals L w => (∀ i, i < ops.size → L.getD i false = true → vals i = fx i) ∧ J L w) hm hD hinj hd hlow ⟨fun _ _ _ => rfl, h0⟩ ?_ ?_
  · intro i o L vals a w K ho hf hL hdep hF hI hK
    have hlt := (Array.getElem?_eq_some_iff.1 ho).1
    refine hstep i o L a w K ho hf hL hdep (fun j s hj hs hl => by rw [hF.val j s hj hs hl, hI.1 j hj hl]) (fun s hs => hF.old s hs) hI.2 fun w' hJ => hK _ _ ⟨fun j hj hl => ?_, hJ⟩
    by_cases e : j = i
    · subst e; rw [upv_same]
    · rw [upv_other _ _ e]
      rw [getD_set (by omega), if_neg (Ne.symm e)] at hl
      exact hI.1 j hj hl
  · intro L vals w hall hI
    rw [putD_congr (v := fx) fun i hi => hI.1 i hi (hall i hi)]
    exact hend L w hall hI.2

def dsOk (ds : List (Option Nat)) (m : Nat) : Bool := (List.range ds.length).all fun i => match ds.getD i none with
  | none => true
  | some s => decide (s < m) && (List.range ds.length).all fun j => decide (j = i) || decide (ds.getD j none ≠ some s)
def opsOk (ops : Array Oper) (ds : List (Option Nat)) : Bool := decide (ops.size = ds.length) && (List.range ops.size).all fun i => ((ops[i]?).map fun o => decide (o.dst = ds.getD i none) && o.guard.isNone).getD true
def notIn (ds : List (Option Nat)) (s : Nat) : Bool := (List.range ds.length).all fun i => decide (ds.getD i none ≠ some s)
/-- The region, its slots as a list. -/
theorem region_ds (ds : List (Option Nat)) (fx : Nat → Value) (J : Array Bool → World → Prop) (m : Nat) {id : Nat} {w : World} (hm : P.follows .mixedOrders = true) (hsz : a0.tmps.size = m) (h1 : dsOk ds m = true) (h2 : opsOk ops ds = true)
    (hlow : lowB ops = true) (h0 : J (Array.replicate ops.size false) { w with drawn := w.drawn + 1 })
    (hstep : ∀ i o L a w (K : Act → World → Prop), ops[i]? = some o → L.getD i false = false → L.size = ops.size → (∀ e ∈ o.after, Region.binds .any e = true → L.getD e.on false = true) →
      (∀ j s, j < ops.size → ds.getD j none = some s → L.getD j false = true → a.eval (.tmp s) = fx j) → (∀ s, notIn ds s = true → a.eval (.tmp s) = a0.eval (.tmp s)) → J L w → (∀ w', J (L.setIfInBounds i true) w' → K (a.put o.dst (fx i)) w') → o.wpIn F n P a w K Q)
    (hend : ∀ L w, (∀ i, i < ops.size → L.getD i false = true) → J L w → Q .normal { tmps := putD (fun i => ds.getD i none) fx ops.size a0.tmps, defers := a0.defers } w) :
    (Code.region id ops true).wpIn F n P Q a0 w := by
  unfold opsOk at h2
  rw [Bool.and_eq_true, decide_eq_true_eq, List.all_eq_true] at h2
  obtain ⟨hlen, h2⟩ := h2
  unfold dsOk at h1
  rw [List.all_eq_true] at h1
  have h1' : ∀ i s, i < ops.size → ds.getD i none = some s → s < m ∧ ∀ j, j < ops.size → ds.getD j none = some s → j = i := fun i s hi hs => by
    have h3 := h1 i (List.mem_range.2 (by omega))
    rw [hs] at h3
    simp only [Bool.and_eq_true, decide_eq_true_eq, List.all_eq_true, Bool.or_eq_true] at h3
    refine ⟨h3.1, fun j hj e => ?_⟩
    rcases h3.2 j (List.mem_range.2 (by omega)) with k | k
    · exact k
    · exact absurd e k
  have h2' : ∀ i o, ops[i]? = some o → o.dst = ds.getD i none ∧ o.guard = none := fun i o ho => by
    have h3 := h2 i (List.mem_range.2 (Array.getElem?_eq_some_iff.1 ho).1)
    rw [ho] at h3
    simpa using h3
  refine region_fix (fun i => ds.getD i none) fx J hm (fun i s hi hs => by rw [hsz]; exact (h1' i s hi hs).1) (fun i j s hi hj hs hs' => ((h1' j s hj hs').2 i hi hs)) h2' hlow h0 ?_ hend
  intro i o L a w K ho hf hL hdep hev hold hJ hK
  refine hstep i o L a w K ho hf hL hdep hev (fun s hs => hold s fun j hj e => ?_) hJ (by rw [(h2' i o ho).1]; exact hK)
  unfold notIn at hs
  rw [List.all_eq_true] at hs
  exact of_decide_eq_true (hs j (List.mem_range.2 (by omega))) e
theorem opIn_loadW {o : Oper} {a : Act} {w : World} {K : Act → World → Prop} {v : Value} {t : TypeId} {x : Operand} {p : Addr} (hop : o.op = .load t x) (hx : a.eval x = .pointer (some p)) (hl : (loadVar t p).run P w = .ok v w) (hK : K (a.put o.dst v) w) : o.wpIn F n P a w K Q := by
  cases hd : o.dst with
  | some d => exact opIn_load hd hop hx hl (by rw [hd] at hK; exact hK)
  | none =>
    unfold Oper.wpIn
    refine ⟨by simp [Oper.about, hop], ?_⟩
    rw [Oper.semAt_plain F _ _ (by rw [hop]; intro c h; cases h)]
    have e : (execOp a.eval o).run P w = .ok (.value v) w := by unfold execOp; simp [hop, hx, Instr.loadAt, Instr.sureAddr, Sem.run_bind, Sem.run_pure, Result.andThen_ok, hl]
    rw [e]
    exact hK
/-! Operations that change the world. -/
theorem opIn_run {o : Oper} {a : Act} {w w' : World} {K : Act → World → Prop} {v : Value} (hab : o.about P w a.eval = none) (hdf : ∀ c, o.op ≠ .defer c) (hr : (execOp a.eval o).run P w = .ok (.value v) w') (hK : K (a.put o.dst v) w') : o.wpIn F n P a w K Q := by
  unfold Oper.wpIn
  refine ⟨(by rw [hab]; intro f h; cases h), ?_⟩
  rw [Oper.semAt_plain F _ _ hdf, hr]
  exact hK
theorem opIn_skip {o : Oper} {a : Act} {w w' : World} {K : Act → World → Prop} (hab : o.about P w a.eval = none) (hdf : ∀ c, o.op ≠ .defer c) (hr : (execOp a.eval o).run P w = .ok .skip w') (hK : K (a.put o.dst undef) w') : o.wpIn F n P a w K Q := by
  unfold Oper.wpIn
  refine ⟨(by rw [hab]; intro f h; cases h), ?_⟩
  rw [Oper.semAt_plain F _ _ hdf, hr]
  exact hK
theorem opIn_store {o : Oper} {a : Act} {w w' : World} {K : Act → World → Prop} {t : TypeId} {x y : Operand} {p : Addr} {v : Value} (hop : o.op = .store t x y) (hx : a.eval x = .pointer (some p)) (hy : a.eval y = v) (hl : (storeVar t p v).run P w = .ok () w') (hK : K (a.put o.dst undef) w') : o.wpIn F n P a w K Q :=
  opIn_skip (by simp [Oper.about, hop]) (by rw [hop]; intro c h; cases h) (by unfold execOp; simp [hop, hx, hy, Instr.storeAt, Instr.sureAddr, Sem.run_bind, Sem.run_pure, Result.andThen_ok, hl]) hK
theorem opIn_alloc {o : Oper} {a : Act} {w : World} {K : Act → World → Prop} {t : TypeId} {z : Value} (hop : o.op = .alloc t) (hz : ∀ w, (zeroValue t).run P w = .ok z w) (hK : K (a.put o.dst (.pointer (some ⟨w.heap.size, 0, none⟩))) (w.alloc (.cells z.cells t))) : o.wpIn F n P a w K Q := by
  refine opIn_run (v := .pointer (some ⟨w.heap.size, 0, none⟩)) (w' := w.alloc (.cells z.cells t)) (by simp [Oper.about, hop]) (by rw [hop]; intro c h; cases h) ?_ hK
  unfold execOp
  simp [hop, Instr.alloc, Sem.run_bind, Sem.run_pure, Result.andThen_ok, hz, go_sem]
theorem opIn_make {o : Oper} {a : Act} {w w' : World} {K : Act → World → Prop} {t : TypeId} {x y : Operand} {v : Value} {k : Int} (hop : o.op = .makeSlice t x y) (hx : a.eval x = .int .i64 k) (hy : a.eval y = .int .i64 k) (hr : (Instr.makeSlice t (.int .i64 k) (.int .i64 k)).run P w = .ok v w') (hK : K (a.put o.dst v) w') : o.wpIn F n P a w K Q :=
  opIn_run (by simp [Oper.about, hop]) (by rw [hop]; intro c h; cases h) (by unfold execOp; simp [hop, hx, hy, Sem.run_bind, Sem.run_pure, Result.andThen_ok, hr]) hK
theorem opIn_len {o : Oper} {a : Act} {w : World} {K : Act → World → Prop} {x : Operand} {t : TypeId} {p : Option Addr} {m c : Nat} (hop : o.op = .call { callee := .builtin .len, args := #[x], argTypes := #[t] }) (hx : a.eval x = .slice p m c) (ht : P.underlying t = some (.slice (P.elem t))) (hK : K (a.put o.dst (.int .i64 (m : Int))) w) : o.wpIn F n P a w K Q := by
  refine opIn_run (v := .int .i64 (m : Int)) (w' := w) ?_ (by rw [hop]; intro c h; cases h) ?_ hK
  · simp [Oper.about, hop, resolve, Target.leads, Sem.run_pure]
  · unfold execOp
    simp [hop, resolve, hx, Sem.run_bind, Sem.run_pure, Result.andThen_ok, invoke, builtin]
    simp [run_len_slice w t o.type p m c ht, goInt, Result.andThen_ok]
theorem opIn_moveW {o : Oper} {a : Act} {w : World} {K : Act → World → Prop} {x : Operand} {v : Value} (hop : o.op = .move x) (hx : a.eval x = v) (hK : K (a.put o.dst v) w) : o.wpIn F n P a w K Q :=
  opIn_run (v := v) (w' := w) (by simp [Oper.about, hop]) (by rw [hop]; intro c h; cases h) (by unfold execOp; simp [hop, hx, Sem.run_pure]) hK
theorem opIn_assignW {o : Oper} {a : Act} {w : World} {K : Act → World → Prop} {x : Operand} {v : Value} (hop : o.op = .assign x) (hx : a.eval x = v) (hK : K (a.put o.dst v) w) : o.wpIn F n P a w K Q :=
  opIn_run (v := v) (w' := w) (by simp [Oper.about, hop]) (by rw [hop]; intro c h; cases h) (by unfold execOp; simp [hop, hx, Sem.run_pure]) hK
theorem opIn_indexW {o : Oper} {a : Act} {w : World} {K : Act → World → Prop} {t : TypeId} {x y : Operand} {b m c j sz : Nat} (hop : o.op = .indexAddr t x y) (hx : a.eval x = .slice (some ⟨b, 0, none⟩) m c) (hy : a.eval y = .int .i64 (j : Int))
    (ht : P.underlying t = some (.slice (P.elem t))) (hs : ∀ w, (sizeOf (P.elem t)).run P w = .ok sz w) (hj : j < m) (hK : K (a.put o.dst (.pointer (some ⟨b, j * sz, none⟩))) w) : o.wpIn F n P a w K Q := by
  refine opIn_run (v := .pointer (some ⟨b, j * sz, none⟩)) (w' := w) (by simp [Oper.about, hop]) (by rw [hop]; intro c h; cases h) ?_ hK
  have hadd : (⟨b, 0, none⟩ : Addr).add (j * sz) = ⟨b, j * sz, none⟩ := by unfold Addr.add; split <;> simp_all
  have hr := run_indexAt_slice (P := P) (w := w) t ⟨b, 0, none⟩ m c .i64 j ht
  rw [if_pos (by omega), hs] at hr
  simp only [Result.andThen_ok, Int.toNat_natCast, hadd] at hr
  unfold execOp
  simp [hop, hx, hy, Sem.run_bind, Sem.run_pure, hr, Result.andThen_ok]
theorem opIn_sub {o : Oper} {a : Act} {w : World} {K : Act → World → Prop} {x y : Operand} {t t' : TypeId} {p q : Int} (hop : o.op = .binOp .sub t x y t') (hx : a.eval x = .int .i64 p) (hy : a.eval y = .int .i64 q) (hK : K (a.put o.dst (.int .i64 (IntKind.i64.wrap (p - q)))) w) : o.wpIn F n P a w K Q := by
  refine opIn_run (v := .int .i64 (IntKind.i64.wrap (p - q))) (w' := w) (by simp [Oper.about, hop]) (by rw [hop]; intro c h; cases h) ?_ hK
  unfold execOp
  simp only [hop, hx, hy]
  simp [go_sem]
theorem opIn_eql {o : Oper} {a : Act} {w : World} {K : Act → World → Prop} {x y : Operand} {t t' : TypeId} {p q : Int} (hop : o.op = .binOp .eql t x y t') (hx : a.eval x = .int .i64 p) (hy : a.eval y = .int .i64 q) (hK : K (a.put o.dst (.bool (p == q))) w) : o.wpIn F n P a w K Q := by
  refine opIn_run (v := .bool (p == q)) (w' := w) (by simp [Oper.about, hop]) (by rw [hop]; intro c h; cases h) ?_ hK
  unfold execOp
  simp only [hop, hx, hy]
  simp [go_sem]
theorem opIn_callW {o : Oper} {a : Act} {w : World} {K : Act → World → Prop} {f : FuncId} {xs : Array Operand} {ts : Array TypeId} {args : Array Value} (hop : o.op = .call { callee := .value (.func f), args := xs, argTypes := ts }) (hx : xs.map a.eval = args)
    (hent : ∀ w, (callFunc f args).run P w = .ok (.enter f args) w) (hF : ∀ g, F.fn g) (hdep : F.depth.isSome = true → 1 ≤ n) {R : Ending → World → Prop} (hc : CallsIn F (n - 1) P f args w R) (hR : ∀ e w', R e w' → ∃ v, e = .returned v ∧ K (a.put o.dst v) w') : o.wpIn F n P a w K Q := by
  unfold Oper.wpIn
  refine ⟨fun g _ => hF g, ?_⟩
  rw [Oper.semAt_plain F _ _ (by rw [hop]; intro c h; cases h)]
  have e : (execOp a.eval o).run P w = .ok (.enter f args) w := by
    unfold execOp
    simp [hop, resolve, hx, Deferred.ofValue, Act.eval, Sem.run_bind, Sem.run_pure, Result.andThen_ok, invoke, hent]
  rw [e, Oper.uponIn_enter]
  refine ⟨hdep, hc.mono fun e w' h => ?_⟩
  obtain ⟨v, rfl, hK⟩ := hR e w' h
  exact hK
end
/-- A set in a slice of sets is loaded. -/
theorem SetAt.load {w : World} {b o x : Nat} (h : SetAt w b o x) : (loadVar 42 ⟨b, o, none⟩).run Tryd.prog w = .ok (.agg (setC x)) w := by
  have hl : (loadCells ⟨b, o, none⟩ 32).run Tryd.prog w = .ok (setC x) w := by
    have h1 := run_loadCells (P := Tryd.prog) w ⟨b, o, none⟩ 32 (fun i => .int .u64 (wd x i : Nat)) fun j hj => by
      have hadd : (⟨b, o, none⟩ : Addr).add j = ⟨b, o + j, none⟩ := by unfold Addr.add; split <;> simp_all
      rw [hadd]; exact (h j hj).1
    rw [h1]
    congr 1
  simp [loadVar, Sem.run_bind, Tryd.isAgg42, Tryd.sizeOf42, hl, Result.andThen_ok]
theorem storeVar_one {w : World} {t : TypeId} {p : Addr} {u v : Value} (ht : ∀ w, (sizeOf t).run Tryd.prog w = .ok 1 w) (hv : v.cells = #[v]) (h1 : v.oneCell' = true) (hc : w.cell? p = some u) (hf : w.frozen? p = false) (hs : p.spot = none) : (storeVar t p v).run Tryd.prog w = .ok () (w.setCell p v) := by
  have hadd : p.add 0 = p := by obtain ⟨b, o, s⟩ := p; simp only at hs; subst hs; simp [Addr.add]
  simp [storeVar, Sem.run_bind, ht, hv, storeCells, hadd, run_store, h1, hc, hf, Result.andThen_ok]
end Go.Proofs.YtpkebokfbigggaaDoor.Shp
