/-
  A region that draws its order, walked once for each operation and not once for each order: by a word 'Inv' of our own that says what holds when just the operations f have run. No program is named here.
-/
import Derived.RegionCalls
import Derived.Lib.Hide
import Derived.Lib.Walk
import Derived.Test.YthjnkjekidagiaaBase
namespace Go.Proofs.Ythjnkjekidagiaa.Ord
open Go.RowKit
section
variable {P : Program} {ops : Array Oper} {Q : Exit → Act → World → Prop} {md : Region.Mode} {Inv : (Nat → Bool) → Act → World → Prop}

/-- What is to be shown of each operation of the list: from any set f of operations that have run, those that it waits for among them, it leads to f and itself. -/
def InvAll (P : Program) (md : Region.Mode) (ops : Array Oper) (Q : Exit → Act → World → Prop) (Inv : (Nat → Bool) → Act → World → Prop) (rs : List Nat) : Prop :=
  ∀ i ∈ rs, ∀ f a w, Inv f a w → f i = false → ((ops[i]?).map (fun o => o.after.all fun e => !Region.binds md e || f e.on)).getD false = true → wpOp P ops Q i (Inv (fun j => if j = i then true else f j)) a w

theorem InvAll.nil : InvAll P md ops Q Inv [] := fun _ h => by cases h

theorem InvAll.cons {i : Nat} {o : Oper} {rs : List Nat} (ho : ops[i]? = some o)
    (h : ∀ f a w, Inv f a w → f i = false → (o.after.all fun e => !Region.binds md e || f e.on) = true → ∀ K : Act → World → Prop, (∀ a w, Inv (fun j => if j = i then true else f j) a w → K a w) → if Region.wanted o (yielded ops a.tmps) = true then Oper.wp P o a w K Q else K (a.put o.dst undef) w)
    (hs : InvAll P md ops Q Inv rs) : InvAll P md ops Q Inv (i :: rs) := fun j hj f a w hI hf hd => by
  rcases List.mem_cons.1 hj with rfl | hj
  · refine wpOp_step ho fun K hK => ?_
    refine h f a w hI hf ?_ K hK
    simpa [ho] using hd
  · exact hs j hj f a w hI hf hd

theorem count_set {L : List Bool} {i : Nat} (h : L[i]?.getD true = false) : (L.set i true).count false + 1 = L.count false := by
  induction L generalizing i with
  | nil => simp at h
  | cons b L ih =>
    cases i with
    | zero =>
      obtain rfl : b = false := by simpa using h
      simp
    | succ i =>
      have := ih (i := i) (by simpa using h)
      simp only [List.set_cons_succ, List.count_cons]
      omega
/-- Each operation waits for earlier ones alone. -/
def later (ops : Array Oper) : Bool := (List.range ops.size).all fun i => ((ops[i]?).map (·.after.all fun e => decide (e.on < i))).getD true

theorem wpAny_inv (hl : later ops = true) (step : InvAll P md ops Q Inv (List.range ops.size)) (done : ∀ f a w, (∀ i, i < ops.size → f i = true) → Inv f a w → Q .normal a w) :
    ∀ (fuel : Nat) (L : Array Bool) (a : Act) (w : World), L.size = ops.size → L.toList.count false ≤ fuel → Inv (fun i => L.getD i false) a w → wpAny P md ops Q fuel L a w := by
  have all_of : ∀ (L : Array Bool), L.size = ops.size → Region.ready md ops L = [] → ∀ i, i < ops.size → L.getD i false = true := by
    intro L hL hr i
    induction i using Nat.strongRecOn with
    | ind i ih =>
      intro hi
      cases hx : L.getD i false with
      | true => rfl
      | false =>
        exfalso
        have : i ∈ Region.ready md ops L := by
          rw [mem_ready]
          refine ⟨?_, ops[i], by simp [hi], fun e he hb => ?_⟩
          · have : i < L.size := by omega
            simpa [this] using hx
          · have h1 := (List.all_eq_true.1 hl) i (List.mem_range.2 hi)
            simp only [hi, Array.getElem?_eq_getElem, Option.map_some, Option.getD_some, Array.all_eq_true_iff_forall_mem, decide_eq_true_eq] at h1
            have h2 := h1 e he
            exact ih e.on h2 (by omega)
        rw [hr] at this
        cases this
  intro fuel
  induction fuel with
  | zero =>
    intro L a w hL hc hI
    have hr : Region.ready md ops L = [] := by
      cases hr : Region.ready md ops L with
      | nil => rfl
      | cons i rs =>
        have hi : i ∈ Region.ready md ops L := by rw [hr]; simp
        have h0 := (mem_ready.1 hi).1
        have := count_set (L := L.toList) (i := i) (by simpa using h0)
        omega
    exact ⟨hr, done _ a w (all_of L hL hr) hI⟩
  | succ fuel ih =>
    intro L a w hL hc hI
    refine ⟨fun hr => done _ a w (all_of L hL hr) hI, fun i hi => ?_⟩
    obtain ⟨h0, o, ho, hd⟩ := mem_ready.1 hi
    have hlt : i < ops.size := (Array.getElem?_eq_some_iff.1 ho).1
    have hcs := count_set (L := L.toList) (i := i) (by simpa using h0)
    refine wpOp_mono (fun a' w' h' => ih (L.setIfInBounds i true) a' w' (by simpa using hL) ?_ ?_) (step i (List.mem_range.2 hlt) (fun i => L.getD i false) a w hI ?_ ?_)
    · have : (L.setIfInBounds i true).toList = L.toList.set i true := by simp
      rw [this]; omega
    · have : (fun j => (L.setIfInBounds i true).getD j false) = fun j => if j = i then true else L.getD j false := by
        funext j
        by_cases hj : j = i
        · subst hj
          have : j < L.size := by omega
          simp [this]
        · rw [getD_set_ne false (fun h => hj h.symm), if_neg hj]
      rw [this]; exact h'
    · show L.getD i false = false
      have hLi : i < L.size := by omega
      simpa [hLi] using h0
    · rw [ho]
      simp only [Option.map_some, Option.getD_some, Array.all_eq_true_iff_forall_mem, Bool.or_eq_true, Bool.not_eq_true']
      intro e he
      cases hb : Region.binds md e with
      | false => exact .inl rfl
      | true => exact .inr (hd e he hb)

def deps (md : Region.Mode) (f : Nat → Bool) : List Edge → Prop
  | [] => True
  | e :: es => (Region.binds md e = true → f e.on = true) ∧ deps md f es
theorem deps_all {f : Nat → Bool} : ∀ {es : List Edge}, (∀ e ∈ es, Region.binds md e = true → f e.on = true) → deps md f es
  | [], _ => trivial
  | _ :: _, h => ⟨h _ (by simp), deps_all fun e he => h e (by simp [he])⟩
/-- What is to be shown of each operation of a list that begins at number i. -/
def InvL (P : Program) (md : Region.Mode) (ops : Array Oper) (Q : Exit → Act → World → Prop) (Inv : (Nat → Bool) → Act → World → Prop) : Nat → List Oper → Prop
  | _, [] => True
  | i, o :: os => (∀ f a w, Inv f a w → f i = false → deps md f o.after.toList → ∀ K : Act → World → Prop, Hid (∀ a w, Inv (fun j => if j = i then true else f j) a w → K a w) → if Region.wanted o (yielded ops a.tmps) = true then Oper.wp P o a w K Q else K (a.put o.dst undef) w) ∧ InvL P md ops Q Inv (i + 1) os
theorem InvL.cons {i : Nat} {o : Oper} {os : List Oper} (h : ∀ f a w, Inv f a w → f i = false → deps md f o.after.toList → ∀ K : Act → World → Prop, Hid (∀ a w, Inv (fun j => if j = i then true else f j) a w → K a w) → if Region.wanted o (yielded ops a.tmps) = true then Oper.wp P o a w K Q else K (a.put o.dst undef) w) (hs : InvL P md ops Q Inv (i + 1) os) : InvL P md ops Q Inv i (o :: os) := ⟨h, hs⟩
theorem InvL.nil {i : Nat} : InvL P md ops Q Inv i [] := trivial
theorem invL_at : ∀ {l : List Oper} {i : Nat}, InvL P md ops Q Inv i l → ∀ k o, l[k]? = some o → ∀ f a w, Inv f a w → f (i + k) = false → deps md f o.after.toList → ∀ K : Act → World → Prop, Hid (∀ a w, Inv (fun j => if j = i + k then true else f j) a w → K a w) → if Region.wanted o (yielded ops a.tmps) = true then Oper.wp P o a w K Q else K (a.put o.dst undef) w
  | [], _, _, k, _, hk => by simp at hk
  | o' :: os, i, h, k, o, hk => by
    cases k with
    | zero => obtain rfl : o' = o := by simpa using hk
              exact h.1
    | succ k =>
      have := invL_at h.2 k o (by simpa using hk)
      rw [show i + (k + 1) = i + 1 + k by omega]
      exact this
theorem invAll_of {l : List Oper} (h : InvL P md l.toArray Q Inv 0 l) : InvAll P md l.toArray Q Inv (List.range l.toArray.size) := by
  intro i hi f a w hI hf hd
  have hlt : i < l.length := by simpa using hi
  have ho : l.toArray[i]? = some l[i] := by simp [hlt]
  refine wpOp_step ho fun K hK => ?_
  have := invL_at h i l[i] (by simp [hlt]) f a w hI (by simpa using hf) (deps_all fun e he hb => ?_) K (Lib.hid (by simpa using hK))
  · exact this
  · rw [ho] at hd
    simp only [Option.map_some, Option.getD_some, Array.all_eq_true_iff_forall_mem, Bool.or_eq_true, Bool.not_eq_true'] at hd
    rcases hd e (by simpa using he) with h | h
    · rw [hb] at h; cases h
    · exact h
/-- THE BEGINNING. -/
theorem wp_region_inv {id : Nat} {l : List Oper} {a : Act} {w : World} (Inv : (Nat → Bool) → Act → World → Prop) (hm : P.follows .mixedOrders = true) (hl : later l.toArray = true)
    (start : Inv (fun _ => false) a w.drew) (step : InvL P .any l.toArray Q Inv 0 l) (done : ∀ f a w, (∀ i, i < l.length → f i = true) → Inv f a w → Q .normal a w) : (Code.region id l.toArray true).wp P Q a w := by
  refine wp_region_any hm (wpAny_inv hl (invAll_of step) (fun f a w h => done f a w (by simpa using h)) _ _ _ _ (by simp) (by simp) ?_)
  have : (fun i => (Array.replicate l.toArray.size false).getD i false) = fun _ => false := by
    funext i
    simp [Array.getElem?_replicate]
    split <;> rfl
  rw [this]; exact start
/-- The state of the slots under a name. -/
theorem named_act {P : Program} {c : Code} {Q : Exit → Act → World → Prop} {a : Act} {w : World} (h : ∀ A, A = a → c.wp P Q A w) : c.wp P Q a w := h a rfl

/-- Two boxes that are made, and filled, in whatever order: f6, f7: they are made; f8, f9: they are filled. -/
structure PairAt (B : Nat) (ty : TypeId) (z va vb : Array Value) (f6 f7 f8 f9 : Bool) (v6 v7 : Value) (w : World) : Prop where
  one : f6 = true → ∃ bl, v6 = .pointer (some ⟨bl, 0, none⟩) ∧ B ≤ bl ∧ w.heap[bl]? = some (.cells (if f8 = true then va else z) ty (0, 0))
  two : f7 = true → ∃ br, v7 = .pointer (some ⟨br, 0, none⟩) ∧ B ≤ br ∧ w.heap[br]? = some (.cells (if f9 = true then vb else z) ty (0, 0))
  ne : f6 = true → f7 = true → v6 ≠ v7
  fill6 : f8 = true → f6 = true
  fill7 : f9 = true → f7 = true
theorem PairAt.keep {B : Nat} {ty : TypeId} {z va vb : Array Value} {f6 f7 f8 f9 : Bool} {v6 v7 : Value} {w w' : World} (H : PairAt B ty z va vb f6 f7 f8 f9 v6 v7 w) (hk : Below w.heap.size w w') : PairAt B ty z va vb f6 f7 f8 f9 v6 v7 w' := by
  have st : ∀ {k : Nat} {o : Obj}, w.heap[k]? = some o → w'.heap[k]? = some o := fun h => (Below.block hk _ (Array.getElem?_eq_some_iff.1 h).1).trans h
  refine ⟨fun h => ?_, fun h => ?_, H.ne, H.fill6, H.fill7⟩
  · obtain ⟨b, h1, h2, h3⟩ := H.one h; exact ⟨b, h1, h2, st h3⟩
  · obtain ⟨b, h1, h2, h3⟩ := H.two h; exact ⟨b, h1, h2, st h3⟩
theorem PairAt.make6 {B : Nat} {ty : TypeId} {z va vb : Array Value} {f7 f9 : Bool} {v6 v7 : Value} {w : World} (H : PairAt B ty z va vb false f7 false f9 v6 v7 w) (hB : B ≤ w.heap.size) : PairAt B ty z va vb true f7 false f9 (.pointer (some ⟨w.heap.size, 0, none⟩)) v7 (w.alloc (.cells z ty)) := by
  have K := H.keep (w' := w.alloc (.cells z ty)) ((Below.refl _ w).alloc (Nat.le_refl _) _)
  refine ⟨fun _ => ⟨_, rfl, hB, ?_⟩, K.two, fun _ h7 => ?_, fun _ => rfl, H.fill7⟩
  · exact (show (w.heap.push _)[w.heap.size]? = _ from by simp)
  · obtain ⟨b, h1, _, h3⟩ := H.two h7
    have := (Array.getElem?_eq_some_iff.1 h3).1
    rw [h1]; intro e; injection e with e; injection e with e; injection e with e; omega
theorem PairAt.make7 {B : Nat} {ty : TypeId} {z va vb : Array Value} {f6 f8 : Bool} {v6 v7 : Value} {w : World} (H : PairAt B ty z va vb f6 false f8 false v6 v7 w) (hB : B ≤ w.heap.size) : PairAt B ty z va vb f6 true f8 false v6 (.pointer (some ⟨w.heap.size, 0, none⟩)) (w.alloc (.cells z ty)) := by
  have K := H.keep (w' := w.alloc (.cells z ty)) ((Below.refl _ w).alloc (Nat.le_refl _) _)
  refine ⟨K.one, fun _ => ⟨_, rfl, hB, ?_⟩, fun h6 _ => ?_, H.fill6, fun _ => rfl⟩
  · exact (show (w.heap.push _)[w.heap.size]? = _ from by simp)
  · obtain ⟨b, h1, _, h3⟩ := H.one h6
    have := (Array.getElem?_eq_some_iff.1 h3).1
    rw [h1]; intro e; injection e with e; injection e with e; injection e with e; omega
theorem set4 (w : World) (i : Nat) (x0 x1 x2 x3 a b c d : Value) (t : TypeId) (h : w.heap[i]? = some (.cells #[x0, x1, x2, x3] t (0, 0))) :
    ((((w.setCell ⟨i, 0, none⟩ a).setCell ⟨i, 1, none⟩ b).setCell ⟨i, 2, none⟩ c).setCell ⟨i, 3, none⟩ d).heap[i]? = some (.cells #[a, b, c, d] t (0, 0)) ∧
    ∀ k, k ≠ i → ((((w.setCell ⟨i, 0, none⟩ a).setCell ⟨i, 1, none⟩ b).setCell ⟨i, 2, none⟩ c).setCell ⟨i, 3, none⟩ d).heap[k]? = w.heap[k]? := by
  have e1 := heap_setCell_same w i 0 _ _ a h
  have e2 := heap_setCell_same _ i 1 _ _ b e1
  have e3 := heap_setCell_same _ i 2 _ _ c e2
  have e4 := heap_setCell_same _ i 3 _ _ d e3
  refine ⟨by simpa using e4, fun k hk => ?_⟩
  rw [heap_setCell_other _ _ _ _ hk, heap_setCell_other _ _ _ _ hk, heap_setCell_other _ _ _ _ hk, heap_setCell_other _ _ _ _ hk]
theorem PairAt.fill8 {B bl : Nat} {ty : TypeId} {x0 x1 x2 x3 a b c d : Value} {vb : Array Value} {f9 : Bool} {v7 : Value} {w : World} (H : PairAt B ty #[x0, x1, x2, x3] #[a, b, c, d] vb true true false f9 (.pointer (some ⟨bl, 0, none⟩)) v7 w) :
    PairAt B ty #[x0, x1, x2, x3] #[a, b, c, d] vb true true true f9 (.pointer (some ⟨bl, 0, none⟩)) v7 ((((w.setCell ⟨bl, 0, none⟩ a).setCell ⟨bl, 1, none⟩ b).setCell ⟨bl, 2, none⟩ c).setCell ⟨bl, 3, none⟩ d) := by
  obtain ⟨b1, h1, h2, h3⟩ := H.one rfl
  injection h1 with h1; injection h1 with h1; injection h1 with h1; subst h1
  obtain ⟨s1, s2⟩ := set4 w bl _ _ _ _ a b c d ty (by simpa using h3)
  refine ⟨fun _ => ⟨_, rfl, h2, by simpa using s1⟩, fun h7 => ?_, H.ne, fun _ => rfl, H.fill7⟩
  obtain ⟨b2, k1, k2, k3⟩ := H.two h7
  refine ⟨b2, k1, k2, (s2 b2 fun e => ?_).trans k3⟩
  subst e; exact H.ne rfl rfl k1.symm
theorem PairAt.fill9 {B br : Nat} {ty : TypeId} {x0 x1 x2 x3 a b c d : Value} {va : Array Value} {f8 : Bool} {v6 : Value} {w : World} (H : PairAt B ty #[x0, x1, x2, x3] va #[a, b, c, d] true true f8 false v6 (.pointer (some ⟨br, 0, none⟩)) w) :
    PairAt B ty #[x0, x1, x2, x3] va #[a, b, c, d] true true f8 true v6 (.pointer (some ⟨br, 0, none⟩)) ((((w.setCell ⟨br, 0, none⟩ a).setCell ⟨br, 1, none⟩ b).setCell ⟨br, 2, none⟩ c).setCell ⟨br, 3, none⟩ d) := by
  obtain ⟨b1, h1, h2, h3⟩ := H.two rfl
  injection h1 with h1; injection h1 with h1; injection h1 with h1; subst h1
  obtain ⟨s1, s2⟩ := set4 w br _ _ _ _ a b c d ty (by simpa using h3)
  refine ⟨fun h6 => ?_, fun _ => ⟨_, rfl, h2, by simpa using s1⟩, H.ne, H.fill6, fun _ => rfl⟩
  obtain ⟨b2, k1, k2, k3⟩ := H.one h6
  refine ⟨b2, k1, k2, (s2 b2 fun e => ?_).trans k3⟩
  subst e; exact H.ne rfl rfl k1
theorem below4 {a w : World} {B i : Nat} (hk : Below B a w) (hi : B ≤ i) (x y z u : Value) : Below B a ((((w.setCell ⟨i, 0, none⟩ x).setCell ⟨i, 1, none⟩ y).setCell ⟨i, 2, none⟩ z).setCell ⟨i, 3, none⟩ u) :=
  (((hk.setCell (p := ⟨i, 0, none⟩) hi x).setCell (p := ⟨i, 1, none⟩) hi y).setCell (p := ⟨i, 2, none⟩) hi z).setCell (p := ⟨i, 3, none⟩) hi u
/-- One box that is made (f6) and filled (f8). -/
structure BoxAt (B : Nat) (ty : TypeId) (z va : Array Value) (f6 f8 : Bool) (v6 : Value) (w : World) : Prop where
  one : f6 = true → ∃ bl, v6 = .pointer (some ⟨bl, 0, none⟩) ∧ B ≤ bl ∧ w.heap[bl]? = some (.cells (if f8 = true then va else z) ty (0, 0))
  fill6 : f8 = true → f6 = true
theorem BoxAt.keep {B : Nat} {ty : TypeId} {z va : Array Value} {f6 f8 : Bool} {v6 : Value} {w w' : World} (H : BoxAt B ty z va f6 f8 v6 w) (hk : Below w.heap.size w w') : BoxAt B ty z va f6 f8 v6 w' := by
  refine ⟨fun h => ?_, H.fill6⟩
  obtain ⟨b, h1, h2, h3⟩ := H.one h
  exact ⟨b, h1, h2, (Below.block hk _ (Array.getElem?_eq_some_iff.1 h3).1).trans h3⟩
theorem BoxAt.make {B : Nat} {ty : TypeId} {z va : Array Value} {w : World} (hB : B ≤ w.heap.size) : BoxAt B ty z va true false (.pointer (some ⟨w.heap.size, 0, none⟩)) (w.alloc (.cells z ty)) :=
  ⟨fun _ => ⟨_, rfl, hB, show (w.heap.push _)[w.heap.size]? = _ from by simp⟩, fun _ => rfl⟩
theorem BoxAt.fill {B bl : Nat} {ty : TypeId} {x0 x1 x2 x3 a b c d : Value} {w : World} (H : BoxAt B ty #[x0, x1, x2, x3] #[a, b, c, d] true false (.pointer (some ⟨bl, 0, none⟩)) w) :
    BoxAt B ty #[x0, x1, x2, x3] #[a, b, c, d] true true (.pointer (some ⟨bl, 0, none⟩)) ((((w.setCell ⟨bl, 0, none⟩ a).setCell ⟨bl, 1, none⟩ b).setCell ⟨bl, 2, none⟩ c).setCell ⟨bl, 3, none⟩ d) := by
  obtain ⟨b1, h1, h2, h3⟩ := H.one rfl
  injection h1 with h1; injection h1 with h1; injection h1 with h1; subst h1
  obtain ⟨s1, s2⟩ := set4 w bl _ _ _ _ a b c d ty (by simpa using h3)
  exact ⟨fun _ => ⟨_, rfl, h2, by simpa using s1⟩, fun _ => rfl⟩
end
end Go.Proofs.Ythjnkjekidagiaa.Ord
