/-
  Package shape: a loop over what is in a set, in a function's own body (range_out) and within a round of another such loop (range_in): what its rounds owe, what stands behind it.
-/
import Derived.Test.YtpkebokfbigggaaDoorShqD
namespace Go.Proofs.YtpkebokfbigggaaDoor.Shp
open Go.RowKit Go.Shelf

/-- What abides a turn of blocks at or behind B that hold no cells, and new blocks. -/
def Stb (B : Nat) (I : World → Prop) : Prop := ∀ (S : Nat → Prop) W W', I W → Chg S W W' → (∀ k, S k → B ≤ k ∧ ∃ o : Obj, W.heap[k]? = some o ∧ o.isCells = false) → I W'
theorem chg_putObj (w : World) (l : Nat) (o : Obj) : Chg (fun k => k = l) w (w.putObj l o) :=
  ⟨rfl, rfl, rfl, by simp, fun _ _ hk => World.putObj_heap_other hk⟩
theorem Stb.put {B : Nat} {I : World → Prop} (h : Stb B I) {W : World} (hi : I W) {l : Nat} {o : Obj} (hB : B ≤ l) (hl : W.heap[l]? = some o) (ho : o.isCells = false) (o' : Obj) : I (W.putObj l o') :=
  h _ _ _ hi (chg_putObj W l o') fun k e => by subst e; exact ⟨hB, o, hl, ho⟩
theorem Stb.kept {B : Nat} {I : World → Prop} (h : Stb B I) {W W' : World} (hi : I W) (hk : Kept W W') : I W' := h (fun _ => False) _ _ hi (Chg.of_kept hk) fun _ => False.elim
theorem Stb.and {B : Nat} {I J : World → Prop} (h : Stb B I) (k : Stb B J) : Stb B (fun W => I W ∧ J W) := fun S W W' hi hc hs => ⟨h S W W' hi.1 hc hs, k S W W' hi.2 hc hs⟩
theorem Stb.ex {α : Type} {B : Nat} {I : α → World → Prop} (h : ∀ a, Stb B (I a)) : Stb B (fun W => ∃ a, I a W) := fun S W W' ⟨a, hi⟩ hc hs => ⟨a, h a S W W' hi hc hs⟩
theorem Stb.pure (B : Nat) (p : Prop) : Stb B (fun _ => p) := fun _ _ _ hp _ _ => hp
theorem Stb.low {B C : Nat} {I : World → Prop} (h : Stb B I) (hc : B ≤ C) : Stb C I := fun S W W' hi k hs => h S W W' hi k fun i e => ⟨Nat.le_trans hc (hs i e).1, (hs i e).2⟩
/-- A block of cells. -/
def Blkc (w : World) (b : Nat) : Prop := ∃ cs t fr, w.heap[b]? = some (.cells cs t fr)
theorem not_turned {W : World} {B : Nat} {S : Nat → Prop} (hs : ∀ k, S k → B ≤ k ∧ ∃ o : Obj, W.heap[k]? = some o ∧ o.isCells = false) {b : Nat} (h : Blkc W b) : ¬ S b := fun k => by
  obtain ⟨cs, t, fr, h⟩ := h
  obtain ⟨_, o, h1, h2⟩ := hs b k
  rw [h] at h1
  injection h1 with h1
  subst h1
  cases h2
theorem Box.cells {w : World} {b x : Nat} (h : Box w b x) : Blkc w b := ⟨_, _, _, h⟩
theorem Gs.cells {w : World} {b : Nat} {X : List Nat} (h : Gs w b X) : Blkc w b := by obtain ⟨cs, h, _⟩ := h; exact ⟨_, _, _, h⟩
theorem stb_box (B b x : Nat) : Stb B (fun W => Box W b x) := fun _ _ _ h hc hs => h.chg hc (not_turned hs h.cells)
theorem stb_gs (B b : Nat) (X : List Nat) : Stb B (fun W => Gs W b X) := fun _ _ _ h hc hs => h.chg hc (not_turned hs h.cells)
theorem stb_tab (B : Nat) : Stb B Tab := fun S W W' h hc hs j hj => by
  have h1 := h j hj
  have hb : Blkc W 0 := by
    cases hh : W.heap[0]? with
    | none => simp [World.cell?, hh] at h1
    | some o =>
      cases o with
      | cells cs t fr => exact ⟨cs, t, fr, hh⟩
      | _ => simp [World.cell?, hh] at h1
  exact (World.cell?_of_block (hc.block _ (World.block_lt_of_cell? W _ h1) (not_turned hs hb))).trans h1
theorem stb_kept (w : World) {B : Nat} (h : w.heap.size ≤ B) : Stb B (Kept w) := fun _ _ _ hi hc hs => Kept.trans_chg hi hc fun i e => Nat.le_trans h (hs i e).1
theorem stb_own (B C n : Nat) (e : TypeId) (v : Value) (xs : List Value) : Stb B (fun W => W.ownsRow C e 1 v n xs) := fun _ W _ h hc hs => own_chg h hc fun g hg => by
  obtain ⟨_, _, c, hcs⟩ := own_ty h hg
  exact not_turned hs ⟨_, _, _, hcs⟩
theorem stb_cells (B b : Nat) (cs : Array Value) (t : TypeId) (fr : Nat × Nat) : Stb B (fun W => W.heap[b]? = some (.cells cs t fr)) := fun _ _ _ h hc hs => hc.heap h (not_turned hs ⟨_, _, _, h⟩)
/-- A turn of blocks of cells leaves what is no cells. -/
theorem keeps_chg {S : Nat → Prop} {B : Nat} {W W' : World} (h : Chg S W W') (hs : ∀ k, S k → B ≤ k → Blkc W k) : KeepsFrom B W W' :=
  ⟨h.size, fun k o hB hk ho => h.heap hk fun e => by
    obtain ⟨cs, t, fr, h1⟩ := hs k e hB
    rw [h1] at hk
    injection hk with hk
    subst hk
    cases ho⟩
theorem keeps_kept {B : Nat} {W W' : World} (h : Kept W W') : KeepsFrom B W W' := keeps_chg (S := fun _ => False) (Chg.of_kept h) fun _ e => e.elim

section
variable {ps : Array Tmp} {assign body : Code} {B x : Nat} {I : List Nat → World → Prop} {Ix : Code → List Nat → World → Prop} {Ax : Nat → Act → World → Prop}
def recOf (fn : FuncId) (tm : Array Value) (ps : Array Tmp) (assign body : Code) (df : Nat) (st : LoopState) (pe : Option Code) : Loop := { state := st, pending := pe, fn, tmps := tm, params := ps, assign, body, defers := df }
/-- What the rounds owe: the assignment's walk, the body's walk. -/
structure Owes (ps : Array Tmp) (assign body : Code) (B x : Nat) (tm : Array Value) (I : List Nat → World → Prop) (Ix : Code → List Nat → World → Prop) (Ax : Nat → Act → World → Prop) : Prop where
  one : ps.size = 1
  stI : ∀ pre, Stb B (I pre)
  stX : ∀ c pre, Stb B (Ix c pre)
  stA : ∀ i a, Stb B (Ax i a)
  tab : ∀ pre W, I pre W → Tab W
  assign : ∀ (l : Nat) (pre : List Nat) (i : Nat) (W : World) (K : Act → World → Prop), I pre W → (∀ a' W', KeepsFrom B W W' → I pre W' → Ax i a' W' → K a' W') →
    assign.wpIn (FW.inRound l) 0 Tryd.prog (Exit.then K (fun _ _ _ => False)) { tmps := (ps.zip #[.int .i64 (i : Int)]).foldl (fun t (p, v) => t.setIfInBounds p v) tm, defers := [] } W
  body : ∀ (l : Nat) (pre : List Nat) (i : Nat) (a' : Act) (W : World), B ≤ l → (∃ r, W.heap[l]? = some (.loop r)) → I pre W → Ax i a' W → pre ++ [i] <+: bitsL x →
    body.wpIn (FW.inRound l) 0 Tryd.prog (ownPostG B (fun _ _ => True) I Ix (pre ++ [i]) W) a' W
/-- What they owe where the loop's variable lies in the frame. -/
theorem Owes.fix {tm : Array Value} {af : Nat → Act} (one : ps.size = 1) (stI : ∀ pre, Stb B (I pre)) (stX : ∀ c pre, Stb B (Ix c pre)) (tab : ∀ pre W, I pre W → Tab W)
    (hassign : ∀ (l : Nat) (i : Nat) (W : World) (K : Act → World → Prop), K (af i) W → assign.wpIn (FW.inRound l) 0 Tryd.prog (Exit.then K (fun _ _ _ => False)) { tmps := (ps.zip #[.int .i64 (i : Int)]).foldl (fun t (p, v) => t.setIfInBounds p v) tm, defers := [] } W)
    (hbody : ∀ (l : Nat) (pre : List Nat) (i : Nat) (W : World), B ≤ l → (∃ r, W.heap[l]? = some (.loop r)) → I pre W → pre ++ [i] <+: bitsL x → body.wpIn (FW.inRound l) 0 Tryd.prog (ownPostG B (fun _ _ => True) I Ix (pre ++ [i]) W) (af i) W) :
    Owes ps assign body B x tm I Ix (fun i a' _ => a' = af i) :=
  ⟨one, stI, stX, fun _ _ _ _ _ h _ _ => h, tab, fun l pre i W K hi hK => hassign l i W K (hK _ _ (KeepsFrom.refl _ _) hi rfl), fun l pre i a' W hl hr hi e hp => by subst e; exact hbody l pre i W hl hr hi hp⟩
/-- What they owe where the loop's variable lies in a block of its own. -/
theorem Owes.box {tm : Array Value} {af : Nat → Nat → Act} (t : TypeId) (one : ps.size = 1) (stI : ∀ pre, Stb B (I pre)) (stX : ∀ c pre, Stb B (Ix c pre)) (tab : ∀ pre W, I pre W → Tab W)
    (hassign : ∀ (l : Nat) (i : Nat) (W : World) (b : Nat) (K : Act → World → Prop), W.heap.size = b → K (af i b) (W.alloc (.cells #[.int .i64 (i : Int)] t)) → assign.wpIn (FW.inRound l) 0 Tryd.prog (Exit.then K (fun _ _ _ => False)) { tmps := (ps.zip #[.int .i64 (i : Int)]).foldl (fun t (p, v) => t.setIfInBounds p v) tm, defers := [] } W)
    (hbody : ∀ (l : Nat) (pre : List Nat) (i : Nat) (W : World) (b : Nat), B ≤ l → (∃ r, W.heap[l]? = some (.loop r)) → I pre W → W.heap[b]? = some (.cells #[.int .i64 (i : Int)] t (0, 0)) → pre ++ [i] <+: bitsL x → body.wpIn (FW.inRound l) 0 Tryd.prog (ownPostG B (fun _ _ => True) I Ix (pre ++ [i]) W) (af i b) W) :
    Owes ps assign body B x tm I Ix (fun i a' W => ∃ b, W.heap[b]? = some (.cells #[.int .i64 (i : Int)] t (0, 0)) ∧ a' = af i b) :=
  ⟨one, stI, stX, fun i a => Stb.ex fun b => (stb_cells B b _ _ _).and (Stb.pure B _), tab,
    fun l pre i W K hi hK => hassign l i W _ K rfl (hK _ _ (keeps_kept ((Kept.refl W).alloc _)) ((stI pre).kept hi ((Kept.refl W).alloc _)) ⟨_, heap_alloc_new _ _, rfl⟩),
    fun l pre i a' W hl hr hi ⟨b, h2, e⟩ hp => by subst e; exact hbody l pre i W b hl hr hi h2 hp⟩
theorem stb_keeps {B C : Nat} (W0 : World) (h : W0.heap.size ≤ C) : Stb C (KeepsFrom B W0) := fun S W W' hi hc hs =>
  ⟨Nat.le_trans hi.size hc.size, fun k o hB hk ho => hc.heap (hi.same k o hB hk ho) fun e => by
    have h1 := (hs k e).1
    have h2 := (Array.getElem?_eq_some_iff.1 hk).1
    omega⟩
theorem owes_yield {tm : Array Value} (H : Owes ps assign body B x tm I Ix Ax) (fn : FuncId) (df l : Nat) (hl : B ≤ l) (E : World → Prop) (hE : ∀ W W', KeepsFrom B W W' → E W → E W') (hEl : ∀ W o, E W → E (W.putObj l o))
    (pre : List Nat) (i : Nat) (W : World) (hJ : I pre W ∧ W.heap[l]? = some (.loop (recOf fn tm ps assign body df .ready none)) ∧ E W) (hp : pre ++ [i] <+: bitsL x) :
    YieldAt FW 0 Tryd.prog l #[.int .i64 (i : Int)] W fun e W' =>
      (e = .returned (.bool true) ∧ I (pre ++ [i]) W' ∧ W'.heap[l]? = some (.loop (recOf fn tm ps assign body df .ready none)) ∧ E W') ∨
      (e = .returned (.bool false) ∧ ∃ c, Ix c (pre ++ [i]) W' ∧ W'.heap[l]? = some (.loop (recOf fn tm ps assign body df .done (some c))) ∧ E W') := by
  obtain ⟨hi, hr, he⟩ := hJ
  have hy := run_yield (P := Tryd.prog) (args := #[.int .i64 (i : Int)]) hr (by show 1 = ps.size; rw [H.one])
  refine ⟨fn, _, assign, body, hy, roundIn_of_wpIn trivial (H.assign l pre i W _ hi ?_)⟩
  intro a' Wa hk hia hax
  have hr1 := hk.same _ _ hl hr rfl
  have he1 := hE _ _ hk he
  have hlt := (Array.getElem?_eq_some_iff.1 hr1).1
  refine ⟨_, run_beginRound hr1 rfl, ?_⟩
  have hr2 : (Wa.putObj l (.loop { recOf fn tm ps assign body df .ready none with state := .busy })).heap[l]? = some (.loop (recOf fn tm ps assign body df .busy none)) := World.putObj_heap_same hlt
  refine wpIn_mono (H.body l pre i a' _ hl ⟨_, hr2⟩ ((H.stI pre).put hia hl hr1 rfl _) ((H.stA i a').put hax hl hr1 rfl _) hp) ?_
  have he2 := hEl _ (.loop { recOf fn tm ps assign body df .ready none with state := .busy }) he1
  generalize Wa.putObj l (.loop { recOf fn tm ps assign body df .ready none with state := .busy }) = W2 at *
  have fin : ∀ (jump : Option Code) (W3 : World), KeepsFrom B W2 W3 →
      (Instr.endRound l jump).run Tryd.prog W3 = .ok (.bool jump.isNone) (W3.putObj l (.loop (recOf fn tm ps assign body df (if jump.isNone then .ready else .done) jump))) ∧
      W3.heap[l]? = some (.loop (recOf fn tm ps assign body df .busy none)) ∧
      (W3.putObj l (.loop (recOf fn tm ps assign body df (if jump.isNone then .ready else .done) jump))).heap[l]? = some (.loop (recOf fn tm ps assign body df (if jump.isNone then .ready else .done) jump)) ∧
      E (W3.putObj l (.loop (recOf fn tm ps assign body df (if jump.isNone then .ready else .done) jump))) := fun jump W3 h3 => by
    have hr3 := h3.same _ _ hl hr2 rfl
    exact ⟨run_endRound jump hr3, hr3, World.putObj_heap_same (Array.getElem?_eq_some_iff.1 hr3).1, hEl _ _ (hE _ _ h3 he2)⟩
  rintro e a3 W3 hp3
  cases e with
  | normal =>
    obtain ⟨h3, -, hi3⟩ := hp3
    obtain ⟨q1, q2, q3, q4⟩ := fin none W3 h3
    exact ⟨_, _, q1, .inl ⟨rfl, (H.stI _).put hi3 hl q2 rfl _, q3, q4⟩⟩
  | ret =>
    obtain ⟨h3, hi3⟩ := hp3
    obtain ⟨q1, q2, q3, q4⟩ := fin (some .ret) W3 h3
    exact ⟨_, _, q1, .inr ⟨rfl, .ret, (H.stX _ _).put hi3 hl q2 rfl _, q3, q4⟩⟩
  | exit id =>
    obtain ⟨h3, hi3⟩ := hp3
    obtain ⟨q1, q2, q3, q4⟩ := fin (some (.exit id)) W3 h3
    exact ⟨_, _, q1, .inr ⟨rfl, .exit id, (H.stX _ _).put hi3 hl q2 rfl _, q3, q4⟩⟩
  | goto t =>
    obtain ⟨h3, hi3⟩ := hp3
    obtain ⟨q1, q2, q3, q4⟩ := fin (some (.goto t)) W3 h3
    exact ⟨_, _, q1, .inr ⟨rfl, .goto t, (H.stX _ _).put hi3 hl q2 rfl _, q3, q4⟩⟩
  | panic ch => exact hp3.elim
  | outgrown => exact hp3.elim

/-- The loop in a function's own body. -/
theorem range_out {g : Operand} {Q : Exit → Act → World → Prop} {a : Act} {w : World} (hx : x < 4294967296) (hg : a.eval g = .func (.func 25) #[.agg (setC x)] #[])
    (H : Owes ps assign body w.heap.size x a.tmps I Ix Ax) (h0 : I [] w)
    (hdone : ∀ (D : Nat) (W : World), w.heap.size ≤ D → I (bitsL x) W → W.heap[D]? = some (.deferred (some [])) → Q .normal { a with defers := { target := .collected D, args := #[] } :: a.defers } W)
    (hstop : ∀ (D : Nat) (c : Code) (pre : List Nat) (W : World), w.heap.size ≤ D → pre <+: bitsL x → Ix c pre W → W.heap[D]? = some (.deferred (some [])) → c.wpIn FW 0 Tryd.prog Q { a with defers := { target := .collected D, args := #[] } :: a.defers } W) :
    (Code.rangeFunc g ps assign body).wpIn FW 0 Tryd.prog Q a w := by
  refine wpIn_rangeFunc ?_
  intro fn hfn
  have hW := run_enterLoop_outer (P := Tryd.prog) (w := w) fn a.tmps ps assign body
  have hL1 : ((w.alloc (.deferred (some []))).alloc (.loop (recOf fn a.tmps ps assign body w.heap.size .ready none))).heap[w.heap.size + 1]? = some (.loop (recOf fn a.tmps ps assign body w.heap.size .ready none)) := by
    have := World.alloc_heap_new (w.alloc (.deferred (some []))) (.loop (recOf fn a.tmps ps assign body w.heap.size .ready none)); rwa [World.size_alloc] at this
  have hD1 : ((w.alloc (.deferred (some []))).alloc (.loop (recOf fn a.tmps ps assign body w.heap.size .ready none))).heap[w.heap.size]? = some (.deferred (some [])) :=
    (Below.heap_alloc _ _ _ (by simp)).trans (World.alloc_heap_new w _)
  have hI1 : I [] ((w.alloc (.deferred (some []))).alloc (.loop (recOf fn a.tmps ps assign body w.heap.size .ready none))) := (H.stI []).kept h0 (((Kept.refl w).alloc _).alloc _)
  change (Instr.enterLoop fn a.tmps ps assign body none).run Tryd.prog w = .ok (w.heap.size + 1, [{ target := .collected w.heap.size, args := #[] }]) ((w.alloc (.deferred (some []))).alloc (.loop (recOf fn a.tmps ps assign body w.heap.size .ready none))) at hW
  generalize (w.alloc (.deferred (some []))).alloc (.loop (recOf fn a.tmps ps assign body w.heap.size .ready none)) = W1 at *
  refine ⟨w.heap.size + 1, [{ target := .collected w.heap.size, args := #[] }], W1, { target := .fn (.func 25) #[], args := #[.agg (setC x), .func (.yield (w.heap.size + 1)) #[] #[]] }, W1, 25,
    #[.agg (setC x), .func (.yield (w.heap.size + 1)) #[] #[]], W1, hW, ?_, fun _ _ => trivial, ?_, fun h => (by cases h), ?_⟩
  · simp only [resolve, rangeCall, hg]
    simp [go_sem]
  · have e := enters_of Tryd.func25 (by kernel_rfl) rfl #[.agg (setC x), .func (.yield (w.heap.size + 1)) #[] #[]] W1
    simp [invoke, go_sem, e]
  · have hE : ∀ W W', KeepsFrom w.heap.size W W' → W.heap[w.heap.size]? = some (.deferred (some [])) → W'.heap[w.heap.size]? = some (.deferred (some [])) := fun W W' hk h => hk.same _ _ (Nat.le_refl _) h rfl
    have hEl : ∀ (W : World) o, W.heap[w.heap.size]? = some (.deferred (some [])) → (W.putObj (w.heap.size + 1) o).heap[w.heap.size]? = some (.deferred (some [])) := fun W o h => (World.putObj_heap_other (by omega)).trans h
    refine (each_in (0 - 1) (w.heap.size + 1) x hx
      (fun pre W => I pre W ∧ W.heap[w.heap.size + 1]? = some (.loop (recOf fn a.tmps ps assign body w.heap.size .ready none)) ∧ W.heap[w.heap.size]? = some (.deferred (some [])))
      (fun pre W => ∃ c, Ix c pre W ∧ W.heap[w.heap.size + 1]? = some (.loop (recOf fn a.tmps ps assign body w.heap.size .done (some c))) ∧ W.heap[w.heap.size]? = some (.deferred (some [])))
      (fun pre W h => H.tab pre W h.1) (fun pre i W h hp => owes_yield H fn w.heap.size (w.heap.size + 1) (by omega) (fun W => W.heap[w.heap.size]? = some (.deferred (some []))) hE hEl pre i W h hp) W1
      ⟨(H.stI []).kept hI1 ((Kept.refl W1).alloc _), (Below.heap_alloc _ _ _ (Array.getElem?_eq_some_iff.1 hL1).1).trans hL1, (Below.heap_alloc _ _ _ (Array.getElem?_eq_some_iff.1 hD1).1).trans hD1⟩).mono ?_
    rintro e W2 ⟨⟨v, rfl⟩, (⟨hi, hl, hk⟩ | ⟨pre, hpre, c, hi, hl, hk⟩)⟩
    · exact ⟨none, _, run_endLoop hl (by simp [recOf]), hdone _ _ (Nat.le_refl _) ((H.stI _).put hi (by omega) hl rfl _) ((World.putObj_heap_other (by omega)).trans hk)⟩
    · exact ⟨some c, _, run_endLoop hl (by simp [recOf]), hstop _ c pre _ (Nat.le_refl _) hpre ((H.stX c pre).put hi (by omega) hl rfl _) ((World.putObj_heap_other (by omega)).trans hk)⟩

/-- The loop within a round of loop l₀. -/
theorem range_in {g : Operand} {Q : Exit → Act → World → Prop} {a : Act} {w : World} {l₀ : Nat} {r₀ : Loop} (hr₀ : w.heap[l₀]? = some (.loop r₀)) (hx : x < 4294967296) (hg : a.eval g = .func (.func 25) #[.agg (setC x)] #[])
    (H : Owes ps assign body w.heap.size x a.tmps I Ix Ax) (h0 : I [] w)
    (hdone : ∀ (W : World), I (bitsL x) W → Q .normal a W)
    (hstop : ∀ (c : Code) (pre : List Nat) (W : World), pre <+: bitsL x → Ix c pre W → c.wpIn (FW.inRound l₀) 0 Tryd.prog Q a W) :
    (Code.rangeFunc g ps assign body).wpIn (FW.inRound l₀) 0 Tryd.prog Q a w := by
  refine wpIn_rangeFunc ?_
  intro fn hfn
  have hW := run_enterLoop_inner (P := Tryd.prog) hr₀ fn a.tmps ps assign body
  have hL1 : (w.alloc (.loop (recOf fn a.tmps ps assign body r₀.defers .ready none))).heap[w.heap.size]? = some (.loop (recOf fn a.tmps ps assign body r₀.defers .ready none)) := World.alloc_heap_new w _
  have hI1 : I [] (w.alloc (.loop (recOf fn a.tmps ps assign body r₀.defers .ready none))) := (H.stI []).kept h0 ((Kept.refl w).alloc _)
  change (Instr.enterLoop fn a.tmps ps assign body (some l₀)).run Tryd.prog w = .ok (w.heap.size, []) (w.alloc (.loop (recOf fn a.tmps ps assign body r₀.defers .ready none))) at hW
  generalize w.alloc (.loop (recOf fn a.tmps ps assign body r₀.defers .ready none)) = W1 at *
  refine ⟨w.heap.size, [], W1, { target := .fn (.func 25) #[], args := #[.agg (setC x), .func (.yield w.heap.size) #[] #[]] }, W1, 25,
    #[.agg (setC x), .func (.yield w.heap.size) #[] #[]], W1, hW, ?_, fun _ _ => trivial, ?_, fun h => (by cases h), ?_⟩
  · simp only [resolve, rangeCall, hg]
    simp [go_sem]
  · have e := enters_of Tryd.func25 (by kernel_rfl) rfl #[.agg (setC x), .func (.yield w.heap.size) #[] #[]] W1
    simp [invoke, go_sem, e]
  · have HY := fun pre i W h hp => owes_yield H fn r₀.defers w.heap.size (Nat.le_refl _) (fun W : World => W.heap.size = W.heap.size) (fun _ _ _ _ => rfl) (fun _ _ _ => rfl) pre i W h hp
    refine (each_in (0 - 1) w.heap.size x hx
      (fun pre W => I pre W ∧ W.heap[w.heap.size]? = some (.loop (recOf fn a.tmps ps assign body r₀.defers .ready none)) ∧ W.heap.size = W.heap.size)
      (fun pre W => ∃ c, Ix c pre W ∧ W.heap[w.heap.size]? = some (.loop (recOf fn a.tmps ps assign body r₀.defers .done (some c))) ∧ W.heap.size = W.heap.size)
      (fun pre W h => H.tab pre W h.1) (fun pre i W h hp => by have hy := HY pre i W h hp; exact hy) W1
      ⟨(H.stI []).kept hI1 ((Kept.refl W1).alloc _), (Below.heap_alloc _ _ _ (Array.getElem?_eq_some_iff.1 hL1).1).trans hL1, rfl⟩).mono ?_
    rintro e W2 ⟨⟨v, rfl⟩, (⟨hi, hl, -⟩ | ⟨pre, hpre, c, hi, hl, -⟩)⟩
    · exact ⟨none, _, run_endLoop hl (by simp [recOf]), hdone _ ((H.stI _).put hi (Nat.le_refl _) hl rfl _)⟩
    · exact ⟨some c, _, run_endLoop hl (by simp [recOf]), hstop c pre _ hpre ((H.stX c pre).put hi (Nat.le_refl _) hl rfl _)⟩
end
end Go.Proofs.YtpkebokfbigggaaDoor.Shp
