/-
  Env.find of package eval: the last bind of a name; none where there is no memory.
-/
import Derived.Test.YthjnkjekidagiaaFindA
namespace Go.Proofs.Ythjnkjekidagiaa.Fnd
open Go.RowKit Go.Shelf
attribute [local go_sem] Oper.semAt_some

def findF (zs : List Bi) (nm : List UInt8) : Option Bi := ((upto (backF zs) zs.length).find? fun p => decide (p.2.name = nm)).map (·.2)

theorem find_at {zs : List Bi} {nm : List UInt8} {k : Nat} {ini : List (Nat × Bi)} {last : Nat × Bi} (hk : k ≤ zs.length) (he : upto (backF zs) k = ini ++ [last]) (hi : ∀ p ∈ ini, p.2.name ≠ nm) (hl : last.2.name = nm) : findF zs nm = some last.2 := by
  unfold findF
  have e : upto (backF zs) zs.length = (ini ++ [last]) ++ ((List.range (zs.length - k)).map fun j => backF zs (k + j)) := by
    rw [← he]
    unfold upto
    have : zs.length = k + (zs.length - k) := by omega
    conv => lhs; rw [this, List.range_add, List.map_append]
    simp [Function.comp_def]
  rw [e, List.append_assoc, List.find?_append]
  have h1 : ini.find? (fun p => decide (p.2.name = nm)) = Option.none := by
    rw [List.find?_eq_none]; intro p hp; simp [hi p hp]
  rw [h1]
  simp [hl]
theorem find_none {zs : List Bi} {nm : List UInt8} (h : ∀ p ∈ upto (backF zs) zs.length, p.2.name ≠ nm) : findF zs nm = Option.none := by
  unfold findF
  have h1 : (upto (backF zs) zs.length).find? (fun p => decide (p.2.name = nm)) = Option.none := by
    rw [List.find?_eq_none]; intro p hp; simp [h p hp]
  rw [h1]; rfl
theorem box_own {β : Type} (B : Nat) (t : TypeId) (f : β → Array Value) : Own (fun s W => W.heap[B]? = some (.cells (f s) t (0, 0))) := fun s X Y row hs hg hrow =>
  (hg.block B (Array.getElem?_eq_some_iff.1 hs).1 (fun e' => by obtain ⟨o, ho, hc⟩ := hrow B e'.symm; rw [show X.heap[B]? = _ from hs] at ho; cases ho; cases hc)).trans hs
theorem bx_cell {w : World} {b : Nat} {cs : Array Value} {t : TypeId} (h : w.heap[b]? = some (.cells cs t (0, 0))) (o : Nat) (u : Value) (hu : cs[o]? = some u) : w.cell? ⟨b, o, Option.none⟩ = some u := by simpa [World.cell?, h] using hu
theorem bx_froz {w : World} {b : Nat} {cs : Array Value} {t : TypeId} (h : w.heap[b]? = some (.cells cs t (0, 0))) (o : Nat) : w.frozen? ⟨b, o, Option.none⟩ = false := by simp [World.frozen?, h]
def biCells (b : Bi) : Array Value := #[.string ⟨b.name.toArray⟩, .int .i64 b.t, .int .i64 b.size, .int .i64 b.id]

theorem five (w : World) (o0 o1 o2 o3 o4 : Obj) : (((((w.alloc o0).alloc o1).alloc o2).alloc o3).alloc o4).heap[w.heap.size + 1]? = some o1 ∧ (((((w.alloc o0).alloc o1).alloc o2).alloc o3).alloc o4).heap[w.heap.size + 1 + 1]? = some o2 ∧
    (((((w.alloc o0).alloc o1).alloc o2).alloc o3).alloc o4).heap[w.heap.size + 1 + 1 + 1]? = some o3 ∧ (((((w.alloc o0).alloc o1).alloc o2).alloc o3).alloc o4).heap[w.heap.size + 1 + 1 + 1 + 1]? = some o4 := by
  have e (w : World) (o : Obj) : (w.alloc o).heap[w.heap.size]? = some o := World.alloc_heap_new w o
  refine ⟨?_, ?_, ?_, ?_⟩
  · rw [Below.heap_alloc _ _ _ (by simp), Below.heap_alloc _ _ _ (by simp), Below.heap_alloc _ _ _ (by simp)]
    have := e (w.alloc o0) o1; simpa using this
  · rw [Below.heap_alloc _ _ _ (by simp), Below.heap_alloc _ _ _ (by simp)]
    have := e ((w.alloc o0).alloc o1) o2; simpa using this
  · rw [Below.heap_alloc _ _ _ (by simp)]
    have := e (((w.alloc o0).alloc o1).alloc o2) o3; simpa using this
  · have := e ((((w.alloc o0).alloc o1).alloc o2).alloc o3) o4; simpa using this

theorem stored {W : World} {i j : Nat} {x0 x1 x2 x3 y : Value} {t t' : TypeId} (a b c d e : Value) (hij : i ≠ j) (h4 : W.heap[i]? = some (.cells #[x0, x1, x2, x3] t (0, 0))) (h1 : W.heap[j]? = some (.cells #[y] t' (0, 0))) :
    (((((W.setCell ⟨i, 0, Option.none⟩ a).setCell ⟨i, 1, Option.none⟩ b).setCell ⟨i, 2, Option.none⟩ c).setCell ⟨i, 3, Option.none⟩ d).setCell ⟨j, 0, Option.none⟩ e).heap[i]? = some (.cells #[a, b, c, d] t (0, 0)) ∧
    (((((W.setCell ⟨i, 0, Option.none⟩ a).setCell ⟨i, 1, Option.none⟩ b).setCell ⟨i, 2, Option.none⟩ c).setCell ⟨i, 3, Option.none⟩ d).setCell ⟨j, 0, Option.none⟩ e).heap[j]? = some (.cells #[e] t' (0, 0)) ∧
    KeepsOthers W (((((W.setCell ⟨i, 0, Option.none⟩ a).setCell ⟨i, 1, Option.none⟩ b).setCell ⟨i, 2, Option.none⟩ c).setCell ⟨i, 3, Option.none⟩ d).setCell ⟨j, 0, Option.none⟩ e) ∧
    ∀ n w, n ≤ i → n ≤ j → Below n w W → Below n w (((((W.setCell ⟨i, 0, Option.none⟩ a).setCell ⟨i, 1, Option.none⟩ b).setCell ⟨i, 2, Option.none⟩ c).setCell ⟨i, 3, Option.none⟩ d).setCell ⟨j, 0, Option.none⟩ e) := by
  have e1 := heap_setCell_same W i 0 _ _ a h4
  have e2 := heap_setCell_same _ i 1 _ _ b e1
  have e3 := heap_setCell_same _ i 2 _ _ c e2
  have e4 := heap_setCell_same _ i 3 _ _ d e3
  have k1 : (((((W.setCell ⟨i, 0, Option.none⟩ a).setCell ⟨i, 1, Option.none⟩ b).setCell ⟨i, 2, Option.none⟩ c).setCell ⟨i, 3, Option.none⟩ d)).heap[j]? = some (.cells #[y] t' (0, 0)) := by
    rw [Below.heap_setCell _ _ _ _ (Ne.symm hij), Below.heap_setCell _ _ _ _ (Ne.symm hij), Below.heap_setCell _ _ _ _ (Ne.symm hij), Below.heap_setCell _ _ _ _ (Ne.symm hij)]; exact h1
  refine ⟨?_, ?_, ?_, fun n w hi hj h => ?_⟩
  · rw [Below.heap_setCell _ _ _ _ hij]; simpa using e4
  · have := heap_setCell_same _ j 0 _ _ e k1; simpa using this
  · exact ((((KeepsOthers.setCell W _ a).trans (KeepsOthers.setCell _ _ b)).trans (KeepsOthers.setCell _ _ c)).trans (KeepsOthers.setCell _ _ d)).trans (KeepsOthers.setCell _ _ e)
  · exact ((((h.setCell (p := ⟨i, 0, Option.none⟩) hi a).setCell (p := ⟨i, 1, Option.none⟩) hi b).setCell (p := ⟨i, 2, Option.none⟩) hi c).setCell (p := ⟨i, 3, Option.none⟩) hi d).setCell (p := ⟨j, 0, Option.none⟩) hj e

set_option maxRecDepth 100000 in
set_option maxHeartbeats 2000000 in
theorem find_nil (w : World) (b o ob r t : Value) (nm : List UInt8) :
    Calls Try.prog 99 #[.agg #[.pointer Option.none, b, o, ob, r, t], .string ⟨nm.toArray⟩] w fun e w' => e = .returned (.tuple #[biVal Bi.none, .bool false]) ∧ Kept w w' := by
  go_enter Try.func99, Try.ntmps99
  go_wp2
  simp [bodyPost, results, Try.f99, go_sem]
  exact ⟨rfl, ((((Kept.refl w).alloc _).alloc _).alloc _).alloc _⟩
set_option maxRecDepth 100000 in
set_option maxHeartbeats 4000000 in
theorem find_in (F : Fence) (n : Nat) (h4 : F.fn 99) (h6 : F.fn 103) (h8 : F.fn 107) (hro : F.round = Option.none) (hn : 3 ≤ n) (p : Addr) (a : Option Addr) (len cap : Nat) (o ob r t : Value) (nm : List UInt8) (zs : List Bi) (w : World) (hI : BindsAt w.heap.size w (.slice a len cap) zs) :
    CallsIn F n Try.prog 99 #[.agg #[.pointer (some p), .slice a len cap, o, ob, r, t], .string ⟨nm.toArray⟩] w fun e W' => ((e = .returned (.tuple #[biVal Bi.none, .bool false]) ∧ findF zs nm = Option.none) ∨ ∃ b, e = .returned (.tuple #[biVal b, .bool true]) ∧ findF zs nm = some b) ∧ Below w.heap.size w W' := by
  have h1 : 1 ≤ n := by omega
  refine callsIn_of_wp_marks Try.func99 rfl h4 ?_ hro
  simp only [Try.ntmps99, List.size_toArray, List.length_cons, List.length_nil, Nat.reduceAdd, Nat.reduceSub, Array.replicate_succ, Array.replicate_zero, List.push_toArray, List.append_toArray, List.nil_append, List.cons_append]
  gi_wp2_with (gi_at_call 103; refine (back_in F (n - 1) h6 hro _ _ _ _).mono ?_; rintro e w' ⟨rfl, rfl⟩)
  obtain ⟨W0, hW0⟩ : ∃ W0, (((((w.alloc (.cells #[.pointer (some p), .slice a len cap, o, ob, r, t] 49)).alloc (.cells #[.string ⟨nm.toArray⟩] 9)).alloc (.cells #[.string ⟨#[]⟩, .int .i64 0, .int .i64 0, .int .i64 0] 58)).alloc (.cells #[.bool false] 4)).alloc (.cells #[.slice a len cap] 47)) = W0 := ⟨_, rfl⟩
  have hsz : W0.heap.size = w.heap.size + 1 + 1 + 1 + 1 + 1 := by rw [← hW0]; simp
  have hB0 : Below w.heap.size w W0 := by rw [← hW0]; exact (((((Below.refl _ w).alloc (Nat.le_refl _) _).alloc (by simp) _).alloc (by simp; omega) _).alloc (by simp; omega) _).alloc (by simp; omega) _
  obtain ⟨x1, x2, x3, x4⟩ := five w (.cells #[.pointer (some p), .slice a len cap, o, ob, r, t] 49) (.cells #[.string ⟨nm.toArray⟩] 9) (.cells #[.string ⟨#[]⟩, .int .i64 0, .int .i64 0, .int .i64 0] 58) (.cells #[.bool false] 4) (.cells #[.slice a len cap] 47)
  rw [hW0] at x1 x2 x3 x4
  rw [hW0]
  clear hW0
  have X1 := Lib.hid x1
  have X2 := Lib.hid x2
  have X3 := Lib.hid x3
  have HB0 := Lib.hid hB0
  have hI0 := hI.below hB0
  have hI1 : BindsAt W0.heap.size W0 (.slice a len cap) zs := by
    obtain ⟨q0, q | ⟨b, cp, q1, q2, q3, q4, q5⟩⟩ := hI0
    · exact ⟨q0, .inl q⟩
    · exact ⟨q0, .inr ⟨b, cp, q1, q2, q3, by omega, q5⟩⟩
  refine wpIn_rangeFunc_ownH hro h1 (gf := 107) (lb := #[.pointer (some ⟨w.heap.size + 1 + 1 + 1 + 1, 0, Option.none⟩)]) rfl h8 (enters_of Try.func107 (by kernel_rfl) rfl)
    (back_stops F (n - 1) h8 hro (by omega) (w.heap.size + 1 + 1 + 1 + 1) W0.heap.size _ zs W0 (by omega) (Nat.le_refl _) (bx_cell x4 0 _ rfl) hI1) belowK_t (belowK_b (Nat.le_refl _)) (Below.refl _ _) (fun _ => rfl)
    (fun pre W => (∀ p ∈ pre, p.2.name ≠ nm) ∧ Below W0.heap.size W0 W)
    (fun c pre W => (c = .ret ∧ ∃ ini last, pre = ini ++ [last] ∧ (∀ p ∈ ini, p.2.name ≠ nm) ∧ last.2.name = nm ∧ W.heap[w.heap.size + 1 + 1]? = some (.cells (biCells last.2) 58 (0, 0)) ∧ W.heap[w.heap.size + 1 + 1 + 1]? = some (.cells #[.bool true] 4 (0, 0))) ∧ Below w.heap.size w W)
    (OwnFrom.and (Own.from (fun s A B row hs _ _ => hs) _) (ownFrom_below (Nat.le_refl _) (Nat.le_refl _)))
    (fun c => OwnFrom.and (Own.from (fun s A B row hs hg hr => by obtain ⟨hc, ini, last, e1, e2, e3, e4, e5⟩ := hs; exact ⟨hc, ini, last, e1, e2, e3, box_own (β := Unit) _ _ (fun _ => _) () A B row e4 hg hr, box_own (β := Unit) _ _ (fun _ => _) () A B row e5 hg hr⟩) _) (ownFrom_below (Nat.le_refl _) (by omega)))
    ⟨by simp, Below.refl _ _⟩
    (fun x a' W => ∃ Bx, W0.heap.size ≤ Bx ∧ W.heap[Bx]? = some (.cells (biCells x.2) 58 (0, 0)) ∧ a' = { tmps := #[.agg #[.pointer (some p), .slice a len cap, o, ob, r, t], .string ⟨nm.toArray⟩, .pointer (some ⟨w.heap.size, 0, Option.none⟩), .pointer (some ⟨w.heap.size + 1, 0, Option.none⟩), .pointer (some ⟨w.heap.size + 1 + 1, 0, Option.none⟩), .pointer (some ⟨w.heap.size + 1 + 1 + 1, 0, Option.none⟩), undef, .pointer (some ⟨Bx, 0, Option.none⟩), .pointer (some ⟨w.heap.size, 0, Option.none⟩), .pointer (some p), .bool false, undef, .pointer (some ⟨w.heap.size, 1, Option.none⟩), .slice a len cap, .func (.func 107) #[] #[.pointer (some ⟨w.heap.size + 1 + 1 + 1 + 1, 0, Option.none⟩)], .int .i64 (x.1 : Nat), biVal x.2, undef, undef, undef, undef, undef, undef], defers := [] })
    (fun x a' => Own.from (fun s A B row hs hg hr => by obtain ⟨Bx, h1, h2, h3⟩ := hs; exact ⟨Bx, h1, box_own (β := Unit) _ _ (fun _ => _) () A B row h2 hg hr, h3⟩) _) ?assign ?body ?done ?stop
  case assign =>
    rintro l pre x W K ⟨hi, hB⟩ hK
    unfold biVal
    gi_wp2
    exact hK _ _ ((KeepsOthers.alloc _ _).from _) ((Below.refl _ W).alloc hB.size _) ⟨hi, hB.alloc hB.size _⟩ ⟨W.heap.size, hB.size, World.alloc_heap_new W _, rfl⟩
  case body =>
    rintro l pre x a' W hl ⟨r, hr⟩ ⟨hi, hB⟩ ⟨Bx, hBx, bX, rfl⟩ hlt
    have q2 := (hB.block _ (by omega)).trans X2.out
    have q3 := (hB.block _ (by omega)).trans X3.out
    have y1 := bx_cell ((hB.block _ (by omega)).trans X1.out) 0 _ rfl
    unfold biCells at bX
    have y2 := bx_cell bX 0 _ rfl
    have y3 := bx_cell bX 1 _ rfl
    have y4 := bx_cell bX 2 _ rfl
    have y5 := bx_cell bX 3 _ rfl
    have z0 := bx_cell q2 0 _ rfl
    have z1 := bx_cell q2 1 _ rfl
    have z2 := bx_cell q2 2 _ rfl
    have z3 := bx_cell q2 3 _ rfl
    have z4 := bx_cell q3 0 _ rfl
    have f2 := bx_froz q2
    have f3 := bx_froz q3
    have Q2 := Lib.hid q2
    have Q3 := Lib.hid q3
    have HB := Lib.hid hB
    have HI := Lib.hid hi
    clear q2 q3 bX hB hi hr
    unfold biVal
    gi_wp2
    · have hx : x.2.name = nm := beq_iff_eq.1 (by assumption)
      obtain ⟨s1, s2, s3, s4⟩ := stored (.string ⟨x.2.name.toArray⟩) (.int .i64 x.2.t) (.int .i64 x.2.size) (.int .i64 x.2.id) (.bool true) (by omega) Q2.out Q3.out
      exact ⟨s3.from _, ⟨rfl, pre, x, rfl, HI.out, hx, s1, s2⟩, s4 _ _ (by omega) (by omega) (Below.trans HB0.out (HB.out.mono (by omega)))⟩
    · have hx : x.2.name ≠ nm := beq_eq_false_iff_ne.1 (by assumption)
      exact ⟨KeepsFrom.refl _ _, Below.refl _ _, ⟨fun p hp' => (List.mem_append.1 hp').elim (HI.out p) (fun e => by simp at e; subst e; exact hx), HB.out⟩⟩
  case done =>
    rintro D ys W hD rfl ⟨hi, hB⟩ hK
    have q2 := (hB.block _ (by omega)).trans X2.out
    have q3 := (hB.block _ (by omega)).trans X3.out
    have z0 := bx_cell q2 0 _ rfl
    have z1 := bx_cell q2 1 _ rfl
    have z2 := bx_cell q2 2 _ rfl
    have z3 := bx_cell q2 3 _ rfl
    have z4 := bx_cell q3 0 _ rfl
    have f2 := bx_froz q2
    have f3 := bx_froz q3
    have Q2 := Lib.hid q2
    have Q3 := Lib.hid q3
    have HB := Lib.hid hB
    have HI := Lib.hid hi
    have HK := Lib.hid hK
    clear q2 q3 hB hi hK
    gi_wp2
    obtain ⟨s1, s2, s3, s4⟩ := stored (.string ⟨#[]⟩) (.int .i64 0) (.int .i64 0) (.int .i64 0) (.bool false) (by omega) Q2.out Q3.out
    have hK' := s3.same D _ HK.out rfl
    have hB' := s4 w.heap.size w (by omega) (by omega) (Below.trans HB0.out (HB.out.mono (by omega)))
    refine ⟨by simp, .inl ⟨_, _, rfl, run_takeDeferred hK', ?_⟩⟩
    have g2 := (World.putObj_heap_other (o := .deferred Option.none) (by omega : w.heap.size + 1 + 1 ≠ D)).trans s1
    have g3 := (World.putObj_heap_other (o := .deferred Option.none) (by omega : w.heap.size + 1 + 1 + 1 ≠ D)).trans s2
    have z0 := bx_cell g2 0 _ rfl
    have z1 := bx_cell g2 1 _ rfl
    have z2 := bx_cell g2 2 _ rfl
    have z3 := bx_cell g2 3 _ rfl
    have z4 := bx_cell g3 0 _ rfl
    refine ⟨.tuple #[biVal Bi.none, .bool false], ?_, .inl ⟨rfl, find_none HI.out⟩, hB'.trans (belowK_b (w := w) (Nat.le_refl _) _ D _ _ (by omega) hK' rfl rfl)⟩
    simp [results, Try.f99, go_sem, z0, z1, z2, z3, z4, biVal, Bi.none]
  case stop =>
    rintro D c pre W hD ⟨k, hk, rfl⟩ ⟨⟨rfl, ini, last, e1, e2, e3, e4, e5⟩, hB⟩ hK
    gi_wp2
    refine ⟨by simp, .inl ⟨_, _, rfl, run_takeDeferred hK, ?_⟩⟩
    have n2 : D ≠ w.heap.size + 1 + 1 := by omega
    have n3 : D ≠ w.heap.size + 1 + 1 + 1 := by omega
    have g2 : (W.putObj D (.deferred Option.none)).heap[w.heap.size + 1 + 1]? = some (.cells (biCells last.2) 58 (0, 0)) := (World.putObj_heap_other (Ne.symm n2)).trans e4
    have g3 : (W.putObj D (.deferred Option.none)).heap[w.heap.size + 1 + 1 + 1]? = some (.cells #[.bool true] 4 (0, 0)) := (World.putObj_heap_other (Ne.symm n3)).trans e5
    unfold biCells at g2
    have z0 := bx_cell g2 0 _ rfl
    have z1 := bx_cell g2 1 _ rfl
    have z2 := bx_cell g2 2 _ rfl
    have z3 := bx_cell g2 3 _ rfl
    have z4 := bx_cell g3 0 _ rfl
    refine ⟨.tuple #[biVal last.2, .bool true], ?_, .inr ⟨last.2, rfl, find_at hk e1 e2 e3⟩, hB.trans (belowK_b (w := w) (Nat.le_refl _) W D _ _ (by omega) hK rfl rfl)⟩
    simp [results, Try.f99, go_sem, z0, z1, z2, z3, z4, biVal]
/-- What find tells. -/
def foundV (zs : List Bi) (nm : List UInt8) : Value := match findF zs nm with | some b => .tuple #[biVal b, .bool true] | Option.none => .tuple #[biVal Bi.none, .bool false]
theorem find_any (w : World) (p : Addr) (bv o ob r t : Value) (nm : List UInt8) (zs : List Bi) (hI : BindsAt w.heap.size w bv zs) :
    Calls Try.prog 99 #[.agg #[.pointer (some p), bv, o, ob, r, t], .string ⟨nm.toArray⟩] w fun e w' => e = .returned (foundV zs nm) ∧ Kept w w' := by
  obtain ⟨a, len, cap, rfl⟩ : ∃ a len cap, bv = .slice a len cap := by
    rcases hI.2 with ⟨h, _⟩ | ⟨b, cap, h, _⟩
    · exact ⟨_, _, _, h⟩
    · exact ⟨_, _, _, h⟩
  refine ((callsIn_wide (n := 3)).1 (find_in _ 3 trivial trivial trivial rfl (Nat.le_refl _) p a len cap o ob r t nm zs w hI)).mono ?_
  rintro e w' ⟨⟨rfl, h⟩ | ⟨b, rfl, h⟩, hk⟩
  · exact ⟨by rw [foundV, h], hk⟩
  · exact ⟨by rw [foundV, h], hk⟩
end Go.Proofs.Ythjnkjekidagiaa.Fnd
