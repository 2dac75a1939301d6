/-
  Contracts of addExpr and addCond: a node is put behind a list of the call's own.
-/
import Derived.Test.YtoafcpbpnkfhoaaGreatDoorPrsB
import Derived.Deep.AppendLies
import Derived.Deep.RegionLaw
import Derived.OwnWalk
namespace Go.Proofs.YtoafcpbpnkfhoaaGreatDoor.Prs
open Go.RowKit
open Lex (Tok Laid)

def exCell (e : Ex) : List Value := [.int .i64 e.kind, .int .i64 e.num, .int .i64 e.ty, .string ⟨e.name.toArray⟩, .int .i64 e.a, .int .i64 e.b, .int .i64 e.place]
def exCells (l : List Ex) : List Value := l.flatMap exCell
theorem exCells_snoc (l : List Ex) (e : Ex) : exCells (l ++ [e]) = exCells l ++ exCell e := by simp [exCells]
theorem ex_info : (Tryz.prog.info? 152).map (fun i => (i.zero, i.size, i.bytes)) = some (some (.agg #[.int .i64 0, .int .i64 0, .int .i64 0, .string ⟨#[]⟩, .int .i64 0, .int .i64 0, .int .i64 0]), 7, 64) := by kernel_rfl
theorem box_lt {w : World} {b : Nat} {o : Obj} (h : w.heap[b]? = some o) : b < w.heap.size := (Array.getElem?_eq_some_iff.1 h).1
theorem own_ty {w : World} {base n size : Nat} {e : TypeId} {v : Value} {xs : List Value} (h : w.ownsRow base e size v n xs) {g : Nat} (hg : v.ownBlock = some g) : ∃ c, w.heap[g]? = some (.cells c e (0, 0)) := by
  rcases h.2 with ⟨rfl, _⟩ | ⟨g', cap, c, rfl, _, h1, _⟩
  · simp [Value.ownBlock] at hg
  · simp [Value.ownBlock] at hg; subst hg; exact ⟨c, h1⟩

theorem own_chg {S : Nat → Prop} {w w' : World} {base n size : Nat} {e : TypeId} {v : Value} {xs : List Value} (h : w.ownsRow base e size v n xs) (hc : Chg S w w') (hn : ∀ g, v.ownBlock = some g → ¬ S g) : w'.ownsRow base e size v n xs := by
  refine ⟨h.1, ?_⟩
  rcases h.2 with h2 | ⟨g, cap, c, rfl, h1, h2, h3⟩
  · exact .inl h2
  · exact .inr ⟨g, cap, c, rfl, h1, hc.heap h2 (hn g rfl), h3⟩

/-- What a list's pointer leads to behind a step: the pointer's cell has the new list; nothing but that cell and the list's own row has changed. -/
structure Put (w w' : World) (q o : Nat) (cur : Array Value) (t : TypeId) (v v' : Value) : Prop where
  box : w'.heap[q]? = some (.cells (cur.setIfInBounds o v') t (0, 0))
  at_ : v'.ownBlock = v.ownBlock ∨ ∃ g, v'.ownBlock = some g ∧ w.heap.size ≤ g

set_option maxRecDepth 100000 in
set_option maxHeartbeats 2000000 in
theorem addExpr_any {B q o : Nat} {cur : Array Value} {t : TypeId} {v : Value} {l : List Ex} (e : Ex) (k nu ty a b p : Int) (nm : ByteArray) (w : World) (hq : w.heap[q]? = some (.cells cur t (0, 0))) (ho : cur[o]? = some v) (ht : t ≠ 152)
    (hown : w.ownsRow B 152 7 v l.length (exCells l)) (hB : B ≤ w.heap.size) (hl : l.length ≤ 8193) (he : [Value.int .i64 k, .int .i64 nu, .int .i64 ty, .string nm, .int .i64 a, .int .i64 b, .int .i64 p] = exCell e) :
    Calls Tryz.prog 99 #[.pointer (some ⟨q, o, none⟩), .agg #[.int .i64 k, .int .i64 nu, .int .i64 ty, .string nm, .int .i64 a, .int .i64 b, .int .i64 p]] w fun r w' => r = .returned (.int .i64 l.length) ∧ Hid (Chg (fun j => j = q ∨ v.ownBlock = some j) w w' ∧ ∃ v', Put w w' q o cur t v v' ∧ w'.ownsRow B 152 7 v' (l ++ [e]).length (exCells (l ++ [e]))) := by
  obtain ⟨i0, hi0, hz0, hz1, hz2⟩ := info_parts ex_info
  have Hi := Lib.hid (And.intro hi0 (And.intro hz0 (And.intro hz1 hz2)))
  clear hi0 hz0 hz1 hz2
  have c0 := box_cell hq o v ho
  have f0 := box_froz hq o
  have hqs := box_lt hq
  have Hq := Lib.hid hq
  have Ho := Lib.hid hown
  have He := Lib.hid he
  have Hoo := Lib.hid ho
  clear hq hown he ho
  have hqn : some q ≠ v.ownBlock := fun e => by
    obtain ⟨c, hc⟩ := own_ty Ho.out e.symm
    exact ne_of_ty Hq.out hc ht rfl
  have Hqn := Lib.hid hqn
  have Ho2 := Lib.hid ((Ho.out.alloc (.cells #[.int .i64 k, .int .i64 nu, .int .i64 ty, .string nm, .int .i64 a, .int .i64 b, .int .i64 p] 152)).alloc (.cells #[.int .i64 k, .int .i64 nu, .int .i64 ty, .string nm, .int .i64 a, .int .i64 b, .int .i64 p] 152))
  have Hnb : Hid (((w.alloc (.cells #[.int .i64 k, .int .i64 nu, .int .i64 ty, .string nm, .int .i64 a, .int .i64 b, .int .i64 p] 152)).alloc (.cells #[.int .i64 k, .int .i64 nu, .int .i64 ty, .string nm, .int .i64 a, .int .i64 b, .int .i64 p] 152)).heap[w.heap.size + 1]? = some (.cells #[.int .i64 k, .int .i64 nu, .int .i64 ty, .string nm, .int .i64 a, .int .i64 b, .int .i64 p] 152 (0, 0))) := Lib.hid (by
    have h := heap_alloc_new (w.alloc (.cells #[.int .i64 k, .int .i64 nu, .int .i64 ty, .string nm, .int .i64 a, .int .i64 b, .int .i64 p] 152)) (.cells #[.int .i64 k, .int .i64 nu, .int .i64 ty, .string nm, .int .i64 a, .int .i64 b, .int .i64 p] 152)
    simpa using h)
  go_enter Tryz.func99, Tryz.ntmps99
  go_wp2
  go_region_law (refine step_append_lies _ rfl (.tmp 8) (.tmp 10) 39 rfl B 152 i0 _ 7 64 Tryz.underlying39 Hi.out.1 Hi.out.2.1 Hi.out.2.2.1 Hi.out.2.2.2 rfl (by omega) v l.length (exCells l) rfl Ho2.out ⟨w.heap.size + 1, 0, none⟩ 1 1 [.int .i64 k, .int .i64 nu, .int .i64 ty, .string nm, .int .i64 a, .int .i64 b, .int .i64 p] rfl rfl (World.news_of_block (cs := #[.int .i64 k, .int .i64 nu, .int .i64 ty, .string nm, .int .i64 a, .int .i64 b, .int .i64 p]) Hnb.out) (by simp [Value.oneCell']) (by omega) (by simp only [maxLen]; omega) (by omega) (by simp; omega) (w.heap.size + 2) (by simp) ?_; intro g cap w1 hown1 hgrow hat hlt; have Hown1 := Lib.hid hown1; have Hgrow := Lib.hid hgrow; have Hat := Lib.hid hat; have hq1 := (hgrow.block q (by simp; omega) Hqn.out).trans ((Below.heap_alloc _ _ q (by simp; omega)).trans ((Below.heap_alloc _ _ q hqs).trans Hq.out)); have c1 := box_cell hq1 o v Hoo.out; have f1 := box_froz hq1 o; have Hq1 := Lib.hid hq1; clear hown1 hgrow hat hq1)
  all_goals
    go_wp2
    go_ret
    have hne : g ≠ q := fun e => by
      obtain ⟨c, hc⟩ := own_ty Hown1.out (g := g) rfl
      exact ne_of_ty hc Hq1.out (Ne.symm ht) e
    refine ⟨rfl, Lib.hid ⟨(((((Chg.refl _ w).alloc _).alloc _).drew).grown Hgrow.out (fun j _ e => .inr e)).setCell (fun _ => .inl rfl) _, _, ⟨heap_setCell_same _ _ _ _ _ _ Hq1.out, ?_⟩, ?_⟩⟩
    · rcases Hat.out with h | h
      · exact .inl h.symm
      · exact .inr ⟨g, rfl, by omega⟩
    · rw [exCells_snoc, ← He.out, List.length_append]
      exact own_chg Hown1.out (chg_set w1 q o _) (fun j hj e => hne (by simp [Value.ownBlock] at hj; omega))
theorem cn_info : (Tryz.prog.info? 142).map (fun i => (i.zero, i.size, i.bytes)) = some (some (.agg #[.int .i64 0, .int .i64 0, .slice none 0 0, .slice none 0 0, .int .i64 0, .int .i64 0, .int .i64 0]), 7, 88) := by kernel_rfl
set_option maxRecDepth 100000 in
set_option maxHeartbeats 2000000 in
theorem addCond_any {B q o : Nat} {cur : Array Value} {t : TypeId} {v : Value} {n : Nat} {xs : List Value} (k nu a b p : Int) (vx vy : Value) (w : World) (hq : w.heap[q]? = some (.cells cur t (0, 0))) (ho : cur[o]? = some v) (ht : t ≠ 142)
    (hown : w.ownsRow B 142 7 v n xs) (hB : B ≤ w.heap.size) (hl : n ≤ 8193) (hx : vx.oneCell' = true) (hy : vy.oneCell' = true) :
    Calls Tryz.prog 86 #[.pointer (some ⟨q, o, none⟩), .agg #[.int .i64 k, .int .i64 nu, vx, vy, .int .i64 a, .int .i64 b, .int .i64 p]] w fun r w' => r = .returned (.int .i64 n) ∧ Hid (Chg (fun j => j = q ∨ v.ownBlock = some j) w w' ∧ ∃ v', Put w w' q o cur t v v' ∧ w'.ownsRow B 142 7 v' (n + 1) (xs ++ [.int .i64 k, .int .i64 nu, vx, vy, .int .i64 a, .int .i64 b, .int .i64 p])) := by
  have hx' := Lib.hid hx
  have hy' := Lib.hid hy
  clear hx hy
  obtain ⟨i0, hi0, hz0, hz1, hz2⟩ := info_parts cn_info
  have Hi := Lib.hid (And.intro hi0 (And.intro hz0 (And.intro hz1 hz2)))
  clear hi0 hz0 hz1 hz2
  have c0 := box_cell hq o v ho
  have f0 := box_froz hq o
  have hqs := box_lt hq
  have Hq := Lib.hid hq
  have Ho := Lib.hid hown
  have Hoo := Lib.hid ho
  clear hq hown ho
  have hqn : some q ≠ v.ownBlock := fun e => by
    obtain ⟨c, hc⟩ := own_ty Ho.out e.symm
    exact ne_of_ty Hq.out hc ht rfl
  have Hqn := Lib.hid hqn
  have Ho2 := Lib.hid ((Ho.out.alloc (.cells #[.int .i64 k, .int .i64 nu, vx, vy, .int .i64 a, .int .i64 b, .int .i64 p] 142)).alloc (.cells #[.int .i64 k, .int .i64 nu, vx, vy, .int .i64 a, .int .i64 b, .int .i64 p] 142))
  have Hnb : Hid (((w.alloc (.cells #[.int .i64 k, .int .i64 nu, vx, vy, .int .i64 a, .int .i64 b, .int .i64 p] 142)).alloc (.cells #[.int .i64 k, .int .i64 nu, vx, vy, .int .i64 a, .int .i64 b, .int .i64 p] 142)).heap[w.heap.size + 1]? = some (.cells #[.int .i64 k, .int .i64 nu, vx, vy, .int .i64 a, .int .i64 b, .int .i64 p] 142 (0, 0))) := Lib.hid (by
    have h := heap_alloc_new (w.alloc (.cells #[.int .i64 k, .int .i64 nu, vx, vy, .int .i64 a, .int .i64 b, .int .i64 p] 142)) (.cells #[.int .i64 k, .int .i64 nu, vx, vy, .int .i64 a, .int .i64 b, .int .i64 p] 142)
    simpa using h)
  go_enter Tryz.func86, Tryz.ntmps86
  go_wp2
  go_region_law (refine step_append_lies _ rfl (.tmp 8) (.tmp 10) 41 rfl B 142 i0 _ 7 88 Tryz.underlying41 Hi.out.1 Hi.out.2.1 Hi.out.2.2.1 Hi.out.2.2.2 rfl (by omega) v n xs rfl Ho2.out ⟨w.heap.size + 1, 0, none⟩ 1 1 [.int .i64 k, .int .i64 nu, vx, vy, .int .i64 a, .int .i64 b, .int .i64 p] rfl rfl (World.news_of_block (cs := #[.int .i64 k, .int .i64 nu, vx, vy, .int .i64 a, .int .i64 b, .int .i64 p]) Hnb.out) (by intro u hu; simp at hu; rcases hu with rfl | rfl | rfl | rfl | rfl | rfl | rfl <;> first | rfl | exact hx'.out | exact hy'.out) (by omega) (by simp only [maxLen]; omega) (by omega) (by simp; omega) (w.heap.size + 2) (by simp) ?_; intro g cap w1 hown1 hgrow hat hlt; have Hown1 := Lib.hid hown1; have Hgrow := Lib.hid hgrow; have Hat := Lib.hid hat; have hq1 := (hgrow.block q (by simp; omega) Hqn.out).trans ((Below.heap_alloc _ _ q (by simp; omega)).trans ((Below.heap_alloc _ _ q hqs).trans Hq.out)); have c1 := box_cell hq1 o v Hoo.out; have f1 := box_froz hq1 o; have Hq1 := Lib.hid hq1; clear hown1 hgrow hat hq1)
  all_goals
    go_wp2
    go_ret
    have hne : g ≠ q := fun e => by
      obtain ⟨c, hc⟩ := own_ty Hown1.out (g := g) rfl
      exact ne_of_ty hc Hq1.out (Ne.symm ht) e
    refine ⟨rfl, Lib.hid ⟨(((((Chg.refl _ w).alloc _).alloc _).drew).grown Hgrow.out (fun j _ e => .inr e)).setCell (fun _ => .inl rfl) _, _, ⟨heap_setCell_same _ _ _ _ _ _ Hq1.out, ?_⟩, ?_⟩⟩
    · rcases Hat.out with h | h
      · exact .inl h.symm
      · exact .inr ⟨g, rfl, by omega⟩
    · exact own_chg Hown1.out (chg_set w1 q o _) (fun j hj e => hne (by simp [Value.ownBlock] at hj; omega))
end Go.Proofs.YtoafcpbpnkfhoaaGreatDoor.Prs
