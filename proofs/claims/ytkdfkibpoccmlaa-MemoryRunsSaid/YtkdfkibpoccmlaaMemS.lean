/-
  Two memories beside each other, package memory's and the document's, with the same rows: what each call does to both.
-/
import Derived.Test.YtkdfkibpoccmlaaMemR
import Derived.Test.YtkdfkibpoccmlaaMemG
import Derived.Test.YtkdfkibpoccmlaaMemH
import Derived.Test.YtkdfkibpoccmlaaMemK
namespace Go.Proofs.Ytkdfkibpoccmlaa.Mem
open Go.RowKit
open Typ (wrapF)

/-- The blocks of a memory. -/
def foot (p : Nat) (v : Value) (L : List Bk) (k : Nat) : Prop := k = p ∨ v.ownBlock = some k ∨ ∃ x ∈ L, k = x.g
def Goes (B : Nat) (tM : TypeId) (w w' : World) (p : Nat) (v : Value) (L : List Bk) (p' : Nat) (T' : List Row) : Prop :=
  ∃ v' L', MemAt B tM w' p' v' L' ∧ L'.map tv = T' ∧ Chg (foot p v L) w w' ∧ ∀ k, foot p' v' L' k → foot p v L k ∨ w.heap.size ≤ k

theorem MemAt.foot_lt {B : Nat} {tM : TypeId} {w : World} {p : Nat} {v : Value} {L : List Bk} (h : MemAt B tM w p v L) {k : Nat} (hk : foot p v L k) : k < w.heap.size := by
  rcases hk with rfl | hk | ⟨x, hx, rfl⟩
  · exact box_lt h.box
  · obtain ⟨c, hc⟩ := own_ty h.row hk; exact box_lt hc
  · obtain ⟨c, hc, -⟩ := (h.inn x hx).cells; exact box_lt hc
theorem MemAt.foot_le {B : Nat} {tM : TypeId} {w : World} {p : Nat} {v : Value} {L : List Bk} (h : MemAt B tM w p v L) {k : Nat} (hk : foot p v L k) : B ≤ k := by
  rcases hk with rfl | hk | ⟨x, hx, rfl⟩
  · exact h.lo
  · exact own_base h.row hk
  · exact (h.inn x hx).lo
theorem MemAt.foot_ty {B : Nat} {tM : TypeId} {w : World} {p : Nat} {v : Value} {L : List Bk} (h : MemAt B tM w p v L) {k : Nat} (hk : foot p v L k) : ∃ cs t, w.heap[k]? = some (.cells cs t (0, 0)) ∧ (t = tM ∨ t = 40 ∨ t = 3) := by
  rcases hk with rfl | hk | ⟨x, hx, rfl⟩
  · exact ⟨_, _, h.box, .inl rfl⟩
  · obtain ⟨c, hc⟩ := own_ty h.row hk; exact ⟨_, _, hc, .inr (.inl rfl)⟩
  · obtain ⟨c, hc, -⟩ := (h.inn x hx).cells; exact ⟨_, _, hc, .inr (.inr rfl)⟩
theorem MemAt.low {B C : Nat} {tM : TypeId} {w : World} {p : Nat} {v : Value} {L : List Bk} (h : MemAt B tM w p v L) (hc : C ≤ B) : MemAt C tM w p v L := by
  refine ⟨by have := h.lo; omega, h.box, ⟨h.row.1, ?_⟩, fun x hx => (h.inn x hx).low hc, h.sep, h.pos⟩
  rcases h.row.2 with h2 | ⟨g, cp, c, h0, h1, h2⟩
  · exact .inl h2
  · exact .inr ⟨g, cp, c, h0, by omega, h2⟩

section
variable {B : Nat} {w : World} {p : Nat} {v : Value} {L : List Bk} {T : List Row}

theorem set_foot (L : List Bk) (id at_ n : Int) (p : Nat) (v : Value) (k : Nat) (hk : foot p v (setL L id at_ n) k) : foot p v L k := by
  rcases hk with hk | hk | ⟨x, hx, rfl⟩
  · exact .inl hk
  · exact .inr (.inl hk)
  · refine .inr (.inr ?_)
    unfold setL at hx
    split at hx
    · split at hx
      · rename_i y hy
        rcases List.mem_or_eq_of_mem_set hx with hx | rfl
        · exact ⟨x, hx, rfl⟩
        · exact ⟨y, List.mem_of_getElem? hy, rfl⟩
      · exact ⟨x, hx, rfl⟩
    · exact ⟨x, hx, rfl⟩
theorem take_foot (n : Nat) {p : Nat} {v v' : Value} (hv : v'.ownBlock = v.ownBlock) {k : Nat} (hk : foot p v' (L.take n) k) : foot p v L k := by
  rcases hk with hk | hk | ⟨x, hx, rfl⟩
  · exact .inl hk
  · exact .inr (.inl (hv ▸ hk))
  · exact .inr (.inr ⟨x, List.mem_of_mem_take hx, rfl⟩)

theorem adds_go {tM : TypeId} {w' : World} {t size : Int} (hT : L.map tv = T)
    (H : ∃ v' g, w.heap.size ≤ g ∧ MemAt B tM w' p v' (L ++ [⟨g, (noughts size).length, t, noughts size⟩]) ∧ Chg (fun k => k = p ∨ v.ownBlock = some k) w w' ∧ (v'.ownBlock = v.ownBlock ∨ ∃ o, v'.ownBlock = some o ∧ w.heap.size ≤ o)) : Goes B tM w w' p v L p (T ++ [(t, noughts size)]) := by
  obtain ⟨v', g, h1, h2, h3, h4⟩ := H
  refine ⟨v', _, h2, by rw [List.map_append, hT]; rfl, h3.mono fun k _ hk => hk.elim .inl fun e => .inr (.inl e), fun k hk => ?_⟩
  rcases hk with hk | hk | ⟨x, hx, rfl⟩
  · exact .inl (.inl hk)
  · rcases h4 with e | ⟨o, e, ho⟩
    · exact .inl (.inr (.inl (e ▸ hk)))
    · rw [e] at hk; injection hk with hk; exact .inr (by omega)
  · rw [List.mem_append, List.mem_singleton] at hx
    rcases hx with hx | rfl
    · exact .inl (.inr (.inr ⟨x, hx, rfl⟩))
    · exact .inr h1
theorem add_go (h : MemAt B 51 w p v L) (hT : L.map tv = T) (hl : T.length ≤ 100000) (hB : B ≤ w.heap.size) (t size : Int) (hs : -9223372036854775808 ≤ size ∧ size ≤ 9223372036854775807) :
    Calls Try.prog 9 #[.pointer (some ⟨p, 0, none⟩), .int .i64 t, .int .i64 size] w fun e w' => e = .returned (.int .i64 T.length) ∧ Hid (Goes B 51 w w' p v L p (T ++ [(t, noughts size)])) := by
  have e : L.length = T.length := by rw [← hT]; simp
  refine (add_any h (by omega) hB t size hs).mono ?_
  rintro _ w' ⟨rfl, H⟩
  exact ⟨by rw [e], Lib.hid (adds_go hT H.out)⟩
theorem radd_go (h : MemAt B 29 w p v L) (hT : L.map tv = T) (hl : T.length ≤ 100000) (hB : B ≤ w.heap.size) (t size : Int) (hs : -9223372036854775808 ≤ size ∧ size ≤ 9223372036854775807) :
    Calls Try.prog 10 #[.pointer (some ⟨p, 0, none⟩), .int .i64 t, .int .i64 size] w fun e w' => e = .returned (.int .i64 T.length) ∧ Hid (Goes B 29 w w' p v L p (T ++ [(t, noughts size)])) := by
  have e : L.length = T.length := by rw [← hT]; simp
  refine (radd_any h (by omega) hB t size hs).mono ?_
  rintro _ w' ⟨rfl, H⟩
  exact ⟨by rw [e], Lib.hid (adds_go hT H.out)⟩
theorem set_go (h : MemAt B 51 w p v L) (hT : L.map tv = T) (id at_ n : Int) :
    Calls Try.prog 11 #[.pointer (some ⟨p, 0, none⟩), .int .i64 id, .int .i64 at_, .int .i64 n] w fun e w' => e = .returned (.bool (getT T id at_).2) ∧ Hid (Goes B 51 w w' p v L p (setT T id at_ n)) := by
  refine (set_any h id at_ n).mono ?_
  rintro _ w' ⟨rfl, h1, h2⟩
  exact ⟨by rw [setOk_tv, hT], Lib.hid ⟨_, _, h1, by rw [setL_tv, hT], h2.mono fun k _ hk => .inr (.inr hk), fun k hk => .inl (set_foot L id at_ n p v k hk)⟩⟩
theorem rset_go (h : MemAt B 29 w p v L) (hT : L.map tv = T) (id at_ n : Int) :
    Calls Try.prog 12 #[.pointer (some ⟨p, 0, none⟩), .int .i64 id, .int .i64 at_, .int .i64 n] w fun e w' => e = .returned (.bool (getT T id at_).2) ∧ Hid (Goes B 29 w w' p v L p (setT T id at_ n)) := by
  refine (rset_any h id at_ n).mono ?_
  rintro _ w' ⟨rfl, h1, h2⟩
  exact ⟨by rw [setOk_tv, hT], Lib.hid ⟨_, _, h1, by rw [setL_tv, hT], h2.mono fun k _ hk => .inr (.inr hk), fun k hk => .inl (set_foot L id at_ n p v k hk)⟩⟩
theorem cut_go (h : MemAt B 51 w p v L) (hT : L.map tv = T) (n : Int) :
    Calls Try.prog 15 #[.pointer (some ⟨p, 0, none⟩), .int .i64 n] w fun e w' => e = .returned (.tuple #[]) ∧ Hid (Goes B 51 w w' p v L p (T.take n.toNat)) := by
  refine (cut_any h n).mono ?_
  rintro _ w' ⟨rfl, H⟩
  obtain ⟨v', h1, h2, h3⟩ := H.out
  exact ⟨rfl, Lib.hid ⟨_, _, h1, by rw [List.map_take, hT], h2.mono fun k _ hk => hk.elim .inl fun e => .inr (.inl e), fun k hk => .inl (take_foot _ h3 hk)⟩⟩
theorem rcut_go (h : MemAt B 29 w p v L) (hT : L.map tv = T) (hl : T.length ≤ 100000) (hB : B ≤ w.heap.size) (n : Int) :
    Calls Try.prog 16 #[.pointer (some ⟨p, 0, none⟩), .int .i64 n] w fun e w' => e = .returned (.tuple #[]) ∧ Hid (Goes B 29 w w' p v L p (T.take n.toNat)) := by
  have e : L.length = T.length := by rw [← hT]; simp
  refine (rcut_any h (by omega) hB n).mono ?_
  rintro _ w' ⟨rfl, H⟩
  obtain ⟨v', h1, h2, g, h3, h4⟩ := H.out
  refine ⟨rfl, Lib.hid ⟨_, _, h1, by rw [List.map_take, hT], h2.mono fun k _ hk => .inl hk, fun k hk => ?_⟩⟩
  rcases hk with hk | hk | ⟨x, hx, rfl⟩
  · exact .inl (.inl hk)
  · rw [h3] at hk; injection hk with hk; exact .inr (by omega)
  · exact .inl (.inr (.inr ⟨x, List.mem_of_mem_take hx, rfl⟩))
theorem copy_go (h : MemAt B 51 w p v L) (hT : L.map tv = T) (hl : T.length ≤ 100000) (hS : Small T) (hB : B ≤ w.heap.size) :
    Calls Try.prog 17 #[.pointer (some ⟨p, 0, none⟩)] w fun e w' => ∃ q, e = .returned (.pointer (some ⟨q, 0, none⟩)) ∧ Hid (Goes B 51 w w' p v L q T) := by
  refine (copy_rows h hT hl hS).mono ?_
  rintro _ w' ⟨q, rfl, H⟩
  obtain ⟨h1, v', K, h2, h3⟩ := H.out
  exact ⟨q, rfl, Lib.hid ⟨v', K, h2.low hB, h3, Chg.of_kept h1, fun k hk => .inr (h2.foot_le hk)⟩⟩
theorem rget_rows (h : MemAt B 29 w p v L) (hT : L.map tv = T) (id at_ : Int) :
    Calls Try.prog 14 #[.pointer (some ⟨p, 0, none⟩), .int .i64 id, .int .i64 at_] w fun e w' => e = .returned (.tuple #[.int .i64 (getT T id at_).1, .bool (getT T id at_).2]) ∧ w = w' := by
  have := rget_any h id at_
  rw [getV_tv, hT] at this
  exact this
theorem rblock_rows (h : MemAt B 29 w p v L) (hT : L.map tv = T) (hS : Small T) {id t : Int} {b : Bool} {l : List Int} (hb : blkR T id = (b, t, l)) :
    Calls Try.prog 20 #[.pointer (some ⟨p, 0, none⟩), .int .i64 id] w fun e w' => ∃ vs, e = .returned (.tuple #[.agg #[.int .i64 t, vs], .bool b]) ∧ Hid (Kept w w' ∧ w'.ownsRow w.heap.size 3 1 vs l.length (ints l)) := by
  have := rblock_any h (hS.of hT) id
  rw [← hT, blkR_tv] at hb
  injection hb with h1 h2
  injection h2 with h2 h3
  rw [h1, h2, h3] at this
  exact this
end

/-- Both memories, apart; what was there ahead of the law stays. -/
def Two (w0 w : World) (pm pr : Nat) (vm vr : Value) (Lm Lr : List Bk) (T T' : List Row) : Prop :=
  Kept w0 w ∧ MemAt w0.heap.size 51 w pm vm Lm ∧ Lm.map tv = T ∧ MemAt w0.heap.size 29 w pr vr Lr ∧ Lr.map tv = T' ∧ ∀ k, foot pm vm Lm k → ¬ foot pr vr Lr k
def St (w0 w : World) (pm pr : Nat) (T T' : List Row) : Prop := ∃ vm vr Lm Lr, Two w0 w pm pr vm vr Lm Lr T T'

theorem MemAt.beside {B : Nat} {tM : TypeId} {S : Nat → Prop} {w w' : World} {p : Nat} {v : Value} {L : List Bk} (h : MemAt B tM w p v L) (hc : Chg S w w') (hS : ∀ k, S k → ¬ foot p v L k) : MemAt B tM w' p v L :=
  h.chg hc (fun hs => hS _ hs (.inl rfl)) (fun _ hg hs => hS _ hs (.inr (.inl hg))) (fun x hx hs => hS _ hs (.inr (.inr ⟨x, hx, rfl⟩)))
theorem MemAt.kept_foot {B : Nat} {tM : TypeId} {w0 w w' : World} {p : Nat} {v : Value} {L : List Bk} (h : MemAt B tM w p v L) (hB : w0.heap.size ≤ B) (hk : Kept w0 w) (hc : Chg (foot p v L) w w') : Kept w0 w' :=
  kept_new hk hc fun k hk' hs => by have := h.foot_le hs; omega
theorem Two.goM {w0 w w' : World} {pm pr pm' : Nat} {vm vr : Value} {Lm Lr : List Bk} {T T' U : List Row} (h : Two w0 w pm pr vm vr Lm Lr T T') (hg : Goes w0.heap.size 51 w w' pm vm Lm pm' U) : St w0 w' pm' pr U T' := by
  obtain ⟨k1, m1, e1, r1, e2, ha⟩ := h
  obtain ⟨v', L', h1, h2, h3, h4⟩ := hg
  refine ⟨v', vr, L', Lr, m1.kept_foot (Nat.le_refl _) k1 h3, h1, h2, r1.beside h3 ha, e2, fun k hk hr => ?_⟩
  rcases h4 k hk with e | e
  · exact ha k e hr
  · have := r1.foot_lt hr; omega
theorem Two.goR {w0 w w' : World} {pm pr pr' : Nat} {vm vr : Value} {Lm Lr : List Bk} {T T' U : List Row} (h : Two w0 w pm pr vm vr Lm Lr T T') (hg : Goes w0.heap.size 29 w w' pr vr Lr pr' U) : St w0 w' pm pr' T U := by
  obtain ⟨k1, m1, e1, r1, e2, ha⟩ := h
  obtain ⟨v', L', h1, h2, h3, h4⟩ := hg
  refine ⟨vm, v', Lm, L', r1.kept_foot (Nat.le_refl _) k1 h3, m1.beside h3 (fun k hk hm => ha k hm hk), e1, h1, h2, fun k hk hr => ?_⟩
  rcases h4 k hr with e | e
  · exact ha k hk e
  · have := m1.foot_lt hk; omega
theorem St.kept {w0 w w' : World} {pm pr : Nat} {T T' : List Row} (h : St w0 w pm pr T T') (hk : Kept w w') : St w0 w' pm pr T T' := by
  obtain ⟨vm, vr, Lm, Lr, k1, m1, e1, r1, e2, ha⟩ := h
  exact ⟨vm, vr, Lm, Lr, k1.trans hk, m1.kept hk, e1, r1.kept hk, e2, ha⟩
/-- A block of another type is none of a memory's. -/
theorem MemAt.not_foot {B : Nat} {tM ty : TypeId} {w : World} {p : Nat} {v : Value} {L : List Bk} (h : MemAt B tM w p v L) {b : Nat} {cs : Array Value} (hb : w.heap[b]? = some (.cells cs ty (0, 0))) (h1 : ty ≠ tM) (h2 : ty ≠ 40) (h3 : ty ≠ 3) : ¬ foot p v L b := by
  intro hf
  obtain ⟨cs', t, h4, h5⟩ := h.foot_ty hf
  rw [hb] at h4; injection h4 with h4; injection h4 with _ h4
  subst h4
  rcases h5 with h5 | h5 | h5
  · exact h1 h5
  · exact h2 h5
  · exact h3 h5

def ActsStay (w w' : World) : Prop := ∀ (b : Nat) (cs : Array Value), w.heap[b]? = some (Obj.cells cs 31 (0, 0)) → w'.heap[b]? = some (Obj.cells cs 31 (0, 0))
section
variable {w0 w : World} {pm pr : Nat} {T T' : List Row}
/-- A call on package memory's one: the other one stays, and so does a block of another type. -/
theorem st_add (h : St w0 w pm pr T T') (hl : T.length ≤ 100000) (t size : Int) (hs : -9223372036854775808 ≤ size ∧ size ≤ 9223372036854775807) :
    Calls Try.prog 9 #[.pointer (some ⟨pm, 0, none⟩), .int .i64 t, .int .i64 size] w fun e w' => e = .returned (.int .i64 T.length) ∧ Hid (St w0 w' pm pr (T ++ [(t, noughts size)]) T' ∧ ActsStay w w') := by
  obtain ⟨vm, vr, Lm, Lr, h2⟩ := h
  refine (add_go h2.2.1 h2.2.2.1 hl h2.1.size t size hs).mono ?_
  rintro _ w' ⟨rfl, H⟩
  exact ⟨rfl, Lib.hid ⟨h2.goM H.out, fun b cs hb => (by obtain ⟨_, _, _, _, hc, _⟩ := H.out; exact hc.heap hb (h2.2.1.not_foot hb (by decide) (by decide) (by decide)))⟩⟩
theorem st_radd (h : St w0 w pm pr T T') (hl : T'.length ≤ 100000) (t size : Int) (hs : -9223372036854775808 ≤ size ∧ size ≤ 9223372036854775807) :
    Calls Try.prog 10 #[.pointer (some ⟨pr, 0, none⟩), .int .i64 t, .int .i64 size] w fun e w' => e = .returned (.int .i64 T'.length) ∧ Hid (St w0 w' pm pr T (T' ++ [(t, noughts size)]) ∧ ActsStay w w') := by
  obtain ⟨vm, vr, Lm, Lr, h2⟩ := h
  refine (radd_go h2.2.2.2.1 h2.2.2.2.2.1 hl h2.1.size t size hs).mono ?_
  rintro _ w' ⟨rfl, H⟩
  exact ⟨rfl, Lib.hid ⟨h2.goR H.out, fun b cs hb => (by obtain ⟨_, _, _, _, hc, _⟩ := H.out; exact hc.heap hb (h2.2.2.2.1.not_foot hb (by decide) (by decide) (by decide)))⟩⟩
theorem st_set (h : St w0 w pm pr T T') (id at_ n : Int) :
    Calls Try.prog 11 #[.pointer (some ⟨pm, 0, none⟩), .int .i64 id, .int .i64 at_, .int .i64 n] w fun e w' => e = .returned (.bool (getT T id at_).2) ∧ Hid (St w0 w' pm pr (setT T id at_ n) T' ∧ ActsStay w w') := by
  obtain ⟨vm, vr, Lm, Lr, h2⟩ := h
  refine (set_go h2.2.1 h2.2.2.1 id at_ n).mono ?_
  rintro _ w' ⟨rfl, H⟩
  exact ⟨rfl, Lib.hid ⟨h2.goM H.out, fun b cs hb => (by obtain ⟨_, _, _, _, hc, _⟩ := H.out; exact hc.heap hb (h2.2.1.not_foot hb (by decide) (by decide) (by decide)))⟩⟩
theorem st_rset (h : St w0 w pm pr T T') (id at_ n : Int) :
    Calls Try.prog 12 #[.pointer (some ⟨pr, 0, none⟩), .int .i64 id, .int .i64 at_, .int .i64 n] w fun e w' => e = .returned (.bool (getT T' id at_).2) ∧ Hid (St w0 w' pm pr T (setT T' id at_ n) ∧ ActsStay w w') := by
  obtain ⟨vm, vr, Lm, Lr, h2⟩ := h
  refine (rset_go h2.2.2.2.1 h2.2.2.2.2.1 id at_ n).mono ?_
  rintro _ w' ⟨rfl, H⟩
  exact ⟨rfl, Lib.hid ⟨h2.goR H.out, fun b cs hb => (by obtain ⟨_, _, _, _, hc, _⟩ := H.out; exact hc.heap hb (h2.2.2.2.1.not_foot hb (by decide) (by decide) (by decide)))⟩⟩
theorem st_cut (h : St w0 w pm pr T T') (n : Int) :
    Calls Try.prog 15 #[.pointer (some ⟨pm, 0, none⟩), .int .i64 n] w fun e w' => e = .returned (.tuple #[]) ∧ Hid (St w0 w' pm pr (T.take n.toNat) T' ∧ ActsStay w w') := by
  obtain ⟨vm, vr, Lm, Lr, h2⟩ := h
  refine (cut_go h2.2.1 h2.2.2.1 n).mono ?_
  rintro _ w' ⟨rfl, H⟩
  exact ⟨rfl, Lib.hid ⟨h2.goM H.out, fun b cs hb => (by obtain ⟨_, _, _, _, hc, _⟩ := H.out; exact hc.heap hb (h2.2.1.not_foot hb (by decide) (by decide) (by decide)))⟩⟩
theorem st_rcut (h : St w0 w pm pr T T') (hl : T'.length ≤ 100000) (n : Int) :
    Calls Try.prog 16 #[.pointer (some ⟨pr, 0, none⟩), .int .i64 n] w fun e w' => e = .returned (.tuple #[]) ∧ Hid (St w0 w' pm pr T (T'.take n.toNat) ∧ ActsStay w w') := by
  obtain ⟨vm, vr, Lm, Lr, h2⟩ := h
  refine (rcut_go h2.2.2.2.1 h2.2.2.2.2.1 hl h2.1.size n).mono ?_
  rintro _ w' ⟨rfl, H⟩
  exact ⟨rfl, Lib.hid ⟨h2.goR H.out, fun b cs hb => (by obtain ⟨_, _, _, _, hc, _⟩ := H.out; exact hc.heap hb (h2.2.2.2.1.not_foot hb (by decide) (by decide) (by decide)))⟩⟩
theorem st_copy (h : St w0 w pm pr T T') (hl : T.length ≤ 100000) (hS : Small T) :
    Calls Try.prog 17 #[.pointer (some ⟨pm, 0, none⟩)] w fun e w' => ∃ q, e = .returned (.pointer (some ⟨q, 0, none⟩)) ∧ Hid (St w0 w' q pr T T' ∧ ActsStay w w') := by
  obtain ⟨vm, vr, Lm, Lr, h2⟩ := h
  refine (copy_go h2.2.1 h2.2.2.1 hl hS h2.1.size).mono ?_
  rintro _ w' ⟨q, rfl, H⟩
  exact ⟨q, rfl, Lib.hid ⟨h2.goM H.out, fun b cs hb => (by obtain ⟨_, _, _, _, hc, _⟩ := H.out; exact hc.heap hb (h2.2.1.not_foot hb (by decide) (by decide) (by decide)))⟩⟩
theorem st_get (h : St w0 w pm pr T T') (id at_ : Int) :
    Calls Try.prog 13 #[.pointer (some ⟨pm, 0, none⟩), .int .i64 id, .int .i64 at_] w fun e w' => e = .returned (.tuple #[.int .i64 (getT T id at_).1, .bool (getT T id at_).2]) ∧ w = w' := by
  obtain ⟨vm, vr, Lm, Lr, h2⟩ := h
  exact get_rows h2.2.1 h2.2.2.1 rfl
theorem st_rget (h : St w0 w pm pr T T') (id at_ : Int) :
    Calls Try.prog 14 #[.pointer (some ⟨pr, 0, none⟩), .int .i64 id, .int .i64 at_] w fun e w' => e = .returned (.tuple #[.int .i64 (getT T' id at_).1, .bool (getT T' id at_).2]) ∧ w = w' := by
  obtain ⟨vm, vr, Lm, Lr, h2⟩ := h
  exact rget_rows h2.2.2.2.1 h2.2.2.2.2.1 id at_
theorem st_len (h : St w0 w pm pr T T') :
    Calls Try.prog 18 #[.pointer (some ⟨pm, 0, none⟩)] w fun e w' => e = .returned (.int .i64 T.length) ∧ w = w' := by
  obtain ⟨vm, vr, Lm, Lr, h2⟩ := h
  exact len_rows h2.2.1 h2.2.2.1
theorem st_block (h : St w0 w pm pr T T') (hS : Small T) (id : Int) :
    Calls Try.prog 19 #[.pointer (some ⟨pm, 0, none⟩), .int .i64 id] w fun e w' => ∃ vs, e = .returned (.tuple #[.agg #[.int .i64 (blkR T id).2.1, vs], .bool (blkR T id).1]) ∧ Hid (Kept w w' ∧ w'.ownsRow w.heap.size 3 1 vs (blkR T id).2.2.length (ints (blkR T id).2.2)) := by
  obtain ⟨vm, vr, Lm, Lr, h2⟩ := h
  exact block_rows h2.2.1 h2.2.2.1 hS rfl
theorem st_rblock (h : St w0 w pm pr T T') (hS : Small T') (id : Int) :
    Calls Try.prog 20 #[.pointer (some ⟨pr, 0, none⟩), .int .i64 id] w fun e w' => ∃ vs, e = .returned (.tuple #[.agg #[.int .i64 (blkR T' id).2.1, vs], .bool (blkR T' id).1]) ∧ Hid (Kept w w' ∧ w'.ownsRow w.heap.size 3 1 vs (blkR T' id).2.2.length (ints (blkR T' id).2.2)) := by
  obtain ⟨vm, vr, Lm, Lr, h2⟩ := h
  exact rblock_rows h2.2.2.2.1 h2.2.2.2.2.1 hS rfl
/-- The document's list in its cells. -/
theorem st_list (h : St w0 w pm pr T T') : pr < w.heap.size ∧ ∃ a c, w.cell? ⟨pr, 0, none⟩ = some (.slice a T'.length c) := by
  obtain ⟨vm, vr, Lm, Lr, h2⟩ := h
  obtain ⟨a, c, e⟩ := h2.2.2.2.1.len
  have e2 : Lr.length = T'.length := by rw [← h2.2.2.2.2.1]; simp
  exact ⟨box_lt h2.2.2.2.1.box, a, c, by rw [← e2, ← e]; exact box_cell h2.2.2.2.1.box 0 _ rfl⟩
end
end Go.Proofs.Ytkdfkibpoccmlaa.Mem
