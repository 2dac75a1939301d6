/-
  Two memories beside each other, package memory's and the document's, with the same rows: New, Add and Set. (Of XMemM, XMemN, XMemS what a seat without Copy, Cut and Block can have.)
-/
import Derived.Test.YthjnkjekidagiaaMemG
import Derived.Test.YthjnkjekidagiaaMemH
namespace Go.Proofs.Ythjnkjekidagiaa.Mem
open Go.RowKit
open Typ (wrapF)

/-- A change of blocks that are new is none of what was there. -/
theorem kept_new {S : Nat → Prop} {w w1 w2 : World} (h : Kept w w1) (hc : Chg S w1 w2) (hs : ∀ k, k < w.heap.size → ¬ S k) : Kept w w2 :=
  ((Chg.of_kept (S := S) h).then hc).kept hs
theorem new_kept (w : World) : Kept w (w.alloc (.cells #[.slice none 0 0] 64)) := (Kept.refl w).alloc _
def tv (x : Bk) : Int × List Int := (x.ty, x.vals)

abbrev Row := Int × List Int
def getT (T : List Row) (id at_ : Int) : Int × Bool :=
  if 0 ≤ id ∧ 0 ≤ at_ then match T[id.toNat]? with
    | some x => match x.2[at_.toNat]? with
      | some n => (n, true)
      | none => (0, false)
    | none => (0, false)
  else (0, false)
def setT (T : List Row) (id at_ v : Int) : List Row :=
  if (getT T id at_).2 then match T[id.toNat]? with
    | some x => T.set id.toNat (x.1, x.2.set at_.toNat (wrapF x.1 v))
    | none => T
  else T
theorem getV_tv (L : List Bk) (id at_ : Int) : getV L id at_ = getT (L.map tv) id at_ := by
  unfold getV getT
  split
  · rw [List.getElem?_map]
    cases L[id.toNat]? with
    | none => rfl
    | some x => rfl
  · rfl
theorem setOk_tv (L : List Bk) (id at_ : Int) : setOk L id at_ = (getT (L.map tv) id at_).2 := by unfold setOk; rw [getV_tv]
theorem setL_tv (L : List Bk) (id at_ v : Int) : (setL L id at_ v).map tv = setT (L.map tv) id at_ v := by
  unfold setL setT
  rw [setOk_tv]
  split
  · rw [List.getElem?_map]
    cases h : L[id.toNat]? with
    | none => rfl
    | some x => rw [List.map_set]; rfl
  · rfl
theorem noughts_len (size : Int) : 1 ≤ (noughts size).length ∧ (noughts size).length ≤ 16 := by unfold noughts; rw [List.length_replicate]; omega

theorem own_base {w : World} {base n size : Nat} {e : TypeId} {v : Value} {xs : List Value} (h : w.ownsRow base e size v n xs) {g : Nat} (hg : v.ownBlock = some g) : base ≤ g := by
  rcases h.2 with ⟨rfl, _⟩ | ⟨g', cap, c, rfl, h1, _⟩
  · simp [Value.ownBlock] at hg
  · simp [Value.ownBlock] at hg; omega
theorem get_yes {T : List Row} {i j : Nat} {x : Row} {n : Int} (hi : T[i]? = some x) (hj : x.2[j]? = some n) : getT T i j = (n, true) := by
  unfold getT
  rw [if_pos ⟨by omega, by omega⟩, Int.toNat_natCast, hi]; simp only [Int.toNat_natCast, hj]
theorem get_no {T : List Row} {i j : Nat} {x : Row} (hi : T[i]? = some x) (hj : x.2.length ≤ j) : getT T i j = (0, false) := by
  unfold getT
  rw [if_pos ⟨by omega, by omega⟩, Int.toNat_natCast, hi]; simp only [Int.toNat_natCast, List.getElem?_eq_none hj]
theorem get_none {T : List Row} {i j : Nat} (hi : T.length ≤ i) : getT T i j = (0, false) := by
  unfold getT
  rw [if_pos ⟨by omega, by omega⟩, Int.toNat_natCast, List.getElem?_eq_none hi]
theorem setT_no {T : List Row} {id at_ v : Int} (h : (getT T id at_).2 = false) : setT T id at_ v = T := by unfold setT; rw [h]; rfl

/-- The blocks of a memory. -/
def foot (p : Nat) (v : Value) (L : List Bk) (k : Nat) : Prop := k = p ∨ v.ownBlock = some k ∨ ∃ x ∈ L, k = x.g
def Goes (B : Nat) (tM : TypeId) (w w' : World) (p : Nat) (v : Value) (L : List Bk) (p' : Nat) (T' : List Row) : Prop :=
  ∃ v' L', MemAt B tM w' p' v' L' ∧ L'.map tv = T' ∧ Chg (foot p v L) w w' ∧ ∀ k, foot p' v' L' k → foot p v L k ∨ w.heap.size ≤ k

theorem MemAt.foot_lt {B : Nat} {tM : TypeId} {w : World} {p : Nat} {v : Value} {L : List Bk} (h : MemAt B tM w p v L) {k : Nat} (hk : foot p v L k) : k < w.heap.size := by
  rcases hk with rfl | hk | ⟨x, hx, rfl⟩
  · exact box_lt h.box
  · obtain ⟨c, hc⟩ := own_ty h.row hk; exact box_lt hc
  · obtain ⟨c, hc, -⟩ := (h.inn x hx).cells; exact box_lt hc
theorem MemAt.foot_le {B : Nat} {tM : TypeId} {w : World} {p : Nat} {v : Value} {L : List Bk} (h : MemAt B tM w p v L) {k : Nat} (hk : foot p v L k) : B ≤ k := by
  rcases hk with rfl | hk | ⟨x, hx, rfl⟩
  · exact h.lo
  · exact own_base h.row hk
  · exact (h.inn x hx).lo
theorem MemAt.foot_ty {B : Nat} {tM : TypeId} {w : World} {p : Nat} {v : Value} {L : List Bk} (h : MemAt B tM w p v L) {k : Nat} (hk : foot p v L k) : ∃ cs t, w.heap[k]? = some (.cells cs t (0, 0)) ∧ (t = tM ∨ t = 62 ∨ t = 3) := by
  rcases hk with rfl | hk | ⟨x, hx, rfl⟩
  · exact ⟨_, _, h.box, .inl rfl⟩
  · obtain ⟨c, hc⟩ := own_ty h.row hk; exact ⟨_, _, hc, .inr (.inl rfl)⟩
  · obtain ⟨c, hc, -⟩ := (h.inn x hx).cells; exact ⟨_, _, hc, .inr (.inr rfl)⟩
theorem Inn.low {B C : Nat} {w : World} {y : Bk} (h : Inn B w y) (hc : C ≤ B) : Inn C w y := by
  refine ⟨h.1, ?_⟩
  rcases h.2 with h2 | ⟨g, cap, c, h0, h1, h2⟩
  · exact .inl h2
  · exact .inr ⟨g, cap, c, h0, Nat.le_trans hc h1, h2⟩
theorem MemAt.low {B C : Nat} {tM : TypeId} {w : World} {p : Nat} {v : Value} {L : List Bk} (h : MemAt B tM w p v L) (hc : C ≤ B) : MemAt C tM w p v L := by
  refine ⟨by have := h.lo; omega, h.box, ⟨h.row.1, ?_⟩, fun x hx => (h.inn x hx).low hc, h.sep, h.pos⟩
  rcases h.row.2 with h2 | ⟨g, cp, c, h0, h1, h2⟩
  · exact .inl h2
  · exact .inr ⟨g, cp, c, h0, by omega, h2⟩

section
variable {B : Nat} {w : World} {p : Nat} {v : Value} {L : List Bk} {T : List Row}

theorem set_foot (L : List Bk) (id at_ n : Int) (p : Nat) (v : Value) (k : Nat) (hk : foot p v (setL L id at_ n) k) : foot p v L k := by
  rcases hk with hk | hk | ⟨x, hx, rfl⟩
  · exact .inl hk
  · exact .inr (.inl hk)
  · refine .inr (.inr ?_)
    unfold setL at hx
    split at hx
    · split at hx
      · rename_i y hy
        rcases List.mem_or_eq_of_mem_set hx with hx | rfl
        · exact ⟨x, hx, rfl⟩
        · exact ⟨y, List.mem_of_getElem? hy, rfl⟩
      · exact ⟨x, hx, rfl⟩
    · exact ⟨x, hx, rfl⟩



theorem adds_go {tM : TypeId} {w' : World} {t size : Int} (hT : L.map tv = T)
    (H : ∃ v' g, w.heap.size ≤ g ∧ MemAt B tM w' p v' (L ++ [⟨g, (noughts size).length, t, noughts size⟩]) ∧ Chg (fun k => k = p ∨ v.ownBlock = some k) w w' ∧ (v'.ownBlock = v.ownBlock ∨ ∃ o, v'.ownBlock = some o ∧ w.heap.size ≤ o)) : Goes B tM w w' p v L p (T ++ [(t, noughts size)]) := by
  obtain ⟨v', g, h1, h2, h3, h4⟩ := H
  refine ⟨v', _, h2, by rw [List.map_append, hT]; rfl, h3.mono fun k _ hk => hk.elim .inl fun e => .inr (.inl e), fun k hk => ?_⟩
  rcases hk with hk | hk | ⟨x, hx, rfl⟩
  · exact .inl (.inl hk)
  · rcases h4 with e | ⟨o, e, ho⟩
    · exact .inl (.inr (.inl (e ▸ hk)))
    · rw [e] at hk; injection hk with hk; exact .inr (by omega)
  · rw [List.mem_append, List.mem_singleton] at hx
    rcases hx with hx | rfl
    · exact .inl (.inr (.inr ⟨x, hx, rfl⟩))
    · exact .inr h1
theorem add_go (h : MemAt B 64 w p v L) (hT : L.map tv = T) (hl : T.length ≤ 100000) (hB : B ≤ w.heap.size) (t size : Int) (hs : -9223372036854775808 ≤ size ∧ size ≤ 9223372036854775807) :
    Calls Try.prog 13 #[.pointer (some ⟨p, 0, none⟩), .int .i64 t, .int .i64 size] w fun e w' => e = .returned (.int .i64 T.length) ∧ Hid (Goes B 64 w w' p v L p (T ++ [(t, noughts size)])) := by
  have e : L.length = T.length := by rw [← hT]; simp
  refine (add_any h (by omega) hB t size hs).mono ?_
  rintro _ w' ⟨rfl, H⟩
  exact ⟨by rw [e], Lib.hid (adds_go hT H.out)⟩
theorem radd_go (h : MemAt B 55 w p v L) (hT : L.map tv = T) (hl : T.length ≤ 100000) (hB : B ≤ w.heap.size) (t size : Int) (hs : -9223372036854775808 ≤ size ∧ size ≤ 9223372036854775807) :
    Calls Try.prog 19 #[.pointer (some ⟨p, 0, none⟩), .int .i64 t, .int .i64 size] w fun e w' => e = .returned (.int .i64 T.length) ∧ Hid (Goes B 55 w w' p v L p (T ++ [(t, noughts size)])) := by
  have e : L.length = T.length := by rw [← hT]; simp
  refine (radd_any h (by omega) hB t size hs).mono ?_
  rintro _ w' ⟨rfl, H⟩
  exact ⟨by rw [e], Lib.hid (adds_go hT H.out)⟩
theorem set_go (h : MemAt B 64 w p v L) (hT : L.map tv = T) (id at_ n : Int) :
    Calls Try.prog 15 #[.pointer (some ⟨p, 0, none⟩), .int .i64 id, .int .i64 at_, .int .i64 n] w fun e w' => e = .returned (.bool (getT T id at_).2) ∧ Hid (Goes B 64 w w' p v L p (setT T id at_ n)) := by
  refine (set_any h id at_ n).mono ?_
  rintro _ w' ⟨rfl, h1, h2⟩
  exact ⟨by rw [setOk_tv, hT], Lib.hid ⟨_, _, h1, by rw [setL_tv, hT], h2.mono fun k _ hk => .inr (.inr hk), fun k hk => .inl (set_foot L id at_ n p v k hk)⟩⟩
theorem rset_go (h : MemAt B 55 w p v L) (hT : L.map tv = T) (id at_ n : Int) :
    Calls Try.prog 20 #[.pointer (some ⟨p, 0, none⟩), .int .i64 id, .int .i64 at_, .int .i64 n] w fun e w' => e = .returned (.bool (getT T id at_).2) ∧ Hid (Goes B 55 w w' p v L p (setT T id at_ n)) := by
  refine (rset_any h id at_ n).mono ?_
  rintro _ w' ⟨rfl, h1, h2⟩
  exact ⟨by rw [setOk_tv, hT], Lib.hid ⟨_, _, h1, by rw [setL_tv, hT], h2.mono fun k _ hk => .inr (.inr hk), fun k hk => .inl (set_foot L id at_ n p v k hk)⟩⟩

end

/-- Both memories, apart; what was there ahead of the law stays. -/
def Two (w0 w : World) (pm pr : Nat) (vm vr : Value) (Lm Lr : List Bk) (T T' : List Row) : Prop :=
  Kept w0 w ∧ MemAt w0.heap.size 64 w pm vm Lm ∧ Lm.map tv = T ∧ MemAt w0.heap.size 55 w pr vr Lr ∧ Lr.map tv = T' ∧ ∀ k, foot pm vm Lm k → ¬ foot pr vr Lr k
def St (w0 w : World) (pm pr : Nat) (T T' : List Row) : Prop := ∃ vm vr Lm Lr, Two w0 w pm pr vm vr Lm Lr T T'

theorem MemAt.beside {B : Nat} {tM : TypeId} {S : Nat → Prop} {w w' : World} {p : Nat} {v : Value} {L : List Bk} (h : MemAt B tM w p v L) (hc : Chg S w w') (hS : ∀ k, S k → ¬ foot p v L k) : MemAt B tM w' p v L :=
  h.chg hc (fun hs => hS _ hs (.inl rfl)) (fun _ hg hs => hS _ hs (.inr (.inl hg))) (fun x hx hs => hS _ hs (.inr (.inr ⟨x, hx, rfl⟩)))
theorem MemAt.kept_foot {B : Nat} {tM : TypeId} {w0 w w' : World} {p : Nat} {v : Value} {L : List Bk} (h : MemAt B tM w p v L) (hB : w0.heap.size ≤ B) (hk : Kept w0 w) (hc : Chg (foot p v L) w w') : Kept w0 w' :=
  kept_new hk hc fun k hk' hs => by have := h.foot_le hs; omega
theorem Two.goM {w0 w w' : World} {pm pr pm' : Nat} {vm vr : Value} {Lm Lr : List Bk} {T T' U : List Row} (h : Two w0 w pm pr vm vr Lm Lr T T') (hg : Goes w0.heap.size 64 w w' pm vm Lm pm' U) : St w0 w' pm' pr U T' := by
  obtain ⟨k1, m1, e1, r1, e2, ha⟩ := h
  obtain ⟨v', L', h1, h2, h3, h4⟩ := hg
  refine ⟨v', vr, L', Lr, m1.kept_foot (Nat.le_refl _) k1 h3, h1, h2, r1.beside h3 ha, e2, fun k hk hr => ?_⟩
  rcases h4 k hk with e | e
  · exact ha k e hr
  · have := r1.foot_lt hr; omega
theorem Two.goR {w0 w w' : World} {pm pr pr' : Nat} {vm vr : Value} {Lm Lr : List Bk} {T T' U : List Row} (h : Two w0 w pm pr vm vr Lm Lr T T') (hg : Goes w0.heap.size 55 w w' pr vr Lr pr' U) : St w0 w' pm pr' T U := by
  obtain ⟨k1, m1, e1, r1, e2, ha⟩ := h
  obtain ⟨v', L', h1, h2, h3, h4⟩ := hg
  refine ⟨vm, v', Lm, L', r1.kept_foot (Nat.le_refl _) k1 h3, m1.beside h3 (fun k hk hm => ha k hm hk), e1, h1, h2, fun k hk hr => ?_⟩
  rcases h4 k hr with e | e
  · exact ha k hk e
  · have := m1.foot_lt hk; omega
theorem St.kept {w0 w w' : World} {pm pr : Nat} {T T' : List Row} (h : St w0 w pm pr T T') (hk : Kept w w') : St w0 w' pm pr T T' := by
  obtain ⟨vm, vr, Lm, Lr, k1, m1, e1, r1, e2, ha⟩ := h
  exact ⟨vm, vr, Lm, Lr, k1.trans hk, m1.kept hk, e1, r1.kept hk, e2, ha⟩
/-- A block of another type is none of a memory's. -/
theorem MemAt.not_foot {B : Nat} {tM ty : TypeId} {w : World} {p : Nat} {v : Value} {L : List Bk} (h : MemAt B tM w p v L) {b : Nat} {cs : Array Value} (hb : w.heap[b]? = some (.cells cs ty (0, 0))) (h1 : ty ≠ tM) (h2 : ty ≠ 62) (h3 : ty ≠ 3) : ¬ foot p v L b := by
  intro hf
  obtain ⟨cs', t, h4, h5⟩ := h.foot_ty hf
  rw [hb] at h4; injection h4 with h4; injection h4 with _ h4
  subst h4
  rcases h5 with h5 | h5 | h5
  · exact h1 h5
  · exact h2 h5
  · exact h3 h5


/-- A block of a type that is none of a memory's stays. -/
def Stays (w w' : World) : Prop := ∀ (t : TypeId) (b : Nat) (cs : Array Value), t ≠ 64 → t ≠ 55 → t ≠ 62 → t ≠ 3 → w.heap[b]? = some (Obj.cells cs t (0, 0)) → w'.heap[b]? = some (Obj.cells cs t (0, 0))

section
variable {w0 w : World} {pm pr : Nat} {T T' : List Row}
/-- A call on package memory's one: the other one stays, and so does a block of another type. -/
theorem st_add (h : St w0 w pm pr T T') (hl : T.length ≤ 100000) (t size : Int) (hs : -9223372036854775808 ≤ size ∧ size ≤ 9223372036854775807) :
    Calls Try.prog 13 #[.pointer (some ⟨pm, 0, none⟩), .int .i64 t, .int .i64 size] w fun e w' => e = .returned (.int .i64 T.length) ∧ Hid (St w0 w' pm pr (T ++ [(t, noughts size)]) T' ∧ Stays w w') := by
  obtain ⟨vm, vr, Lm, Lr, h2⟩ := h
  refine (add_go h2.2.1 h2.2.2.1 hl h2.1.size t size hs).mono ?_
  rintro _ w' ⟨rfl, H⟩
  exact ⟨rfl, Lib.hid ⟨h2.goM H.out, fun t b cs h1 h2' h3 h4 hb => (by obtain ⟨_, _, _, _, hc, _⟩ := H.out; exact hc.heap hb (h2.2.1.not_foot hb h1 h3 h4))⟩⟩
theorem st_radd (h : St w0 w pm pr T T') (hl : T'.length ≤ 100000) (t size : Int) (hs : -9223372036854775808 ≤ size ∧ size ≤ 9223372036854775807) :
    Calls Try.prog 19 #[.pointer (some ⟨pr, 0, none⟩), .int .i64 t, .int .i64 size] w fun e w' => e = .returned (.int .i64 T'.length) ∧ Hid (St w0 w' pm pr T (T' ++ [(t, noughts size)]) ∧ Stays w w') := by
  obtain ⟨vm, vr, Lm, Lr, h2⟩ := h
  refine (radd_go h2.2.2.2.1 h2.2.2.2.2.1 hl h2.1.size t size hs).mono ?_
  rintro _ w' ⟨rfl, H⟩
  exact ⟨rfl, Lib.hid ⟨h2.goR H.out, fun t b cs h1 h2' h3 h4 hb => (by obtain ⟨_, _, _, _, hc, _⟩ := H.out; exact hc.heap hb (h2.2.2.2.1.not_foot hb h2' h3 h4))⟩⟩
theorem st_set (h : St w0 w pm pr T T') (id at_ n : Int) :
    Calls Try.prog 15 #[.pointer (some ⟨pm, 0, none⟩), .int .i64 id, .int .i64 at_, .int .i64 n] w fun e w' => e = .returned (.bool (getT T id at_).2) ∧ Hid (St w0 w' pm pr (setT T id at_ n) T' ∧ Stays w w') := by
  obtain ⟨vm, vr, Lm, Lr, h2⟩ := h
  refine (set_go h2.2.1 h2.2.2.1 id at_ n).mono ?_
  rintro _ w' ⟨rfl, H⟩
  exact ⟨rfl, Lib.hid ⟨h2.goM H.out, fun t b cs h1 h2' h3 h4 hb => (by obtain ⟨_, _, _, _, hc, _⟩ := H.out; exact hc.heap hb (h2.2.1.not_foot hb h1 h3 h4))⟩⟩
theorem st_rset (h : St w0 w pm pr T T') (id at_ n : Int) :
    Calls Try.prog 20 #[.pointer (some ⟨pr, 0, none⟩), .int .i64 id, .int .i64 at_, .int .i64 n] w fun e w' => e = .returned (.bool (getT T' id at_).2) ∧ Hid (St w0 w' pm pr T (setT T' id at_ n) ∧ Stays w w') := by
  obtain ⟨vm, vr, Lm, Lr, h2⟩ := h
  refine (rset_go h2.2.2.2.1 h2.2.2.2.2.1 id at_ n).mono ?_
  rintro _ w' ⟨rfl, H⟩
  exact ⟨rfl, Lib.hid ⟨h2.goR H.out, fun t b cs h1 h2' h3 h4 hb => (by obtain ⟨_, _, _, _, hc, _⟩ := H.out; exact hc.heap hb (h2.2.2.2.1.not_foot hb h2' h3 h4))⟩⟩

end
end Go.Proofs.Ythjnkjekidagiaa.Mem
