/-
  The reader of package parse in memory (Rd), 'nothing but these blocks has changed' (Chg), and the contracts of the reader's small methods (peek, is, refuse, next, take, skip, open, close).
-/
import Derived.Test.YtoafcpbpnkfhoaaGreatDoorLexM
import Derived.Test.YtoafcpbpnkfhoaaGreatDoorPrsP
import Derived.RegionTactic
import Derived.ChangeAlike
import Derived.Deep.QuietTactic
import Derived.BigQuiet
import Derived.WalkLawsBesides
namespace Go.Proofs.YtoafcpbpnkfhoaaGreatDoor.Prs
open Go.RowKit
open Lex (Tok Laid)

/-- Nothing but the blocks of S has changed; no block has gone. -/
structure Chg (S : Nat → Prop) (w w' : World) : Prop where
  os : w'.os = w.os
  tape : w'.tape = w.tape
  output : w'.output = w.output
  size : w.heap.size ≤ w'.heap.size
  block : ∀ k, k < w.heap.size → ¬ S k → w'.heap[k]? = w.heap[k]?
theorem Chg.refl (S : Nat → Prop) (w : World) : Chg S w w := ⟨rfl, rfl, rfl, Nat.le_refl _, fun _ _ _ => rfl⟩
theorem Chg.trans {S T : Nat → Prop} {a b c : World} (h : Chg S a b) (k : Chg T b c) (hs : ∀ i, i < a.heap.size → T i → S i) : Chg S a c :=
  ⟨k.os.trans h.os, k.tape.trans h.tape, k.output.trans h.output, Nat.le_trans h.size k.size, fun i hi hn => (k.block i (Nat.lt_of_lt_of_le hi h.size) (fun ht => hn (hs i hi ht))).trans (h.block i hi hn)⟩
theorem Chg.then {S : Nat → Prop} {a b c : World} (h : Chg S a b) (k : Chg S b c) : Chg S a c := h.trans k fun _ _ h => h
theorem Chg.mono {S T : Nat → Prop} {a b : World} (h : Chg S a b) (hs : ∀ i, i < a.heap.size → S i → T i) : Chg T a b :=
  ⟨h.os, h.tape, h.output, h.size, fun i hi hn => h.block i hi (fun k => hn (hs i hi k))⟩
theorem Chg.of_kept {S : Nat → Prop} {a b : World} (h : Kept a b) : Chg S a b := ⟨h.os, h.tape, h.output, h.size, fun i hi _ => h.block i hi⟩
theorem Chg.kept {S : Nat → Prop} {a b : World} (h : Chg S a b) (hs : ∀ i, i < a.heap.size → ¬ S i) : Kept a b := ⟨h.os, h.tape, h.output, h.size, fun i hi => h.block i hi (hs i hi)⟩
theorem Chg.keep {S : Nat → Prop} {a b c : World} (h : Chg S a b) (k : Kept b c) : Chg S a c := h.then (Chg.of_kept k)
theorem Chg.drew {S : Nat → Prop} {a b : World} (h : Chg S a b) : Chg S a b.drew := ⟨h.os, h.tape, h.output, h.size, h.block⟩
theorem Chg.drewN {S : Nat → Prop} {a b : World} (h : Chg S a b) (n : Nat) : Chg S a (b.drewN n) := ⟨h.os, h.tape, h.output, h.size, h.block⟩
theorem Chg.alloc {S : Nat → Prop} {a b : World} (h : Chg S a b) (o : Obj) : Chg S a (b.alloc o) := h.keep ((Kept.refl b).alloc o)
theorem Chg.setCell {S : Nat → Prop} {a b : World} (h : Chg S a b) {p : Addr} (hp : p.block < a.heap.size → S p.block) (u : Value) : Chg S a (b.setCell p u) :=
  h.trans (T := fun k => k = p.block) ⟨rfl, rfl, rfl, by simp [World.setCell], fun k _ hk => Below.heap_setCell _ _ _ _ hk⟩ fun i hi e => by subst e; exact hp hi
theorem Chg.grown {S : Nat → Prop} {a b c : World} {row : Option Nat} (h : Chg S a b) (hg : b.grownBy c row) (hr : ∀ k, k < a.heap.size → row = some k → S k) : Chg S a c :=
  h.trans (T := fun k => row = some k) ⟨hg.os, hg.tape, hg.output, hg.size, fun k hk hn => hg.block k hk (fun e => hn e.symm)⟩ hr
theorem Chg.heap {S : Nat → Prop} {a b : World} (h : Chg S a b) {k : Nat} {o : Obj} (hk : a.heap[k]? = some o) (hn : ¬ S k) : b.heap[k]? = some o :=
  (h.block k (Array.getElem?_eq_some_iff.1 hk).1 hn).trans hk
theorem ne_of_ty {w : World} {a b : Nat} {c c' : Array Value} {t t' : TypeId} {z z' : Nat × Nat} (h : w.heap[a]? = some (.cells c t z)) (h' : w.heap[b]? = some (.cells c' t' z')) (hn : t ≠ t') : a ≠ b := by
  intro e; subst e; rw [h] at h'; injection h' with h'; injection h' with _ h'; exact hn h'

def dpE : Option Nat → Int
  | none => 0
  | some _ => 6
def dpK : Option Nat → Int
  | none => 0
  | some k => k
def faultV (k : Int) (at_ : Int) : Value := .iface 53 (.agg #[.int .i64 k, .int .i64 at_])
def rdCells (G n cap p d : Nat) (dp : Option Nat) : Array Value := #[.slice (some ⟨G, 0, none⟩) n cap, .int .i64 p, .int .i64 d, .int .i64 (dpE dp), .int .i64 (dpK dp)]

/-- The reader lies in block r, us is what is left of its tokens, d how deep it is, dp where it was too deep first. Nothing below B is its own. -/
structure Rd (B G : Nat) (w : World) (r : Nat) (us : List Tok) (d : Nat) (dp : Option Nat) : Prop where
  lie : ∃ n cap p cur, w.heap[r]? = some (.cells (rdCells G n cap p d dp) 57 (0, 0)) ∧ w.heap[G]? = some (.cells cur 62 (0, 0)) ∧ p + us.length = n ∧ n ≤ cap ∧ cap ≤ maxLen ∧ n ≤ 8193 ∧
    ∀ i (hi : i < us.length), cur[(p + i) * 3]? = some (.int .i64 us[i].kind) ∧ cur[(p + i) * 3 + 1]? = some (.string ⟨us[i].text.toArray⟩) ∧ cur[(p + i) * 3 + 2]? = some (.int .i64 us[i].place)
  above : B ≤ r
  low : d + us.length ≤ 8193
  small : ∀ t ∈ us, t.text.length ≤ 8192 ∧ t.place ≤ 8192 ∧ t.kind ≤ 4
  laid : ∃ pL pW, Laid w pL pW ∧ pL.block < B ∧ pW.block < B ∧ 0 < B ∧ 1 < B ∧ 2 < B
theorem Rd.lt {B G : Nat} {w : World} {r : Nat} {us : List Tok} {d : Nat} {dp : Option Nat} (h : Rd B G w r us d dp) : r < w.heap.size := by
  obtain ⟨n, cap, p, cur, h1, _⟩ := h.lie
  exact (Array.getElem?_eq_some_iff.1 h1).1
theorem laid_of {B : Nat} {w w' : World} {pL pW : Addr} {S : Nat → Prop} (h : Laid w pL pW) (hc : Chg S w w') (hs : ∀ k, S k → B ≤ k) (h1 : pL.block < B) (h2 : pW.block < B) (h3 : 0 < B) (h4 : 1 < B) (h5 : 2 < B) : Laid w' pL pW := by
  have hb : ∀ k, k < w.heap.size → k < B → w'.heap[k]? = w.heap[k]? := fun k hk hB => hc.block k hk (fun s => by have := hs k s; omega)
  have hz := h.size
  have := hc.size
  refine ⟨?_, ?_, ?_, h.ne, ?_, ?_, by omega⟩
  · rw [World.cell?_of_block (w := w) (hb _ (by simp; omega) (by simpa using h3))]; exact h.long
  · rw [World.cell?_of_block (w := w) (hb _ (by simp; omega) (by simpa using h4))]; exact h.word
  · rw [World.cell?_of_block (w := w) (hb _ (by simp; omega) (by simpa using h5))]; exact h.typ
  · obtain ⟨c, t, e⟩ := h.rowL
    exact ⟨c, t, (hb _ (Array.getElem?_eq_some_iff.1 e).1 h1).trans e⟩
  · obtain ⟨c, t, e⟩ := h.rowW
    exact ⟨c, t, (hb _ (Array.getElem?_eq_some_iff.1 e).1 h2).trans e⟩
/-- A reader stays while other blocks change. -/
theorem Rd.chg {B G : Nat} {w w' : World} {r : Nat} {us : List Tok} {d : Nat} {dp : Option Nat} {S : Nat → Prop} (h : Rd B G w r us d dp) (hc : Chg S w w') (hs : ∀ k, S k → B ≤ k ∧ k ≠ r ∧ k ≠ G) : Rd B G w' r us d dp := by
  obtain ⟨⟨n, cap, p, cur, h1, h2, h3, h4, h5, h6, h7⟩, hab, hlow, hsm, pL, pW, hl, l1, l2, l3, l4, l5⟩ := h
  exact ⟨⟨n, cap, p, cur, hc.heap h1 (fun s => (hs r s).2.1 rfl), hc.heap h2 (fun s => (hs G s).2.2 rfl), h3, h4, h5, h6, h7⟩, hab, hlow, hsm, pL, pW, laid_of hl hc (fun k s => (hs k s).1) l1 l2 l3 l4 l5, l1, l2, l3, l4, l5⟩
theorem Rd.ltG {B G : Nat} {w : World} {r : Nat} {us : List Tok} {d : Nat} {dp : Option Nat} (h : Rd B G w r us d dp) : G < w.heap.size := by
  obtain ⟨n, cap, p, cur, h1, h2, _⟩ := h.lie
  exact (Array.getElem?_eq_some_iff.1 h2).1
/-- A block of another kind is none of the reader's. -/
theorem Rd.apart {B G : Nat} {w : World} {r : Nat} {us : List Tok} {d : Nat} {dp : Option Nat} (h : Rd B G w r us d dp) {k : Nat} {c : Array Value} {t : TypeId} {z : Nat × Nat} (hk : w.heap[k]? = some (.cells c t z)) (h1 : t ≠ 57) (h2 : t ≠ 62) : k ≠ r ∧ k ≠ G := by
  obtain ⟨n, cap, p, cur, e1, e2, _⟩ := h.lie
  exact ⟨ne_of_ty hk e1 h1, ne_of_ty hk e2 h2⟩
theorem Rd.kept {B G : Nat} {w w' : World} {r : Nat} {us : List Tok} {d : Nat} {dp : Option Nat} (h : Rd B G w r us d dp) (hk : Kept w w') : Rd B G w' r us d dp :=
  h.chg (S := fun _ => False) (Chg.of_kept hk) fun _ s => s.elim
/-- The cells that the walks read. -/
theorem Rd.head {B G : Nat} {w : World} {r : Nat} {t : Tok} {us : List Tok} {d : Nat} {dp : Option Nat} (h : Rd B G w r (t :: us) d dp) :
    ∃ n cap p, w.cell? ⟨r, 0, none⟩ = some (.slice (some ⟨G, 0, none⟩) n cap) ∧ w.cell? ⟨r, 1, none⟩ = some (.int .i64 (p : Nat)) ∧ w.cell? ⟨r, 2, none⟩ = some (.int .i64 d) ∧ w.cell? ⟨r, 3, none⟩ = some (.int .i64 (dpE dp)) ∧ w.cell? ⟨r, 4, none⟩ = some (.int .i64 (dpK dp)) ∧
      w.frozen? ⟨r, 1, none⟩ = false ∧ w.frozen? ⟨r, 2, none⟩ = false ∧ w.frozen? ⟨r, 3, none⟩ = false ∧ w.frozen? ⟨r, 4, none⟩ = false ∧
      p < n ∧ n ≤ 8193 ∧ r < w.heap.size ∧ G < w.heap.size ∧
      w.cell? ⟨G, p * 3, none⟩ = some (.int .i64 t.kind) ∧ w.cell? ⟨G, p * 3 + 1, none⟩ = some (.string ⟨t.text.toArray⟩) ∧ w.cell? ⟨G, p * 3 + 2, none⟩ = some (.int .i64 t.place) := by
  obtain ⟨⟨n, cap, p, cur, h1, h2, h3, h4, h5, h6, h7⟩, hab, hlow, hsm, hl⟩ := h
  have hx := h7 0 (by simp)
  simp only [List.getElem_cons_zero, Nat.add_zero] at hx
  refine ⟨n, cap, p, by simp [World.cell?, h1, rdCells], by simp [World.cell?, h1, rdCells], by simp [World.cell?, h1, rdCells], by simp [World.cell?, h1, rdCells], by simp [World.cell?, h1, rdCells], by simp [World.frozen?, h1], by simp [World.frozen?, h1], by simp [World.frozen?, h1], by simp [World.frozen?, h1], by simp at h3; omega, h6, (Array.getElem?_eq_some_iff.1 h1).1, (Array.getElem?_eq_some_iff.1 h2).1, ?_, ?_, ?_⟩
  · simp [World.cell?, h2, hx.1]
  · simp [World.cell?, h2, hx.2.1]
  · simp [World.cell?, h2, hx.2.2]

theorem box_cell {w : World} {b : Nat} {cs : Array Value} {t : TypeId} (h : w.heap[b]? = some (.cells cs t (0, 0))) (o : Nat) (u : Value) (hu : cs[o]? = some u) : w.cell? ⟨b, o, none⟩ = some u := by simpa [World.cell?, h] using hu
theorem box_froz {w : World} {b : Nat} {cs : Array Value} {t : TypeId} (h : w.heap[b]? = some (.cells cs t (0, 0))) (o : Nat) : w.frozen? ⟨b, o, none⟩ = false := by simp [World.frozen?, h]
theorem tok0 (k : Int) (s : ByteArray) (p : Int) (w : World) : (Instr.field 62 (.agg #[.int .i64 k, .string s, .int .i64 p]) 0).run Tryz.prog w = .ok (.int .i64 k) w := by kernel_rfl
theorem tok1 (k : Int) (s : ByteArray) (p : Int) (w : World) : (Instr.field 62 (.agg #[.int .i64 k, .string s, .int .i64 p]) 1).run Tryz.prog w = .ok (.string s) w := by kernel_rfl
theorem tok2 (k : Int) (s : ByteArray) (p : Int) (w : World) : (Instr.field 62 (.agg #[.int .i64 k, .string s, .int .i64 p]) 2).run Tryz.prog w = .ok (.int .i64 p) w := by kernel_rfl
attribute [local go_sem] tok0 tok1 tok2

set_option maxHeartbeats 400000 in
theorem peek_any {B G r d : Nat} {dp : Option Nat} {t : Tok} {us : List Tok} (w : World) (h : Rd B G w r (t :: us) d dp) : Calls Tryz.prog 14 #[.pointer (some ⟨r, 0, none⟩)] w fun e w' => e = .returned (.agg #[.int .i64 t.kind, .string ⟨t.text.toArray⟩, .int .i64 t.place]) ∧ Hid (Kept w w') := by
  obtain ⟨n, cap, p, c0, c1, _, _, _, _, _, _, _, hp, hn, hr, hG, k0, k1, k2⟩ := h.head
  clear h
  go_enter Tryz.func14, Tryz.ntmps14
  go_wp2
  go_region
  all_goals
    go_wp2
    refine bodyPost_ret (v := .agg #[.int .i64 t.kind, .string ⟨t.text.toArray⟩, .int .i64 t.place]) ?_ rfl ⟨rfl, Lib.hid (((Kept.refl w).alloc _).drew)⟩
    simp [results, Tryz.results14, go_sem]
set_option maxRecDepth 100000 in
theorem is_yes {B G r d : Nat} {dp : Option Nat} {t : Tok} {us : List Tok} {s : List UInt8} (w : World) (h : Rd B G w r (t :: us) d dp) (hs : t.text = s) : Calls Tryz.prog 45 #[.pointer (some ⟨r, 0, none⟩), .string ⟨s.toArray⟩] w fun e w' => e = .returned (.bool true) ∧ Hid (Kept w w') := by
  have HP := Lib.hid (peek_any w h)
  have Hs := Lib.hid hs
  clear h hs
  go_enter Tryz.func45, Tryz.ntmps45
  go_wp2_with (go_at_call 14; refine (HP.out).mono ?_; rintro e w1 ⟨rfl, Hk⟩)
  go_ret
  exact ⟨by simp [Hs.out], Hk⟩
set_option maxRecDepth 100000 in
theorem is_no {B G r d : Nat} {dp : Option Nat} {t : Tok} {us : List Tok} {s : List UInt8} (w : World) (h : Rd B G w r (t :: us) d dp) (hs : t.text ≠ s) : Calls Tryz.prog 45 #[.pointer (some ⟨r, 0, none⟩), .string ⟨s.toArray⟩] w fun e w' => e = .returned (.bool false) ∧ Hid (Kept w w') := by
  have HP := Lib.hid (peek_any w h)
  have Hs := Lib.hid hs
  clear h hs
  go_enter Tryz.func45, Tryz.ntmps45
  go_wp2_with (go_at_call 14; refine (HP.out).mono ?_; rintro e w1 ⟨rfl, Hk⟩)
  go_ret
  exact ⟨by simp [Hs.out], Hk⟩
set_option maxRecDepth 100000 in
theorem refuse_any {B G r d : Nat} {dp : Option Nat} {t : Tok} {us : List Tok} (w : World) (h : Rd B G w r (t :: us) d dp) : Calls Tryz.prog 17 #[.pointer (some ⟨r, 0, none⟩)] w fun e w' => e = .panicked [{ v := faultV 5 t.place, recovered := false }] ∧ Hid (Kept w w') := by
  have HP := Lib.hid (peek_any w h)
  clear h
  go_enter Tryz.func17, Tryz.ntmps17
  go_wp2_with (go_at_call 14; refine (HP.out).mono ?_; rintro e w1 ⟨rfl, Hk⟩)
  exact ⟨rfl, rfl, Hk⟩
/-- Behind a change of the reader's own cells. -/
theorem Rd.moved {B G : Nat} {w w' : World} {r : Nat} {us us' : List Tok} {d d' : Nat} {dp dp' : Option Nat} (h : Rd B G w r us d dp) (hc : Chg (fun k => k = r) w w') (hu : ∃ v, us = v ++ us') (hd : d' + us'.length ≤ 8193)
    (hx : ∀ n cap p, w.heap[r]? = some (.cells (rdCells G n cap p d dp) 57 (0, 0)) → w'.heap[r]? = some (.cells (rdCells G n cap (p + (us.length - us'.length)) d' dp') 57 (0, 0))) : Rd B G w' r us' d' dp' := by
  obtain ⟨⟨n, cap, p, cur, h1, h2, h3, h4, h5, h6, h7⟩, hab, hlow, hsm, pL, pW, hl, l1, l2, l3, l4, l5⟩ := h
  obtain ⟨v, rfl⟩ := hu
  have hlen : (v ++ us').length - us'.length = v.length := by simp
  have hG : ¬ G = r := fun e => ne_of_ty h2 h1 (by decide) e
  refine ⟨⟨n, cap, p + v.length, cur, by rw [← hlen]; exact hx _ _ _ h1, hc.heap h2 hG, by simp at h3; omega, h4, h5, h6, fun i hi => ?_⟩, hab, hd, fun t ht => hsm t (by simp [ht]), pL, pW, laid_of hl hc (fun k s => by omega) l1 l2 l3 l4 l5, l1, l2, l3, l4, l5⟩
  have := h7 (v.length + i) (by simp; omega)
  rw [List.getElem_append_right (by omega)] at this
  simpa [Nat.add_assoc] using this
set_option maxRecDepth 100000 in
/-- The reader, one token on. -/
theorem next_any {B G r d : Nat} {dp : Option Nat} {t : Tok} {us : List Tok} (w : World) (h : Rd B G w r (t :: us) d dp) : Calls Tryz.prog 46 #[.pointer (some ⟨r, 0, none⟩)] w fun e w' => e = .returned (.agg #[.int .i64 t.kind, .string ⟨t.text.toArray⟩, .int .i64 t.place]) ∧ Hid (Chg (fun k => k = r) w w' ∧ Rd B G w' r us d dp) := by
  have HP := Lib.hid (peek_any (w.alloc (.cells #[.int .i64 0, .string ⟨#[]⟩, .int .i64 0] 62)) (h.kept ((Kept.refl w).alloc _)))
  have HR := Lib.hid h
  clear h
  go_enter Tryz.func46, Tryz.ntmps46
  go_upto_region 2 with (go_at_call 14; refine (HP.out).mono ?_; rintro e w1 ⟨rfl, Hk⟩)
  have hk0 : Kept w w1 := ((Kept.refl w).alloc _).trans Hk.out
  have hr1 := HR.out.kept hk0
  obtain ⟨n, cap, p, c0, c1, _, _, _, f1, _, _, _, hp, hn, hr, hG, k0, k1, k2⟩ := hr1.head
  have hs1 : w.heap.size + 1 ≤ w1.heap.size := by have := Below.size Hk.out; simpa using this
  have hrw := HR.out.lt
  have z0 : w1.cell? ⟨w.heap.size, 0, none⟩ = some (.int .i64 0) := by
    rw [Below.cell Hk.out (p := ⟨w.heap.size, 0, none⟩) (by simp)]; simp
  have z1 : w1.cell? ⟨w.heap.size, 1, none⟩ = some (.string ⟨#[]⟩) := by
    rw [Below.cell Hk.out (p := ⟨w.heap.size, 1, none⟩) (by simp)]; simp
  have z2 : w1.cell? ⟨w.heap.size, 2, none⟩ = some (.int .i64 0) := by
    rw [Below.cell Hk.out (p := ⟨w.heap.size, 2, none⟩) (by simp)]; simp
  have y0 : ∀ o, w1.frozen? ⟨w.heap.size, o, none⟩ = false := fun o => by
    rw [Below.frozen Hk.out (p := ⟨w.heap.size, o, none⟩) (by simp)]; simp
  have hlt : w.heap.size < w1.heap.size := by omega
  have hne : ¬ w.heap.size = r := by omega
  have Hr1 := Lib.hid hr1
  have Hk0 := Lib.hid hk0
  clear hr1 hk0
  go_wp2
  refine bodyPost_ret (v := .agg #[.int .i64 t.kind, .string ⟨t.text.toArray⟩, .int .i64 t.place]) ?_ rfl ⟨rfl, ?_⟩
  · simp [results, Tryz.results46, go_sem, hlt, z0, z1, z2]
  have hc : Chg (fun k => k = r) w (((((w1.setCell ⟨r, 1, none⟩ (.int .i64 ((p : Int) + 1))).setCell ⟨w.heap.size, 0, none⟩ (.int .i64 t.kind)).setCell ⟨w.heap.size, 1, none⟩ (.string ⟨t.text.toArray⟩)).setCell ⟨w.heap.size, 2, none⟩ (.int .i64 t.place)).alloc (.cells #[.int .i64 t.kind, .string ⟨t.text.toArray⟩, .int .i64 t.place] 62)) :=
    (((((Chg.of_kept (S := fun k => k = r) Hk0.out).setCell (fun _ => rfl) _).setCell (fun h => absurd h (Nat.lt_irrefl _)) _).setCell (fun h => absurd h (Nat.lt_irrefl _)) _).setCell (fun h => absurd h (Nat.lt_irrefl _)) _).alloc _
  refine Lib.hid ⟨hc, HR.out.moved hc ⟨[t], rfl⟩ (by have := HR.out.low; simp at this; omega) fun n' cap' p' hh => ?_⟩
  have hh1 := (Below.block Hk0.out r hrw).trans hh
  have hp' : p' = p := by
    have : w1.cell? ⟨r, 1, none⟩ = some (.int .i64 (p' : Nat)) := by simp [World.cell?, hh1, rdCells]
    rw [c1] at this; simp at this; omega
  subst hp'
  rw [Below.heap_alloc _ _ _ (by simp [World.setCell]; exact hr), heap_setCell_other _ _ _ _ (by simp; omega), heap_setCell_other _ _ _ _ (by simp; omega), heap_setCell_other _ _ _ _ (by simp; omega), heap_setCell_same _ _ _ _ _ _ hh1]
  simp [rdCells]
end Go.Proofs.YtoafcpbpnkfhoaaGreatDoor.Prs
