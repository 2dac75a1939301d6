/-
  Package eval: past, newReckoner.
-/
import Derived.Test.YthjnkjekidagiaaEvD
import Derived.Deep.OwnRows
import Derived.Deep.LoopGhost
import Derived.Deep.RegionHeld3
namespace Go.Proofs.Ythjnkjekidagiaa.Evl
open Go.RowKit Go.Deep
open Prs (Ex)
open Fnd
open Mem (Bk MemAt)
/-- A pointer to a memory, a list of binds: their forms. -/
theorem MemIs.form {w : World} {mv : Value} {m : Option (List Bk)} (h : MemIs w mv m) : ∃ p, mv = .pointer p := by
  rcases h with ⟨h, _⟩ | ⟨B, p, v, L, h, _⟩
  · exact ⟨_, h⟩
  · exact ⟨_, h⟩
theorem binds_form {n : Nat} {w : World} {v : Value} {zs : List Bi} (h : BindsAt n w v zs) : ∃ x n c, v = .slice x n c := by
  rcases h.2 with ⟨h, _⟩ | ⟨b, c, h, _⟩
  · exact ⟨none, 0, 0, h⟩
  · exact ⟨_, _, _, h⟩
set_option maxRecDepth 100000 in
set_option maxHeartbeats 4000000 in
theorem past_any (w : World) (m o : Option Addr) (ba oa : Option Addr) (bl bc ol oc : Nat) (r t : Int) :
    Calls Try.prog 93 #[.agg #[.pointer m, .slice ba bl bc, .pointer o, .slice oa ol oc, .int .i64 r, .int .i64 t]] w fun x w' => x = .returned (.agg #[.pointer o, .slice oa ol oc, .pointer o, .slice oa ol oc, .int .i64 r, .int .i64 t]) ∧ Kept w w' := by
  go_enter Try.func93, Try.ntmps93
  go_wp2
  simp [bodyPost, results, Try.f93, go_sem]
  exact ((Kept.refl w).alloc _).alloc _
theorem bool_info : (Try.prog.info? 4).map (fun i => (i.zero, i.size, i.bytes)) = some (some (.bool false), 1, 1) := by kernel_rfl
theorem ans_info : (Try.prog.info? 124).map (fun i => (i.zero, i.size, i.bytes)) = some (some (.agg #[.int .i64 0, .int .i64 0, .int .i64 0, .int .i64 0]), 4, 32) := by kernel_rfl
theorem made_ans (n : Nat) (h : n ≤ 100000) : ∀ w : World, (Instr.makeSlice 151 (.int .i64 (n : Int)) (.int .i64 (n : Int))).run Try.prog w = .ok (.slice (some ⟨w.heap.size, 0, none⟩) n n) (w.alloc (.cells (madeCells #[.int .i64 0, .int .i64 0, .int .i64 0, .int .i64 0] (n * 4)) 124)) := by
  intro w
  obtain ⟨i0, hi0, hz0, hz1, hz2⟩ := info_parts ans_info
  have := run_make (P := Try.prog) w 151 124 i0 _ Try.underlying151 hi0 hz0 .i64 .i64 (n : Int) (n : Int) (by omega) (by omega) (by rw [hz2]; omega) (by omega)
  rw [hz1] at this
  simpa [Value.cells] using this
theorem made_one (v : Value) (n : Nat) : madeCells #[v] n = (List.replicate n v).toArray := by
  apply Array.ext
  · simp [madeCells]
  · intro i h1 h2
    simp [madeCells, Nat.mod_one]
theorem bools_made (n : Nat) : madeCells #[.bool false] n = bools (List.replicate n false) := by
  rw [made_one]; simp [bools]
theorem anss_made (n : Nat) : madeCells #[.int .i64 0, .int .i64 0, .int .i64 0, .int .i64 0] (n * 4) = anss (List.replicate n ⟨0, 0, 0, 0⟩) := by
  have e : anss (List.replicate n ⟨0, 0, 0, 0⟩) = (List.replicate (n * 4) (Value.int .i64 0)).toArray := by
    unfold anss
    congr 1
    induction n with
    | zero => rfl
    | succ n ih => rw [List.replicate_succ, List.flatMap_cons, ih, show (n + 1) * 4 = n * 4 + 1 + 1 + 1 + 1 by omega, List.replicate_succ, List.replicate_succ, List.replicate_succ, List.replicate_succ]; rfl
  rw [e]
  apply Array.ext
  · simp [madeCells]
  · intro i h1 h2
    have hm : i % 4 = 0 ∨ i % 4 = 1 ∨ i % 4 = 2 ∨ i % 4 = 3 := by omega
    rcases hm with h | h | h | h <;> simp [madeCells, h]
/-- The reckoner under way: of j times its rows are made. -/
def nwCells (lv mv bv ov obv : Value) (E : Env) (q n j : Nat) : Array Value :=
  #[lv, mv, bv, ov, obv, .int .i64 E.res, .int .i64 E.t, ov, obv, ov, obv, .int .i64 E.res, .int .i64 E.t, if 0 < j then .slice (some ⟨q + 1, 0, none⟩) n n else .slice none 0 0, if 1 < j then .slice (some ⟨q + 3, 0, none⟩) n n else .slice none 0 0, if 0 < j then .slice (some ⟨q + 2, 0, none⟩) n n else .slice none 0 0, if 1 < j then .slice (some ⟨q + 4, 0, none⟩) n n else .slice none 0 0]
structure NwAt (w wx : World) (q : Nat) (lv mv bv ov obv : Value) (E : Env) (n j : Nat) : Prop where
  kept : Kept w wx
  lo : w.heap.size ≤ q
  size : wx.heap.size = q + 1 + 2 * j
  box : wx.heap[q]? = some (.cells (nwCells lv mv bv ov obv E q n j) 154 (0, 0))
  rows : ∀ t, t < j → wx.heap[q + 1 + 2 * t]? = some (.cells (bools (List.replicate n false)) 4 (0, 0)) ∧ wx.heap[q + 2 + 2 * t]? = some (.cells (anss (List.replicate n ⟨0, 0, 0, 0⟩)) 124 (0, 0))
theorem size_set (w : World) (p : Addr) (u : Value) : (w.setCell p u).heap.size = w.heap.size := by simp [World.setCell]
theorem size_new (w : World) (o : Obj) : (w.alloc o).heap.size = w.heap.size + 1 := by simp
theorem nw_step {w wx : World} {q : Nat} {lv mv bv ov obv : Value} {E : Env} {n j : Nat} (H : NwAt w wx q lv mv bv ov obv E n j) (hj : j < 2) {o1 o2 g1 g2 : Nat} (e1 : o1 = 13 + j) (e2 : o2 = 15 + j) (e3 : g1 = q + 1 + 2 * j) (e4 : g2 = q + 2 + 2 * j) :
    NwAt w ((((((wx.setCell ⟨q, o1, none⟩ (.slice (some ⟨g1, 0, none⟩) n n)).setCell ⟨q, o2, none⟩ (.slice (some ⟨g2, 0, none⟩) n n)).alloc (.cells (madeCells #[.bool false] n) 4)).alloc (.cells (madeCells #[.int .i64 0, .int .i64 0, .int .i64 0, .int .i64 0] (n * 4)) 124)).drew).drew) q lv mv bv ov obv E n (j + 1) := by
  subst e1 e2 e3 e4
  have h1 := heap_setCell_same wx q (13 + j) _ _ (.slice (some ⟨q + 1 + 2 * j, 0, none⟩) n n) H.box
  have h3 := heap_setCell_same _ q (15 + j) _ _ (.slice (some ⟨q + 2 + 2 * j, 0, none⟩) n n) h1
  have ho : ∀ k, k ≠ q → ((wx.setCell ⟨q, 13 + j, none⟩ (.slice (some ⟨q + 1 + 2 * j, 0, none⟩) n n)).setCell ⟨q, 15 + j, none⟩ (.slice (some ⟨q + 2 + 2 * j, 0, none⟩) n n)).heap[k]? = wx.heap[k]? := fun k hk => by
    rw [heap_setCell_other _ _ _ _ hk, heap_setCell_other _ _ _ _ hk]
  have k1 : Kept w ((wx.setCell ⟨q, 13 + j, none⟩ (.slice (some ⟨q + 1 + 2 * j, 0, none⟩) n n)).setCell ⟨q, 15 + j, none⟩ (.slice (some ⟨q + 2 + 2 * j, 0, none⟩) n n)) := (Below.setCell H.kept (p := ⟨q, 13 + j, none⟩) H.lo _).setCell (p := ⟨q, 15 + j, none⟩) H.lo _
  have z1 : ((wx.setCell ⟨q, 13 + j, none⟩ (.slice (some ⟨q + 1 + 2 * j, 0, none⟩) n n)).setCell ⟨q, 15 + j, none⟩ (.slice (some ⟨q + 2 + 2 * j, 0, none⟩) n n)).heap.size = q + 1 + 2 * j := by rw [← H.size, size_set, size_set]
  generalize (wx.setCell ⟨q, 13 + j, none⟩ (.slice (some ⟨q + 1 + 2 * j, 0, none⟩) n n)).setCell ⟨q, 15 + j, none⟩ (.slice (some ⟨q + 2 + 2 * j, 0, none⟩) n n) = w1 at *
  obtain ⟨n2, n4, kk⟩ := two w1 (.cells (madeCells #[.bool false] n) 4) (.cells (madeCells #[.int .i64 0, .int .i64 0, .int .i64 0, .int .i64 0] (n * 4)) 124)
  have z4 : ((w1.alloc (.cells (madeCells #[.bool false] n) 4)).alloc (.cells (madeCells #[.int .i64 0, .int .i64 0, .int .i64 0, .int .i64 0] (n * 4)) 124)).heap.size = w1.heap.size + 1 + 1 := by rw [size_new, size_new]
  generalize (w1.alloc (.cells (madeCells #[.bool false] n) 4)).alloc (.cells (madeCells #[.int .i64 0, .int .i64 0, .int .i64 0, .int .i64 0] (n * 4)) 124) = w4 at *
  rw [z1] at n2 n4 z4
  have st : ∀ k, k < q + 1 + 2 * j → w4.heap[k]? = w1.heap[k]? := fun k hk => Below.block kk k (by omega)
  refine ⟨(k1.trans kk).drew.drew, H.lo, by show w4.heap.size = _; omega, ?_, fun t ht => ?_⟩
  · show w4.heap[q]? = _
    rw [st q (by omega), h3]
    rcases (show j = 0 ∨ j = 1 by omega) with rfl | rfl <;> simp [nwCells]
  · show w4.heap[_]? = _ ∧ w4.heap[_]? = _
    by_cases htj : t = j
    · subst htj
      refine ⟨?_, ?_⟩
      · rw [n2, bools_made]
      · rw [show q + 2 + 2 * t = q + 1 + 2 * t + 1 by omega, n4, anss_made]
    · obtain ⟨r1, r2⟩ := H.rows t (by omega)
      refine ⟨?_, ?_⟩
      · rw [st _ (by omega), ho _ (by omega), r1]
      · rw [st _ (by omega), ho _ (by omega), r2]
theorem nw_done {w wx : World} {q : Nat} {lv mv bv ov obv : Value} {l : List Ex} {E : Env} (H : NwAt w wx q lv mv bv ov obv E l.length 2) (hL : ListAt w lv l) (hE : EnvAt w mv bv ov obv E) :
    Rk w wx q lv mv bv ov obv l E (fun t => q + 1 + 2 * t) (fun t => q + 2 + 2 * t) (fun _ => List.replicate l.length false) (fun _ => List.replicate l.length ⟨0, 0, 0, 0⟩) := by
  have hlo := H.lo
  refine ⟨H.kept, H.lo, fun t ht => ⟨by omega, by omega⟩, ?_, fun t ht => (H.rows t ht).1, fun t ht => (H.rows t ht).2, fun t ht => by simp, fun t ht => by simp, ⟨by omega, by omega⟩, hL, hE⟩
  rw [H.box]; simp [nwCells, rkCells]
set_option maxRecDepth 100000 in
set_option maxHeartbeats 4000000 in
theorem newReckoner_any (w : World) (lv mv bv ov obv : Value) (l : List Ex) (E : Env) (hL : ListAt w lv l) (hE : EnvAt w mv bv ov obv E) :
    Calls Try.prog 84 #[lv, envVal mv bv ov obv E] w fun x w' => ∃ q g h, x = .returned (.pointer (some ⟨q, 0, none⟩)) ∧ Hid (Rk w w' q lv mv bv ov obv l E g h (fun _ => List.replicate l.length false) (fun _ => List.replicate l.length ⟨0, 0, 0, 0⟩)) := by
  obtain ⟨la, lc, hlv⟩ := hL.form
  obtain ⟨m, hm⟩ := hE.mem.form
  obtain ⟨o, ho⟩ := hE.old.form
  obtain ⟨ba, bl, bc, hb⟩ := binds_form hE.binds
  obtain ⟨oa, ol, oc, hob⟩ := binds_form hE.olds
  have hn := hL.1
  subst hlv hm ho hb hob
  have HH := Lib.hid (And.intro hL hE)
  clear hL hE
  unfold envVal
  go_enter Try.func84, Try.ntmps84
  go_upto_region 1 with fail
  have x0 := World.alloc_heap_new w (.cells #[.pointer m, .slice ba bl bc, .pointer o, .slice oa ol oc, .int .i64 E.res, .int .i64 E.t] 49)
  have kW := (Kept.refl w).alloc (.cells #[.pointer m, .slice ba bl bc, .pointer o, .slice oa ol oc, .int .i64 E.res, .int .i64 E.t] 49)
  generalize w.alloc (.cells #[.pointer m, .slice ba bl bc, .pointer o, .slice oa ol oc, .int .i64 E.res, .int .i64 E.t] 49) = W at *
  go_region_held3 (fun w' => w'.cell? ⟨w.heap.size, 0, none⟩ = some (.pointer m) ∧ w'.cell? ⟨w.heap.size, 1, none⟩ = some (.slice ba bl bc) ∧ w'.cell? ⟨w.heap.size, 2, none⟩ = some (.pointer o) ∧ w'.cell? ⟨w.heap.size, 3, none⟩ = some (.slice oa ol oc) ∧ w'.cell? ⟨w.heap.size, 4, none⟩ = some (.int .i64 E.res) ∧ w'.cell? ⟨w.heap.size, 5, none⟩ = some (.int .i64 E.t))
    (first | exact ⟨bx_cell x0 0 _ rfl, bx_cell x0 1 _ rfl, bx_cell x0 2 _ rfl, bx_cell x0 3 _ rfl, bx_cell x0 4 _ rfl, bx_cell x0 5 _ rfl⟩ | go_keep | exact CC.out)
    ((go_at_call 93; refine (past_any _ _ _ _ _ _ _ _ _ _ _).mono ?_; rintro e w1 ⟨rfl, k1⟩; have hy := kh x0 ((Kept.refl W).drew.trans k1); have CC := Lib.hid (And.intro (bx_cell hy 0 _ rfl) (And.intro (bx_cell hy 1 _ rfl) (And.intro (bx_cell hy 2 _ rfl) (And.intro (bx_cell hy 3 _ rfl) (And.intro (bx_cell hy 4 _ rfl) (bx_cell hy 5 _ rfl)))))); have K1 := Lib.hid (kW.trans ((Kept.refl W).drew.trans k1)); clear k1 hy))
  have xq := World.alloc_heap_new w1 (.cells #[.slice la l.length lc, .pointer m, .slice ba bl bc, .pointer o, .slice oa ol oc, .int .i64 E.res, .int .i64 E.t, .pointer o, .slice oa ol oc, .pointer o, .slice oa ol oc, .int .i64 E.res, .int .i64 E.t, .slice none 0 0, .slice none 0 0, .slice none 0 0, .slice none 0 0] 154)
  have kq := K1.out.alloc (.cells #[.slice la l.length lc, .pointer m, .slice ba bl bc, .pointer o, .slice oa ol oc, .int .i64 E.res, .int .i64 E.t, .pointer o, .slice oa ol oc, .pointer o, .slice oa ol oc, .int .i64 E.res, .int .i64 E.t, .slice none 0 0, .slice none 0 0, .slice none 0 0, .slice none 0 0] 154)
  have hsz : (w1.alloc (.cells #[.slice la l.length lc, .pointer m, .slice ba bl bc, .pointer o, .slice oa ol oc, .int .i64 E.res, .int .i64 E.t, .pointer o, .slice oa ol oc, .pointer o, .slice oa ol oc, .int .i64 E.res, .int .i64 E.t, .slice none 0 0, .slice none 0 0, .slice none 0 0, .slice none 0 0] 154)).heap.size = w1.heap.size + 1 := by simp
  have hlo := K1.out.size
  generalize (w1.alloc (.cells #[.slice la l.length lc, .pointer m, .slice ba bl bc, .pointer o, .slice oa ol oc, .int .i64 E.res, .int .i64 E.t, .pointer o, .slice oa ol oc, .pointer o, .slice oa ol oc, .int .i64 E.res, .int .i64 E.t, .slice none 0 0, .slice none 0 0, .slice none 0 0, .slice none 0 0] 154)) = W2 at *
  generalize w1.heap.size = q at *
  have H2 : Hid (NwAt w W2 q (.slice la l.length lc) (.pointer m) (.slice ba bl bc) (.pointer o) (.slice oa ol oc) E l.length 0) := Lib.hid ⟨kq, hlo, by simpa using hsz, xq, fun t ht => absurd ht (Nat.not_lt_zero _)⟩
  clear xq kq hsz K1 CC x0 kW
  have hm1 := run_make_row' (P := Try.prog) 37 4 (.bool false) 1 Try.underlying37 bool_info rfl .i64 .i64 l.length (by omega) (by omega)
  have hm2 := made_ans l.length (by omega)
  go_wp2
  go_loopg [14] 2 (fun k i wx => ∃ j : Nat, i = .int .i64 (j : Int) ∧ k = 2 - j ∧ j ≤ 2 ∧ Hid (NwAt w wx q (.slice la l.length lc) (.pointer m) (.slice ba bl bc) (.pointer o) (.slice oa ol oc) E l.length j))
  case atStart => exact ⟨0, rfl, rfl, by omega, H2⟩
  case round =>
    clear H2
    obtain ⟨j, rfl, rfl, hj, HN⟩ := hrel
    have hB := HN.out.box
    have hz := HN.out.size
    have f13 := bx_froz hB
    rcases (show j = 0 ∨ j = 1 ∨ j = 2 by omega) with rfl | rfl | rfl
    · have c13 := bx_cell hB 13 _ rfl
      have c15 := bx_cell hB 15 _ rfl
      simp only [nwCells] at c13 c15
      have hqs : q < wr.heap.size := by omega
      clear hB
      go_wp2
      go_region
      go_wp2
      go_region
      go_wp2
      go_roundg 1
      case measure => omega
      case rel => exact ⟨1, rfl, rfl, by omega, Lib.hid (nw_step HN.out (by omega) rfl rfl (by omega) (by omega))⟩
    · have c14 := bx_cell hB 14 _ rfl
      have c16 := bx_cell hB 16 _ rfl
      simp only [nwCells] at c14 c16
      have hqs : q < wr.heap.size := by omega
      clear hB
      go_wp2
      go_region
      go_wp2
      go_region
      go_wp2
      go_roundg 0
      case measure => omega
      case rel => exact ⟨2, rfl, rfl, by omega, Lib.hid (nw_step HN.out (by omega) rfl rfl (by omega) (by omega))⟩
    · clear hB
      go_wp2
      go_ret
      exact ⟨q, _, _, rfl, Lib.hid (nw_done HN.out HH.out.1 HH.out.2)⟩
end Go.Proofs.Ythjnkjekidagiaa.Evl
