/-
  Proved: the statement 'ParseOrderCardSaid' of the seat: for every input that law returns true, and each argument reads afterwards as it read before; the three package variables that its row lists are tied to the program's text. No condition of ours.
-/
import Derived.Test.YtnnpdilngmciaaaGreatDoorRows
import Derived.Test.YtnnpdilngmciaaaGreatDoorTie
import Derived.Test.YtnnpdilngmciaaaGreatDoorCards
import Derived.Test.YtnnpdilngmciaaaGreatDoorLexR
import Derived.ChangeMaps5
import Derived.ChangeSlices
import Derived.ChangeOld
import Derived.Deep.Grids
import Derived.Test.YtnnpdilngmciaaaGreatDoorPrsW
import Derived.Test.YtnnpdilngmciaaaGreatDoorPrsY
import Derived.Test.YtnnpdilngmciaaaGreatDoorCell
import Derived.OwnWalk
import Derived.StillTailTactics
namespace Go.Proofs.YtnnpdilngmciaaaGreatDoor.parseOrder
open Go.RowKit Go.ChangeShapes Go.WideShapes Go.ChangeAt
open Go.ChangeMaps (open_string shut_string)
open Lex (Laid lst)
theorem laidOut : laidOutB Tryz.prog = true := by kernel_rfl
/-- A slice of integers that came in. -/
def IsRow (k : IntKind) (w : World) (a : Option Addr) (len cap : Nat) (zs : List Int) : Prop :=
  (a = none ∧ len = 0 ∧ cap = 0 ∧ zs = []) ∨ ∃ x, a = some x ∧ len ≤ cap ∧ cap ≤ maxLen ∧ zs.length = cap ∧ (∀ i, i < zs.length → w.cell? (x.add i) = some (.int k (zs.getD i 0))) ∧ ∀ n ∈ zs, (Lit.int k n).wf = true
/-- A slice of bools that came in. -/
def IsRowB (w : World) (a : Option Addr) (len cap : Nat) (B : Nat → Bool) : Prop :=
  (a = none ∧ len = 0 ∧ cap = 0) ∨ ∃ x, a = some x ∧ len ≤ cap ∧ cap ≤ maxLen ∧ ∀ i, i < cap → w.cell? (x.add i) = some (.bool (B i))
open Lex Prs
theorem lst_app (a b : ByteArray) : lst (a ++ b) = lst a ++ lst b := by unfold lst; simp [ByteArray.data_append]
theorem lst_size (a : ByteArray) : (lst a).length = a.size := lst_length a
theorem add_is (b off i : Nat) : (⟨b, off, none⟩ : Addr).add i = ⟨b, off + i, none⟩ := by unfold Addr.add; split <;> simp_all
theorem wrapS (n : Int) (h : -1000000 ≤ n ∧ n ≤ 1000000) : IntKind.i64.wrap n = n := by simp [IntKind.wrap, IntKind.bits, IntKind.signed]; omega
def headT (g : Nat → Nat) : Nat → List UInt8
  | 0 => [49]
  | i + 1 => headT g i ++ (32 :: sg (g (i + 1)) ++ [32, 49])
theorem headT_ord (g : Nat → Nat) (m : Nat) (os : List Nat) : headT g m ++ 32 :: ordT os = 49 :: 32 :: ordT ((List.range m).map (fun j => g (j + 1)) ++ os) := by
  induction m generalizing os with
  | zero => rfl
  | succ m ih =>
    have := ih (g (m + 1) :: os)
    simp only [headT, ordT, List.range_succ, List.map_append, List.append_assoc, List.cons_append, List.nil_append, List.map_cons, List.map_nil] at this ⊢
    exact this
theorem sg_len {o : Nat} (h : o < 10) : (sg o).length ≤ 2 := by rcases ten h with rfl | rfl | rfl | rfl | rfl | rfl | rfl | rfl | rfl | rfl <;> decide
theorem headT_len {g : Nat → Nat} (hg : ∀ i, g i < 10) (m : Nat) : (headT g m).length ≤ 5 * m + 1 := by
  induction m with
  | zero => simp [headT]
  | succ m ih => have := sg_len (hg (m + 1)); simp [headT]; omega
/-- The three tables are made. -/
structure OrdW (w wx : World) : Prop where
  kept : Kept w wx
  t0 : wx.heap[w.heap.size]? = some (.cells #[.string ⟨#[38]⟩, .string ⟨#[124]⟩, .string ⟨#[94]⟩, .string ⟨#[60, 60]⟩, .string ⟨#[62, 62]⟩, .string ⟨#[43]⟩, .string ⟨#[45]⟩, .string ⟨#[42]⟩, .string ⟨#[47]⟩, .string ⟨#[37]⟩] 9 (0, 0))
  t1 : wx.heap[w.heap.size + 1]? = some (.cells #[.int .i64 13, .int .i64 14, .int .i64 15, .int .i64 16, .int .i64 17, .int .i64 8, .int .i64 9, .int .i64 10, .int .i64 11, .int .i64 12] 3 (0, 0))
  t2 : wx.heap[w.heap.size + 1 + 1]? = some (.cells #[.int .i64 0, .int .i64 0, .int .i64 0, .int .i64 1, .int .i64 1, .int .i64 2, .int .i64 2, .int .i64 3, .int .i64 3, .int .i64 3] 3 (0, 0))
theorem OrdW.sign {w wx : World} (h : OrdW w wx) {o : Nat} (ho : o < 10) : wx.cell? ⟨w.heap.size, o, none⟩ = some (.string ⟨(sg o).toArray⟩) := by
  rcases ten ho with rfl | rfl | rfl | rfl | rfl | rfl | rfl | rfl | rfl | rfl <;> exact box_cell h.t0 _ _ rfl
theorem OrdW.kind {w wx : World} (h : OrdW w wx) {o : Nat} (ho : o < 10) : wx.cell? ⟨w.heap.size + 1, o, none⟩ = some (.int .i64 (kindO o)) := by
  rcases ten ho with rfl | rfl | rfl | rfl | rfl | rfl | rfl | rfl | rfl | rfl <;> exact box_cell h.t1 _ _ rfl
theorem OrdW.rank {w wx : World} (h : OrdW w wx) {o : Nat} (ho : o < 10) : wx.cell? ⟨w.heap.size + 1 + 1, o, none⟩ = some (.int .i64 (rk o)) := by
  rcases ten ho with rfl | rfl | rfl | rfl | rfl | rfl | rfl | rfl | rfl | rfl <;> exact box_cell h.t2 _ _ rfl
theorem OrdW.on {w wx wy : World} (h : OrdW w wx) (k : Kept wx wy) : OrdW w wy :=
  ⟨h.kept.trans k, (Below.block k _ (box_lt h.t0)).trans h.t0, (Below.block k _ (box_lt h.t1)).trans h.t1, (Below.block k _ (box_lt h.t2)).trans h.t2⟩
structure OrdAt (g : Nat → Nat) (N k : Nat) (s i : Value) (n : Nat) (S : ByteArray) : Prop where
  hk : k = N - n
  hi : i = .int .i64 n
  h1 : 1 ≤ n
  hn : n ≤ N
  hs : s = .string S
  hS : lst S = headT g (n - 1)
/-- The root so far: the last one of the least rank. -/
structure RootAt (g : Nat → Nat) (N k : Nat) (r i : Value) (n m : Nat) : Prop where
  hk : k = N - n
  hi : i = .int .i64 n
  h1 : 1 ≤ n
  hn : n ≤ N
  hr : r = .int .i64 m
  h1r : 1 ≤ m
  hrN : m < N
  hlo : ∀ j, 1 ≤ j → j < m → j < n → rk (g m) ≤ rk (g j)
  hhi : ∀ j, m < j → j < n → rk (g m) < rk (g j)
  h0 : n = 1 → m = 1
  hmn : 1 < n → m < n
theorem OrdW.made (w : World) : OrdW w (((w.alloc (.cells #[.string ⟨#[38]⟩, .string ⟨#[124]⟩, .string ⟨#[94]⟩, .string ⟨#[60, 60]⟩, .string ⟨#[62, 62]⟩, .string ⟨#[43]⟩, .string ⟨#[45]⟩, .string ⟨#[42]⟩, .string ⟨#[47]⟩, .string ⟨#[37]⟩] 9)).alloc (.cells #[.int .i64 13, .int .i64 14, .int .i64 15, .int .i64 16, .int .i64 17, .int .i64 8, .int .i64 9, .int .i64 10, .int .i64 11, .int .i64 12] 3)).alloc (.cells #[.int .i64 0, .int .i64 0, .int .i64 0, .int .i64 1, .int .i64 1, .int .i64 2, .int .i64 2, .int .i64 3, .int .i64 3, .int .i64 3] 3)) := by
  refine ⟨(((Kept.refl w).alloc _).alloc _).alloc _, ?_, ?_, ?_⟩
  · rw [Below.heap_alloc _ _ _ (by simp; omega), Below.heap_alloc _ _ _ (by simp)]; exact heap_alloc_new w _
  · rw [Below.heap_alloc _ _ _ (by simp)]
    have := heap_alloc_new (w.alloc (.cells #[.string ⟨#[38]⟩, .string ⟨#[124]⟩, .string ⟨#[94]⟩, .string ⟨#[60, 60]⟩, .string ⟨#[62, 62]⟩, .string ⟨#[43]⟩, .string ⟨#[45]⟩, .string ⟨#[42]⟩, .string ⟨#[47]⟩, .string ⟨#[37]⟩] 9)) (.cells #[.int .i64 13, .int .i64 14, .int .i64 15, .int .i64 16, .int .i64 17, .int .i64 8, .int .i64 9, .int .i64 10, .int .i64 11, .int .i64 12] 3)
    simpa using this
  · have := heap_alloc_new ((w.alloc (.cells #[.string ⟨#[38]⟩, .string ⟨#[124]⟩, .string ⟨#[94]⟩, .string ⟨#[60, 60]⟩, .string ⟨#[62, 62]⟩, .string ⟨#[43]⟩, .string ⟨#[45]⟩, .string ⟨#[42]⟩, .string ⟨#[47]⟩, .string ⟨#[37]⟩] 9)).alloc (.cells #[.int .i64 13, .int .i64 14, .int .i64 15, .int .i64 16, .int .i64 17, .int .i64 8, .int .i64 9, .int .i64 10, .int .i64 11, .int .i64 12] 3)) (.cells #[.int .i64 0, .int .i64 0, .int .i64 0, .int .i64 1, .int .i64 1, .int .i64 2, .int .i64 2, .int .i64 3, .int .i64 3, .int .i64 3] 3)
    simpa using this
def opsOf (g : Nat → Nat) (N : Nat) : List Nat := (List.range (N - 1)).map fun j => g (j + 1)
theorem opsOf_len (g : Nat → Nat) (N : Nat) : (opsOf g N).length = N - 1 := by simp [opsOf]
theorem opsOf_get (g : Nat → Nat) (N j : Nat) (h : j < N - 1) : (opsOf g N).getD j 0 = g (j + 1) := by simp [opsOf, List.getD, h]
theorem opsOf_lt {g : Nat → Nat} (h : ∀ i, g i < 10) (N : Nat) : ∀ o ∈ opsOf g N, o < 10 := by
  intro o ho
  simp only [opsOf, List.mem_map] at ho
  obtain ⟨j, _, rfl⟩ := ho
  exact h _
/-- The root that the law finds is the one that the list has. -/
theorem root_is {g : Nat → Nat} {N m : Nat} {nodes : List Ex} (hN : 2 ≤ N) (hs : OrdSpec (opsOf g N) (N - 1) 0 nodes) (h1 : 1 ≤ m) (hm : m < N) (hlo : ∀ j, 1 ≤ j → j < m → rk (g m) ≤ rk (g j)) (hhi : ∀ j, m < j → j < N → rk (g m) < rk (g j)) :
    ∃ (M : Nat) (h : nodes.length = M + 1), M = 2 * N - 2 ∧ (nodes[M]'(by omega)).kind = kindO (g m) ∧ (nodes[M]'(by omega)).a = ((2 * m - 2 : Nat) : Int) ∧ (nodes[M]'(by omega)).b = ((2 * N - 3 : Nat) : Int) := by
  obtain ⟨r, e, hr, l1, l2, l3, l4, l5, l6⟩ := hs.last (by omega)
  have hrm : r + 1 = m := by
    rcases Nat.lt_trichotomy (r + 1) m with h | h | h
    · have a := l2 (m - 1) (by omega) (by omega)
      rw [opsOf_get _ _ _ hr, opsOf_get _ _ _ (by omega), show m - 1 + 1 = m by omega] at a
      have b := hlo (r + 1) (by omega) h
      omega
    · exact h
    · have a := l1 (m - 1) (by omega)
      rw [opsOf_get _ _ _ hr, opsOf_get _ _ _ (by omega), show m - 1 + 1 = m by omega] at a
      have b := hhi (r + 1) h (by omega)
      omega
  have hlen := hs.len
  have he : nodes[2 * N - 2]'(by omega) = e := by
    rw [List.getLast?_eq_getElem?, show nodes.length - 1 = 2 * N - 2 by omega, List.getElem?_eq_getElem (by omega)] at l3
    exact Option.some.inj l3
  refine ⟨2 * N - 2, by omega, rfl, ?_, ?_, ?_⟩
  · rw [he, l4, opsOf_get _ _ _ hr, hrm]
  · rw [he, l5]; congr 1; omega
  · rw [he, l6]; congr 1; omega
set_option maxHeartbeats 4000000 in
set_option maxRecDepth 100000 in
theorem walk (a0 : Option Addr) (len0 cap0 : Nat) (z0 : List Int) (w : World) (w0 : IsRow .u8 w a0 len0 cap0 z0) (pL pW : Addr) (hL : Laid w pL pW) : Calls Tryz.prog 3 #[.slice a0 len0 cap0] w fun e w' => e = .returned (.bool true) ∧ Hid (Kept w w') := by
  have HL := Lib.hid hL
  have HA : Hid (∀ w1, Kept w w1 → Calls Tryz.prog 7 #[] w1 fun e w' => e = .returned (.bool true) ∧ Hid (Kept w1 w')) := Lib.hid fun w1 h => Prs.awake_any w1 pL pW (HL.out.kept h)
  clear hL
  rcases w0 with ⟨rfl, rfl, rfl, rfl⟩ | ⟨⟨b, off, spot⟩, rfl, hle, hmx, hzl, hcell, hwf⟩
  · go_enter Tryz.func3, Tryz.ntmps3
    go_wp2_with (go_at_call 7; refine (HA.out _ (Kept.refl _)).mono ?_; rintro e w1 ⟨rfl, K1⟩)
    go_ret
    exact ⟨rfl, K1⟩
  by_cases h2 : len0 < 2
  · have b1 : decide ((len0 : Int) < 2) = true := by simp; omega
    go_enter Tryz.func3, Tryz.ntmps3
    go_wp2_with (go_at_call 7; refine (HA.out _ (Kept.refl _)).mono ?_; rintro e w1 ⟨rfl, K1⟩)
    go_ret
    exact ⟨rfl, K1⟩
  have b1 : decide ((len0 : Int) < 2) = false := by simp; omega
  by_cases h20 : 20 < len0
  · have b2 : decide ((20 : Int) < len0) = true := by simp; omega
    go_enter Tryz.func3, Tryz.ntmps3
    go_wp2_with (go_at_call 7; refine (HA.out _ (Kept.refl _)).mono ?_; rintro e w1 ⟨rfl, K1⟩)
    go_ret
    exact ⟨rfl, K1⟩
  have b2 : decide ((20 : Int) < len0) = false := by simp; omega
  have hspot : spot = none := by simpa [Addr.add] using World.cell?_spot (hcell 0 (by omega))
  subst hspot
  have hb : b < w.heap.size := World.block_lt_of_cell? _ _ (hcell 0 (by omega))
  obtain ⟨g, hg10, hg⟩ : ∃ g : Nat → Nat, (∀ i, g i < 10) ∧ ∀ i, i < len0 → ∃ n : Nat, w.cell? ⟨b, off + i, none⟩ = some (.int .u8 (n : Int)) ∧ n < 256 ∧ n % 10 = g i := by
    refine ⟨fun i => (z0.getD i 0).toNat % 10, fun i => Nat.mod_lt _ (by omega), fun i hi => ?_⟩
    have h1 := hcell i (by omega)
    have h3 : z0.getD i 0 ∈ z0 := by
      have : z0.getD i 0 = z0[i]'(by omega) := by simp [List.getD, List.getElem?_eq_getElem (show i < z0.length by omega)]
      rw [this]; exact List.getElem_mem _
    have h4 : 0 ≤ z0.getD i 0 ∧ z0.getD i 0 ≤ 255 := by simpa [Lit.wf, IntKind.min, IntKind.max, IntKind.signed, IntKind.bits] using hwf _ h3
    refine ⟨(z0.getD i 0).toNat, ?_, by omega, rfl⟩
    rw [show (((z0.getD i 0).toNat : Nat) : Int) = z0.getD i 0 by omega]
    rw [← add_is]; exact h1
  have HG := Lib.hid hg
  have HG10 := Lib.hid hg10
  clear hcell hwf hzl hg hg10
  go_enter Tryz.func3, Tryz.ntmps3
  go_wp2_with fail
  go_loopg [6, 7] (len0 - 1) (fun k s i wx => (∃ n S, OrdAt g len0 k s i n S) ∧ OrdW w wx)
  case atStart => exact ⟨⟨1, ⟨#[49]⟩, rfl, rfl, Nat.le_refl _, by omega, rfl, rfl⟩, OrdW.made w⟩
  case round =>
    obtain ⟨⟨n, S, hd⟩, hW⟩ := hrel
    obtain ⟨hk1, hi1, h11, hn1, hs1, hS⟩ := hd
    subst hi1 hs1
    have sS : S.size ≤ 101 := by rw [← lst_size, hS]; have := headT_len HG10.out (n - 1); omega
    have HS := Lib.hid hS
    have HW := Lib.hid hW
    have Hk1 := Lib.hid hk1
    clear hS hk1 hW
    by_cases hlt : n < len0
    case pos =>
      obtain ⟨z, hz, hz256, hzg⟩ := HG.out n hlt
      have c1 : wr.cell? ⟨b, off + n, none⟩ = some (.int .u8 (z : Int)) := (Below.cell (p := ⟨b, off + n, none⟩) HW.out.kept hb).trans hz
      have hm : (z : Int) % 10 = ((g n : Nat) : Int) := by omega
      have ho := HG10.out n
      have c2 := HW.out.sign ho
      obtain ⟨T, hT, sT⟩ : ∃ T : ByteArray, (⟨(sg (g n)).toArray⟩ : ByteArray) = T ∧ T.size ≤ 2 := ⟨_, rfl, by have := sg_len ho; simpa [ByteArray.size] using this⟩
      rw [hT] at c2
      have HT := Lib.hid hT
      have Hz := Lib.hid hzg
      clear hT hz hzg
      go_wp2_with fail
      go_roundg (len0 - (n + 1))
      case measure => have := Hk1.out; omega
      case rel =>
        refine ⟨⟨n + 1, _, rfl, by simp, by omega, by omega, rfl, ?_⟩, HW.out⟩
        obtain ⟨q, rfl⟩ : ∃ q, n = q + 1 := ⟨n - 1, by omega⟩
        simp only [lst_app, HS.out, ← HT.out]
        simp [headT, lst]
    case neg =>
      obtain rfl : n = len0 := by omega
      have hT : lst (S ++ ⟨#[32, 61, 61, 32, 48]⟩) = 49 :: 32 :: ordT (opsOf g n) := by
        have := headT_ord g (n - 1) []
        rw [List.append_nil] at this
        rw [lst_app, HS.out]; exact this
      have hlex := lexF_ord (opsOf g n) (opsOf_lt HG10.out n) (by rw [opsOf_len]; omega)
      rw [← hT] at hlex
      obtain ⟨f, c, hc, hspec⟩ := cond_ord (opsOf g n) (opsOf_lt HG10.out n)
      rw [opsOf_len] at hspec
      have HC := Lib.hid (Cond_toks wr pL pW (HL.out.kept HW.out.kept) (by rw [ByteArray.size_append, show (⟨#[32, 61, 61, 32, 48]⟩ : ByteArray).size = 5 from rfl]; omega) hlex hc)
      have Hsp := Lib.hid hspec
      clear hT hlex hc hspec
      go_upto_region 12 with (go_at_call 8; refine (HC.out).mono ?_; rintro e w2 ⟨v, rfl, H2⟩)
      obtain ⟨gc, cc, rfl, hcc, hcm, hgc, hcells⟩ := cn_cell H2.out.2 (by simp)
      obtain ⟨x, y, -, -, d2, -, -, -, -, hx, -⟩ := hcells 0 (by simp)
      simp only [List.getElem_cons_zero, Nat.zero_mul, Nat.zero_add] at d2 hx
      have hxl : c.x.length = 2 * n - 2 + 1 := by have := Hsp.out.len; omega
      obtain ⟨gx, cx, rfl, hcx, hcxm, hgx, hxcells⟩ := ex_cell hx (by omega)
      have Hxc := Lib.hid hxcells
      obtain ⟨M, hM⟩ : ∃ M, M = 2 * n - 2 := ⟨_, rfl⟩
      have hxl' : c.x.length = M + 1 := by omega
      rw [hxl'] at d2 hcx
      simp only [List.length_cons, List.length_nil, Nat.zero_add] at hcc ⊢
      have e1 : (M : Int) + 1 = 2 * (n : Int) - 1 := by omega
      have Hd2 := Lib.hid d2
      have HM := Lib.hid (And.intro hM hxl')
      clear hcells hxcells hx hM hxl hxl'
      go_wp2_with (go_at_call 9; refine (num_any _ _).mono ?_; rintro e w' ⟨rfl, rfl⟩)
      have HW2 := Lib.hid (HW.out.on H2.out.1)
      have Hgn := HG
      go_loopg [11, 12] (n - 1) (fun k r i wx => (∃ q m, RootAt g n k r i q m) ∧ Kept w2 wx)
      case atStart => exact ⟨⟨1, 1, rfl, rfl, Nat.le_refl _, by omega, rfl, Nat.le_refl _, by omega, fun j _ _ _ => by omega, fun j _ _ => by omega, fun _ => rfl, fun h => by omega⟩, Kept.refl _⟩
      case round =>
        obtain ⟨⟨q, m, hd⟩, hW⟩ := hrel
        obtain ⟨hk2, hi2, h12, hn2, hr2, h1r, hrN, hlo, hhi, hq1, hqm⟩ := hd
        subst hi2 hr2
        have HW3 := Lib.hid (HW2.out.on hW)
        have HK3 := Lib.hid hW
        have Hk2 := Lib.hid hk2
        have Hlo := Lib.hid hlo
        have Hhi := Lib.hid hhi
        have Hq := Lib.hid (And.intro hq1 hqm)
        clear hk2 hW hlo hhi hq1 hqm
        by_cases hlt2 : q < n
        case pos =>
          obtain ⟨z1, hz1, hz1l, hzg1⟩ := HG.out q hlt2
          obtain ⟨z2, hz2, hz2l, hzg2⟩ := HG.out m hrN
          have c1 : wr.cell? ⟨b, off + q, none⟩ = some (.int .u8 (z1 : Int)) := (Below.cell (p := ⟨b, off + q, none⟩) HW3.out.kept hb).trans hz1
          have c2 : wr.cell? ⟨b, off + m, none⟩ = some (.int .u8 (z2 : Int)) := (Below.cell (p := ⟨b, off + m, none⟩) HW3.out.kept hb).trans hz2
          have hm1 : (z1 : Int) % 10 = ((g q : Nat) : Int) := by omega
          have hm2 : (z2 : Int) % 10 = ((g m : Nat) : Int) := by omega
          have ho1 := HG10.out q
          have ho2 := HG10.out m
          have d3 := HW3.out.rank ho1
          have d4 := HW3.out.rank ho2
          obtain ⟨R1, hR1⟩ : ∃ R, R = rk (g q) := ⟨_, rfl⟩
          obtain ⟨R2, hR2⟩ : ∃ R, R = rk (g m) := ⟨_, rfl⟩
          rw [← hR1] at d3
          rw [← hR2] at d4
          have hRs : R1 ≤ 3 ∧ R2 ≤ 3 := by
            rw [hR1, hR2]
            constructor
            · rcases ten ho1 with e | e | e | e | e | e | e | e | e | e <;> rw [e] <;> decide
            · rcases ten ho2 with e | e | e | e | e | e | e | e | e | e <;> rw [e] <;> decide
          have HR := Lib.hid (And.intro hR1 hR2)
          clear hz1 hz2 hzg1 hzg2 hR1 hR2
          by_cases hle2 : R1 ≤ R2
          case pos =>
            have b3 : decide ((R1 : Int) ≤ (R2 : Int)) = true := by simpa using hle2
            go_upto_region 18 with fail
            go_quiet (fail)
            go_wp2_with fail
            go_roundg (n - (q + 1))
            case measure => have := Hk2.out; omega
            case rel =>
              refine ⟨⟨q + 1, q, rfl, by simp, by omega, by omega, rfl, h12, hlt2, fun j h1 h2 _ => ?_, fun j h1 h2 => by omega, fun h => by omega, fun _ => by omega⟩, HK3.out.drewN _⟩
              have hh : rk (g q) ≤ rk (g m) := by rw [← HR.out.1, ← HR.out.2]; exact hle2
              rcases Nat.lt_trichotomy j m with h | h | h
              · exact Nat.le_trans hh (Hlo.out j h1 h h2)
              · rw [h]; exact hh
              · exact Nat.le_trans hh (Nat.le_of_lt (Hhi.out j h h2))
          case neg =>
            have b3 : decide ((R1 : Int) ≤ (R2 : Int)) = false := by simpa using hle2
            go_upto_region 18 with fail
            go_quiet (fail)
            go_wp2_with fail
            go_roundg (n - (q + 1))
            case measure => have := Hk2.out; omega
            case rel =>
              have hh : rk (g m) < rk (g q) := by rw [← HR.out.1, ← HR.out.2]; omega
              have hne : m ≠ q := by intro e; rw [e] at hh; omega
              refine ⟨⟨q + 1, m, rfl, by simp, by omega, by omega, rfl, h1r, hrN, fun j h1 h2 h3 => ?_, fun j h1 h2 => ?_, fun h => by omega, fun _ => ?_⟩, HK3.out.drewN _⟩
              · rcases Nat.lt_or_ge j q with h | h
                · exact Hlo.out j h1 h2 h
                · exfalso
                  have := Hq.out
                  omega
              · rcases Nat.lt_or_ge j q with h | h
                · exact Hhi.out j h1 h
                · obtain rfl : j = q := by omega
                  exact hh
              · have := Hq.out
                omega
        case neg =>
          obtain rfl : q = n := by omega
          have hmq : m < q := Hq.out.2 (by omega)
          obtain ⟨M', hM', hMe, k1, k2, k3⟩ := root_is (N := q) (by omega) Hsp.out h1r hmq (fun j a b => Hlo.out j a b (by omega)) Hhi.out
          obtain rfl : M' = M := by have := HM.out.1; omega
          have hxl' := HM.out.2
          have hM40 : M' ≤ 38 := by omega
          have x0 : wr.cell? ⟨gx, M' * 7, none⟩ = some (.int .i64 (kindO (g m))) := (Below.cell (p := ⟨gx, M' * 7, none⟩) HK3.out hgx).trans (by rw [← k1]; exact (Hxc.out M' (by omega)).1)
          have x4 : wr.cell? ⟨gx, M' * 7 + 4, none⟩ = some (.int .i64 (2 * (m : Int) - 2)) := (Below.cell (p := ⟨gx, M' * 7 + 4, none⟩) HK3.out hgx).trans (by rw [show 2 * (m : Int) - 2 = ((2 * m - 2 : Nat) : Int) by omega, ← k2]; exact (Hxc.out M' (by omega)).2.1)
          have x5 : wr.cell? ⟨gx, M' * 7 + 5, none⟩ = some (.int .i64 (2 * (q : Int) - 3)) := (Below.cell (p := ⟨gx, M' * 7 + 5, none⟩) HK3.out hgx).trans (by rw [show 2 * (q : Int) - 3 = ((2 * q - 3 : Nat) : Int) by omega, ← k3]; exact (Hxc.out M' (by omega)).2.2)
          have d2 : wr.cell? ⟨gc, 2, none⟩ = some (.slice (some ⟨gx, 0, none⟩) (M' + 1) cx) := (Below.cell (p := ⟨gc, 2, none⟩) HK3.out hgc).trans Hd2.out
          obtain ⟨z2, hz2, hz2l, hzg2⟩ := HG.out m hrN
          have c2 : wr.cell? ⟨b, off + m, none⟩ = some (.int .u8 (z2 : Int)) := (Below.cell (p := ⟨b, off + m, none⟩) HW3.out.kept hb).trans hz2
          have hm2 : (z2 : Int) % 10 = ((g m : Nat) : Int) := by omega
          have ho2 := HG10.out m
          have d4 := HW3.out.kind ho2
          obtain ⟨KO, hKO⟩ : ∃ R, R = kindO (g m) := ⟨_, rfl⟩
          rw [← hKO] at d4 x0
          have hK17 : KO ≤ 17 := by rw [hKO]; rcases ten ho2 with e | e | e | e | e | e | e | e | e | e <;> rw [e] <;> decide
          have HKw := Lib.hid (HW3.out.kept)
          have HAd := Lib.hid (HA.out wr.drew (HKw.out.drew))
          clear hKO k1 k2 k3 hz2 hzg2 hlt2 e1 hxl' hMe hM'
          go_upto_region 21 with fail
          refine wp_region_still_tail 45 (by kernel_rfl) (by kernel_rfl) ?_
          change wpStill _ _ wr.drew (fun a' => wpList _ _ _ _ a' wr.drew) _ _
          have x0 : wr.drew.cell? ⟨gx, M' * 7, none⟩ = some (.int .i64 (KO : Int)) := x0
          have x4 : wr.drew.cell? ⟨gx, M' * 7 + 4, none⟩ = some (.int .i64 (2 * (m : Int) - 2)) := x4
          have x5 : wr.drew.cell? ⟨gx, M' * 7 + 5, none⟩ = some (.int .i64 (2 * (q : Int) - 3)) := x5
          have c2 : wr.drew.cell? ⟨b, off + m, none⟩ = some (.int .u8 (z2 : Int)) := c2
          have d4 : wr.drew.cell? ⟨w.heap.size + 1, g m, none⟩ = some (.int .i64 (KO : Int)) := d4
          have HKd := Lib.hid (HKw.out.drew)
          have v1 := wrapS (M' : Int) (by omega)
          have v2 := wrapS (2 * (q : Int)) (by omega)
          have v3 := wrapS (2 * (q : Int) - 3) (by omega)
          have v4 := wrapS (2 * (m : Int)) (by omega)
          have v5 := wrapS (2 * (m : Int) - 2) (by omega)
          have v6 := wrapS (z2 : Int) (by omega)
          have v7 := wrapS ((g m : Nat) : Int) (by omega)
          have v8 : (z2 : Int).tmod 10 = ((g m : Nat) : Int) := by rw [Int.tmod_eq_emod_of_nonneg (by omega)]; exact hm2
          have v9 : (M' : Int) < (M' : Int) + 1 := by omega
          have v10 : (m : Int) < (q : Int) := by omega
          have v11 : ((g m : Nat) : Int) < 10 := by omega
          generalize wr.drew = wd at *
          simp only [List.take_succ_cons, List.take_zero, List.drop_succ_cons, List.drop_zero]
          repeat still_step
          refine wpStill_nil ?_
          go_wp2_with (first | (go_at_call 7; refine (HAd.out).mono ?_; rintro e w6 ⟨rfl, Hk6⟩))
          go_ret
          exact ⟨rfl, Lib.hid (HKd.out.trans Hk6.out)⟩

set_option maxRecDepth 100000 in
theorem lifted (os : Os) (started : os.Started) (H : Type) (enc : TypeId × Value → H) :
    ReturnsInHanded {} Tryz.checked os 3 .any (fun w args => (Rows.parseOrderSpec.pre enc Tryz.prog Tryz.f3 [] false w args ∧ laidMetH Tryz.prog Lex.laid3 w) ∧ sizedMet enc Tryz.prog Tryz.f3 (OpenSpec.ofChange Rows.parseOrderSpec) false w args)
      (Rows.parseOrderSpec.post enc Tryz.prog Tryz.f3 false true false false) := by
  refine returnsInHanded_of_change_and (C := Tryz.checked) (X := fun w _ => laidMetH Tryz.prog Lex.laid3 w) (fun _ _ _ hh h => h.of_heap hh) Lex.own started (by kernel_rfl) Tryz.func3
    (ChangeSpec.witness_shaped (enc := enc) (C := Tryz.checked) (os := os) (X := fun w _ => laidMetH Tryz.prog Lex.laid3 w) false (World.doorLaid Tryz.prog 400 os) #[.slice none 0 0] 8 rfl (World.shaped_of_RefB (by kernel_rfl) (by kernel_rfl)) (by kernel_rfl) (by kernel_rfl) (by kernel_rfl) (Lex.door_met os _)) ?_
  intro W base args ds gs before hval0 hW _ _ hL _
  have hval : ∀ (j : Nat) t v, Tryz.f3.params[j]? = some t → args[j]? = some v → Value.okWide Tryz.prog W .any base t v := hval0
  have hW' := hW
  obtain ⟨p, q, hA0, hV, rfl, hfz, hnd⟩ := hW
  have hA : DataW.TrodAll enc Tryz.prog W 0 (fun _ => true) true Tryz.f3.params.toList args.toList ds p := hA0
  rw [Tryz.params3] at hA hval
  obtain ⟨v0, vs0, d0, ds0, p0, q0, hargs, rfl, rfl, h0, r0⟩ := trodAll_cons hA
  obtain ⟨rfl, rfl, rfl⟩ := trodAll_nil r0
  obtain rfl : args = #[v0] := by cases args; simp_all
  obtain ⟨rfl, rfl⟩ := trodVars_none hV
  obtain ⟨a0, len0, cap0, rfl⟩ := okWide_slice Tryz.underlying22 (hval 0 22 v0 rfl rfl)
  have k0 := h0
  have lt0 : ∀ x ∈ p0, x.block < W.heap.size := by obtain ⟨m, hm⟩ := k0; exact DataW.trod_lt m _ _ _ hm
  obtain ⟨z0, w0⟩ : ∃ zs, IsRow .u8 W a0 len0 cap0 zs := by
    obtain ⟨fuel, hf⟩ := h0
    rcases open_ints Tryz.underlying22 Tryz.underlying5 (by kernel_rfl) hf with ⟨hcs, _⟩ | ⟨x, l, c, zs, hcs, _, hl, hm, hz, _, hcell, hwz⟩
    · simp [Value.cells] at hcs
      obtain ⟨rfl, rfl, rfl⟩ := hcs
      exact ⟨[], .inl ⟨rfl, rfl, rfl, rfl⟩⟩
    · simp [Value.cells] at hcs
      obtain ⟨rfl, rfl, rfl⟩ := hcs
      exact ⟨zs, .inr ⟨_, rfl, hl, hm, by simpa using hz, hcell, hwz⟩⟩
  obtain ⟨pL, pW, hl⟩ := Lex.of_laid hL
  clear hA0 hval0
  refine (walk a0 len0 cap0 z0 W w0 pL pW hl).mono fun e W' ⟨he, hg⟩ => ?_
  subst he
  have bel : Below W.heap.size W W' := hg.out
  exact ⟨_, rfl, _, _, _, [], _, [], hW', trodAll_mk1 (shut_bool Tryz.underlying4 _), (trodAll_cons_mk (Below.trod laidOut (by kernel_rfl) (of_decide_eq_true (by kernel_rfl)) k0 bel lt0) trodAll_mk0), rfl, bel.frame _, fun h => by cases h⟩

theorem over : Rows.parseOrderRow.holds Tryz.pinned (OpenSpec.ofChange Rows.parseOrderSpec) :=
  OpenClaim.holds_of_wide 3 Tryz.f3 rfl rfl rfl rfl rfl rfl rfl ⟨rfl, rfl, rfl, rfl, rfl⟩ rfl rfl rfl rfl rfl (by kernel_rfl) Tryz.func3 (by kernel_rfl)
    (of_decide_eq_true (by kernel_rfl)) (by unfold Func.isWrapper; first | (rw [if_pos (by decide +kernel)]; kernel_rfl) | (rw [if_neg (by decide +kernel)]; exact ⟨rfl, rfl⟩))
    (fun os started H enc _ => lifted os started H enc)

/-- THE STATEMENT. -/
theorem proved : Rows.ParseOrderCardSaid :=
  Claim7.holds_tied_plain_at .later [] [.handle, .sentinel, .sentinel] true (true, "b29023782759429078f4317209754d0c5e767d3945c27fe810a7cb84ae0c08df") true
    over (fun _ h => by cases h) (by kernel_rfl) (fun _ h => by cases h) parseOrder_row_tie rfl ⟨rfl, rfl⟩ (by kernel_rfl) rfl
    (fun f fn hf hfn => by
      obtain rfl : f = 3 := Option.some.inj ((show Tryz.prog.funcNamed "calliper/calliperlaw3.ParseOrder" = some 3 by kernel_rfl).symm.trans hf) |>.symm
      obtain rfl : fn = Tryz.f3 := (Option.some.inj (Tryz.func3.symm.trans hfn)).symm
      exact ⟨by kernel_rfl, fun j t ht => by
        rw [Tryz.params3] at ht
        have hm : t ∈ [22] := by simpa using Array.mem_of_getElem? ht
        have hall : ([22].all fun u => !Tryz.prog.wantsStandIn u) = true := by kernel_rfl
        exact (show Tryz.prog.wantsStandIn t = false by simpa using List.all_eq_true.1 hall t hm)⟩)
    (by kernel_rfl)
#print axioms proved
end Go.Proofs.YtnnpdilngmciaaaGreatDoor.parseOrder
