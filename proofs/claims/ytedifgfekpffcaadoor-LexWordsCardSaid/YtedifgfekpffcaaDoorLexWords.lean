/-
  Proved: the statement 'LexWordsCardSaid' of the seat: for every input that law returns true, and each argument reads afterwards as it read before; the three package variables that its row lists are tied to the program's text. No condition of ours.
-/
import Derived.Test.YtedifgfekpffcaaDoorRows
import Derived.Test.YtedifgfekpffcaaDoorTie
import Derived.Test.YtedifgfekpffcaaDoorCards
import Derived.Test.YtedifgfekpffcaaDoorLexR
import Derived.Test.YtedifgfekpffcaaDoorLexQ
import Derived.Laws.BytesArg
import Derived.OwnWalk
import Derived.StillTailTactics
namespace Go.Proofs.YtedifgfekpffcaaDoor.lexWords
open Go.RowKit Go.ChangeShapes Go.WideShapes Go.ChangeAt
open Lex (Laid lst)

open Lex
theorem lst_app (a b : ByteArray) : lst (a ++ b) = lst a ++ lst b := by unfold lst; simp [ByteArray.data_append]
theorem byte_info : (Tryd.prog.info? 5).map (fun i => (i.zero, i.size, i.bytes)) = some (some (.int .u8 0), 1, 1) := by kernel_rfl
/-- The first i of n bytes are filled. -/
structure FillAt (w : World) (B n i : Nat) (wx : World) : Prop where
  kept : Kept w wx
  row : ∃ cur : Array Value, wx.heap[B]? = some (.cells cur 5 (0, 0)) ∧ cur.size = n ∧ ∀ j, j < i → cur[j]? = some (.int .u8 120)
theorem FillAt.at_ {w : World} {B n i : Nat} {wx : World} (h : FillAt w B n i wx) (j : Nat) (hj : j < n) : (∃ v, wx.cell? ⟨B, j, none⟩ = some v) ∧ wx.frozen? ⟨B, j, none⟩ = false := by
  obtain ⟨cur, hb, hs, _⟩ := h.row
  exact ⟨⟨cur[j]'(by omega), by simp [World.cell?, hb, hs, hj]⟩, by simp [World.frozen?, hb]⟩
theorem FillAt.next {w : World} {B n i : Nat} {wx : World} (h : FillAt w B n i wx) (hi : i < n) (hB : w.heap.size ≤ B) : FillAt w B n (i + 1) (wx.setCell ⟨B, i, none⟩ (.int .u8 120)) := by
  refine ⟨h.kept.setCell hB _, ?_⟩
  obtain ⟨cur, hb, hs, hc⟩ := h.row
  refine ⟨cur.setIfInBounds i (.int .u8 120), by simp [World.setCell, Array.getElem?_modify, hb], by simp [hs], fun j hj => ?_⟩
  by_cases e : i = j
  · subst e; simp [hs, hi]
  · rw [Array.getElem?_setIfInBounds_ne e]; exact hc j (by omega)
theorem FillAt.cells {w : World} {B n : Nat} {wx : World} (h : FillAt w B n n wx) (j : Nat) (hj : j < n) : wx.cell? ⟨B, 0 + j, none⟩ = some (.int .u8 ((List.replicate n (120 : Int)).getD j 0)) := by
  obtain ⟨cur, hb, hs, hc⟩ := h.row
  have e : (List.replicate n (120 : Int)).getD j 0 = 120 := by simp [List.getD, hj]
  rw [e, Nat.zero_add]
  simpa [World.cell?, hb] using hc j hj
theorem own_row {w : World} {base g n c : Nat} {e : TypeId} {xs : List Value} (h : w.ownsRow base e 1 (.slice (some ⟨g, 0, none⟩) n c) n xs) : ∃ cur : Array Value, w.heap[g]? = some (.cells cur e (0, 0)) ∧ cur.size = c := by
  rcases h.2 with ⟨e, _⟩ | ⟨g', cap, cur, hv, _, hg, _, _, hs, _⟩
  · cases e
  · injection hv with h1 h2 h3
    injection h1 with h1
    injection h1 with h1
    subst h1; subst h3
    exact ⟨cur, hg, by omega⟩
theorem nums_lst (n : Nat) : lst (strOfNums (List.replicate n (120 : Int))) = List.replicate n 120 := by
  show (List.replicate n (120 : Int)).map _ = _
  rw [List.map_replicate]; rfl
theorem u8_bd {a : Int} (h : (Lit.int .u8 a).wf = true) : ∃ n : Nat, a = n ∧ n < 256 := by
  have h1 : 0 ≤ a ∧ a ≤ 255 := by simpa [Lit.wf, IntKind.min, IntKind.max, IntKind.signed, IntKind.bits] using h
  exact ⟨a.toNat, by omega, by omega⟩
def wordArr : Array Value := #[.string ⟨#[103, 108, 111, 98, 97, 108]⟩, .string ⟨#[102, 110]⟩, .string ⟨#[114, 101, 113, 117, 105, 114, 101, 115]⟩, .string ⟨#[101, 110, 115, 117, 114, 101, 115]⟩, .string ⟨#[97, 115, 115, 105, 103, 110, 115]⟩, .string ⟨#[110, 111, 116, 104, 105, 110, 103]⟩, .string ⟨#[108, 101, 116]⟩, .string ⟨#[99, 97, 108, 108]⟩, .string ⟨#[105, 102]⟩, .string ⟨#[101, 108, 115, 101]⟩, .string ⟨#[119, 104, 105, 108, 101]⟩, .string ⟨#[105, 110, 118, 97, 114, 105, 97, 110, 116]⟩, .string ⟨#[98, 114, 101, 97, 107]⟩, .string ⟨#[99, 111, 110, 116, 105, 110, 117, 101]⟩, .string ⟨#[114, 101, 116, 117, 114, 110]⟩, .string ⟨#[97, 115, 115, 101, 114, 116]⟩, .string ⟨#[105, 110, 112, 117, 116]⟩, .string ⟨#[111, 108, 100]⟩, .string ⟨#[114, 101, 115, 117, 108, 116]⟩, .string ⟨#[110, 111, 116]⟩, .string ⟨#[97, 110, 100]⟩, .string ⟨#[111, 114]⟩, .string ⟨#[105, 56]⟩, .string ⟨#[117, 56]⟩, .string ⟨#[105, 49, 54]⟩, .string ⟨#[117, 49, 54]⟩, .string ⟨#[105, 51, 50]⟩, .string ⟨#[117, 51, 50]⟩]
theorem word_get (j : Nat) (h : j < 28) : wordArr[j]? = some (.string ⟨keyWords[j]!.toArray⟩) := by
  have e : wordArr = (keyWords.map fun l => Value.string ⟨l.toArray⟩).toArray := rfl
  have hl : j < keyWords.length := h
  rw [e, getElem!_pos keyWords j hl]
  simp [hl]
theorem word_short (j : Nat) (h : j < 28) : keyWords[j]!.length ≤ 9 := by
  have : ∀ j, j < 28 → keyWords[j]!.length ≤ 9 := by decide
  exact this j h
set_option maxHeartbeats 4000000 in
set_option maxRecDepth 100000 in
theorem walk (a0 : Int) (w0 : (Lit.int .u8 a0).wf = true) (a1 : Int) (w1 : (Lit.int .u8 a1).wf = true) (w : World) (pL pW : Addr) (hL : Laid w pL pW) : Calls Tryd.prog 5 #[.int .u8 a0, .int .u8 a1] w fun e w' => e = .returned (.bool true) ∧ Hid (Kept w w') := by
  obtain ⟨x, rfl, hx⟩ := u8_bd w0
  obtain ⟨y, rfl, hy⟩ := u8_bd w1
  clear w0 w1
  have hj : x % 28 < 28 := Nat.mod_lt _ (by omega)
  have hget : (#[.string ⟨#[103, 108, 111, 98, 97, 108]⟩, .string ⟨#[102, 110]⟩, .string ⟨#[114, 101, 113, 117, 105, 114, 101, 115]⟩, .string ⟨#[101, 110, 115, 117, 114, 101, 115]⟩, .string ⟨#[97, 115, 115, 105, 103, 110, 115]⟩, .string ⟨#[110, 111, 116, 104, 105, 110, 103]⟩, .string ⟨#[108, 101, 116]⟩, .string ⟨#[99, 97, 108, 108]⟩, .string ⟨#[105, 102]⟩, .string ⟨#[101, 108, 115, 101]⟩, .string ⟨#[119, 104, 105, 108, 101]⟩, .string ⟨#[105, 110, 118, 97, 114, 105, 97, 110, 116]⟩, .string ⟨#[98, 114, 101, 97, 107]⟩, .string ⟨#[99, 111, 110, 116, 105, 110, 117, 101]⟩, .string ⟨#[114, 101, 116, 117, 114, 110]⟩, .string ⟨#[97, 115, 115, 101, 114, 116]⟩, .string ⟨#[105, 110, 112, 117, 116]⟩, .string ⟨#[111, 108, 100]⟩, .string ⟨#[114, 101, 115, 117, 108, 116]⟩, .string ⟨#[110, 111, 116]⟩, .string ⟨#[97, 110, 100]⟩, .string ⟨#[111, 114]⟩, .string ⟨#[105, 56]⟩, .string ⟨#[117, 56]⟩, .string ⟨#[105, 49, 54]⟩, .string ⟨#[117, 49, 54]⟩, .string ⟨#[105, 51, 50]⟩, .string ⟨#[117, 51, 50]⟩] : Array Value)[x % 28]? = some (.string ⟨keyWords[x % 28]!.toArray⟩) := word_get _ hj
  have Hget := Lib.hid hget
  clear hget
  have hws := words_all _ hj
  have hsh := word_short _ hj
  generalize keyWords[x % 28]! = kw at *
  have Hw1 : Hid (lexF (lst ⟨kw.toArray⟩) = _) := Lib.hid hws.1
  have Hw2 : Hid (lexF (lst ((⟨kw.toArray⟩ : ByteArray) ++ ⟨#[120]⟩)) = _) := Lib.hid ((congrArg lexF (lst_app _ _)).trans hws.2)
  have hs1 : (⟨kw.toArray⟩ : ByteArray).size ≤ 4611686018427387904 := by show kw.length ≤ _; omega
  have hs2 : ((⟨kw.toArray⟩ : ByteArray) ++ ⟨#[120]⟩).size ≤ 4611686018427387904 := by rw [← lst_length, lst_app]; show (kw ++ [120]).length ≤ _; simp; omega
  have Hs := Lib.hid (And.intro hs1 hs2)
  clear hws hs1 hs2
  go_enter Tryd.func5, Tryd.ntmps5
  go_upto_region 2 with fail
  go_cut [6] (fun s6 wx => s6 = .string ⟨kw.toArray⟩ ∧ Hid (Kept w wx))
  case first =>
    go_wp2_with fail
    go_meet
    refine ⟨?_, Lib.hid ((Kept.refl w).alloc _)⟩
    have h1 := Hget.out
    rw [Array.getElem?_eq_getElem (by simpa using hj)] at h1
    have h2 := Option.some.inj h1
    simpa using h2
  case rest =>
    obtain ⟨rfl, Hka⟩ := hcut
    have HC1 := Lib.hid (Lex_toks _ wc pL pW (hL.kept Hka.out) Hs.out.1 _ Hw1.out)
    go_upto_region 4 with (go_at_call 8; refine (HC1.out).mono ?_; rintro e w1 ⟨⟨v1, rfl, Ho1⟩, Hk1⟩)
    have HC2 := Lib.hid (Lex_toks _ w1 pL pW (hL.kept (Hka.out.trans Hk1.out)) Hs.out.2 _ Hw2.out)
    go_upto_region 6 with (go_at_call 8; refine (HC2.out).mono ?_; rintro e w2 ⟨⟨v2, rfl, Ho2⟩, Hk2⟩)
    obtain ⟨n, hn, hn50⟩ : ∃ n : Nat, (y : Int) % 50 = n ∧ n < 50 := ⟨y % 50, by omega, by omega⟩
    simp only [hn]
    clear hn
    have Hk02 := Lib.hid (Hka.out.trans (Hk1.out.trans Hk2.out))
    obtain ⟨i0, hi0, hz0, hz1, hz2⟩ := info_parts byte_info
    have Hi := Lib.hid (And.intro hi0 (And.intro hz0 (And.intro hz1 hz2)))
    clear hi0 hz0 hz1 hz2 HC1 HC2
    go_upto_region 7 with (refine wpList_make_full _ rfl (.tmp 45) (.tmp 45) 37 rfl w2.heap.size 5 i0 _ 1 Tryd.underlying37 Hi.out.1 Hi.out.2.1 Hi.out.2.2.1 .i64 .i64 _ _ (n + 1) rfl rfl (by omega) (by omega) (by rw [Hi.out.2.2.2]; omega) (by simp only [maxLen]; omega) (Nat.le_refl _) ?_; intro w3 hown3 hgr3)
    have Hf0 : Hid (FillAt w2 w2.heap.size (n + 1) 0 w3) := Lib.hid ⟨Below.grown (Below.refl _ _) hgr3 (Nat.le_refl _) (fun k hk => by cases hk), by obtain ⟨cur, h1, h2⟩ := own_row hown3; exact ⟨cur, h1, h2, fun j hj => by omega⟩⟩
    clear hown3 hgr3 Hi
    go_wp2_with fail
    go_loopw [15] (fun i wx => ∃ k : Nat, k ≤ n + 1 ∧ i = .int .i64 k ∧ Hid (FillAt w2 w2.heap.size (n + 1) k wx)) (fun i _ => n + 1 - (intOf i).toNat)
    case atStart => exact ⟨0, by omega, rfl, Hf0⟩
    case round =>
      obtain ⟨k, hk, rfl, Hf⟩ := hrel
      by_cases hlt : k < n + 1
      · obtain ⟨⟨old, hold⟩, hfz⟩ := Hf.out.at_ k hlt
        go_wp2_with fail
        go_roundw
        case rel => exact ⟨k + 1, by omega, by go_num, Lib.hid (Hf.out.next hlt (Nat.le_refl _))⟩
        case measure => simp [intOf]; omega
      · obtain rfl : k = n + 1 := by omega
        have hconv := run_convert_bytes_arg (P := Tryd.prog) wr 37 5 Tryd.underlying37 Tryd.underlying5 w2.heap.size 0 (n + 1) (n + 1) (List.replicate (n + 1) 120) (by simp) (fun j hj => Hf.out.cells j hj) 9 Tryd.underlying9
        have hnm := nums_lst (n + 1)
        generalize strOfNums (List.replicate (n + 1) (120 : Int)) = nm at *
        have Hnm := Lib.hid hnm
        have hsz : nm.size ≤ 4611686018427387904 := by rw [← lst_length, hnm]; simp; omega
        have Hsz := Lib.hid hsz
        have hna := names_all n hn50
        rw [← hnm] at hna
        have Hk0r := Lib.hid (Hk02.out.trans Hf.out.kept)
        clear hnm hsz
        obtain ⟨g1, cap1, rfl, hc1, hm1, hb1, hg1, hcell1⟩ := own_view Ho1.out (by simp)
        have d1 := (hcell1 0 (by simp)).1
        obtain ⟨g2, cap2, rfl, hc2, hm2, hb2, hg2, hcell2⟩ := own_view Ho2.out (by simp)
        have d2 := (hcell2 0 (by simp)).1
        have Hd : Hid (w1.cell? ⟨g1, 0, none⟩ = some (.int .i64 3) ∧ w2.cell? ⟨g2, 0, none⟩ = some (.int .i64 1)) := Lib.hid ⟨by simpa using d1, by simpa using d2⟩
        simp only [List.length_cons, List.length_nil, Nat.zero_add, Nat.reduceAdd] at hc1 hc2 ⊢
        clear hcell1 hcell2 d1 d2 Ho1 Ho2
        by_cases h20 : 20 < n + 1
        · rw [if_pos h20] at hna
          have HC3 := Lib.hid (Lex_bad nm wr pL pW (hL.kept Hk0r.out) Hsz.out _ _ hna)
          have hno : noL true = 3 := rfl
          clear hna
          go_upto_region 12 with (go_at_call 8; refine (HC3.out).mono ?_; rintro e w5 ⟨rfl, Hk5⟩)
          have k1 : w5.cell? ⟨g1, 0, none⟩ = some (.int .i64 3) := (Below.cell (p := ⟨g1, 0, none⟩) (Kept.trans Hk2.out (Kept.trans Hf.out.kept Hk5.out)) hg1).trans Hd.out.1
          have k2 : w5.cell? ⟨g2, 0, none⟩ = some (.int .i64 1) := (Below.cell (p := ⟨g2, 0, none⟩) (Kept.trans Hf.out.kept Hk5.out) hg2).trans Hd.out.2
          have HA := Lib.hid (awake_any w5 pL pW (hL.kept (Hk0r.out.trans Hk5.out)))
          have Hk05 := Lib.hid (Hk0r.out.trans Hk5.out)
          clear HC3 Hd hconv
          go_wp2_with (first | (go_at_call 9; refine (num_any _ _).mono ?_; rintro e w' ⟨rfl, rfl⟩) | (go_at_call 7; refine (HA.out).mono ?_; rintro e w6 ⟨rfl, Hk6⟩))
          go_ret
          exact ⟨rfl, Lib.hid (Hk05.out.trans Hk6.out)⟩
        · rw [if_neg h20] at hna
          have HC3 := Lib.hid (Lex_toks nm wr pL pW (hL.kept Hk0r.out) Hsz.out _ hna)
          clear hna
          go_upto_region 12 with (go_at_call 8; refine (HC3.out).mono ?_; rintro e w5 ⟨⟨v5, rfl, Ho5⟩, Hk5⟩)
          obtain ⟨g5, cap5, rfl, hc5, hm5, hb5, hg5, hcell5⟩ := own_view Ho5.out (by simp)
          have d5 := (hcell5 0 (by simp)).2.1
          have k5 : w5.cell? ⟨g5, 1, none⟩ = some (.string nm) := by
            simpa [mk_lst] using d5
          simp only [List.length_cons, List.length_nil, Nat.zero_add, Nat.reduceAdd] at hc5 ⊢
          have k1 : w5.cell? ⟨g1, 0, none⟩ = some (.int .i64 3) := (Below.cell (p := ⟨g1, 0, none⟩) (Kept.trans Hk2.out (Kept.trans Hf.out.kept Hk5.out)) hg1).trans Hd.out.1
          have k2 : w5.cell? ⟨g2, 0, none⟩ = some (.int .i64 1) := (Below.cell (p := ⟨g2, 0, none⟩) (Kept.trans Hf.out.kept Hk5.out) hg2).trans Hd.out.2
          have hrow : ∀ j, j < n + 1 → w5.cell? ⟨w2.heap.size, 0 + j, none⟩ = some (.int .u8 ((List.replicate (n + 1) (120 : Int)).getD j 0)) := fun j hj =>
            (Below.cell (p := ⟨w2.heap.size, 0 + j, none⟩) Hk5.out (by obtain ⟨cur, h1, _⟩ := Hf.out.row; exact (Array.getElem?_eq_some_iff.1 h1).1)).trans (Hf.out.cells j hj)
          have hconv5 : ∀ m, (convert 37 9 (.slice (some ⟨w2.heap.size, 0, none⟩) (n + 1) (n + 1))).run Tryd.prog (w5.drewN m) = .ok (.string nm) (w5.drewN m) := fun m => by
            have := run_convert_bytes_arg (P := Tryd.prog) (w5.drewN m) 37 5 Tryd.underlying37 Tryd.underlying5 w2.heap.size 0 (n + 1) (n + 1) (List.replicate (n + 1) 120) (by simp) hrow 9 Tryd.underlying9
            rw [this]
            have e : strOfNums (List.replicate (n + 1) (120 : Int)) = nm := by rw [← mk_lst nm, Hnm.out, ← nums_lst, mk_lst]
            rw [e]
          have hcz := hconv5 0
          have hcd := hconv5 1
          rw [World.drewN_zero] at hcz
          rw [← World.drew_is_drewN] at hcd
          have HA := Lib.hid (fun m => awake_any (w5.drewN m) pL pW ((hL.kept (Hk0r.out.trans Hk5.out)).drewN m))
          have Hk05 := Lib.hid (Hk0r.out.trans Hk5.out)
          clear HC3 Hd hconv hrow hconv5 hcell5 d5 Ho5
          go_wp2_with (first | (go_at_call 9; refine (num_any _ _).mono ?_; rintro e w' ⟨rfl, rfl⟩))
          refine wp_region_still_tail 18 (by kernel_rfl) (by kernel_rfl) ?_
          change wpStill _ _ w5.drew (fun a' => wpList _ _ _ _ a' w5.drew) _ _
          have k5d : w5.drew.cell? ⟨g5, 1, none⟩ = some (.string nm) := k5
          have HAd := Lib.hid (HA.out 1)
          rw [← World.drew_is_drewN] at HAd
          clear HA k5 k1 k2 hcz
          have hkd : Kept w5 w5.drew := (Kept.refl w5).drew
          have Hkd := Lib.hid (Hk05.out.trans hkd)
          clear hkd
          generalize w5.drew = wd at *
          simp only [List.take_succ_cons, List.take_zero, List.drop_succ_cons, List.drop_zero]
          still_step
          still_call ((num_any _ _).mono fun _ _ h => ⟨h.1, h.2.symm⟩)
          repeat still_step
          refine wpStill_nil ?_
          go_wp2_with (first | (go_at_call 7; refine (HAd.out).mono ?_; rintro e w6 ⟨rfl, Hk6⟩))
          go_ret
          exact ⟨rfl, Lib.hid (Hkd.out.trans Hk6.out)⟩

set_option maxRecDepth 100000 in
theorem lifted (os : Os) (started : os.Started) (H : Type) (enc : TypeId × Value → H) :
    ReturnsInHanded {} Tryd.checked os 5 .any (fun w args => (Rows.lexWordsSpec.pre enc Tryd.prog Tryd.f5 [] false w args ∧ laidMetH Tryd.prog Lex.laid3 w) ∧ sizedMet enc Tryd.prog Tryd.f5 (OpenSpec.ofChange Rows.lexWordsSpec) false w args)
      (Rows.lexWordsSpec.post enc Tryd.prog Tryd.f5 false true false false) := by
  refine returnsInHanded_of_change_and (C := Tryd.checked) (X := fun w _ => laidMetH Tryd.prog Lex.laid3 w) (fun _ _ _ hh h => h.of_heap hh) Lex.own started (by kernel_rfl) Tryd.func5
    (ChangeSpec.witness_shaped (enc := enc) (C := Tryd.checked) (os := os) (X := fun w _ => laidMetH Tryd.prog Lex.laid3 w) false (World.doorLaid Tryd.prog 400 os) #[.int .u8 0, .int .u8 0] 8 rfl (World.shaped_of_RefB (by kernel_rfl) (by kernel_rfl)) (by kernel_rfl) (by kernel_rfl) (by kernel_rfl) (Lex.door_met os _)) ?_
  intro W base args ds gs before hval0 hW _ _ hL _
  have hval : ∀ (j : Nat) t v, Tryd.f5.params[j]? = some t → args[j]? = some v → Value.okWide Tryd.prog W .any base t v := hval0
  have hW' := hW
  obtain ⟨p, q, hA0, hV, rfl, hfz, hnd⟩ := hW
  have hA : DataW.TrodAll enc Tryd.prog W 0 (fun _ => true) true Tryd.f5.params.toList args.toList ds p := hA0
  rw [Tryd.params5] at hA hval
  obtain ⟨v0, vs0, d0, ds0, p0, q0, hargs, rfl, rfl, h0, r0⟩ := trodAll_cons hA
  obtain ⟨v1, vs1, d1, ds1, p1, q1, rfl, rfl, rfl, h1, r1⟩ := trodAll_cons r0
  obtain ⟨rfl, rfl, rfl⟩ := trodAll_nil r1
  obtain rfl : args = #[v0, v1] := by cases args; simp_all
  obtain ⟨rfl, rfl⟩ := trodVars_none hV
  obtain ⟨a0, rfl, rfl, rfl, w0⟩ := open_int Tryd.underlying5 (hval 0 5 v0 rfl rfl) h0
  obtain ⟨a1, rfl, rfl, rfl, w1⟩ := open_int Tryd.underlying5 (hval 1 5 v1 rfl rfl) h1
  obtain ⟨pL, pW, hl⟩ := Lex.of_laid hL
  clear hA0 hval0
  simp only [List.append_nil] at hW'
  refine (walk a0 w0 a1 w1 W pL pW hl).mono fun e W' ⟨he, hg⟩ => ?_
  subst he
  exact ⟨_, rfl, post_kept hW' (fun _ _ _ => (trodAll_cons_mk (shut_bool Tryd.underlying4 _) trodAll_mk0)) (fun sp => (trodAll_cons_mk (shut_int Tryd.underlying5 w0) (trodAll_cons_mk (shut_int Tryd.underlying5 w1) trodAll_mk0))) (fun _ => rfl) hg.out⟩

theorem over : Rows.lexWordsRow.holds Tryd.pinned (OpenSpec.ofChange Rows.lexWordsSpec) :=
  OpenClaim.holds_of_wide 5 Tryd.f5 rfl rfl rfl rfl rfl rfl rfl ⟨rfl, rfl, rfl, rfl, rfl⟩ rfl rfl rfl rfl rfl (by kernel_rfl) Tryd.func5 (by kernel_rfl)
    (of_decide_eq_true (by kernel_rfl)) (by unfold Func.isWrapper; first | (rw [if_pos (by decide +kernel)]; kernel_rfl) | (rw [if_neg (by decide +kernel)]; exact ⟨rfl, rfl⟩))
    (fun os started H enc _ => lifted os started H enc)

/-- THE STATEMENT. -/
theorem proved : Rows.LexWordsCardSaid :=
  Claim7.holds_tied_plain_at .later [] [.handle, .sentinel, .sentinel] true (true, "ee1112072558f7a6c5aa3ce688a9ef52aca0c3a26d5136286683529d4e0046d5") true
    over (fun _ h => by cases h) (by kernel_rfl) (fun _ h => by cases h) lexWords_row_tie rfl ⟨rfl, rfl⟩ (by kernel_rfl) rfl
    (fun f fn hf hfn => by
      obtain rfl : f = 5 := Option.some.inj ((show Tryd.prog.funcNamed "calliper/calliperlaw2.LexWords" = some 5 by kernel_rfl).symm.trans hf) |>.symm
      obtain rfl : fn = Tryd.f5 := (Option.some.inj (Tryd.func5.symm.trans hfn)).symm
      exact ⟨by kernel_rfl, fun j t ht => by
        rw [Tryd.params5] at ht
        have hm : t ∈ [5, 5] := by simpa using Array.mem_of_getElem? ht
        have hall : ([5, 5].all fun u => !Tryd.prog.wantsStandIn u) = true := by kernel_rfl
        exact (show Tryd.prog.wantsStandIn t = false by simpa using List.all_eq_true.1 hall t hm)⟩)
    (by kernel_rfl)
#print axioms proved
end Go.Proofs.YtedifgfekpffcaaDoor.lexWords
