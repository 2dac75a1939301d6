/-
  Contracts of stmtByWord, stmt and block at whatever number of steps.
-/
import Derived.Test.YtoafcpbpnkfhoaaGreatDoorPrsT
namespace Go.Proofs.YtoafcpbpnkfhoaaGreatDoor.Prs
open Go.RowKit
open Lex (Tok Laid)
attribute [local go_sem] tok0 tok1 tok2

theorem bareF_len {k k' : Nat} {us us' : List Tok} {dp dp' : Option Nat} (h : bareF k us dp = some (us', dp', k')) : us'.length + 1 ≤ us.length := by
  unfold bareF at h
  split at h
  · cases h
  · split at h
    · simp only [Option.some.injEq, Prod.mk.injEq] at h
      obtain ⟨rfl, _, _⟩ := h
      simp
    · cases h
theorem word_step {f : Nat} (HBr : BranchSaid f) : WordSaid (f + 1) := by
  intro B G r d k us us' dp dp' w h hs
  cases us with
  | nil => simp [wordF] at hs
  | cons t us =>
    simp only [wordF] at hs
    by_cases h1 : t.text = [105, 102]
    · rw [if_pos h1] at hs
      have hl : us'.length ≤ us.length := by
        obtain ⟨e, w', fr, ⟨_, _, _, _, _, _, _, hh⟩, _⟩ := (HBr w h h1 hs) []
        exact hh.out.2.2
      refine (word_if (k := k) (us' := us') (dp' := dp') w h h1 fun w1 hr => (HBr w1 hr h1 hs).mono ?_).mono ?_
      · rintro e w' ⟨ac, nc, cc, ab, nb, cb, he, hh⟩
        exact ⟨ac, nc, cc, ab, nb, cb, he, Lib.hid ⟨hh.out.1, hh.out.2.1⟩⟩
      · rintro e w' ⟨ac, nc, cc, ab, nb, cb, he, hh⟩
        exact ⟨ac, nc, cc, ab, nb, cb, he, Lib.hid ⟨hh.out.1, hh.out.2, by simp; omega⟩⟩
    rw [if_neg h1] at hs
    by_cases h2 : t.text = [98, 114, 101, 97, 107]
    · rw [if_pos h2] at hs
      have hl := bareF_len hs
      refine (word_break w h h2 (bare_said hs)).mono ?_
      rintro e w' ⟨ac, nc, cc, ab, nb, cb, he, hh⟩
      exact ⟨ac, nc, cc, ab, nb, cb, he, Lib.hid ⟨hh.out.1, hh.out.2, by simp; omega⟩⟩
    rw [if_neg h2] at hs
    by_cases h3 : t.text = [99, 111, 110, 116, 105, 110, 117, 101]
    · rw [if_pos h3] at hs
      have hl := bareF_len hs
      refine (word_continue w h h3 (bare_said hs)).mono ?_
      rintro e w' ⟨ac, nc, cc, ab, nb, cb, he, hh⟩
      exact ⟨ac, nc, cc, ab, nb, cb, he, Lib.hid ⟨hh.out.1, hh.out.2, by simp; omega⟩⟩
    rw [if_neg h3] at hs
    by_cases h4 : t.text = [114, 101, 116, 117, 114, 110]
    · rw [if_pos h4] at hs
      have hl := bareF_len hs
      refine (word_return w h h4 (leave_said h4 hs)).mono ?_
      rintro e w' ⟨ac, nc, cc, ab, nb, cb, he, hh⟩
      exact ⟨ac, nc, cc, ab, nb, cb, he, Lib.hid ⟨hh.out.1, hh.out.2, by simp; omega⟩⟩
    rw [if_neg h4] at hs
    cases hs
set_option maxRecDepth 100000 in
set_option maxHeartbeats 8000000 in
theorem stmt_any {f : Nat} (HW : WordSaid f) {B G r d k : Nat} {t : Tok} {us us' : List Tok} {dp dp' : Option Nat} (w : World) (h : Rd B G w r (t :: us) d dp) (hs : wordF f (t :: us) d dp = some (us', dp', k)) :
    Calls Tryz.prog 54 #[.pointer (some ⟨r, 0, none⟩)] w fun e w' => ∃ ac nc cc ab nb cb, e = .returned (.agg #[.int .i64 k, .int .i64 t.place, .string ⟨#[]⟩, .int .i64 0, .int .i64 0, .slice none 0 0, .slice none 0 0, .bool false, .string ⟨#[]⟩, .slice none 0 0, .slice ac nc cc, .slice none 0 0, .slice none 0 0, .slice ab nb cb, .slice none 0 0]) ∧ Hid (Chg (fun k => k = r) w w' ∧ Rd B G w' r us' d dp' ∧ us'.length + 1 ≤ (t :: us).length) := by
  have hk0 := (Kept.refl w).alloc (.cells #[.int .i64 0, .int .i64 0, .string ⟨#[]⟩, .int .i64 0, .int .i64 0, .slice none 0 0, .slice none 0 0, .bool false, .string ⟨#[]⟩, .slice none 0 0, .slice none 0 0, .slice none 0 0, .slice none 0 0, .slice none 0 0, .slice none 0 0] 43)
  have HP := Lib.hid (peek_any _ (h.kept hk0))
  have HR := Lib.hid (h.kept hk0)
  have Hs := Lib.hid hs
  have HWd : Hid (WordSaid f) := @HW
  have Hk0 := Lib.hid hk0
  have hB := h.size
  have hrw := h.lt
  have hGw := h.ltG
  have B0 := Lib.hid (heap_alloc_new w (.cells #[.int .i64 0, .int .i64 0, .string ⟨#[]⟩, .int .i64 0, .int .i64 0, .slice none 0 0, .slice none 0 0, .bool false, .string ⟨#[]⟩, .slice none 0 0, .slice none 0 0, .slice none 0 0, .slice none 0 0, .slice none 0 0, .slice none 0 0] 43))
  clear h hs hk0 HW
  go_enter Tryz.func54, Tryz.ntmps54
  go_upto_region 2 with (go_at_call 14; refine (HP.out).mono ?_; rintro e w1 ⟨rfl, K1⟩)
  have H2 := Lib.hid (HWd.out w1 (HR.out.kept K1.out) Hs.out)
  go_upto_region 4 with (go_at_call 66; refine (H2.out).mono ?_; rintro e w2 ⟨ac, nc, cc, ab, nb, cb, rfl, K2⟩)
  have hs1 : w.heap.size < w2.heap.size := by have a := Below.size K1.out; have b := K2.out.1.size; simp at a; omega
  have hb := K2.out.1.heap ((Below.block K1.out _ (box_lt B0.out)).trans B0.out) (by omega)
  have l0 := box_cell hb 0 _ rfl
  have l1 := box_cell hb 1 _ rfl
  have l2 := box_cell hb 2 _ rfl
  have l3 := box_cell hb 3 _ rfl
  have l4 := box_cell hb 4 _ rfl
  have l5 := box_cell hb 5 _ rfl
  have l6 := box_cell hb 6 _ rfl
  have l7 := box_cell hb 7 _ rfl
  have l8 := box_cell hb 8 _ rfl
  have l9 := box_cell hb 9 _ rfl
  have l10 := box_cell hb 10 _ rfl
  have l11 := box_cell hb 11 _ rfl
  have l12 := box_cell hb 12 _ rfl
  have l13 := box_cell hb 13 _ rfl
  have l14 := box_cell hb 14 _ rfl
  have lf := box_froz hb
  clear hb
  go_wp2
  refine bodyPost_ret (v := .agg #[.int .i64 k, .int .i64 t.place, .string ⟨#[]⟩, .int .i64 0, .int .i64 0, .slice none 0 0, .slice none 0 0, .bool false, .string ⟨#[]⟩, .slice none 0 0, .slice ac nc cc, .slice none 0 0, .slice none 0 0, .slice ab nb cb, .slice none 0 0]) ?_ rfl ⟨ac, nc, cc, ab, nb, cb, rfl, Lib.hid ?_⟩
  · simp [results, Tryz.results54, go_sem, l0, l1, l2, l3, l4, l5, l6, l7, l8, l9, l10, l11, l12, l13, l14, hs1]
  have c5 := chg_set15 w2 w.heap.size (.int .i64 k) (.int .i64 t.place) (.string ⟨#[]⟩) (.int .i64 0) (.int .i64 0) (.slice none 0 0) (.slice none 0 0) (.bool false) (.string ⟨#[]⟩) (.slice none 0 0) (.slice ac nc cc) (.slice none 0 0) (.slice none 0 0) (.slice ab nb cb) (.slice none 0 0)
  exact ⟨(((Chg.of_kept (Hk0.out.trans K1.out)).then K2.out.1).trans c5 (fun i hi e => by omega)).alloc _, (K2.out.2.1.chg c5 (fun k e => by subst e; exact ⟨hB, by omega, by omega⟩)).kept ((Kept.refl _).alloc _), K2.out.2.2⟩
theorem st_info : (Tryz.prog.info? 43).map (fun i => (i.zero, i.size, i.bytes)) = some (some (.agg #[.int .i64 0, .int .i64 0, .string ⟨#[]⟩, .int .i64 0, .int .i64 0, .slice none 0 0, .slice none 0 0, .bool false, .string ⟨#[]⟩, .slice none 0 0, .slice none 0 0, .slice none 0 0, .slice none 0 0, .slice none 0 0, .slice none 0 0]), 15, 264) := by kernel_rfl
theorem StCells.snoc {l : List St} {ys : List Value} (h : StCells l ys) (s : St) (more : List Value) (hm : more.length = 13) : StCells (l ++ [s]) (ys ++ (.int .i64 s.kind :: .int .i64 s.place :: more)) := by
  induction l generalizing ys with
  | nil => obtain rfl : ys = [] := h; exact ⟨more, [], by simp, hm, rfl⟩
  | cons s' l ih =>
    obtain ⟨m, rest, e, h1, h2⟩ := h
    subst e
    exact ⟨m, rest ++ (.int .i64 s.kind :: .int .i64 s.place :: more), by simp, h1, ih h2⟩
/-- What stands at the head of each round. -/
structure BkAt (B G r d f : Nat) (w : World) (n : Nat) (R : List Tok × Option Nat × List St) (x : Value) (wx : World) (fc : Nat) (uc : List Tok) (dc : Option Nat) (lc : List St) : Prop where
  own : ∃ ys, wx.ownsRow w.heap.size 43 15 x lc.length ys ∧ StCells lc ys
  chg : Chg (fun k => k = r) w wx
  rd : Rd B G wx r uc (d + 1) dc
  eq : stmtsF fc uc (d + 1) dc lc = some R
  le : fc ≤ f
  sz : lc.length + uc.length + 1 ≤ n
set_option maxRecDepth 100000 in
set_option maxHeartbeats 8000000 in
theorem block_step {f : Nat} (HW : ∀ g, g ≤ f → WordSaid g) : BlockSaid (f + 1) := by
  intro B G r d us us' dp dp' l w h hs
  cases us with
  | nil => simp [blockF] at hs
  | cons t us =>
    simp only [blockF] at hs
    by_cases ht : t.text = [123]
    case neg => rw [if_neg ht] at hs; cases hs
    rw [if_pos ht] at hs
    have H1 := Lib.hid (open_yes w h ht)
    have Hs := Lib.hid hs
    have HWd := Lib.hid HW
    have hB := h.size
    have hrw := h.lt
    have hlow := h.low
    simp only [List.length_cons] at hlow
    obtain ⟨i0, hi0, hz0, hz1, hz2⟩ := info_parts st_info
    have Hi := Lib.hid (And.intro hi0 (And.intro hz0 (And.intro hz1 hz2)))
    clear h hs HW ht hi0 hz0 hz1 hz2
    go_enter Tryz.func31, Tryz.ntmps31
    go_wp2_with (go_at_call 53; refine (H1.out).mono ?_; rintro e w1 ⟨rfl, K1⟩)
    go_loopg [3] us.length (fun k x wx => ∃ fc uc dc lc, k = uc.length ∧ BkAt B G r d f w (t :: us).length (us', dp', l) x wx fc uc dc lc)
    case atStart => exact ⟨f, us, _, [], rfl, ⟨[], World.ownsRow_nil _ _ _ _, rfl⟩, K1.out.1, K1.out.2, Hs.out, Nat.le_refl _, by simp⟩
    case round =>
      obtain ⟨fc, uc, dc, lc, hk, hown, hchg, hrd, heq, hle, hsz⟩ := hrel
      cases fc with
      | zero => simp [stmtsF] at heq
      | succ fc =>
        cases uc with
        | nil => simp [stmtsF] at heq
        | cons u uc =>
          simp only [stmtsF] at heq
          have Hown := Lib.hid hown
          have Hchg := Lib.hid hchg
          have Hrd := Lib.hid hrd
          have Hk := Lib.hid hk
          simp only [List.length_cons] at hsz
          by_cases hu : u.text = [125]
          case pos =>
            rw [if_pos hu] at heq
            simp only [Option.some.injEq, Prod.mk.injEq] at heq
            obtain ⟨rfl, rfl, rfl⟩ := heq
            have HI := Lib.hid (is_yes wr hrd hu)
            have Hu := Lib.hid hu
            obtain ⟨ys, hy1, hy2⟩ := hown
            obtain ⟨al, cl, hv⟩ := own_slice hy1
            clear hchg hrd hk hu hy1 hy2
            subst hv
            go_upto_region 5 with (go_at_call 45; refine (HI.out).mono ?_; rintro e w2 ⟨rfl, K2⟩)
            have HT := Lib.hid (take_yes _ (Hrd.out.kept K2.out) Hu.out)
            go_upto_region 6 with (go_at_call 23; refine (HT.out).mono ?_; rintro e w3 ⟨rfl, K3⟩)
            have HZ := Lib.hid (close_any w3 K3.out.2)
            go_wp2_with (go_at_call 55; refine (HZ.out).mono ?_; rintro e w4 ⟨rfl, K4⟩)
            go_ret
            have c24 := ((Chg.of_kept (S := fun k => k = r) K2.out).then K3.out.1).then K4.out.1
            have ho : StOwn wr B (.slice al lc.length cl) lc := by
              obtain ⟨ys, h1, h2⟩ := Hown.out
              exact ⟨ys, own_from h1 (fun g hg => by have := (h1.lt g hg).1; omega), h2⟩
            refine ⟨al, cl, rfl, Lib.hid ⟨Hchg.out.then c24, K4.out.2, ho.chg c24 (fun g c hg => (Hrd.out.apart hg (by decide) (by decide)).1), by first | omega | (simp; omega)⟩⟩
          case neg =>
            rw [if_neg hu] at heq
            cases hw : wordF fc (u :: uc) (d + 1) dc with
            | none => rw [hw] at heq; cases heq
            | some p =>
              obtain ⟨us2, dp2, k⟩ := p
              rw [hw] at heq
              simp only at heq
              have HI := Lib.hid (is_no wr hrd hu)
              have Heq := Lib.hid heq
              have Hw := Lib.hid hw
              clear hown hchg hrd hk hu heq hw
              obtain ⟨ys, hy1, hy2⟩ := Hown.out
              have Hy1 := Lib.hid hy1
              have Hy2 := Lib.hid hy2
              clear hy1 hy2
              go_upto_region 4 with (go_at_call 45; refine (HI.out).mono ?_; rintro e w2 ⟨rfl, K2⟩)
              have H4 := Lib.hid (stmt_any (HWd.out fc (by omega)) w2 (Hrd.out.kept K2.out) Hw.out)
              have HA : Hid (∀ w3, Chg (fun k => k = r) w2 w3 → w3.ownsRow w.heap.size 43 15 u3 lc.length ys) := Lib.hid fun w3 hc =>
                own_chg Hy1.out ((Chg.of_kept (S := fun k => k = r) K2.out).then hc) (fun g hg e => by obtain ⟨c, hcc⟩ := own_ty Hy1.out hg; exact (Hrd.out.apart hcc (by decide) (by decide)).1 e)
              go_wp2_with (first | (go_at_call 54; refine (H4.out).mono ?_; rintro e w3 ⟨ac, nc, cc, ab, nb, cb, rfl, K3⟩) | (at_builtin; refine wpList_append_lies _ rfl (.tmp 9) (.tmp 12) 36 rfl w.heap.size 43 i0 _ 15 264 Tryz.underlying36 Hi.out.1 Hi.out.2.1 Hi.out.2.2.1 Hi.out.2.2.2 rfl (by omega) u3 lc.length ys rfl ((HA.out w3 K3.out.1).alloc _) ⟨w3.heap.size, 0, none⟩ 1 1 [.int .i64 k, .int .i64 u.place, .string ⟨#[]⟩, .int .i64 0, .int .i64 0, .slice none 0 0, .slice none 0 0, .bool false, .string ⟨#[]⟩, .slice none 0 0, .slice ac nc cc, .slice none 0 0, .slice none 0 0, .slice ab nb cb, .slice none 0 0] rfl rfl (World.news_of_block (cs := #[.int .i64 k, .int .i64 u.place, .string ⟨#[]⟩, .int .i64 0, .int .i64 0, .slice none 0 0, .slice none 0 0, .bool false, .string ⟨#[]⟩, .slice none 0 0, .slice ac nc cc, .slice none 0 0, .slice none 0 0, .slice ab nb cb, .slice none 0 0]) (heap_alloc_new w3 _)) (by simp [Value.oneCell']) (by omega) (by simp only [maxLen]; omega) (by omega) (by have a := Hchg.out.size; have b := Below.size K2.out; have c := K3.out.1.size; simp; omega) (w3.heap.size + 1) (by simp) ?_; intro ga cap w4 hown hgrow hat hlt; have Hown4 := Lib.hid hown; have Hgrow := Lib.hid hgrow; clear hown hgrow hat))
              have hlen : us2.length + 1 ≤ (u :: uc).length := K3.out.2.2
              have hsw := Hchg.out.size
              simp only [List.length_cons] at hlen
              go_roundg us2.length
              case measure => have := Hk.out; simp only [List.length_cons] at this; omega
              case rel =>
                refine ⟨fc, us2, dp2, lc ++ [⟨k, u.place⟩], rfl, ⟨_, by rw [List.length_append]; exact Hown4.out, Hy2.out.snoc ⟨k, u.place⟩ _ rfl⟩, ((((Hchg.out.keep K2.out).then K3.out.1).alloc _).grown Hgrow.out (fun i hi e => by have := (Hy1.out.lt i e).1; omega)), ?_, Heq.out, by omega, by simp only [List.length_append, List.length_cons, List.length_nil]; omega⟩
                refine ((K3.out.2.1.kept ((Kept.refl w3).alloc _)).chg (S := fun k => u3.ownBlock = some k) ⟨Hgrow.out.os, Hgrow.out.tape, Hgrow.out.output, Hgrow.out.size, fun k hk hn => Hgrow.out.block k hk (fun e => hn e.symm)⟩ (fun j hj => ?_))
                obtain ⟨c, hc⟩ := own_ty Hy1.out hj
                exact ⟨by have := (Hy1.out.lt j hj).1; omega, Hrd.out.apart hc (by decide) (by decide)⟩
theorem all_blocks (f : Nat) : BlockSaid f ∧ WordSaid f ∧ BranchSaid f := by
  induction f using Nat.strongRecOn with
  | _ f ih =>
    cases f with
    | zero => exact ⟨fun _ _ h => by simp [blockF] at h, fun _ _ h => by simp [wordF] at h, fun _ _ _ h => by simp [branchF] at h⟩
    | succ f => exact ⟨block_step (fun g hg => (ih g (by omega)).2.1), word_step (ih f (by omega)).2.2, branch_step (ih f (by omega)).1⟩
end Go.Proofs.YtoafcpbpnkfhoaaGreatDoor.Prs
