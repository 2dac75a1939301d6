/-
  Layer 12's awake.
-/
import Derived.Test.YtpkebokfbigggaaDoorShqF
import Derived.Test.YtpkebokfbigggaaDoorShqI
import Derived.Test.YtpkebokfbigggaaDoorShqP
import Derived.Test.YtpkebokfbigggaaDoorShpM
namespace Go.Proofs.YtpkebokfbigggaaDoor.Shp
open Go.RowKit

theorem one_graph (w : World) : GraphAt ((w.alloc (.cells #[.int .i64 0] 3)).alloc (.cells #[.slice (some ⟨w.heap.size, 0, none⟩) 1 1] 23)) (.slice (some ⟨w.heap.size + 1, 0, none⟩) 1 1) [[0]] := by
  have h1 := heap_alloc_new w (.cells #[.int .i64 0] 3)
  have h2 := heap_alloc_new (w.alloc (.cells #[.int .i64 0] 3)) (.cells #[.slice (some ⟨w.heap.size, 0, none⟩) 1 1] 23)
  have hs : (w.alloc (.cells #[.int .i64 0] 3)).heap.size = w.heap.size + 1 := by simp
  rw [hs] at h2
  have h3 := (Kept.refl (w.alloc (.cells #[.int .i64 0] 3))).alloc (.cells #[.slice (some ⟨w.heap.size, 0, none⟩) 1 1] 23)
  refine ⟨fun l hl => ?_, [.slice (some ⟨w.heap.size, 0, none⟩) 1 1], .inr ⟨⟨w.heap.size + 1, 0, none⟩, 1, rfl, by simp, by simp [maxLen], fun j hj => ?_⟩, rfl, fun j hj hj' => ?_⟩
  · rw [List.mem_singleton] at hl; subst hl
    intro n hn
    rw [List.mem_singleton] at hn; subst hn
    rfl
  · obtain rfl : j = 0 := by simpa using hj
    have hadd : (⟨w.heap.size + 1, 0, none⟩ : Addr).add 0 = ⟨w.heap.size + 1, 0, none⟩ := by unfold Addr.add; split <;> simp_all
    rw [hadd]
    exact ⟨(Array.getElem?_eq_some_iff.1 h2).1, bx_cell h2 0 _ rfl⟩
  · obtain rfl : j = 0 := by simpa using hj
    refine ListAt.kept ?_ h3
    refine .inr ⟨⟨w.heap.size, 0, none⟩, 1, rfl, by simp, by simp [maxLen], fun j hj => ?_⟩
    obtain rfl : j = 0 := by simpa using hj
    have hadd : (⟨w.heap.size, 0, none⟩ : Addr).add 0 = ⟨w.heap.size, 0, none⟩ := by unfold Addr.add; split <;> simp_all
    rw [hadd]
    exact ⟨(Array.getElem?_eq_some_iff.1 h1).1, bx_cell h1 0 _ rfl⟩
open Classical in
theorem one_head : headL [[0]] 0 = [0] := by
  have h : IsHead [[0]] 0 0 := ⟨by omega, 0, .start (by simp) not_false, ⟨by simp, by simp, by simp [row]⟩, .inl rfl⟩
  unfold headL headN
  have : List.range ([[0]] : Gr).length = [0] := rfl
  rw [this]
  simp [h]
set_option maxRecDepth 100000 in
set_option maxHeartbeats 4000000 in
theorem awake_any (w : World) (hT : Tab w) : Calls Tryd.prog 8 #[] w fun e w' => e = .returned (.bool true) ∧ Hid (Kept w w') := by
  have K0 := Lib.hid (((Kept.refl w).alloc (.cells #[.int .i64 0] 3)).alloc (.cells #[.slice (some ⟨w.heap.size, 0, none⟩) 1 1] 23))
  have HG := Lib.hid (one_graph w)
  have HT := Lib.hid (hT.kept K0.out)
  clear hT
  have HC := Lib.hid (fun W => sheads_any W (.slice (some ⟨w.heap.size + 1, 0, none⟩) 1 1) [[0]] 0)
  rw [one_head] at HC
  go_enter Tryd.func8, Tryd.ntmps8
  go_upto_region 2 with (go_at_call 17; refine (HC.out _ HG.out (by simp) HT.out).mono ?_; rintro e w1 ⟨u, rfl, H⟩)
  obtain ⟨ua, uc, e⟩ := own_form H.out.2
  subst e
  obtain ⟨gr, e, -, -, h1, h2, c1, -⟩ := num_at H.out.2 (b := 0) (by simp)
  subst e
  have HK := Lib.hid (K0.out.trans H.out.1)
  simp only [maxLen] at h2
  simp only [List.length_cons, List.length_nil, List.getElem_cons_zero, Nat.zero_add] at c1 h1 ⊢
  clear H K0 HG HC HT
  go_wp2
  go_ret
  exact ⟨rfl, HK⟩
theorem own_list2 {α : Type} {f : α → Value} {w : World} {v : Value} {l : List α} {B n : Nat} {e : TypeId} (h : w.ownsRow B e 1 v n (l.map f)) (hn : l.length = n) : ListAt f w v l := by
  subst hn; exact own_list h
end Go.Proofs.YtpkebokfbigggaaDoor.Shp
