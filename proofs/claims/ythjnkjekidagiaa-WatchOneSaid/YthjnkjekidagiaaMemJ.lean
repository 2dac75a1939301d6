/-
  Contract of the document's Block for package memory: a copy. (Of a memory that there is.)
-/
import Derived.Test.YthjnkjekidagiaaMemI
namespace Go.Proofs.Ythjnkjekidagiaa.Mem
open Go.RowKit

def blkIn (L : List Bk) (id : Int) : Bool := decide (0 ≤ id ∧ id < L.length)
def blkT (L : List Bk) (id : Int) : Int := if blkIn L id then match L[id.toNat]? with | some x => x.ty | none => 0 else 0
def blkV (L : List Bk) (id : Int) : List Int := if blkIn L id then match L[id.toNat]? with | some x => x.vals | none => [] else []
theorem blk_no {L : List Bk} {id : Int} (h : ¬ (0 ≤ id ∧ id < L.length)) : blkIn L id = false ∧ blkT L id = 0 ∧ blkV L id = [] := by
  have e : blkIn L id = false := decide_eq_false h
  unfold blkT blkV; rw [e]; simp
theorem blk_yes {L : List Bk} {i : Nat} (hi : i < L.length) : blkIn L i = true ∧ blkT L i = L[i].ty ∧ blkV L i = L[i].vals := by
  have e : blkIn L i = true := decide_eq_true (by omega)
  have e2 : L[(i : Int).toNat]? = some L[i] := by simp [hi]
  unfold blkT blkV; rw [e]; simp only [e2]; simp

theorem blk_fin {w w1 : World} {g cap2 : Nat} {vv : List Int} (hown : w1.ownsRow w.heap.size 3 1 (.slice (some ⟨g, 0, none⟩) (0 + vv.length) cap2) (0 + vv.length) ([] ++ ints vv))
    (hgrow : ((w.alloc (.cells #[.int .i64 0, .slice none 0 0] 62)).alloc (.cells #[] 3)).drew.grownBy w1 (some (w.heap.size + 1))) (hat : some (w.heap.size + 1) = some g ∨ g = w.heap.size + 2) (hq : w1.heap[w.heap.size]? = some (.cells #[.int .i64 0, .slice none 0 0] 62 (0, 0))) (t : Int) :
    Kept w ((w1.setCell ⟨w.heap.size, 0, none⟩ (.int .i64 t)).setCell ⟨w.heap.size, 1, none⟩ (.slice (some ⟨g, 0, none⟩) vv.length cap2)) ∧
      ((w1.setCell ⟨w.heap.size, 0, none⟩ (.int .i64 t)).setCell ⟨w.heap.size, 1, none⟩ (.slice (some ⟨g, 0, none⟩) vv.length cap2)).ownsRow w.heap.size 3 1 (.slice (some ⟨g, 0, none⟩) vv.length cap2) vv.length (ints vv) ∧
      ((w1.setCell ⟨w.heap.size, 0, none⟩ (.int .i64 t)).setCell ⟨w.heap.size, 1, none⟩ (.slice (some ⟨g, 0, none⟩) vv.length cap2)).cell? ⟨w.heap.size, 0, none⟩ = some (.int .i64 t) ∧
      ((w1.setCell ⟨w.heap.size, 0, none⟩ (.int .i64 t)).setCell ⟨w.heap.size, 1, none⟩ (.slice (some ⟨g, 0, none⟩) vv.length cap2)).cell? ⟨w.heap.size, 1, none⟩ = some (.slice (some ⟨g, 0, none⟩) vv.length cap2) := by
  have hg : g ≠ w.heap.size := by
    rcases hat with h | h
    · injection h with h; omega
    · omega
  have hc : Chg (fun k => k = w.heap.size ∨ some (w.heap.size + 1) = some k) w ((w1.setCell ⟨w.heap.size, 0, none⟩ (.int .i64 t)).setCell ⟨w.heap.size, 1, none⟩ (.slice (some ⟨g, 0, none⟩) vv.length cap2)) :=
    ((((((Chg.refl _ w).alloc _).alloc _).drew).grown hgrow (fun _ _ e => .inr e)).setCell (fun h => absurd h (by simp)) _).setCell (fun h => absurd h (by simp)) _
  have e1 := heap_setCell_same _ _ 0 _ _ (.int .i64 t) hq
  have e2 := heap_setCell_same _ _ 1 _ _ (.slice (some ⟨g, 0, none⟩) vv.length cap2) e1
  refine ⟨hc.kept (fun k hk h => ?_), ?_, box_cell e2 0 _ (by simp), box_cell e2 1 _ (by simp)⟩
  · rcases h with h | h
    · omega
    · injection h with h; omega
  · have h0 : w1.ownsRow w.heap.size 3 1 (.slice (some ⟨g, 0, none⟩) vv.length cap2) vv.length (ints vv) := by simpa using hown
    exact own_chg (own_chg h0 (chg_set _ _ _ _) (fun k hk e => hg (by simp [Value.ownBlock] at hk; omega))) (chg_set _ _ _ _) (fun k hk e => hg (by simp [Value.ownBlock] at hk; omega))
theorem int_info' : (Try.prog.info? 3).map (fun i => (i.zero, i.size, i.bytes)) = some (some (.int .i64 0), 1, 8) := by kernel_rfl
set_option maxRecDepth 100000 in
set_option maxHeartbeats 4000000 in
theorem rblock_any {B : Nat} {w : World} {p : Nat} {v : Value} {L : List Bk} (h : MemAt B 55 w p v L) (hb : ∀ x ∈ L, x.vals.length ≤ 16) (id : Int) :
    Calls Try.prog 25 #[.pointer (some ⟨p, 0, none⟩), .int .i64 id] w fun e w' => ∃ vs, e = .returned (.tuple #[.agg #[.int .i64 (blkT L id), vs], .bool (blkIn L id)]) ∧ Hid (Kept w w' ∧ w'.ownsRow w.heap.size 3 1 vs (blkV L id).length (ints (blkV L id))) := by
  by_cases hin : 0 ≤ id ∧ id < L.length
  case neg =>
    obtain ⟨e1, e2, e3⟩ := blk_no hin
    rw [e1, e2, e3]
    have c0 := box_cell h.box 0 v rfl
    obtain ⟨a, c, rfl⟩ := h.len
    have hc : ∀ j u, (#[Value.int .i64 0, Value.slice none 0 0] : Array Value)[j]? = some u → (w.alloc (.cells #[.int .i64 0, .slice none 0 0] 62)).cell? ⟨w.heap.size, j, none⟩ = some u := fun j u hu => box_cell (heap_alloc_new _ _) j u hu
    have h0 := hc 0 _ rfl
    have h1 := hc 1 _ rfl
    have hps := box_lt h.box
    have hps' : p ≠ w.heap.size := by omega
    clear h e1 e2 e3 hc
    rcases (show id < 0 ∨ (0 ≤ id ∧ (L.length : Int) ≤ id) by omega) with g | g
    all_goals
      clear hin
      go_enter Try.func25, Try.ntmps25
      go_wp2
      refine bodyPost_ret (v := .tuple #[.agg #[.int .i64 0, .slice none 0 0], .bool false]) ?_ rfl ⟨_, rfl, Lib.hid ⟨(Kept.refl w).alloc _, rfl, .inl ⟨rfl, rfl⟩⟩⟩
      simp [results, Try.results25, go_sem, h0, h1]
  obtain ⟨i, rfl⟩ : ∃ i : Nat, id = i := ⟨id.toNat, by omega⟩
  have hi : i < L.length := by omega
  rcases h.out with ⟨rfl, -⟩ | ⟨o, cap, cur, rfl, ho, hc, hm, hcell⟩
  · simp at hi
  obtain ⟨e1, e2, e3⟩ := blk_yes hi
  rw [e1, e2, e3]
  obtain ⟨c1, c2⟩ := hcell i hi
  have c0 := box_cell h.box 0 _ rfl
  have hx := h.inn L[i] (List.getElem_mem hi)
  have hpos := h.pos L[i] (List.getElem_mem hi)
  have hb16 := hb L[i] (List.getElem_mem hi)
  obtain ⟨cur2, hb2, hl1, hl2, hl3, hl4⟩ := hx.cells
  have hps := box_lt h.box
  have hos := box_lt ho
  unfold bkVal at c2
  generalize L[i].g = gg at *
  generalize L[i].c = cc at *
  generalize L[i].ty = tt at *
  generalize L[i].vals = vv at *
  clear h e1 e2 e3 hcell ho hx
  obtain ⟨i0, hi0, hz0, hz1, hz2⟩ := info_parts int_info'
  have Hi := Lib.hid (And.intro hi0 (And.intro hz0 (And.intro hz1 hz2)))
  clear hi0 hz0 hz1 hz2 hb hin
  have hgs := box_lt hb2
  have n1 : ∀ k, k < w.heap.size → ((w.alloc (.cells #[.int .i64 0, .slice none 0 0] 62)).alloc (.cells #[] 3)).heap[k]? = w.heap[k]? := fun k hk => by
    rw [Below.heap_alloc _ _ k (by simp; omega), Below.heap_alloc _ _ k hk]
  have n2 : ((w.alloc (.cells #[.int .i64 0, .slice none 0 0] 62)).alloc (.cells #[] 3)).heap[w.heap.size]? = some (.cells #[.int .i64 0, .slice none 0 0] 62 (0, 0)) := by
    rw [Below.heap_alloc _ _ _ (by simp)]; exact heap_alloc_new _ _
  have n3 : ((w.alloc (.cells #[.int .i64 0, .slice none 0 0] 62)).alloc (.cells #[] 3)).heap[w.heap.size + 1]? = some (.cells #[] 3 (0, 0)) := by
    have := heap_alloc_new (w.alloc (.cells #[.int .i64 0, .slice none 0 0] 62)) (.cells #[] 3)
    simpa using this
  have Ho : Hid (((w.alloc (.cells #[.int .i64 0, .slice none 0 0] 62)).alloc (.cells #[] 3)).ownsRow w.heap.size 3 1 (.slice (some ⟨w.heap.size + 1, 0, none⟩) 0 0) 0 []) := Lib.hid ⟨rfl, .inr ⟨w.heap.size + 1, 0, #[], rfl, by omega, n3, by omega, by simp [maxLen], rfl, rfl⟩⟩
  have Hn : Hid (∀ j u, (ints vv)[j]? = some u → ((w.alloc (.cells #[.int .i64 0, .slice none 0 0] 62)).alloc (.cells #[] 3)).cell? ((⟨gg, 0, none⟩ : Addr).add j) = some u) := Lib.hid fun j u hj => by
    have hadd : (⟨gg, 0, none⟩ : Addr).add j = ⟨gg, j, none⟩ := by unfold Addr.add; split <;> simp_all
    rw [hadd]
    rw [← hl4, List.getElem?_take] at hj
    split at hj
    · have := (n1 gg hgs).trans hb2
      simpa [World.cell?, this] using hj
    · cases hj
  have N2 := Lib.hid n2
  have Np : Hid (((w.alloc (.cells #[.int .i64 0, .slice none 0 0] 62)).alloc (.cells #[] 3)).cell? ⟨p, 0, none⟩ = some (.slice (some ⟨o, 0, none⟩) L.length cap)) := Lib.hid ((World.cell?_of_block (n1 p hps)).trans c0)
  have Nc : Hid (((w.alloc (.cells #[.int .i64 0, .slice none 0 0] 62)).alloc (.cells #[] 3)).cell? ⟨o, i * 2, none⟩ = some (.int .i64 tt)) := Lib.hid ((World.cell?_of_block (n1 o hos)).trans c1)
  clear hl4 n1 n2 n3 hb2
  go_enter Try.func25, Try.ntmps25
  go_wp2
  go_region_law (refine step_append_lies _ rfl (.tmp 26) (.tmp 34) 22 rfl w.heap.size 3 i0 _ 1 8 Try.underlying22 Hi.out.1 Hi.out.2.1 Hi.out.2.2.1 Hi.out.2.2.2 rfl (by omega) (.slice (some ⟨w.heap.size + 1, 0, none⟩) 0 0) 0 [] rfl Ho.out ⟨gg, 0, none⟩ vv.length cc (ints vv) rfl (by simp [ints]) Hn.out (by intro u hu; simp only [ints, List.mem_map] at hu; obtain ⟨x, -, rfl⟩ := hu; rfl) hpos (by simp only [maxLen]; omega) (by omega) (by simp; omega) (w.heap.size + 2) (by simp) ?_; intro g cap2 w1 hown1 hgrow hat hlt; have Hown1 := Lib.hid hown1; have Hgrow := Lib.hid hgrow; have Hat := Lib.hid hat; have hq1 := (hgrow.block w.heap.size (by simp; omega) (by simp [Value.ownBlock])).trans N2.out; have z0 := box_cell hq1 0 _ rfl; have z1 := box_cell hq1 1 _ rfl; have f0 := box_froz hq1 0; have f1 := box_froz hq1 1; have Hq1 := Lib.hid hq1; have x0 := (hgrow.cell_far ⟨p, 0, none⟩ (by simp; omega) (by simp [Value.ownBlock]; omega)).trans Np.out; have y0 := (hgrow.cell_far ⟨o, i * 2, none⟩ (by simp; omega) (by simp [Value.ownBlock]; omega)).trans Nc.out; clear hown1 hgrow hat hq1)
  all_goals
    go_wp2
    have hf := blk_fin (vv := vv) Hown1.out Hgrow.out Hat.out Hq1.out tt
    refine bodyPost_ret (v := .tuple #[.agg #[.int .i64 tt, .slice (some ⟨g, 0, none⟩) vv.length cap2], .bool true]) ?_ rfl ⟨_, rfl, Lib.hid ⟨hf.1, hf.2.1⟩⟩
    simp [results, Try.results25, go_sem, hf.2.2.1, hf.2.2.2]
end Go.Proofs.Ythjnkjekidagiaa.Mem
