/-
  The document's Dominators (package calliperref10): plain facts, and what lies in memory as it goes.
-/
import Derived.Test.YtpkebokfbigggaaDoorShpE
namespace Go.Proofs.YtpkebokfbigggaaDoor.Shp
open Go.RowKit
open Classical

/-! Plain. -/
noncomputable def sdT (g : Gr) (f : Int) (n x : Nat) : List Nat := (List.range n).filter fun d => decide (0 ≤ f ∧ SDom g f.toNat d x)
variable {g : Gr} {f : Int}
theorem sdT_zero (x : Nat) : sdT g f 0 x = [] := rfl
theorem sdT_yes {n x : Nat} (h : 0 ≤ f ∧ SDom g f.toNat n x) : sdT g f (n + 1) x = sdT g f n x ++ [n] := by
  unfold sdT
  rw [List.range_succ, List.filter_append]
  simp [h]
theorem sdT_no {n x : Nat} (h : ¬ (0 ≤ f ∧ SDom g f.toNat n x)) : sdT g f (n + 1) x = sdT g f n x := by
  unfold sdT
  rw [List.range_succ, List.filter_append]
  have : decide (0 ≤ f ∧ SDom g f.toNat n x) = false := decide_eq_false h
  simp only [List.filter_cons, this, List.filter_nil]
  simp
theorem mem_sdT {n d x : Nat} : d ∈ sdT g f n x ↔ d < n ∧ 0 ≤ f ∧ SDom g f.toNat d x := by
  unfold sdT
  rw [List.mem_filter, List.mem_range, decide_eq_true_iff]
theorem sdT_le (n x : Nat) : (sdT g f n x).length ≤ n := by
  unfold sdT
  exact Nat.le_trans (List.length_filter_le _ _) (by simp)
theorem sdT_cnt (hf : 0 ≤ f) (x : Nat) : (sdT g f g.length x).length = cnt g f.toNat x := by
  unfold sdT cnt sdL
  congr 1
  refine List.filter_congr fun d _ => ?_
  rw [decide_eq_decide]
  exact ⟨fun h => h.2, fun h => ⟨hf, h⟩⟩
/-- Those that dominate c while node a is looked at, as far as b. -/
noncomputable def byF (g : Gr) (f : Int) (a b c : Nat) : List Nat := if c < b then sdT g f (a + 1) c else sdT g f a c
/-- What is picked of the first i. -/
def Pick (g : Gr) (f : Int) (x i : Nat) (cur : Int) : Prop :=
  (i = 0 ∧ cur = -1) ∨ ∃ m ∈ (sdT g f g.length x).take i, cur = (m : Nat) ∧ ∀ c ∈ (sdT g f g.length x).take i, cnt g f.toNat c ≤ cnt g f.toNat m
theorem pick_end {x i : Nat} {cur : Int} (h : Pick g f x i cur) (hi : (sdT g f g.length x).length ≤ i) : cur = idomV g f x := by
  rcases h with ⟨rfl, rfl⟩ | ⟨m, hm, rfl, hc⟩
  · have he : sdT g f g.length x = [] := List.length_eq_zero_iff.1 (by omega)
    refine (idomV_no fun ⟨h0, a, ha⟩ => ?_).symm
    have := mem_sdT.2 ⟨ha.1.lt.lt, h0, ha.1⟩
    rw [he] at this; cases this
  · rw [List.take_of_length_le hi] at hm hc
    obtain ⟨_, h0, h1⟩ := mem_sdT.1 hm
    exact (idomV_yes h0 (idom_max h1 fun c hc' => hc c (mem_sdT.2 ⟨hc'.lt.lt, h0, hc'⟩))).symm
theorem pick_first {x : Nat} (h : 0 < (sdT g f g.length x).length) : Pick g f x 1 ((sdT g f g.length x)[0] : Nat) := by
  refine .inr ⟨_, List.mem_of_getElem? (i := 0) (by rw [List.getElem?_take, if_pos (by omega), List.getElem?_eq_getElem h]), rfl, fun c hc => ?_⟩
  obtain ⟨i, hi, e⟩ := List.getElem_of_mem hc
  have : i = 0 := by simp at hi; omega
  subst this
  rw [← e, List.getElem_take]; exact Nat.le_refl _
theorem take_snoc' {l : List Nat} {i : Nat} (h : i < l.length) : l.take (i + 1) = l.take i ++ [l[i]] := List.take_succ_eq_append_getElem h
theorem pick_new {x i m : Nat} (h : i < (sdT g f g.length x).length) (hp : Pick g f x i (m : Int)) (hi : 0 < i) (hc : cnt g f.toNat m < cnt g f.toNat (sdT g f g.length x)[i]) : Pick g f x (i + 1) ((sdT g f g.length x)[i] : Nat) := by
  rcases hp with ⟨_, h2⟩ | ⟨m', hm, e, hcc⟩
  · omega
  · have : m' = m := by omega
    subst this
    refine .inr ⟨_, by rw [take_snoc' h]; exact List.mem_append.2 (.inr (List.mem_singleton.2 rfl)), rfl, fun c hc' => ?_⟩
    rw [take_snoc' h] at hc'
    rcases List.mem_append.1 hc' with k | k
    · exact Nat.le_trans (hcc c k) (Nat.le_of_lt hc)
    · rw [List.mem_singleton] at k; subst k; exact Nat.le_refl _
theorem pick_old {x i m : Nat} (h : i < (sdT g f g.length x).length) (hp : Pick g f x i (m : Int)) (hi : 0 < i) (hc : cnt g f.toNat (sdT g f g.length x)[i] ≤ cnt g f.toNat m) : Pick g f x (i + 1) (m : Nat) := by
  rcases hp with ⟨_, h2⟩ | ⟨m', hm, e, hcc⟩
  · omega
  · have : m' = m := by omega
    subst this
    refine .inr ⟨_, by rw [take_snoc' h]; exact List.mem_append.2 (.inl hm), rfl, fun c hc' => ?_⟩
    rw [take_snoc' h] at hc'
    rcases List.mem_append.1 hc' with k | k
    · exact hcc c k
    · rw [List.mem_singleton] at k; subst k; exact hc
theorem pick_mem {x i : Nat} {cur : Int} (hp : Pick g f x i cur) (hi : 0 < i) : ∃ m : Nat, cur = m ∧ m < g.length ∧ 0 ≤ f := by
  rcases hp with ⟨h, _⟩ | ⟨m, hm, e, _⟩
  · omega
  · have := mem_sdT.1 (List.mem_of_mem_take hm)
    exact ⟨m, e, this.1, this.2.1⟩
noncomputable def outF (g : Gr) (f : Int) (b : Nat) (cur : Int) : List Int := (List.range g.length).map fun c => if c < b then idomV g f c else if c = b then cur else -1
theorem outF_len (b : Nat) (cur : Int) : (outF g f b cur).length = g.length := by simp [outF]
theorem outF_set {b : Nat} (cur x : Int) : (outF g f b cur).set b x = outF g f b x := by
  apply List.ext_getElem
  · simp [outF]
  · intro i h1 h2
    rw [List.getElem_set]
    simp only [outF, List.getElem_map, List.getElem_range]
    by_cases e : b = i
    · subst e; rw [if_pos rfl, if_neg (by omega), if_pos rfl]
    · rw [if_neg e]
      split
      · rfl
      · rw [if_neg (by omega), if_neg (by omega)]
theorem outF_next (b : Nat) : outF g f b (idomV g f b) = outF g f (b + 1) (-1) := by
  unfold outF
  refine List.map_congr_left fun c _ => ?_
  by_cases h : c < b
  · rw [if_pos h, if_pos (by omega)]
  · rw [if_neg h]
    by_cases e : c = b
    · subst e; rw [if_pos rfl, if_pos (by omega)]
    · rw [if_neg e, if_neg (by omega)]; simp
theorem outF_end : outF g f g.length (-1) = idomL g f := by
  unfold outF idomL
  refine List.map_congr_left fun c hc => ?_
  rw [if_pos (List.mem_range.1 hc)]
theorem outF_at {b : Nat} (cur : Int) (h : b < (outF g f b cur).length) : (outF g f b cur)[b] = cur := by simp [outF]
def minF (n i : Nat) : List Int := (List.range n).map fun c => if c < i then -1 else 0
theorem minF_zero (n : Nat) : minF n 0 = List.replicate n 0 := by
  apply List.ext_getElem
  · simp [minF]
  · intro i h1 h2; simp [minF]
theorem minF_set (n i : Nat) : (minF n i).set i (-1) = minF n (i + 1) := by
  apply List.ext_getElem
  · simp [minF]
  · intro c h1 h2
    rw [List.getElem_set]
    simp only [minF, List.getElem_map, List.getElem_range]
    by_cases e : i = c
    · subst e; rw [if_pos rfl, if_pos (by omega)]
    · rw [if_neg e]
      by_cases h : c < i
      · rw [if_pos h, if_pos (by omega)]
      · rw [if_neg h, if_neg (by omega)]
theorem minF_end : minF g.length g.length = outF g f 0 (-1) := by
  unfold minF outF
  refine List.map_congr_left fun c hc => ?_
  rw [if_pos (List.mem_range.1 hc), if_neg (by omega)]; simp

/-! In memory. -/
theorem slice_inf : (Tryd.prog.info? 23).map (fun i => (i.zero, i.size, i.bytes)) = some (some (.slice none 0 0), 1, 24) := by kernel_rfl
/-- Rows of one's own in a row of one's own. -/
structure RowsAt (w W : World) (go : Nat) (vv : Value) (us : List Value) (F : Nat → List Nat) : Prop where
  kept : Kept w W
  col : W.ownsRow w.heap.size 23 1 vv us.length us
  rows : ∀ b (h : b < us.length), W.ownsRow w.heap.size 3 1 us[b] (F b).length ((F b).map vn)
  apart : ∀ b c (hb : b < us.length) (hc : c < us.length), b ≠ c → ∀ k, us[b].ownBlock = some k → us[c].ownBlock ≠ some k
  over : ∀ b (h : b < us.length) k, us[b].ownBlock = some k → k ≠ go
  lt : go < W.heap.size
variable {w W W' : World} {go : Nat} {vv : Value} {us : List Value} {F F' : Nat → List Nat}
theorem RowsAt.keep (h : RowsAt w W go vv us F) (hk : Kept W W') : RowsAt w W' go vv us F :=
  ⟨h.kept.trans hk, own_kept h.col hk, fun b hb => own_kept (h.rows b hb) hk, h.apart, h.over, Nat.lt_of_lt_of_le h.lt hk.size⟩
theorem RowsAt.congr (h : RowsAt w W go vv us F) (e : ∀ b, b < us.length → F b = F' b) : RowsAt w W go vv us F' :=
  ⟨h.kept, h.col, fun b hb => by rw [← e b hb]; exact h.rows b hb, h.apart, h.over, h.lt⟩
/-- A number is put behind one of the rows. -/
theorem RowsAt.push {o : Obj} {W2 : World} {gb nb cb b x g' m' c' : Nat} (h : RowsAt w W go (.slice (some ⟨gb, 0, none⟩) nb cb) us F) (hb : b < us.length)
    (hg : (W.alloc o).grownBy W2 us[b].ownBlock) (ho : W2.ownsRow w.heap.size 3 1 (.slice (some ⟨g', 0, none⟩) m' c') ((F b).length + 1) ((F b).map vn ++ [.int .i64 (x : Int)])) (hat : us[b].ownBlock = some g' ∨ g' = W.heap.size + 1)
    (e1 : F' b = F b ++ [x]) (e2 : ∀ c, c ≠ b → F' c = F c) :
    RowsAt w (W2.setCell ⟨gb, b, none⟩ (.slice (some ⟨g', 0, none⟩) m' c')) go (.slice (some ⟨gb, 0, none⟩) nb cb) (us.set b (.slice (some ⟨g', 0, none⟩) m' c')) F' ∧
    (∀ {B : Nat} {v : Value} {n : Nat} {xs : List Value}, W.ownsRow B 4 1 v n xs → (W2.setCell ⟨gb, b, none⟩ (.slice (some ⟨g', 0, none⟩) m' c')).ownsRow B 4 1 v n xs) ∧
    (∀ {B n0 c0 : Nat} {n : Nat} {xs : List Value}, W.ownsRow B 3 1 (.slice (some ⟨go, 0, none⟩) n0 c0) n xs → (W2.setCell ⟨gb, b, none⟩ (.slice (some ⟨g', 0, none⟩) m' c')).ownsRow B 3 1 (.slice (some ⟨go, 0, none⟩) n0 c0) n xs) := by
  obtain ⟨l1, l2, cc, hcc⟩ := own_ty h.col (g := gb) rfl
  have ka : Kept W (W.alloc o) := (Kept.refl W).alloc o
  have hsz : (W.alloc o).heap.size = W.heap.size + 1 := by simp
  have hC : Chg (fun k => us[b].ownBlock = some k) (W.alloc o) W2 := chg_grown hg
  have hS := chg_set W2 gb b (.slice (some ⟨g', 0, none⟩) m' c')
  have hrow := own_kept (h.rows b hb) ka
  have hws := h.kept.size
  -- the blocks that change lie behind, and are of other types than bool
  have hcc2 : W2.heap[gb]? = some (.cells cc 23 (0, 0)) := hC.heap ((ka.block gb l2).trans hcc) fun q => by
    obtain ⟨_, q2, c2, hc2⟩ := own_ty (h.rows b hb) q
    exact ne_of_ty hcc hc2 (by decide) rfl
  have keepB : ∀ {B : Nat} {v : Value} {n : Nat} {xs : List Value}, W.ownsRow B 4 1 v n xs → (W2.setCell ⟨gb, b, none⟩ (.slice (some ⟨g', 0, none⟩) m' c')).ownsRow B 4 1 v n xs := by
    intro B v n xs hr
    refine own_other (own_chg (own_kept hr ka) hC fun k hk q => ?_) hcc2 (by decide) _
    obtain ⟨_, _, c1, hc1⟩ := own_ty hr hk
    obtain ⟨_, _, c2, hc2⟩ := own_ty (h.rows b hb) q
    exact ne_of_ty hc1 hc2 (by decide) rfl
  have keepI : ∀ {B n : Nat} {v : Value} {xs : List Value}, W.ownsRow B 3 1 v n xs → (∀ k, v.ownBlock = some k → us[b].ownBlock ≠ some k) → (W2.setCell ⟨gb, b, none⟩ (.slice (some ⟨g', 0, none⟩) m' c')).ownsRow B 3 1 v n xs := by
    intro B n v xs hr hne
    exact own_other (own_chg (own_kept hr ka) hC fun k hk => hne k hk) hcc2 (by decide) _
  refine ⟨⟨?_, ?_, ?_, ?_, ?_, ?_⟩, keepB, fun hr => keepI hr fun k hk q => h.over b hb k q (by simpa [Value.ownBlock] using hk.symm)⟩
  · refine Kept.setCell (Below.trans (h.kept.trans ka) (Kept.chg (by omega) hC fun i hi => (own_ty (h.rows b hb) hi).1)) l1 _
  · rw [List.length_set]
    refine own_set (own_chg (own_kept h.col ka) hC fun k hk q => ?_) _
    obtain ⟨_, _, c1, hc1⟩ := own_ty h.col hk
    obtain ⟨_, _, c2, hc2⟩ := own_ty (h.rows b hb) q
    exact ne_of_ty hc1 hc2 (by decide) rfl
  · intro c hc
    rw [List.length_set] at hc
    rw [List.getElem_set]
    by_cases e : b = c
    · subst e
      rw [if_pos rfl, e1, List.map_append, List.length_append]
      exact own_other ho hcc2 (by decide) _
    · rw [if_neg e, e2 c (fun q => e q.symm)]
      exact keepI (h.rows c hc) fun k hk q => h.apart b c hb hc e k q hk
  · intro c d hc hd hcd k
    rw [List.length_set] at hc hd
    rw [List.getElem_set, List.getElem_set]
    have new : ∀ j (hj : j < us.length), b ≠ j → us[j].ownBlock = some g' → False := by
      intro j hj hbj hq
      rcases hat with q | q
      · exact h.apart b j hb hj hbj g' q hq
      · have := (own_ty (h.rows j hj) hq).2.1
        omega
    by_cases e : b = c
    · rw [if_pos e, if_neg (by omega)]
      intro hk hk'
      have : g' = k := by simpa [Value.ownBlock] using hk
      subst this
      exact new d hd (by omega) hk'
    · rw [if_neg e]
      by_cases e' : b = d
      · rw [if_pos e']
        intro hk hk'
        have : g' = k := by simpa [Value.ownBlock] using hk'
        subst this
        exact new c hc e hk
      · rw [if_neg e']
        exact h.apart c d hc hd hcd k
  · intro c hc k
    rw [List.length_set] at hc
    rw [List.getElem_set]
    by_cases e : b = c
    · rw [if_pos e]
      intro hk
      have : g' = k := by simpa [Value.ownBlock] using hk
      subst this
      rcases hat with q | q
      · exact h.over b hb g' q
      · have := h.lt; omega
    · rw [if_neg e]
      exact h.over c hc k
  · have := h.lt
    have := hC.size
    have := hS.size
    omega
theorem RowsAt.at {n c b : Nat} {a : Option Addr} (h : RowsAt w W go (.slice a n c) us F) (hb : b < us.length) :
    ∃ gb ra rc, a = some ⟨gb, 0, none⟩ ∧ us[b] = .slice ra (F b).length rc ∧ n = us.length ∧ n ≤ c ∧ c ≤ maxLen ∧ W.cell? ⟨gb, b, none⟩ = some (.slice ra (F b).length rc) ∧ W.frozen? ⟨gb, b, none⟩ = false ∧ W.ownsRow w.heap.size 3 1 (.slice ra (F b).length rc) (F b).length ((F b).map vn) := by
  obtain ⟨a', c', e⟩ := own_form h.col
  injection e with e1 e2 e3
  subst e1 e2 e3
  obtain ⟨gb, q1, q2, q3, q4, q5, q6⟩ := own_at h.col hb
  have hr := h.rows b hb
  obtain ⟨ra, rc, e⟩ := own_form hr
  rw [e] at hr q5
  exact ⟨gb, ra, rc, q1, e, rfl, q2, q3, q5, q6, hr⟩
/-- Ahead of the store. -/
theorem RowsAt.stay {o : Obj} {W2 : World} {gb nb cb b : Nat} (h : RowsAt w W go (.slice (some ⟨gb, 0, none⟩) nb cb) us F) (hb : b < us.length) (hg : (W.alloc o).grownBy W2 us[b].ownBlock) : W2.cell? ⟨gb, b, none⟩ = some us[b] ∧ W2.frozen? ⟨gb, b, none⟩ = false := by
  have hr : W2.ownsRow w.heap.size 23 1 (.slice (some ⟨gb, 0, none⟩) nb cb) us.length us := own_chg (h.col.alloc o) (chg_grown hg) fun k hk q => by
    obtain ⟨_, _, c1, hc1⟩ := own_ty h.col hk
    obtain ⟨_, _, c2, hc2⟩ := own_ty (h.rows b hb) q
    exact ne_of_ty hc1 hc2 (by decide) rfl
  obtain ⟨g', e, _, _, _, q1, q2⟩ := own_at hr hb
  injection e with e
  injection e with e
  subst e
  exact ⟨q1, q2⟩
/-- An own row of ints that no one of the rows is, is set. -/
theorem RowsAt.set {j : Nat} {u : Value} {c : Array Value} (h : RowsAt w W go vv us F) (hgo : w.heap.size ≤ go) (hc : W.heap[go]? = some (.cells c 3 (0, 0))) : RowsAt w (W.setCell ⟨go, j, none⟩ u) go vv us F := by
  have hS := chg_set W go j u
  refine ⟨h.kept.setCell hgo _, own_other h.col hc (by decide) _, fun b hb => own_chg (h.rows b hb) hS fun k hk q => h.over b hb k hk q, h.apart, h.over, Nat.lt_of_lt_of_le h.lt hS.size⟩
end Go.Proofs.YtpkebokfbigggaaDoor.Shp
