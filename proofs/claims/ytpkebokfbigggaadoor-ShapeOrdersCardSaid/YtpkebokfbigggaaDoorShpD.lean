/-
  Plain facts of a search through a graph by a stack (stage 12). No program is named here.
-/
import Derived.Test.YtpkebokfbigggaaDoorShpP
namespace Go.Proofs.YtpkebokfbigggaaDoor.Shp
open Classical

/-- Is x marked? -/
def T (out : List Bool) (x : Nat) : Prop := out.getD x false = true
theorem T.lt {out : List Bool} {x : Nat} (h : T out x) : x < out.length := by
  apply Classical.byContradiction
  intro k
  unfold T at h
  rw [List.getD_eq_getElem?_getD, List.getElem?_eq_none (by omega)] at h
  simp at h
theorem T_at {out : List Bool} {x : Nat} (h : x < out.length) : T out x ↔ out[x] = true := by
  unfold T
  rw [List.getD_eq_getElem?_getD, List.getElem?_eq_getElem h]
  exact Iff.rfl
theorem T_set {out : List Bool} {x y : Nat} (hx : x < out.length) : T (out.set x true) y ↔ y = x ∨ T out y := by
  unfold T
  rw [List.getD_eq_getElem?_getD, List.getD_eq_getElem?_getD, List.getElem?_set]
  by_cases e : x = y
  · subst e; simp [hx]
  · rw [if_neg e]
    exact ⟨.inr, fun h => h.resolve_left fun k => e k.symm⟩
theorem T_rep {n x : Nat} : ¬ T (List.replicate n false) x := by
  intro h
  have := h.lt
  rw [T_at this] at h
  simp at h
def fls (out : List Bool) : Nat := (out.filter (! ·)).length
theorem fls_set : ∀ (out : List Bool) (x : Nat), x < out.length → ¬ T out x → fls (out.set x true) + 1 = fls out
  | [], x, h, _ => absurd h (by simp)
  | b :: r, 0, _, hn => by
    have : b = false := by
      cases b
      · rfl
      · exact absurd rfl hn
    subst this
    simp [fls]
  | b :: r, x + 1, h, hn => by
    have := fls_set r x (by simpa using h) (by
      intro k; apply hn; unfold T at *; simpa using k)
    unfold fls at *
    simp only [List.set_cons_succ, List.filter_cons]
    cases b <;> simp at * <;> omega
theorem fls_le (out : List Bool) : fls out ≤ out.length := List.length_filter_le _ _

/-- A search under way: x is the node that is looked at (as many as there are nodes: none), its first k edges are done. -/
structure Dfs (g : Gr) (f : Nat) (no : Nat → Prop) (out : List Bool) (todo : List Nat) (x k : Nat) : Prop where
  len : out.length = g.length
  sound : ∀ y, T out y → RW g f no y
  st : T out f
  tdo : ∀ y ∈ todo, T out y
  xin : x = g.length ∨ T out x
  clo : ∀ y, T out y → y ∉ todo → y ≠ x → ∀ b, edge g y b → ¬ no b → T out b
  cur : ∀ i, i < k → ∀ b : Nat, (row g x)[i]? = some (b : Int) → b < g.length → ¬ no b → T out b
variable {g : Gr} {f : Nat} {no : Nat → Prop} {out : List Bool} {todo : List Nat} {x k : Nat}
theorem dfs_start (hf : f < g.length) (hn : ¬ no f) : Dfs g f no ((List.replicate g.length false).set f true) [f] g.length 0 := by
  have h1 : f < (List.replicate g.length false).length := by simpa using hf
  refine ⟨by simp, fun y hy => ?_, (T_set h1).2 (.inl rfl), fun y hy => ?_, .inl rfl, fun y hy hd => ?_, fun i hi => absurd hi (by omega)⟩
  · rcases (T_set h1).1 hy with rfl | h
    · exact .start hf hn
    · exact absurd h T_rep
  · rw [List.mem_singleton] at hy; subst hy; exact (T_set h1).2 (.inl rfl)
  · rcases (T_set h1).1 hy with rfl | h
    · exact absurd (by simp) hd
    · exact absurd h T_rep
theorem Dfs.pop {y : Nat} (h : Dfs g f no out (todo ++ [y]) g.length k) : Dfs g f no out todo y 0 := by
  have hy := h.tdo y (by simp)
  refine ⟨h.len, h.sound, h.st, fun z hz => h.tdo z (by simp [hz]), .inr hy, fun z hz hd hn => h.clo z hz (by simp [hd, hn]) ?_, fun i hi => absurd hi (by omega)⟩
  have := hz.lt
  rw [h.len] at this
  omega
theorem Dfs.finish (h : Dfs g f no out todo x k) (hk : (row g x).length ≤ k) : Dfs g f no out todo g.length 0 := by
  refine ⟨h.len, h.sound, h.st, h.tdo, .inl rfl, fun y hy hd _ b hb hn => ?_, fun i hi => absurd hi (by omega)⟩
  by_cases e : y = x
  · subst e
    obtain ⟨i, hi, he⟩ := List.getElem_of_mem hb.2.2
    exact h.cur i (by omega) b (by rw [List.getElem?_eq_getElem hi, he]) hb.2.1 hn
  · exact h.clo y hy hd e b hb hn
theorem Dfs.skip (h : Dfs g f no out todo x k) (hs : ∀ b : Nat, (row g x)[k]? = some (b : Int) → b < g.length → ¬ no b → T out b) : Dfs g f no out todo x (k + 1) := by
  refine ⟨h.len, h.sound, h.st, h.tdo, h.xin, h.clo, fun i hi => ?_⟩
  by_cases e : i = k
  · subst e; exact hs
  · exact h.cur i (by omega)
theorem Dfs.push (h : Dfs g f no out todo x k) (hx : x < g.length) {b : Nat} (hb : (row g x)[k]? = some (b : Int)) (hl : b < g.length) (hn : ¬ no b) : Dfs g f no (out.set b true) (todo ++ [b]) x (k + 1) := by
  have hb' : b < out.length := by rw [h.len]; exact hl
  have hxt : T out x := by
    rcases h.xin with e | e
    · omega
    · exact e
  have mono : ∀ {z}, T out z → T (out.set b true) z := fun hz => (T_set hb').2 (.inr hz)
  refine ⟨by simp [h.len], fun y hy => ?_, mono h.st, fun y hy => ?_, .inr (mono hxt), fun y hy hd hne c hc hnc => ?_, fun i hi c hc hlc hnc => ?_⟩
  · rcases (T_set hb').1 hy with rfl | hy
    · exact .step (h.sound x hxt) ⟨hx, hl, List.mem_of_getElem? hb⟩ hn
    · exact h.sound y hy
  · rcases List.mem_append.1 hy with hy | hy
    · exact mono (h.tdo y hy)
    · rw [List.mem_singleton] at hy; subst hy; exact (T_set hb').2 (.inl rfl)
  · rcases (T_set hb').1 hy with rfl | hy
    · exact absurd (by simp) hd
    · exact mono (h.clo y hy (fun q => hd (by simp [q])) hne c hc hnc)
  · by_cases e : i = k
    · subst e
      rw [hb] at hc
      injection hc with hc
      have : b = c := by omega
      subst this
      exact (T_set hb').2 (.inl rfl)
    · exact mono (h.cur i (by omega) c hc hlc hnc)
theorem Dfs.done (h : Dfs g f no out [] g.length k) (y : Nat) : T out y ↔ RW g f no y := by
  refine ⟨h.sound y, fun hy => ?_⟩
  induction hy with
  | start _ _ => exact h.st
  | @step a b _ hab hn ih =>
    refine h.clo a ih (by simp) ?_ b hab hn
    have := ih.lt
    rw [h.len] at this
    omega
theorem Dfs.is (h : Dfs g f no out [] g.length k) : out = (List.range g.length).map fun y => decide (RW g f no y) := by
  apply List.ext_getElem
  · simp [h.len]
  · intro i h1 h2
    simp only [List.getElem_map, List.getElem_range]
    rw [Bool.eq_iff_iff, decide_eq_true_iff, ← T_at h1]
    exact h.done i
/-- What is left to do. -/
def left (out : List Bool) (todo : List Nat) : Nat := 2 * fls out + todo.length
theorem left_push {b : Nat} (hb : b < out.length) (hn : ¬ T out b) : left (out.set b true) (todo ++ [b]) + 1 = left out todo := by
  have := fls_set out b hb hn
  unfold left
  simp; omega
end Go.Proofs.YtpkebokfbigggaaDoor.Shp
