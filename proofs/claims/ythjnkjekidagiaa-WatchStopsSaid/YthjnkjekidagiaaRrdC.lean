/-
  Contracts of the document's answer's two (an operator put behind a list of nodes of the call's own) and level (the operators that bind so).
-/
import Derived.Test.YthjnkjekidagiaaRrdA
import Derived.Test.YthjnkjekidagiaaRrdP
import Derived.OwnWalk
import Derived.Deep.AppendLies
namespace Go.Proofs.Ythjnkjekidagiaa.Rpr
open Go.RowKit
open Lex (Tok)
open Prs (Ex)

def exCell (e : Ex) : List Value := [.int .i64 e.kind, .int .i64 e.num, .int .i64 e.ty, .string ⟨e.name.toArray⟩, .int .i64 e.a, .int .i64 e.b, .int .i64 e.place]
def exCells (l : List Ex) : List Value := l.flatMap exCell
theorem exCells_snoc (l : List Ex) (e : Ex) : exCells (l ++ [e]) = exCells l ++ exCell e := by simp [exCells]
theorem ex_info : (Try.prog.info? 146).map (fun i => (i.zero, i.size, i.bytes)) = some (some (.agg #[.int .i64 0, .int .i64 0, .int .i64 0, .string ⟨#[]⟩, .int .i64 0, .int .i64 0, .int .i64 0]), 7, 64) := by kernel_rfl
theorem own_form {w : World} {base n size : Nat} {e : TypeId} {v : Value} {xs : List Value} (h : w.ownsRow base e size v n xs) : ∃ a c, v = .slice a n c := by
  rcases h.2 with ⟨h1, h2⟩ | ⟨g, cap, cs, h1, _⟩
  · exact ⟨none, 0, by rw [h1, h2]⟩
  · exact ⟨_, _, h1⟩
theorem own_at {w : World} {base n size : Nat} {e : TypeId} {v : Value} {xs : List Value} (h : w.ownsRow base e size v n xs) {g : Nat} (hg : v.ownBlock = some g) : base ≤ g ∧ ∃ c, w.heap[g]? = some (.cells c e (0, 0)) := by
  rcases h.2 with ⟨rfl, _⟩ | ⟨g', cap, c, rfl, h0, h1, _⟩
  · simp [Value.ownBlock] at hg
  · simp [Value.ownBlock] at hg; subst hg; exact ⟨h0, c, h1⟩

/-- A list of nodes has got one more. -/
structure Pushed (B : Nat) (v : Value) (w : World) (l : List Ex) (e : Ex) (w' : World) (v' : Value) : Prop where
  chg : Chg (fun k => v.ownBlock = some k) w w'
  at_ : v'.ownBlock = v.ownBlock ∨ ∃ g, v'.ownBlock = some g ∧ w.heap.size ≤ g
  own : w'.ownsRow B 146 7 v' (l ++ [e]).length (exCells (l ++ [e]))
theorem pushed {B g cap : Nat} {v : Value} {w w7 : World} {l : List Ex} {e : Ex} {o : Obj} (hown : w7.ownsRow B 146 7 (.slice (some ⟨g, 0, none⟩) (l.length + 1) cap) (l.length + 1) (exCells l ++ exCell e)) (hgrow : (w.alloc o).grownBy w7 v.ownBlock) (hat : v.ownBlock = some g ∨ g = w.heap.size + 1) :
    Pushed B v w l e w7 (.slice (some ⟨g, 0, none⟩) (l.length + 1) cap) := by
  refine ⟨((Chg.refl _ w).alloc o).grown hgrow (fun _ _ h => h), ?_, by rw [exCells_snoc, List.length_append]; exact hown⟩
  rcases hat with h | h
  · exact .inl h.symm
  · exact .inr ⟨g, rfl, by omega⟩

set_option maxRecDepth 100000 in
set_option maxHeartbeats 2000000 in
theorem two_any {B : Nat} {v : Value} {l : List Ex} (w : World) (a kind at_ : Nat) (hown : w.ownsRow B 146 7 v l.length (exCells l)) (hB : B ≤ w.heap.size) (hl : l.length ≤ 8193) (h0 : 0 < l.length) :
    Calls Try.prog 83 #[v, .int .i64 a, .int .i64 kind, .int .i64 at_] w fun r w' => ∃ v', r = .returned v' ∧ Hid (Pushed B v w l ⟨kind, 0, 0, [], a, (l.length - 1 : Nat), at_⟩ w' v') := by
  obtain ⟨i0, hi0, hz0, hz1, hz2⟩ := info_parts ex_info
  have Hi := Lib.hid (And.intro hi0 (And.intro hz0 (And.intro hz1 hz2)))
  clear hi0 hz0 hz1 hz2
  obtain ⟨aa, cc, rfl⟩ := own_form hown
  have Ho := Lib.hid hown
  clear hown
  have hq : ((l.length : Int) - 1) = ((l.length - 1 : Nat) : Int) := by omega
  generalize hm : l.length - 1 = m at *
  go_enter Try.func83, Try.ntmps83
  go_wp2_with (at_builtin; refine wpList_append_lies _ rfl (.tmp 9) (.tmp 17) 99 rfl B 146 i0 _ 7 64 Try.underlying99 Hi.out.1 Hi.out.2.1 Hi.out.2.2.1 Hi.out.2.2.2 rfl (by omega) (.slice aa l.length cc) l.length (exCells l) rfl (Ho.out.alloc _) ⟨w.heap.size, 0, none⟩ 1 1 [.int .i64 kind, .int .i64 0, .int .i64 0, .string ⟨#[]⟩, .int .i64 a, .int .i64 m, .int .i64 at_] rfl rfl (World.news_of_block (cs := #[.int .i64 kind, .int .i64 0, .int .i64 0, .string ⟨#[]⟩, .int .i64 a, .int .i64 m, .int .i64 at_]) (heap_alloc_new w _)) (by simp [Value.oneCell']) (by omega) (by simp only [maxLen]; omega) (by omega) (by simp; omega) (w.heap.size + 1) (by simp) ?_; intro ga cap w7 hown hgrow hat hlt7; have Hown7 := Lib.hid hown; have Hgrow := Lib.hid hgrow; have Hat := Lib.hid hat; clear hown hgrow hat)
  go_ret
  exact ⟨_, rfl, Lib.hid (pushed (e := ⟨kind, 0, 0, [], a, m, at_⟩) Hown7.out Hgrow.out Hat.out)⟩

/-- The operators of a level: their signs and kinds. -/
def lvlF : Nat → List (List UInt8 × Nat)
  | 0 => [([38], 13), ([124], 14), ([94], 15)]
  | 1 => [([60, 60], 16), ([62, 62], 17)]
  | 2 => [([43], 8), ([45], 9)]
  | _ => [([42], 10), ([47], 11), ([37], 12)]
def sgV (l : List (List UInt8 × Nat)) : Array Value := (l.map fun x => Value.string ⟨x.1.toArray⟩).toArray
def kdV (l : List (List UInt8 × Nat)) : Array Value := (l.map fun x => Value.int .i64 x.2).toArray
theorem level_any (w : World) (n : Nat) (hn : n < 4) : Calls Try.prog 82 #[.int .i64 n] w fun e w' =>
    e = .returned (.tuple #[.slice (some ⟨w.heap.size, 0, none⟩) (lvlF n).length (lvlF n).length, .slice (some ⟨w.heap.size + 1, 0, none⟩) (lvlF n).length (lvlF n).length]) ∧ w' = (w.alloc (.cells (sgV (lvlF n)) 9)).alloc (.cells (kdV (lvlF n)) 3) := by
  rcases (show n = 0 ∨ n = 1 ∨ n = 2 ∨ n = 3 by omega) with rfl | rfl | rfl | rfl
  all_goals
    clear hn
    go_enter Try.func82, Try.ntmps82
    go_wp2
    go_ret2
    exact ⟨rfl, rfl⟩
end Go.Proofs.Ythjnkjekidagiaa.Rpr
