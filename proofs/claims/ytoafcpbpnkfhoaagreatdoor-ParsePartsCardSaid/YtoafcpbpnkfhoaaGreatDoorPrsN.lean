/-
  The contract of program (globals and functions in a row), out of that of function, where the text is a program.
-/
import Derived.Test.YtoafcpbpnkfhoaaGreatDoorPrsM
import Derived.Deep.RegionWith
namespace Go.Proofs.YtoafcpbpnkfhoaaGreatDoor.Prs
open Go.RowKit
open Lex (Tok Laid)
attribute [local go_sem] tok0 tok1 tok2

def startF (vs : List Tok) : Option (List Tok × Int) :=
  match vs with
  | m :: t :: us => if m.text = [45] then (if t.kind = 2 then some (us, -((numF t.text).1 : Int)) else none) else if m.kind = 2 then some (t :: us, ((numF m.text).1 : Int)) else none
  | _ => none
def globalF (us : List Tok) : Option (List Tok × Gl) :=
  match us with
  | tg :: tn :: tc :: tt :: te :: vs =>
    if tg.text = [103, 108, 111, 98, 97, 108] ∧ tn.kind = 1 ∧ tc.text = [58] ∧ readT tt.text ≠ 0 ∧ te.text = [61] then
      match startF vs with
      | some (ts :: us', n) => if ts.text = [59] then some (us', ⟨tn.text, readT tt.text, 0, n, tn.place⟩) else none
      | _ => none
    else none
  | _ => none
theorem global_any {B G r d : Nat} {dp : Option Nat} {us us' : List Tok} {g : Gl} (w : World) (h : Rd B G w r us d dp) (hs : globalF us = some (us', g)) :
    Calls Tryz.prog 15 #[.pointer (some ⟨r, 0, none⟩)] w fun e w' => e = .returned (.agg #[.string ⟨g.name.toArray⟩, .int .i64 g.ty, .int .i64 g.size, .int .i64 g.init, .int .i64 g.place]) ∧ Hid (Chg (fun k => k = r) w w' ∧ Rd B G w' r us' d dp) := by
  unfold globalF at hs
  split at hs
  · rename_i tg tn tc tt te vs
    split at hs
    · rename_i hc
      obtain ⟨h1, h2, h3, h4, h5⟩ := hc
      split at hs
      · rename_i ts us1 n hst
        split at hs
        · rename_i h6
          simp only [Option.some.injEq, Prod.mk.injEq] at hs
          obtain ⟨rfl, rfl⟩ := hs
          refine global_init w h h1 h2 h3 h4 h5 h6 fun w1 hr => ?_
          unfold startF at hst
          split at hst
          · rename_i m t us2
            split at hst
            · rename_i hm
              split at hst
              · rename_i hk
                simp only [Option.some.injEq, Prod.mk.injEq] at hst
                obtain ⟨rfl, rfl⟩ := hst
                exact start_neg w1 hr hm hk
              · cases hst
            · rename_i hm
              split at hst
              · rename_i hk
                simp only [Option.some.injEq, Prod.mk.injEq] at hst
                obtain ⟨h7, rfl⟩ := hst
                rw [h7] at hr
                exact start_pos w1 hr hm hk
              · cases hst
          · cases hst
        · cases hs
      · cases hs
    · cases hs
  · cases hs

structure St where
  kind : Nat
  place : Nat
deriving DecidableEq
structure Fn where
  name : List UInt8
  place : Nat
  np : Nat
  ty : Nat
  nr : Nat
  ne : Nat
  body : List St
deriving DecidableEq
def StCells : List St → List Value → Prop
  | [], ys => ys = []
  | s :: l, ys => ∃ more rest, ys = .int .i64 s.kind :: .int .i64 s.place :: (more ++ rest) ∧ more.length = 13 ∧ StCells l rest
def StOwn (w : World) (B : Nat) (v : Value) (l : List St) : Prop := ∃ ys, w.ownsRow B 43 15 v l.length ys ∧ StCells l ys
theorem StOwn.chg {S : Nat → Prop} {w w' : World} {B : Nat} {v : Value} {l : List St} (h : StOwn w B v l) (hc : Chg S w w') (hn : ∀ g c, w.heap[g]? = some (.cells c 43 (0, 0)) → ¬ S g) : StOwn w' B v l := by
  obtain ⟨ys, h1, h2⟩ := h
  exact ⟨ys, own_chg h1 hc (fun g hg => by obtain ⟨c, hc⟩ := own_ty h1 hg; exact hn g c hc), h2⟩
def FnCells (w : World) (B : Nat) : List Fn → List Value → Prop
  | [], xs => xs = []
  | f :: l, xs => ∃ ap cp ar cr ae ce an nn cn ab cb rest, xs = .string ⟨f.name.toArray⟩ :: .int .i64 f.place :: .slice ap f.np cp :: .int .i64 f.ty :: .slice ar f.nr cr :: .slice ae f.ne ce :: .slice an nn cn :: .slice ab f.body.length cb :: rest ∧ StOwn w B (.slice ab f.body.length cb) f.body ∧ FnCells w B l rest
theorem FnCells.chg {S : Nat → Prop} {w w' : World} {B : Nat} {l : List Fn} {xs : List Value} (h : FnCells w B l xs) (hc : Chg S w w') (hn : ∀ g c, w.heap[g]? = some (.cells c 43 (0, 0)) → ¬ S g) : FnCells w' B l xs := by
  induction l generalizing xs with
  | nil => exact h
  | cons f l ih =>
    obtain ⟨ap, cp, ar, cr, ae, ce, an, nn, cn, ab, cb, rest, e, h1, h3⟩ := h
    exact ⟨ap, cp, ar, cr, ae, ce, an, nn, cn, ab, cb, rest, e, h1.chg hc hn, ih h3⟩
theorem FnCells.snoc {w : World} {B : Nat} {l : List Fn} {xs : List Value} (h : FnCells w B l xs) (f : Fn) {ap ar ae an ab : Option Addr} {cp cr ce nn cn cb : Nat} (hb : StOwn w B (.slice ab f.body.length cb) f.body) :
    FnCells w B (l ++ [f]) (xs ++ [.string ⟨f.name.toArray⟩, .int .i64 f.place, .slice ap f.np cp, .int .i64 f.ty, .slice ar f.nr cr, .slice ae f.ne ce, .slice an nn cn, .slice ab f.body.length cb]) := by
  induction l generalizing xs with
  | nil => obtain rfl : xs = [] := h; exact ⟨ap, cp, ar, cr, ae, ce, an, nn, cn, ab, cb, [], rfl, hb, rfl⟩
  | cons f' l ih =>
    obtain ⟨ap', cp', ar', cr', ae', ce', an', nn', cn', ab', cb', rest, e, h1, h3⟩ := h
    subst e
    exact ⟨ap', cp', ar', cr', ae', ce', an', nn', cn', ab', cb', _, rfl, h1, ih h3⟩
def glCells (l : List Gl) : List Value := l.flatMap fun g => [.string ⟨g.name.toArray⟩, .int .i64 g.ty, .int .i64 g.size, .int .i64 g.init, .int .i64 g.place]
theorem gl_info : (Tryz.prog.info? 33).map (fun i => (i.zero, i.size, i.bytes)) = some (some (.agg #[.string ⟨#[]⟩, .int .i64 0, .int .i64 0, .int .i64 0, .int .i64 0]), 5, 48) := by kernel_rfl
theorem fn_info : (Tryz.prog.info? 38).map (fun i => (i.zero, i.size, i.bytes)) = some (some (.agg #[.string ⟨#[]⟩, .int .i64 0, .slice none 0 0, .int .i64 0, .slice none 0 0, .slice none 0 0, .slice none 0 0, .slice none 0 0]), 8, 152) := by kernel_rfl
end Go.Proofs.YtoafcpbpnkfhoaaGreatDoor.Prs
