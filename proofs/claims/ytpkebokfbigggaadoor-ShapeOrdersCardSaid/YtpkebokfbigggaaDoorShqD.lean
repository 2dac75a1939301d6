/-
  Package shape: what goes through a set (the method 'all'), whatever its rounds do.
-/
import Derived.Test.YtpkebokfbigggaaDoorShqC
import Derived.RangeFuncNested
import Derived.RangeFuncBound
import Derived.RangeFuncCalls
import Derived.RangeFuncLeaves
import Derived.Shelf.Abstract
import Derived.Shelf.RegionOpen
import Derived.OwnWalkIn
import Derived.TacticsInMore
import Derived.LoopNIn
import Derived.LoopIn
namespace Go.Proofs.YtpkebokfbigggaaDoor.Shp
open Go.RowKit Go.Shelf
attribute [local go_sem] Oper.semAt_some

abbrev FW : Fence := Fence.wide

theorem Box.load {w : World} {b x : Nat} (h : Box w b x) : (loadVar 42 ⟨b, 0, none⟩).run Tryd.prog w = .ok (.agg (setC x)) w :=
  run_loadVar_row w b _ _ _ _ _ h Tryd.underlying42 rfl (info42 x)
def intV : Value → Int
  | .int _ n => n
  | _ => 0
theorem intV_int (k : IntKind) (n : Int) : intV (.int k n) = n := rfl
theorem wpListIn_load_box {F : Fence} {n : Nat} {w : World} {ops : Array Oper} {rest : List Oper} {o : Oper} {a : Act} {Q : Exit → Act → World → Prop} (hg : o.guard = none) (x : Operand) (ho : o.op = .load 42 x)
    (b s : Nat) (hx : a.eval x = .pointer (some ⟨b, 0, none⟩)) (hb : Box w b s) (h : wpListIn F n Tryd.prog ops Q rest (a.put o.dst (.agg (setC s))) w) : wpListIn F n Tryd.prog ops Q (o :: rest) a w := by
  refine wpListIn_plain hg fun K hK' => ?_
  unfold Oper.wpIn
  refine ⟨by simp [Oper.about, ho], ?_⟩
  rw [Oper.semAt_plain F _ _ (by rw [ho]; intro c hc'; cases hc')]
  unfold execOp
  simp only [ho, hx, Instr.loadAt, Instr.sureAddr, Sem.run_bind, Sem.run_pure, Result.andThen_ok, hb.load]
  exact hK' _ _ h
set_option maxRecDepth 100000 in
set_option maxHeartbeats 4000000 in
/-- all: the numbers of the set, rising, until a round says that it wants no more. -/
theorem each_in (n l x : Nat) (hx : x < 4294967296) (J Jx : List Nat → World → Prop) (hT : ∀ pre W, J pre W → Tab W)
    (hY : ∀ (pre : List Nat) (i : Nat) (W : World), J pre W → pre ++ [i] <+: bitsL x → YieldAt FW (n - 1) Tryd.prog l #[.int .i64 (i : Int)] W fun e W' =>
      (e = .returned (.bool true) ∧ J (pre ++ [i]) W') ∨ (e = .returned (.bool false) ∧ Jx (pre ++ [i]) W'))
    (W : World) (h0 : J [] (W.alloc (.cells (setC x) 42))) :
    CallsIn FW n Tryd.prog 25 #[.agg (setC x), .func (.yield l) #[] #[]] W fun e W' => (∃ v, e = .returned v) ∧ (J (bitsL x) W' ∨ ∃ pre, pre <+: bitsL x ∧ Jx pre W') := by
  have HB := Lib.hid (Box.new W x)
  have HB0 := HB.out
  refine callsIn_of_wp Tryd.func25 rfl trivial ?_ rfl
  simp only [Tryd.ntmps25, List.size_toArray, List.length_cons, List.length_nil, Nat.reduceAdd, Nat.reduceSub, Array.replicate_succ, Array.replicate_zero, List.push_toArray, List.append_toArray, List.nil_append, List.cons_append]
  gi_wp2_with (refine wpListIn_load_box rfl _ rfl W.heap.size x rfl HB0 ?_)
  have h0' : J (if (0 : Nat) = 0 then [] else bitsL x) (W.alloc (.cells (setC x) 42)) := h0
  clear HB HB0 h0
  generalize W.alloc (.cells (setC x) 42) = w1 at *
  generalize W.heap.size = b1 at *
  have HT := Lib.hid hT
  have HY := Lib.hid hY
  have H0 := Lib.hid h0'
  clear hT hY h0'
  gi_loopw [7] (fun i wz => ∃ k : Nat, i = .int .i64 (k : Int) ∧ k ≤ 32 ∧ Hid (J (if k = 0 then [] else bitsL x) wz)) (fun i _ => 32 - (intV i).toNat)
  case atStart => exact ⟨0, rfl, by omega, H0⟩
  case round =>
    clear H0
    obtain ⟨k, rfl, hk, HK⟩ := hrel
    by_cases hlt : k < 32
    case neg =>
      obtain rfl : k = 32 := by omega
      rw [if_neg (by decide)] at HK
      gi_wp2
      go_end0
      exact ⟨⟨_, rfl⟩, .inl HK.out⟩
    case pos =>
      have hix := fun W => index_set W x k hlt
      have hst : Hid (∃ pre, (0 < k → wd x k = 0) ∧ wd x k < 4294967296 ∧ bitsL x = pre ++ bitsL (wd x k) ∧ J pre wr) := by
        by_cases h0 : k = 0
        · subst h0
          rw [if_pos rfl] at HK
          exact Lib.hid ⟨[], fun h => absurd h (by decide), hx, rfl, HK.out⟩
        · rw [if_neg h0] at HK
          rw [wd_pos x (by omega), bitsL_zero]
          exact Lib.hid ⟨bitsL x, fun _ => rfl, by decide, by simp, HK.out⟩
      clear HK
      gi_wp2
      clear hix
      rw [show decide ((k : Int) < 32) = true from decide_eq_true (by omega)]
      gi_loopw [5] (fun v wz => ∃ (pre : List Nat) (y : Nat), v = .int .u64 (y : Int) ∧ y < 4294967296 ∧ (0 < k → y = 0) ∧ Hid (bitsL x = pre ++ bitsL y) ∧ Hid (J pre wz)) (fun v _ => (bitsL (intV v).toNat).length)
      case atStart =>
        obtain ⟨pre, h1, h2, h3, h4⟩ := hst.out
        exact ⟨pre, _, rfl, h2, h1, Lib.hid h3, Lib.hid h4⟩
      case round =>
        clear hst
        obtain ⟨pre, y, rfl, hy, hk0, HX, HJ⟩ := hrel
        by_cases hy0 : y = 0
        case pos =>
          subst hy0
          have HE : Hid (bitsL x = pre) := Lib.hid (by rw [HX.out, bitsL_zero, List.append_nil])
          rw [← HE.out] at HJ
          gi_wp2
          go_roundw
          case rel => exact ⟨k + 1, by simp, by omega, by rw [if_neg (by omega)]; exact HJ⟩
          case measure => simp only [intV_int]; omega
        case neg =>
          have h0 : k = 0 := by
            apply Classical.byContradiction
            intro h
            exact hy0 (hk0 (by omega))
          have hmul : (k : Int) * 64 = 0 := by omega
          have HK0 := Lib.hid h0
          clear h0
          have hnx := bitsL_next hy0 (by omega)
          obtain ⟨i, hi⟩ : ∃ i, Lib.ctz 64 y = i := ⟨_, rfl⟩
          have Htz := Lib.hid (fun W hT => tz_any W y (by omega) hy0 hT)
          obtain ⟨l1, -, -, -⟩ := low_bits hy0 (by omega)
          rw [hi] at hnx Htz l1
          have HTw := Lib.hid (HT.out _ _ HJ.out)
          have hpre : pre ++ [i] <+: bitsL x := ⟨bitsL (y &&& (y - 1)), by rw [HX.out, hnx]; simp⟩
          have HX2 : Hid (bitsL x = (pre ++ [i]) ++ bitsL (y &&& (y - 1))) := Lib.hid (by rw [HX.out, hnx]; simp)
          have HM : Hid ((bitsL (y &&& (y - 1))).length < (bitsL y).length) := Lib.hid (by rw [hnx]; simp)
          have hnb : ((y : Int) == 0) = false := by rw [beq_eq_false_iff_ne]; omega
          obtain ⟨fn, tmps, assign, body, hyd, hR⟩ := HY.out pre i wr HJ.out hpre
          have HR := Lib.hid hR
          have hand : bits .and .u64 (y : Int) (IntKind.u64.wrap ((y : Int) - 1)) = ((y &&& (y - 1) : Nat) : Int) := by
            have e : IntKind.u64.wrap ((y : Int) - 1) = ((y - 1 : Nat) : Int) := by rw [IntKind.wrap_u64]; omega
            rw [e, bits_and_u64_nat _ _ (by omega) (by omega)]
          clear hpre hnx hi hy0 hk0 HJ hR HX
          gi_wp2_with (refine ⟨trivial, fun h => (by cases h), ?_⟩; gi_at_call 36; refine (callsIn_wide.2 (Htz.out _ HTw.out)).mono ?_; rintro e w7 ⟨rfl, rfl⟩)
          refine ⟨fun h => (by cases h), ?_⟩
          refine (HR.out).mono ?_
          clear hyd HR HTw
          rintro e w8 (⟨rfl, hJ⟩ | ⟨rfl, hJ⟩)
          · have HJ2 := Lib.hid hJ
            clear hJ
            gi_wp2
            go_roundw
            case rel => exact ⟨pre ++ [i], y &&& (y - 1), rfl, and_pred_lt (n := 32) hy, fun h => absurd h (by have := HK0.out; omega), HX2, HJ2⟩
            case measure => simp only [intV_int, Int.toNat_natCast]; exact HM.out
          · have HJ2 := Lib.hid hJ
            clear hJ
            gi_wp2
            refine bodyPost_ret (results_none rfl _ _ _) rfl ⟨⟨_, rfl⟩, .inr ⟨pre ++ [i], ⟨_, HX2.out.symm⟩, HJ2.out⟩⟩
end Go.Proofs.YtpkebokfbigggaaDoor.Shp
