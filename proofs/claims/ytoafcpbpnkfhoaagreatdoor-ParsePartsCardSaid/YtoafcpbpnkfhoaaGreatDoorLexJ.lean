/-
  errors.Is of a fault at the package's error errLong, and package lex's tell: what the number and the place of a fault are. Conditions: the package variables lie as the program lays them.
-/
import Derived.Test.YtoafcpbpnkfhoaaGreatDoorLexI
namespace Go.Proofs.YtoafcpbpnkfhoaaGreatDoor.Lex
open Go.RowKit Go.Extern.Stop Go.Stop Go.Extern

theorem comparableE (w : World) : ((ReflectliteType.method fun t => do Rtype.noPackHeld "Comparable" t; (fun a => Value.bool a.comparable) <$> typeInfo t) #[.agg #[.pointer (some ⟨4, 155, none⟩)]]).run Tryz.prog w = .ok (.bool true) w := by kernel_rfl
theorem compE : (Tryz.prog.info? 155).map (·.comparable) = some true := by kernel_rfl
theorem sizeE : (Tryz.prog.info? 176).map (·.size) = some 1 := by kernel_rfl
theorem noIsE (v : Value) (xT : TypeId) (w : World) : (Instr.typeAssert (.iface 155 v) xT 126 true).run Tryz.prog w = .ok (.tuple #[.nilIface, .bool false]) w := run_typeAssert_lacksB Tryz.underlying126 (by kernel_rfl) (by kernel_rfl) v xT w
theorem noUnwrapE (v : Value) (xT : TypeId) (w : World) : (Instr.typeAssert (.iface 155 v) xT 121 true).run Tryz.prog w = .ok (.tuple #[.nilIface, .bool false]) w := run_typeAssert_lacksB Tryz.underlying121 (by kernel_rfl) (by kernel_rfl) v xT w
theorem noUnwrapsE (v : Value) (xT : TypeId) (w : World) : (Instr.typeAssert (.iface 155 v) xT 123 true).run Tryz.prog w = .ok (.tuple #[.nilIface, .bool false]) w := run_typeAssert_lacksB Tryz.underlying123 (by kernel_rfl) (by kernel_rfl) v xT w
theorem noIsF (v : Value) (xT : TypeId) (w : World) : (Instr.typeAssert (.iface 75 v) xT 126 true).run Tryz.prog w = .ok (.tuple #[.nilIface, .bool false]) w := run_typeAssert_lacksB Tryz.underlying126 (by kernel_rfl) (by kernel_rfl) v xT w
theorem hasUnwrapF (v : Value) (xT : TypeId) (w : World) : (Instr.typeAssert (.iface 75 v) xT 121 true).run Tryz.prog w = .ok (.tuple #[.iface 75 v, .bool true]) w := run_typeAssert_hasB Tryz.underlying121 (by kernel_rfl) v xT w
theorem methodUnwrapF (v : Value) (w : World) : (Go.method 288 75 v "Unwrap").run Tryz.prog w = .ok (122, v) w := by kernel_rfl

set_option maxHeartbeats 4000000 in
set_option maxRecDepth 100000 in
theorem is_any (b : Bool) (u : Int) (w : World) (pL pW : Addr) (hL : Laid w pL pW) :
    Calls Tryz.prog 22 #[.iface 75 (.agg #[.int .i64 u, errV pL pW b]), .iface 155 (.pointer (some pL))] w fun ev w' => ev = .returned (.bool b) ∧ Kept w w' := by
  obtain ⟨i, hi, hcmp⟩ := Option.map_eq_some_iff.1 compE
  obtain ⟨j, hj, hjs⟩ := Option.map_eq_some_iff.1 sizeE
  have h10 := @run_callFunc_extern Tryz.prog 43 _ ReflectliteType.typeOf Tryz.func43 (by kernel_rfl) (by kernel_rfl) (by kernel_rfl) (by kernel_rfl)
  have h11 := @run_callFunc_extern Tryz.prog 128 _ (ReflectliteType.method fun t => do Rtype.noPackHeld "Comparable" t; pure (.bool (← typeInfo t).comparable)) Tryz.func128 (by kernel_rfl) (by kernel_rfl) (by kernel_rfl) (by kernel_rfl)
  have tE := typeOfE
  have mC := methodComparable
  have cE := comparableE
  have nE := noIsE
  have uE := noUnwrapE
  have vE := noUnwrapsE
  have nF := noIsF
  have uF := hasUnwrapF
  have mU := methodUnwrapF
  cases b
  · show Calls Tryz.prog 22 #[.iface 75 (.agg #[.int .i64 u, .iface 155 (.pointer (some pW))]), .iface 155 (.pointer (some pL))] w _
    have hty := run_eql_iface_types (P := Tryz.prog) 75 155 (.agg #[.int .i64 u, .iface 155 (.pointer (some pW))]) (.pointer (some pL)) Tryz.underlying64 (by decide) w
    obtain ⟨cL, tL, rL⟩ := (hL.kept ((Kept.refl w).alloc (.cells #[.int .i64 u, .iface 155 (.pointer (some pW))] 75))).rowL
    obtain ⟨cW, tW, rW⟩ := (hL.kept ((Kept.refl w).alloc (.cells #[.int .i64 u, .iface 155 (.pointer (some pW))] 75))).rowW
    have heq := run_eql_iface_ptr_other (P := Tryz.prog) _ Tryz.underlying64 Tryz.underlying155 hi hcmp hj (by rw [hjs]; decide) hL.ne.symm rW rL
    clear rL rW hi hj hcmp hjs
    go_enter Tryz.func22, Tryz.ntmps22
    go_wp2
    refine wp_loop_rounds 2 ?_
    rw [rounds_succ]
    go_wp2
    rw [rounds_succ]
    go_wp2
    go_ret
    exact ⟨rfl, (Kept.refl w).alloc _⟩
  · show Calls Tryz.prog 22 #[.iface 75 (.agg #[.int .i64 u, .iface 155 (.pointer (some pL))]), .iface 155 (.pointer (some pL))] w _
    have hty := run_eql_iface_types (P := Tryz.prog) 75 155 (.agg #[.int .i64 u, .iface 155 (.pointer (some pL))]) (.pointer (some pL)) Tryz.underlying64 (by decide) w
    have heq := run_eql_iface_ptr_same (P := Tryz.prog) (w.alloc (.cells #[.int .i64 u, .iface 155 (.pointer (some pL))] 75)) pL Tryz.underlying64 Tryz.underlying155 hi hcmp hj
    clear hi hj hcmp hjs
    go_enter Tryz.func22, Tryz.ntmps22
    go_wp2
    refine wp_loop_rounds 2 ?_
    rw [rounds_succ]
    go_wp2
    rw [rounds_succ]
    go_wp2
    go_ret
    exact ⟨rfl, (Kept.refl w).alloc _⟩

def noL (b : Bool) : Int := if b then 3 else 4
set_option maxHeartbeats 1000000 in
theorem tell_any (b : Bool) (u : Nat) (w : World) (pL pW : Addr) (hL : Laid w pL pW) :
    Calls Tryz.prog 13 #[.iface 75 (.agg #[.int .i64 u, errV pL pW b])] w fun ev w' => ev = .returned (.tuple #[.int .i64 (noL b), .int .i64 u]) ∧ Kept w w' := by
  have hone : (errV pL pW b).oneCell' = true := rfl
  have hL1 : Laid (w.alloc (.cells #[.int .i64 0, .nilIface] 75)) pL pW := hL.kept ((Kept.refl w).alloc _)
  have HA : Hid (∀ u v : Value, u.oneCell' = true → v.oneCell' = true → Calls Tryz.prog 21 #[.iface 75 (.agg #[u, v]), .iface 77 (.pointer (some ⟨w.heap.size, 0, none⟩))] (w.alloc (.cells #[.int .i64 0, .nilIface] 75)) fun ev w' => ev = .returned (.bool true) ∧ ∃ w1, Kept (w.alloc (.cells #[.int .i64 0, .nilIface] 75)) w1 ∧ w' = (w1.setCell ⟨w.heap.size, 0, none⟩ u).setCell ⟨w.heap.size, 1, none⟩ v) :=
    Lib.hid fun u v h1 h2 => as_hit u v (.int .i64 0) .nilIface ⟨w.heap.size, 0, none⟩ _ h1 h2 pL pW hL1 (by simp) (by simp) (by show World.cell? _ ⟨w.heap.size, 1, none⟩ = _; simp) (by show World.frozen? _ ⟨w.heap.size, 1, none⟩ = _; simp)
  generalize hE : errV pL pW b = E at *
  have HE := Lib.hid hE
  clear hE
  go_enter Tryz.func13, Tryz.ntmps13
  go_wp2_with fail
  refine (HA.out _ _ rfl hone).mono ?_
  rintro e w' ⟨rfl, w1, hk, rfl⟩
  have hk0 : Kept w w1 := ((Kept.refl w).alloc _).trans hk
  have hkW : Kept w ((w1.setCell ⟨w.heap.size, 0, none⟩ (.int .i64 u)).setCell ⟨w.heap.size, 1, none⟩ E) := (hk0.setCell (Nat.le_refl _) _).setCell (Nat.le_refl _) _
  have hc1 : w1.cell? ⟨w.heap.size, 0, none⟩ = some (.int .i64 0) := by
    rw [Below.cell (p := ⟨w.heap.size, 0, none⟩) hk (show _ < _ by simp)]; simp
  have hcW : ((w1.setCell ⟨w.heap.size, 0, none⟩ (.int .i64 u)).setCell ⟨w.heap.size, 1, none⟩ E).cell? ⟨w.heap.size, 0, none⟩ = some (.int .i64 u) := by
    rw [World.cell?_setCell_other _ _ _ _ (by intro e; injection e with _ e; cases e)]
    exact World.cell?_setCell_same _ _ _ hc1
  clear hc1 hk0 hk HA hL1
  generalize ((w1.setCell ⟨w.heap.size, 0, none⟩ (.int .i64 u)).setCell ⟨w.heap.size, 1, none⟩ E) = W2 at *
  have hL2 := hL.kept hkW
  have HI : Hid (Calls Tryz.prog 22 #[.iface 75 (.agg #[.int .i64 u, E]), .iface 155 (.pointer (some pL))] W2 fun ev w' => ev = .returned (.bool b) ∧ Kept W2 w') := Lib.hid (by rw [← HE.out]; exact is_any b u W2 pL pW hL2)
  have hl2 := hL2.long
  clear hL hL2 HE
  cases b
  · go_wp2_with (go_at_call 22; refine (HI.out).mono ?_; rintro e w' ⟨rfl, hk3⟩)
    go_ret2
    exact ⟨rfl, hkW.trans hk3⟩
  · go_wp2_with (go_at_call 22; refine (HI.out).mono ?_; rintro e w' ⟨rfl, hk3⟩)
    go_ret2
    exact ⟨rfl, hkW.trans hk3⟩
end Go.Proofs.YtoafcpbpnkfhoaaGreatDoor.Lex
