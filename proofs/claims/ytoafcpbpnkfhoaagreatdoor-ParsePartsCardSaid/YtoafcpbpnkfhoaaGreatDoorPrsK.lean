/-
  What a deferred literal's type test comes to: a reader's fault, or none.
-/
import Derived.Test.YtoafcpbpnkfhoaaGreatDoorPrsJ
import Derived.Recover
import Derived.Defers
namespace Go.Proofs.YtoafcpbpnkfhoaaGreatDoor.Prs
open Go.RowKit
open Lex (Tok Laid)

theorem ta_yes (k p : Int) (w : World) : (Instr.typeAssert (.iface 53 (.agg #[.int .i64 k, .int .i64 p])) 20 53 true).run Tryz.prog w = .ok (.tuple #[.agg #[.int .i64 k, .int .i64 p], .bool true]) w := by kernel_rfl
theorem ta_nil (w : World) : (Instr.typeAssert .nilIface 20 53 true).run Tryz.prog w = .ok (.tuple #[.agg #[.int .i64 0, .int .i64 0], .bool false]) w := by kernel_rfl
end Go.Proofs.YtoafcpbpnkfhoaaGreatDoor.Prs
