/- Small laws: a world that has drawn; wrapped sums. -/
import Derived.Test.YtdafpnpfcmgfcaaGreatDoorS3
import Derived.Test.YtdafpnpfcmgfcaaGreatDoorKA
namespace Go.Proofs.YtdafpnpfcmgfcaaGreatDoor
open Go.RowKit

theorem gb_tr' {a b : World} {row : Option Nat} (h : a.grownBy b row) : a.grownBy b.drew row := ⟨h.os, h.tape, h.output, h.size, h.block⟩
theorem wrapS {z : Int} (h0 : 0 ≤ z) (h1 : z < 9223372036854775808) : IntKind.i64.wrap z = z := by rw [IntKind.wrap_i64]; omega
end Go.Proofs.YtdafpnpfcmgfcaaGreatDoor
