/-
  No cell of these rows narrows 'for every input' (looked for: loops, veiled, ifaces, maps, wideKeys, modest, calm, conditions, laid).
  DERIVED. THE GIVEN ROWS OF THIS SEAT. 6 by the template 'for every input the law returns true; each argument reads behind the call as it read before'; 0 by the template 'total and deterministic' (their statements: YtdafpnpfcmgfcaaTotals.lean).
  GIVEN WITH THE SEED: the statements are not yours to turn. If you find one false, say at which input.
  Laid BY PROGRAM, IN A SANDBOX (cutbox-rows.mjs): the forced cells as the released guide's own fill.sh prints them over the translation 93d53d14143e5e0b… (all of the seat's roots in one cut). By AI agents, Wed Nov 11 2026. No macro, syntax, notation, axiom, sorry.
-/
import Derived.Test.YtdafpnpfcmgfcaaChecked
import GoSem.Claim
import GoSem.ClaimJoined
import GoSem.ClaimMapViews
import Derived.JoinedTies
import Derived.KernelRfl
namespace Go.Proofs.Ytdafpnpfcmgfcaa
/- THE CELL 'sum', in the pinned program and in every row, IS THE sha256 OF THE DUMP (.gsa) THAT YtdafpnpfcmgfcaaProg.lean LOADS. Nothing in Lean hashes anything: it is a label: what it is worth is what the hold of that sum in a sandbox is worth. -/
noncomputable def Try.pinned : Pinned := { name := "ytdafpnpfcmgfcaa", sum := "93d53d14143e5e0bee21ecda64a066490b486e9d0dc6ea04a843dd1957aea044", checked := Try.checked }
namespace Rows
def none {H : Type} : Left H := { results := [], args := [] }

/-- 'laws.FnOrder': WHATEVER THE INPUT: true; the input reads as it did. -/
def fnOrderSpec : ChangeSpec := { name := "fnOrder", fn := fun _ => fun
  | [d1, d2] => { results := [.lit (.bool true)], args := [d1, d2] }
  | _ => none }
def fnOrderRow : OpenClaim := { program := "ytdafpnpfcmgfcaa", sum := "93d53d14143e5e0bee21ecda64a066490b486e9d0dc6ea04a843dd1957aea044", func := "loop.example/maltshare/laws.FnOrder", spec := "fnOrder", unfollowed := true, recurses := true, apart := false }
def FnOrderSaid : Prop := fnOrderRow.holds Try.pinned (OpenSpec.ofChange fnOrderSpec)

/-- ITS FALSE NEIGHBOUR: 'it returns false'. Refute it at one input. -/
def fnOrderWrong : ChangeSpec := { name := "fnOrder", fn := fun _ => fun
  | [d1, d2] => { results := [.lit (.bool false)], args := [d1, d2] }
  | _ => none }
def FnOrderWrongFalsely : Prop := fnOrderRow.holds Try.pinned (OpenSpec.ofChange fnOrderWrong)

/-- 'laws.FnWho': WHATEVER THE INPUT: true; the input reads as it did. -/
def fnWhoSpec : ChangeSpec := { name := "fnWho", fn := fun _ => fun
  | [d] => { results := [.lit (.bool true)], args := [d] }
  | _ => none }
def fnWhoRow : OpenClaim := { program := "ytdafpnpfcmgfcaa", sum := "93d53d14143e5e0bee21ecda64a066490b486e9d0dc6ea04a843dd1957aea044", func := "loop.example/maltshare/laws.FnWho", spec := "fnWho", apart := false }
def FnWhoSaid : Prop := fnWhoRow.holds Try.pinned (OpenSpec.ofChange fnWhoSpec)

/-- ITS FALSE NEIGHBOUR: 'it returns false'. Refute it at one input. -/
def fnWhoWrong : ChangeSpec := { name := "fnWho", fn := fun _ => fun
  | [d] => { results := [.lit (.bool false)], args := [d] }
  | _ => none }
def FnWhoWrongFalsely : Prop := fnWhoRow.holds Try.pinned (OpenSpec.ofChange fnWhoWrong)

/-- 'laws.FnExactShareBookOk': WHATEVER THE INPUT: true; the input reads as it did. -/
def fnExactShareBookOkSpec : ChangeSpec := { name := "fnExactShareBookOk", fn := fun _ => fun
  | [d] => { results := [.lit (.bool true)], args := [d] }
  | _ => none }
def fnExactShareBookOkRow : OpenClaim := { program := "ytdafpnpfcmgfcaa", sum := "93d53d14143e5e0bee21ecda64a066490b486e9d0dc6ea04a843dd1957aea044", func := "loop.example/maltshare/laws.FnExactShareBookOk", spec := "fnExactShareBookOk", apart := false }
def FnExactShareBookOkSaid : Prop := fnExactShareBookOkRow.holds Try.pinned (OpenSpec.ofChange fnExactShareBookOkSpec)

/-- ITS FALSE NEIGHBOUR: 'it returns false'. Refute it at one input. -/
def fnExactShareBookOkWrong : ChangeSpec := { name := "fnExactShareBookOk", fn := fun _ => fun
  | [d] => { results := [.lit (.bool false)], args := [d] }
  | _ => none }
def FnExactShareBookOkWrongFalsely : Prop := fnExactShareBookOkRow.holds Try.pinned (OpenSpec.ofChange fnExactShareBookOkWrong)

/-- 'laws.FnExactShareWho': WHATEVER THE INPUT: true; the input reads as it did. -/
def fnExactShareWhoSpec : ChangeSpec := { name := "fnExactShareWho", fn := fun _ => fun
  | [d1, d2] => { results := [.lit (.bool true)], args := [d1, d2] }
  | _ => none }
def fnExactShareWhoRow : OpenClaim := { program := "ytdafpnpfcmgfcaa", sum := "93d53d14143e5e0bee21ecda64a066490b486e9d0dc6ea04a843dd1957aea044", func := "loop.example/maltshare/laws.FnExactShareWho", spec := "fnExactShareWho", apart := false }
def FnExactShareWhoSaid : Prop := fnExactShareWhoRow.holds Try.pinned (OpenSpec.ofChange fnExactShareWhoSpec)

/-- ITS FALSE NEIGHBOUR: 'it returns false'. Refute it at one input. -/
def fnExactShareWhoWrong : ChangeSpec := { name := "fnExactShareWho", fn := fun _ => fun
  | [d1, d2] => { results := [.lit (.bool false)], args := [d1, d2] }
  | _ => none }
def FnExactShareWhoWrongFalsely : Prop := fnExactShareWhoRow.holds Try.pinned (OpenSpec.ofChange fnExactShareWhoWrong)

/-- 'laws.FnExactShareFits': WHATEVER THE INPUT: true; the input reads as it did. -/
def fnExactShareFitsSpec : ChangeSpec := { name := "fnExactShareFits", fn := fun _ => fun
  | [d1, d2] => { results := [.lit (.bool true)], args := [d1, d2] }
  | _ => none }
def fnExactShareFitsRow : OpenClaim := { program := "ytdafpnpfcmgfcaa", sum := "93d53d14143e5e0bee21ecda64a066490b486e9d0dc6ea04a843dd1957aea044", func := "loop.example/maltshare/laws.FnExactShareFits", spec := "fnExactShareFits", apart := false }
def FnExactShareFitsSaid : Prop := fnExactShareFitsRow.holds Try.pinned (OpenSpec.ofChange fnExactShareFitsSpec)

/-- ITS FALSE NEIGHBOUR: 'it returns false'. Refute it at one input. -/
def fnExactShareFitsWrong : ChangeSpec := { name := "fnExactShareFits", fn := fun _ => fun
  | [d1, d2] => { results := [.lit (.bool false)], args := [d1, d2] }
  | _ => none }
def FnExactShareFitsWrongFalsely : Prop := fnExactShareFitsRow.holds Try.pinned (OpenSpec.ofChange fnExactShareFitsWrong)

/-- 'laws.FnExactShareOrder': WHATEVER THE INPUT: true; the input reads as it did. -/
def fnExactShareOrderSpec : ChangeSpec := { name := "fnExactShareOrder", fn := fun _ => fun
  | [d] => { results := [.lit (.bool true)], args := [d] }
  | _ => none }
def fnExactShareOrderRow : OpenClaim := { program := "ytdafpnpfcmgfcaa", sum := "93d53d14143e5e0bee21ecda64a066490b486e9d0dc6ea04a843dd1957aea044", func := "loop.example/maltshare/laws.FnExactShareOrder", spec := "fnExactShareOrder", unfollowed := true, recurses := true, apart := false }
def FnExactShareOrderSaid : Prop := fnExactShareOrderRow.holds Try.pinned (OpenSpec.ofChange fnExactShareOrderSpec)

/-- ITS FALSE NEIGHBOUR: 'it returns false'. Refute it at one input. -/
def fnExactShareOrderWrong : ChangeSpec := { name := "fnExactShareOrder", fn := fun _ => fun
  | [d] => { results := [.lit (.bool false)], args := [d] }
  | _ => none }
def FnExactShareOrderWrongFalsely : Prop := fnExactShareOrderRow.holds Try.pinned (OpenSpec.ofChange fnExactShareOrderWrong)

/- THE SECOND FORM. 'bulk': how many values and letters a reading holds, each counted each time it is reached (what is shared counts as often as it is met; a slice's spare places count too). A statement '..UptoSaid' is the law's where the arguments, and the package variables that the reading takes, are together of bulk at most 1048576: NARROWER than '..Said'. Prove '..Said' where nothing that the law and all that it calls make is longer than what came in: it says more and counts as full. Else prove '..UptoSaid'. A law counts once. -/
mutual
def uptoBulk {H : Type} : DataW H → Nat
  | .lit (.string bytes) => bytes.length + 1
  | .lit _ => 1
  | .nil => 1
  | .ptr d => uptoBulk d + 1
  | .slice elems spare => uptoBulkAll elems + uptoBulkAll spare + 1
  | .agg parts => uptoBulkAll parts + 1
  | .iface _ d => uptoBulk d + 1
  | .map entries => uptoBulkEntries entries + 1
  | .held _ => 1
def uptoBulkAll {H : Type} : List (DataW H) → Nat
  | [] => 0
  | d :: r => uptoBulk d + uptoBulkAll r
def uptoBulkEntries {H : Type} : List (Lit × DataW H) → Nat
  | [] => 0
  | x :: r => uptoBulkEntry x + uptoBulkEntries r
def uptoBulkEntry {H : Type} : Lit × DataW H → Nat
  | (.string bytes, d) => bytes.length + uptoBulk d + 1
  | (_, d) => uptoBulk d + 1
 end
def uptoSmall : (H : Type) → List (DataW H) → Bool := fun _ ds => decide (uptoBulkAll ds ≤ 1048576)
def OpenSpec.upto (s : _root_.Go.ChangeSpec) : _root_.Go.OpenSpec := { _root_.Go.OpenSpec.ofChange s with cond := some uptoSmall }

/-- 'laws.FnOrder', WHERE WHAT IT READS IS OF BULK AT MOST 1048576: true; the input reads as it did. -/
def fnOrderUptoRow : OpenClaim := { program := "ytdafpnpfcmgfcaa", sum := "93d53d14143e5e0bee21ecda64a066490b486e9d0dc6ea04a843dd1957aea044", func := "loop.example/maltshare/laws.FnOrder", spec := "fnOrder", unfollowed := true, recurses := true, apart := false, narrowed := true }
def FnOrderUptoSaid : Prop := fnOrderUptoRow.holds Try.pinned (OpenSpec.upto fnOrderSpec)

/-- 'laws.FnWho', WHERE WHAT IT READS IS OF BULK AT MOST 1048576: true; the input reads as it did. -/
def fnWhoUptoRow : OpenClaim := { program := "ytdafpnpfcmgfcaa", sum := "93d53d14143e5e0bee21ecda64a066490b486e9d0dc6ea04a843dd1957aea044", func := "loop.example/maltshare/laws.FnWho", spec := "fnWho", apart := false, narrowed := true }
def FnWhoUptoSaid : Prop := fnWhoUptoRow.holds Try.pinned (OpenSpec.upto fnWhoSpec)

/-- 'laws.FnExactShareBookOk', WHERE WHAT IT READS IS OF BULK AT MOST 1048576: true; the input reads as it did. -/
def fnExactShareBookOkUptoRow : OpenClaim := { program := "ytdafpnpfcmgfcaa", sum := "93d53d14143e5e0bee21ecda64a066490b486e9d0dc6ea04a843dd1957aea044", func := "loop.example/maltshare/laws.FnExactShareBookOk", spec := "fnExactShareBookOk", apart := false, narrowed := true }
def FnExactShareBookOkUptoSaid : Prop := fnExactShareBookOkUptoRow.holds Try.pinned (OpenSpec.upto fnExactShareBookOkSpec)

/-- 'laws.FnExactShareWho', WHERE WHAT IT READS IS OF BULK AT MOST 1048576: true; the input reads as it did. -/
def fnExactShareWhoUptoRow : OpenClaim := { program := "ytdafpnpfcmgfcaa", sum := "93d53d14143e5e0bee21ecda64a066490b486e9d0dc6ea04a843dd1957aea044", func := "loop.example/maltshare/laws.FnExactShareWho", spec := "fnExactShareWho", apart := false, narrowed := true }
def FnExactShareWhoUptoSaid : Prop := fnExactShareWhoUptoRow.holds Try.pinned (OpenSpec.upto fnExactShareWhoSpec)

/-- 'laws.FnExactShareFits', WHERE WHAT IT READS IS OF BULK AT MOST 1048576: true; the input reads as it did. -/
def fnExactShareFitsUptoRow : OpenClaim := { program := "ytdafpnpfcmgfcaa", sum := "93d53d14143e5e0bee21ecda64a066490b486e9d0dc6ea04a843dd1957aea044", func := "loop.example/maltshare/laws.FnExactShareFits", spec := "fnExactShareFits", apart := false, narrowed := true }
def FnExactShareFitsUptoSaid : Prop := fnExactShareFitsUptoRow.holds Try.pinned (OpenSpec.upto fnExactShareFitsSpec)

/-- 'laws.FnExactShareOrder', WHERE WHAT IT READS IS OF BULK AT MOST 1048576: true; the input reads as it did. -/
def fnExactShareOrderUptoRow : OpenClaim := { program := "ytdafpnpfcmgfcaa", sum := "93d53d14143e5e0bee21ecda64a066490b486e9d0dc6ea04a843dd1957aea044", func := "loop.example/maltshare/laws.FnExactShareOrder", spec := "fnExactShareOrder", unfollowed := true, recurses := true, apart := false, narrowed := true }
def FnExactShareOrderUptoSaid : Prop := fnExactShareOrderUptoRow.holds Try.pinned (OpenSpec.upto fnExactShareOrderSpec)

end Rows
end Go.Proofs.Ytdafpnpfcmgfcaa
