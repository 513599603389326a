/- In a region that draws its order: an operation that is not wanted is passed over. -/
import Derived.Test.YtdafpnpfcmgfcaaGreatDoorH1
namespace Go.Proofs.YtdafpnpfcmgfcaaGreatDoor
open Go.RowKit

section
variable {P : Program} {ops : Array Oper} {Q : Exit → Act → World → Prop} {md : Region.Mode} {S : World → Prop} {z : Nat}
theorem wpT_skip (i : Nat) {oi : Oper} {fuel d : Nat} {listed : Array Bool} {l : List Value} {df : List Deferred} {w : World} (hi : ops[i]? = some oi) (hd : oi.dst = some d)
    (hs : Region.noSelect ops = true) (hz : waits md ops z i = true) (hf : Region.free md ops listed i = true) (hr : (Region.ready md ops listed).contains i = true)
    (hQ : ∀ c a w, Q (.panic c) (a.put (some d) undef) w → Q (.panic c) a w) (hS : S w) (hw : Region.wanted oi (yielded ops l.toArray) = false)
    (h : wpT P md ops Q S z fuel (listed.setIfInBounds i true) { tmps := (l.set d undef).toArray, defers := df } w) : wpT P md ops Q S z (fuel + 1) listed { tmps := l.toArray, defers := df } w :=
  wpT_first hi (Region.noSelect_spec hs) (by rw [hd]; exact hQ) hz fuel listed _ w (Region.free_spec hi hf) (by simpa using hr) (Or.inr ⟨hw, rfl⟩) hS (by rw [hd]; simpa [Act.put] using h)
end
end Go.Proofs.YtdafpnpfcmgfcaaGreatDoor
