/- A region that draws its order, in a round: out of the plain walk. -/
import Derived.Test.YtdafpnpfcmgfcaaR3
import Derived.Deep.RegionLaw
import Derived.Maps.AppendAt
import Derived.RangeFuncCalls
namespace Go.Proofs.Ytdafpnpfcmgfcaa
open Go.RowKit Go.Shelf

theorem oper_lift {P : Program} {o : Oper} {a : Act} {w : World} {K : Act → World → Prop} {Q : Exit → Act → World → Prop} (l : Nat) (hd : ∀ c, o.op ≠ .defer c) (h : o.wp P a w K Q) : o.wpIn (Fence.wide.inRound l) 0 P a w K Q := by
  refine ⟨fun _ _ => trivial, ?_⟩
  have e : o.semAt (Fence.wide.inRound l).round a.eval = execOp a.eval o := Oper.semAt_eq _ _ _ hd
  rw [e]
  unfold Oper.wp at h
  generalize (execOp a.eval o).run P w = r at *
  have hdep : (Fence.wide.inRound l).depth.isSome = true → 1 ≤ 0 := fun hh => by simp [Fence.wide] at hh
  cases r with
  | ok n w' =>
    cases n <;> simp only [Oper.upon, Oper.uponIn] at h ⊢ <;>
      first
        | exact h
        | exact ⟨hdep, CallsIn.mono (CallsIn.inRound l (callsIn_wide.2 h)) (fun e w'' he => by cases e <;> exact he)⟩
        | exact ⟨hdep, fun c cs _ => let ⟨v, w', r, s⟩ := h c cs; ⟨v, w', r, stepsIn_wide.2 s⟩⟩
  | halt x w' => cases x <;> simp only [Oper.upon, Oper.uponIn] at h ⊢ <;> exact h

theorem any_lift {P : Program} {md : Region.Mode} {ops : Array Oper} {Q : Exit → Act → World → Prop} (l : Nat) (hd : ∀ (j : Nat) o c, ops[j]? = some o → o.op ≠ .defer c) (hQ : ¬ LetsOut Q) :
    ∀ (fuel : Nat) (listed : Array Bool) (a : Act) (w : World), wpAny P md ops Q fuel listed a w → wpAnyIn (Fence.wide.inRound l) 0 P md ops Q fuel listed a w
  | 0, _, _, _, h => h
  | fuel + 1, listed, a, w, h => by
    refine ⟨h.1, fun i hi => ?_⟩
    have h1 := h.2 i hi
    unfold wpOp at h1
    unfold wpOpIn
    cases ho : ops[i]? with
    | none => rw [ho] at h1; exact any_lift l hd hQ fuel _ a w h1
    | some o =>
      rw [ho] at h1
      simp only at h1 ⊢
      split
      · rename_i hw
        simp only [hw, if_true] at h1
        rcases h1 with h1 | h1
        · exact Oper.wpIn_mono (fun a w => any_lift l hd hQ fuel _ a w) (oper_lift l (fun c => hd i o c ho) h1)
        · exact absurd h1.2 hQ
      · rename_i hw
        simp only [hw] at h1
        exact ⟨fun _ _ => trivial, any_lift l hd hQ fuel _ _ w h1⟩

def noDefer (ops : Array Oper) : Bool := ops.toList.all fun o => match o.op with
  | .defer _ => false
  | _ => true
theorem noDefer_spec {ops : Array Oper} (h : noDefer ops = true) (j : Nat) (o : Oper) (c : Call) (hj : ops[j]? = some o) : o.op ≠ .defer c := by
  intro e
  rw [← Array.getElem?_toList] at hj
  have h1 := List.all_eq_true.1 h o (List.mem_of_getElem? hj)
  rw [e] at h1
  cases h1
theorem wpIn_region_round {P : Program} {id : Nat} {ops : Array Oper} {Q : Exit → Act → World → Prop} {a : Act} {w : World} (l : Nat) (hm : P.follows .mixedOrders = true) (hd : noDefer ops = true) (hQ : ¬ LetsOut Q)
    (h : wpAny P .any ops Q ops.size (Array.replicate ops.size false) a w.drew) : (Code.region id ops true).wpIn (Fence.wide.inRound l) 0 P Q a w :=
  wpIn_region_any hm (any_lift l (noDefer_spec hd) hQ _ _ _ _ h)

theorem Kp.setBox {W : World} {B : Nat} {t : TypeId} {v : Value} (v' : Value) (h : Boxed W B t v) (ht : stateT t = false) : Kp W (W.setCell ⟨B, 0, none⟩ v') := by
  intro k o hk hs
  have hne : k ≠ B := fun e => by
    subst e
    have h1 : W.heap[k]? = some (.cells #[v] t (0, 0)) := h
    rw [h1] at hk; cases hk
    simp only [isState] at hs
    rw [ht] at hs; cases hs
  exact (Below.heap_setCell _ _ _ k hne).trans hk
theorem kp_appended {W w2 : World} {n₀ B : Nat} {t e : TypeId} {size : Nat} {v v' : Value} {k : Nat} {xs : List Value} {tmp : Obj} (he : stateT e = false) (ht : stateT t = false) (hrow : W.ownsRow n₀ e size v k xs) (hv1 : Boxed w2 B t v)
    (hgrow : (W.alloc tmp).grownBy w2 v.ownBlock) : Kp W (w2.setCell ⟨B, 0, none⟩ v') := by
  refine ((Kp.new W tmp).tr (Kp.grown hgrow fun j o ej hj => ?_)).tr (Kp.setBox v' hv1 ht)
  rcases (hrow.alloc tmp).2 with ⟨rfl, _⟩ | ⟨g, cap, cur, rfl, _, hgb, _⟩
  · simp [Value.ownBlock] at ej
  · obtain rfl : g = j := by simpa [Value.ownBlock] using ej
    rw [hgb] at hj; cases hj; exact he

/-- What is left of a region: i, then j, then nothing. -/
def Two (md : Region.Mode) (ops : Array Oper) (i j : Nat) (L : Array Bool) : Prop :=
  Region.ready md ops L = [i] ∧ Region.ready md ops (L.setIfInBounds i true) = [j] ∧ Region.ready md ops ((L.setIfInBounds i true).setIfInBounds j true) = []
theorem with_tail {P : Program} {md : Region.Mode} {ops : Array Oper} {Q : Exit → Act → World → Prop} {n : Nat} {L : Array Bool} {a : Act} {w : World} {A : Act} {W' : World} {m i j : Nat}
    (main : (∀ L', Two md ops i j L' → wpAny P md ops Q m L' A W') → wpAny P md ops Q n L a w) (tail : ∀ L', Two md ops i j L' → wpAny P md ops Q m L' A W') : wpAny P md ops Q n L a w := main tail
end Go.Proofs.Ytdafpnpfcmgfcaa
