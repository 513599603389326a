/- Between calls: goroutine 0 beside leavers, and what the lone run sees. -/
import Derived.Test.YteaincbmnhehcabCrew16
namespace Go.Proofs.Yteaincbmnhehcab
open Go Go.Conc Go.ConcN
open Go.ConcR (KK wgBlock WgAt stA smA rd wr mk Payload DC0 Bk g_of_ofEvents)

/-- Where the law's own memory begins. -/
class Floor where
  low : Nat
/-- Goroutine 0 stands here, all others only leave; 'v' is what the lone run sees; what is shunned is new. -/
def AtM [Floor] (P : Program) (g : Goroutine) (v : World) (m : Machine) (t : Trace) : Prop := ∃ S n w, (1 ≤ n ∧ ∀ b, S b → Floor.low ≤ b) ∧ Cp S v w ∧ Beside P S n g w m t

/-- What the lone run sees while j workers are started. -/
structure Vj (v : World) (lookv : Value) (lty : TypeId) (j : Nat) (u : World) : Prop where
  size : u.heap.size = v.heap.size + 3 + j
  low : ∀ b, b < v.heap.size → u.heap[b]? = v.heap[b]?
  box : u.heap[v.heap.size]? = some (.cells #[lookv] lty)
  os : u.os = v.os
  output : u.output = v.output

section
variable {P : Program} {S : Nat → Prop} {B0 : Nat} {v w : World}
theorem sj0 : SJ S B0 0 = S3 S B0 := by
  funext b
  refine propext ⟨fun h => ?_, .inl⟩
  rcases h with h | ⟨i, hi, _⟩
  · exact h
  · exact absurd hi (Nat.not_lt_zero _)

/-- A row is shunned from now on. -/
theorem Cp.shun {b : Nat} {c : Array Value} {ty : TypeId} (h : Cp S v w) (hb : ¬ S b) (hw : w.heap[b]? = some (.cells c ty)) : Cp (fun x => S x ∨ x = b) { v with heap := v.heap.setIfInBounds b (.cells #[] ty) } w := by
  have hlt : b < w.heap.size := (Array.getElem?_eq_some_iff.1 hw).1
  have hltv : b < v.heap.size := by rw [h.size]; exact hlt
  refine ⟨by simpa using h.size, fun x hx => ?_, fun x hx => ?_, fun x hx => ?_, h.os, h.output⟩
  · rcases hx with hx | rfl
    · simpa using h.low x hx
    · simpa using hltv
  · have h1 : ¬ S x := fun y => hx (.inl y)
    have h2 : b ≠ x := fun y => hx (.inr y.symm)
    show (v.heap.setIfInBounds b _)[x]? = _
    rw [Array.getElem?_setIfInBounds_ne h2]
    exact h.out x h1
  · by_cases hxb : x = b
    · subst hxb
      refine ⟨ty, c, (0, 0), ?_, hw⟩
      show (v.heap.setIfInBounds x _)[x]? = _
      simp [hltv]
    · obtain ⟨t, c', f, e1, e2⟩ := h.brk x (hx.resolve_right hxb)
      refine ⟨t, c', f, ?_, e2⟩
      show (v.heap.setIfInBounds b _)[x]? = _
      rw [Array.getElem?_setIfInBounds_ne (Ne.symm hxb)]
      exact e1
theorem Cp.same_set {S' : Nat → Prop} (h : Cp S v w) (e : ∀ b, S b ↔ S' b) : Cp S' v w := by
  have : S = S' := funext fun b => propext (e b)
  rw [← this]; exact h
theorem cellv_lt {b k : Nat} {x : Value} (hx : v.cell? ⟨b, k, none⟩ = some x) : b < v.heap.size := by
  unfold World.cell? at hx
  cases hb : v.heap[b]? with
  | none => simp [hb] at hx
  | some o => exact (Array.getElem?_eq_some_iff.1 hb).1
/-- What the lone run sees stands in the company's world too, and at no shunned place. -/
theorem Cp.knows (h : Cp S v w) {b k : Nat} {x : Value} (hx : v.cell? ⟨b, k, none⟩ = some x) : ¬ S b ∧ w.cell? ⟨b, k, none⟩ = some x ∧ b < v.heap.size := by
  have hn : ¬ S b := fun hs => by rw [h.cellS (a := ⟨b, k, none⟩) hs] at hx; cases hx
  exact ⟨hn, by rw [← h.cell (a := ⟨b, k, none⟩) hn]; exact hx, cellv_lt hx⟩
end

section
variable [Payload] {P : Program} {ty nty : TypeId} {S : Nat → Prop} {B0 base : Nat} {bit : Nat → Nat} {T0 N0 : Nat} {a : Goroutine} {v : World} {vm : Nat} {m : Machine} {t : Trace} {tag : CTag}
/-- The crew is done. -/
theorem Here.over [Floor] (hS : ∀ b, S b → Floor.low ≤ b) (hB : Floor.low ≤ B0) (h : Here P ty nty S B0 base bit T0 N0 0 tag 0 a v vm m t) : AtM P a v m t := by
  obtain ⟨gs, w, sl, D, Ad, q, st, sm, rfl, h0, hc, hcp, hv⟩ := h
  obtain ⟨hL, hT⟩ := hc.free
  refine ⟨S3 S B0, gs.size, w, ⟨(Array.getElem?_eq_some_iff.1 h0).1, fun b hb => ?_⟩, by rw [← sj0]; exact hcp, gs, sl, q, w.drawn, rfl, h0, rfl, hL, hT⟩
  rcases hb with hb | hb | hb
  · exact hS b hb
  · omega
  · omega
end
end Go.Proofs.Yteaincbmnhehcab
