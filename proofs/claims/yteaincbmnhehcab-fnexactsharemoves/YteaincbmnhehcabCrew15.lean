/- Beside leavers: a new variable. -/
import Derived.Test.YteaincbmnhehcabCrew14
namespace Go.Proofs.Yteaincbmnhehcab
open Go Go.Conc Go.ConcN
open Go.ConcR (KK wgBlock WgAt stA smA rd wr mk Payload DC0 Bk g_of_ofEvents)

def RT (_ _ : World) : Prop := True
theorem tt_rely {w w₁ : World} (h : True) (_ : RT w w₁) : True := h

/-- It makes the variable whose block will be N. -/
def AtNewB (P : Program) (N : Nat) (o : Obj) (Next : Goroutine → World → Prop) (g : Goroutine) (w : World) : Prop :=
  g.status = .running ∧ (w.heap.size = N → ∃ g', stepG P true g w = .go g' (w.alloc o) #[] ∧ ∃ k, Goes P true RT DC0 Next k g' (w.alloc o))

section
variable {P : Program} {S : Nat → Prop} {n : Nat} {a a' : Goroutine} {w w' : World} {m : Machine} {t : Trace}
theorem Beside.new {N : Nat} {o : Obj} {Next : Goroutine → World → Prop} (h : Beside P S n a w m t) (hs : ∀ w₁, AtNewB P N o Next a w₁) (hN : w.heap.size = N) :
    Rch P m t (fun m' t' => ∃ a', (∀ w₁, Next a' w₁) ∧ Beside P S n a' (w.alloc o) m' t') := by
  refine (h.stepN (hs w).1 (Nx := fun a' w' => w' = w.alloc o ∧ ∃ k w1, Goes P true RT DC0 Next k a' w1) fun d => ?_).trans fun m' t' ⟨a', w', ⟨e, k, w1, hg'⟩, h'⟩ => Beside.goes k a' w1 m' t' hg' (by rw [← e]; exact h')
  obtain ⟨_, hx⟩ := hs (w.at d)
  obtain ⟨g', hgo, k, hk⟩ := hx hN
  exact ⟨g', w.alloc o, d, #[], hgo, by simp, show w.heap.size ≤ (w.heap.push o).size by simp, rfl, k, _, hk⟩
theorem AtNewB.of {N : Nat} {o : Obj} {Next : Goroutine → World → Prop} {g : Goroutine} {w : World} (h : AtNewB P N o Next g w) : g.status = .running := h.1
end
end Go.Proofs.Yteaincbmnhehcab
