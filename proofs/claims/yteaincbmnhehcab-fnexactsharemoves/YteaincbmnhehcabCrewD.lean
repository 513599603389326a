/- The group's code in company: where it stops. -/
import Derived.Conc.CrowdSpec
namespace Go.Proofs.Yteaincbmnhehcab
open Go Go.Conc Go.ConcN
open Go.ConcR (KK wgBlock WgAt stA smA rd wr mk Payload DC0)

/-- What the starter suffers in the group's own code: the group's block stays one. -/
def RS (ty : TypeId) (Wg : Nat) (w w₁ : World) : Prop := WgLive ty Wg w → WgLive ty Wg w₁
theorem rs_rely {ty : TypeId} {Wg : Nat} {w w₁ : World} (h : WgLive ty Wg w) (r : RS ty Wg w w₁) : WgLive ty Wg w₁ := r h

section
variable (P : Program) (ty : TypeId) (Wg : Nat)
/-- It says one word, and goes on so. -/
def AtWord (m : Mark) (Next : Goroutine → World → Prop) (g : Goroutine) (w : World) : Prop :=
  g.status = .running ∧ ∃ g', stepG P true g w = .go g' w #[mk m] ∧ ∃ k, Goes P true (RS ty Wg) DC0 Next k g' w
def AtMid (Next : Goroutine → World → Prop) (g : Goroutine) (w : World) : Prop := AtWord P ty Wg (.read ⟨Wg, 1, none⟩) (AtWord P ty Wg .enable Next) g w ∨ AtWord P ty Wg .enable Next g w
/-- The atomic addition. -/
def AtPlus (Next : Goroutine → World → Prop) (g : Goroutine) (w : World) : Prop :=
  g.status = .running ∧ ∀ v : Nat, v < 2147483647 → WgAt ty Wg w (v * KK) 0 → ∃ g', stepG P true g w = .go g' (w.setCell (stA Wg) (.int .u64 ((v + 1) * KK))) #[rd (stA Wg), wr (stA Wg)] ∧
    ∃ k, Goes P true (RS ty Wg) DC0 (AtMid P ty Wg Next) k g' (w.setCell (stA Wg) (.int .u64 ((v + 1) * KK)))
end

section
variable (P : Program) (ty : TypeId) (Wg : Nat) (Ret Anch : Goroutine → World → Prop)
/-- The join is seen. -/
def AtJoin : Goroutine → World → Prop := AtWord P ty Wg .enable (AtWord P ty Wg (.acquire (stA Wg)) Ret)
/-- It looks once more: nobody is left. -/
def AtLook (g : Goroutine) (w : World) : Prop := g.status = .running ∧ (WgAt ty Wg w 0 0 → ∃ g', stepG P true g w = .go g' w #[rd (stA Wg)] ∧ ∃ k, Goes P true (RS ty Wg) DC0 (AtJoin P ty Wg Ret) k g' w)
/-- At the semaphore. -/
def AtSem (g : Goroutine) (w : World) : Prop :=
  g.status = .running ∧ g.offers = none ∧ ((∃ st, WgAt ty Wg w st 0) → stepG P true g w = .go { g with status := .blocked } w #[]) ∧
    (WgAt ty Wg w 0 1 → ∃ g', stepG P true g w = .go g' (w.setCell (smA Wg) (.int .u32 0)) (semEvents (smA Wg)) ∧ ∃ k, Goes P true (RS ty Wg) DC0 (AtLook P ty Wg Ret) k g' (w.setCell (smA Wg) (.int .u32 0)))
/-- It registers, 'vs' having been seen: or misses. -/
def AtCas (vs : Nat) (g : Goroutine) (w : World) : Prop :=
  g.status = .running ∧ ∀ v : Nat, v < 2147483648 → WgAt ty Wg w (v * KK) 0 →
    (v = vs → ∃ g', stepG P true g w = .go g' (w.setCell (stA Wg) (.int .u64 (v * KK + 1))) #[rd (stA Wg), wr (stA Wg)] ∧ ∃ k, Goes P true (RS ty Wg) DC0 (AtWord P ty Wg (.write ⟨Wg, 1, none⟩) (AtSem P ty Wg Ret)) k g' (w.setCell (stA Wg) (.int .u64 (v * KK + 1)))) ∧
    (v ≠ vs → ∃ g', stepG P true g w = .go g' w #[rd (stA Wg)] ∧ ∃ k, Goes P true (RS ty Wg) DC0 Anch k g' w)
/-- It looks how many are left. -/
def AtSee (g : Goroutine) (w : World) : Prop :=
  g.status = .running ∧ ∀ v : Nat, v < 2147483648 → WgAt ty Wg w (v * KK) 0 → ∃ g', stepG P true g w = .go g' w #[rd (stA Wg)] ∧
    (v = 0 → ∃ k, Goes P true (RS ty Wg) DC0 (AtJoin P ty Wg Ret) k g' w) ∧ (v ≠ 0 → ∃ k, Goes P true (RS ty Wg) DC0 (AtCas P ty Wg Ret Anch v) k g' w)
end

end Go.Proofs.Yteaincbmnhehcab
