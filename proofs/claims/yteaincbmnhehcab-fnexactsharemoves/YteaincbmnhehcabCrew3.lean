/- How the group's two cells go on with a worker's steps. -/
import Derived.Test.YteaincbmnhehcabCrew2
namespace Go.Proofs.Yteaincbmnhehcab
open Go Go.Conc Go.ConcN
open Go.ConcR (KK)

theorem upd_stage {D : Nat → WD} {i : Nat} (x : WD) (a : Nat) : (upd D i x a).stage = if a = i then x.stage else (D a).stage := by
  unfold upd; split <;> rfl

section
variable {j : Nat} {D : Nat → WD} {tag : CTag} {st sm : Int} {i : Nat}

/-- A worker takes itself off the count. -/
theorem off_count (hm : Go.ConcN.Mode j D tag st sm) (hi : i < j) (hs : (D i).stage = 5) (hj : j + pend tag < 2147483648) :
    ∃ v wt : Nat, wt ≤ 1 ∧ v < 2147483647 ∧ st = ((v : Int) + 1) * KK + wt ∧ sm = 0 ∧ (v = 0 ∧ wt = 1 → ∀ m, Go.ConcN.Mode j (upd D i ⟨4, m, 1⟩) tag ((v : Int) * KK + wt) 0) ∧ (¬ (v = 0 ∧ wt = 1) → ∀ m, Go.ConcN.Mode j (upd D i ⟨1, m, 1⟩) tag ((v : Int) * KK + wt) 0) := by
  have c1 : cnt (D i) = 1 := by simp [cnt, hs]
  have hV := Vc_le j D
  have hV1 : 1 ≤ Vc j D := by have := le_sumTo (f := fun x => cnt (D x)) hi; simp only [Vc]; omega
  have hq : ∀ m, Vc j (upd D i ⟨1, m, 1⟩) + 1 = Vc j D := fun m => by
    have := Vc_upd D (⟨1, m, 1⟩ : WD) hi
    have : cnt (⟨1, m, 1⟩ : WD) = 0 := rfl
    omega
  have hop : ∀ m, OpenSt j D → OpenSt j (upd D i ⟨1, m, 1⟩) := fun m h a ha => by
    rw [upd_stage]; split
    · simp
    · exact h a ha
  cases hm with
  | opn h1 h2 h3 =>
    refine ⟨Vc j D + pend tag - 1, 0, by omega, by omega, ?_, rfl, fun h => absurd h.2 (by decide), fun _ m => ?_⟩
    · have : ((Vc j D + pend tag : Nat) : Int) = ((Vc j D + pend tag - 1 : Nat) : Int) + 1 := by omega
      rw [this]; simp
    · have e : (((Vc j D + pend tag - 1 : Nat) : Int)) * KK + ((0 : Nat) : Int) = ((Vc j (upd D i ⟨1, m, 1⟩) + pend tag : Nat) : Int) * KK := by
        have := hq m
        have h0 : Vc j D + pend tag - 1 = Vc j (upd D i ⟨1, m, 1⟩) + pend tag := by omega
        rw [h0]; simp
      rw [e]
      exact .opn h1 (hop m h2) fun vs ev => by have := h3 vs ev; have := hq m; omega
  | reg h1 h2 h3 =>
    refine ⟨Vc j D - 1, 1, by omega, by omega, ?_, rfl, fun h m => ?_, fun h m => ?_⟩
    · have : ((Vc j D : Nat) : Int) = ((Vc j D - 1 : Nat) : Int) + 1 := by omega
      rw [this]; rfl
    · have hv : Vc j D = 1 := by omega
      have hoth : ∀ a, a < j → a ≠ i → (D a).stage = 1 := fun a ha e => by
        have c0 := others_uncounted hi hv c1 a ha e
        have := h2 a ha
        simp only [cnt] at c0
        split at c0 <;> omega
      have key := Go.ConcN.Mode.last (D := upd D i ⟨4, m, 1⟩) (tag := tag) i h1 hi (by rw [upd_same]; simp) (fun a ha e => by rw [upd_ne D _ e]; exact hoth a ha e)
      rw [upd_same] at key
      rw [h.1]
      simpa using key
    · have e : ((Vc j D - 1 : Nat) : Int) * KK + ((1 : Nat) : Int) = ((Vc j (upd D i ⟨1, m, 1⟩) : Nat) : Int) * KK + 1 := by
        have := hq m
        have h0 : Vc j D - 1 = Vc j (upd D i ⟨1, m, 1⟩) := by omega
        rw [h0]; rfl
      rw [e]
      exact .reg h1 (hop m h2) (by have := hq m; omega)
  | last L _ h2 h3 h4 =>
    exfalso
    by_cases e : i = L
    · subst e; omega
    · have := h4 i hi e; omega
  | sema h2 => exfalso; have := h2 i hi; omega
  | fin _ h2 => exfalso; have := h2 i hi; omega

/-- The last one goes on to the semaphore. -/
theorem last_on (hm : Go.ConcN.Mode j D tag st sm) (hi : i < j) (hs : (D i).stage = 4 ∨ (D i).stage = 3) {s' : Nat} (hs' : s' = 3 ∨ s' = 2) (m : Nat) : st = 1 ∧ sm = 0 ∧ Go.ConcN.Mode j (upd D i ⟨s', m, 1⟩) tag (if s' = 2 then 0 else 1) 0 := by
  obtain ⟨h1, h2, h3, h4⟩ := hm.isLast hi (by omega)
  refine ⟨by rw [h3]; split <;> omega, h4, ?_⟩
  have key := Go.ConcN.Mode.last (D := upd D i ⟨s', m, 1⟩) (tag := tag) i h1 hi (by rw [upd_same]; simp; omega) (fun a ha e => by rw [upd_ne D _ e]; exact h2 a ha e)
  rw [upd_same] at key
  exact key
theorem last_up (hm : Go.ConcN.Mode j D tag st sm) (hi : i < j) (hs : (D i).stage = 2) (m : Nat) : st = 0 ∧ sm = 0 ∧ isW3 tag ∧ Go.ConcN.Mode j (upd D i ⟨1, m, 1⟩) .w3 0 1 := by
  obtain ⟨h1, h2, h3, h4⟩ := hm.isLast hi (by omega)
  refine ⟨by rw [h3]; simp [hs], h4, h1, .sema fun a ha => ?_⟩
  rw [upd_stage]
  split
  · rfl
  · exact h2 a ha ‹_›

theorem less_stage (hi : i < j) {x : WD} (h : x.stage < (D i).stage) : Less j (upd D i x) D := by
  have := sumTo_upd D x WD.stage hi
  left
  simp only [Ssum]
  omega
theorem less_fuel (hi : i < j) {x : WD} (h : x.stage = (D i).stage) (hf : x.fuel < (D i).fuel) : Less j (upd D i x) D := by
  have h1 := sumTo_upd D x WD.stage hi
  have h2 := sumTo_upd D x WD.fuel hi
  right
  simp only [Ssum, Fsum]
  omega
theorem Vc_le_upd (hi : i < j) {x : WD} (h : cnt x ≤ cnt (D i)) : Vc j (upd D i x) ≤ Vc j D := by
  have := Vc_upd D x hi
  omega
theorem bitsIn_upd {bit : Nat → Nat} {Ad : Nat → Bool} (hi : i < j) (h : Ad i = false) : bitsIn bit j (upd Ad i true) = bitsIn bit j Ad + bit i := by
  have := sumTo_upd Ad true (fun _ => 0) hi
  have key : ∀ {j : Nat}, i < j → sumTo j (fun a => if upd Ad i true a = true then bit a else 0) = sumTo j (fun a => if Ad a = true then bit a else 0) + bit i := by
    intro j
    induction j with
    | zero => intro h; omega
    | succ j ih =>
      intro hij
      simp only [sumTo]
      by_cases e : i = j
      · subst e
        have : sumTo i (fun a => if upd Ad i true a = true then bit a else 0) = sumTo i (fun a => if Ad a = true then bit a else 0) := sumTo_congr fun a ha => by rw [upd_ne Ad _ (by omega)]
        rw [this, upd_same, h]
        simp
      · rw [ih (by omega), upd_ne Ad _ (by omega)]
        omega
  exact key hi
theorem bitsIn_same {bit : Nat → Nat} {Ad : Nat → Bool} {b : Bool} (h : Ad i = b) : bitsIn bit j (upd Ad i b) = bitsIn bit j Ad := by
  have : upd Ad i b = Ad := by
    funext a
    unfold upd
    split
    · rename_i e; subst e; exact h.symm
    · rfl
  rw [this]
end
end Go.Proofs.Yteaincbmnhehcab
