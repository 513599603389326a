/- The join: all that the workers did is known. -/
import Derived.Test.YteaincbmnhehcabCrew10
namespace Go.Proofs.Yteaincbmnhehcab
open Go Go.Conc Go.ConcN
open Go.ConcR (KK wgBlock WgAt stA smA rd wr mk Payload DC0 Bk g_of_ofEvents)

section
variable [Payload] {P : Program} {ty nty : TypeId} {S : Nat → Prop} {B0 base : Nat} {bit : Nat → Nat} {T0 N0 : Nat} {j : Nat} {tag : CTag} {d0 : Nat} {t : Trace}
  {gs gs1 : Array Goroutine} {w w1 : World} {D : Nat → WD} {Ad : Nat → Bool} {q : Nat → Nat} {st sm : Int} {fn : FuncId} {pos : String}

theorem Cw.joined (h : Cw P ty nty S B0 base bit j tag 0 T0 N0 gs w t D Ad q st sm) (h1 : Cw P ty nty S B0 base bit j tag 0 T0 N0 gs1 w1 (t ++ MemOp.ofEvents 0 fn pos #[Go.ConcR.mk (.acquire (stA (B0 + 2)))]) D Ad q 0 0) (hall : AllQuit j D) (hfin : isFin tag) :
    Cw P ty nty S B0 (base + j) bit 0 tag 0 T0 (N0 + sumTo j bit) gs1 w1 (t ++ MemOp.ofEvents 0 fn pos #[Go.ConcR.mk (.acquire (stA (B0 + 2)))]) D Ad (fun i => if i < base then q i else (D (i - base)).fuel) 0 0 := by
  have hb := h.base1
  have hu : MemOp.ofEvents 0 fn pos #[Go.ConcR.mk (.acquire (stA (B0 + 2)))] = #[{ g := 0, fn, pos, act := .mark (.acquire (stA (B0 + 2))) }] := by
    rw [ofEvents_eq]; simp [Go.ConcR.mk, MemAct.ofEvent]
  generalize hx : ({ g := 0, fn, pos, act := .mark (.acquire (stA (B0 + 2))) } : MemOp) = x at hu
  have hx1 : x.g = 0 ∧ x.act = .mark (.acquire (stA (B0 + 2))) := by subst hx; exact ⟨rfl, rfl⟩
  rw [hu] at h1 ⊢
  have hq : (t ++ #[x])[t.size]? = some x := by simp
  have hqa : (t ++ #[x]).act? t.size = some (.mark (.acquire (stA (B0 + 2)))) := by rw [act?_of hq, hx1.2]
  have hqg : (t ++ #[x]).g? t.size = some 0 := by simp [Trace.g?, hx1.1]
  have hqh : (t ++ #[x]).heard t.size := ⟨0, hqg, by rw [deaf_old (Nat.le_refl _)]; exact h.deaf0⟩
  have nt : x.act.touch? = none := by rw [hx1.2]; rfl
  -- each worker's release comes ahead of the acquire
  have edge : ∀ i, i < j → ∃ r, r < t.size ∧ (t ++ #[x]).g? r = some (base + i) ∧ HappensBefore (t ++ #[x]) r t.size ∧ (∀ y, r < y → (t ++ #[x]).g? y = some (base + i) → ¬ (t ++ #[x]).counts y) ∧ (∀ y b, r < y → (t ++ #[x]).g? y = some (base + i) → touchAt (t ++ #[x]) y = some b → ShOf (S3 S B0) b.loc) ∧ touchAt (t ++ #[x]) r = none := by
    intro i hi
    obtain ⟨r, hr, hr'⟩ := h.rel i hi (by rw [hall i hi]; omega)
    have hlt : r < t.size := lt_of_act? hr.act
    have hone : ∀ op ∈ #[x], op.g = 0 := fun op hop => by
      have e : op = x := by simpa using hop
      rw [e]; exact hx1.1
    have hr1 : RelBy (stA (B0 + 2)) (t ++ #[x]) (base + i) r := hr.appOther hone (by omega)
    have hT : T0 ≤ r := Nat.le_of_not_lt fun hlt' => by
      have := h.early r (base + i) hlt' hr.g
      omega
    refine ⟨r, hlt, hr1.g, .single (.inr ⟨.marked hlt (.inr hr1.act) hqa (fun k hk _ => h1.norel k (by omega)), hr1.heard, hqh⟩), hr1.after, after_other hone (by omega) hr', ?_⟩
    unfold touchAt
    rw [hr1.act]; rfl
  have po : ∀ {y r k : Nat}, (t ++ #[x]).g? y = some k → (t ++ #[x]).g? r = some k → y < r → HappensBefore (t ++ #[x]) y r := fun h1 h2 h3 => .single (.inl ⟨h3, _, h1, h2⟩)
  have low : ∀ y k, (t ++ #[x]).g? y = some k → k < base + j ∨ k = 0 := fun y k hy => by
    obtain ⟨op, ho, hog⟩ := Option.map_eq_some_iff.1 hy
    have := h1.ct.gs y op ho
    omega
  have kn : ∀ i a, touchAt (t ++ #[x]) i = some a → ¬ ShOf (S3 S B0) a.loc → Knows (t ++ #[x]) 0 i := fun y a ha hn => by
    rcases h1.kn y a ha hn with ⟨k, hk, hg⟩ | h
    · obtain ⟨i, rfl⟩ : ∃ i, k = base + i := ⟨k - base, by omega⟩
      have hi : i < j := by rcases low y _ hg with h | h <;> omega
      obtain ⟨r, hr1, hr2, hr3, hr4, hr5, hr6⟩ := edge i hi
      have hle : ¬ r < y := fun hlt => hn (hr5 y a hlt hg ha)
      have hne : y ≠ r := fun e => by rw [e, hr6] at ha; cases ha
      exact ⟨t.size, x, hq, hx1.1, .inr ((po hg hr2 (by omega)).trans hr3)⟩
    · exact h
  refine ⟨by omega, by have := h1.size; omega, fun i g hi hib hg => ?_, fun i hi => absurd hi (Nat.not_lt_zero _), ?_, h1.norel, h1.begun, h1.deaf0, fun i hi => absurd hi (Nat.not_lt_zero _), fun i hi => h1.above i (by omega), fun i hi => absurd hi (Nat.not_lt_zero _), fun i g hi hg => Nat.lt_of_lt_of_le (h1.early i g hi hg) (by omega), fun i hi => absurd hi (Nat.not_lt_zero _), ?_, h1.wg, .fin hfin (fun i hi => absurd hi (Nat.not_lt_zero _)), h1.seen, fun i a ha hn => .inr (kn i a ha hn), fun y g hg h0 hgb hc => ?_, by have := h1.room; omega⟩
  · rcases Nat.lt_or_ge i base with hlt | hge
    · simp only [hlt, if_true]
      exact h1.old i g hi hlt hg
    · have hn : ¬ i < base := by omega
      simp only [hn, if_false]
      obtain ⟨k, rfl⟩ : ∃ k, i = base + k := ⟨i - base, by omega⟩
      have hk : k < j := by omega
      obtain ⟨g', hg', hs⟩ := h1.wk k hk
      rw [hg] at hg'
      cases hg'
      rw [Nat.add_sub_cancel_left, h1.deafW k hk]
      have h1s := hall k hk
      generalize (D k).stage = s at hs h1s
      generalize Ad k = ad at hs
      subst h1s
      cases hs with
      | go hs => cases hs with
        | quit hq => exact hq
  · have hperm : ∀ l, ¬ ShOf (S3 S B0) l → Perm (t ++ #[x]) 0 l := fun l hl i a ha e => kn i a ha (by rw [e]; exact hl)
    refine ⟨h1.ct.quiet, fun _ _ _ _ h => h.elim, fun k _ hk l hl => ?_, fun l hs _ => hperm l hs, fun l hs _ => PermW.of (hperm l hs), h1.ct.nr, fun i op hi => ?_⟩
    · have := hl.1
      omega
    · have := h1.ct.gs i op hi
      omega
  · have e : bitsIn bit j Ad = sumTo j bit := sumTo_congr fun i hi => by
      obtain ⟨g, _, hs⟩ := h1.wk i hi
      have h1s := hall i hi
      generalize (D i).stage = s at hs h1s
      subst h1s
      generalize hA : Ad i = ad at hs
      cases hs with
      | go _ => simp
    have := h1.noted
    rw [e] at this
    exact this
  · rcases Nat.lt_or_ge g base with hlt | hge
    · exact h1.over y g hg h0 hlt hc
    · obtain ⟨i, rfl⟩ : ∃ i, g = base + i := ⟨g - base, by omega⟩
      obtain ⟨r, hr1, hr2, hr3, hr4, _, _⟩ := edge i (by omega)
      have hle : ¬ r < y := fun hlt => hr4 y hlt hg hc
      refine ⟨t.size, hqg, ?_⟩
      rcases Nat.lt_or_ge y r with hyr | hyr
      · exact (po hg hr2 hyr).trans hr3
      · obtain rfl : y = r := by omega
        exact hr3
end
end Go.Proofs.Yteaincbmnhehcab
