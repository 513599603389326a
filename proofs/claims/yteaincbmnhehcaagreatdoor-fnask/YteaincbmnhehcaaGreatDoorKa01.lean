/- Two runs in step: the law of Sem. -/
import Derived.Test.YteaincbmnhehcaaGreatDoorKa00
namespace Go.Proofs.YteaincbmnhehcaaGreatDoor
open Go
section
variable {α : Type} {Q P : Program} {S : Sh} {Z A : α → Prop}
theorem viewStore_drawn {p : Program} {w w' : World} {a k : Addr} {u : TypeId} {x : Value} {b : Bool} {l : List Addr} (h : w.viewStore p a u k x b = .ok (w', l)) : w'.drawn = w.drawn := by
 unfold World.viewStore at h
 simp only [bind, Except.bind, pure, Except.pure] at h
 repeat' (split at h)
 all_goals first | (cases h; done) | (cases h; rfl)
theorem farStore_drawn {p : Program} {w w' : World} {a : Addr} {x : Value} {b : Bool} {l : List Addr} (h : w.farStore p a x b = .ok (w', l)) : w'.drawn = w.drawn := by
 unfold World.farStore at h
 split at h
 ·split at h
  ·rename_i r hr
   cases h
   exact viewStore_drawn hr
  ·cases h
 ·cases h
theorem ask_le {β : Type} (a : Ask β) : ∀ w : World, w.drawn ≤ (w.ask a).2.drawn := by
 induction a with
 | done a => intro w; exact Nat.le_refl _
 | ask what range k ih =>
  intro w
  unfold World.ask
  dsimp only
  split
  ·exact ih _ w
  ·exact Nat.le_trans (Nat.le_succ _) (ih _ { w with drawn := w.drawn + 1 })
theorem sys_le (w : World) (c : Sys) : w.drawn ≤ (w.sys c).2.drawn := by
 unfold World.sys
 have h := ask_le (Kernel.perform c w.os) w
 generalize w.ask (Kernel.perform c w.os) = z at h
 split
 ·exact Nat.le_refl _
 ·exact h
theorem drawn_le (s : Sem α) : ∀ (w : World) (es : Array Event), w.drawn ≤ (Result.w (s.runT P w es).1).drawn := by
 induction s with
 | pure a => intro w es; exact Nat.le_refl _
 | halt a => intro w es; exact Nat.le_refl _
 | load m a k ih =>
  intro w es
  simp only [Sem.runT]
  split
  ·exact ih _ _ _
  ·split
   ·exact ih _ _ _
   ·exact Nat.le_refl _
 | store m a x k ih =>
  intro w es
  by_cases h1 : ∃ c, x = .agg c
  ·obtain ⟨c, rfl⟩ := h1
   simp only [Sem.runT]; exact Nat.le_refl _
  by_cases h2 : ∃ c, x = .tuple c
  ·obtain ⟨c, rfl⟩ := h2
   simp only [Sem.runT]; exact Nat.le_refl _
  have h1 : ∀ c, x ≠ .agg c := fun c e => h1 ⟨c, e⟩
  have h2 : ∀ c, x ≠ .tuple c := fun c e => h2 ⟨c, e⟩
  rw [Sem.runT.eq_5 _ _ _ _ _ _ _ h1 h2]
  split
  ·split
   ·exact Nat.le_refl _
   ·exact ih (w.setCell a x) _
  ·split
   ·rename_i w' l hw
    have := farStore_drawn hw
    exact this ▸ ih w' _
   ·exact Nat.le_refl _
 | new o k ih => intro w es; exact ih _ { w with heap := w.heap.push o } _
 | shape r k ih => intro w es; exact ih _ _ _
 | freeze a n k ih =>
  intro w es
  have hz : (w.freeze a n).drawn = w.drawn := by unfold World.freeze; split <;> rfl
  simp only [Sem.runT]
  exact hz ▸ ih (w.freeze a n) _
 | frozen a k ih => intro w es; exact ih _ _ _
 | getObj r k ih =>
  intro w es
  simp only [Sem.runT]
  split
  ·exact Nat.le_refl _
  ·exact ih _ _ _
  ·exact Nat.le_refl _
 | setObj r o k ih =>
  intro w es
  simp only [Sem.runT]
  split
  ·exact Nat.le_refl _
  ·exact ih { w with heap := w.heap.setIfInBounds r o } _
  ·exact Nat.le_refl _
 | choose q k ih =>
  intro w es
  simp only [Sem.runT]
  split
  ·exact ih _ _ _
  ·exact Nat.le_trans (Nat.le_succ _) (ih _ { w with drawn := w.drawn + 1 } _)
 | sys c k ih => intro w es; exact Nat.le_trans (sys_le w c) (ih _ _ _)
 | program k ih => intro w es; exact ih _ _ _
 | mark m k ih => intro w es; exact ih _ _
theorem Doomed.dead (s : Sem α) : ∀ (v : World) (es : Array Event), Doomed Q s → Whole v → Dead Q Z s v es := by
 induction s with
 | pure a => intro v es h; exact h.elim
 | halt h => intro v es hd _; exact .inl ⟨h, v, rfl, hd⟩
 | load m a k ih =>
  intro v es hd hw
  obtain ⟨e, he, hx'⟩ := farLoad_no Q hw a (m == .atomic)
  cases hx : v.cell? a with
  | none => exact .inl ⟨e, v, by simp only [Sem.runT, hx, he], hx'⟩
  | some x => exact dead_of (by simp only [Sem.runT, hx]; rfl) (ih x v _ (hd x) hw)
 | frozen a k ih => intro v es hd hw; exact dead_of (by simp only [Sem.runT]; rfl) (ih _ v _ (hd _) hw)
 | shape a k ih => intro v es hd hw; exact dead_of (by simp only [Sem.runT]; rfl) (ih _ v _ (hd _) hw)
 | mark m k ih => intro v es hd hw; exact dead_of (by simp only [Sem.runT]; rfl) (ih v _ hd hw)
 | program k ih => intro v es hd hw; exact dead_of (by simp only [Sem.runT]; rfl) (ih _ v _ hd hw)
 | getObj r k ih =>
  intro v es hd hw
  rcases obj_cases v r with h | ⟨o, h, hn⟩
  ·exact getObj_no h
  ·exact dead_of (getObj_run h hn) (ih o v _ (hd o) hw)
 | choose q k ih =>
  intro v es hd hw
  by_cases hq : q.forced = true
  ·exact dead_of (by simp only [Sem.runT, hq, if_true]; rfl) (ih _ v _ (hd _) hw)
  ·exact dead_of (by simp only [Sem.runT, hq]; rfl) (ih _ { v with drawn := v.drawn + 1 } _ (hd _) hw)
 | new o k ih => intro v es h; exact h.elim
 | store m a x k ih => intro v es h; exact h.elim
 | freeze a n k ih => intro v es h; exact h.elim
 | setObj r o k ih => intro v es h; exact h.elim
 | sys c k ih => intro v es h; exact h.elim
theorem store_run {p : Program} {w : World} {m : Mode} {a : Addr} {x : Value} {k : Sem α} {es : Array Event} {y : Value} (h1 : ∀ c, x ≠ .agg c) (h2 : ∀ c, x ≠ .tuple c) (h : w.cell? a = some y) (hf : w.frozen? a = false) :
  Sem.runT p (.store m a x k) w es = k.runT p (w.setCell a x) (es ++ #[⟨.cell a, true, m == .atomic⟩]) := by
 cases x <;> first | exact absurd rfl (h1 _) | exact absurd rfl (h2 _) | simp [Sem.runT, h, hf]
theorem store_frozen {p : Program} {w : World} {m : Mode} {a : Addr} {x : Value} {k : Sem α} {es : Array Event} {y : Value} (h1 : ∀ c, x ≠ .agg c) (h2 : ∀ c, x ≠ .tuple c) (h : w.cell? a = some y) (hf : w.frozen? a = true) :
  Sem.runT p (.store m a x k) w es = (.halt (.unsupported (.unsafePointer "a write to bytes that a string shares")) w, es) := by
 cases x <;> first | exact absurd rfl (h1 _) | exact absurd rfl (h2 _) | simp [Sem.runT, h, hf]
theorem store_far {p : Program} {w : World} {m : Mode} {a : Addr} {x : Value} {k : Sem α} {es : Array Event} {e : Halt} (h1 : ∀ c, x ≠ .agg c) (h2 : ∀ c, x ≠ .tuple c) (h : w.cell? a = none) (hf : w.farStore p a x (m == .atomic) = .error e) :
  Sem.runT p (.store m a x k) w es = (.halt e w, es) := by
 cases x <;> first | exact absurd rfl (h1 _) | exact absurd rfl (h2 _) | simp [Sem.runT, h, hf]
theorem run_couple (s : Sem α) : ∀ (v w : World) (es : Array Event), Tame Q P S Z A s → Cp S v w →
  (∀ i, w.drawn + i < (Result.w (s.runT P w es).1).drawn → v.tape (v.drawn + i) = w.tape (w.drawn + i)) →
  Dead Q Z s v es ∨ Both S Q P A s v w es := by
 induction s with
 | pure a =>
  intro v w es ht hc _
  exact .inr ⟨#[], v, w, hc, rfl, rfl, Nat.le_refl _, ⟨0, rfl, rfl⟩, by simp, .inl ⟨a, ht, by simp [Sem.runT], by simp [Sem.runT]⟩⟩
 | halt h =>
  intro v w es ht hc _
  exact .inr ⟨#[], v, w, hc, rfl, rfl, Nat.le_refl _, ⟨0, rfl, rfl⟩, by simp, .inr ⟨h, ht, by simp [Sem.runT], by simp [Sem.runT]⟩⟩
 | load m a k ih =>
  intro v w es ht hc htp
  obtain ⟨e, he, hx'⟩ := farLoad_no Q hc.whole a (m == .atomic)
  by_cases ha : S a.block
  ·exact .inl (.inl ⟨e, v, by simp only [Sem.runT, hc.cellS ha, he], hx'⟩)
  ·have hcl := hc.cell ha
   cases hx : w.cell? a with
   | none => exact .inl (.inl ⟨e, v, by simp only [Sem.runT, hcl, hx, he], hx'⟩)
   | some x =>
    have h1 : Sem.runT Q (.load m a k) v es = (k x).runT Q v (es ++ #[⟨.cell a, false, m == .atomic⟩]) := by simp only [Sem.runT, hcl, hx, Array.push_eq_append]
    have h2 : Sem.runT P (.load m a k) w es = (k x).runT P w (es ++ #[⟨.cell a, false, m == .atomic⟩]) := by simp only [Sem.runT, hx, Array.push_eq_append]
    rw [h2] at htp
    exact Both.behind (c0 := 0) h1 h2 rfl rfl rfl rfl (Nat.le_refl _) (fun e he => by
     obtain rfl : e = ⟨.cell a, false, m == .atomic⟩ := by simpa using he
     exact .inl ⟨ha, cellA_lt hx⟩) (ih x v w _ (ht ha x) hc htp)
 | store m a x k ih =>
  intro v w es ht hc htp
  by_cases h1 : ∃ c, x = .agg c
  ·obtain ⟨c, rfl⟩ := h1
   exact .inl (.inl ⟨.stuck "store: not the value of one cell", v, by simp [Sem.runT], trivial⟩)
  by_cases h2 : ∃ c, x = .tuple c
  ·obtain ⟨c, rfl⟩ := h2
   exact .inl (.inl ⟨.stuck "store: not the value of one cell", v, by simp [Sem.runT], trivial⟩)
  have h1 : ∀ c, x ≠ .agg c := fun c e => h1 ⟨c, e⟩
  have h2 : ∀ c, x ≠ .tuple c := fun c e => h2 ⟨c, e⟩
  obtain ⟨e, he, hx'⟩ := farStore_no Q hc.whole a x (m == .atomic)
  by_cases ha : S a.block
  ·exact .inl (.inl ⟨e, v, by rw [store_far h1 h2 (hc.cellS ha) he], hx'⟩)
  ·have hcl := hc.cell ha
   cases hx : w.cell? a with
   | none => exact .inl (.inl ⟨e, v, by rw [store_far h1 h2 (hcl.trans hx) he], hx'⟩)
   | some y =>
    cases hf : w.frozen? a with
    | true => exact .inl (.inl ⟨.unsupported (.unsafePointer "a write to bytes that a string shares"), v, by rw [store_frozen h1 h2 (hcl.trans hx) ((hc.frozen a).trans hf)], trivial⟩)
    | false =>
     have e2 := store_run (p := P) (m := m) (k := k) (es := es) h1 h2 hx hf
     rw [e2] at htp
     refine Both.behind (c0 := 0) (store_run h1 h2 (hcl.trans hx) ((hc.frozen a).trans hf)) e2 rfl rfl rfl rfl (by simp [World.setCell]) (fun e he => ?_) (ih _ _ _ (ht ha) (hc.setCell ha x) htp)
     obtain rfl : e = ⟨.cell a, true, m == .atomic⟩ := by simpa using he
     exact .inl ⟨ha, by simpa [World.setCell] using cellA_lt hx⟩
 | new o k ih =>
  intro v w es ht hc htp
  have hsz := hc.size
  have hS : ¬ S w.heap.size := fun h => by have := hc.low _ h; omega
  have e1 : Sem.runT Q (.new o k) v es = (k w.heap.size).runT Q { v with heap := v.heap.push o } (es ++ #[]) := by simp [Sem.runT, hsz]
  have e2 : Sem.runT P (.new o k) w es = (k w.heap.size).runT P { w with heap := w.heap.push o } (es ++ #[]) := by simp [Sem.runT]
  rw [e2] at htp
  exact Both.behind (c0 := 0) e1 e2 rfl rfl rfl rfl (by simp) (by simp) (ih _ _ _ _ (ht.2 _ hS) (hc.push ht.1) htp)
 | shape r k ih =>
  intro v w es ht hc htp
  have e2 : Sem.runT P (.shape r k) w es = (k (w.shape? r)).runT P w (es ++ #[]) := by simp [Sem.runT]
  rw [e2] at htp
  by_cases hr : S r
  ·rcases ht.2 with h | h | h
   ·exact absurd hr h
   ·obtain ⟨t, n, g1, g2⟩ := hc.shapeS hr
    exact .inl (dead_of (k := k (some (t, 0))) (by simp [Sem.runT, g1]) (Doomed.dead _ v es (h t) hc.whole))
   ·obtain ⟨t, n, g1, g2⟩ := hc.shapeS hr
    have e1 : Sem.runT Q (.shape r k) v es = (k (w.shape? r)).runT Q v (es ++ #[]) := by
     rw [g2, ← h t n _ _ hc.cold]
     simp only [Sem.runT, g1, Array.append_empty]
    exact Both.behind (c0 := 0) e1 e2 rfl rfl rfl rfl (Nat.le_refl _) (by simp) (ih _ _ _ _ (ht.1 _) hc htp)
  ·have e1 : Sem.runT Q (.shape r k) v es = (k (w.shape? r)).runT Q v (es ++ #[]) := by simp [Sem.runT, hc.shape hr]
   exact Both.behind (c0 := 0) e1 e2 rfl rfl rfl rfl (Nat.le_refl _) (by simp) (ih _ _ _ _ (ht.1 _) hc htp)
 | freeze a n k ih => intro v w es ht; exact ht.elim
 | frozen a k ih =>
  intro v w es ht hc htp
  have e1 : Sem.runT Q (.frozen a k) v es = (k (w.frozen? a)).runT Q v (es ++ #[]) := by simp [Sem.runT, hc.frozen a]
  have e2 : Sem.runT P (.frozen a k) w es = (k (w.frozen? a)).runT P w (es ++ #[]) := by simp [Sem.runT]
  rw [e2] at htp
  exact Both.behind (c0 := 0) e1 e2 rfl rfl rfl rfl (Nat.le_refl _) (by simp) (ih _ _ _ _ (ht _ fun hs => (hc.frozen a).symm.trans (hc.cold a hs)) hc htp)
 | getObj r k ih =>
  intro v w es ht hc htp
  by_cases hr : S r
  ·obtain ⟨t, c, f, e, _⟩ := hc.brk r hr
   exact .inl (getObj_no (.inr ⟨_, _, _, e⟩))
  ·have hvw := hc.out r hr
   rcases obj_cases w r with h | ⟨o, h, hn⟩
   ·refine .inl (getObj_no ?_)
    rw [hvw]
    rcases h with h | ⟨c, t, f, h⟩
    ·exact .inl (by rw [h]; rfl)
    ·exact .inr ⟨c, t, f, by rw [h]; rfl⟩
   ·have hv : v.heap[r]? = some (veil o) := by rw [hvw, h]; rfl
    have hnv : ∀ c t f, veil o ≠ .cells c t f := fun c t f e => hn c t f (veil_cells.1 e)
    have hch : (veil o).isChan = o.isChan := by
     rcases veil_cases o with ⟨h1, _⟩ | ⟨h1, h2⟩
     ·rw [h1]
     ·rw [h1]
      cases o <;> first | rfl | cases h2
    have e1 := getObj_run (p := Q) (k := k) (es := es) hv hnv
    have e2 := getObj_run (p := P) (k := k) (es := es) h hn
    rcases ht hr o with ⟨ht1, ht2⟩ | hdm
    case inr => exact .inl (dead_of e1 (Doomed.dead _ v _ hdm hc.whole))
    rw [ht2, hch] at e1
    rw [e2] at htp
    refine Both.behind (c0 := 0) e1 e2 rfl rfl rfl rfl (Nat.le_refl _) (fun e he => ?_) (ih _ _ _ _ ht1 hc htp)
    obtain rfl : e = ⟨.obj r, false, o.isChan⟩ := by simpa using he
    exact .inl ⟨hr, (Array.getElem?_eq_some_iff.1 h).1, rfl⟩
 | setObj r o k ih =>
  intro v w es ht hc htp
  by_cases hr : S r
  ·obtain ⟨t, c, f, e, _⟩ := hc.brk r hr
   exact .inl (setObj_no (.inr ⟨_, _, _, e⟩))
  ·have key : ∀ o1 o2, v.heap[r]? = some o1 → w.heap[r]? = some o2 → (∀ c t f, o1 ≠ .cells c t f) → (∀ c t f, o2 ≠ .cells c t f) → Dead Q Z (.setObj r o k) v es ∨ Both S Q P A (.setObj r o k) v w es := by
    intro o1 o2 h hw hn1 hn2
    have e2 := setObj_run (p := P) (x := o) (k := k) (es := es) hw hn2
    rw [e2] at htp
    refine Both.behind (c0 := 0) (setObj_run h hn1) e2 rfl rfl rfl rfl (by simp) (fun e he => ?_) (ih _ _ _ (ht hr).2 (hc.setObj hr (ht hr).1.1) htp)
    obtain rfl : e = ⟨.obj r, true, o.isChan⟩ := by simpa using he
    exact .inl ⟨hr, by simpa using (Array.getElem?_eq_some_iff.1 hw).1, by simp [(ht hr).1.2]⟩
   have hvw := hc.out r hr
   rcases obj_cases w r with h | ⟨o', h, hn⟩
   ·refine .inl (setObj_no ?_)
    rw [hvw]
    rcases h with h | ⟨c, t, f, h⟩
    ·exact .inl (by rw [h]; rfl)
    ·exact .inr ⟨c, t, f, by rw [h]; rfl⟩
   ·exact key (veil o') o' (by rw [hvw, h]; rfl) h (fun c t f e => hn c t f (veil_cells.1 e)) hn
 | choose q k ih =>
  intro v w es ht hc htp
  by_cases hq : q.forced = true
  ·have e1 : Sem.runT Q (.choose q k) v es = (k 0).runT Q v (es ++ #[]) := by simp [Sem.runT, hq]
   have e2 : Sem.runT P (.choose q k) w es = (k 0).runT P w (es ++ #[]) := by simp [Sem.runT, hq]
   rw [e2] at htp
   exact Both.behind (c0 := 0) e1 e2 rfl rfl rfl rfl (Nat.le_refl _) (by simp) (ih _ _ _ _ (ht _) hc htp)
  ·have e2 : Sem.runT P (.choose q k) w es = (k (q.cut (w.tape w.drawn q))).runT P { w with drawn := w.drawn + 1 } (es ++ #[]) := by simp [Sem.runT, hq]
   rw [e2] at htp
   have h0 := htp 0 (by
    have := drawn_le (P := P) (k (q.cut (w.tape w.drawn q))) { w with drawn := w.drawn + 1 } (es ++ #[])
    exact Nat.lt_of_lt_of_le (Nat.lt_succ_self _) this)
   have e1 : Sem.runT Q (.choose q k) v es = (k (q.cut (w.tape w.drawn q))).runT Q { v with drawn := v.drawn + 1 } (es ++ #[]) := by
    have : v.tape v.drawn = w.tape w.drawn := h0
    simp [Sem.runT, hq, this]
   refine Both.behind (c0 := 1) e1 e2 rfl rfl rfl rfl (Nat.le_refl _) (by simp) (ih _ _ _ _ (ht _) (hc.drew _ _) fun i hi => ?_)
   have := htp (i + 1) (by show w.drawn + (i + 1) < _; have hi' : w.drawn + 1 + i < _ := hi; omega)
   show v.tape (v.drawn + 1 + i) = w.tape (w.drawn + 1 + i)
   rw [Nat.add_assoc, Nat.add_comm 1 i, Nat.add_assoc, Nat.add_comm 1 i]
   exact this
 | sys c k ih =>
  intro v w es ht hc htp
  obtain ⟨rfl, ht⟩ := ht
  have hos : v.os = w.os := hc.os
  have e1 : Sem.runT Q (.sys .env k) v es = (k (.strings w.os.env)).runT Q v (es ++ #[⟨.output, true, false⟩]) := by
   rw [← hos]
   show (k (v.sys .env).1).runT Q (v.sys .env).2 (es.push ⟨.output, true, false⟩) = _
   rw [Array.push_eq_append]
   rfl
  have e2 : Sem.runT P (.sys .env k) w es = (k (.strings w.os.env)).runT P w (es ++ #[⟨.output, true, false⟩]) := by
   show (k (w.sys .env).1).runT P (w.sys .env).2 (es.push ⟨.output, true, false⟩) = _
   rw [Array.push_eq_append]
   rfl
  rw [e2] at htp
  refine Both.behind (c0 := 0) e1 e2 rfl rfl rfl rfl (Nat.le_refl _) (fun e he => ?_) (ih _ _ _ _ (ht _) hc htp)
  obtain rfl : e = ⟨.output, true, false⟩ := by simpa using he
  exact .inl trivial
 | program k ih =>
  intro v w es ht hc htp
  rcases ht with ht | ⟨a, ha, hz⟩
  case inr => exact .inl (.inr ⟨a, v, by simp [Sem.runT, ha], hz⟩)
  have e1 : Sem.runT Q (.program k) v es = (k P).runT Q v (es ++ #[]) := by simp [Sem.runT, ht.1]
  have e2 : Sem.runT P (.program k) w es = (k P).runT P w (es ++ #[]) := by simp [Sem.runT]
  rw [e2] at htp
  exact Both.behind (c0 := 0) e1 e2 rfl rfl rfl rfl (Nat.le_refl _) (by simp) (ih _ _ _ _ ht.2 hc htp)
 | mark m k ih =>
  intro v w es ht hc htp
  obtain ⟨hm, ht⟩ := ht
  have e1 : Sem.runT Q (.mark m k) v es = k.runT Q v (es ++ #[⟨.mark m, false, true⟩]) := by simp only [Sem.runT, Array.push_eq_append]
  have e2 : Sem.runT P (.mark m k) w es = k.runT P w (es ++ #[⟨.mark m, false, true⟩]) := by simp only [Sem.runT, Array.push_eq_append]
  rw [e2] at htp
  refine Both.behind (c0 := 0) e1 e2 rfl rfl rfl rfl (Nat.le_refl _) (fun e he => ?_) (ih _ _ _ ht hc htp)
  obtain rfl : e = ⟨.mark m, false, true⟩ := by simpa using he
  rcases hm with rfl | ⟨f, rfl⟩
  ·exact .inl trivial
  ·exact .inr ⟨f, rfl⟩
theorem tame_mono' {Z Z' A B : α → Prop} (hZ : ∀ a, Z a → Z' a) (hAB : ∀ a, A a → B a) (s : Sem α) (h : Tame Q P S Z A s) : Tame Q P S Z' B s := by
 induction s with
 | pure a => exact hAB a h
 | halt _ => exact h
 | load _ _ _ ih => exact fun hs x => ih x (h hs x)
 | store _ _ _ _ ih => exact fun hs => ih (h hs)
 | new _ _ ih => exact ⟨h.1, fun r hr => ih r (h.2 r hr)⟩
 | shape _ _ ih => exact ⟨fun x => ih x (h.1 x), h.2⟩
 | freeze _ _ _ _ => exact h.elim
 | frozen _ _ ih => exact fun x hx => ih x (h x hx)
 | getObj _ _ ih => exact fun hs x => (h hs x).imp (fun h => ⟨ih x h.1, h.2⟩) id
 | setObj _ _ _ ih => exact fun hs => ⟨(h hs).1, ih (h hs).2⟩
 | choose _ _ ih => exact fun x => ih x (h x)
 | sys _ _ ih => exact ⟨h.1, fun r => ih r (h.2 r)⟩
 | program _ ih => exact h.imp (fun h => ⟨h.1, ih _ h.2⟩) (fun ⟨a, h1, h2⟩ => ⟨a, h1, hZ _ h2⟩)
 | mark _ _ ih => exact ⟨h.1, ih h.2⟩
theorem tame_mono {A B : α → Prop} (hAB : ∀ a, A a → B a) (s : Sem α) (h : Tame Q P S Z A s) : Tame Q P S Z B s := tame_mono' (fun _ h => h) hAB s h
theorem doomed_bind {β : Type} (f : α → Sem β) (s : Sem α) (h : Doomed Q s) : Doomed Q (s.bind f) := by
 induction s with
 | halt _ => exact h
 | load _ _ _ ih => exact fun x => ih x (h x)
 | shape _ _ ih => exact fun x => ih x (h x)
 | frozen _ _ ih => exact fun x => ih x (h x)
 | getObj _ _ ih => exact fun x => ih x (h x)
 | choose _ _ ih => exact fun x => ih x (h x)
 | program _ ih => exact ih _ h
 | mark _ _ ih => exact ih h
 | _ => exact h.elim
theorem tame_bind {β : Type} {Z B : β → Prop} (f : α → Sem β) (s : Sem α) (h : Tame Q P S (fun _ => False) (fun a => Tame Q P S Z B (f a)) s) : Tame Q P S Z B (s.bind f) := by
 induction s with
 | pure a => exact h
 | halt _ => exact h
 | load _ _ _ ih => exact fun hs x => ih x (h hs x)
 | store _ _ _ _ ih => exact fun hs => ih (h hs)
 | new _ _ ih => exact ⟨h.1, fun r hr => ih r (h.2 r hr)⟩
 | shape _ _ ih => exact ⟨fun x => ih x (h.1 x), h.2.imp id (Or.imp (fun h x => doomed_bind f _ (h x)) (fun h t n v es hv => by rw [Go.Sem.runT_bind', Go.Sem.runT_bind', h t n v es hv]))⟩
 | freeze _ _ _ _ => exact h.elim
 | frozen _ _ ih => exact fun x hx => ih x (h x hx)
 | getObj _ _ ih => exact fun hs x => (h hs x).imp (fun h => ⟨ih x h.1, congrArg (fun s => Sem.bind s f) h.2⟩) (fun h => doomed_bind f _ h)
 | setObj _ _ _ ih => exact fun hs => ⟨(h hs).1, ih (h hs).2⟩
 | choose _ _ ih => exact fun x => ih x (h x)
 | sys _ _ ih => exact ⟨h.1, fun r => ih r (h.2 r)⟩
 | program _ ih => exact h.elim (fun h => .inl ⟨by show (_ : Sem α).bind f = (_ : Sem α).bind f; rw [h.1], ih _ h.2⟩) (fun ⟨_, _, h⟩ => h.elim)
 | mark _ _ ih => exact ⟨h.1, ih h.2⟩
end
end Go.Proofs.YteaincbmnhehcaaGreatDoor
