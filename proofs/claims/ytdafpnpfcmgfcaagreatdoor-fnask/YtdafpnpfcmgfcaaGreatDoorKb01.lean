/- Two runs in step: the law of Sem. Two runs in step: a goroutine's step. -/
import Derived.Test.YtdafpnpfcmgfcaaGreatDoorKb00
namespace Go.Proofs.YtdafpnpfcmgfcaaGreatDoor
section
open Go
section
variable {α : Type} {Q P : Program} {S : Sh} {Z A : α → Prop}
theorem viewStore_drawn {p : Program} {w w' : World} {a k : Addr} {u : TypeId} {x : Value} {b : Bool} {l : List Addr} (h : w.viewStore p a u k x b = .ok (w', l)) : w'.drawn = w.drawn := by
 unfold World.viewStore at h
 simp only [bind, Except.bind, pure, Except.pure] at h
 repeat' (split at h)
 all_goals first | (cases h; done) | (cases h; rfl)
theorem farStore_drawn {p : Program} {w w' : World} {a : Addr} {x : Value} {b : Bool} {l : List Addr} (h : w.farStore p a x b = .ok (w', l)) : w'.drawn = w.drawn := by
 unfold World.farStore at h
 split at h
 ·split at h
  ·rename_i r hr
   cases h
   exact viewStore_drawn hr
  ·cases h
 ·cases h
theorem ask_le {β : Type} (a : Ask β) : ∀ w : World, w.drawn ≤ (w.ask a).2.drawn := by
 induction a with
 | done a => intro w; exact Nat.le_refl _
 | ask what range k ih =>
  intro w
  unfold World.ask
  dsimp only
  split
  ·exact ih _ w
  ·exact Nat.le_trans (Nat.le_succ _) (ih _ { w with drawn := w.drawn + 1 })
theorem sys_le (w : World) (c : Sys) : w.drawn ≤ (w.sys c).2.drawn := by
 unfold World.sys
 have h := ask_le (Kernel.perform c w.os) w
 generalize w.ask (Kernel.perform c w.os) = z at h
 split
 ·exact Nat.le_refl _
 ·exact h
theorem drawn_le (s : Sem α) : ∀ (w : World) (es : Array Event), w.drawn ≤ (Result.w (s.runT P w es).1).drawn := by
 induction s with
 | pure a => intro w es; exact Nat.le_refl _
 | halt a => intro w es; exact Nat.le_refl _
 | load m a k ih =>
  intro w es
  simp only [Sem.runT]
  split
  ·exact ih _ _ _
  ·split
   ·exact ih _ _ _
   ·exact Nat.le_refl _
 | store m a x k ih =>
  intro w es
  by_cases h1 : ∃ c, x = .agg c
  ·obtain ⟨c, rfl⟩ := h1
   simp only [Sem.runT]; exact Nat.le_refl _
  by_cases h2 : ∃ c, x = .tuple c
  ·obtain ⟨c, rfl⟩ := h2
   simp only [Sem.runT]; exact Nat.le_refl _
  have h1 : ∀ c, x ≠ .agg c := fun c e => h1 ⟨c, e⟩
  have h2 : ∀ c, x ≠ .tuple c := fun c e => h2 ⟨c, e⟩
  rw [Sem.runT.eq_5 _ _ _ _ _ _ _ h1 h2]
  split
  ·split
   ·exact Nat.le_refl _
   ·exact ih (w.setCell a x) _
  ·split
   ·rename_i w' l hw
    have := farStore_drawn hw
    exact this ▸ ih w' _
   ·exact Nat.le_refl _
 | new o k ih => intro w es; exact ih _ { w with heap := w.heap.push o } _
 | shape r k ih => intro w es; exact ih _ _ _
 | freeze a n k ih =>
  intro w es
  have hz : (w.freeze a n).drawn = w.drawn := by unfold World.freeze; split <;> rfl
  simp only [Sem.runT]
  exact hz ▸ ih (w.freeze a n) _
 | frozen a k ih => intro w es; exact ih _ _ _
 | getObj r k ih =>
  intro w es
  simp only [Sem.runT]
  split
  ·exact Nat.le_refl _
  ·exact ih _ _ _
  ·exact Nat.le_refl _
 | setObj r o k ih =>
  intro w es
  simp only [Sem.runT]
  split
  ·exact Nat.le_refl _
  ·exact ih { w with heap := w.heap.setIfInBounds r o } _
  ·exact Nat.le_refl _
 | choose q k ih =>
  intro w es
  simp only [Sem.runT]
  split
  ·exact ih _ _ _
  ·exact Nat.le_trans (Nat.le_succ _) (ih _ { w with drawn := w.drawn + 1 } _)
 | sys c k ih => intro w es; exact Nat.le_trans (sys_le w c) (ih _ _ _)
 | program k ih => intro w es; exact ih _ _ _
 | mark m k ih => intro w es; exact ih _ _
theorem Doomed.dead (s : Sem α) : ∀ (v : World) (es : Array Event), Doomed Q s → Whole v → Dead Q Z s v es := by
 induction s with
 | pure a => intro v es h; exact h.elim
 | halt h => intro v es hd _; exact .inl ⟨h, v, rfl, hd⟩
 | load m a k ih =>
  intro v es hd hw
  obtain ⟨e, he, hx'⟩ := farLoad_no Q hw a (m == .atomic)
  cases hx : v.cell? a with
  | none => exact .inl ⟨e, v, by simp only [Sem.runT, hx, he], hx'⟩
  | some x => exact dead_of (by simp only [Sem.runT, hx]; rfl) (ih x v _ (hd x) hw)
 | frozen a k ih => intro v es hd hw; exact dead_of (by simp only [Sem.runT]; rfl) (ih _ v _ (hd _) hw)
 | shape a k ih => intro v es hd hw; exact dead_of (by simp only [Sem.runT]; rfl) (ih _ v _ (hd _) hw)
 | mark m k ih => intro v es hd hw; exact dead_of (by simp only [Sem.runT]; rfl) (ih v _ hd hw)
 | program k ih => intro v es hd hw; exact dead_of (by simp only [Sem.runT]; rfl) (ih _ v _ hd hw)
 | getObj r k ih =>
  intro v es hd hw
  rcases obj_cases v r with h | ⟨o, h, hn⟩
  ·exact getObj_no h
  ·exact dead_of (getObj_run h hn) (ih o v _ (hd o) hw)
 | choose q k ih =>
  intro v es hd hw
  by_cases hq : q.forced = true
  ·exact dead_of (by simp only [Sem.runT, hq, if_true]; rfl) (ih _ v _ (hd _) hw)
  ·exact dead_of (by simp only [Sem.runT, hq]; rfl) (ih _ { v with drawn := v.drawn + 1 } _ (hd _) hw)
 | new o k ih => intro v es h; exact h.elim
 | store m a x k ih => intro v es h; exact h.elim
 | freeze a n k ih => intro v es h; exact h.elim
 | setObj r o k ih => intro v es h; exact h.elim
 | sys c k ih => intro v es h; exact h.elim
theorem store_run {p : Program} {w : World} {m : Mode} {a : Addr} {x : Value} {k : Sem α} {es : Array Event} {y : Value} (h1 : ∀ c, x ≠ .agg c) (h2 : ∀ c, x ≠ .tuple c) (h : w.cell? a = some y) (hf : w.frozen? a = false) :
  Sem.runT p (.store m a x k) w es = k.runT p (w.setCell a x) (es ++ #[⟨.cell a, true, m == .atomic⟩]) := by
 cases x <;> first | exact absurd rfl (h1 _) | exact absurd rfl (h2 _) | simp [Sem.runT, h, hf]
theorem store_frozen {p : Program} {w : World} {m : Mode} {a : Addr} {x : Value} {k : Sem α} {es : Array Event} {y : Value} (h1 : ∀ c, x ≠ .agg c) (h2 : ∀ c, x ≠ .tuple c) (h : w.cell? a = some y) (hf : w.frozen? a = true) :
  Sem.runT p (.store m a x k) w es = (.halt (.unsupported (.unsafePointer "a write to bytes that a string shares")) w, es) := by
 cases x <;> first | exact absurd rfl (h1 _) | exact absurd rfl (h2 _) | simp [Sem.runT, h, hf]
theorem store_far {p : Program} {w : World} {m : Mode} {a : Addr} {x : Value} {k : Sem α} {es : Array Event} {e : Halt} (h1 : ∀ c, x ≠ .agg c) (h2 : ∀ c, x ≠ .tuple c) (h : w.cell? a = none) (hf : w.farStore p a x (m == .atomic) = .error e) :
  Sem.runT p (.store m a x k) w es = (.halt e w, es) := by
 cases x <;> first | exact absurd rfl (h1 _) | exact absurd rfl (h2 _) | simp [Sem.runT, h, hf]
theorem run_couple (s : Sem α) : ∀ (v w : World) (es : Array Event), Tame Q P S Z A s → Cp S v w →
  (∀ i, w.drawn + i < (Result.w (s.runT P w es).1).drawn → v.tape (v.drawn + i) = w.tape (w.drawn + i)) →
  Dead Q Z s v es ∨ Both S Q P A s v w es := by
 induction s with
 | pure a =>
  intro v w es ht hc _
  exact .inr ⟨#[], v, w, hc, rfl, rfl, Nat.le_refl _, ⟨0, rfl, rfl⟩, by simp, .inl ⟨a, ht, by simp [Sem.runT], by simp [Sem.runT]⟩⟩
 | halt h =>
  intro v w es ht hc _
  exact .inr ⟨#[], v, w, hc, rfl, rfl, Nat.le_refl _, ⟨0, rfl, rfl⟩, by simp, .inr ⟨h, ht, by simp [Sem.runT], by simp [Sem.runT]⟩⟩
 | load m a k ih =>
  intro v w es ht hc htp
  obtain ⟨e, he, hx'⟩ := farLoad_no Q hc.whole a (m == .atomic)
  by_cases ha : S a.block
  ·exact .inl (.inl ⟨e, v, by simp only [Sem.runT, hc.cellS ha, he], hx'⟩)
  ·have hcl := hc.cell ha
   cases hx : w.cell? a with
   | none => exact .inl (.inl ⟨e, v, by simp only [Sem.runT, hcl, hx, he], hx'⟩)
   | some x =>
    have h1 : Sem.runT Q (.load m a k) v es = (k x).runT Q v (es ++ #[⟨.cell a, false, m == .atomic⟩]) := by simp only [Sem.runT, hcl, hx, Array.push_eq_append]
    have h2 : Sem.runT P (.load m a k) w es = (k x).runT P w (es ++ #[⟨.cell a, false, m == .atomic⟩]) := by simp only [Sem.runT, hx, Array.push_eq_append]
    rw [h2] at htp
    exact Both.behind (c0 := 0) h1 h2 rfl rfl rfl rfl (Nat.le_refl _) (fun e he => by
     obtain rfl : e = ⟨.cell a, false, m == .atomic⟩ := by simpa using he
     exact .inl ⟨ha, cellA_lt hx⟩) (ih x v w _ (ht ha x) hc htp)
 | store m a x k ih =>
  intro v w es ht hc htp
  by_cases h1 : ∃ c, x = .agg c
  ·obtain ⟨c, rfl⟩ := h1
   exact .inl (.inl ⟨.stuck "store: not the value of one cell", v, by simp [Sem.runT], trivial⟩)
  by_cases h2 : ∃ c, x = .tuple c
  ·obtain ⟨c, rfl⟩ := h2
   exact .inl (.inl ⟨.stuck "store: not the value of one cell", v, by simp [Sem.runT], trivial⟩)
  have h1 : ∀ c, x ≠ .agg c := fun c e => h1 ⟨c, e⟩
  have h2 : ∀ c, x ≠ .tuple c := fun c e => h2 ⟨c, e⟩
  obtain ⟨e, he, hx'⟩ := farStore_no Q hc.whole a x (m == .atomic)
  by_cases ha : S a.block
  ·exact .inl (.inl ⟨e, v, by rw [store_far h1 h2 (hc.cellS ha) he], hx'⟩)
  ·have hcl := hc.cell ha
   cases hx : w.cell? a with
   | none => exact .inl (.inl ⟨e, v, by rw [store_far h1 h2 (hcl.trans hx) he], hx'⟩)
   | some y =>
    cases hf : w.frozen? a with
    | true => exact .inl (.inl ⟨.unsupported (.unsafePointer "a write to bytes that a string shares"), v, by rw [store_frozen h1 h2 (hcl.trans hx) ((hc.frozen a).trans hf)], trivial⟩)
    | false =>
     have e2 := store_run (p := P) (m := m) (k := k) (es := es) h1 h2 hx hf
     rw [e2] at htp
     refine Both.behind (c0 := 0) (store_run h1 h2 (hcl.trans hx) ((hc.frozen a).trans hf)) e2 rfl rfl rfl rfl (by simp [World.setCell]) (fun e he => ?_) (ih _ _ _ (ht ha) (hc.setCell ha x) htp)
     obtain rfl : e = ⟨.cell a, true, m == .atomic⟩ := by simpa using he
     exact .inl ⟨ha, by simpa [World.setCell] using cellA_lt hx⟩
 | new o k ih =>
  intro v w es ht hc htp
  have hsz := hc.size
  have hS : ¬ S w.heap.size := fun h => by have := hc.low _ h; omega
  have e1 : Sem.runT Q (.new o k) v es = (k w.heap.size).runT Q { v with heap := v.heap.push o } (es ++ #[]) := by simp [Sem.runT, hsz]
  have e2 : Sem.runT P (.new o k) w es = (k w.heap.size).runT P { w with heap := w.heap.push o } (es ++ #[]) := by simp [Sem.runT]
  rw [e2] at htp
  exact Both.behind (c0 := 0) e1 e2 rfl rfl rfl rfl (by simp) (by simp) (ih _ _ _ _ (ht.2 _ hS) (hc.push ht.1) htp)
 | shape r k ih =>
  intro v w es ht hc htp
  have e2 : Sem.runT P (.shape r k) w es = (k (w.shape? r)).runT P w (es ++ #[]) := by simp [Sem.runT]
  rw [e2] at htp
  by_cases hr : S r
  ·rcases ht.2 with h | h | h
   ·exact absurd hr h
   ·obtain ⟨t, n, g1, g2⟩ := hc.shapeS hr
    exact .inl (dead_of (k := k (some (t, 0))) (by simp [Sem.runT, g1]) (Doomed.dead _ v es (h t) hc.whole))
   ·obtain ⟨t, n, g1, g2⟩ := hc.shapeS hr
    have e1 : Sem.runT Q (.shape r k) v es = (k (w.shape? r)).runT Q v (es ++ #[]) := by
     rw [g2, ← h t n _ _ hc.cold]
     simp only [Sem.runT, g1, Array.append_empty]
    exact Both.behind (c0 := 0) e1 e2 rfl rfl rfl rfl (Nat.le_refl _) (by simp) (ih _ _ _ _ (ht.1 _) hc htp)
  ·have e1 : Sem.runT Q (.shape r k) v es = (k (w.shape? r)).runT Q v (es ++ #[]) := by simp [Sem.runT, hc.shape hr]
   exact Both.behind (c0 := 0) e1 e2 rfl rfl rfl rfl (Nat.le_refl _) (by simp) (ih _ _ _ _ (ht.1 _) hc htp)
 | freeze a n k ih => intro v w es ht; exact ht.elim
 | frozen a k ih =>
  intro v w es ht hc htp
  have e1 : Sem.runT Q (.frozen a k) v es = (k (w.frozen? a)).runT Q v (es ++ #[]) := by simp [Sem.runT, hc.frozen a]
  have e2 : Sem.runT P (.frozen a k) w es = (k (w.frozen? a)).runT P w (es ++ #[]) := by simp [Sem.runT]
  rw [e2] at htp
  exact Both.behind (c0 := 0) e1 e2 rfl rfl rfl rfl (Nat.le_refl _) (by simp) (ih _ _ _ _ (ht _ fun hs => (hc.frozen a).symm.trans (hc.cold a hs)) hc htp)
 | getObj r k ih =>
  intro v w es ht hc htp
  by_cases hr : S r
  ·obtain ⟨t, c, f, e, _⟩ := hc.brk r hr
   exact .inl (getObj_no (.inr ⟨_, _, _, e⟩))
  ·have hvw := hc.out r hr
   rcases obj_cases w r with h | ⟨o, h, hn⟩
   ·refine .inl (getObj_no ?_)
    rw [hvw]
    rcases h with h | ⟨c, t, f, h⟩
    ·exact .inl (by rw [h]; rfl)
    ·exact .inr ⟨c, t, f, by rw [h]; rfl⟩
   ·have hv : v.heap[r]? = some (veil o) := by rw [hvw, h]; rfl
    have hnv : ∀ c t f, veil o ≠ .cells c t f := fun c t f e => hn c t f (veil_cells.1 e)
    have hch : (veil o).isChan = o.isChan := by
     rcases veil_cases o with ⟨h1, _⟩ | ⟨h1, h2⟩
     ·rw [h1]
     ·rw [h1]
      cases o <;> first | rfl | cases h2
    have e1 := getObj_run (p := Q) (k := k) (es := es) hv hnv
    have e2 := getObj_run (p := P) (k := k) (es := es) h hn
    rcases ht hr o with ⟨ht1, ht2⟩ | hdm
    case inr => exact .inl (dead_of e1 (Doomed.dead _ v _ hdm hc.whole))
    rw [ht2, hch] at e1
    rw [e2] at htp
    refine Both.behind (c0 := 0) e1 e2 rfl rfl rfl rfl (Nat.le_refl _) (fun e he => ?_) (ih _ _ _ _ ht1 hc htp)
    obtain rfl : e = ⟨.obj r, false, o.isChan⟩ := by simpa using he
    exact .inl ⟨hr, (Array.getElem?_eq_some_iff.1 h).1, rfl⟩
 | setObj r o k ih =>
  intro v w es ht hc htp
  by_cases hr : S r
  ·obtain ⟨t, c, f, e, _⟩ := hc.brk r hr
   exact .inl (setObj_no (.inr ⟨_, _, _, e⟩))
  ·have key : ∀ o1 o2, v.heap[r]? = some o1 → w.heap[r]? = some o2 → (∀ c t f, o1 ≠ .cells c t f) → (∀ c t f, o2 ≠ .cells c t f) → Dead Q Z (.setObj r o k) v es ∨ Both S Q P A (.setObj r o k) v w es := by
    intro o1 o2 h hw hn1 hn2
    have e2 := setObj_run (p := P) (x := o) (k := k) (es := es) hw hn2
    rw [e2] at htp
    refine Both.behind (c0 := 0) (setObj_run h hn1) e2 rfl rfl rfl rfl (by simp) (fun e he => ?_) (ih _ _ _ (ht hr).2 (hc.setObj hr (ht hr).1.1) htp)
    obtain rfl : e = ⟨.obj r, true, o.isChan⟩ := by simpa using he
    exact .inl ⟨hr, by simpa using (Array.getElem?_eq_some_iff.1 hw).1, by simp [(ht hr).1.2]⟩
   have hvw := hc.out r hr
   rcases obj_cases w r with h | ⟨o', h, hn⟩
   ·refine .inl (setObj_no ?_)
    rw [hvw]
    rcases h with h | ⟨c, t, f, h⟩
    ·exact .inl (by rw [h]; rfl)
    ·exact .inr ⟨c, t, f, by rw [h]; rfl⟩
   ·exact key (veil o') o' (by rw [hvw, h]; rfl) h (fun c t f e => hn c t f (veil_cells.1 e)) hn
 | choose q k ih =>
  intro v w es ht hc htp
  by_cases hq : q.forced = true
  ·have e1 : Sem.runT Q (.choose q k) v es = (k 0).runT Q v (es ++ #[]) := by simp [Sem.runT, hq]
   have e2 : Sem.runT P (.choose q k) w es = (k 0).runT P w (es ++ #[]) := by simp [Sem.runT, hq]
   rw [e2] at htp
   exact Both.behind (c0 := 0) e1 e2 rfl rfl rfl rfl (Nat.le_refl _) (by simp) (ih _ _ _ _ (ht _) hc htp)
  ·have e2 : Sem.runT P (.choose q k) w es = (k (q.cut (w.tape w.drawn q))).runT P { w with drawn := w.drawn + 1 } (es ++ #[]) := by simp [Sem.runT, hq]
   rw [e2] at htp
   have h0 := htp 0 (by
    have := drawn_le (P := P) (k (q.cut (w.tape w.drawn q))) { w with drawn := w.drawn + 1 } (es ++ #[])
    exact Nat.lt_of_lt_of_le (Nat.lt_succ_self _) this)
   have e1 : Sem.runT Q (.choose q k) v es = (k (q.cut (w.tape w.drawn q))).runT Q { v with drawn := v.drawn + 1 } (es ++ #[]) := by
    have : v.tape v.drawn = w.tape w.drawn := h0
    simp [Sem.runT, hq, this]
   refine Both.behind (c0 := 1) e1 e2 rfl rfl rfl rfl (Nat.le_refl _) (by simp) (ih _ _ _ _ (ht _) (hc.drew _ _) fun i hi => ?_)
   have := htp (i + 1) (by show w.drawn + (i + 1) < _; have hi' : w.drawn + 1 + i < _ := hi; omega)
   show v.tape (v.drawn + 1 + i) = w.tape (w.drawn + 1 + i)
   rw [Nat.add_assoc, Nat.add_comm 1 i, Nat.add_assoc, Nat.add_comm 1 i]
   exact this
 | sys c k ih =>
  intro v w es ht hc htp
  obtain ⟨rfl, ht⟩ := ht
  have hos : v.os = w.os := hc.os
  have e1 : Sem.runT Q (.sys .env k) v es = (k (.strings w.os.env)).runT Q v (es ++ #[⟨.output, true, false⟩]) := by
   rw [← hos]
   show (k (v.sys .env).1).runT Q (v.sys .env).2 (es.push ⟨.output, true, false⟩) = _
   rw [Array.push_eq_append]
   rfl
  have e2 : Sem.runT P (.sys .env k) w es = (k (.strings w.os.env)).runT P w (es ++ #[⟨.output, true, false⟩]) := by
   show (k (w.sys .env).1).runT P (w.sys .env).2 (es.push ⟨.output, true, false⟩) = _
   rw [Array.push_eq_append]
   rfl
  rw [e2] at htp
  refine Both.behind (c0 := 0) e1 e2 rfl rfl rfl rfl (Nat.le_refl _) (fun e he => ?_) (ih _ _ _ _ (ht _) hc htp)
  obtain rfl : e = ⟨.output, true, false⟩ := by simpa using he
  exact .inl trivial
 | program k ih =>
  intro v w es ht hc htp
  rcases ht with ht | ⟨a, ha, hz⟩
  case inr => exact .inl (.inr ⟨a, v, by simp [Sem.runT, ha], hz⟩)
  have e1 : Sem.runT Q (.program k) v es = (k P).runT Q v (es ++ #[]) := by simp [Sem.runT, ht.1]
  have e2 : Sem.runT P (.program k) w es = (k P).runT P w (es ++ #[]) := by simp [Sem.runT]
  rw [e2] at htp
  exact Both.behind (c0 := 0) e1 e2 rfl rfl rfl rfl (Nat.le_refl _) (by simp) (ih _ _ _ _ ht.2 hc htp)
 | mark m k ih =>
  intro v w es ht hc htp
  obtain ⟨hm, ht⟩ := ht
  have e1 : Sem.runT Q (.mark m k) v es = k.runT Q v (es ++ #[⟨.mark m, false, true⟩]) := by simp only [Sem.runT, Array.push_eq_append]
  have e2 : Sem.runT P (.mark m k) w es = k.runT P w (es ++ #[⟨.mark m, false, true⟩]) := by simp only [Sem.runT, Array.push_eq_append]
  rw [e2] at htp
  refine Both.behind (c0 := 0) e1 e2 rfl rfl rfl rfl (Nat.le_refl _) (fun e he => ?_) (ih _ _ _ ht hc htp)
  obtain rfl : e = ⟨.mark m, false, true⟩ := by simpa using he
  rcases hm with rfl | ⟨f, rfl⟩
  ·exact .inl trivial
  ·exact .inr ⟨f, rfl⟩
theorem tame_mono' {Z Z' A B : α → Prop} (hZ : ∀ a, Z a → Z' a) (hAB : ∀ a, A a → B a) (s : Sem α) (h : Tame Q P S Z A s) : Tame Q P S Z' B s := by
 induction s with
 | pure a => exact hAB a h
 | halt _ => exact h
 | load _ _ _ ih => exact fun hs x => ih x (h hs x)
 | store _ _ _ _ ih => exact fun hs => ih (h hs)
 | new _ _ ih => exact ⟨h.1, fun r hr => ih r (h.2 r hr)⟩
 | shape _ _ ih => exact ⟨fun x => ih x (h.1 x), h.2⟩
 | freeze _ _ _ _ => exact h.elim
 | frozen _ _ ih => exact fun x hx => ih x (h x hx)
 | getObj _ _ ih => exact fun hs x => (h hs x).imp (fun h => ⟨ih x h.1, h.2⟩) id
 | setObj _ _ _ ih => exact fun hs => ⟨(h hs).1, ih (h hs).2⟩
 | choose _ _ ih => exact fun x => ih x (h x)
 | sys _ _ ih => exact ⟨h.1, fun r => ih r (h.2 r)⟩
 | program _ ih => exact h.imp (fun h => ⟨h.1, ih _ h.2⟩) (fun ⟨a, h1, h2⟩ => ⟨a, h1, hZ _ h2⟩)
 | mark _ _ ih => exact ⟨h.1, ih h.2⟩
theorem tame_mono {A B : α → Prop} (hAB : ∀ a, A a → B a) (s : Sem α) (h : Tame Q P S Z A s) : Tame Q P S Z B s := tame_mono' (fun _ h => h) hAB s h
theorem doomed_bind {β : Type} (f : α → Sem β) (s : Sem α) (h : Doomed Q s) : Doomed Q (s.bind f) := by
 induction s with
 | halt _ => exact h
 | load _ _ _ ih => exact fun x => ih x (h x)
 | shape _ _ ih => exact fun x => ih x (h x)
 | frozen _ _ ih => exact fun x => ih x (h x)
 | getObj _ _ ih => exact fun x => ih x (h x)
 | choose _ _ ih => exact fun x => ih x (h x)
 | program _ ih => exact ih _ h
 | mark _ _ ih => exact ih h
 | _ => exact h.elim
theorem tame_bind {β : Type} {Z B : β → Prop} (f : α → Sem β) (s : Sem α) (h : Tame Q P S (fun _ => False) (fun a => Tame Q P S Z B (f a)) s) : Tame Q P S Z B (s.bind f) := by
 induction s with
 | pure a => exact h
 | halt _ => exact h
 | load _ _ _ ih => exact fun hs x => ih x (h hs x)
 | store _ _ _ _ ih => exact fun hs => ih (h hs)
 | new _ _ ih => exact ⟨h.1, fun r hr => ih r (h.2 r hr)⟩
 | shape _ _ ih => exact ⟨fun x => ih x (h.1 x), h.2.imp id (Or.imp (fun h x => doomed_bind f _ (h x)) (fun h t n v es hv => by rw [Go.Sem.runT_bind', Go.Sem.runT_bind', h t n v es hv]))⟩
 | freeze _ _ _ _ => exact h.elim
 | frozen _ _ ih => exact fun x hx => ih x (h x hx)
 | getObj _ _ ih => exact fun hs x => (h hs x).imp (fun h => ⟨ih x h.1, congrArg (fun s => Sem.bind s f) h.2⟩) (fun h => doomed_bind f _ h)
 | setObj _ _ _ ih => exact fun hs => ⟨(h hs).1, ih (h hs).2⟩
 | choose _ _ ih => exact fun x => ih x (h x)
 | sys _ _ ih => exact ⟨h.1, fun r => ih r (h.2 r)⟩
 | program _ ih => exact h.elim (fun h => .inl ⟨by show (_ : Sem α).bind f = (_ : Sem α).bind f; rw [h.1], ih _ h.2⟩) (fun ⟨_, _, h⟩ => h.elim)
 | mark _ _ ih => exact ⟨h.1, ih h.2⟩
end
end
section
open Go
structure Stubbed (Q P : Program) : Prop where
 eq : Q = { P with funcs := Q.funcs }
 size : Q.funcs.size = P.funcs.size
 fn : ∀ f : FuncId, Q.funcs[f]? = P.funcs[f]? ∨ ∃ (g : Func) (why : String), P.funcs[f]? = some g ∧ Q.funcs[f]? = some { g with body := some (.refuse why) }
def bottom : Frame := { fn := 0, tmps := #[], todo := [.code (.refuse "")], defers := [{ target := .nil, args := #[] }], mode := .run, kind := .normal }
def ext (g : Goroutine) : Goroutine := { g with callers := g.callers ++ [bottom] }
def Stub (g : Goroutine) : Prop := g.dying = none ∧ g.status = .running ∧ ((∃ why, g.frame.todo = [.code (.refuse why)] ∧ g.frame.mode = .run) ∨ ∃ ch, g.frame.mode = .panicking ch ∧ g.frame.defers = [{ target := .nil, args := #[] }])
def Agree (c : Nat) (v w : World) : Prop := ∀ i, i < c → v.tape (v.drawn + i) = w.tape (w.drawn + i)
def Went (S : Sh) (x : GStep) (c : Nat) (v w v1 : World) (g' : Goroutine) (es : Array Event) : Prop :=
 v1.drawn = v.drawn + c ∧ v1.tape = v.tape ∧ ∃ w1, x = .go g' w1 es ∧ w1.drawn = w.drawn + c ∧ w1.tape = w.tape ∧ Cp S v1 w1 ∧ w.heap.size ≤ w1.heap.size ∧ ∀ e ∈ es, OkE S w1.heap.size e
def Fin1 (S : Sh) (K : Goroutine → Prop) (x y : GStep) (c : Nat) (v w : World) : Prop :=
 (∃ o v' es, x = .ended o v' es) ∨ ∃ g' v1 es, x = .go g' v1 es ∧ (Stub g' ∨ ∃ gc, g' = ext gc ∧ K gc ∧ Went S y c v w v1 gc es)
def InStep (S : Sh) (K : Goroutine → Prop) (x : World → GStep) (y : GStep) (w : World) : Prop :=
 ∃ c, ∀ v, Cp S v w → Agree c v w → Fin1 S K (x v) y c v w
section
variable {Q P : Program} {S : Sh} {K : Goroutine → Prop}
theorem seen_same (h : Stubbed Q P) (fn : FuncId) (es : Array Event) : seen Q fn es = seen P fn es := by
 have hq : ∀ f : FuncId, (Q.funcs[f]?).any (·.norace) = (P.funcs[f]?).any (·.norace) := fun f => by
  rcases h.fn f with e | ⟨g, why, e1, e2⟩
  ·rw [e]
  ·rw [e1, e2]; rfl
 unfold seen
 simp only [hq]
theorem seen_mem {p : Program} {fn : FuncId} {es : Array Event} {e : Event} (h : e ∈ seen p fn es) : e ∈ es ∧ ∀ f, e.loc ≠ .mark (.extern f) := by
 obtain ⟨l⟩ := es
 unfold seen at h
 simp only [List.foldl_toArray'] at h
 have key : ∀ (l : List Event) (z : Bool × Array Event), e ∈ (l.foldl (fun (x : Bool × Array Event) e => match e.loc with
   | .mark (.extern f) => ((p.funcs[f]?).any (·.norace), x.2)
   | _ => (x.1, if x.1 && !e.sync then x.2 else x.2.push e)) z).2 → e ∈ z.2 ∨ (e ∈ l ∧ ∀ f, e.loc ≠ .mark (.extern f)) := by
  intro l
  induction l with
  | nil => intro z h; exact .inl h
  | cons a l ih =>
   intro z h
   rw [List.foldl_cons] at h
   rcases ih _ h with h | h
   ·split at h
    ·exact .inl h
    ·rename_i hn
     dsimp only at h
     split at h
     ·exact .inl h
     ·rcases Array.mem_push.1 h with h | h
      ·exact .inl h
      ·subst h; exact .inr ⟨by simp, fun f hf => hn f hf⟩
   ·exact .inr ⟨by simp [h.1], h.2⟩
 rcases key l _ h with h | h
 ·simp at h
 ·exact ⟨by simpa using h.1, h.2⟩
theorem seen_ok {p : Program} {fn : FuncId} {us : Array Event} {B : Nat} (hok : ∀ e ∈ us, OkE0 S B e) {e : Event} (h : e ∈ seen p fn us) : OkE S B e := by
 obtain ⟨h1, h2⟩ := seen_mem h
 exact (hok e h1).elim id fun ⟨f, hf⟩ => absurd hf (h2 f)
theorem enterF_same (h : Stubbed Q P) (f : FuncId) (args : Array Value) (k : CallKind) (cs : List Frame) :
  Stub { frame := Frame.enter Q f args k, callers := cs, status := .running, dying := none } ∨ Frame.enter Q f args k = Frame.enter P f args k := by
 rcases h.fn f with e | ⟨g, why, e1, e2⟩
 ·right; unfold Frame.enter; rw [e]
 ·left
  exact ⟨rfl, rfl, .inl ⟨why, by simp [Frame.enter, e2], rfl⟩⟩
theorem Stubbed.follows (h : Stubbed Q P) (d : Departure) : Q.follows d = P.follows d := congrArg (fun p => p.follows d) h.eq
theorem went (hst : Stubbed Q P) {fn : FuncId} {us : Array Event} {G G' : Goroutine} {v w v2 w2 : World} {c : Nat} (hG : Stub G ∨ (G = ext G' ∧ K G')) (c2 : Cp S v2 w2) (t1 : v2.tape = v.tape) (t2 : w2.tape = w.tape) (hsz : w.heap.size ≤ w2.heap.size)
  (d1 : v2.drawn = v.drawn + c) (d2 : w2.drawn = w.drawn + c) (hok : ∀ e ∈ us, OkE0 S w2.heap.size e) :
  Fin1 S K (GStep.after (seen Q fn us) (.go G v2)) (GStep.after (seen P fn us) (.go G' w2)) c v w := by
 refine .inr ⟨_, _, _, rfl, ?_⟩
 rcases hG with h | ⟨rfl, hK⟩
 ·exact .inl h
 ·refine .inr ⟨G', rfl, hK, d1, t1, w2, ?_, d2, t2, c2, hsz, fun e he => ?_⟩
  ·simp only [GStep.after, seen_same hst]
  ·rcases Array.mem_append.1 he with he | he
   ·exact seen_ok hok he
   ·simp at he
def ZN (Q : Program) : Next → Prop
 | .enter f _ => ∃ (g : Func) (why : String), Q.funcs[f]? = some { g with body := some (.refuse why) }
 | _ => False
theorem stub_enter {f : FuncId} {args : Array Value} (h : ZN Q (.enter f args)) (k : CallKind) (cs : List Frame) : Stub { frame := Frame.enter Q f args k, callers := cs, status := .running, dying := none } := by
 obtain ⟨g, why, e⟩ := h
 exact ⟨rfl, rfl, .inl ⟨why, by simp [Frame.enter, e], rfl⟩⟩
def OkNext : Next → Prop
 | .value _ | .skip | .enter _ _ => True
 | .round _ _ _ a b => synCode a = true ∧ synCode b = true
 | _ => False
theorem apply_couple (hst : Stubbed Q P) {fr : Frame} {cs : List Frame} (hk : (fr.kind == .early) = false) {s : Sem Next} (hs : Tame Q P S (ZN Q) OkNext s)
  (k1 : ∀ v, K { frame := fr.finish v, callers := cs, status := .running, dying := none })
  (k2 : ∀ f args, Frame.enter Q f args (match fr.todo with | .call _ true _ _ :: _ => .wrapped | _ => .normal) = Frame.enter P f args (match fr.todo with | .call _ true _ _ :: _ => .wrapped | _ => .normal) →
   K { frame := Frame.enter P f args (match fr.todo with | .call _ true _ _ :: _ => .wrapped | _ => .normal), callers := fr :: cs, status := .running, dying := none })
  (k3 : ∀ ch, K { frame := fr.raise ch, callers := cs, status := .running, dying := none })
  (k4 : ∀ l f tmps a b, synCode a = true → synCode b = true → K { frame := Frame.round l f tmps a b .normal, callers := fr :: cs, status := .running, dying := none }) (w : World) :
  InStep S K (stepG.apply Q true fr (cs ++ [bottom]) none s) (stepG.apply P true fr cs none s w) w := by
 refine ⟨(Result.w (s.runT P w #[]).1).drawn - w.drawn, fun v hc ha => ?_⟩
 rcases run_couple s v w #[] hs hc (fun i hi => ha i (by omega)) with (⟨h, v', hd, hE⟩ | ⟨a, v', hd, hZ⟩) | ⟨us, v2, w2, c2, t1, t2, hsz, ⟨c, d1, d2⟩, hok, hb⟩
 case inl.inr =>
  obtain ⟨r, e⟩ : ∃ r, s.runT Q v #[] = r := ⟨_, rfl⟩
  obtain ⟨r1, r2⟩ := r
  rw [e] at hd
  obtain rfl : r1 = .ok a v' := hd
  simp only [stepG.apply, e, if_true]
  cases a with
  | enter f args => exact .inr ⟨_, _, _, rfl, .inl (stub_enter hZ _ _)⟩
  | _ => exact hZ.elim
 ·obtain ⟨r, e⟩ : ∃ r, s.runT Q v #[] = r := ⟨_, rfl⟩
  obtain ⟨r1, r2⟩ := r
  rw [e] at hd
  obtain rfl : r1 = .halt h v' := hd
  simp only [stepG.apply, e, if_true]
  cases h with
  | stuck m => exact .inl ⟨_, _, _, rfl⟩
  | unsupported u => cases u <;> first | exact hE.elim | exact .inl ⟨_, _, _, rfl⟩
  | _ => exact hE.elim
 ·rcases hb with ⟨a, hA, e1, e2⟩ | ⟨h, hn, e1, e2⟩
  ·have hcd : (Result.w (s.runT P w #[]).1).drawn - w.drawn = c := by rw [e2]; show w2.drawn - w.drawn = c; omega
   rw [hcd]
   simp only [stepG.apply, e1, e2, if_true, hk, Bool.false_eq_true, if_false, Array.empty_append]
   cases a with
   | value x => exact went hst (.inr ⟨rfl, k1 _⟩) c2 t1 t2 hsz d1 d2 hok
   | skip => exact went hst (.inr ⟨rfl, k1 _⟩) c2 t1 t2 hsz d1 d2 hok
   | enter f args => exact went hst ((enterF_same hst f args _ _).imp id (fun e => ⟨congrArg (fun x => ({ frame := x, callers := fr :: (cs ++ [bottom]), status := .running, dying := none } : Goroutine)) e, k2 f args e⟩)) c2 t1 t2 hsz d1 d2 hok
   | round l f tmps a b => exact went hst (.inr ⟨rfl, k4 l f tmps a b hA.1 hA.2⟩) c2 t1 t2 hsz d1 d2 hok
   | _ => exact hA.elim
  ·have hcd : (Result.w (s.runT P w #[]).1).drawn - w.drawn = c := by rw [e2]; show w2.drawn - w.drawn = c; omega
   rw [hcd]
   simp only [stepG.apply, e1, e2, if_true, hk, Bool.false_eq_true, if_false, Array.empty_append]
   cases h with
   | panic x => exact went hst (.inr ⟨rfl, k3 _⟩) c2 t1 t2 hsz d1 d2 hok
   | unsupported u => cases u <;> first | exact hn.elim | exact .inl ⟨_, _, _, rfl⟩
   | stuck x => exact .inl ⟨_, _, _, rfl⟩
   | _ => exact hn.elim
theorem Fin1.after (hst : Stubbed Q P) {fn : FuncId} {us : Array Event} {x y : GStep} {c c0 : Nat} {v w v2 w2 : World} (t1 : v2.tape = v.tape) (t2 : w2.tape = w.tape) (hsz : w.heap.size ≤ w2.heap.size)
  (d1 : v2.drawn = v.drawn + c0) (d2 : w2.drawn = w.drawn + c0) (hok : ∀ e ∈ us, OkE0 S w2.heap.size e) (h : Fin1 S K x y c v2 w2) : Fin1 S K (GStep.after (seen Q fn us) x) (GStep.after (seen P fn us) y) (c0 + c) v w := by
 rcases h with ⟨o, v', es, rfl⟩ | ⟨g', v1, es, rfl, h⟩
 ·exact .inl ⟨_, _, _, rfl⟩
 ·refine .inr ⟨_, _, _, rfl, ?_⟩
  rcases h with h | ⟨gc, rfl, hK, e1, e2, w1, rfl, e3, e4, e5, e6, e7⟩
  ·exact .inl h
  ·refine .inr ⟨gc, rfl, hK, by omega, e2.trans t1, w1, ?_, by omega, e4.trans t2, e5, Nat.le_trans hsz e6, fun e he => ?_⟩
   ·simp only [GStep.after, seen_same hst]
   ·rcases Array.mem_append.1 he with he | he
    ·exact (seen_ok hok he).mono e6
    ·exact e7 e he
theorem then_couple (hst : Stubbed Q P) {α : Type} {s : Sem α} {A : α → Prop} (hs : Tame Q P S (fun _ => False) A s) {fn : FuncId} {X Y : α → World → GStep} {hq hp : Halt → World → GStep} (hX : ∀ a, A a → ∀ w2, InStep S K (X a) (Y a w2) w2)
  (hE : ∀ h v, (∀ x, h ≠ .panic x) → ∃ o v' es, hq h v = .ended o v' es) (hPn : ∀ x, (∃ G, K G ∧ (∀ v, hq (.panic x) v = .go (ext G) v) ∧ ∀ w, hp (.panic x) w = .go G w) ∨ ∀ v, ∃ o v' es, hq (.panic x) v = .ended o v' es) (w : World) :
  InStep S K (fun v => GStep.after (seen Q fn (s.runT Q v #[]).2) (match (s.runT Q v #[]).1 with | .ok a v => X a v | .halt h v => hq h v))
   (GStep.after (seen P fn (s.runT P w #[]).2) (match (s.runT P w #[]).1 with | .ok a w => Y a w | .halt h w => hp h w)) w := by
 have key : ∀ c2, (∀ a w2, (s.runT P w #[]).1 = .ok a w2 → A a → ∀ v, Cp S v w2 → Agree c2 v w2 → Fin1 S K (X a v) (Y a w2) c2 v w2) → InStep S K (fun v => GStep.after (seen Q fn (s.runT Q v #[]).2) (match (s.runT Q v #[]).1 with | .ok a v => X a v | .halt h v => hq h v))
   (GStep.after (seen P fn (s.runT P w #[]).2) (match (s.runT P w #[]).1 with | .ok a w => Y a w | .halt h w => hp h w)) w := by
  intro c2 hc2
  refine ⟨((Result.w (s.runT P w #[]).1).drawn - w.drawn) + (match (s.runT P w #[]).1 with | .ok _ _ => c2 | .halt _ _ => 0), fun v hc ha => ?_⟩
  rcases run_couple s v w #[] hs hc (fun i hi => ha i (by omega)) with (⟨h, v', hd, hEn⟩ | ⟨_, _, _, hz⟩) | ⟨us, v2, w2, cc2, t1, t2, hsz, ⟨c, d1, d2⟩, hok, hb⟩
  ·simp only [hd]
   obtain ⟨o, v3, es, e⟩ := hE h v' (fun x e => by rw [e] at hEn; exact hEn)
   rw [e]
   exact .inl ⟨_, _, _, rfl⟩
  ·exact hz.elim
  ·rcases hb with ⟨a, hA, e1, e2⟩ | ⟨h, hn, e1, e2⟩
   ·have hcd : (Result.w (s.runT P w #[]).1).drawn - w.drawn = c := by rw [e2]; show w2.drawn - w.drawn = c; omega
    have hag : Agree (c + c2) v w := by
     rw [hcd, e2] at ha
     exact ha
    rw [hcd]
    simp only [e1, e2, Array.empty_append]
    refine Fin1.after hst t1 t2 hsz d1 d2 hok (hc2 a w2 (by rw [e2]) hA v2 cc2 fun i hi => ?_)
    have := hag (c + i) (by omega)
    rw [t1, t2, d1, d2, Nat.add_assoc, Nat.add_assoc]
    exact this
   ·have hcd : (Result.w (s.runT P w #[]).1).drawn - w.drawn = c := by rw [e2]; show w2.drawn - w.drawn = c; omega
    rw [hcd]
    simp only [e1, e2, Array.empty_append]
    by_cases hpan : ∃ x, h = .panic x
    ·obtain ⟨x, rfl⟩ := hpan
     rcases hPn x with ⟨G, hG, g1, g2⟩ | g
     ·rw [g1, g2]
      have := went hst (fn := fn) (us := us) (K := K) (v := v) (w := w) (.inr ⟨rfl, hG⟩) cc2 t1 t2 hsz d1 d2 hok
      simpa using this
     ·obtain ⟨o, v3, es, e⟩ := g v2
      rw [e]
      exact .inl ⟨_, _, _, rfl⟩
    ·obtain ⟨o, v3, es, e⟩ := hE h v2 (fun x e => hpan ⟨x, e⟩)
     rw [e]
     exact .inl ⟨_, _, _, rfl⟩
 cases hr : (s.runT P w #[]).1 with
 | halt h w2 => exact hr ▸ key 0 (fun a w2 e => by rw [hr] at e; cases e)
 | ok a w2 =>
  by_cases hA : A a
  ·obtain ⟨c2, hc2⟩ := hX a hA w2
   exact hr ▸ key c2 (fun a' w2' e _ => by
    rw [hr] at e
    cases e
    exact hc2)
  ·exact hr ▸ key 0 (fun a' w2' e hA' => by
    rw [hr] at e
    cases e
    exact absurd hA' hA)
end
end
end Go.Proofs.YtdafpnpfcmgfcaaGreatDoor
