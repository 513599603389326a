/- How many names an answer's book holds. Safe stays safe: needing less, leaving, entering. Those who can have all they need at once: the specification. Those on whom somebody waits: the specification. Moving, waiting, being stuck: what the law says of them. Rows of batches of the call's own whose lists lie anywhere: old ones, or rows of names of its own. The law's own search of a list. -/
import Derived.Test.YtdafpnpfcmgfcaaGreatDoorKb32
import Derived.Test.YtdafpnpfcmgfcaaGreatDoorKb23
import Derived.Test.YtdafpnpfcmgfcaaGreatDoorKb22
import Derived.Test.YtdafpnpfcmgfcaaGreatDoorKb18
import Derived.Test.YtdafpnpfcmgfcaaGreatDoorKb26
import Derived.Test.YtdafpnpfcmgfcaaGreatDoorKb17
namespace Go.Proofs.YtdafpnpfcmgfcaaGreatDoor
section
open Go.RowKit
structure LSt (P3 P4 P5 P6 x1 x2 : Nat) (b B : Book) (s1 s2 g1 g2 : Option Addr) (t1 t2 e1 e2 : Nat) (rs : List Row) (w3 wk : World) : Prop where
 ext : Ext w3 wk
 r0 : Rec wk P3 26 [.slice s1 B.things.length t1, .slice s2 B.batches.length t2]
 rx : Rec wk P4 26 [.slice (some ⟨x1, 0, none⟩) b.things.length b.things.length, .slice (some ⟨x2, 0, none⟩) b.batches.length b.batches.length]
 rg : Rec wk P6 26 [.slice g1 B.things.length e1, .slice g2 B.batches.length e2]
 ob : OB wk P5 (.slice g1 B.things.length e1) (.slice g2 B.batches.length e2) rs B
section
variable {P3 P4 P5 P6 x1 x2 : Nat} {b B : Book} {s1 s2 g1 g2 : Option Addr} {t1 t2 e1 e2 : Nat} {rs : List Row} {w3 wk wl : World}
end
end
section
def CanN (b : Book) (x : Str) (l : List Str) : Prop := ∀ X ∈ b.batches, X.name = x → ∀ Y ∈ b.batches, Y.name ≠ x → Y.name ∉ l → ∀ t ∈ Y.has, t ∉ X.needs
structure Fit (b : Book) (o : List Str) : Prop where
 all : ∀ x ∈ namesOf b.batches, x ∈ o
 only : ∀ x ∈ o, x ∈ namesOf b.batches
 nodup : o.Nodup
 can : ∀ l x r, o = l ++ x :: r → CanN b x l
theorem names_nodup {b : Book} (h : bookOk b = true) : (namesOf b.batches).Nodup := by
 have h1 := ok_names h
 exact h1.imp (fun {x y} hxy e => by rw [e, LtS, less_irrefl] at hxy; cases hxy)
theorem name_uniq {b : Book} (h : bookOk b = true) {i j : Nat} (hi : i < b.batches.length) (hj : j < b.batches.length) (e : (nthB b.batches i).name = (nthB b.batches j).name) : i = j := by
 rcases Nat.lt_trichotomy i j with hlt | rfl | hlt
 ·have := asc_nth (ok_names h) hlt (by rw [namesOf_length]; exact hj)
  rw [nth_namesOf hi, nth_namesOf hj, e, less_irrefl] at this; cases this
 ·rfl
 ·have := asc_nth (ok_names h) hlt (by rw [namesOf_length]; exact hi)
  rw [nth_namesOf hi, nth_namesOf hj, e, less_irrefl] at this; cases this
theorem mem_nthB {bs : List Batch} {X : Batch} (h : X ∈ bs) : ∃ i, i < bs.length ∧ nthB bs i = X := by
 obtain ⟨i, hi, e⟩ := List.getElem_of_mem h
 exact ⟨i, hi, by rw [nthB_get hi, e]⟩
theorem nthB_mem {bs : List Batch} {i : Nat} (h : i < bs.length) : nthB bs i ∈ bs := by rw [nthB_get h]; exact List.getElem_mem h
theorem can_iff {b : Book} {p : Nat} {l : List Str} (hok : bookOk b = true) (hp : p < b.batches.length) : canB b p l = true ↔ CanN b (nthB b.batches p).name l := by
 constructor
 ·intro h X hX hXn Y hY hYn hYl t ht hn
  obtain ⟨i, hi, rfl⟩ := mem_nthB hY
  obtain ⟨q, hq, rfl⟩ := mem_nthB hX
  have e := name_uniq hok hq hp hXn
  subst e
  have hip : i ≠ q := fun e => hYn (by rw [e])
  have h1 := allLt_true.1 h i hi
  have hc : clash b q l i = true := by
   unfold clash
   have e1 : hasB l (b.at i).name = false := by rw [← Bool.not_eq_true, hasB_true]; exact hYl
   have e2 : shareB (b.at i).has (b.at q).needs = true := (shareB_true).2 ⟨t, ht, hn⟩
   rw [e1, e2]; simp [hip]
  rw [hc] at h1; cases h1
 ·intro h
  refine canB_yes (fun i hi => ?_)
  cases hc : clash b p l i
  ·rfl
  ·unfold clash at hc
   simp only [Bool.and_eq_true, Bool.not_eq_true', decide_eq_false_iff_not] at hc
   obtain ⟨⟨h1, h2⟩, h3⟩ := hc
   obtain ⟨t, ht, hn⟩ := shareB_true.1 h3
   rw [← Bool.not_eq_true, hasB_true] at h2
   exact absurd hn (h _ (nthB_mem hp) rfl _ (nthB_mem hi) (fun e => h1 (name_uniq hok hi hp e)) h2 t ht)
theorem safe_iff {b : Book} (hok : bookOk b = true) : safeB b = true ↔ ∃ o, Fit b o := by
 constructor
 ·intro hs
  obtain ⟨_, hl, hv⟩ := fits_parts (order_fits hs)
  have hn := valid_nodup hv
  have honly : ∀ x ∈ orderL b, x ∈ namesOf b.batches := fun x hx => by
   obtain ⟨i, hi, e⟩ := List.getElem_of_mem hx
   have := (step_parts (hv i hi)).1
   rw [nth_get hi, e, ← namesOf_length] at this
   exact place_lt.1 this
  refine ⟨orderL b, fun x hx => ?_, honly, hn, fun l x r e => ?_⟩
  ·by_cases hm : x ∈ orderL b
   ·exact hm
   ·have h1 : (x :: orderL b).Nodup := List.nodup_cons.2 ⟨hm, hn⟩
    have h2 := h1.length_le_of_subset (l₂ := namesOf b.batches) (fun y hy => by
     rw [List.mem_cons] at hy
     rcases hy with rfl | hy
     ·exact hx
     ·exact honly y hy)
    rw [List.length_cons, namesOf_length] at h2
    omega
  ·have hi : l.length < (orderL b).length := by rw [e]; simp
   have hnth : nth (orderL b) l.length = x := by rw [nth_get hi]; simp [e]
   have ht : (orderL b).take l.length = l := by rw [e]; simp
   obtain ⟨h1, h2, h3⟩ := step_parts (hv l.length hi)
   rw [hnth, ht] at h3
   rw [hnth] at h1
   have hx : x ∈ namesOf b.batches := honly x (by rw [e]; simp)
   have e2 : (nthB b.batches (place (namesOf b.batches) x)).name = x := by
    rw [← nth_namesOf h1]; exact place_nth hx
   have := (can_iff hok h1).1 h3
   rwa [e2] at this
 ·rintro ⟨o, hf⟩
  have hl : o.length = b.batches.length := by
   have h1 := hf.nodup.length_le_of_subset (l₂ := namesOf b.batches) (fun x hx => hf.only x hx)
   have h2 := (names_nodup hok).length_le_of_subset (l₂ := o) (fun x hx => hf.all x hx)
   rw [namesOf_length] at h1 h2
   omega
  refine fits_safe (fitsB_yes hok hl (fun i hi => ?_))
  have hx : nth o i ∈ namesOf b.batches := hf.only _ (by rw [nth_get hi]; exact List.getElem_mem hi)
  have h1 : place (namesOf b.batches) (nth o i) < b.batches.length := by rw [← namesOf_length]; exact place_lt.2 hx
  have e : o = o.take i ++ nth o i :: o.drop (i + 1) := by
   rw [nth_get hi, List.getElem_cons_drop, List.take_append_drop]
  have e2 : (nthB b.batches (place (namesOf b.batches) (nth o i))).name = nth o i := by
   rw [← nth_namesOf h1]; exact place_nth hx
  have h3 := hf.can _ _ _ e
  have hc : canB b (place (namesOf b.batches) (nth o i)) (o.take i) = true := (can_iff hok h1).2 (by rw [e2]; exact h3)
  have hb : hasB (o.take i) (nth o i) = false := by
   rw [← Bool.not_eq_true, hasB_true]
   intro hm
   have hn := hf.nodup
   rw [e, List.nodup_append] at hn
   exact (hn.2.2 _ hm _ (by simp)) rfl
  unfold stepB
  rw [hb, hc]
  simp [h1]
end
section
open Go.RowKit
attribute [local go_sem] S_toList S_size S_get
def pickL (yes : Nat → Bool) (bs : List Batch) : Nat → List Str
 | 0 => []
 | n + 1 => if yes n = true then pickL yes bs n ++ [(nthB bs n).name] else pickL yes bs n
def movesL (b : Book) : List Str := if bookOk b = true then pickL (fun i => canB b i []) b.batches b.batches.length else []
theorem pickL_yes {yes : Nat → Bool} {bs : List Batch} {n : Nat} (h : yes n = true) : pickL yes bs (n + 1) = pickL yes bs n ++ [(nthB bs n).name] := by simp [pickL, h]
theorem pickL_no {yes : Nat → Bool} {bs : List Batch} {n : Nat} (h : yes n = false) : pickL yes bs (n + 1) = pickL yes bs n := by simp [pickL, h]
theorem pickL_len (yes : Nat → Bool) (bs : List Batch) : ∀ n, (pickL yes bs n).length ≤ n
 | 0 => Nat.le_refl _
 | n + 1 => by
  have := pickL_len yes bs n
  simp only [pickL]
  split
  ·simp; omega
  ·omega
def ShortP (l : List Str) : Prop := ∀ i, i < l.length → (nth l i).length ≤ 140737488355328
theorem ShortP.snoc {l : List Str} {x : Str} (h : ShortP l) (hx : x.length ≤ 140737488355328) : ShortP (l ++ [x]) := by
 intro i hi
 rw [List.length_append, List.length_singleton] at hi
 by_cases e : i < l.length
 ·rw [nth_get (by rw [List.length_append]; omega), List.getElem_append_left e, ← nth_get e]; exact h i e
 ·have e' : i = l.length := by omega
  subst e'
  rw [nth_get (by simp), List.getElem_append_right (Nat.le_refl _)]; simpa using hx
theorem pickL_short {w : World} {a : Option Addr} {bs : List Batch} (h : BatchesAt w a bs) (yes : Nat → Bool) : ∀ n, n ≤ bs.length → ShortP (pickL yes bs n)
 | 0, _ => fun i hi => by simp [pickL] at hi
 | n + 1, hn => by
  have hp := pickL_short h yes n (by omega)
  simp only [pickL]
  split
  ·refine hp.snoc ?_
   obtain ⟨_, _, _, hl, _⟩ := h.2 n (by omega)
   exact hl
  ·exact hp
theorem OwnL.kp {w w' : World} {base : Nat} {v : Value} {ss : List Str} (h : OwnL w base v ss) (e : Ext w w') : OwnL w' base v ss := by
 refine World.ownsRow.kept h (row := none) ⟨e.os, e.tape, e.output, e.size, fun k hk _ => e.block k hk⟩ ?_
 cases v.ownBlock <;> simp
theorem OwnL.lo {w : World} {base base' : Nat} {v : Value} {ss : List Str} (h : OwnL w base v ss) (hb : base' ≤ base) : OwnL w base' v ss := by
 refine ⟨h.1, ?_⟩
 rcases h.2 with h2 | ⟨g, cap, cur, hv, hg, r⟩
 ·exact Or.inl h2
 ·exact Or.inr ⟨g, cap, cur, hv, by omega, r⟩
end
section
open Go.RowKit
attribute [local go_sem] S_toList S_size S_get
def waitY (b : Book) (p i : Nat) : Bool := !(i == p) && shareB (nthB b.batches i).has (nthB b.batches p).needs
def waitsL (b : Book) (x : Str) : List Str := if bookOk b = true ∧ place (namesOf b.batches) x < b.batches.length then pickL (waitY b (place (namesOf b.batches) x)) b.batches b.batches.length else []
end
section
theorem pickL_mem {yes : Nat → Bool} {bs : List Batch} {x : Str} : ∀ {n : Nat}, x ∈ pickL yes bs n ↔ ∃ j, j < n ∧ yes j = true ∧ (nthB bs j).name = x
 | 0 => by simp [pickL]
 | n + 1 => by
  have ih := pickL_mem (yes := yes) (bs := bs) (x := x) (n := n)
  cases hy : yes n
  ·rw [pickL_no hy, ih]
   constructor
   ·rintro ⟨j, h1, h2⟩; exact ⟨j, by omega, h2⟩
   ·rintro ⟨j, h1, h2, h3⟩
    refine ⟨j, ?_, h2, h3⟩
    by_cases e : j = n
    ·subst e; rw [hy] at h2; cases h2
    ·omega
  ·rw [pickL_yes hy, List.mem_append, ih, List.mem_singleton]
   constructor
   ·rintro (⟨j, h1, h2⟩ | h)
    ·exact ⟨j, by omega, h2⟩
    ·exact ⟨n, by omega, hy, h.symm⟩
   ·rintro ⟨j, h1, h2, h3⟩
    by_cases e : j = n
    ·subst e; exact .inr h3.symm
    ·exact .inl ⟨j, by omega, h2, h3⟩
def stuckB (b : Book) : Bool := bookOk b && (decide (0 < b.batches.length) && decide ((movesL b).length = 0))
end
section
open Go.RowKit
def LstW (w : World) (X : Nat) (v : Value) (ss : List Str) : Prop :=
 ∃ a cap, v = .slice a ss.length cap ∧ StrsAt w a ss ∧ (0 < ss.length → ∀ b o, a = some ⟨b, o, none⟩ → b < X ∨ ∃ c, w.heap[b]? = some (.cells c 9 (0, 0)))
theorem LstW.keep {w w' : World} {X : Nat} {v : Value} {ss : List Str} (h : LstW w X v ss) {row : Option Nat} (g : w.grownBy w' row) (hX : ∀ k, row = some k → X ≤ k) (hne : ∀ (k : Nat) c, row = some k → w.heap[k]? = some (.cells c 9 (0, 0)) → False) : LstW w' X v ss := by
 obtain ⟨a, cap, e, hs, hp⟩ := h
 refine ⟨a, cap, e, hs.gb g fun h0 b o ea er => ?_, fun h0 b o ea => ?_⟩
 ·rcases hp h0 b o ea with h | ⟨c, h⟩
  ·have := hX b er.symm; omega
  ·exact hne b c er.symm h
 ·rcases hp h0 b o ea with h | ⟨c, h⟩
  ·exact .inl h
  ·refine .inr ⟨c, ?_⟩
   rw [g.block b (Array.getElem?_eq_some_iff.1 h).1 (fun er => hne b c er.symm h)]
   exact h
theorem LstW.ext {w w' : World} {X : Nat} {v : Value} {ss : List Str} (h : LstW w X v ss) (e : Ext w w') : LstW w' X v ss := h.keep (gb_none e) (fun k h => by cases h) (fun k c h => by cases h)
theorem LstW.stored {w : World} {X : Nat} {v : Value} {ss : List Str} (h : LstW w X v ss) {Y : Nat} {t : TypeId} {l : List Value} (hr : Rec w Y t l) (h1 : (t == 9) = false) (hY : X ≤ Y) (i : Nat) (u : Value) : LstW (w.setCell ⟨Y, i, none⟩ u) X v ss := by
 refine h.keep (gb_store w Y i u) (fun k e => by cases e; exact hY) (fun k c e hk => ?_)
 simp only [Option.some.injEq] at e
 subst e
 rw [show w.heap[Y]? = _ from hr] at hk
 simp only [Option.some.injEq, Obj.cells.injEq] at hk
 simp [hk.2.1] at h1
theorem LstW.old {w : World} {X : Nat} {a : Option Addr} {cap : Nat} {ss : List Str} (h : StrsAt w a ss) (hX : 0 < ss.length → ∀ b o, a = some ⟨b, o, none⟩ → b < X) : LstW w X (.slice a ss.length cap) ss :=
 ⟨a, cap, rfl, h, fun h0 b o e => .inl (hX h0 b o e)⟩
theorem LstW.own {w : World} {X base : Nat} {v : Value} {ss : List Str} (h : OwnL w base v ss) (hs : ShortS ss) : LstW w X v ss := by
 obtain ⟨a, cap, e, h1⟩ := h.at' hs
 refine ⟨a, cap, e, h1, fun h0 b o ea => .inr ?_⟩
 rcases h.2 with ⟨e2, h2⟩ | ⟨g, cap', cur, e2, _, hg, _⟩
 ·omega
 ·rw [e2, ea] at e
  simp only [Value.slice.injEq, Option.some.injEq, Addr.mk.injEq] at e
  exact ⟨cur, by rw [← e.1.1]; exact hg⟩
def RowW (w : World) (X : Nat) (r : Row) (x : Batch) : Prop := r.name = x.name ∧ x.name.length ≤ 140737488355328 ∧ LstW w X r.has x.has ∧ LstW w X r.needs x.needs
def RowsW (w : World) (X : Nat) (rs : List Row) (bs : List Batch) : Prop := rs.length = bs.length ∧ ∀ (i : Nat) r x, rs[i]? = some r → bs[i]? = some x → RowW w X r x
def BsW (w : World) (X L : Nat) (v : Value) (bs : List Batch) : Prop := ∃ rs, w.ownsRow X 73 3 v rs.length (cellsOf rs) ∧ RowsW w L rs bs
theorem RowW.keep {w w' : World} {X : Nat} {r : Row} {x : Batch} (h : RowW w X r x) {row : Option Nat} (g : w.grownBy w' row) (hX : ∀ k, row = some k → X ≤ k) (hne : ∀ (k : Nat) c, row = some k → w.heap[k]? = some (.cells c 9 (0, 0)) → False) : RowW w' X r x :=
 ⟨h.1, h.2.1, h.2.2.1.keep g hX hne, h.2.2.2.keep g hX hne⟩
theorem RowsW.keep {w w' : World} {X : Nat} {rs : List Row} {bs : List Batch} (h : RowsW w X rs bs) {row : Option Nat} (g : w.grownBy w' row) (hX : ∀ k, row = some k → X ≤ k) (hne : ∀ (k : Nat) c, row = some k → w.heap[k]? = some (.cells c 9 (0, 0)) → False) : RowsW w' X rs bs :=
 ⟨h.1, fun i r x hr hx => (h.2 i r x hr hx).keep g hX hne⟩
theorem BsW.ext {w w' : World} {X L : Nat} {v : Value} {bs : List Batch} (h : BsW w X L v bs) (e : Ext w w') : BsW w' X L v bs := by
 obtain ⟨rs, h1, h2⟩ := h
 exact ⟨rs, row_ext h1 e, h2.keep (gb_none e) (fun k h => by cases h) (fun k c h => by cases h)⟩
theorem BsW.nil (w : World) (X L : Nat) : BsW w X L (.slice none 0 0) [] := ⟨[], World.ownsRow_nil _ _ _ _, rfl, fun i r x h => by simp at h⟩
theorem BsW.len {w : World} {X L : Nat} {v : Value} {bs : List Batch} (h : BsW w X L v bs) : ∃ a cap, v = .slice a bs.length cap := by
 obtain ⟨rs, h1, h2⟩ := h
 rcases h1.2 with ⟨rfl, h0⟩ | ⟨g, cap, cur, rfl, _⟩
 ·exact ⟨none, 0, by rw [← h2.1, h0]⟩
 ·exact ⟨_, cap, by rw [← h2.1]⟩
theorem BsW.stored {w : World} {X L : Nat} {v : Value} {bs : List Batch} (h : BsW w X L v bs) {Y : Nat} {t : TypeId} {l : List Value} (hr : Rec w Y t l) (h1 : (t == 9) = false) (h2 : (t == 73) = false) (hY : L ≤ Y) (i : Nat) (u : Value) : BsW (w.setCell ⟨Y, i, none⟩ u) X L v bs := by
 obtain ⟨rs, k1, k2⟩ := h
 refine ⟨rs, World.ownsRow.kept k1 (gb_store w Y i u) (Or.inr (fun e => hr.not_row h2 k1 e.symm)), k2.keep (gb_store w Y i u) (fun k e => by cases e; exact hY) (fun k c e hk => ?_)⟩
 simp only [Option.some.injEq] at e
 subst e
 rw [show w.heap[Y]? = _ from hr] at hk
 simp only [Option.some.injEq, Obj.cells.injEq] at hk
 simp [hk.2.1] at h1
theorem BsW.at {w : World} {X L : Nat} {v : Value} {bs : List Batch} (h : BsW w X L v bs) (hn : bs.length ≤ 2199023255552) : ∃ a cap, v = .slice a bs.length cap ∧ BatchesAt w a bs := by
 obtain ⟨a, cap, rfl⟩ := h.len
 refine ⟨a, cap, rfl, hn, fun i hi => ?_⟩
 obtain ⟨rs, h1, h2⟩ := h
 have hir : i < rs.length := by rw [h2.1]; exact hi
 have hr := List.getElem?_eq_getElem hir
 have hx := List.getElem?_eq_getElem hi
 obtain ⟨k0, k1, k2⟩ := cellsOf_at rs i _ hr
 obtain ⟨e1, e2, ⟨a1, c1', f1, s1, _⟩, ⟨a2, c2', f2, s2, _⟩⟩ := h2.2 i _ _ hr hx
 obtain ⟨g, cap', ev, _, c0, _⟩ := own_cell h1 k0
 obtain ⟨g', cap'', ev', _, c1, _⟩ := own_cell h1 k1
 obtain ⟨g'', cap''', ev'', _, c2, _⟩ := own_cell h1 k2
 simp only [Value.slice.injEq] at ev ev' ev''
 obtain ⟨rfl, _⟩ := ev
 obtain ⟨e', _⟩ := ev'
 obtain ⟨e'', _⟩ := ev''
 simp only [Option.some.injEq, Addr.mk.injEq, and_true] at e' e''
 subst e'
 subst e''
 refine ⟨g, 0, rfl, ?_⟩
 rw [nthB_get hi]
 refine ⟨e2, a1, c1', a2, c2', ?_, ?_, ?_, s1, s2⟩
 ·rw [Nat.zero_add, c0, e1]
 ·rw [Nat.zero_add, c1, f1]
 ·rw [Nat.zero_add, c2, f2]
theorem wpList_rowW {ops : Array Oper} {rest : List Oper} {o : Oper} {a : Act} {w : World} {Q : Exit → Act → World → Prop} (hgd : o.guard = none) (s x : Operand)
  (ho : o.op = .call { callee := .builtin .append, args := #[s, x], argTypes := #[24, 24] })
  {X Lo : Nat} (hLo : Lo ≤ X) {v : Value} {L : List Batch} (hs : a.eval s = v) (hown : BsW w X Lo v L) {src : Option Addr} {c : Nat} {y : Batch} {r : Row} (hx : a.eval x = .slice src 1 c)
  (hrs : ∀ j u, (cellsOf [r])[j]? = some u → ∃ ad, src = some ad ∧ w.cell? (ad.add j) = some u) (hM : RowW w Lo r y)
  (hlen : L.length + 1 ≤ 2199023255552) (hbase : X ≤ w.heap.size)
  (h : ∀ v' w', BsW w' X Lo v' (L ++ [y]) → w.grownBy w' v.ownBlock → (v'.ownBlock = v.ownBlock ∨ v'.ownBlock = some w.heap.size) → wpList Qry.prog ops Q rest (a.put o.dst v') w') : wpList Qry.prog ops Q (o :: rest) a w := by
 refine wpList_plain hgd fun K hK => ?_
 obtain ⟨i0, hi, hz0, hz1, hz2⟩ := info_batch
 obtain ⟨rs0, h1, h2⟩ := hown
 have hl1 := h2.1
 obtain ⟨m1, m2, ⟨d1, g1, f1, s1, q1⟩, ⟨d2, g2, f2, s2, q2⟩⟩ := hM
 have hone : ∀ u ∈ cellsOf [r], u.oneCell' = true := by
  intro u hu
  simp only [cellsOf, List.flatMap_cons, List.flatMap_nil, List.append_nil, Row.cells, List.mem_cons, List.not_mem_nil, or_false] at hu
  rcases hu with rfl | rfl | rfl
  ·rfl
  ·rw [f1]; rfl
  ·rw [f2]; rfl
 refine wp_app w s x 24 ho X 73 i0 _ 3 64 (uQ Tryz.underlying24) hi hz0 hz1 hz2 rfl (by decide) v _ _ hs h1 src 1 c (cellsOf [r]) hx (by rw [cellsOf_length]; rfl) hrs hone (by unfold maxLen; omega) (by omega) hbase (fun v' w' g2 g3 g4 => hK _ _ (h v' w' ⟨rs0 ++ [r], ?_, ?_⟩ g3 g4))
 ·rw [cellsOf_append, List.length_append]; exact g2
 ·have hne := fun k c => row_ne h1 k c
  have hX : ∀ k, v.ownBlock = some k → Lo ≤ k := fun k e => Nat.le_trans hLo (h1.lt k e).1
  have k1 := h2.keep g3 hX hne
  have k2 : RowW w' Lo r y := RowW.keep ⟨m1, m2, ⟨d1, g1, f1, s1, q1⟩, ⟨d2, _, f2, s2, q2⟩⟩ g3 hX hne
  refine ⟨by rw [List.length_append, List.length_append, k1.1]; rfl, fun i r' y' hr hy => ?_⟩
  rcases Nat.lt_or_ge i rs0.length with hi | hi
  ·rw [List.getElem?_append_left hi] at hr
   rw [List.getElem?_append_left (by rw [← hl1]; exact hi)] at hy
   exact k1.2 i r' y' hr hy
  ·rw [List.getElem?_append_right hi] at hr
   rw [List.getElem?_append_right (by rw [← hl1]; exact hi), ← hl1] at hy
   cases hk : i - rs0.length with
   | zero => rw [hk] at hr hy; simp at hr hy; subst hr; subst hy; exact k2
   | succ m => rw [hk] at hr; simp at hr
end
section
open Go.RowKit
attribute [local go_sem] S_toList S_size S_get
theorem wHas_any (a : Option Addr) (cap : Nat) (ss : List Str) (x : Str) (w : World) (hs : StrsAt w a ss) :
  Calls Qry.prog 24 #[.slice a ss.length cap, .string (S x)] w fun e w' => e = .returned (.bool (hasB ss x)) ∧ w' = w := by
 have hn := hs.1
 go_enter Qry.func24, Tryz.ntmps24
 go_wp2
 go_loop [5] (fun i => ∃ k : Nat, k ≤ ss.length ∧ i = .int .i64 k ∧ ∀ j, j < k → (nth ss j == x) = false) (fun i => ss.length - (intOf i).toNat)
 case atStart => exact ⟨0, Nat.zero_le _, rfl, fun j hj => by omega⟩
 case round =>
  obtain ⟨k, hk, rfl, hx⟩ := hrel
  have HX : Hid (∀ j, j < k → (nth ss j == x) = false) := hx
  clear hx
  by_cases hlt : k < ss.length
  ·obtain ⟨_, b, o, rfl, hc⟩ := hs.2 k hlt
   cases hq : (nth ss k == x)
   ·go_wp2
    go_round
    case rel => exact ⟨k + 1, by omega, by go_num, fun j hj => by
     by_cases e : j = k
     ·rw [e]; exact hq
     ·exact HX.out j (by omega)⟩
    case measure => simp [intOf]; omega
   ·have HF : Hid (hasB ss x = true) := hasB_of hlt hq
    go_wp2
    go_ret
    exact ⟨ret_bool HF.out.symm, rfl⟩
  ·have HF : Hid (hasB ss x = false) := hasB_no (fun j hj => HX.out j (by omega))
   go_wp2
   go_ret
   exact ⟨ret_bool HF.out.symm, rfl⟩
theorem wHas_v (a : Option Addr) (cap : Nat) (ss : List Str) (x : Str) (v : Bool) (w : World) (hs : StrsAt w a ss) (hv : hasB ss x = v) :
  Calls Qry.prog 24 #[.slice a ss.length cap, .string (S x)] w fun e w' => e = .returned (.bool v) ∧ w' = w := by
 rw [← hv]; exact wHas_any a cap ss x w hs
end
end Go.Proofs.YtdafpnpfcmgfcaaGreatDoor
