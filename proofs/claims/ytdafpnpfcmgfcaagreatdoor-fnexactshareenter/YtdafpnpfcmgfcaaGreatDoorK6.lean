/- Marks of a book that the program has made: no two of its lists in one row. -/
import Derived.Test.YtdafpnpfcmgfcaaGreatDoorKA
import Derived.Test.YtdafpnpfcmgfcaaGreatDoorN1
import Derived.Test.YtdafpnpfcmgfcaaGreatDoorS7
namespace Go.Proofs.YtdafpnpfcmgfcaaGreatDoor
open Go.RowKit
attribute [local go_sem] S_toList S_size S_get

/-- A book of the call's own, no two of its lists in one row. -/
structure OB (w : World) (base : Nat) (v1 v2 : Value) (rs : List Row) (b : Book) : Prop where
  ot : OwnL w base v1 b.things
  st : ShortS b.things
  ob : w.ownsRow base 73 3 v2 rs.length (cellsOf rs)
  ow : RowsOwn w base rs b.batches
  di : Dis v1 rs
theorem OB.ext {w w' : World} {base : Nat} {v1 v2 : Value} {rs : List Row} {b : Book} (h : OB w base v1 v2 rs b) (e : Ext w w') : OB w' base v1 v2 rs b :=
  ⟨h.ot.ext e, h.st, row_ext h.ob e, h.ow.ext e, h.di⟩
theorem own_mid {w w' : World} {lo hi base : Nat} {t : TypeId} {z : Nat} {v : Value} {n : Nat} {xs : List Value} (h : w.ownsRow base t z v n xs) (m : Mid lo hi w w') (hb : hi ≤ base) : w'.ownsRow base t z v n xs := by
  refine ⟨h.1, ?_⟩
  rcases h.2 with h2 | ⟨g, cap, cur, hv, hg, hc, r⟩
  · exact Or.inl h2
  · exact Or.inr ⟨g, cap, cur, hv, hg, (m.block g (Array.getElem?_eq_some_iff.1 hc).1 (Or.inr (by omega))).trans hc, r⟩
theorem OB.mid {w w' : World} {lo hi base : Nat} {v1 v2 : Value} {rs : List Row} {b : Book} (h : OB w base v1 v2 rs b) (m : Mid lo hi w w') (hb : hi ≤ base) : OB w' base v1 v2 rs b :=
  ⟨own_mid h.ot m hb, h.st, own_mid h.ob m hb, ⟨h.ow.1, fun i r x hr hx => by
    obtain ⟨e1, e2, e3, e4, e5, e6⟩ := h.ow.2 i r x hr hx
    exact ⟨e1, e2, own_mid e3 m hb, e4, own_mid e5 m hb, e6⟩⟩, h.di⟩
theorem OB.low {w : World} {base base' : Nat} {v1 v2 : Value} {rs : List Row} {b : Book} (h : OB w base v1 v2 rs b) (hb : base' ≤ base) : OB w base' v1 v2 rs b := by
  refine ⟨h.ot.low hb, h.st, ⟨h.ob.1, ?_⟩, h.ow.low hb, h.di⟩
  rcases h.ob.2 with k3 | ⟨g, cap, cur, hv, hg, r⟩
  · exact Or.inl k3
  · exact Or.inr ⟨g, cap, cur, hv, Nat.le_trans hb hg, r⟩
theorem OB.bs {w : World} {base : Nat} {v1 v2 : Value} {rs : List Row} {b : Book} (h : OB w base v1 v2 rs b) : OwnBs w base v2 b.batches := ⟨rs, h.ob, h.ow⟩
theorem OB.at {w : World} {base : Nat} {v1 v2 : Value} {rs : List Row} {b : Book} (h : OB w base v1 v2 rs b) (hn : b.batches.length ≤ 2199023255552) : ∃ a1 c1 a2 c2, v1 = .slice a1 b.things.length c1 ∧ v2 = .slice a2 b.batches.length c2 ∧ BookAt w a1 a2 b := by
  obtain ⟨a1, c1, rfl⟩ := own_sl h.ot
  obtain ⟨a2, c2, rfl⟩ := h.bs.len
  exact ⟨a1, c1, a2, c2, rfl, rfl, own_book_at h.ot h.st h.bs hn⟩

theorem marksOf_short (k n : Nat) (h : k + n ≤ 1000000000) : ShortS (marksOf k n) := by
  refine ⟨by rw [marksOf_length]; omega, fun i hi => ?_⟩
  rw [marksOf_length] at hi
  rw [nth_marksOf hi]
  have := markT_length (k + i)
  omega

/-- A batch marked, from a number on. -/
def markB (x : Batch) (k : Nat) : Batch := ⟨markT k, marksOf (k + 1) x.has.length, marksOf (k + 1 + x.has.length) x.needs.length⟩
/-- The first m batches marked. -/
def markTo (bs : List Batch) (k m : Nat) : List Batch := (List.range bs.length).map fun i => if i < m then markB (nthB bs i) (k + i + cntTo bs i) else nthB bs i
theorem markTo_length (bs : List Batch) (k m : Nat) : (markTo bs k m).length = bs.length := by simp [markTo]
theorem markTo_get {bs : List Batch} {k m i : Nat} (h : i < bs.length) : (markTo bs k m)[i]? = some (if i < m then markB (nthB bs i) (k + i + cntTo bs i) else nthB bs i) := by
  simp [markTo, h]
theorem nthB_markTo {bs : List Batch} {k m i : Nat} (h : i < bs.length) : nthB (markTo bs k m) i = if i < m then markB (nthB bs i) (k + i + cntTo bs i) else nthB bs i := by
  have e := markTo_get (k := k) (m := m) h
  rw [List.getElem?_eq_getElem (by rw [markTo_length]; exact h)] at e
  rw [nthB_get (by rw [markTo_length]; exact h)]
  exact Option.some.inj e
theorem markTo_zero (bs : List Batch) (k : Nat) : markTo bs k 0 = bs := by
  apply List.ext_getElem?
  intro i
  rcases Nat.lt_or_ge i bs.length with h | h
  · rw [markTo_get h]
    simp only [Nat.not_lt_zero, if_false]
    rw [nthB_get h, List.getElem?_eq_getElem h]
  · rw [List.getElem?_eq_none (by rw [markTo_length]; exact h), List.getElem?_eq_none h]
theorem markTo_succ {bs : List Batch} {k m : Nat} (hm : m < bs.length) : markTo bs k (m + 1) = (markTo bs k m).set m (markB (nthB bs m) (k + m + cntTo bs m)) := by
  apply List.ext_getElem?
  intro i
  rcases Nat.lt_or_ge i bs.length with h | h
  · rw [markTo_get h, List.getElem?_set]
    by_cases e : m = i
    · subst e
      simp [markTo_length, hm]
    · rw [if_neg e, markTo_get h]
      have e2 : (i < m + 1) = (i < m) := by simp; omega
      simp only [e2]
  · rw [List.getElem?_eq_none (by rw [markTo_length]; exact h), List.getElem?_eq_none (by rw [List.length_set, markTo_length]; exact h)]
def markBook (b : Book) (k : Nat) : Book := ⟨marksOf k b.things.length, markTo b.batches (k + b.things.length) b.batches.length⟩

theorem cellsOf_name : ∀ (rs : List Row) (k : Nat) (r : Row) (s : Str), rs[k]? = some r → (cellsOf rs).set (k * 3) (.string (S s)) = cellsOf (rs.set k ⟨s, r.has, r.needs⟩)
  | [], k, r, u, h => by simp at h
  | x :: rs, 0, r, u, h => by
    simp at h; subst h
    rfl
  | x :: rs, k + 1, r, u, h => by
    have h' := cellsOf_name rs k r u (by simpa using h)
    have e3 : (k + 1) * 3 = (k * 3) + 1 + 1 + 1 := by omega
    rw [cellsOf_cons, e3, List.set_cons_succ, List.set_cons_succ, List.set_cons_succ, h', List.set_cons_succ, cellsOf_cons]
theorem allV_set : ∀ (rs : List Row) (k : Nat) (r : Row) (s : Str), rs[k]? = some r → allV (rs.set k ⟨s, r.has, r.needs⟩) = allV rs
  | [], k, r, u, h => by simp at h
  | x :: rs, 0, r, u, h => by
    simp at h; subst h
    rfl
  | x :: rs, k + 1, r, u, h => by
    have h' := allV_set rs k r u (by simpa using h)
    rw [List.set_cons_succ]
    simp only [allV, List.flatMap_cons] at *
    rw [h']
theorem Dis.same {v1 : Value} {rs rs' : List Row} (h : Dis v1 rs) (e : allV rs' = allV rs) : Dis v1 rs' := by
  unfold Dis; rw [e]; exact h
/-- In a list of values of which no two share a row: two that stand apart. -/
theorem NE.of_pair {l : List Value} (h : l.Pairwise NE) {i j : Nat} {u v : Value} (hi : l[i]? = some u) (hj : l[j]? = some v) (hne : i ≠ j) : NE u v := by
  rw [List.pairwise_iff_getElem] at h
  obtain ⟨li, ei⟩ := List.getElem?_eq_some_iff.1 hi
  obtain ⟨lj, ej⟩ := List.getElem?_eq_some_iff.1 hj
  rcases Nat.lt_or_gt_of_ne hne with hlt | hlt
  · have := h i j li lj hlt
    rw [ei, ej] at this; exact this
  · have := h j i lj li hlt
    rw [ei, ej] at this; exact this.symm
theorem allV_at : ∀ (rs : List Row) (i : Nat) (r : Row), rs[i]? = some r → (allV rs)[i * 2]? = some r.has ∧ (allV rs)[i * 2 + 1]? = some r.needs
  | [], i, r, h => by simp at h
  | x :: rs, 0, r, h => by
    simp at h; subst h
    exact ⟨rfl, rfl⟩
  | x :: rs, i + 1, r, h => by
    have h' := allV_at rs i r (by simpa using h)
    have e : allV (x :: rs) = x.has :: x.needs :: allV rs := rfl
    rw [e]
    have e3 : (i + 1) * 2 = i * 2 + 1 + 1 := by omega
    rw [e3]
    exact h'

/-- One list of a batch takes another content; all other lists keep theirs. -/
theorem RowsOwn.hasTo {w w' : World} {base : Nat} {v1 : Value} {rs : List Row} {bs : List Batch} {k : Nat} {r : Row} {x : Batch} {L : List Str} (h : RowsOwn w base rs bs) (hd : Dis v1 rs) (hr : rs[k]? = some r) (hx : bs[k]? = some x)
    (g : w.grownBy w' r.has.ownBlock) (ho : OwnL w' base r.has L) (hs : ShortS L) : RowsOwn w' base rs (bs.set k ⟨x.name, L, x.needs⟩) := by
  refine ⟨by rw [List.length_set]; exact h.1, fun i r' x' h1 h2 => ?_⟩
  obtain ⟨a1, a2⟩ := allV_at rs k r hr
  obtain ⟨a3, a4⟩ := allV_at rs i r' h1
  rw [List.getElem?_set] at h2
  by_cases e : k = i
  · subst e
    rw [hr] at h1; cases h1
    have hk : k < bs.length := (List.getElem?_eq_some_iff.1 hx).1
    simp only [if_true, hk] at h2
    cases h2
    obtain ⟨e1, e2, e3, e4, e5, e6⟩ := h.2 k r x hr hx
    exact ⟨e1, e2, ho, hs, own_ne e5 g (NE.of_pair hd.1 a1 a2 (by omega)), e6⟩
  · rw [if_neg e] at h2
    obtain ⟨e1, e2, e3, e4, e5, e6⟩ := h.2 i r' x' h1 h2
    exact ⟨e1, e2, own_ne e3 g (NE.of_pair hd.1 a1 a3 (by omega)), e4, own_ne e5 g (NE.of_pair hd.1 a1 a4 (by omega)), e6⟩
theorem RowsOwn.needsTo {w w' : World} {base : Nat} {v1 : Value} {rs : List Row} {bs : List Batch} {k : Nat} {r : Row} {x : Batch} {L : List Str} (h : RowsOwn w base rs bs) (hd : Dis v1 rs) (hr : rs[k]? = some r) (hx : bs[k]? = some x)
    (g : w.grownBy w' r.needs.ownBlock) (ho : OwnL w' base r.needs L) (hs : ShortS L) : RowsOwn w' base rs (bs.set k ⟨x.name, x.has, L⟩) := by
  refine ⟨by rw [List.length_set]; exact h.1, fun i r' x' h1 h2 => ?_⟩
  obtain ⟨a1, a2⟩ := allV_at rs k r hr
  obtain ⟨a3, a4⟩ := allV_at rs i r' h1
  rw [List.getElem?_set] at h2
  by_cases e : k = i
  · subst e
    rw [hr] at h1; cases h1
    have hk : k < bs.length := (List.getElem?_eq_some_iff.1 hx).1
    simp only [if_true, hk] at h2
    cases h2
    obtain ⟨e1, e2, e3, e4, e5, e6⟩ := h.2 k r x hr hx
    exact ⟨e1, e2, own_ne e3 g (NE.of_pair hd.1 a2 a1 (by omega)), e4, ho, hs⟩
  · rw [if_neg e] at h2
    obtain ⟨e1, e2, e3, e4, e5, e6⟩ := h.2 i r' x' h1 h2
    exact ⟨e1, e2, own_ne e3 g (NE.of_pair hd.1 a2 a3 (by omega)), e4, own_ne e5 g (NE.of_pair hd.1 a2 a4 (by omega)), e6⟩
/-- A row of names that takes another content is no row of batches. -/
theorem row_not_list {w w' : World} {base base' : Nat} {v u : Value} {n : Nat} {xs : List Value} {L : List Str} (h : w.ownsRow base 73 3 v n xs) (ho : OwnL w base' u L) (g : w.grownBy w' u.ownBlock) : w'.ownsRow base 73 3 v n xs := by
  refine own_ne h g (fun k e1 e2 => ?_)
  rcases ho.2 with ⟨rfl, _⟩ | ⟨b, cap, cur, rfl, _, hg, _⟩
  · simp [Value.ownBlock] at e1
  · have e' : b = k := by simpa [Value.ownBlock] using e1
    subst e'
    exact row_ne h b cur e2 hg
theorem below_own {w w' : World} {base base' : Nat} {u : Value} {L : List Str} (g : w.grownBy w' u.ownBlock) (ho : OwnL w base' u L) (hb : base ≤ base') (hz : base ≤ w.heap.size) : Below base w w' :=
  ⟨g.os, g.tape, g.output, g.size, fun k hk => g.block k (by omega) (fun e => by have := (ho.lt k e.symm).1; omega)⟩
end Go.Proofs.YtdafpnpfcmgfcaaGreatDoor
