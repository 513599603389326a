/- A batch's lists exchanged within a row of the call's own. -/
import Derived.Test.YtdafpnpfcmgfcaaGreatDoorS4
import Derived.Test.YtdafpnpfcmgfcaaGreatDoorD0
namespace Go.Proofs.YtdafpnpfcmgfcaaGreatDoor
open Go.RowKit
attribute [local go_sem] S_toList S_size S_get

theorem cellsOf_cons (r : Row) (rs : List Row) : cellsOf (r :: rs) = .string (S r.name) :: r.has :: r.needs :: cellsOf rs := rfl
theorem cellsOf_needs : ∀ (rs : List Row) (k : Nat) (r : Row) (u : Value), rs[k]? = some r → (cellsOf rs).set (k * 3 + 2) u = cellsOf (rs.set k ⟨r.name, r.has, u⟩)
  | [], k, r, u, h => by simp at h
  | x :: rs, 0, r, u, h => by
    simp at h; subst h
    rfl
  | x :: rs, k + 1, r, u, h => by
    have h' := cellsOf_needs rs k r u (by simpa using h)
    have e3 : (k + 1) * 3 + 2 = (k * 3 + 2) + 1 + 1 + 1 := by omega
    rw [cellsOf_cons, e3, List.set_cons_succ, List.set_cons_succ, List.set_cons_succ, h', List.set_cons_succ, cellsOf_cons]
theorem cellsOf_has : ∀ (rs : List Row) (k : Nat) (r : Row) (u : Value), rs[k]? = some r → (cellsOf rs).set (k * 3 + 1) u = cellsOf (rs.set k ⟨r.name, u, r.needs⟩)
  | [], k, r, u, h => by simp at h
  | x :: rs, 0, r, u, h => by
    simp at h; subst h
    rfl
  | x :: rs, k + 1, r, u, h => by
    have h' := cellsOf_has rs k r u (by simpa using h)
    have e3 : (k + 1) * 3 + 1 = (k * 3 + 1) + 1 + 1 + 1 := by omega
    rw [cellsOf_cons, e3, List.set_cons_succ, List.set_cons_succ, List.set_cons_succ, h', List.set_cons_succ, cellsOf_cons]

theorem RowsOwn.set {w : World} {base : Nat} {rs : List Row} {bs : List Batch} (h : RowsOwn w base rs bs) (k : Nat) {r : Row} {x : Batch} (hr : RowOwn w base r x) : RowsOwn w base (rs.set k r) (bs.set k x) :=
  ⟨by simp [h.1], fun i r' x' h1 h2 => by
    rw [List.getElem?_set] at h1 h2
    by_cases e : k = i
    · subst e
      simp only [if_true] at h1 h2
      split at h1
      · rw [if_pos (by rw [← h.1]; assumption)] at h2
        cases h1; cases h2; exact hr
      · cases h1
    · rw [if_neg e] at h1 h2
      exact h.2 i r' x' h1 h2⟩

theorem own_store_keep {w : World} {base base' g n c : Nat} {xs : List Value} (h : w.ownsRow base 73 3 (.slice (some ⟨g, 0, none⟩) n c) n xs) {v : Value} {L : List Str} (ho : OwnL w base' v L) (i : Nat) (u : Value) : OwnL (w.setCell ⟨g, i, none⟩ u) base' v L :=
  ho.keep (gb_store w g i u) (fun k cc e hk => row_ne h k cc (by simpa [Value.ownBlock] using e) hk)

theorem OwnBs.putNeeds {w : World} {base g n c k : Nat} {bs : List Batch} (h : OwnBs w base (.slice (some ⟨g, 0, none⟩) n c) bs) (hn : n = bs.length) (hk : k < bs.length) {u : Value} {L : List Str} (hL : OwnL w base u L) (hs : ShortS L) :
    OwnBs (w.setCell ⟨g, k * 3 + 2, none⟩ u) base (.slice (some ⟨g, 0, none⟩) n c) (bs.set k ⟨(nthB bs k).name, (nthB bs k).has, L⟩) := by
  obtain ⟨rs, h1, h2⟩ := h
  have hl := h2.1
  have hkr : k < rs.length := by omega
  have hr := List.getElem?_eq_getElem hkr
  obtain ⟨e1, e2, e3, e4, e5, e6⟩ := h2.2 k _ _ hr (List.getElem?_eq_getElem hk)
  have hn' : n = rs.length := by omega
  subst hn'
  have h3 := World.ownsRow.stored h1 (k * 3 + 2) u
  refine ⟨rs.set k ⟨rs[k].name, rs[k].has, u⟩, ?_, ?_⟩
  · rw [← cellsOf_needs rs k _ u hr, List.length_set]; exact h3.1
  · have hne := fun k' cc => row_ne h1 k' cc
    refine RowsOwn.set (h2.keep h3.2 (fun k' cc e hk' => hne k' cc (by simpa [Value.ownBlock] using e) hk')) k ⟨?_, ?_, ?_, ?_, own_store_keep h1 hL _ _, hs⟩
    · rw [nthB_get hk]; exact e1
    · rw [nthB_get hk]; exact e2
    · rw [nthB_get hk]; exact own_store_keep h1 e3 _ _
    · rw [nthB_get hk]; exact e4
theorem OwnBs.putHas {w : World} {base g n c k : Nat} {bs : List Batch} (h : OwnBs w base (.slice (some ⟨g, 0, none⟩) n c) bs) (hn : n = bs.length) (hk : k < bs.length) {u : Value} {L : List Str} (hL : OwnL w base u L) (hs : ShortS L) :
    OwnBs (w.setCell ⟨g, k * 3 + 1, none⟩ u) base (.slice (some ⟨g, 0, none⟩) n c) (bs.set k ⟨(nthB bs k).name, L, (nthB bs k).needs⟩) := by
  obtain ⟨rs, h1, h2⟩ := h
  have hl := h2.1
  have hkr : k < rs.length := by omega
  have hr := List.getElem?_eq_getElem hkr
  obtain ⟨e1, e2, e3, e4, e5, e6⟩ := h2.2 k _ _ hr (List.getElem?_eq_getElem hk)
  have hn' : n = rs.length := by omega
  subst hn'
  have h3 := World.ownsRow.stored h1 (k * 3 + 1) u
  refine ⟨rs.set k ⟨rs[k].name, u, rs[k].needs⟩, ?_, ?_⟩
  · rw [← cellsOf_has rs k _ u hr, List.length_set]; exact h3.1
  · have hne := fun k' cc => row_ne h1 k' cc
    refine RowsOwn.set (h2.keep h3.2 (fun k' cc e hk' => hne k' cc (by simpa [Value.ownBlock] using e) hk')) k ⟨?_, ?_, own_store_keep h1 hL _ _, hs, ?_, ?_⟩
    · rw [nthB_get hk]; exact e1
    · rw [nthB_get hk]; exact e2
    · rw [nthB_get hk]; exact own_store_keep h1 e5 _ _
    · rw [nthB_get hk]; exact e6
theorem OwnBs.cells {w : World} {base g n c k : Nat} {bs : List Batch} (h : OwnBs w base (.slice (some ⟨g, 0, none⟩) n c) bs) (hk : k < bs.length) : (∃ u, w.cell? ⟨g, k * 3 + 1, none⟩ = some u ∧ OwnL w base u (nthB bs k).has) ∧ (∃ u, w.cell? ⟨g, k * 3 + 2, none⟩ = some u ∧ OwnL w base u (nthB bs k).needs) ∧ w.frozen? ⟨g, k * 3 + 1, none⟩ = false ∧ w.frozen? ⟨g, k * 3 + 2, none⟩ = false := by
  obtain ⟨rs, h1, h2⟩ := h
  have hl := h2.1
  have hkr : k < rs.length := by omega
  have hr := List.getElem?_eq_getElem hkr
  obtain ⟨_, k1, k2⟩ := cellsOf_at rs k _ hr
  obtain ⟨e1, e2, e3, e4, e5, e6⟩ := h2.2 k _ _ hr (List.getElem?_eq_getElem hk)
  obtain ⟨g1, c1, ev1, _, q1, f1⟩ := own_cell h1 k1
  obtain ⟨g2, c2, ev2, _, q2, f2⟩ := own_cell h1 k2
  simp only [Value.slice.injEq, Option.some.injEq, Addr.mk.injEq, and_true] at ev1 ev2
  obtain ⟨rfl, _⟩ := ev1
  obtain ⟨rfl, _⟩ := ev2
  rw [nthB_get hk]
  exact ⟨⟨_, q1, e3⟩, ⟨_, q2, e5⟩, f1, f2⟩

/-- The result's box and the copy's, whatever the copy holds by now. -/
structure XS (w wc : World) (b : Book) (x1 x2 : Option Addr) (y1 y2 X : Nat) : Prop where
  ext : Ext w wc
  rr : Rec wc (w.heap.size + 1) 26 [.slice none 0 0, .slice none 0 0]
  rx : Rec wc X 26 [.slice x1 b.things.length y1, .slice x2 b.batches.length y2]
  o1 : OwnL wc w.heap.size (.slice x1 b.things.length y1) b.things
  o2 : OwnBs wc w.heap.size (.slice x2 b.batches.length y2) b.batches
  hx : w.heap.size + 2 ≤ X
theorem EnS.xs {w wc : World} {b : Book} {a1 a2 : Option Addr} {c1 c2 : Nat} {x1 x2 : Option Addr} {y1 y2 X : Nat} (h : EnS w wc b a1 a2 c1 c2 x1 x2 y1 y2 X) : XS w wc b x1 x2 y1 y2 X := ⟨h.ext, h.rr, h.rx, h.o1, h.o2, h.hx⟩
theorem XS.next {w wc wd : World} {b : Book} {x1 x2 : Option Addr} {y1 y2 X : Nat} (h : XS w wc b x1 x2 y1 y2 X) (e : Ext wc wd) : XS w wd b x1 x2 y1 y2 X :=
  ⟨Ext.tr h.ext e, h.rr.ext e, h.rx.ext e, h.o1.ext e, h.o2.ext e, h.hx⟩
theorem XS.store {w wc : World} {b b' : Book} {x1 : Option Addr} {g y1 y2 X i : Nat} {u : Value} (h : XS w wc b x1 (some ⟨g, 0, none⟩) y1 y2 X) (ht : b'.things = b.things) (hn : b'.batches.length = b.batches.length) (h2 : OwnBs (wc.setCell ⟨g, i, none⟩ u) w.heap.size (.slice (some ⟨g, 0, none⟩) b.batches.length y2) b'.batches) :
    XS w (wc.setCell ⟨g, i, none⟩ u) b' x1 (some ⟨g, 0, none⟩) y1 y2 X := by
  obtain ⟨rs, k1, k2⟩ := h.o2
  rw [← k2.1] at k1
  have hg : w.heap.size ≤ g := by
    rcases h.o2.shape with ⟨e, _⟩ | ⟨g', e, _, _, hb⟩
    · cases e
    · cases e; exact hb
  have hxg : ∀ {Y : Nat} {l : List Value}, Rec wc Y 26 l → some Y ≠ some g := fun {Y l} hr e => hr.not_row rfl k1 (by rw [e]; rfl)
  refine ⟨h.ext.setCell hg _, h.rr.kept (gb_store _ _ _ _) (hxg h.rr), ?_, ?_, ?_, h.hx⟩
  · rw [ht, hn]; exact h.rx.kept (gb_store _ _ _ _) (hxg h.rx)
  · rw [ht]; exact own_store_keep k1 h.o1 _ _
  · rw [hn]; exact h2
theorem XS.keepL {w wc : World} {b : Book} {x1 : Option Addr} {g y1 y2 X i base : Nat} {u v : Value} {L : List Str} (h : XS w wc b x1 (some ⟨g, 0, none⟩) y1 y2 X) (ho : OwnL wc base v L) : OwnL (wc.setCell ⟨g, i, none⟩ u) base v L := by
  obtain ⟨rs, k1, k2⟩ := h.o2
  rw [← k2.1] at k1
  exact own_store_keep k1 ho _ _
theorem XS.at {w wc : World} {b : Book} {x1 x2 : Option Addr} {y1 y2 X : Nat} (h : XS w wc b x1 x2 y1 y2 X) (hs : ShortS b.things) (hn : b.batches.length ≤ 2199023255552) : BookAt wc x1 x2 b := own_book_at h.o1 hs h.o2 hn
end Go.Proofs.YtdafpnpfcmgfcaaGreatDoor
