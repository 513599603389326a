/- A batch's lists exchanged within a row of the call's own. Marks of a book that the program has made: no two of its lists in one row. The program's copy of a book: no two of its lists in one row. slices.Grow at nil and slices.Concat of two lists. Rows of batches: cut, moved, cleared; slices.Delete of one. Marks of a book that the program has made: the walks. -/
import Derived.Test.YtdafpnpfcmgfcaaGreatDoorKb27
import Derived.Test.YtdafpnpfcmgfcaaGreatDoorKb26
import Derived.Test.YtdafpnpfcmgfcaaGreatDoorKb25
import Derived.Lib.AppendZerosOnto
import Derived.Laws.CopyRow
namespace Go.Proofs.YtdafpnpfcmgfcaaGreatDoor
section
open Go.RowKit
attribute [local go_sem] S_toList S_size S_get
theorem cellsOf_cons (r : Row) (rs : List Row) : cellsOf (r :: rs) = .string (S r.name) :: r.has :: r.needs :: cellsOf rs := rfl
theorem cellsOf_needs : ∀ (rs : List Row) (k : Nat) (r : Row) (u : Value), rs[k]? = some r → (cellsOf rs).set (k * 3 + 2) u = cellsOf (rs.set k ⟨r.name, r.has, u⟩)
 | [], k, r, u, h => by simp at h
 | x :: rs, 0, r, u, h => by
  simp at h; subst h
  rfl
 | x :: rs, k + 1, r, u, h => by
  have h' := cellsOf_needs rs k r u (by simpa using h)
  have e3 : (k + 1) * 3 + 2 = (k * 3 + 2) + 1 + 1 + 1 := by omega
  rw [cellsOf_cons, e3, List.set_cons_succ, List.set_cons_succ, List.set_cons_succ, h', List.set_cons_succ, cellsOf_cons]
theorem cellsOf_has : ∀ (rs : List Row) (k : Nat) (r : Row) (u : Value), rs[k]? = some r → (cellsOf rs).set (k * 3 + 1) u = cellsOf (rs.set k ⟨r.name, u, r.needs⟩)
 | [], k, r, u, h => by simp at h
 | x :: rs, 0, r, u, h => by
  simp at h; subst h
  rfl
 | x :: rs, k + 1, r, u, h => by
  have h' := cellsOf_has rs k r u (by simpa using h)
  have e3 : (k + 1) * 3 + 1 = (k * 3 + 1) + 1 + 1 + 1 := by omega
  rw [cellsOf_cons, e3, List.set_cons_succ, List.set_cons_succ, List.set_cons_succ, h', List.set_cons_succ, cellsOf_cons]
theorem RowsOwn.set {w : World} {base : Nat} {rs : List Row} {bs : List Batch} (h : RowsOwn w base rs bs) (k : Nat) {r : Row} {x : Batch} (hr : RowOwn w base r x) : RowsOwn w base (rs.set k r) (bs.set k x) :=
 ⟨by simp [h.1], fun i r' x' h1 h2 => by
  rw [List.getElem?_set] at h1 h2
  by_cases e : k = i
  ·subst e
   simp only [if_true] at h1 h2
   split at h1
   ·rw [if_pos (by rw [← h.1]; assumption)] at h2
    cases h1; cases h2; exact hr
   ·cases h1
  ·rw [if_neg e] at h1 h2
   exact h.2 i r' x' h1 h2⟩
theorem own_store_keep {w : World} {base base' g n c : Nat} {xs : List Value} (h : w.ownsRow base 73 3 (.slice (some ⟨g, 0, none⟩) n c) n xs) {v : Value} {L : List Str} (ho : OwnL w base' v L) (i : Nat) (u : Value) : OwnL (w.setCell ⟨g, i, none⟩ u) base' v L :=
 ho.keep (gb_store w g i u) (fun k cc e hk => row_ne h k cc (by simpa [Value.ownBlock] using e) hk)
theorem OwnBs.putNeeds {w : World} {base g n c k : Nat} {bs : List Batch} (h : OwnBs w base (.slice (some ⟨g, 0, none⟩) n c) bs) (hn : n = bs.length) (hk : k < bs.length) {u : Value} {L : List Str} (hL : OwnL w base u L) (hs : ShortS L) :
  OwnBs (w.setCell ⟨g, k * 3 + 2, none⟩ u) base (.slice (some ⟨g, 0, none⟩) n c) (bs.set k ⟨(nthB bs k).name, (nthB bs k).has, L⟩) := by
 obtain ⟨rs, h1, h2⟩ := h
 have hl := h2.1
 have hkr : k < rs.length := by omega
 have hr := List.getElem?_eq_getElem hkr
 obtain ⟨e1, e2, e3, e4, e5, e6⟩ := h2.2 k _ _ hr (List.getElem?_eq_getElem hk)
 have hn' : n = rs.length := by omega
 subst hn'
 have h3 := World.ownsRow.stored h1 (k * 3 + 2) u
 refine ⟨rs.set k ⟨rs[k].name, rs[k].has, u⟩, ?_, ?_⟩
 ·rw [← cellsOf_needs rs k _ u hr, List.length_set]; exact h3.1
 ·have hne := fun k' cc => row_ne h1 k' cc
  refine RowsOwn.set (h2.keep h3.2 (fun k' cc e hk' => hne k' cc (by simpa [Value.ownBlock] using e) hk')) k ⟨?_, ?_, ?_, ?_, own_store_keep h1 hL _ _, hs⟩
  ·rw [nthB_get hk]; exact e1
  ·rw [nthB_get hk]; exact e2
  ·rw [nthB_get hk]; exact own_store_keep h1 e3 _ _
  ·rw [nthB_get hk]; exact e4
theorem OwnBs.putHas {w : World} {base g n c k : Nat} {bs : List Batch} (h : OwnBs w base (.slice (some ⟨g, 0, none⟩) n c) bs) (hn : n = bs.length) (hk : k < bs.length) {u : Value} {L : List Str} (hL : OwnL w base u L) (hs : ShortS L) :
  OwnBs (w.setCell ⟨g, k * 3 + 1, none⟩ u) base (.slice (some ⟨g, 0, none⟩) n c) (bs.set k ⟨(nthB bs k).name, L, (nthB bs k).needs⟩) := by
 obtain ⟨rs, h1, h2⟩ := h
 have hl := h2.1
 have hkr : k < rs.length := by omega
 have hr := List.getElem?_eq_getElem hkr
 obtain ⟨e1, e2, e3, e4, e5, e6⟩ := h2.2 k _ _ hr (List.getElem?_eq_getElem hk)
 have hn' : n = rs.length := by omega
 subst hn'
 have h3 := World.ownsRow.stored h1 (k * 3 + 1) u
 refine ⟨rs.set k ⟨rs[k].name, u, rs[k].needs⟩, ?_, ?_⟩
 ·rw [← cellsOf_has rs k _ u hr, List.length_set]; exact h3.1
 ·have hne := fun k' cc => row_ne h1 k' cc
  refine RowsOwn.set (h2.keep h3.2 (fun k' cc e hk' => hne k' cc (by simpa [Value.ownBlock] using e) hk')) k ⟨?_, ?_, own_store_keep h1 hL _ _, hs, ?_, ?_⟩
  ·rw [nthB_get hk]; exact e1
  ·rw [nthB_get hk]; exact e2
  ·rw [nthB_get hk]; exact own_store_keep h1 e5 _ _
  ·rw [nthB_get hk]; exact e6
theorem OwnBs.cells {w : World} {base g n c k : Nat} {bs : List Batch} (h : OwnBs w base (.slice (some ⟨g, 0, none⟩) n c) bs) (hk : k < bs.length) : (∃ u, w.cell? ⟨g, k * 3 + 1, none⟩ = some u ∧ OwnL w base u (nthB bs k).has) ∧ (∃ u, w.cell? ⟨g, k * 3 + 2, none⟩ = some u ∧ OwnL w base u (nthB bs k).needs) ∧ w.frozen? ⟨g, k * 3 + 1, none⟩ = false ∧ w.frozen? ⟨g, k * 3 + 2, none⟩ = false := by
 obtain ⟨rs, h1, h2⟩ := h
 have hl := h2.1
 have hkr : k < rs.length := by omega
 have hr := List.getElem?_eq_getElem hkr
 obtain ⟨_, k1, k2⟩ := cellsOf_at rs k _ hr
 obtain ⟨e1, e2, e3, e4, e5, e6⟩ := h2.2 k _ _ hr (List.getElem?_eq_getElem hk)
 obtain ⟨g1, c1, ev1, _, q1, f1⟩ := own_cell h1 k1
 obtain ⟨g2, c2, ev2, _, q2, f2⟩ := own_cell h1 k2
 simp only [Value.slice.injEq, Option.some.injEq, Addr.mk.injEq, and_true] at ev1 ev2
 obtain ⟨rfl, _⟩ := ev1
 obtain ⟨rfl, _⟩ := ev2
 rw [nthB_get hk]
 exact ⟨⟨_, q1, e3⟩, ⟨_, q2, e5⟩, f1, f2⟩
structure XS (w wc : World) (b : Book) (x1 x2 : Option Addr) (y1 y2 X : Nat) : Prop where
 ext : Ext w wc
 rr : Rec wc (w.heap.size + 1) 26 [.slice none 0 0, .slice none 0 0]
 rx : Rec wc X 26 [.slice x1 b.things.length y1, .slice x2 b.batches.length y2]
 o1 : OwnL wc w.heap.size (.slice x1 b.things.length y1) b.things
 o2 : OwnBs wc w.heap.size (.slice x2 b.batches.length y2) b.batches
 hx : w.heap.size + 2 ≤ X
theorem EnS.xs {w wc : World} {b : Book} {a1 a2 : Option Addr} {c1 c2 : Nat} {x1 x2 : Option Addr} {y1 y2 X : Nat} (h : EnS w wc b a1 a2 c1 c2 x1 x2 y1 y2 X) : XS w wc b x1 x2 y1 y2 X := ⟨h.ext, h.rr, h.rx, h.o1, h.o2, h.hx⟩
theorem XS.next {w wc wd : World} {b : Book} {x1 x2 : Option Addr} {y1 y2 X : Nat} (h : XS w wc b x1 x2 y1 y2 X) (e : Ext wc wd) : XS w wd b x1 x2 y1 y2 X :=
 ⟨Ext.tr h.ext e, h.rr.ext e, h.rx.ext e, h.o1.ext e, h.o2.ext e, h.hx⟩
theorem XS.store {w wc : World} {b b' : Book} {x1 : Option Addr} {g y1 y2 X i : Nat} {u : Value} (h : XS w wc b x1 (some ⟨g, 0, none⟩) y1 y2 X) (ht : b'.things = b.things) (hn : b'.batches.length = b.batches.length) (h2 : OwnBs (wc.setCell ⟨g, i, none⟩ u) w.heap.size (.slice (some ⟨g, 0, none⟩) b.batches.length y2) b'.batches) :
  XS w (wc.setCell ⟨g, i, none⟩ u) b' x1 (some ⟨g, 0, none⟩) y1 y2 X := by
 obtain ⟨rs, k1, k2⟩ := h.o2
 rw [← k2.1] at k1
 have hg : w.heap.size ≤ g := by
  rcases h.o2.shape with ⟨e, _⟩ | ⟨g', e, _, _, hb⟩
  ·cases e
  ·cases e; exact hb
 have hxg : ∀ {Y : Nat} {l : List Value}, Rec wc Y 26 l → some Y ≠ some g := fun {Y l} hr e => hr.not_row rfl k1 (by rw [e]; rfl)
 refine ⟨h.ext.setCell hg _, h.rr.kept (gb_store _ _ _ _) (hxg h.rr), ?_, ?_, ?_, h.hx⟩
 ·rw [ht, hn]; exact h.rx.kept (gb_store _ _ _ _) (hxg h.rx)
 ·rw [ht]; exact own_store_keep k1 h.o1 _ _
 ·rw [hn]; exact h2
theorem XS.keepL {w wc : World} {b : Book} {x1 : Option Addr} {g y1 y2 X i base : Nat} {u v : Value} {L : List Str} (h : XS w wc b x1 (some ⟨g, 0, none⟩) y1 y2 X) (ho : OwnL wc base v L) : OwnL (wc.setCell ⟨g, i, none⟩ u) base v L := by
 obtain ⟨rs, k1, k2⟩ := h.o2
 rw [← k2.1] at k1
 exact own_store_keep k1 ho _ _
theorem XS.at {w wc : World} {b : Book} {x1 x2 : Option Addr} {y1 y2 X : Nat} (h : XS w wc b x1 x2 y1 y2 X) (hs : ShortS b.things) (hn : b.batches.length ≤ 2199023255552) : BookAt wc x1 x2 b := own_book_at h.o1 hs h.o2 hn
end
section
open Go.RowKit
attribute [local go_sem] S_toList S_size S_get
structure OB (w : World) (base : Nat) (v1 v2 : Value) (rs : List Row) (b : Book) : Prop where
 ot : OwnL w base v1 b.things
 st : ShortS b.things
 ob : w.ownsRow base 73 3 v2 rs.length (cellsOf rs)
 ow : RowsOwn w base rs b.batches
 di : Dis v1 rs
theorem OB.ext {w w' : World} {base : Nat} {v1 v2 : Value} {rs : List Row} {b : Book} (h : OB w base v1 v2 rs b) (e : Ext w w') : OB w' base v1 v2 rs b :=
 ⟨h.ot.ext e, h.st, row_ext h.ob e, h.ow.ext e, h.di⟩
theorem OB.low {w : World} {base base' : Nat} {v1 v2 : Value} {rs : List Row} {b : Book} (h : OB w base v1 v2 rs b) (hb : base' ≤ base) : OB w base' v1 v2 rs b := by
 refine ⟨h.ot.low hb, h.st, ⟨h.ob.1, ?_⟩, h.ow.low hb, h.di⟩
 rcases h.ob.2 with k3 | ⟨g, cap, cur, hv, hg, r⟩
 ·exact Or.inl k3
 ·exact Or.inr ⟨g, cap, cur, hv, Nat.le_trans hb hg, r⟩
theorem OB.bs {w : World} {base : Nat} {v1 v2 : Value} {rs : List Row} {b : Book} (h : OB w base v1 v2 rs b) : OwnBs w base v2 b.batches := ⟨rs, h.ob, h.ow⟩
theorem OB.at {w : World} {base : Nat} {v1 v2 : Value} {rs : List Row} {b : Book} (h : OB w base v1 v2 rs b) (hn : b.batches.length ≤ 2199023255552) : ∃ a1 c1 a2 c2, v1 = .slice a1 b.things.length c1 ∧ v2 = .slice a2 b.batches.length c2 ∧ BookAt w a1 a2 b := by
 obtain ⟨a1, c1, rfl⟩ := own_sl h.ot
 obtain ⟨a2, c2, rfl⟩ := h.bs.len
 exact ⟨a1, c1, a2, c2, rfl, rfl, own_book_at h.ot h.st h.bs hn⟩
def markB (x : Batch) (k : Nat) : Batch := ⟨markT k, marksOf (k + 1) x.has.length, marksOf (k + 1 + x.has.length) x.needs.length⟩
def markTo (bs : List Batch) (k m : Nat) : List Batch := (List.range bs.length).map fun i => if i < m then markB (nthB bs i) (k + i + cntTo bs i) else nthB bs i
def markBook (b : Book) (k : Nat) : Book := ⟨marksOf k b.things.length, markTo b.batches (k + b.things.length) b.batches.length⟩
theorem NE.of_pair {l : List Value} (h : l.Pairwise NE) {i j : Nat} {u v : Value} (hi : l[i]? = some u) (hj : l[j]? = some v) (hne : i ≠ j) : NE u v := by
 rw [List.pairwise_iff_getElem] at h
 obtain ⟨li, ei⟩ := List.getElem?_eq_some_iff.1 hi
 obtain ⟨lj, ej⟩ := List.getElem?_eq_some_iff.1 hj
 rcases Nat.lt_or_gt_of_ne hne with hlt | hlt
 ·have := h i j li lj hlt
  rw [ei, ej] at this; exact this
 ·have := h j i lj li hlt
  rw [ei, ej] at this; exact this.symm
theorem allV_at : ∀ (rs : List Row) (i : Nat) (r : Row), rs[i]? = some r → (allV rs)[i * 2]? = some r.has ∧ (allV rs)[i * 2 + 1]? = some r.needs
 | [], i, r, h => by simp at h
 | x :: rs, 0, r, h => by
  simp at h; subst h
  exact ⟨rfl, rfl⟩
 | x :: rs, i + 1, r, h => by
  have h' := allV_at rs i r (by simpa using h)
  have e : allV (x :: rs) = x.has :: x.needs :: allV rs := rfl
  rw [e]
  have e3 : (i + 1) * 2 = i * 2 + 1 + 1 := by omega
  rw [e3]
  exact h'
end
section
open Go.RowKit
attribute [local go_sem] S_toList S_size S_get
set_option maxRecDepth 100000 in
set_option maxHeartbeats 1000000 in
theorem copiedBook_any (b : Book) (a1 a2 : Option Addr) (c1 c2 : Nat) (w : World) (hb : BookAt w a1 a2 b) :
  Calls Qry.prog 81 #[.agg #[.slice a1 b.things.length c1, .slice a2 b.batches.length c2]] w fun e w' =>
   ∃ v1 v2 rs, e = .returned (.agg #[v1, v2]) ∧ Ext w w' ∧ OB w' w.heap.size v1 v2 rs b := by
 have hn := hb.2.1
 have e2 : ∀ o1 o2, Ext w ((w.alloc o1).alloc o2) := fun o1 o2 => ((Below.refl _ _).alloc (Nat.le_refl _) _).alloc (by simp) _
 go_enter Qry.func81, Tryz.ntmps81
 go_wp2_with fail
 refine (copied_any _ _ _ _ (hb.1.ext (e2 _ _))).mono ?_
 rintro e w1 ⟨v1, rfl, hE1, ho1⟩
 obtain ⟨x1, y1, rfl⟩ := own_sl ho1
 have HE1 := hid (Ext.tr (e2 _ _) hE1)
 have HO1 := hid ho1
 have hx0 : w1.cell? ⟨w.heap.size, 0, none⟩ = some (.slice a1 b.things.length c1) := (hE1.cell (p := ⟨w.heap.size, 0, none⟩) (by simp; omega)).trans (by simp)
 have hx1 : w1.cell? ⟨w.heap.size, 1, none⟩ = some (.slice a2 b.batches.length c2) := (hE1.cell (p := ⟨w.heap.size, 1, none⟩) (by simp; omega)).trans (by simp)
 have HR2 : Hid (Rec w1 (w.heap.size + 1) 26 [.slice none 0 0, .slice none 0 0]) := by
  have h := (Rec.new (w.alloc (.cells #[.slice a1 b.things.length c1, .slice a2 b.batches.length c2] 26)) 26 [.slice none 0 0, .slice none 0 0]).ext hE1
  have h' : Rec w1 (w.heap.size + 1) 26 [.slice none 0 0, .slice none 0 0] := by simpa using h
  exact h'
 have hz1 := hE1.size
 simp at hz1
 clear hE1 ho1
 have hx1b := (ext_alloc w1 (.cells #[.slice x1 b.things.length y1, .slice none 0 0] 26)).keep hx1
 go_wp2_with fail
 have HR1 : Hid (Rec (w1.alloc (.cells #[.slice x1 b.things.length y1, .slice none 0 0] 26)) w1.heap.size 26 [.slice x1 b.things.length y1, .slice none 0 0]) := Rec.new w1 _ _
 have HB1 : Hid (Below w1.heap.size w1 (w1.alloc (.cells #[.slice x1 b.things.length y1, .slice none 0 0] 26))) := (Below.refl _ _).alloc (Nat.le_refl _) _
 go_loopw [13] (fun i wr => ∃ (k : Nat) (v2 : Value) (rs : List Row), k ≤ b.batches.length ∧ i = .int .i64 k ∧ Below w1.heap.size w1 wr ∧ Rec wr w1.heap.size 26 [.slice x1 b.things.length y1, v2] ∧ wr.ownsRow (w1.heap.size + 1) 73 3 v2 rs.length (cellsOf rs) ∧ RowsOwn wr (w1.heap.size + 1) rs (b.batches.take k) ∧ Dis (.slice x1 b.things.length y1) rs) (fun i _ => b.batches.length - (intOf i).toNat)
 case atStart => exact ⟨0, _, [], Nat.zero_le _, rfl, HB1.out, HR1.out, World.ownsRow_nil _ _ _ _, ⟨rfl, fun i r x h => by simp at h⟩, List.Pairwise.nil, fun v hv => by simp [allV] at hv⟩
 case round =>
  clear HR1 HB1
  obtain ⟨k, v2, rs, hk, rfl, hbel, hrec, hown, hrows, hdis⟩ := hrel
  have hb' := hb.ext (Ext.tr HE1.out hbel)
  have HB := hid hbel
  have HR := hid hrec
  have HO := hid hown
  have HRS := hid hrows
  have HD := hid hdis
  clear hbel hown hrows hdis
  by_cases hlt : k < b.batches.length
  ·obtain ⟨ba, oa, rfl, hl, d1, g1, d2, g2, p0, p1, p2, s1, s2⟩ := hb'.2.2 k hlt
   obtain ⟨av, cv, rfl⟩ := own_shape3 HO.out
   have hlk : rs.length = k := by rw [HRS.out.1, List.length_take]; omega
   rw [hlk] at HO HR hrec
   go_upto_region 5 with fail
   have hX : Rec (wr.alloc (.cells #[.string (S (nthB b.batches k).name), .slice d1 (nthB b.batches k).has.length g1, .slice d2 (nthB b.batches k).needs.length g2] 73)) wr.heap.size 73 [.string (S (nthB b.batches k).name), .slice d1 (nthB b.batches k).has.length g1, .slice d2 (nthB b.batches k).needs.length g2] := Rec.new wr _ _
   have HEb := hid (ext_alloc wr (.cells #[.string (S (nthB b.batches k).name), .slice d1 (nthB b.batches k).has.length g1, .slice d2 (nthB b.batches k).needs.length g2] 73))
   have hzb : wr.heap.size < (wr.alloc (.cells #[.string (S (nthB b.batches k).name), .slice d1 (nthB b.batches k).has.length g1, .slice d2 (nthB b.batches k).needs.length g2] 73)).heap.size := by simp
   generalize wr.alloc (.cells #[.string (S (nthB b.batches k).name), .slice d1 (nthB b.batches k).has.length g1, .slice d2 (nthB b.batches k).needs.length g2] 73) = wb at *
   have hc1 := HEb.out.keep (hrec.cell (i := 1) rfl)
   clear hrec
   refine wp_region_T (fun w' => w'.cell? ⟨w1.heap.size, 1, none⟩ = some (.slice av k cv) ∧ w'.cell? ⟨wr.heap.size, 0, none⟩ = some (.string (S (nthB b.batches k).name)) ∧ w'.cell? ⟨wr.heap.size, 1, none⟩ = some (.slice d1 (nthB b.batches k).has.length g1) ∧ w'.cell? ⟨wr.heap.size, 2, none⟩ = some (.slice d2 (nthB b.batches k).needs.length g2)) 14 (by kernel_rfl) ⟨hc1, hX.cell rfl, hX.cell rfl, hX.cell rfl⟩ (fun hS => ?_)
   refine tk 0 hS ?_
   try simp only [List.set]
   refine tk 1 hS ?_
   try simp only [List.set]
   refine tk 2 hS ?_
   try simp only [List.set]
   refine tk 3 hS ?_
   try simp only [List.set]
   refine tk 4 hS ?_
   try simp only [List.set]
   refine tk 5 hS ?_
   try simp only [List.set]
   refine tk 7 hS ?_
   try simp only [List.set]
   refine tk 8 hS ?_
   try simp only [List.set]
   refine wpT_one 6 rfl (by kernel_rfl) rfl rfl (fun K hK => ?_)
   go_simp
   refine (copied_any _ _ _ _ ((s1.ext HEb.out).ext (ext_drewN wb 1))).mono ?_
   rintro e w2 ⟨u1, rfl, hE2, ho2⟩
   obtain ⟨x2, y2, rfl⟩ := own_sl ho2
   go_wp2_with fail
   refine hK.out _ _ ⟨hE2.keep hS.1, hE2.keep hS.2.1, hE2.keep hS.2.2.1, hE2.keep hS.2.2.2⟩ (fun hS1 => ?_)
   clear hK hS
   have hS := hS1
   clear hS1
   try clear K
   try simp only [put_some, List.set]
   refine wpT_one 9 rfl (by kernel_rfl) rfl rfl (fun K hK => ?_)
   go_simp
   refine (copied_any _ _ _ _ (((s2.ext HEb.out).ext (ext_drewN wb 1)).ext hE2)).mono ?_
   rintro e w3 ⟨u3, rfl, hE3, ho3⟩
   obtain ⟨x3, y3, rfl⟩ := own_sl ho3
   go_wp2_with fail
   refine hK.out _ _ ⟨hE3.keep hS.1, hE3.keep hS.2.1, hE3.keep hS.2.2.1, hE3.keep hS.2.2.2⟩ (fun hS1 => ?_)
   clear hK hS
   have hS := hS1
   clear hS1
   try clear K
   try simp only [put_some, List.set]
   refine tk 10 hS ?_
   try simp only [List.set]
   refine wpT_one 11 rfl (by kernel_rfl) rfl rfl (fun K hK => ?_)
   go_simp
   refine hK.out _ _ ⟨(ext_alloc _ _).keep hS.1, (ext_alloc _ _).keep hS.2.1, (ext_alloc _ _).keep hS.2.2.1, (ext_alloc _ _).keep hS.2.2.2⟩ (fun hS1 => ?_)
   clear hK hS
   have hS := hS1
   clear hS1
   try clear K
   try simp only [put_some, List.set]
   have hE4 : Ext wr w3 := Ext.tr (Ext.tr HEb.out (ext_drewN wb 1)) (Ext.tr hE2 hE3)
   have hzr := HR.out.lt
   have hz2 : wb.heap.size ≤ w2.heap.size := hE2.size
   have hz3 := hE3.size
   have HRow : Hid (RowOwn (w3.alloc (.cells #[.string (S (nthB b.batches k).name), .slice x2 (nthB b.batches k).has.length y2, .slice x3 (nthB b.batches k).needs.length y3] 73)) (w1.heap.size + 1) ⟨(nthB b.batches k).name, .slice x2 (nthB b.batches k).has.length y2, .slice x3 (nthB b.batches k).needs.length y3⟩ (nthB b.batches k)) :=
    ⟨rfl, hl, ((ho2.low (by show w1.heap.size + 1 ≤ wb.heap.size; omega)).ext hE3).ext (ext_alloc _ _), s1.short, (ho3.low (by omega)).ext (ext_alloc _ _), s2.short⟩
   refine wpT_one 12 rfl (by kernel_rfl) rfl rfl (fun K hK => ?_)
   have hE5 := Ext.tr hE4 (ext_alloc w3 (.cells #[.string (S (nthB b.batches k).name), .slice x2 (nthB b.batches k).has.length y2, .slice x3 (nthB b.batches k).needs.length y3] 73))
   have hO5 : (w3.alloc (.cells #[.string (S (nthB b.batches k).name), .slice x2 (nthB b.batches k).has.length y2, .slice x3 (nthB b.batches k).needs.length y3] 73)).ownsRow (w1.heap.size + 1) 73 3 (.slice av k cv) rs.length (cellsOf rs) := by rw [hlk]; exact row_ext HO.out hE5
   have HDN : Hid (Dis (.slice x1 b.things.length y1) (rs ++ [⟨(nthB b.batches k).name, .slice x2 (nthB b.batches k).has.length y2, .slice x3 (nthB b.batches k).needs.length y3⟩])) := by
    have hzr2 : (wb.drewN 1).heap.size = wb.heap.size := rfl
    refine HD.out.snoc (fun v hv => ?_) (NE.older ho2 ho3 (Nat.le_refl _)) ⟨NE.older (HO1.out) ho2 (by rw [hzr2]; omega), NE.older HO1.out ho3 (by omega)⟩
    obtain ⟨L, hL⟩ := HRS.out.memV hv
    exact ⟨NE.older hL ho2 (by rw [hzr2]; omega), NE.older hL ho3 (by omega)⟩
   refine wp_row (r := ⟨(nthB b.batches k).name, .slice x2 (nthB b.batches k).has.length y2, .slice x3 (nthB b.batches k).needs.length y3⟩) _ _ rfl rfl hO5 rfl (one_cells w3 73 ⟨(nthB b.batches k).name, .slice x2 (nthB b.batches k).has.length y2, .slice x3 (nthB b.batches k).needs.length y3⟩) (row_one HRow.out) (by omega) (by simp; omega) (fun v' w4 h2 h3 h4 => ?_)
   have hlk1 : (rs ++ [(⟨(nthB b.batches k).name, .slice x2 (nthB b.batches k).has.length y2, .slice x3 (nthB b.batches k).needs.length y3⟩ : Row)]).length = k + 1 := by rw [List.length_append, hlk]; rfl
   obtain ⟨a4, c4, rfl⟩ := own_shape3 h2
   rw [hlk1] at h2 ⊢
   have hob : ∀ g, (Value.slice av k cv).ownBlock = some g → w1.heap.size + 1 ≤ g ∧ g < wr.heap.size := fun g hg => HO.out.lt g hg
   have HR4 : Hid (Rec w4 w1.heap.size 26 [.slice x1 b.things.length y1, .slice av k cv]) := (HR.out.ext (Ext.tr hE4 (ext_alloc _ _))).kept h3 (fun e => by have := hob _ e.symm; omega)
   have hB4 : Below w1.heap.size wr w4 := (Below.mono (Ext.tr hE4 (ext_alloc _ _)) (by omega)).grown h3 (by simp; omega) (fun g hg => by have := hob g hg; omega)
   have HX4 : Hid (Rec w4 wr.heap.size 73 [.string (S (nthB b.batches k).name), .slice d1 (nthB b.batches k).has.length g1, .slice d2 (nthB b.batches k).needs.length g2]) := (hX.ext (Ext.tr (ext_drewN wb 1) (Ext.tr hE2 (Ext.tr hE3 (ext_alloc _ _))))).kept h3 (fun e => by have := hob _ e.symm; omega)
   refine hK.out _ _ ⟨HR4.out.cell rfl, HX4.out.cell rfl, HX4.out.cell rfl, HX4.out.cell rfl⟩ (fun hS1 => ?_)
   clear hK hS
   have hS := hS1
   clear hS1
   try clear K
   try simp only [put_some, List.set]
   refine tk 13 hS ?_
   try simp only [List.set]
   have hkk : ∀ (k' : Nat) c, (Value.slice av k cv).ownBlock = some k' → (w3.alloc (.cells #[.string (S (nthB b.batches k).name), .slice x2 (nthB b.batches k).has.length y2, .slice x3 (nthB b.batches k).needs.length y3] 73)).heap[k']? = some (.cells c 9 (0, 0)) → False := fun k' c e hk' => row_ne hO5 k' c e hk'
   have hg4 := gb_store w4 w1.heap.size 1 (.slice a4 (k + 1) c4)
   have hk4 : ∀ (k' : Nat) c, some w1.heap.size = some k' → w4.heap[k']? = some (.cells c 9 (0, 0)) → False := fun k' c e hk' => by
    cases e
    rw [show w4.heap[w1.heap.size]? = _ from HR4.out] at hk'
    simp at hk'
   have HN : Hid ((w4.setCell ⟨w1.heap.size, 1, none⟩ (.slice a4 (k + 1) c4)).ownsRow (w1.heap.size + 1) 73 3 (.slice a4 (k + 1) c4) (rs ++ [(⟨(nthB b.batches k).name, .slice x2 (nthB b.batches k).has.length y2, .slice x3 (nthB b.batches k).needs.length y3⟩ : Row)]).length (cellsOf (rs ++ [⟨(nthB b.batches k).name, .slice x2 (nthB b.batches k).has.length y2, .slice x3 (nthB b.batches k).needs.length y3⟩]))) := by
    rw [hlk1]
    exact World.ownsRow.kept h2 hg4 (Or.inr (fun e => by have := (h2.lt _ e).1; omega))
   have HRN2 : Hid (RowsOwn (w4.setCell ⟨w1.heap.size, 1, none⟩ (.slice a4 (k + 1) c4)) (w1.heap.size + 1) (rs ++ [⟨(nthB b.batches k).name, .slice x2 (nthB b.batches k).has.length y2, .slice x3 (nthB b.batches k).needs.length y3⟩]) (b.batches.take (k + 1))) := by
    rw [take_bs hlt]
    exact RowsOwn.snoc (((HRS.out.ext hE5).keep h3 hkk).keep hg4 hk4) ((HRow.out.keep h3 hkk).keep hg4 hk4)
   have HRN := hid (HR4.out.set 1 (.slice a4 (k + 1) c4))
   have HBN : Hid (Below w1.heap.size w1 (w4.setCell ⟨w1.heap.size, 1, none⟩ (.slice a4 (k + 1) c4))) := (HB.out.trans hB4).setCell (Nat.le_refl _) _
   have hq1 := HR4.out.cell (i := 1) rfl
   have hq2 := HR4.out.frozen 1
   clear hS h2 h3 h4 hkk hk4 hg4 hO5 hE5 HR4 hB4 HRow hE2 hE3 hE4 ho2 ho3 s1 s2 p0 p1 p2 hb' hX HX4 HEb
   refine wpT_last rfl (by kernel_rfl) (by kernel_rfl) rfl (fun K hK => ?_)
   go_simp
   refine hK.out _ _ ?_
   clear hK
   go_wp2
   go_roundw
   case rel => exact ⟨k + 1, _, _, by omega, by go_num, HBN.out, HRN.out, HN.out, HRN2.out, HDN.out⟩
   case measure => simp [intOf]; omega
  ·have e : k = b.batches.length := by omega
   subst e
   rw [List.take_length] at *
   obtain ⟨av, cv, rfl⟩ := own_shape3 HO.out
   have hlk : rs.length = b.batches.length := HRS.out.1
   rw [hlk] at HO HR
   have hq0 := HR.out.cell (i := 0) rfl
   have hq1 := HR.out.cell (i := 1) rfl
   have HR3 := hid (HR2.out.ext HB.out)
   have t0 := HR3.out.cell (i := 0) rfl
   have t1 := HR3.out.cell (i := 1) rfl
   have f0 := HR3.out.frozen 0
   have f1 := HR3.out.frozen 1
   have HO3 := hid ((HO1.out.low (base' := w.heap.size) (by simp; omega)).ext HB.out)
   have HE3 := hid (Ext.tr HE1.out HB.out)
   have HSH := hid hb.1.short
   clear HB HR hrec HO1 HE1 hb'
   go_wp2
   refine bodyPost_ret (v := .agg #[.slice x1 b.things.length y1, .slice av b.batches.length cv]) (by simp [results, Tryz.results81, go_sem, t0, t1]) rfl ⟨_, _, rs, rfl, ?_, ?_, HSH.out, ?_, ?_, HD.out⟩
   ·exact (HE3.out.setCell (by simp) _).setCell (by simp) _
   ·exact (HO3.out.stored HR3.out rfl _ _).stored (HR3.out.set _ _) rfl _ _
   ·have hne2 : ∀ u : Value, Value.ownBlock (.slice av b.batches.length cv) ≠ some (w.heap.size + 1) := fun _ e => by have := (HO.out.lt _ e).1; omega
    rw [hlk]
    have hlow : wr.ownsRow w.heap.size 73 3 (.slice av b.batches.length cv) b.batches.length (cellsOf rs) := by
     refine ⟨HO.out.1, ?_⟩
     rcases HO.out.2 with h | ⟨g, cap, cur, hv, hg, r⟩
     ·exact Or.inl h
     ·exact Or.inr ⟨g, cap, cur, hv, by omega, r⟩
    exact World.ownsRow.kept (World.ownsRow.kept hlow (gb_store _ _ _ _) (Or.inr (hne2 undef))) (gb_store _ _ _ _) (Or.inr (hne2 undef))
   ·have hk1 : ∀ (k' : Nat) c, some (w.heap.size + 1) = some k' → wr.heap[k']? = some (.cells c 9 (0, 0)) → False := fun k' c e hk' => by
     cases e
     rw [show wr.heap[w.heap.size + 1]? = _ from HR3.out] at hk'
     simp at hk'
    have r1 := HR3.out.set 0 (.slice x1 b.things.length y1)
    have hk2 : ∀ (k' : Nat) c, some (w.heap.size + 1) = some k' → (wr.setCell ⟨w.heap.size + 1, 0, none⟩ (.slice x1 b.things.length y1)).heap[k']? = some (.cells c 9 (0, 0)) → False := fun k' c e hk' => by
     cases e
     rw [show (wr.setCell ⟨w.heap.size + 1, 0, none⟩ (.slice x1 b.things.length y1)).heap[w.heap.size + 1]? = _ from r1] at hk'
     simp at hk'
    exact ((HRS.out.low (by omega)).keep (gb_store _ _ _ _) hk1).keep (gb_store _ _ _ _) hk2
end
section
open Go.RowKit
attribute [local go_sem] S_toList S_size S_get
set_option maxRecDepth 100000 in
set_option maxHeartbeats 1000000 in
theorem grow_any (n : Nat) (w : World) (hn : n ≤ 17592186044416) : Calls Qry.prog 127 #[.slice none 0 0, .int .i64 (n : Int)] w fun e w' => ∃ v, e = .returned v ∧ Ext w w' ∧ OwnL w' w.heap.size v [] := by
 by_cases h0 : 0 < n
 ·obtain ⟨i0, hi, hz0, hz1, hz2⟩ := info_str
  have hr := Lib.run_append_nil_zeros (P := Qry.prog) w 23 3 23 9 i0 (.string (S [])) .i64 .i64 (uQ Tryz.underlying23) (uQ Tryz.underlying3) hi hz0 n h0 (by omega) (by omega) (by rw [hz2]; omega)
  have hge := grownCap_ge w n 0 9
  have hmx := grownCap_le_maxLen w n 0 9 (by unfold maxLen; omega)
  have HO : Hid (OwnL (w.drew.alloc (.cells (Builtin.zeroCells (Value.string (S [])).cells n ++ Builtin.zeroCells (Value.string (S [])).cells (grownCap w n 0 9 - n)) 9)) w.heap.size (.slice (some ⟨w.heap.size, 0, none⟩) 0 (grownCap w n 0 9)) []) := by
   refine ⟨by simp, Or.inr ⟨w.heap.size, _, _, rfl, Nat.le_refl _, heap_alloc_new w.drew _, Nat.zero_le _, hmx, ?_, by simp⟩⟩
   rw [Array.size_append, size_zeroCells, size_zeroCells]
   have e : (Value.string (S [])).cells.size = 1 := rfl
   rw [e]; omega
  have HE : Hid (Ext w (w.drew.alloc (.cells (Builtin.zeroCells (Value.string (S [])).cells n ++ Builtin.zeroCells (Value.string (S [])).cells (grownCap w n 0 9 - n)) 9))) := Ext.tr (ext_drewN w 1) (ext_alloc _ _)
  have HR := hid hr
  clear hr
  generalize w.drew.alloc (.cells (Builtin.zeroCells (Value.string (S [])).cells n ++ Builtin.zeroCells (Value.string (S [])).cells (grownCap w n 0 9 - n)) 9) = w1 at *
  generalize grownCap w n 0 9 = cap at *
  go_enter Qry.func127, Tryz.ntmps127
  go_wp2_with (at_builtin; refine Lib.wpList_append_run _ rfl _ _ _ _ rfl _ _ rfl rfl _ _ HR.out ?_)
  go_ret
  exact ⟨_, rfl, HE.out, HO.out⟩
 ·have e : n = 0 := by omega
  subst e
  go_enter Qry.func127, Tryz.ntmps127
  go_wp2
  go_ret
  exact ⟨_, rfl, Ext.rfl' _, World.ownsRow_nil _ _ _ _⟩
set_option maxRecDepth 100000 in
set_option maxHeartbeats 1000000 in
theorem concat_any (V cV : Nat) (A B : List Str) (a b : Option Addr) (ca cb : Nat) (w : World) (h0 : w.cell? ⟨V, 0, none⟩ = some (.slice a A.length ca)) (h1 : w.cell? ⟨V, 1, none⟩ = some (.slice b B.length cb)) (hA : StrsAt w a A) (hB : StrsAt w b B) (hl : A.length + B.length ≤ 8796093022208) :
  Calls Qry.prog 106 #[.slice (some ⟨V, 0, none⟩) 2 cV] w fun e w' => ∃ v, e = .returned v ∧ Ext w w' ∧ OwnL w' w.heap.size v (A ++ B) := by
 go_enter Qry.func106, Tryz.ntmps106
 go_wp2_with fail
 refine wp_loop_rounds 3 ?_
 rw [rounds_succ]
 go_wp2_with fail
 rw [rounds_succ]
 go_wp2_with fail
 rw [rounds_succ]
 go_wp2_with fail
 refine (grow_any (A.length + B.length) _ (by omega)).mono ?_
 rintro e w1 ⟨v, rfl, hE1, ho1⟩
 have g0 := hE1.keep h0
 have g1 := hE1.keep h1
 have HE1 := hid hE1
 have HO1 := hid ho1
 have HA1 := hid (hA.ext hE1)
 have hz1 := hE1.size
 clear hE1 ho1
 go_wp2_with fail
 refine wp_loop_rounds 3 ?_
 rw [rounds_succ]
 go_wp2_with (at_builtin; refine wpList_strs rfl _ _ rfl rfl HO1.out rfl HA1.out ?q1 ?q2 ?_)
 case q1 => simp; omega
 case q2 => omega
 intro v2 w2 ho2 hg2 _
 have HE2 : Hid (Ext w w2) := HE1.out.grown hg2 hz1 (fun g hg => (HO1.out.lt g hg).1)
 have ho2' : OwnL w2 w.heap.size v2 A := by simpa using ho2
 have HO2 := hid ho2'
 clear ho2'
 have k0 := HE2.out.keep h0
 have k1 := HE2.out.keep h1
 have HB2 := hid (hB.ext HE2.out)
 have hz2 := HE2.out.size
 clear ho2 hg2
 go_wp2_with fail
 rw [rounds_succ]
 go_wp2_with (at_builtin; refine wpList_strs rfl _ _ rfl rfl HO2.out rfl HB2.out ?q1 ?q2 ?_)
 case q1 => omega
 case q2 => omega
 intro v3 w3 ho3 hg3 _
 have HE3 : Hid (Ext w w3) := HE2.out.grown hg3 hz2 (fun g hg => (HO2.out.lt g hg).1)
 have HO3 := hid ho3
 clear ho3 hg3
 go_wp2_with fail
 rw [rounds_succ]
 go_wp2_with fail
 go_ret
 exact ⟨v3, rfl, HE3.out, HO3.out⟩
end
section
open Go.RowKit
attribute [local go_sem] S_toList S_size S_get
section
variable {P : Program}
end
def zeroB : List Value := [.string (S []), .slice none 0 0, .slice none 0 0]
theorem own_open {w : World} {base : Nat} {t : TypeId} {z n : Nat} {v : Value} {xs : List Value} (h : w.ownsRow base t z v n xs) (hn : 0 < n) : ∃ g c cur, v = .slice (some ⟨g, 0, none⟩) n c ∧ base ≤ g ∧ w.heap[g]? = some (.cells cur t (0, 0)) ∧ n ≤ c ∧ c ≤ maxLen ∧ cur.size = c * z ∧ cur.toList.take (n * z) = xs := by
 rcases h.2 with ⟨_, h0⟩ | ⟨g, cap, cur, e, hb, hg, hc, hx, hs, ht⟩
 ·omega
 ·exact ⟨g, cap, cur, e, hb, hg, hc, hx, hs, ht⟩
end
section
open Go.RowKit
attribute [local go_sem] S_toList S_size S_get
structure BK (base : Nat) (w w' : World) : Prop where
 below : Below base w w'
 keep : ∀ (X : Nat) (l : List Value), Rec w X 26 l → Rec w' X 26 l
end
end Go.Proofs.YtdafpnpfcmgfcaaGreatDoor
