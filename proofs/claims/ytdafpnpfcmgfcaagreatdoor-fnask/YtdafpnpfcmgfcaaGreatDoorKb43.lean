/- What l5Spoil does to a copy: its state. -/
import Derived.Test.YtdafpnpfcmgfcaaGreatDoorKb42
namespace Go.Proofs.YtdafpnpfcmgfcaaGreatDoor
open Go.RowKit
attribute [local go_sem] S_toList S_size S_get
theorem allV_atD : ∀ (rs : List Row) (i : Nat) (r : Row), rs[i]? = some r → (allV rs)[2 * i]? = some r.has ∧ (allV rs)[2 * i + 1]? = some r.needs
 | [], i, r, h => by simp at h
 | x :: rs, 0, r, h => by
  simp at h; subst h
  exact ⟨rfl, rfl⟩
 | x :: rs, i + 1, r, h => by
  have h' := allV_atD rs i r (by simpa using h)
  have e : allV (x :: rs) = x.has :: x.needs :: allV rs := rfl
  have e2 : 2 * (i + 1) = 2 * i + 1 + 1 := by omega
  rw [e, e2]
  exact h'
theorem pw_ne {l : List Value} (h : l.Pairwise NE) {i j : Nat} {u v : Value} (hi : l[i]? = some u) (hj : l[j]? = some v) (hne : i ≠ j) : NE u v := by
 have li : i < l.length := by
  rcases Nat.lt_or_ge i l.length with h' | h'
  ·exact h'
  ·simp [List.getElem?_eq_none h'] at hi
 have lj : j < l.length := by
  rcases Nat.lt_or_ge j l.length with h' | h'
  ·exact h'
  ·simp [List.getElem?_eq_none h'] at hj
 rw [List.getElem?_eq_getElem li] at hi
 rw [List.getElem?_eq_getElem lj] at hj
 cases hi; cases hj
 rcases Nat.lt_or_gt_of_ne hne with h' | h'
 ·exact (List.pairwise_iff_getElem.1 h) i j li lj h'
 ·exact ((List.pairwise_iff_getElem.1 h) j i lj li h').symm
theorem cellsOf_nameD : ∀ (rs : List Row) (k : Nat) (r : Row) (s : Str), rs[k]? = some r → (cellsOf rs).set (k * 3) (.string (S s)) = cellsOf (rs.set k ⟨s, r.has, r.needs⟩)
 | [], k, r, s, h => by simp at h
 | x :: rs, 0, r, s, h => by
  simp at h; subst h
  rfl
 | x :: rs, k + 1, r, s, h => by
  have h' := cellsOf_nameD rs k r s (by simpa using h)
  have e3 : (k + 1) * 3 = (k * 3) + 1 + 1 + 1 := by omega
  rw [cellsOf_cons, e3, List.set_cons_succ, List.set_cons_succ, List.set_cons_succ, h', List.set_cons_succ, cellsOf_cons]
def Small9 (bs : List Batch) : Prop := ∀ x ∈ bs, x.has.length ≤ 9 ∧ x.needs.length ≤ 9
def SmB9 (b : Book) : Prop := b.things.length ≤ 9 ∧ b.batches.length ≤ 7 ∧ Small9 b.batches
theorem SmB.nine {b : Book} (h : SmB b) : SmB9 b := ⟨by have := h.1; omega, by have := h.2.1; omega, fun x hx => by have := h.2.2 x hx; omega⟩
structure PS (w wc : World) (R q X : Nat) (things : List Str) (bs : List Batch) (rs : List Row) (v1 v2 : Value) : Prop where
 on : w.grownBy wc (some R)
 rd : Rd wc R q
 rr : Rec wc (w.heap.size + 1) 26 [.slice none 0 0, .slice none 0 0]
 rx : Rec wc X 26 [v1, v2]
 o1 : OwnL wc (w.heap.size + 2) v1 things
 ob : wc.ownsRow (w.heap.size + 2) 73 3 v2 rs.length (cellsOf rs)
 ow : RowsOwn wc (w.heap.size + 2) rs bs
 hR : R < w.heap.size
 hX : w.heap.size + 2 ≤ X
 hz : w.heap.size + 2 ≤ wc.heap.size
theorem PS.ext {w wc wd : World} {R q X : Nat} {things : List Str} {bs : List Batch} {rs : List Row} {v1 v2 : Value} (h : PS w wc R q X things bs rs v1 v2) (e : Ext wc wd) : PS w wd R q X things bs rs v1 v2 :=
 ⟨gb_tr h.on (gb_ext e _), h.rd.ext e, h.rr.ext e, h.rx.ext e, h.o1.ext e, row_ext h.ob e, h.ow.ext e, h.hR, h.hX, Nat.le_trans h.hz e.size⟩
theorem PS.read {w wc wd : World} {R q q' X : Nat} {things : List Str} {bs : List Batch} {rs : List Row} {v1 v2 : Value} (h : PS w wc R q X things bs rs v1 v2) (g : wc.grownBy wd (some R)) (hr : Rd wd R q') : PS w wd R q' X things bs rs v1 v2 := by
 have hR := h.hR
 have hX := h.hX
 have hf : ∀ k, some R = some k → k < w.heap.size + 2 := fun k e => by cases e; omega
 exact ⟨gb_tr h.on g, hr, h.rr.kept g (by simp; omega), h.rx.kept g (by simp; omega), h.o1.far g hf, own_far h.ob g hf, h.ow.far g hf, h.hR, h.hX, Nat.le_trans h.hz g.size⟩
theorem PS.mono {w wc : World} {R q q' X : Nat} {things : List Str} {bs : List Batch} {rs : List Row} {v1 v2 : Value} (h : PS w wc R q X things bs rs v1 v2) (hq : q ≤ q') : PS w wc R q' X things bs rs v1 v2 :=
 ⟨h.on, h.rd.mono hq, h.rr, h.rx, h.o1, h.ob, h.ow, h.hR, h.hX, h.hz⟩
structure FS (w wc : World) (R q X : Nat) : Prop where
 on : w.grownBy wc (some R)
 rd : Rd wc R q
 rr : Rec wc (w.heap.size + 1) 26 [.slice none 0 0, .slice none 0 0]
 bk : ∃ (b : Book) (z1 z2 : Option Addr) (d1 d2 : Nat), Rec wc X 26 [.slice z1 b.things.length d1, .slice z2 b.batches.length d2] ∧ BookAt wc z1 z2 b ∧ SmB9 b
 hR : R < w.heap.size
theorem PS.fs {w wc : World} {R q X : Nat} {things : List Str} {bs : List Batch} {rs : List Row} {v1 v2 : Value} (h : PS w wc R q X things bs rs v1 v2) (hs : ShortL things) (h1 : things.length ≤ 9) (h2 : bs.length ≤ 7) (h3 : Small9 bs) : FS w wc R q X := by
 refine ⟨h.on, h.rd, h.rr, ?_, h.hR⟩
 obtain ⟨z1, d1, rfl⟩ := own_sl h.o1
 have hob : OwnBs wc (w.heap.size + 2) v2 bs := ⟨rs, h.ob, h.ow⟩
 obtain ⟨z2, d2, rfl⟩ := hob.len
 exact ⟨⟨things, bs⟩, z1, z2, d1, d2, h.rx, own_book_at (b := ⟨things, bs⟩) h.o1 ⟨by show things.length ≤ _; omega, hs⟩ hob (by show bs.length ≤ _; omega), h1, h2, h3⟩
theorem PS.thing {w wc wd : World} {R q X : Nat} {things things' : List Str} {bs : List Batch} {rs : List Row} {v1 v1' v2 : Value} (h : PS w wc R q X things bs rs v1 v2) (hd : ∀ v ∈ allV rs, NE v1 v) (g : wc.grownBy wd v1.ownBlock) (ho : OwnL wd (w.heap.size + 2) v1' things') : PS w (wd.setCell ⟨X, 0, none⟩ v1') R q X things' bs rs v1' v2 := by
 have hR := h.hR
 have hX := h.hX
 have hob : ∀ k, v1.ownBlock = some k → w.heap.size + 2 ≤ k := fun k e => (h.o1.lt k e).1
 have rx1 := h.rx.kept g (h.rx.not_row rfl h.o1)
 have rr1 := h.rr.kept g (h.rr.not_row rfl h.o1)
 have g2 := gb_store wd X 0 v1'
 have hk2 : ∀ (k : Nat) c, some X = some k → wd.heap[k]? = some (.cells c 9 (0, 0)) → False := fun k c e hk => by
  cases e
  rw [show wd.heap[X]? = _ from rx1] at hk
  simp at hk
 have hn1 : ∀ k, v1.ownBlock = some k → v2.ownBlock = some k → False := fun k e1 e2 => by
  rcases h.o1.2 with ⟨e, _⟩ | ⟨b1, _, _, e, _, hg1, _⟩
  ·rw [e] at e1; simp [Value.ownBlock] at e1
  ·rcases h.ob.2 with ⟨e', _⟩ | ⟨b2, _, _, e', _, hg2, _⟩
   ·rw [e'] at e2; simp [Value.ownBlock] at e2
   ·rw [e] at e1
    rw [e'] at e2
    simp only [Value.ownBlock, Option.some.injEq] at e1 e2
    subst e1; subst e2
    rw [hg1] at hg2; simp at hg2
 have ob1 := own_ne h.ob g hn1
 have ow1 := h.ow.ne g (fun r hr => ⟨hd _ (mem_allV hr).1, hd _ (mem_allV hr).2⟩)
 refine ⟨on_grown (on_grown h.on g (fun k e => by have := hob k e; omega)) g2 (fun k e => by cases e; omega), (h.rd.gb g (fun k e => by have := hob k e; omega)).gb g2 (fun k e => by cases e; omega), rr1.kept g2 ?_, rx1.set 0 v1', ho.keep g2 hk2, World.ownsRow.kept ob1 g2 (Or.inr (fun e => rx1.not_row rfl ob1 e.symm)), ow1.keep g2 hk2, h.hR, h.hX, Nat.le_trans h.hz (Nat.le_trans g.size g2.size)⟩
 simp; omega
theorem PS.cellsTurn {w wc : World} {R q X g n c i : Nat} {things : List Str} {bs bs' : List Batch} {rs rs' : List Row} {v1 u : Value} (h : PS w wc R q X things bs rs v1 (.slice (some ⟨g, 0, none⟩) n c)) (hc : (cellsOf rs).set i u = cellsOf rs') (hl : rs'.length = rs.length) (how : RowsOwn wc (w.heap.size + 2) rs' bs') : PS w (wc.setCell ⟨g, i, none⟩ u) R q X things bs' rs' v1 (.slice (some ⟨g, 0, none⟩) n c) := by
 have hR := h.hR
 have hX := h.hX
 obtain ⟨a', c', ee⟩ := own_shape3 h.ob
 have hn : n = rs.length := by simp only [Value.slice.injEq] at ee; exact ee.2.1
 subst hn
 have h3 := World.ownsRow.stored h.ob i u
 have hgb : w.heap.size + 2 ≤ g := (h.ob.lt g rfl).1
 have g2 := gb_store wc g i u
 have hk2 : ∀ (k : Nat) c, some g = some k → wc.heap[k]? = some (.cells c 9 (0, 0)) → False := fun k cc e hk => row_ne h.ob k cc (by rw [← e]; rfl) hk
 refine ⟨on_grown h.on g2 (fun k e => by cases e; omega), h.rd.gb g2 (fun k e => by cases e; omega), h.rr.kept g2 (h.rr.not_row rfl h.ob), h.rx.kept g2 (h.rx.not_row rfl h.ob), h.o1.keep g2 hk2, ?_, how.keep g2 hk2, h.hR, h.hX, Nat.le_trans h.hz g2.size⟩
 rw [hl, ← hc]; exact h3.1
theorem PS.listTurn {w wc wd : World} {R q X : Nat} {things : List Str} {bs : List Batch} {rs : List Row} {v1 v2 u : Value} {L : List Str} (h : PS w wc R q X things bs rs v1 v2) (ho : OwnL wc (w.heap.size + 2) u L) (g : wc.grownBy wd u.ownBlock) (n1 : NE u v1) : w.grownBy wd (some R) ∧ Rd wd R q ∧ Rec wd (w.heap.size + 1) 26 [.slice none 0 0, .slice none 0 0] ∧ Rec wd X 26 [v1, v2] ∧ OwnL wd (w.heap.size + 2) v1 things ∧ wd.ownsRow (w.heap.size + 2) 73 3 v2 rs.length (cellsOf rs) := by
 have hR := h.hR
 have hob : ∀ k, u.ownBlock = some k → w.heap.size + 2 ≤ k := fun k e => (ho.lt k e).1
 refine ⟨on_grown h.on g (fun k e => by have := hob k e; omega), h.rd.gb g (fun k e => by have := hob k e; omega), h.rr.kept g (h.rr.not_row rfl ho), h.rx.kept g (h.rx.not_row rfl ho), own_ne h.o1 g n1, own_ne h.ob g (fun k e1 e2 => ?_)⟩
 rcases ho.2 with ⟨e, _⟩ | ⟨b1, _, _, e, _, hg1, _⟩
 ·rw [e] at e1; simp [Value.ownBlock] at e1
 ·rcases h.ob.2 with ⟨e', _⟩ | ⟨b2, _, _, e', _, hg2, _⟩
  ·rw [e'] at e2; simp [Value.ownBlock] at e2
  ·rw [e] at e1
   rw [e'] at e2
   simp only [Value.ownBlock, Option.some.injEq] at e1 e2
   subst e1; subst e2
   rw [hg1] at hg2; simp at hg2
theorem PS.needs {w wc wd : World} {R q X g n c k : Nat} {things : List Str} {bs : List Batch} {rs : List Row} {v1 u' : Value} {r : Row} {L' : List Str} (h : PS w wc R q X things bs rs v1 (.slice (some ⟨g, 0, none⟩) n c)) (hd : Dis v1 rs) (hr : rs[k]? = some r) (gw : wc.grownBy wd r.needs.ownBlock) (ho' : OwnL wd (w.heap.size + 2) u' L') (hs : ShortS L') :
  PS w (wd.setCell ⟨g, k * 3 + 2, none⟩ u') R q X things (bs.set k ⟨(nthB bs k).name, (nthB bs k).has, L'⟩) (rs.set k ⟨r.name, r.has, u'⟩) v1 (.slice (some ⟨g, 0, none⟩) n c) := by
 have hkr : k < rs.length := by
  rcases Nat.lt_or_ge k rs.length with h' | h'
  ·exact h'
  ·simp [List.getElem?_eq_none h'] at hr
 have hkb : k < bs.length := by rw [← h.ow.1]; exact hkr
 obtain ⟨e1, e2, e3, e4, e5, e6⟩ := h.ow.2 k r _ hr (List.getElem?_eq_getElem hkb)
 have hav := allV_atD rs k r hr
 obtain ⟨k1, k2, k3, k4, k5, k6⟩ := h.listTurn e5 gw ((hd.2 _ (mem_allV (List.mem_of_getElem? hr)).2).symm)
 have how : RowsOwn wd (w.heap.size + 2) (rs.set k ⟨r.name, r.has, u'⟩) (bs.set k ⟨(nthB bs k).name, (nthB bs k).has, L'⟩) := by
  refine ⟨by simp [h.ow.1], fun i r' x' h1 h2 => ?_⟩
  rw [List.getElem?_set] at h1 h2
  by_cases e : k = i
  ·subst e
   rw [if_pos rfl, if_pos hkr] at h1
   rw [if_pos rfl, if_pos hkb] at h2
   cases h1; cases h2
   rw [nthB_get hkb]
   exact ⟨e1, e2, own_ne e3 gw (pw_ne hd.1 hav.2 hav.1 (by omega)), e4, ho', hs⟩
  ·rw [if_neg e] at h1 h2
   obtain ⟨f1, f2, f3, f4, f5, f6⟩ := h.ow.2 i r' x' h1 h2
   have hai := allV_atD rs i r' h1
   exact ⟨f1, f2, own_ne f3 gw (pw_ne hd.1 hav.2 hai.1 (by omega)), f4, own_ne f5 gw (pw_ne hd.1 hav.2 hai.2 (by omega)), f6⟩
 have hps : PS w wd R q X things bs rs v1 (.slice (some ⟨g, 0, none⟩) n c) → True := fun _ => trivial
 obtain ⟨a', c', ee⟩ := own_shape3 k6
 have hn : n = rs.length := by simp only [Value.slice.injEq] at ee; exact ee.2.1
 subst hn
 have h3 := World.ownsRow.stored k6 (k * 3 + 2) u'
 have hgb : w.heap.size + 2 ≤ g := (k6.lt g rfl).1
 have g2 := gb_store wd g (k * 3 + 2) u'
 have hk2 : ∀ (k' : Nat) cc, some g = some k' → wd.heap[k']? = some (.cells cc 9 (0, 0)) → False := fun k' cc e hk => row_ne k6 k' cc (by rw [← e]; rfl) hk
 have hR := h.hR
 clear hps
 refine ⟨on_grown k1 g2 (fun k e => by cases e; omega), k2.gb g2 (fun k e => by cases e; omega), k3.kept g2 (k3.not_row rfl k6), k4.kept g2 (k4.not_row rfl k6), k5.keep g2 hk2, ?_, how.keep g2 hk2, h.hR, h.hX, Nat.le_trans h.hz (Nat.le_trans gw.size g2.size)⟩
 rw [List.length_set, ← cellsOf_needs rs k r u' hr]; exact h3.1
theorem PS.hasGrow {w wc wd : World} {R q X g n c k : Nat} {things : List Str} {bs : List Batch} {rs : List Row} {v1 u' : Value} {r : Row} {L' : List Str} (h : PS w wc R q X things bs rs v1 (.slice (some ⟨g, 0, none⟩) n c)) (hd : Dis v1 rs) (hr : rs[k]? = some r) (gw : wc.grownBy wd r.has.ownBlock) (ho' : OwnL wd (w.heap.size + 2) u' L') (hs : ShortS L') :
  PS w (wd.setCell ⟨g, k * 3 + 1, none⟩ u') R q X things (bs.set k ⟨(nthB bs k).name, L', (nthB bs k).needs⟩) (rs.set k ⟨r.name, u', r.needs⟩) v1 (.slice (some ⟨g, 0, none⟩) n c) := by
 have hkr : k < rs.length := by
  rcases Nat.lt_or_ge k rs.length with h' | h'
  ·exact h'
  ·simp [List.getElem?_eq_none h'] at hr
 have hkb : k < bs.length := by rw [← h.ow.1]; exact hkr
 obtain ⟨e1, e2, e3, e4, e5, e6⟩ := h.ow.2 k r _ hr (List.getElem?_eq_getElem hkb)
 have hav := allV_atD rs k r hr
 obtain ⟨k1, k2, k3, k4, k5, k6⟩ := h.listTurn e3 gw ((hd.2 _ (mem_allV (List.mem_of_getElem? hr)).1).symm)
 have how : RowsOwn wd (w.heap.size + 2) (rs.set k ⟨r.name, u', r.needs⟩) (bs.set k ⟨(nthB bs k).name, L', (nthB bs k).needs⟩) := by
  refine ⟨by simp [h.ow.1], fun i r' x' h1 h2 => ?_⟩
  rw [List.getElem?_set] at h1 h2
  by_cases e : k = i
  ·subst e
   rw [if_pos rfl, if_pos hkr] at h1
   rw [if_pos rfl, if_pos hkb] at h2
   cases h1; cases h2
   rw [nthB_get hkb]
   exact ⟨e1, e2, ho', hs, own_ne e5 gw (pw_ne hd.1 hav.1 hav.2 (by omega)), e6⟩
  ·rw [if_neg e] at h1 h2
   obtain ⟨f1, f2, f3, f4, f5, f6⟩ := h.ow.2 i r' x' h1 h2
   have hai := allV_atD rs i r' h1
   exact ⟨f1, f2, own_ne f3 gw (pw_ne hd.1 hav.1 hai.1 (by omega)), f4, own_ne f5 gw (pw_ne hd.1 hav.1 hai.2 (by omega)), f6⟩
 obtain ⟨a', c', ee⟩ := own_shape3 k6
 have hn : n = rs.length := by simp only [Value.slice.injEq] at ee; exact ee.2.1
 subst hn
 have h3 := World.ownsRow.stored k6 (k * 3 + 1) u'
 have hgb : w.heap.size + 2 ≤ g := (k6.lt g rfl).1
 have g2 := gb_store wd g (k * 3 + 1) u'
 have hk2 : ∀ (k' : Nat) cc, some g = some k' → wd.heap[k']? = some (.cells cc 9 (0, 0)) → False := fun k' cc e hk => row_ne k6 k' cc (by rw [← e]; rfl) hk
 have hR := h.hR
 refine ⟨on_grown k1 g2 (fun k e => by cases e; omega), k2.gb g2 (fun k e => by cases e; omega), k3.kept g2 (k3.not_row rfl k6), k4.kept g2 (k4.not_row rfl k6), k5.keep g2 hk2, ?_, how.keep g2 hk2, h.hR, h.hX, Nat.le_trans h.hz (Nat.le_trans gw.size g2.size)⟩
 rw [List.length_set, ← cellsOf_has rs k r u' hr]; exact h3.1
theorem PS.row {w wc wd : World} {R q X : Nat} {things : List Str} {bs : List Batch} {rs : List Row} {v1 v2 v2' : Value} {r : Row} {x : Batch} (h : PS w wc R q X things bs rs v1 v2) (hx : RowOwn wc (w.heap.size + 2) r x) (g : wc.grownBy wd v2.ownBlock) (ho : wd.ownsRow (w.heap.size + 2) 73 3 v2' (rs ++ [r]).length (cellsOf (rs ++ [r]))) : PS w (wd.setCell ⟨X, 1, none⟩ v2') R q X things (bs ++ [x]) (rs ++ [r]) v1 v2' := by
 have hR := h.hR
 have hX := h.hX
 have hob : ∀ k, v2.ownBlock = some k → w.heap.size + 2 ≤ k := fun k e => (h.ob.lt k e).1
 have hk : ∀ (k : Nat) c, v2.ownBlock = some k → wc.heap[k]? = some (.cells c 9 (0, 0)) → False := fun k c e hk => row_ne h.ob k c e hk
 have rx1 := h.rx.kept g (h.rx.not_row rfl h.ob)
 have g2 := gb_store wd X 1 v2'
 have hk2 : ∀ (k : Nat) c, some X = some k → wd.heap[k]? = some (.cells c 9 (0, 0)) → False := fun k c e hk => by
  cases e
  rw [show wd.heap[X]? = _ from rx1] at hk
  simp at hk
 refine ⟨on_grown (on_grown h.on g (fun k e => by have := hob k e; omega)) g2 (fun k e => by cases e; omega), (h.rd.gb g (fun k e => by have := hob k e; omega)).gb g2 (fun k e => by cases e; omega), (h.rr.kept g (h.rr.not_row rfl h.ob)).kept g2 (by simp; omega), rx1.set 1 v2', (h.o1.keep g hk).keep g2 hk2, World.ownsRow.kept ho g2 (Or.inr (fun e => rx1.not_row rfl ho e.symm)), RowsOwn.snoc ((h.ow.keep g hk).keep g2 hk2) ((hx.keep g hk).keep g2 hk2), h.hR, h.hX, Nat.le_trans h.hz (Nat.le_trans g.size g2.size)⟩
end Go.Proofs.YtdafpnpfcmgfcaaGreatDoor
