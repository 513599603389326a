/- Rows of batches that a call builds. Rows that lie apart: what a call's own lists keep while another grows. The walk over the specification's l1Copy. What the specification's functions of chapter 3 share; the walk over ShareEnter. Small laws: a world that has drawn; wrapped sums. A batch's lists exchanged within a row of the call's own. Marks of a book that the program has made: no two of its lists in one row. -/
import Derived.Test.YtdafpnpfcmgfcabGreatDoorS1
import Derived.Test.YtdafpnpfcmgfcabGreatDoorMB
import Derived.Test.YtdafpnpfcmgfcabGreatDoorKA
namespace Go.Proofs.YtdafpnpfcmgfcabGreatDoor
open Go.RowKit
attribute [local go_sem] S_toList S_size S_get

/-- What lies in a batch's three cells. -/
structure Row where
  name : Str
  has : Value
  needs : Value
def Row.cells (r : Row) : List Value := [.string (S r.name), r.has, r.needs]
def cellsOf (rs : List Row) : List Value := rs.flatMap Row.cells
theorem cellsOf_length : ∀ rs : List Row, (cellsOf rs).length = rs.length * 3
  | [] => rfl
  | r :: rs => by
    have h := cellsOf_length rs
    simp only [cellsOf, List.flatMap_cons, List.length_append, List.length_cons] at *
    rw [h]; simp [Row.cells]; omega
theorem cellsOf_append (a b : List Row) : cellsOf (a ++ b) = cellsOf a ++ cellsOf b := by simp [cellsOf]
theorem cellsOf_at : ∀ (rs : List Row) (i : Nat) (r : Row), rs[i]? = some r → (cellsOf rs)[i * 3]? = some (.string (S r.name)) ∧ (cellsOf rs)[i * 3 + 1]? = some r.has ∧ (cellsOf rs)[i * 3 + 2]? = some r.needs
  | [], i, r, h => by simp at h
  | x :: rs, 0, r, h => by
    simp at h; subst h
    exact ⟨rfl, rfl, rfl⟩
  | x :: rs, i + 1, r, h => by
    have h' := cellsOf_at rs i r (by simpa using h)
    have e : cellsOf (x :: rs) = .string (S x.name) :: x.has :: x.needs :: cellsOf rs := rfl
    rw [e]
    have e3 : (i + 1) * 3 = i * 3 + 1 + 1 + 1 := by omega
    rw [e3]
    exact h'

def ShortS (l : List Str) : Prop := l.length ≤ 8796093022208 ∧ ShortL l
theorem StrsAt.short {w : World} {a : Option Addr} {ss : List Str} (h : StrsAt w a ss) : ShortS ss := ⟨h.1, fun i hi => (h.2 i hi).1⟩
theorem OwnL.at' {w : World} {base : Nat} {v : Value} {ss : List Str} (h : OwnL w base v ss) (hs : ShortS ss) : ∃ a cap, v = .slice a ss.length cap ∧ StrsAt w a ss := h.at hs.1 hs.2

/-- One batch, its lists the call's own. -/
def RowOwn (w : World) (base : Nat) (r : Row) (x : Batch) : Prop :=
  r.name = x.name ∧ x.name.length ≤ 140737488355328 ∧ OwnL w base r.has x.has ∧ ShortS x.has ∧ OwnL w base r.needs x.needs ∧ ShortS x.needs
/-- Batches, their lists the call's own. -/
def RowsOwn (w : World) (base : Nat) (rs : List Row) (bs : List Batch) : Prop := rs.length = bs.length ∧ ∀ (i : Nat) r x, rs[i]? = some r → bs[i]? = some x → RowOwn w base r x
/-- A row of batches of the call's own. -/
def OwnBs (w : World) (base : Nat) (v : Value) (bs : List Batch) : Prop := ∃ rs, w.ownsRow base 46 3 v rs.length (cellsOf rs) ∧ RowsOwn w base rs bs

theorem OwnL.keep {w w' : World} {base : Nat} {v : Value} {ss : List Str} (h : OwnL w base v ss) {row : Option Nat} (g : w.grownBy w' row) (hne : ∀ (k : Nat) c, row = some k → w.heap[k]? = some (.cells c 9 (0, 0)) → False) : OwnL w' base v ss := by
  refine ⟨h.1, ?_⟩
  rcases h.2 with h2 | ⟨b, cap, cur, hv, hb, hg, r⟩
  · exact Or.inl h2
  · refine Or.inr ⟨b, cap, cur, hv, hb, ?_, r⟩
    rw [g.block b (Array.getElem?_eq_some_iff.1 hg).1 (fun e => hne b cur e.symm hg)]; exact hg
theorem RowOwn.keep {w w' : World} {base : Nat} {r : Row} {x : Batch} (h : RowOwn w base r x) {row : Option Nat} (g : w.grownBy w' row) (hne : ∀ (k : Nat) c, row = some k → w.heap[k]? = some (.cells c 9 (0, 0)) → False) : RowOwn w' base r x :=
  ⟨h.1, h.2.1, h.2.2.1.keep g hne, h.2.2.2.1, h.2.2.2.2.1.keep g hne, h.2.2.2.2.2⟩
theorem RowsOwn.keep {w w' : World} {base : Nat} {rs : List Row} {bs : List Batch} (h : RowsOwn w base rs bs) {row : Option Nat} (g : w.grownBy w' row) (hne : ∀ (k : Nat) c, row = some k → w.heap[k]? = some (.cells c 9 (0, 0)) → False) : RowsOwn w' base rs bs :=
  ⟨h.1, fun i r x hr hx => (h.2 i r x hr hx).keep g hne⟩
/-- The row's own block is no list's. -/
theorem row_ne {w : World} {base : Nat} {v : Value} {n : Nat} {xs : List Value} (h : w.ownsRow base 46 3 v n xs) (k : Nat) (c : Array Value) (e : v.ownBlock = some k) (hk : w.heap[k]? = some (.cells c 9 (0, 0))) : False := by
  rcases h.2 with ⟨rfl, _⟩ | ⟨g, cap, cur, rfl, _, hg, _⟩
  · simp [Value.ownBlock] at e
  · have e' : g = k := by simpa [Value.ownBlock] using e
    subst e'
    rw [hg] at hk; simp at hk
theorem gb_none {w w' : World} (e : Ext w w') : w.grownBy w' none := ⟨e.os, e.tape, e.output, e.size, fun k hk _ => e.block k hk⟩
theorem row_ext {w w' : World} {base : Nat} {v : Value} {n : Nat} {xs : List Value} {t : TypeId} {z : Nat} (h : w.ownsRow base t z v n xs) (e : Ext w w') : w'.ownsRow base t z v n xs := by
  refine World.ownsRow.kept h (row := none) (gb_none e) ?_
  cases v.ownBlock <;> simp
theorem RowsOwn.ext {w w' : World} {base : Nat} {rs : List Row} {bs : List Batch} (h : RowsOwn w base rs bs) (e : Ext w w') : RowsOwn w' base rs bs := h.keep (gb_none e) (fun k c h => by cases h)
theorem OwnBs.ext {w w' : World} {base : Nat} {v : Value} {bs : List Batch} (h : OwnBs w base v bs) (e : Ext w w') : OwnBs w' base v bs := by
  obtain ⟨rs, h1, h2⟩ := h
  exact ⟨rs, row_ext h1 e, h2.ext e⟩
theorem OwnBs.nil (w : World) (base : Nat) : OwnBs w base (.slice none 0 0) [] := ⟨[], World.ownsRow_nil _ _ _ _, rfl, fun i r x h => by simp at h⟩
theorem OwnBs.len {w : World} {base : Nat} {v : Value} {bs : List Batch} (h : OwnBs w base v bs) : ∃ a cap, v = .slice a bs.length cap := by
  obtain ⟨rs, h1, h2⟩ := h
  rcases h1.2 with ⟨rfl, h0⟩ | ⟨g, cap, cur, rfl, _⟩
  · exact ⟨none, 0, by rw [← h2.1, h0]⟩
  · exact ⟨_, cap, by rw [← h2.1]⟩

/-- The cells of such a row. -/
theorem own_cell {w : World} {base : Nat} {t : TypeId} {z : Nat} {v : Value} {n : Nat} {xs : List Value} (h : w.ownsRow base t z v n xs) {j : Nat} {u : Value} (hj : xs[j]? = some u) : ∃ g cap, v = .slice (some ⟨g, 0, none⟩) n cap ∧ base ≤ g ∧ w.cell? ⟨g, j, none⟩ = some u ∧ w.frozen? ⟨g, j, none⟩ = false := by
  have hlt : j < xs.length := by
    rcases Nat.lt_or_ge j xs.length with h' | h'
    · exact h'
    · simp [List.getElem?_eq_none h'] at hj
  rcases h.2 with ⟨rfl, h0⟩ | ⟨g, cap, cur, rfl, hb, hg, hc, hm, hs, ht⟩
  · have := h.1; rw [h0] at this; omega
  · refine ⟨g, cap, rfl, hb, ?_, ?_⟩
    · rw [← ht, List.getElem?_take] at hj
      split at hj
      · unfold World.cell?
        simp only [hg]
        rw [← Array.getElem?_toList]; exact hj
      · simp at hj
    · unfold World.frozen?
      simp [hg]

theorem OwnBs.at {w : World} {base : Nat} {v : Value} {bs : List Batch} (h : OwnBs w base v bs) (hn : bs.length ≤ 2199023255552) : ∃ a cap, v = .slice a bs.length cap ∧ BatchesAt w a bs := by
  obtain ⟨a, cap, rfl⟩ := h.len
  refine ⟨a, cap, rfl, hn, fun i hi => ?_⟩
  obtain ⟨rs, h1, h2⟩ := h
  have hir : i < rs.length := by rw [h2.1]; exact hi
  have hr := List.getElem?_eq_getElem hir
  have hx := List.getElem?_eq_getElem hi
  obtain ⟨k0, k1, k2⟩ := cellsOf_at rs i _ hr
  obtain ⟨e1, e2, e3, e4, e5, e6⟩ := h2.2 i _ _ hr hx
  obtain ⟨g, cap', ev, _, c0, _⟩ := own_cell h1 k0
  obtain ⟨g', cap'', ev', _, c1, _⟩ := own_cell h1 k1
  obtain ⟨g'', cap''', ev'', _, c2, _⟩ := own_cell h1 k2
  simp only [Value.slice.injEq] at ev ev' ev''
  obtain ⟨rfl, _⟩ := ev
  obtain ⟨e', _⟩ := ev'
  obtain ⟨e'', _⟩ := ev''
  simp only [Option.some.injEq, Addr.mk.injEq, and_true] at e' e''
  subst e'
  subst e''
  obtain ⟨a1, c1', f1, s1⟩ := e3.at' e4
  obtain ⟨a2, c2', f2, s2⟩ := e5.at' e6
  refine ⟨g, 0, rfl, ?_⟩
  rw [nthB_get hi]
  refine ⟨e2, a1, c1', a2, c2', ?_, ?_, ?_, s1, s2⟩
  · rw [Nat.zero_add, c0, e1]
  · rw [Nat.zero_add, c1, f1]
  · rw [Nat.zero_add, c2, f2]

theorem RowsOwn.snoc {w : World} {base : Nat} {rs : List Row} {bs : List Batch} {r : Row} {x : Batch} (h : RowsOwn w base rs bs) (hr : RowOwn w base r x) : RowsOwn w base (rs ++ [r]) (bs ++ [x]) := by
  refine ⟨by simp [h.1], fun i r' x' h1 h2 => ?_⟩
  rcases Nat.lt_or_ge i rs.length with hi | hi
  · rw [List.getElem?_append_left hi] at h1
    rw [List.getElem?_append_left (by rw [← h.1]; exact hi)] at h2
    exact h.2 i r' x' h1 h2
  · rw [List.getElem?_append_right hi] at h1
    rw [List.getElem?_append_right (by rw [← h.1]; exact hi), ← h.1] at h2
    cases hk : i - rs.length with
    | zero => rw [hk] at h1 h2; simp at h1 h2; subst h1; subst h2; exact hr
    | succ m => rw [hk] at h1; simp at h1

theorem OwnBs.shape {w : World} {base : Nat} {a : Option Addr} {n c : Nat} {bs : List Batch} (h : OwnBs w base (.slice a n c) bs) : (a = none ∧ n = 0 ∧ c = 0) ∨ ∃ g, a = some ⟨g, 0, none⟩ ∧ n ≤ c ∧ c ≤ maxLen ∧ base ≤ g := by
  obtain ⟨rs, h1, h2⟩ := h
  rcases h1.2 with ⟨e, h0⟩ | ⟨g, cap, cur, e, hb, _, hc, hm, _⟩
  · simp only [Value.slice.injEq] at e
    exact Or.inl e
  · simp only [Value.slice.injEq] at e
    obtain ⟨rfl, rfl, rfl⟩ := e
    exact Or.inr ⟨g, rfl, hc, hm, hb⟩
theorem cellsOf_take {rs : List Row} {k j : Nat} {u : Value} (h : (cellsOf (rs.take k))[j]? = some u) : (cellsOf rs)[j]? = some u := by
  have e : cellsOf rs = cellsOf (rs.take k) ++ cellsOf (rs.drop k) := by rw [← cellsOf_append, List.take_append_drop]
  have hlt : j < (cellsOf (rs.take k)).length := by
    rcases Nat.lt_or_ge j (cellsOf (rs.take k)).length with h' | h'
    · exact h'
    · simp [List.getElem?_eq_none h'] at h
  rw [e, List.getElem?_append_left hlt]; exact h
theorem cellsOf_drop {rs : List Row} {k j : Nat} {u : Value} (hk : k ≤ rs.length) (h : (cellsOf (rs.drop k))[j]? = some u) : (cellsOf rs)[k * 3 + j]? = some u := by
  have e : cellsOf rs = cellsOf (rs.take k) ++ cellsOf (rs.drop k) := by rw [← cellsOf_append, List.take_append_drop]
  have hl : (cellsOf (rs.take k)).length = k * 3 := by rw [cellsOf_length, List.length_take]; omega
  rw [e, List.getElem?_append_right (by omega), hl]
  have e' : k * 3 + j - k * 3 = j := by omega
  rw [e']; exact h
theorem RowsOwn.take {w : World} {base : Nat} {rs : List Row} {bs : List Batch} (h : RowsOwn w base rs bs) (k : Nat) : RowsOwn w base (rs.take k) (bs.take k) :=
  ⟨by rw [List.length_take, List.length_take, h.1], fun i r x hr hx => by
    rw [List.getElem?_take] at hr hx
    split at hr
    · rename_i hi
      rw [if_pos hi] at hx
      exact h.2 i r x hr hx
    · simp at hr⟩
theorem RowsOwn.drop {w : World} {base : Nat} {rs : List Row} {bs : List Batch} (h : RowsOwn w base rs bs) (k : Nat) : RowsOwn w base (rs.drop k) (bs.drop k) :=
  ⟨by rw [List.length_drop, List.length_drop, h.1], fun i r x hr hx => by
    rw [List.getElem?_drop] at hr hx
    exact h.2 _ r x hr hx⟩
/-- The rows of a row of the call's own, and where their cells lie. -/
theorem OwnBs.rows {w : World} {base : Nat} {a : Option Addr} {n c : Nat} {bs : List Batch} (h : OwnBs w base (.slice a n c) bs) : ∃ rs, RowsOwn w base rs bs ∧ ∀ (j : Nat) u, (cellsOf rs)[j]? = some u → ∃ g, a = some ⟨g, 0, none⟩ ∧ w.cell? ⟨g, j, none⟩ = some u := by
  obtain ⟨rs, h1, h2⟩ := h
  refine ⟨rs, h2, fun j u hj => ?_⟩
  obtain ⟨g, cap, e, _, hc, _⟩ := own_cell h1 hj
  simp only [Value.slice.injEq] at e
  exact ⟨g, e.1, hc⟩
theorem OwnBs.made (w : World) (base : Nat) (hb : base ≤ w.heap.size) : OwnBs (w.alloc (.cells #[] 46)) base (.slice (some ⟨w.heap.size, 0, none⟩) 0 0) [] :=
  ⟨[], World.ownsRow_made (base := base) (e := 46) (size := 3) w #[] 0 hb (by unfold maxLen; omega) (by simp), rfl, fun i r x h => by simp at h⟩
theorem RowsOwn.low {w : World} {base base' : Nat} {rs : List Row} {bs : List Batch} (h : RowsOwn w base rs bs) (hb : base' ≤ base) : RowsOwn w base' rs bs :=
  ⟨h.1, fun i r x hr hx => by
    obtain ⟨e1, e2, e3, e4, e5, e6⟩ := h.2 i r x hr hx
    exact ⟨e1, e2, e3.low hb, e4, e5.low hb, e6⟩⟩
theorem OwnBs.low {w : World} {base base' : Nat} {v : Value} {bs : List Batch} (h : OwnBs w base v bs) (hb : base' ≤ base) : OwnBs w base' v bs := by
  obtain ⟨rs, k1, k2⟩ := h
  refine ⟨rs, ⟨k1.1, ?_⟩, k2.low hb⟩
  rcases k1.2 with k3 | ⟨g, cap, cur, hv, hg, r⟩
  · exact Or.inl k3
  · exact Or.inr ⟨g, cap, cur, hv, Nat.le_trans hb hg, r⟩
/-- A store into a record that is neither. -/
theorem OwnBs.stored {w : World} {base : Nat} {v : Value} {bs : List Batch} (h : OwnBs w base v bs) {X : Nat} {t : TypeId} {l : List Value} (hr : Rec w X t l) (h1 : (t == 9) = false) (h2 : (t == 46) = false) (i : Nat) (u : Value) : OwnBs (w.setCell ⟨X, i, none⟩ u) base v bs := by
  obtain ⟨rs, k1, k2⟩ := h
  refine ⟨rs, World.ownsRow.kept k1 (gb_store w X i u) (Or.inr (fun e => hr.not_row h2 k1 e.symm)), k2.keep (gb_store w X i u) (fun k c e hk => ?_)⟩
  simp only [Option.some.injEq] at e
  subst e
  rw [show w.heap[X]? = _ from hr] at hk
  simp only [Option.some.injEq, Obj.cells.injEq] at hk
  simp [hk.2.1] at h1
theorem OwnL.stored {w : World} {base : Nat} {v : Value} {ss : List Str} (h : OwnL w base v ss) {X : Nat} {t : TypeId} {l : List Value} (hr : Rec w X t l) (h1 : (t == 9) = false) (i : Nat) (u : Value) : OwnL (w.setCell ⟨X, i, none⟩ u) base v ss := by
  refine h.keep (gb_store w X i u) (fun k c e hk => ?_)
  simp only [Option.some.injEq] at e
  subst e
  rw [show w.heap[X]? = _ from hr] at hk
  simp only [Option.some.injEq, Obj.cells.injEq] at hk
  simp [hk.2.1] at h1
theorem RowsOwn.one {w : World} {base : Nat} {r : Row} {x : Batch} (h : RowOwn w base r x) : RowsOwn w base [r] [x] :=
  RowsOwn.snoc (rs := []) (bs := []) ⟨rfl, fun i r x h => by simp at h⟩ h
theorem one_cells (w : World) (t : TypeId) (r : Row) (j : Nat) (u : Value) (hj : (cellsOf [r])[j]? = some u) : ∃ ad, some (⟨w.heap.size, 0, none⟩ : Addr) = some ad ∧ (w.alloc (.cells #[.string (S r.name), r.has, r.needs] t)).cell? (ad.add j) = some u :=
  ⟨_, rfl, by rw [add_plain, Nat.zero_add]; exact (Rec.new w t (cellsOf [r])).cell hj⟩
theorem take_bs {bs : List Batch} {k : Nat} (h : k < bs.length) : bs.take (k + 1) = bs.take k ++ [nthB bs k] := by
  rw [List.take_succ_eq_append_getElem h, nthB_get h]

theorem info_batch : ∃ i, Tryz.prog.info? 46 = some i ∧ i.zero = some (.agg #[.string (S []), .slice none 0 0, .slice none 0 0]) ∧ i.size = 3 ∧ i.bytes = 64 := by
  obtain ⟨i, hi, hzz⟩ := Option.map_eq_some_iff.1 Tryz.infoBatch
  simp only [Prod.mk.injEq] at hzz
  exact ⟨i, hi, hzz.1, hzz.2.1, hzz.2.2⟩

/-- Rows of batches appended to a row of the call's own. -/
theorem wp_rows {o : Oper} {a : Act} {w : World} {K : Act → World → Prop} {Q : Exit → Act → World → Prop} (s x : Operand)
    (ho : o.op = .call { callee := .builtin .append, args := #[s, x], argTypes := #[28, 28] })
    {base : Nat} {v : Value} {L : List Batch} (hs : a.eval s = v) (hown : OwnBs w base v L) {src : Option Addr} {m c : Nat} {M : List Batch} {rs : List Row} (hx : a.eval x = .slice src m c) (hm : M.length = m)
    (hrs : ∀ j u, (cellsOf rs)[j]? = some u → ∃ ad, src = some ad ∧ w.cell? (ad.add j) = some u) (hM : RowsOwn w base rs M)
    (hlen : L.length + M.length ≤ 2199023255552) (hbase : base ≤ w.heap.size)
    (h : ∀ v' w', OwnBs w' base v' (L ++ M) → w.grownBy w' v.ownBlock → (v'.ownBlock = v.ownBlock ∨ v'.ownBlock = some w.heap.size) → K (a.put o.dst v') w') : o.wp Tryz.prog a w K Q := by
  obtain ⟨i0, hi, hz0, hz1, hz2⟩ := info_batch
  obtain ⟨rs0, h1, h2⟩ := hown
  have hl1 := h2.1
  have hl2 := hM.1
  have hone : ∀ u ∈ cellsOf rs, u.oneCell' = true := by
    intro u hu
    obtain ⟨r, hr, hur⟩ := List.mem_flatMap.1 hu
    obtain ⟨i, hi, e⟩ := List.getElem_of_mem hr
    have hiM : i < M.length := by rw [← hl2]; exact hi
    obtain ⟨_, _, e3, e4, e5, e6⟩ := hM.2 i r _ (by rw [List.getElem?_eq_getElem hi, e]) (List.getElem?_eq_getElem hiM)
    obtain ⟨a1, c1, f1, _⟩ := e3.at' e4
    obtain ⟨a2, c2, f2, _⟩ := e5.at' e6
    simp only [Row.cells, List.mem_cons, List.not_mem_nil, or_false] at hur
    rcases hur with rfl | rfl | rfl
    · rfl
    · rw [f1]; rfl
    · rw [f2]; rfl
  refine wp_app w s x 28 ho base 46 i0 _ 3 64 Tryz.underlying28 hi hz0 hz1 hz2 rfl (by decide) v _ _ hs h1 src m c (cellsOf rs) hx (by rw [cellsOf_length, hl2, hm]) hrs hone (by unfold maxLen; omega) (by omega) hbase (fun v' w' g2 g3 g4 => h v' w' ⟨rs0 ++ rs, ?_, ?_⟩ g3 g4)
  · rw [cellsOf_append, List.length_append, hl2, hm]; exact g2
  · have hne := fun k c => row_ne h1 k c
    have k1 := h2.keep g3 hne
    have k2 := hM.keep g3 hne
    refine ⟨by rw [List.length_append, List.length_append, k1.1, k2.1], fun i r y hr hy => ?_⟩
    rcases Nat.lt_or_ge i rs0.length with hi | hi
    · rw [List.getElem?_append_left hi] at hr
      rw [List.getElem?_append_left (by rw [← hl1]; exact hi)] at hy
      exact k1.2 i r y hr hy
    · rw [List.getElem?_append_right hi] at hr
      rw [List.getElem?_append_right (by rw [← hl1]; exact hi), ← hl1] at hy
      exact k2.2 _ r y hr hy
end Go.Proofs.YtdafpnpfcmgfcabGreatDoor
namespace Go.Proofs.YtdafpnpfcmgfcabGreatDoor
open Go.RowKit
attribute [local go_sem] S_toList S_size S_get

theorem own_far {w w' : World} {base : Nat} {t : TypeId} {z : Nat} {v : Value} {n : Nat} {xs : List Value} (h : w.ownsRow base t z v n xs) {row : Option Nat} (g : w.grownBy w' row) (hr : ∀ k, row = some k → k < base) : w'.ownsRow base t z v n xs := by
  refine World.ownsRow.kept h g ?_
  cases hv : v.ownBlock with
  | none => exact Or.inl rfl
  | some b =>
    refine Or.inr (fun e => ?_)
    have h1 := (h.lt b hv).1
    have h2 := hr b e.symm
    omega
theorem OwnL.far {w w' : World} {base : Nat} {v : Value} {L : List Str} (h : OwnL w base v L) {row : Option Nat} (g : w.grownBy w' row) (hr : ∀ k, row = some k → k < base) : OwnL w' base v L := own_far h g hr
theorem OwnBs.far {w w' : World} {base : Nat} {v : Value} {bs : List Batch} (h : OwnBs w base v bs) {row : Option Nat} (g : w.grownBy w' row) (hr : ∀ k, row = some k → k < base) : OwnBs w' base v bs := by
  obtain ⟨rs, h1, h2⟩ := h
  exact ⟨rs, own_far h1 g hr, h2.1, fun i r x hri hx => by
    obtain ⟨e1, e2, e3, e4, e5, e6⟩ := h2.2 i r x hri hx
    exact ⟨e1, e2, e3.far g hr, e4, e5.far g hr, e6⟩⟩
/-- Two values lie in two rows. -/
def NE (u v : Value) : Prop := ∀ g, u.ownBlock = some g → v.ownBlock ≠ some g
theorem NE.symm {u v : Value} (h : NE u v) : NE v u := fun g h1 h2 => h g h2 h1
theorem NE.nil (u : Value) : NE u (.slice none 0 0) := fun g _ h => by simp [Value.ownBlock] at h
theorem NE.next {w : World} {u u' v : Value} {base n : Nat} {t : TypeId} {z : Nat} {xs : List Value} (h : NE u v) (ho : w.ownsRow base t z v n xs) (hu : u'.ownBlock = u.ownBlock ∨ u'.ownBlock = some w.heap.size) : NE u' v := by
  intro g hg hv
  rcases hu with hu | hu
  · exact h g (by rw [← hu]; exact hg) hv
  · rw [hu] at hg
    cases hg
    have := (ho.lt _ hv).2
    omega
theorem own_ne {w w' : World} {u v : Value} {base n : Nat} {t : TypeId} {z : Nat} {xs : List Value} (h : w.ownsRow base t z v n xs) (g : w.grownBy w' u.ownBlock) (ne : NE u v) : w'.ownsRow base t z v n xs := by
  refine World.ownsRow.kept h g ?_
  cases hv : v.ownBlock with
  | none => exact Or.inl rfl
  | some b => exact Or.inr (fun e => ne b e.symm hv)
theorem RowsOwn.ne {w w' : World} {u : Value} {base : Nat} {rs : List Row} {bs : List Batch} (h : RowsOwn w base rs bs) (g : w.grownBy w' u.ownBlock) (hn : ∀ r ∈ rs, NE u r.has ∧ NE u r.needs) : RowsOwn w' base rs bs :=
  ⟨h.1, fun i r x hr hx => by
    obtain ⟨e1, e2, e3, e4, e5, e6⟩ := h.2 i r x hr hx
    have hm := hn r (List.mem_of_getElem? hr)
    exact ⟨e1, e2, own_ne e3 g hm.1, e4, own_ne e5 g hm.2, e6⟩⟩
theorem RowsOwn.far {w w' : World} {base : Nat} {rs : List Row} {bs : List Batch} (h : RowsOwn w base rs bs) {row : Option Nat} (g : w.grownBy w' row) (hr : ∀ k, row = some k → k < base) : RowsOwn w' base rs bs :=
  ⟨h.1, fun i r x hri hx => by
    obtain ⟨e1, e2, e3, e4, e5, e6⟩ := h.2 i r x hri hx
    exact ⟨e1, e2, e3.far g hr, e4, e5.far g hr, e6⟩⟩
theorem RowsOwn.mem {w : World} {base : Nat} {rs : List Row} {bs : List Batch} (h : RowsOwn w base rs bs) {r : Row} (hr : r ∈ rs) : ∃ x, OwnL w base r.has x ∧ ∃ y, OwnL w base r.needs y := by
  obtain ⟨i, hi, e⟩ := List.getElem_of_mem hr
  have hx : i < bs.length := by rw [← h.1]; exact hi
  obtain ⟨_, _, e3, _, e5, _⟩ := h.2 i r _ (by rw [List.getElem?_eq_getElem hi, e]) (List.getElem?_eq_getElem hx)
  exact ⟨_, e3, _, e5⟩

theorem NE.older {w : World} {u v : Value} {b1 n1 z1 b2 n2 z2 : Nat} {t1 t2 : TypeId} {xs1 xs2 : List Value} {w' : World} (h1 : w.ownsRow b1 t1 z1 u n1 xs1) (h2 : w'.ownsRow b2 t2 z2 v n2 xs2) (hb : w.heap.size ≤ b2) : NE u v := fun g e1 e2 => by
  have := (h1.lt g e1).2
  have := (h2.lt g e2).1
  omega
/-- One batch appended to a row of the call's own; the rows as they are. -/
theorem wpList_row {ops : Array Oper} {rest : List Oper} {o : Oper} {a : Act} {w : World} {Q : Exit → Act → World → Prop} (hgd : o.guard = none) (s x : Operand)
    (ho : o.op = .call { callee := .builtin .append, args := #[s, x], argTypes := #[28, 28] })
    {base : Nat} {v : Value} {rs : List Row} (hs : a.eval s = v) (hown : w.ownsRow base 46 3 v rs.length (cellsOf rs)) {src : Option Addr} {c : Nat} {r : Row} (hx : a.eval x = .slice src 1 c)
    (hrs : ∀ (j : Nat) u, (cellsOf [r])[j]? = some u → ∃ ad, src = some ad ∧ w.cell? (ad.add j) = some u) (h1 : ∀ u ∈ cellsOf [r], u.oneCell' = true) (hlen : rs.length ≤ 1000000) (hbase : base ≤ w.heap.size)
    (h : ∀ v' w', w'.ownsRow base 46 3 v' (rs ++ [r]).length (cellsOf (rs ++ [r])) → w.grownBy w' v.ownBlock → (v'.ownBlock = v.ownBlock ∨ v'.ownBlock = some w.heap.size) → wpList Tryz.prog ops Q rest (a.put o.dst v') w') : wpList Tryz.prog ops Q (o :: rest) a w := by
  obtain ⟨i0, hi, hz0, hz1, hz2⟩ := info_batch
  refine wpList_plain hgd fun _ hK => wp_app w s x 28 ho base 46 i0 _ 3 64 Tryz.underlying28 hi hz0 hz1 hz2 rfl (by decide) v _ _ hs hown src 1 c (cellsOf [r]) hx (by rw [cellsOf_length]; rfl) hrs h1 (by unfold maxLen; omega) (by omega) hbase (fun v' w' g2 g3 g4 => hK _ _ (h v' w' ?_ g3 g4))
  rw [cellsOf_append, List.length_append]; exact g2
theorem own_shape3 {w : World} {base : Nat} {t : TypeId} {z : Nat} {v : Value} {n : Nat} {xs : List Value} (h : w.ownsRow base t z v n xs) : ∃ a c, v = .slice a n c := by
  rcases h.2 with ⟨rfl, h0⟩ | ⟨g, cap, cur, rfl, _⟩
  · exact ⟨none, 0, by rw [h0]⟩
  · exact ⟨_, cap, rfl⟩
theorem row_one {w : World} {base : Nat} {r : Row} {x : Batch} (h : RowOwn w base r x) : ∀ u ∈ cellsOf [r], u.oneCell' = true := by
  intro u hu
  obtain ⟨_, _, e3, e4, e5, e6⟩ := h
  obtain ⟨a1, c1, f1, _⟩ := e3.at' e4
  obtain ⟨a2, c2, f2, _⟩ := e5.at' e6
  simp only [cellsOf, List.flatMap_cons, List.flatMap_nil, List.append_nil, Row.cells, List.mem_cons, List.not_mem_nil, or_false] at hu
  rcases hu with rfl | rfl | rfl
  · rfl
  · rw [f1]; rfl
  · rw [f2]; rfl
/-- All the lists of some batches. -/
def allV (rs : List Row) : List Value := rs.flatMap fun r => [r.has, r.needs]
theorem allV_snoc (rs : List Row) (r : Row) : allV (rs ++ [r]) = allV rs ++ [r.has, r.needs] := by simp [allV]
theorem mem_allV {rs : List Row} {r : Row} (h : r ∈ rs) : r.has ∈ allV rs ∧ r.needs ∈ allV rs := by
  constructor
  · exact List.mem_flatMap.2 ⟨r, h, by simp⟩
  · exact List.mem_flatMap.2 ⟨r, h, by simp⟩
/-- No two lists share a row. -/
def Dis (v1 : Value) (rs : List Row) : Prop := (allV rs).Pairwise NE ∧ ∀ v ∈ allV rs, NE v1 v
theorem Dis.snoc {v1 : Value} {rs : List Row} {r : Row} (h : Dis v1 rs) (h1 : ∀ v ∈ allV rs, NE v r.has ∧ NE v r.needs) (h2 : NE r.has r.needs) (h3 : NE v1 r.has ∧ NE v1 r.needs) : Dis v1 (rs ++ [r]) := by
  refine ⟨?_, fun v hv => ?_⟩
  · rw [allV_snoc, List.pairwise_append]
    refine ⟨h.1, by simp [h2], fun a ha b hb => ?_⟩
    simp only [List.mem_cons, List.not_mem_nil, or_false] at hb
    rcases hb with rfl | rfl
    · exact (h1 a ha).1
    · exact (h1 a ha).2
  · rw [allV_snoc, List.mem_append] at hv
    rcases hv with hv | hv
    · exact h.2 v hv
    · simp only [List.mem_cons, List.not_mem_nil, or_false] at hv
      rcases hv with rfl | rfl
      · exact h3.1
      · exact h3.2
theorem RowsOwn.memV {w : World} {base : Nat} {rs : List Row} {bs : List Batch} (h : RowsOwn w base rs bs) {v : Value} (hv : v ∈ allV rs) : ∃ L, OwnL w base v L := by
  obtain ⟨r, hr, hv⟩ := List.mem_flatMap.1 hv
  obtain ⟨_, k1, _, k2⟩ := h.mem hr
  simp only [List.mem_cons, List.not_mem_nil, or_false] at hv
  rcases hv with rfl | rfl
  · exact ⟨_, k1⟩
  · exact ⟨_, k2⟩
theorem wp_row {o : Oper} {a : Act} {w : World} {K : Act → World → Prop} {Q : Exit → Act → World → Prop} (s x : Operand)
    (ho : o.op = .call { callee := .builtin .append, args := #[s, x], argTypes := #[28, 28] })
    {base : Nat} {v : Value} {rs : List Row} (hs : a.eval s = v) (hown : w.ownsRow base 46 3 v rs.length (cellsOf rs)) {src : Option Addr} {c : Nat} {r : Row} (hx : a.eval x = .slice src 1 c)
    (hrs : ∀ (j : Nat) u, (cellsOf [r])[j]? = some u → ∃ ad, src = some ad ∧ w.cell? (ad.add j) = some u) (h1 : ∀ u ∈ cellsOf [r], u.oneCell' = true) (hlen : rs.length + 1 ≤ 2199023255552) (hbase : base ≤ w.heap.size)
    (h : ∀ v' w', w'.ownsRow base 46 3 v' (rs ++ [r]).length (cellsOf (rs ++ [r])) → w.grownBy w' v.ownBlock → (v'.ownBlock = v.ownBlock ∨ v'.ownBlock = some w.heap.size) → K (a.put o.dst v') w') : o.wp Tryz.prog a w K Q := by
  obtain ⟨i0, hi, hz0, hz1, hz2⟩ := info_batch
  refine wp_app w s x 28 ho base 46 i0 _ 3 64 Tryz.underlying28 hi hz0 hz1 hz2 rfl (by decide) v _ _ hs hown src 1 c (cellsOf [r]) hx (by rw [cellsOf_length]; rfl) hrs h1 (by unfold maxLen; omega) (by omega) hbase (fun v' w' g2 g3 g4 => h v' w' ?_ g3 g4)
  rw [cellsOf_append, List.length_append]; exact g2

end Go.Proofs.YtdafpnpfcmgfcabGreatDoor
namespace Go.Proofs.YtdafpnpfcmgfcabGreatDoor
open Go.RowKit
attribute [local go_sem] S_toList S_size S_get

set_option maxRecDepth 100000 in
set_option maxHeartbeats 1000000 in
theorem l1Copy_any (b : Book) (a1 a2 : Option Addr) (c1 c2 : Nat) (w : World) (hb : BookAt w a1 a2 b) :
    Calls Tryz.prog 23 #[.agg #[.slice a1 b.things.length c1, .slice a2 b.batches.length c2]] w fun e w' =>
      ∃ v1 v2, e = .returned (.agg #[v1, v2]) ∧ Ext w w' ∧ OwnL w' w.heap.size v1 b.things ∧ OwnBs w' w.heap.size v2 b.batches := by
  have hn := hb.2.1
  have e2 : ∀ o1 o2, Ext w ((w.alloc o1).alloc o2) := fun o1 o2 => ((Below.refl _ _).alloc (Nat.le_refl _) _).alloc (by simp) _
  go_enter Tryz.func23, Tryz.ntmps23
  go_wp2_with fail
  refine (l1Names_any _ _ _ _ (hb.1.ext (e2 _ _))).mono ?_
  rintro e w1 ⟨v1, rfl, hE1, ho1⟩
  obtain ⟨x1, y1, rfl⟩ := own_sl ho1
  have HE1 := hid (Ext.tr (e2 _ _) hE1)
  have HO1 := hid ho1
  have hx0 : w1.cell? ⟨w.heap.size, 0, none⟩ = some (.slice a1 b.things.length c1) := (hE1.cell (p := ⟨w.heap.size, 0, none⟩) (by simp; omega)).trans (by simp)
  have hx1 : w1.cell? ⟨w.heap.size, 1, none⟩ = some (.slice a2 b.batches.length c2) := (hE1.cell (p := ⟨w.heap.size, 1, none⟩) (by simp; omega)).trans (by simp)
  have HR2 : Hid (Rec w1 (w.heap.size + 1) 30 [.slice none 0 0, .slice none 0 0]) := by
    have h := (Rec.new (w.alloc (.cells #[.slice a1 b.things.length c1, .slice a2 b.batches.length c2] 30)) 30 [.slice none 0 0, .slice none 0 0]).ext hE1
    have h' : Rec w1 (w.heap.size + 1) 30 [.slice none 0 0, .slice none 0 0] := by simpa using h
    exact h'
  have hz1 := hE1.size
  simp at hz1
  clear hE1 ho1
  go_wp2_with fail
  have HR1 : Hid (Rec (w1.alloc (.cells #[.slice x1 b.things.length y1, .slice none 0 0] 30)) w1.heap.size 30 [.slice x1 b.things.length y1, .slice none 0 0]) := Rec.new w1 _ _
  have HB1 : Hid (Below w1.heap.size w1 (w1.alloc (.cells #[.slice x1 b.things.length y1, .slice none 0 0] 30))) := (Below.refl _ _).alloc (Nat.le_refl _) _
  go_loopw [4] (fun i wr => ∃ (k : Nat) (v2 : Value), k ≤ b.batches.length ∧ i = .int .i64 k ∧ Below w1.heap.size w1 wr ∧ Rec wr w1.heap.size 30 [.slice x1 b.things.length y1, v2] ∧ OwnBs wr (w1.heap.size + 1) v2 (b.batches.take k)) (fun i _ => b.batches.length - (intOf i).toNat)
  case atStart => exact ⟨0, _, Nat.zero_le _, rfl, HB1.out, HR1.out, by simpa using OwnBs.nil _ _⟩
  case round =>
    clear HR1 HB1
    obtain ⟨k, v2, hk, rfl, hbel, hrec, hown⟩ := hrel
    have hy0 : wr.cell? ⟨w.heap.size, 0, none⟩ = some (.slice a1 b.things.length c1) := (hbel.cell (p := ⟨w.heap.size, 0, none⟩) (by simp; omega)).trans hx0
    have hy1 : wr.cell? ⟨w.heap.size, 1, none⟩ = some (.slice a2 b.batches.length c2) := (hbel.cell (p := ⟨w.heap.size, 1, none⟩) (by simp; omega)).trans hx1
    have hb' := hb.ext (Ext.tr HE1.out hbel)
    have HB := hid hbel
    have HR := hid hrec
    have HO := hid hown
    clear hbel hown
    by_cases hlt : k < b.batches.length
    · obtain ⟨ba, oa, rfl, hl, d1, g1, d2, g2, p0, p1, p2, s1, s2⟩ := hb'.2.2 k hlt
      obtain ⟨av, cv, rfl⟩ := HO.out.len
      have hlk : (b.batches.take k).length = k := by simp; omega
      have hlk1 : (b.batches.take k ++ [nthB b.batches k]).length = k + 1 := by rw [List.length_append, hlk]; rfl
      rw [hlk] at HO HR hrec
      have hc1 := hrec.cell (i := 1) rfl
      clear hrec
      go_wp2_with fail
      refine wp_region_T (fun w' => w'.cell? ⟨w1.heap.size, 1, none⟩ = some (.slice av k cv) ∧ w'.cell? ⟨w.heap.size, 1, none⟩ = some (.slice (some ⟨ba, oa, none⟩) b.batches.length c2) ∧ w'.cell? ⟨ba, oa + k * 3, none⟩ = some (.string (S (nthB b.batches k).name)) ∧ w'.cell? ⟨ba, oa + k * 3 + 1, none⟩ = some (.slice d1 (nthB b.batches k).has.length g1) ∧ w'.cell? ⟨ba, oa + k * 3 + 2, none⟩ = some (.slice d2 (nthB b.batches k).needs.length g2)) 26 (by kernel_rfl) ⟨hc1, hy1, p0, p1, p2⟩ (fun hS => ?_)
      refine wpT_take 0 (v := ?_) rfl rfl (by kernel_rfl) (by kernel_rfl) (by kernel_rfl) (by kernel_rfl) (fun _ _ _ h => h) hS rfl (by intro w0 hw0; (try dsimp only at hw0); go_simp; try rfl) ?_
      try simp only [List.set]
      refine wpT_take 1 (v := ?_) rfl rfl (by kernel_rfl) (by kernel_rfl) (by kernel_rfl) (by kernel_rfl) (fun _ _ _ h => h) hS rfl (by intro w0 hw0; (try dsimp only at hw0); go_simp; try rfl) ?_
      try simp only [List.set]
      refine wpT_take 2 (v := ?_) rfl rfl (by kernel_rfl) (by kernel_rfl) (by kernel_rfl) (by kernel_rfl) (fun _ _ _ h => h) hS rfl (by intro w0 hw0; (try dsimp only at hw0); go_simp; try rfl) ?_
      try simp only [List.set]
      refine wpT_take 3 (v := ?_) rfl rfl (by kernel_rfl) (by kernel_rfl) (by kernel_rfl) (by kernel_rfl) (fun _ _ _ h => h) hS rfl (by intro w0 hw0; (try dsimp only at hw0); go_simp; try rfl) ?_
      try simp only [List.set]
      refine wpT_take 4 (v := ?_) rfl rfl (by kernel_rfl) (by kernel_rfl) (by kernel_rfl) (by kernel_rfl) (fun _ _ _ h => h) hS rfl (by intro w0 hw0; (try dsimp only at hw0); go_simp; try rfl) ?_
      try simp only [List.set]
      refine wpT_take 5 (v := ?_) rfl rfl (by kernel_rfl) (by kernel_rfl) (by kernel_rfl) (by kernel_rfl) (fun _ _ _ h => h) hS rfl (by intro w0 hw0; (try dsimp only at hw0); go_simp; try rfl) ?_
      try simp only [List.set]
      refine wpT_take 6 (v := ?_) rfl rfl (by kernel_rfl) (by kernel_rfl) (by kernel_rfl) (by kernel_rfl) (fun _ _ _ h => h) hS rfl (by intro w0 hw0; (try dsimp only at hw0); go_simp; try rfl) ?_
      try simp only [List.set]
      refine wpT_take 7 (v := ?_) rfl rfl (by kernel_rfl) (by kernel_rfl) (by kernel_rfl) (by kernel_rfl) (fun _ _ _ h => h) hS rfl (by intro w0 hw0; (try dsimp only at hw0); go_simp; try rfl) ?_
      try simp only [List.set]
      refine wpT_take 8 (v := ?_) rfl rfl (by kernel_rfl) (by kernel_rfl) (by kernel_rfl) (by kernel_rfl) (fun _ _ _ h => h) hS rfl (by intro w0 hw0; (try dsimp only at hw0); go_simp; try rfl) ?_
      try simp only [List.set]
      refine wpT_take 9 (v := ?_) rfl rfl (by kernel_rfl) (by kernel_rfl) (by kernel_rfl) (by kernel_rfl) (fun _ _ _ h => h) hS rfl (by intro w0 hw0; (try dsimp only at hw0); go_simp; try rfl) ?_
      try simp only [List.set]
      refine wpT_take 10 (v := ?_) rfl rfl (by kernel_rfl) (by kernel_rfl) (by kernel_rfl) (by kernel_rfl) (fun _ _ _ h => h) hS rfl (by intro w0 hw0; (try dsimp only at hw0); go_simp; try rfl) ?_
      try simp only [List.set]
      refine wpT_take 11 (v := ?_) rfl rfl (by kernel_rfl) (by kernel_rfl) (by kernel_rfl) (by kernel_rfl) (fun _ _ _ h => h) hS rfl (by intro w0 hw0; (try dsimp only at hw0); go_simp; try rfl) ?_
      try simp only [List.set]
      refine wpT_take 12 (v := ?_) rfl rfl (by kernel_rfl) (by kernel_rfl) (by kernel_rfl) (by kernel_rfl) (fun _ _ _ h => h) hS rfl (by intro w0 hw0; (try dsimp only at hw0); go_simp; try rfl) ?_
      try simp only [List.set]
      refine wpT_take 13 (v := ?_) rfl rfl (by kernel_rfl) (by kernel_rfl) (by kernel_rfl) (by kernel_rfl) (fun _ _ _ h => h) hS rfl (by intro w0 hw0; (try dsimp only at hw0); go_simp; try rfl) ?_
      try simp only [List.set]
      refine wpT_take 15 (v := ?_) rfl rfl (by kernel_rfl) (by kernel_rfl) (by kernel_rfl) (by kernel_rfl) (fun _ _ _ h => h) hS rfl (by intro w0 hw0; (try dsimp only at hw0); go_simp; try rfl) ?_
      try simp only [List.set]
      refine wpT_take 16 (v := ?_) rfl rfl (by kernel_rfl) (by kernel_rfl) (by kernel_rfl) (by kernel_rfl) (fun _ _ _ h => h) hS rfl (by intro w0 hw0; (try dsimp only at hw0); go_simp; try rfl) ?_
      try simp only [List.set]
      refine wpT_take 17 (v := ?_) rfl rfl (by kernel_rfl) (by kernel_rfl) (by kernel_rfl) (by kernel_rfl) (fun _ _ _ h => h) hS rfl (by intro w0 hw0; (try dsimp only at hw0); go_simp; try rfl) ?_
      try simp only [List.set]
      refine wpT_take 18 (v := ?_) rfl rfl (by kernel_rfl) (by kernel_rfl) (by kernel_rfl) (by kernel_rfl) (fun _ _ _ h => h) hS rfl (by intro w0 hw0; (try dsimp only at hw0); go_simp; try rfl) ?_
      try simp only [List.set]
      refine wpT_take 19 (v := ?_) rfl rfl (by kernel_rfl) (by kernel_rfl) (by kernel_rfl) (by kernel_rfl) (fun _ _ _ h => h) hS rfl (by intro w0 hw0; (try dsimp only at hw0); go_simp; try rfl) ?_
      try simp only [List.set]
      refine wpT_take 20 (v := ?_) rfl rfl (by kernel_rfl) (by kernel_rfl) (by kernel_rfl) (by kernel_rfl) (fun _ _ _ h => h) hS rfl (by intro w0 hw0; (try dsimp only at hw0); go_simp; try rfl) ?_
      try simp only [List.set]
      refine wpT_one 14 rfl (by kernel_rfl) rfl rfl (fun K hK => ?_)
      go_simp
      refine (l1Names_any _ _ _ _ (s1.ext (ext_drewN wr 1))).mono ?_
      rintro e w2 ⟨u1, rfl, hE2, ho2⟩
      obtain ⟨x2, y2, rfl⟩ := own_sl ho2
      go_wp2_with fail
      refine hK.out _ _ ⟨hE2.keep hS.1, hE2.keep hS.2.1, hE2.keep hS.2.2.1, hE2.keep hS.2.2.2.1, hE2.keep hS.2.2.2.2⟩ (fun hS1 => ?_)
      clear hK hS
      have hS := hS1
      clear hS1
      try clear K
      try simp only [put_some, List.set]
      refine wpT_one 21 rfl (by kernel_rfl) rfl rfl (fun K hK => ?_)
      go_simp
      refine (l1Names_any _ _ _ _ ((s2.ext (ext_drewN wr 1)).ext hE2)).mono ?_
      rintro e w3 ⟨u3, rfl, hE3, ho3⟩
      obtain ⟨x3, y3, rfl⟩ := own_sl ho3
      go_wp2_with fail
      refine hK.out _ _ ⟨hE3.keep hS.1, hE3.keep hS.2.1, hE3.keep hS.2.2.1, hE3.keep hS.2.2.2.1, hE3.keep hS.2.2.2.2⟩ (fun hS1 => ?_)
      clear hK hS
      have hS := hS1
      clear hS1
      try clear K
      try simp only [put_some, List.set]
      refine wpT_take 22 (v := ?_) rfl rfl (by kernel_rfl) (by kernel_rfl) (by kernel_rfl) (by kernel_rfl) (fun _ _ _ h => h) hS rfl (by intro w0 hw0; (try dsimp only at hw0); go_simp; try rfl) ?_
      try simp only [List.set]
      refine wpT_one 23 rfl (by kernel_rfl) rfl rfl (fun K hK => ?_)
      go_simp
      refine hK.out _ _ ⟨(ext_alloc _ _).keep hS.1, (ext_alloc _ _).keep hS.2.1, (ext_alloc _ _).keep hS.2.2.1, (ext_alloc _ _).keep hS.2.2.2.1, (ext_alloc _ _).keep hS.2.2.2.2⟩ (fun hS1 => ?_)
      clear hK hS
      have hS := hS1
      clear hS1
      try clear K
      try simp only [put_some, List.set]
      have hE4 : Ext wr w3 := Ext.tr (Ext.tr (ext_drewN wr 1) hE2) hE3
      have hzr := HR.out.lt
      have hz2 : wr.heap.size ≤ w2.heap.size := hE2.size
      have hz3 := hE3.size
      have HRow : Hid (RowOwn (w3.alloc (.cells #[.string (S (nthB b.batches k).name), .slice x2 (nthB b.batches k).has.length y2, .slice x3 (nthB b.batches k).needs.length y3] 46)) (w1.heap.size + 1) ⟨(nthB b.batches k).name, .slice x2 (nthB b.batches k).has.length y2, .slice x3 (nthB b.batches k).needs.length y3⟩ (nthB b.batches k)) :=
        ⟨rfl, hl, ((ho2.low (by show w1.heap.size + 1 ≤ wr.heap.size; omega)).ext hE3).ext (ext_alloc _ _), s1.short, (ho3.low (by omega)).ext (ext_alloc _ _), s2.short⟩
      have hba : ba < w1.heap.size := by
        obtain ⟨_, _, e, _, _, _, _, _, q0, _⟩ := hb.2.2 k hlt
        cases e
        have h : ba < w.heap.size := cell_lt q0
        omega
      refine wpT_one 24 rfl (by kernel_rfl) rfl rfl (fun K hK => ?_)
      refine wp_rows (L := b.batches.take k) (M := [nthB b.batches k]) _ _ rfl rfl (HO.out.ext (Ext.tr hE4 (ext_alloc _ _))) rfl rfl (one_cells w3 46 ⟨(nthB b.batches k).name, .slice x2 (nthB b.batches k).has.length y2, .slice x3 (nthB b.batches k).needs.length y3⟩) (RowsOwn.one HRow.out) (by simp; omega) (by simp; omega) (fun v' w4 h2 h3 h4 => ?_)
      obtain ⟨a4, c4, rfl⟩ := h2.len
      rw [hlk1] at h2
      have hob : ∀ g, (Value.slice av k cv).ownBlock = some g → w1.heap.size + 1 ≤ g := fun g hg => by
        obtain ⟨rs, q1, _⟩ := HO.out
        exact (q1.lt g hg).1
      have HR4 : Hid (Rec w4 w1.heap.size 30 [.slice x1 b.things.length y1, .slice av k cv]) := (HR.out.ext (Ext.tr hE4 (ext_alloc _ _))).kept h3 (fun e => by have := hob _ e.symm; omega)
      have hB4 : Below w1.heap.size wr w4 := (Below.mono (Ext.tr hE4 (ext_alloc _ _)) (by omega)).grown h3 (by simp; omega) (fun g hg => by have := hob g hg; omega)
      refine hK.out _ _ ⟨HR4.out.cell rfl, (hB4.cell (p := ⟨w.heap.size, 1, none⟩) (by simp; omega)).trans hy1, (hB4.cell (p := ⟨ba, oa + k * 3, none⟩) hba).trans p0, (hB4.cell (p := ⟨ba, oa + k * 3 + 1, none⟩) hba).trans p1, (hB4.cell (p := ⟨ba, oa + k * 3 + 2, none⟩) hba).trans p2⟩ (fun hS1 => ?_)
      clear hK hS
      have hS := hS1
      clear hS1
      try clear K
      try simp only [put_some, List.set]
      refine wpT_take 25 (v := ?_) rfl rfl (by kernel_rfl) (by kernel_rfl) (by kernel_rfl) (by kernel_rfl) (fun _ _ _ h => h) hS rfl (by intro w0 hw0; (try dsimp only at hw0); go_simp; try rfl) ?_
      try simp only [List.set]
      have HN : Hid (OwnBs (w4.setCell ⟨w1.heap.size, 1, none⟩ (.slice a4 (k + 1) c4)) (w1.heap.size + 1) (.slice a4 (k + 1) c4) (b.batches.take (k + 1))) := by
        rw [take_bs hlt]; exact h2.stored HR4.out rfl rfl _ _
      have HRN := hid (HR4.out.set 1 (.slice a4 (k + 1) c4))
      have HBN : Hid (Below w1.heap.size w1 (w4.setCell ⟨w1.heap.size, 1, none⟩ (.slice a4 (k + 1) c4))) := (HB.out.trans hB4).setCell (Nat.le_refl _) _
      have hq1 := HR4.out.cell (i := 1) rfl
      have hq2 := HR4.out.frozen 1
      clear hS h2 h3 h4 HR4 hB4 HRow hE2 hE3 hE4 ho2 ho3 s1 s2 p0 p1 p2 hb' hy0 hy1
      refine wpT_last rfl (by kernel_rfl) (by kernel_rfl) rfl (fun K hK => ?_)
      go_simp
      refine hK.out _ _ ?_
      clear hK
      go_wp2
      go_roundw
      case rel => exact ⟨k + 1, _, by omega, by go_num, HBN.out, HRN.out, HN.out⟩
      case measure => simp [intOf]; omega
    · have e : k = b.batches.length := by omega
      subst e
      obtain ⟨av, cv, rfl⟩ := HO.out.len
      rw [List.take_length] at *
      have hq0 := HR.out.cell (i := 0) rfl
      have hq1 := HR.out.cell (i := 1) rfl
      have HR3 := hid (HR2.out.ext HB.out)
      have t0 := HR3.out.cell (i := 0) rfl
      have t1 := HR3.out.cell (i := 1) rfl
      have f0 := HR3.out.frozen 0
      have f1 := HR3.out.frozen 1
      have HO3 := hid ((HO1.out.low (base' := w.heap.size) (by simp; omega)).ext HB.out)
      have HE3 := hid (Ext.tr HE1.out HB.out)
      clear HB HR hrec HO1 HE1 hy0 hb'
      go_wp2
      refine bodyPost_ret (v := .agg #[.slice x1 b.things.length y1, .slice av b.batches.length cv]) (by simp [results, Tryz.results23, go_sem, t0, t1]) rfl ⟨_, _, rfl, ?_, ?_, ?_⟩
      · exact (HE3.out.setCell (by simp) _).setCell (by simp) _
      · exact (HO3.out.stored HR3.out rfl _ _).stored (HR3.out.set _ _) rfl _ _
      · exact ((HO.out.low (base' := w.heap.size) (by omega)).stored HR3.out rfl rfl _ _).stored (HR3.out.set _ _) rfl rfl _ _
end Go.Proofs.YtdafpnpfcmgfcabGreatDoor
namespace Go.Proofs.YtdafpnpfcmgfcabGreatDoor
open Go.RowKit
attribute [local go_sem] S_toList S_size S_get

def ShortBs (bs : List Batch) : Prop := bs.length ≤ 2199023255552
theorem own_book_at {w : World} {base : Nat} {b : Book} {x1 x2 : Option Addr} {y1 y2 : Nat} (h1 : OwnL w base (.slice x1 b.things.length y1) b.things) (hs : ShortS b.things) (h2 : OwnBs w base (.slice x2 b.batches.length y2) b.batches) (hn : b.batches.length ≤ 2199023255552) : BookAt w x1 x2 b := by
  obtain ⟨a1, c1, e1, k1⟩ := h1.at' hs
  obtain ⟨a2, c2, e2, k2⟩ := h2.at hn
  simp only [Value.slice.injEq] at e1 e2
  obtain ⟨rfl, _⟩ := e1
  obtain ⟨rfl, _⟩ := e2
  exact ⟨k1, k2⟩

/-- The answer of a function of chapter 3: a book and a code. -/
def BookRes (w : World) (r : Book × Nat) (e : Ending) (w' : World) : Prop :=
  ∃ a1 c1 a2 c2, e = .returned (.tuple #[.agg #[.slice a1 r.1.things.length c1, .slice a2 r.1.batches.length c2], .int .i64 ((r.2 : Nat) : Int)]) ∧ Ext w w' ∧ BookAt w' a1 a2 r.1

/-- The book's box, the result's, the copy's. -/
structure EnS (w wc : World) (b : Book) (a1 a2 : Option Addr) (c1 c2 : Nat) (x1 x2 : Option Addr) (y1 y2 X : Nat) : Prop where
  ext : Ext w wc
  rb : Rec wc w.heap.size 30 [.slice a1 b.things.length c1, .slice a2 b.batches.length c2]
  rr : Rec wc (w.heap.size + 1) 30 [.slice none 0 0, .slice none 0 0]
  rx : Rec wc X 30 [.slice x1 b.things.length y1, .slice x2 b.batches.length y2]
  o1 : OwnL wc w.heap.size (.slice x1 b.things.length y1) b.things
  o2 : OwnBs wc w.heap.size (.slice x2 b.batches.length y2) b.batches
  hx : w.heap.size + 2 ≤ X

theorem EnS.next {w wc wd : World} {b : Book} {a1 a2 : Option Addr} {c1 c2 : Nat} {x1 x2 : Option Addr} {y1 y2 X : Nat} (h : EnS w wc b a1 a2 c1 c2 x1 x2 y1 y2 X) (e : Ext wc wd) : EnS w wd b a1 a2 c1 c2 x1 x2 y1 y2 X :=
  ⟨Ext.tr h.ext e, h.rb.ext e, h.rr.ext e, h.rx.ext e, h.o1.ext e, h.o2.ext e, h.hx⟩

/-- Behind the two stores of a book into the result's box. -/
theorem stored_book {w wc : World} {RB : Nat} {l : List Value} {b : Book} {x1 x2 : Option Addr} {y1 y2 : Nat} (hE : Ext w wc) (hR : Rec wc RB 30 l) (hRB : w.heap.size ≤ RB)
    (h1 : OwnL wc w.heap.size (.slice x1 b.things.length y1) b.things) (hs : ShortS b.things) (h2 : OwnBs wc w.heap.size (.slice x2 b.batches.length y2) b.batches) (hn : b.batches.length ≤ 2199023255552) (u v : Value) :
    Ext w ((wc.setCell ⟨RB, 0, none⟩ u).setCell ⟨RB, 1, none⟩ v) ∧ BookAt ((wc.setCell ⟨RB, 0, none⟩ u).setCell ⟨RB, 1, none⟩ v) x1 x2 b :=
  ⟨(hE.setCell hRB _).setCell hRB _, own_book_at ((h1.stored hR rfl _ _).stored (hR.set _ _) rfl _ _) hs ((h2.stored hR rfl rfl _ _).stored (hR.set _ _) rfl rfl _ _) hn⟩

theorem EnS.fin {w wc : World} {b : Book} {a1 a2 : Option Addr} {c1 c2 : Nat} {x1 x2 : Option Addr} {y1 y2 X : Nat} (h : EnS w wc b a1 a2 c1 c2 x1 x2 y1 y2 X) (hb : BookAt w a1 a2 b) (u v : Value) :
    Ext w ((wc.setCell ⟨w.heap.size + 1, 0, none⟩ u).setCell ⟨w.heap.size + 1, 1, none⟩ v) ∧ BookAt ((wc.setCell ⟨w.heap.size + 1, 0, none⟩ u).setCell ⟨w.heap.size + 1, 1, none⟩ v) x1 x2 b :=
  stored_book h.ext h.rr (by omega) h.o1 hb.1.short h.o2 hb.2.1 u v

theorem EnS.mk' {w w1 w2 : World} {b : Book} {a1 a2 : Option Addr} {c1 c2 : Nat} {x1 x2 : Option Addr} {y1 y2 : Nat}
    (h1 : Ext ((w.alloc (.cells #[.slice a1 b.things.length c1, .slice a2 b.batches.length c2] 30)).alloc (.cells #[.slice none 0 0, .slice none 0 0] 30)) w1) (h2 : Ext w1 w2)
    (o1 : OwnL w2 w1.heap.size (.slice x1 b.things.length y1) b.things) (o2 : OwnBs w2 w1.heap.size (.slice x2 b.batches.length y2) b.batches) :
    EnS w (w2.alloc (.cells #[.slice x1 b.things.length y1, .slice x2 b.batches.length y2] 30)) b a1 a2 c1 c2 x1 x2 y1 y2 w2.heap.size := by
  have e2 : ∀ o1 o2, Ext w ((w.alloc o1).alloc o2) := fun o1 o2 => ((Below.refl _ _).alloc (Nat.le_refl _) _).alloc (by simp) _
  have r1 : Rec ((w.alloc (.cells #[.slice a1 b.things.length c1, .slice a2 b.batches.length c2] 30)).alloc (.cells #[.slice none 0 0, .slice none 0 0] 30)) (w.heap.size + 1) 30 [.slice none 0 0, .slice none 0 0] := by
    have h := Rec.new (w.alloc (.cells #[.slice a1 b.things.length c1, .slice a2 b.batches.length c2] 30)) 30 [.slice none 0 0, .slice none 0 0]
    simpa using h
  have r0 : Rec ((w.alloc (.cells #[.slice a1 b.things.length c1, .slice a2 b.batches.length c2] 30)).alloc (.cells #[.slice none 0 0, .slice none 0 0] 30)) w.heap.size 30 [.slice a1 b.things.length c1, .slice a2 b.batches.length c2] :=
    (Rec.new w 30 _).ext (ext_alloc _ _)
  have hz := h1.size
  simp at hz
  have hz2 := h2.size
  have ea := ext_alloc w2 (.cells #[.slice x1 b.things.length y1, .slice x2 b.batches.length y2] 30)
  exact ⟨Ext.tr (Ext.tr (e2 _ _) (Ext.tr h1 h2)) ea, (r0.ext (Ext.tr h1 h2)).ext ea, (r1.ext (Ext.tr h1 h2)).ext ea, Rec.new w2 _ _, (o1.low (by omega)).ext ea, (o2.low (by omega)).ext ea, by omega⟩
/-- Its cells: the book's, the result's, whether they may be written, the copy's. -/
theorem EnS.facts {w wc : World} {b : Book} {a1 a2 : Option Addr} {c1 c2 : Nat} {x1 x2 : Option Addr} {y1 y2 X : Nat} (h : EnS w wc b a1 a2 c1 c2 x1 x2 y1 y2 X) :
    wc.cell? ⟨w.heap.size, 0, none⟩ = some (.slice a1 b.things.length c1) ∧ wc.cell? ⟨w.heap.size, 1, none⟩ = some (.slice a2 b.batches.length c2) ∧
    wc.cell? ⟨w.heap.size + 1, 0, none⟩ = some (.slice none 0 0) ∧ wc.cell? ⟨w.heap.size + 1, 1, none⟩ = some (.slice none 0 0) ∧ wc.frozen? ⟨w.heap.size + 1, 0, none⟩ = false ∧ wc.frozen? ⟨w.heap.size + 1, 1, none⟩ = false ∧
    wc.cell? ⟨X, 0, none⟩ = some (.slice x1 b.things.length y1) ∧ wc.cell? ⟨X, 1, none⟩ = some (.slice x2 b.batches.length y2) :=
  ⟨h.rb.cell rfl, h.rb.cell rfl, h.rr.cell rfl, h.rr.cell rfl, h.rr.frozen 0, h.rr.frozen 1, h.rx.cell rfl, h.rx.cell rfl⟩
theorem BookRes.mk {w w' : World} {r : Book × Nat} {b : Book} {k : Nat} {x1 x2 : Option Addr} {y1 y2 : Nat} (hr : r = (b, k)) (h : Ext w w' ∧ BookAt w' x1 x2 b) : BookRes w r (.returned (.tuple #[.agg #[.slice x1 b.things.length y1, .slice x2 b.batches.length y2], .int .i64 ((k : Nat) : Int)])) w' := by
  subst hr
  exact ⟨x1, y1, x2, y2, rfl, h.1, h.2⟩
end Go.Proofs.YtdafpnpfcmgfcabGreatDoor
namespace Go.Proofs.YtdafpnpfcmgfcabGreatDoor
open Go.RowKit

theorem gb_tr' {a b : World} {row : Option Nat} (h : a.grownBy b row) : a.grownBy b.drew row := ⟨h.os, h.tape, h.output, h.size, h.block⟩
theorem wrapS {z : Int} (h0 : 0 ≤ z) (h1 : z < 9223372036854775808) : IntKind.i64.wrap z = z := by rw [IntKind.wrap_i64]; omega
end Go.Proofs.YtdafpnpfcmgfcabGreatDoor
namespace Go.Proofs.YtdafpnpfcmgfcabGreatDoor
open Go.RowKit
attribute [local go_sem] S_toList S_size S_get

theorem cellsOf_cons (r : Row) (rs : List Row) : cellsOf (r :: rs) = .string (S r.name) :: r.has :: r.needs :: cellsOf rs := rfl
theorem cellsOf_needs : ∀ (rs : List Row) (k : Nat) (r : Row) (u : Value), rs[k]? = some r → (cellsOf rs).set (k * 3 + 2) u = cellsOf (rs.set k ⟨r.name, r.has, u⟩)
  | [], k, r, u, h => by simp at h
  | x :: rs, 0, r, u, h => by
    simp at h; subst h
    rfl
  | x :: rs, k + 1, r, u, h => by
    have h' := cellsOf_needs rs k r u (by simpa using h)
    have e3 : (k + 1) * 3 + 2 = (k * 3 + 2) + 1 + 1 + 1 := by omega
    rw [cellsOf_cons, e3, List.set_cons_succ, List.set_cons_succ, List.set_cons_succ, h', List.set_cons_succ, cellsOf_cons]
theorem cellsOf_has : ∀ (rs : List Row) (k : Nat) (r : Row) (u : Value), rs[k]? = some r → (cellsOf rs).set (k * 3 + 1) u = cellsOf (rs.set k ⟨r.name, u, r.needs⟩)
  | [], k, r, u, h => by simp at h
  | x :: rs, 0, r, u, h => by
    simp at h; subst h
    rfl
  | x :: rs, k + 1, r, u, h => by
    have h' := cellsOf_has rs k r u (by simpa using h)
    have e3 : (k + 1) * 3 + 1 = (k * 3 + 1) + 1 + 1 + 1 := by omega
    rw [cellsOf_cons, e3, List.set_cons_succ, List.set_cons_succ, List.set_cons_succ, h', List.set_cons_succ, cellsOf_cons]

theorem RowsOwn.set {w : World} {base : Nat} {rs : List Row} {bs : List Batch} (h : RowsOwn w base rs bs) (k : Nat) {r : Row} {x : Batch} (hr : RowOwn w base r x) : RowsOwn w base (rs.set k r) (bs.set k x) :=
  ⟨by simp [h.1], fun i r' x' h1 h2 => by
    rw [List.getElem?_set] at h1 h2
    by_cases e : k = i
    · subst e
      simp only [if_true] at h1 h2
      split at h1
      · rw [if_pos (by rw [← h.1]; assumption)] at h2
        cases h1; cases h2; exact hr
      · cases h1
    · rw [if_neg e] at h1 h2
      exact h.2 i r' x' h1 h2⟩

theorem own_store_keep {w : World} {base base' g n c : Nat} {xs : List Value} (h : w.ownsRow base 46 3 (.slice (some ⟨g, 0, none⟩) n c) n xs) {v : Value} {L : List Str} (ho : OwnL w base' v L) (i : Nat) (u : Value) : OwnL (w.setCell ⟨g, i, none⟩ u) base' v L :=
  ho.keep (gb_store w g i u) (fun k cc e hk => row_ne h k cc (by simpa [Value.ownBlock] using e) hk)

theorem OwnBs.putNeeds {w : World} {base g n c k : Nat} {bs : List Batch} (h : OwnBs w base (.slice (some ⟨g, 0, none⟩) n c) bs) (hn : n = bs.length) (hk : k < bs.length) {u : Value} {L : List Str} (hL : OwnL w base u L) (hs : ShortS L) :
    OwnBs (w.setCell ⟨g, k * 3 + 2, none⟩ u) base (.slice (some ⟨g, 0, none⟩) n c) (bs.set k ⟨(nthB bs k).name, (nthB bs k).has, L⟩) := by
  obtain ⟨rs, h1, h2⟩ := h
  have hl := h2.1
  have hkr : k < rs.length := by omega
  have hr := List.getElem?_eq_getElem hkr
  obtain ⟨e1, e2, e3, e4, e5, e6⟩ := h2.2 k _ _ hr (List.getElem?_eq_getElem hk)
  have hn' : n = rs.length := by omega
  subst hn'
  have h3 := World.ownsRow.stored h1 (k * 3 + 2) u
  refine ⟨rs.set k ⟨rs[k].name, rs[k].has, u⟩, ?_, ?_⟩
  · rw [← cellsOf_needs rs k _ u hr, List.length_set]; exact h3.1
  · have hne := fun k' cc => row_ne h1 k' cc
    refine RowsOwn.set (h2.keep h3.2 (fun k' cc e hk' => hne k' cc (by simpa [Value.ownBlock] using e) hk')) k ⟨?_, ?_, ?_, ?_, own_store_keep h1 hL _ _, hs⟩
    · rw [nthB_get hk]; exact e1
    · rw [nthB_get hk]; exact e2
    · rw [nthB_get hk]; exact own_store_keep h1 e3 _ _
    · rw [nthB_get hk]; exact e4
theorem OwnBs.putHas {w : World} {base g n c k : Nat} {bs : List Batch} (h : OwnBs w base (.slice (some ⟨g, 0, none⟩) n c) bs) (hn : n = bs.length) (hk : k < bs.length) {u : Value} {L : List Str} (hL : OwnL w base u L) (hs : ShortS L) :
    OwnBs (w.setCell ⟨g, k * 3 + 1, none⟩ u) base (.slice (some ⟨g, 0, none⟩) n c) (bs.set k ⟨(nthB bs k).name, L, (nthB bs k).needs⟩) := by
  obtain ⟨rs, h1, h2⟩ := h
  have hl := h2.1
  have hkr : k < rs.length := by omega
  have hr := List.getElem?_eq_getElem hkr
  obtain ⟨e1, e2, e3, e4, e5, e6⟩ := h2.2 k _ _ hr (List.getElem?_eq_getElem hk)
  have hn' : n = rs.length := by omega
  subst hn'
  have h3 := World.ownsRow.stored h1 (k * 3 + 1) u
  refine ⟨rs.set k ⟨rs[k].name, u, rs[k].needs⟩, ?_, ?_⟩
  · rw [← cellsOf_has rs k _ u hr, List.length_set]; exact h3.1
  · have hne := fun k' cc => row_ne h1 k' cc
    refine RowsOwn.set (h2.keep h3.2 (fun k' cc e hk' => hne k' cc (by simpa [Value.ownBlock] using e) hk')) k ⟨?_, ?_, own_store_keep h1 hL _ _, hs, ?_, ?_⟩
    · rw [nthB_get hk]; exact e1
    · rw [nthB_get hk]; exact e2
    · rw [nthB_get hk]; exact own_store_keep h1 e5 _ _
    · rw [nthB_get hk]; exact e6
theorem OwnBs.cells {w : World} {base g n c k : Nat} {bs : List Batch} (h : OwnBs w base (.slice (some ⟨g, 0, none⟩) n c) bs) (hk : k < bs.length) : (∃ u, w.cell? ⟨g, k * 3 + 1, none⟩ = some u ∧ OwnL w base u (nthB bs k).has) ∧ (∃ u, w.cell? ⟨g, k * 3 + 2, none⟩ = some u ∧ OwnL w base u (nthB bs k).needs) ∧ w.frozen? ⟨g, k * 3 + 1, none⟩ = false ∧ w.frozen? ⟨g, k * 3 + 2, none⟩ = false := by
  obtain ⟨rs, h1, h2⟩ := h
  have hl := h2.1
  have hkr : k < rs.length := by omega
  have hr := List.getElem?_eq_getElem hkr
  obtain ⟨_, k1, k2⟩ := cellsOf_at rs k _ hr
  obtain ⟨e1, e2, e3, e4, e5, e6⟩ := h2.2 k _ _ hr (List.getElem?_eq_getElem hk)
  obtain ⟨g1, c1, ev1, _, q1, f1⟩ := own_cell h1 k1
  obtain ⟨g2, c2, ev2, _, q2, f2⟩ := own_cell h1 k2
  simp only [Value.slice.injEq, Option.some.injEq, Addr.mk.injEq, and_true] at ev1 ev2
  obtain ⟨rfl, _⟩ := ev1
  obtain ⟨rfl, _⟩ := ev2
  rw [nthB_get hk]
  exact ⟨⟨_, q1, e3⟩, ⟨_, q2, e5⟩, f1, f2⟩

/-- The result's box and the copy's, whatever the copy holds by now. -/
structure XS (w wc : World) (b : Book) (x1 x2 : Option Addr) (y1 y2 X : Nat) : Prop where
  ext : Ext w wc
  rr : Rec wc (w.heap.size + 1) 30 [.slice none 0 0, .slice none 0 0]
  rx : Rec wc X 30 [.slice x1 b.things.length y1, .slice x2 b.batches.length y2]
  o1 : OwnL wc w.heap.size (.slice x1 b.things.length y1) b.things
  o2 : OwnBs wc w.heap.size (.slice x2 b.batches.length y2) b.batches
  hx : w.heap.size + 2 ≤ X
theorem EnS.xs {w wc : World} {b : Book} {a1 a2 : Option Addr} {c1 c2 : Nat} {x1 x2 : Option Addr} {y1 y2 X : Nat} (h : EnS w wc b a1 a2 c1 c2 x1 x2 y1 y2 X) : XS w wc b x1 x2 y1 y2 X := ⟨h.ext, h.rr, h.rx, h.o1, h.o2, h.hx⟩
theorem XS.next {w wc wd : World} {b : Book} {x1 x2 : Option Addr} {y1 y2 X : Nat} (h : XS w wc b x1 x2 y1 y2 X) (e : Ext wc wd) : XS w wd b x1 x2 y1 y2 X :=
  ⟨Ext.tr h.ext e, h.rr.ext e, h.rx.ext e, h.o1.ext e, h.o2.ext e, h.hx⟩
theorem XS.store {w wc : World} {b b' : Book} {x1 : Option Addr} {g y1 y2 X i : Nat} {u : Value} (h : XS w wc b x1 (some ⟨g, 0, none⟩) y1 y2 X) (ht : b'.things = b.things) (hn : b'.batches.length = b.batches.length) (h2 : OwnBs (wc.setCell ⟨g, i, none⟩ u) w.heap.size (.slice (some ⟨g, 0, none⟩) b.batches.length y2) b'.batches) :
    XS w (wc.setCell ⟨g, i, none⟩ u) b' x1 (some ⟨g, 0, none⟩) y1 y2 X := by
  obtain ⟨rs, k1, k2⟩ := h.o2
  rw [← k2.1] at k1
  have hg : w.heap.size ≤ g := by
    rcases h.o2.shape with ⟨e, _⟩ | ⟨g', e, _, _, hb⟩
    · cases e
    · cases e; exact hb
  have hxg : ∀ {Y : Nat} {l : List Value}, Rec wc Y 30 l → some Y ≠ some g := fun {Y l} hr e => hr.not_row rfl k1 (by rw [e]; rfl)
  refine ⟨h.ext.setCell hg _, h.rr.kept (gb_store _ _ _ _) (hxg h.rr), ?_, ?_, ?_, h.hx⟩
  · rw [ht, hn]; exact h.rx.kept (gb_store _ _ _ _) (hxg h.rx)
  · rw [ht]; exact own_store_keep k1 h.o1 _ _
  · rw [hn]; exact h2
theorem XS.keepL {w wc : World} {b : Book} {x1 : Option Addr} {g y1 y2 X i base : Nat} {u v : Value} {L : List Str} (h : XS w wc b x1 (some ⟨g, 0, none⟩) y1 y2 X) (ho : OwnL wc base v L) : OwnL (wc.setCell ⟨g, i, none⟩ u) base v L := by
  obtain ⟨rs, k1, k2⟩ := h.o2
  rw [← k2.1] at k1
  exact own_store_keep k1 ho _ _
theorem XS.at {w wc : World} {b : Book} {x1 x2 : Option Addr} {y1 y2 X : Nat} (h : XS w wc b x1 x2 y1 y2 X) (hs : ShortS b.things) (hn : b.batches.length ≤ 2199023255552) : BookAt wc x1 x2 b := own_book_at h.o1 hs h.o2 hn
end Go.Proofs.YtdafpnpfcmgfcabGreatDoor
namespace Go.Proofs.YtdafpnpfcmgfcabGreatDoor
open Go.RowKit
attribute [local go_sem] S_toList S_size S_get

/-- A book of the call's own, no two of its lists in one row. -/
structure OB (w : World) (base : Nat) (v1 v2 : Value) (rs : List Row) (b : Book) : Prop where
  ot : OwnL w base v1 b.things
  st : ShortS b.things
  ob : w.ownsRow base 46 3 v2 rs.length (cellsOf rs)
  ow : RowsOwn w base rs b.batches
  di : Dis v1 rs
theorem OB.ext {w w' : World} {base : Nat} {v1 v2 : Value} {rs : List Row} {b : Book} (h : OB w base v1 v2 rs b) (e : Ext w w') : OB w' base v1 v2 rs b :=
  ⟨h.ot.ext e, h.st, row_ext h.ob e, h.ow.ext e, h.di⟩
theorem own_mid {w w' : World} {lo hi base : Nat} {t : TypeId} {z : Nat} {v : Value} {n : Nat} {xs : List Value} (h : w.ownsRow base t z v n xs) (m : Mid lo hi w w') (hb : hi ≤ base) : w'.ownsRow base t z v n xs := by
  refine ⟨h.1, ?_⟩
  rcases h.2 with h2 | ⟨g, cap, cur, hv, hg, hc, r⟩
  · exact Or.inl h2
  · exact Or.inr ⟨g, cap, cur, hv, hg, (m.block g (Array.getElem?_eq_some_iff.1 hc).1 (Or.inr (by omega))).trans hc, r⟩
theorem OB.mid {w w' : World} {lo hi base : Nat} {v1 v2 : Value} {rs : List Row} {b : Book} (h : OB w base v1 v2 rs b) (m : Mid lo hi w w') (hb : hi ≤ base) : OB w' base v1 v2 rs b :=
  ⟨own_mid h.ot m hb, h.st, own_mid h.ob m hb, ⟨h.ow.1, fun i r x hr hx => by
    obtain ⟨e1, e2, e3, e4, e5, e6⟩ := h.ow.2 i r x hr hx
    exact ⟨e1, e2, own_mid e3 m hb, e4, own_mid e5 m hb, e6⟩⟩, h.di⟩
theorem OB.low {w : World} {base base' : Nat} {v1 v2 : Value} {rs : List Row} {b : Book} (h : OB w base v1 v2 rs b) (hb : base' ≤ base) : OB w base' v1 v2 rs b := by
  refine ⟨h.ot.low hb, h.st, ⟨h.ob.1, ?_⟩, h.ow.low hb, h.di⟩
  rcases h.ob.2 with k3 | ⟨g, cap, cur, hv, hg, r⟩
  · exact Or.inl k3
  · exact Or.inr ⟨g, cap, cur, hv, Nat.le_trans hb hg, r⟩
theorem OB.bs {w : World} {base : Nat} {v1 v2 : Value} {rs : List Row} {b : Book} (h : OB w base v1 v2 rs b) : OwnBs w base v2 b.batches := ⟨rs, h.ob, h.ow⟩
theorem OB.at {w : World} {base : Nat} {v1 v2 : Value} {rs : List Row} {b : Book} (h : OB w base v1 v2 rs b) (hn : b.batches.length ≤ 2199023255552) : ∃ a1 c1 a2 c2, v1 = .slice a1 b.things.length c1 ∧ v2 = .slice a2 b.batches.length c2 ∧ BookAt w a1 a2 b := by
  obtain ⟨a1, c1, rfl⟩ := own_sl h.ot
  obtain ⟨a2, c2, rfl⟩ := h.bs.len
  exact ⟨a1, c1, a2, c2, rfl, rfl, own_book_at h.ot h.st h.bs hn⟩

theorem marksOf_short (k n : Nat) (h : k + n ≤ 1000000000) : ShortS (marksOf k n) := by
  refine ⟨by rw [marksOf_length]; omega, fun i hi => ?_⟩
  rw [marksOf_length] at hi
  rw [nth_marksOf hi]
  have := markT_length (k + i)
  omega

/-- A batch marked, from a number on. -/
def markB (x : Batch) (k : Nat) : Batch := ⟨markT k, marksOf (k + 1) x.has.length, marksOf (k + 1 + x.has.length) x.needs.length⟩
/-- The first m batches marked. -/
def markTo (bs : List Batch) (k m : Nat) : List Batch := (List.range bs.length).map fun i => if i < m then markB (nthB bs i) (k + i + cntTo bs i) else nthB bs i
theorem markTo_length (bs : List Batch) (k m : Nat) : (markTo bs k m).length = bs.length := by simp [markTo]
theorem markTo_get {bs : List Batch} {k m i : Nat} (h : i < bs.length) : (markTo bs k m)[i]? = some (if i < m then markB (nthB bs i) (k + i + cntTo bs i) else nthB bs i) := by
  simp [markTo, h]
theorem nthB_markTo {bs : List Batch} {k m i : Nat} (h : i < bs.length) : nthB (markTo bs k m) i = if i < m then markB (nthB bs i) (k + i + cntTo bs i) else nthB bs i := by
  have e := markTo_get (k := k) (m := m) h
  rw [List.getElem?_eq_getElem (by rw [markTo_length]; exact h)] at e
  rw [nthB_get (by rw [markTo_length]; exact h)]
  exact Option.some.inj e
theorem markTo_zero (bs : List Batch) (k : Nat) : markTo bs k 0 = bs := by
  apply List.ext_getElem?
  intro i
  rcases Nat.lt_or_ge i bs.length with h | h
  · rw [markTo_get h]
    simp only [Nat.not_lt_zero, if_false]
    rw [nthB_get h, List.getElem?_eq_getElem h]
  · rw [List.getElem?_eq_none (by rw [markTo_length]; exact h), List.getElem?_eq_none h]
theorem markTo_succ {bs : List Batch} {k m : Nat} (hm : m < bs.length) : markTo bs k (m + 1) = (markTo bs k m).set m (markB (nthB bs m) (k + m + cntTo bs m)) := by
  apply List.ext_getElem?
  intro i
  rcases Nat.lt_or_ge i bs.length with h | h
  · rw [markTo_get h, List.getElem?_set]
    by_cases e : m = i
    · subst e
      simp [markTo_length, hm]
    · rw [if_neg e, markTo_get h]
      have e2 : (i < m + 1) = (i < m) := by simp; omega
      simp only [e2]
  · rw [List.getElem?_eq_none (by rw [markTo_length]; exact h), List.getElem?_eq_none (by rw [List.length_set, markTo_length]; exact h)]
def markBook (b : Book) (k : Nat) : Book := ⟨marksOf k b.things.length, markTo b.batches (k + b.things.length) b.batches.length⟩

theorem cellsOf_name : ∀ (rs : List Row) (k : Nat) (r : Row) (s : Str), rs[k]? = some r → (cellsOf rs).set (k * 3) (.string (S s)) = cellsOf (rs.set k ⟨s, r.has, r.needs⟩)
  | [], k, r, u, h => by simp at h
  | x :: rs, 0, r, u, h => by
    simp at h; subst h
    rfl
  | x :: rs, k + 1, r, u, h => by
    have h' := cellsOf_name rs k r u (by simpa using h)
    have e3 : (k + 1) * 3 = (k * 3) + 1 + 1 + 1 := by omega
    rw [cellsOf_cons, e3, List.set_cons_succ, List.set_cons_succ, List.set_cons_succ, h', List.set_cons_succ, cellsOf_cons]
theorem allV_set : ∀ (rs : List Row) (k : Nat) (r : Row) (s : Str), rs[k]? = some r → allV (rs.set k ⟨s, r.has, r.needs⟩) = allV rs
  | [], k, r, u, h => by simp at h
  | x :: rs, 0, r, u, h => by
    simp at h; subst h
    rfl
  | x :: rs, k + 1, r, u, h => by
    have h' := allV_set rs k r u (by simpa using h)
    rw [List.set_cons_succ]
    simp only [allV, List.flatMap_cons] at *
    rw [h']
theorem Dis.same {v1 : Value} {rs rs' : List Row} (h : Dis v1 rs) (e : allV rs' = allV rs) : Dis v1 rs' := by
  unfold Dis; rw [e]; exact h
/-- In a list of values of which no two share a row: two that stand apart. -/
theorem NE.of_pair {l : List Value} (h : l.Pairwise NE) {i j : Nat} {u v : Value} (hi : l[i]? = some u) (hj : l[j]? = some v) (hne : i ≠ j) : NE u v := by
  rw [List.pairwise_iff_getElem] at h
  obtain ⟨li, ei⟩ := List.getElem?_eq_some_iff.1 hi
  obtain ⟨lj, ej⟩ := List.getElem?_eq_some_iff.1 hj
  rcases Nat.lt_or_gt_of_ne hne with hlt | hlt
  · have := h i j li lj hlt
    rw [ei, ej] at this; exact this
  · have := h j i lj li hlt
    rw [ei, ej] at this; exact this.symm
theorem allV_at : ∀ (rs : List Row) (i : Nat) (r : Row), rs[i]? = some r → (allV rs)[i * 2]? = some r.has ∧ (allV rs)[i * 2 + 1]? = some r.needs
  | [], i, r, h => by simp at h
  | x :: rs, 0, r, h => by
    simp at h; subst h
    exact ⟨rfl, rfl⟩
  | x :: rs, i + 1, r, h => by
    have h' := allV_at rs i r (by simpa using h)
    have e : allV (x :: rs) = x.has :: x.needs :: allV rs := rfl
    rw [e]
    have e3 : (i + 1) * 2 = i * 2 + 1 + 1 := by omega
    rw [e3]
    exact h'

/-- One list of a batch takes another content; all other lists keep theirs. -/
theorem RowsOwn.hasTo {w w' : World} {base : Nat} {v1 : Value} {rs : List Row} {bs : List Batch} {k : Nat} {r : Row} {x : Batch} {L : List Str} (h : RowsOwn w base rs bs) (hd : Dis v1 rs) (hr : rs[k]? = some r) (hx : bs[k]? = some x)
    (g : w.grownBy w' r.has.ownBlock) (ho : OwnL w' base r.has L) (hs : ShortS L) : RowsOwn w' base rs (bs.set k ⟨x.name, L, x.needs⟩) := by
  refine ⟨by rw [List.length_set]; exact h.1, fun i r' x' h1 h2 => ?_⟩
  obtain ⟨a1, a2⟩ := allV_at rs k r hr
  obtain ⟨a3, a4⟩ := allV_at rs i r' h1
  rw [List.getElem?_set] at h2
  by_cases e : k = i
  · subst e
    rw [hr] at h1; cases h1
    have hk : k < bs.length := (List.getElem?_eq_some_iff.1 hx).1
    simp only [if_true, hk] at h2
    cases h2
    obtain ⟨e1, e2, e3, e4, e5, e6⟩ := h.2 k r x hr hx
    exact ⟨e1, e2, ho, hs, own_ne e5 g (NE.of_pair hd.1 a1 a2 (by omega)), e6⟩
  · rw [if_neg e] at h2
    obtain ⟨e1, e2, e3, e4, e5, e6⟩ := h.2 i r' x' h1 h2
    exact ⟨e1, e2, own_ne e3 g (NE.of_pair hd.1 a1 a3 (by omega)), e4, own_ne e5 g (NE.of_pair hd.1 a1 a4 (by omega)), e6⟩
theorem RowsOwn.needsTo {w w' : World} {base : Nat} {v1 : Value} {rs : List Row} {bs : List Batch} {k : Nat} {r : Row} {x : Batch} {L : List Str} (h : RowsOwn w base rs bs) (hd : Dis v1 rs) (hr : rs[k]? = some r) (hx : bs[k]? = some x)
    (g : w.grownBy w' r.needs.ownBlock) (ho : OwnL w' base r.needs L) (hs : ShortS L) : RowsOwn w' base rs (bs.set k ⟨x.name, x.has, L⟩) := by
  refine ⟨by rw [List.length_set]; exact h.1, fun i r' x' h1 h2 => ?_⟩
  obtain ⟨a1, a2⟩ := allV_at rs k r hr
  obtain ⟨a3, a4⟩ := allV_at rs i r' h1
  rw [List.getElem?_set] at h2
  by_cases e : k = i
  · subst e
    rw [hr] at h1; cases h1
    have hk : k < bs.length := (List.getElem?_eq_some_iff.1 hx).1
    simp only [if_true, hk] at h2
    cases h2
    obtain ⟨e1, e2, e3, e4, e5, e6⟩ := h.2 k r x hr hx
    exact ⟨e1, e2, own_ne e3 g (NE.of_pair hd.1 a2 a1 (by omega)), e4, ho, hs⟩
  · rw [if_neg e] at h2
    obtain ⟨e1, e2, e3, e4, e5, e6⟩ := h.2 i r' x' h1 h2
    exact ⟨e1, e2, own_ne e3 g (NE.of_pair hd.1 a2 a3 (by omega)), e4, own_ne e5 g (NE.of_pair hd.1 a2 a4 (by omega)), e6⟩
/-- A row of names that takes another content is no row of batches. -/
theorem row_not_list {w w' : World} {base base' : Nat} {v u : Value} {n : Nat} {xs : List Value} {L : List Str} (h : w.ownsRow base 46 3 v n xs) (ho : OwnL w base' u L) (g : w.grownBy w' u.ownBlock) : w'.ownsRow base 46 3 v n xs := by
  refine own_ne h g (fun k e1 e2 => ?_)
  rcases ho.2 with ⟨rfl, _⟩ | ⟨b, cap, cur, rfl, _, hg, _⟩
  · simp [Value.ownBlock] at e1
  · have e' : b = k := by simpa [Value.ownBlock] using e1
    subst e'
    exact row_ne h b cur e2 hg
theorem below_own {w w' : World} {base base' : Nat} {u : Value} {L : List Str} (g : w.grownBy w' u.ownBlock) (ho : OwnL w base' u L) (hb : base ≤ base') (hz : base ≤ w.heap.size) : Below base w w' :=
  ⟨g.os, g.tape, g.output, g.size, fun k hk => g.block k (by omega) (fun e => by have := (ho.lt k e.symm).1; omega)⟩
end Go.Proofs.YtdafpnpfcmgfcabGreatDoor
