/- Rows of batches that a call builds. -/
import Derived.Test.YtdafpnpfcmgfcaaGreatDoorS1
namespace Go.Proofs.YtdafpnpfcmgfcaaGreatDoor
open Go.RowKit
attribute [local go_sem] S_toList S_size S_get

/-- What lies in a batch's three cells. -/
structure Row where
  name : Str
  has : Value
  needs : Value
def Row.cells (r : Row) : List Value := [.string (S r.name), r.has, r.needs]
def cellsOf (rs : List Row) : List Value := rs.flatMap Row.cells
theorem cellsOf_length : ∀ rs : List Row, (cellsOf rs).length = rs.length * 3
  | [] => rfl
  | r :: rs => by
    have h := cellsOf_length rs
    simp only [cellsOf, List.flatMap_cons, List.length_append, List.length_cons] at *
    rw [h]; simp [Row.cells]; omega
theorem cellsOf_append (a b : List Row) : cellsOf (a ++ b) = cellsOf a ++ cellsOf b := by simp [cellsOf]
theorem cellsOf_at : ∀ (rs : List Row) (i : Nat) (r : Row), rs[i]? = some r → (cellsOf rs)[i * 3]? = some (.string (S r.name)) ∧ (cellsOf rs)[i * 3 + 1]? = some r.has ∧ (cellsOf rs)[i * 3 + 2]? = some r.needs
  | [], i, r, h => by simp at h
  | x :: rs, 0, r, h => by
    simp at h; subst h
    exact ⟨rfl, rfl, rfl⟩
  | x :: rs, i + 1, r, h => by
    have h' := cellsOf_at rs i r (by simpa using h)
    have e : cellsOf (x :: rs) = .string (S x.name) :: x.has :: x.needs :: cellsOf rs := rfl
    rw [e]
    have e3 : (i + 1) * 3 = i * 3 + 1 + 1 + 1 := by omega
    rw [e3]
    exact h'

def ShortS (l : List Str) : Prop := l.length ≤ 8796093022208 ∧ ShortL l
theorem StrsAt.short {w : World} {a : Option Addr} {ss : List Str} (h : StrsAt w a ss) : ShortS ss := ⟨h.1, fun i hi => (h.2 i hi).1⟩
theorem OwnL.at' {w : World} {base : Nat} {v : Value} {ss : List Str} (h : OwnL w base v ss) (hs : ShortS ss) : ∃ a cap, v = .slice a ss.length cap ∧ StrsAt w a ss := h.at hs.1 hs.2

/-- One batch, its lists the call's own. -/
def RowOwn (w : World) (base : Nat) (r : Row) (x : Batch) : Prop :=
  r.name = x.name ∧ x.name.length ≤ 140737488355328 ∧ OwnL w base r.has x.has ∧ ShortS x.has ∧ OwnL w base r.needs x.needs ∧ ShortS x.needs
/-- Batches, their lists the call's own. -/
def RowsOwn (w : World) (base : Nat) (rs : List Row) (bs : List Batch) : Prop := rs.length = bs.length ∧ ∀ (i : Nat) r x, rs[i]? = some r → bs[i]? = some x → RowOwn w base r x
/-- A row of batches of the call's own. -/
def OwnBs (w : World) (base : Nat) (v : Value) (bs : List Batch) : Prop := ∃ rs, w.ownsRow base 73 3 v rs.length (cellsOf rs) ∧ RowsOwn w base rs bs

theorem OwnL.keep {w w' : World} {base : Nat} {v : Value} {ss : List Str} (h : OwnL w base v ss) {row : Option Nat} (g : w.grownBy w' row) (hne : ∀ (k : Nat) c, row = some k → w.heap[k]? = some (.cells c 9 (0, 0)) → False) : OwnL w' base v ss := by
  refine ⟨h.1, ?_⟩
  rcases h.2 with h2 | ⟨b, cap, cur, hv, hb, hg, r⟩
  · exact Or.inl h2
  · refine Or.inr ⟨b, cap, cur, hv, hb, ?_, r⟩
    rw [g.block b (Array.getElem?_eq_some_iff.1 hg).1 (fun e => hne b cur e.symm hg)]; exact hg
theorem RowOwn.keep {w w' : World} {base : Nat} {r : Row} {x : Batch} (h : RowOwn w base r x) {row : Option Nat} (g : w.grownBy w' row) (hne : ∀ (k : Nat) c, row = some k → w.heap[k]? = some (.cells c 9 (0, 0)) → False) : RowOwn w' base r x :=
  ⟨h.1, h.2.1, h.2.2.1.keep g hne, h.2.2.2.1, h.2.2.2.2.1.keep g hne, h.2.2.2.2.2⟩
theorem RowsOwn.keep {w w' : World} {base : Nat} {rs : List Row} {bs : List Batch} (h : RowsOwn w base rs bs) {row : Option Nat} (g : w.grownBy w' row) (hne : ∀ (k : Nat) c, row = some k → w.heap[k]? = some (.cells c 9 (0, 0)) → False) : RowsOwn w' base rs bs :=
  ⟨h.1, fun i r x hr hx => (h.2 i r x hr hx).keep g hne⟩
/-- The row's own block is no list's. -/
theorem row_ne {w : World} {base : Nat} {v : Value} {n : Nat} {xs : List Value} (h : w.ownsRow base 73 3 v n xs) (k : Nat) (c : Array Value) (e : v.ownBlock = some k) (hk : w.heap[k]? = some (.cells c 9 (0, 0))) : False := by
  rcases h.2 with ⟨rfl, _⟩ | ⟨g, cap, cur, rfl, _, hg, _⟩
  · simp [Value.ownBlock] at e
  · have e' : g = k := by simpa [Value.ownBlock] using e
    subst e'
    rw [hg] at hk; simp at hk
theorem gb_none {w w' : World} (e : Ext w w') : w.grownBy w' none := ⟨e.os, e.tape, e.output, e.size, fun k hk _ => e.block k hk⟩
theorem row_ext {w w' : World} {base : Nat} {v : Value} {n : Nat} {xs : List Value} {t : TypeId} {z : Nat} (h : w.ownsRow base t z v n xs) (e : Ext w w') : w'.ownsRow base t z v n xs := by
  refine World.ownsRow.kept h (row := none) (gb_none e) ?_
  cases v.ownBlock <;> simp
theorem RowsOwn.ext {w w' : World} {base : Nat} {rs : List Row} {bs : List Batch} (h : RowsOwn w base rs bs) (e : Ext w w') : RowsOwn w' base rs bs := h.keep (gb_none e) (fun k c h => by cases h)
theorem OwnBs.ext {w w' : World} {base : Nat} {v : Value} {bs : List Batch} (h : OwnBs w base v bs) (e : Ext w w') : OwnBs w' base v bs := by
  obtain ⟨rs, h1, h2⟩ := h
  exact ⟨rs, row_ext h1 e, h2.ext e⟩
theorem OwnBs.nil (w : World) (base : Nat) : OwnBs w base (.slice none 0 0) [] := ⟨[], World.ownsRow_nil _ _ _ _, rfl, fun i r x h => by simp at h⟩
theorem OwnBs.len {w : World} {base : Nat} {v : Value} {bs : List Batch} (h : OwnBs w base v bs) : ∃ a cap, v = .slice a bs.length cap := by
  obtain ⟨rs, h1, h2⟩ := h
  rcases h1.2 with ⟨rfl, h0⟩ | ⟨g, cap, cur, rfl, _⟩
  · exact ⟨none, 0, by rw [← h2.1, h0]⟩
  · exact ⟨_, cap, by rw [← h2.1]⟩

/-- The cells of such a row. -/
theorem own_cell {w : World} {base : Nat} {t : TypeId} {z : Nat} {v : Value} {n : Nat} {xs : List Value} (h : w.ownsRow base t z v n xs) {j : Nat} {u : Value} (hj : xs[j]? = some u) : ∃ g cap, v = .slice (some ⟨g, 0, none⟩) n cap ∧ base ≤ g ∧ w.cell? ⟨g, j, none⟩ = some u ∧ w.frozen? ⟨g, j, none⟩ = false := by
  have hlt : j < xs.length := by
    rcases Nat.lt_or_ge j xs.length with h' | h'
    · exact h'
    · simp [List.getElem?_eq_none h'] at hj
  rcases h.2 with ⟨rfl, h0⟩ | ⟨g, cap, cur, rfl, hb, hg, hc, hm, hs, ht⟩
  · have := h.1; rw [h0] at this; omega
  · refine ⟨g, cap, rfl, hb, ?_, ?_⟩
    · rw [← ht, List.getElem?_take] at hj
      split at hj
      · unfold World.cell?
        simp only [hg]
        rw [← Array.getElem?_toList]; exact hj
      · simp at hj
    · unfold World.frozen?
      simp [hg]

theorem OwnBs.at {w : World} {base : Nat} {v : Value} {bs : List Batch} (h : OwnBs w base v bs) (hn : bs.length ≤ 2199023255552) : ∃ a cap, v = .slice a bs.length cap ∧ BatchesAt w a bs := by
  obtain ⟨a, cap, rfl⟩ := h.len
  refine ⟨a, cap, rfl, hn, fun i hi => ?_⟩
  obtain ⟨rs, h1, h2⟩ := h
  have hir : i < rs.length := by rw [h2.1]; exact hi
  have hr := List.getElem?_eq_getElem hir
  have hx := List.getElem?_eq_getElem hi
  obtain ⟨k0, k1, k2⟩ := cellsOf_at rs i _ hr
  obtain ⟨e1, e2, e3, e4, e5, e6⟩ := h2.2 i _ _ hr hx
  obtain ⟨g, cap', ev, _, c0, _⟩ := own_cell h1 k0
  obtain ⟨g', cap'', ev', _, c1, _⟩ := own_cell h1 k1
  obtain ⟨g'', cap''', ev'', _, c2, _⟩ := own_cell h1 k2
  simp only [Value.slice.injEq] at ev ev' ev''
  obtain ⟨rfl, _⟩ := ev
  obtain ⟨e', _⟩ := ev'
  obtain ⟨e'', _⟩ := ev''
  simp only [Option.some.injEq, Addr.mk.injEq, and_true] at e' e''
  subst e'
  subst e''
  obtain ⟨a1, c1', f1, s1⟩ := e3.at' e4
  obtain ⟨a2, c2', f2, s2⟩ := e5.at' e6
  refine ⟨g, 0, rfl, ?_⟩
  rw [nthB_get hi]
  refine ⟨e2, a1, c1', a2, c2', ?_, ?_, ?_, s1, s2⟩
  · rw [Nat.zero_add, c0, e1]
  · rw [Nat.zero_add, c1, f1]
  · rw [Nat.zero_add, c2, f2]

theorem RowsOwn.snoc {w : World} {base : Nat} {rs : List Row} {bs : List Batch} {r : Row} {x : Batch} (h : RowsOwn w base rs bs) (hr : RowOwn w base r x) : RowsOwn w base (rs ++ [r]) (bs ++ [x]) := by
  refine ⟨by simp [h.1], fun i r' x' h1 h2 => ?_⟩
  rcases Nat.lt_or_ge i rs.length with hi | hi
  · rw [List.getElem?_append_left hi] at h1
    rw [List.getElem?_append_left (by rw [← h.1]; exact hi)] at h2
    exact h.2 i r' x' h1 h2
  · rw [List.getElem?_append_right hi] at h1
    rw [List.getElem?_append_right (by rw [← h.1]; exact hi), ← h.1] at h2
    cases hk : i - rs.length with
    | zero => rw [hk] at h1 h2; simp at h1 h2; subst h1; subst h2; exact hr
    | succ m => rw [hk] at h1; simp at h1

theorem OwnBs.shape {w : World} {base : Nat} {a : Option Addr} {n c : Nat} {bs : List Batch} (h : OwnBs w base (.slice a n c) bs) : (a = none ∧ n = 0 ∧ c = 0) ∨ ∃ g, a = some ⟨g, 0, none⟩ ∧ n ≤ c ∧ c ≤ maxLen ∧ base ≤ g := by
  obtain ⟨rs, h1, h2⟩ := h
  rcases h1.2 with ⟨e, h0⟩ | ⟨g, cap, cur, e, hb, _, hc, hm, _⟩
  · simp only [Value.slice.injEq] at e
    exact Or.inl e
  · simp only [Value.slice.injEq] at e
    obtain ⟨rfl, rfl, rfl⟩ := e
    exact Or.inr ⟨g, rfl, hc, hm, hb⟩
theorem cellsOf_take {rs : List Row} {k j : Nat} {u : Value} (h : (cellsOf (rs.take k))[j]? = some u) : (cellsOf rs)[j]? = some u := by
  have e : cellsOf rs = cellsOf (rs.take k) ++ cellsOf (rs.drop k) := by rw [← cellsOf_append, List.take_append_drop]
  have hlt : j < (cellsOf (rs.take k)).length := by
    rcases Nat.lt_or_ge j (cellsOf (rs.take k)).length with h' | h'
    · exact h'
    · simp [List.getElem?_eq_none h'] at h
  rw [e, List.getElem?_append_left hlt]; exact h
theorem cellsOf_drop {rs : List Row} {k j : Nat} {u : Value} (hk : k ≤ rs.length) (h : (cellsOf (rs.drop k))[j]? = some u) : (cellsOf rs)[k * 3 + j]? = some u := by
  have e : cellsOf rs = cellsOf (rs.take k) ++ cellsOf (rs.drop k) := by rw [← cellsOf_append, List.take_append_drop]
  have hl : (cellsOf (rs.take k)).length = k * 3 := by rw [cellsOf_length, List.length_take]; omega
  rw [e, List.getElem?_append_right (by omega), hl]
  have e' : k * 3 + j - k * 3 = j := by omega
  rw [e']; exact h
theorem RowsOwn.take {w : World} {base : Nat} {rs : List Row} {bs : List Batch} (h : RowsOwn w base rs bs) (k : Nat) : RowsOwn w base (rs.take k) (bs.take k) :=
  ⟨by rw [List.length_take, List.length_take, h.1], fun i r x hr hx => by
    rw [List.getElem?_take] at hr hx
    split at hr
    · rename_i hi
      rw [if_pos hi] at hx
      exact h.2 i r x hr hx
    · simp at hr⟩
theorem RowsOwn.drop {w : World} {base : Nat} {rs : List Row} {bs : List Batch} (h : RowsOwn w base rs bs) (k : Nat) : RowsOwn w base (rs.drop k) (bs.drop k) :=
  ⟨by rw [List.length_drop, List.length_drop, h.1], fun i r x hr hx => by
    rw [List.getElem?_drop] at hr hx
    exact h.2 _ r x hr hx⟩
/-- The rows of a row of the call's own, and where their cells lie. -/
theorem OwnBs.rows {w : World} {base : Nat} {a : Option Addr} {n c : Nat} {bs : List Batch} (h : OwnBs w base (.slice a n c) bs) : ∃ rs, RowsOwn w base rs bs ∧ ∀ (j : Nat) u, (cellsOf rs)[j]? = some u → ∃ g, a = some ⟨g, 0, none⟩ ∧ w.cell? ⟨g, j, none⟩ = some u := by
  obtain ⟨rs, h1, h2⟩ := h
  refine ⟨rs, h2, fun j u hj => ?_⟩
  obtain ⟨g, cap, e, _, hc, _⟩ := own_cell h1 hj
  simp only [Value.slice.injEq] at e
  exact ⟨g, e.1, hc⟩
theorem OwnBs.made (w : World) (base : Nat) (hb : base ≤ w.heap.size) : OwnBs (w.alloc (.cells #[] 73)) base (.slice (some ⟨w.heap.size, 0, none⟩) 0 0) [] :=
  ⟨[], World.ownsRow_made (base := base) (e := 73) (size := 3) w #[] 0 hb (by unfold maxLen; omega) (by simp), rfl, fun i r x h => by simp at h⟩
theorem RowsOwn.low {w : World} {base base' : Nat} {rs : List Row} {bs : List Batch} (h : RowsOwn w base rs bs) (hb : base' ≤ base) : RowsOwn w base' rs bs :=
  ⟨h.1, fun i r x hr hx => by
    obtain ⟨e1, e2, e3, e4, e5, e6⟩ := h.2 i r x hr hx
    exact ⟨e1, e2, e3.low hb, e4, e5.low hb, e6⟩⟩
theorem OwnBs.low {w : World} {base base' : Nat} {v : Value} {bs : List Batch} (h : OwnBs w base v bs) (hb : base' ≤ base) : OwnBs w base' v bs := by
  obtain ⟨rs, k1, k2⟩ := h
  refine ⟨rs, ⟨k1.1, ?_⟩, k2.low hb⟩
  rcases k1.2 with k3 | ⟨g, cap, cur, hv, hg, r⟩
  · exact Or.inl k3
  · exact Or.inr ⟨g, cap, cur, hv, Nat.le_trans hb hg, r⟩
/-- A store into a record that is neither. -/
theorem OwnBs.stored {w : World} {base : Nat} {v : Value} {bs : List Batch} (h : OwnBs w base v bs) {X : Nat} {t : TypeId} {l : List Value} (hr : Rec w X t l) (h1 : (t == 9) = false) (h2 : (t == 73) = false) (i : Nat) (u : Value) : OwnBs (w.setCell ⟨X, i, none⟩ u) base v bs := by
  obtain ⟨rs, k1, k2⟩ := h
  refine ⟨rs, World.ownsRow.kept k1 (gb_store w X i u) (Or.inr (fun e => hr.not_row h2 k1 e.symm)), k2.keep (gb_store w X i u) (fun k c e hk => ?_)⟩
  simp only [Option.some.injEq] at e
  subst e
  rw [show w.heap[X]? = _ from hr] at hk
  simp only [Option.some.injEq, Obj.cells.injEq] at hk
  simp [hk.2.1] at h1
theorem OwnL.stored {w : World} {base : Nat} {v : Value} {ss : List Str} (h : OwnL w base v ss) {X : Nat} {t : TypeId} {l : List Value} (hr : Rec w X t l) (h1 : (t == 9) = false) (i : Nat) (u : Value) : OwnL (w.setCell ⟨X, i, none⟩ u) base v ss := by
  refine h.keep (gb_store w X i u) (fun k c e hk => ?_)
  simp only [Option.some.injEq] at e
  subst e
  rw [show w.heap[X]? = _ from hr] at hk
  simp only [Option.some.injEq, Obj.cells.injEq] at hk
  simp [hk.2.1] at h1
theorem RowsOwn.one {w : World} {base : Nat} {r : Row} {x : Batch} (h : RowOwn w base r x) : RowsOwn w base [r] [x] :=
  RowsOwn.snoc (rs := []) (bs := []) ⟨rfl, fun i r x h => by simp at h⟩ h
theorem one_cells (w : World) (t : TypeId) (r : Row) (j : Nat) (u : Value) (hj : (cellsOf [r])[j]? = some u) : ∃ ad, some (⟨w.heap.size, 0, none⟩ : Addr) = some ad ∧ (w.alloc (.cells #[.string (S r.name), r.has, r.needs] t)).cell? (ad.add j) = some u :=
  ⟨_, rfl, by rw [add_plain, Nat.zero_add]; exact (Rec.new w t (cellsOf [r])).cell hj⟩
theorem take_bs {bs : List Batch} {k : Nat} (h : k < bs.length) : bs.take (k + 1) = bs.take k ++ [nthB bs k] := by
  rw [List.take_succ_eq_append_getElem h, nthB_get h]

theorem info_batch : ∃ i, Tryz.prog.info? 73 = some i ∧ i.zero = some (.agg #[.string (S []), .slice none 0 0, .slice none 0 0]) ∧ i.size = 3 ∧ i.bytes = 64 := by
  obtain ⟨i, hi, hzz⟩ := Option.map_eq_some_iff.1 Tryz.infoBatch
  simp only [Prod.mk.injEq] at hzz
  exact ⟨i, hi, hzz.1, hzz.2.1, hzz.2.2⟩

/-- Rows of batches appended to a row of the call's own. -/
theorem wp_rows {o : Oper} {a : Act} {w : World} {K : Act → World → Prop} {Q : Exit → Act → World → Prop} (s x : Operand)
    (ho : o.op = .call { callee := .builtin .append, args := #[s, x], argTypes := #[24, 24] })
    {base : Nat} {v : Value} {L : List Batch} (hs : a.eval s = v) (hown : OwnBs w base v L) {src : Option Addr} {m c : Nat} {M : List Batch} {rs : List Row} (hx : a.eval x = .slice src m c) (hm : M.length = m)
    (hrs : ∀ j u, (cellsOf rs)[j]? = some u → ∃ ad, src = some ad ∧ w.cell? (ad.add j) = some u) (hM : RowsOwn w base rs M)
    (hlen : L.length + M.length ≤ 2199023255552) (hbase : base ≤ w.heap.size)
    (h : ∀ v' w', OwnBs w' base v' (L ++ M) → w.grownBy w' v.ownBlock → (v'.ownBlock = v.ownBlock ∨ v'.ownBlock = some w.heap.size) → K (a.put o.dst v') w') : o.wp Tryz.prog a w K Q := by
  obtain ⟨i0, hi, hz0, hz1, hz2⟩ := info_batch
  obtain ⟨rs0, h1, h2⟩ := hown
  have hl1 := h2.1
  have hl2 := hM.1
  have hone : ∀ u ∈ cellsOf rs, u.oneCell' = true := by
    intro u hu
    obtain ⟨r, hr, hur⟩ := List.mem_flatMap.1 hu
    obtain ⟨i, hi, e⟩ := List.getElem_of_mem hr
    have hiM : i < M.length := by rw [← hl2]; exact hi
    obtain ⟨_, _, e3, e4, e5, e6⟩ := hM.2 i r _ (by rw [List.getElem?_eq_getElem hi, e]) (List.getElem?_eq_getElem hiM)
    obtain ⟨a1, c1, f1, _⟩ := e3.at' e4
    obtain ⟨a2, c2, f2, _⟩ := e5.at' e6
    simp only [Row.cells, List.mem_cons, List.not_mem_nil, or_false] at hur
    rcases hur with rfl | rfl | rfl
    · rfl
    · rw [f1]; rfl
    · rw [f2]; rfl
  refine wp_app w s x 24 ho base 73 i0 _ 3 64 Tryz.underlying24 hi hz0 hz1 hz2 rfl (by decide) v _ _ hs h1 src m c (cellsOf rs) hx (by rw [cellsOf_length, hl2, hm]) hrs hone (by unfold maxLen; omega) (by omega) hbase (fun v' w' g2 g3 g4 => h v' w' ⟨rs0 ++ rs, ?_, ?_⟩ g3 g4)
  · rw [cellsOf_append, List.length_append, hl2, hm]; exact g2
  · have hne := fun k c => row_ne h1 k c
    have k1 := h2.keep g3 hne
    have k2 := hM.keep g3 hne
    refine ⟨by rw [List.length_append, List.length_append, k1.1, k2.1], fun i r y hr hy => ?_⟩
    rcases Nat.lt_or_ge i rs0.length with hi | hi
    · rw [List.getElem?_append_left hi] at hr
      rw [List.getElem?_append_left (by rw [← hl1]; exact hi)] at hy
      exact k1.2 i r y hr hy
    · rw [List.getElem?_append_right hi] at hr
      rw [List.getElem?_append_right (by rw [← hl1]; exact hi), ← hl1] at hy
      exact k2.2 _ r y hr hy
end Go.Proofs.YtdafpnpfcmgfcaaGreatDoor
