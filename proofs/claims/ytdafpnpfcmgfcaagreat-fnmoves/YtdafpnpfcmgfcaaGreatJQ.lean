/- Appending a list that lies anywhere (or nowhere) to a row of the call's own; the specification's l1Names. Rows of batches that a call builds. The walk over the specification's l1Copy. -/
import Derived.Test.YtdafpnpfcmgfcaaGreatJL
import Derived.Test.YtdafpnpfcmgfcaaGreatH1
import Derived.Maps.AppendAt
import Derived.Laws.OwnMore
namespace Go.Proofs.YtdafpnpfcmgfcaaGreat
open Go.RowKit
attribute [local go_sem] S_toList S_size S_get

section
variable {P : Program} (w : World)
theorem run_app (base : Nat) (t ty e : TypeId) (i : TypeInfo) (z : Value) (size bytes : Nat) (ht : P.underlying t = some (.slice e)) (hi : P.info? e = some i) (hz : i.zero = some z)
    (hsize : i.size = size) (hby : i.bytes = bytes) (hzs : z.cells.size = size) (hsz : 0 < size)
    (v : Value) (n : Nat) (xs : List Value) (hown : w.ownsRow base e size v n xs)
    (src : Option Addr) (m c : Nat) (news : List Value) (hl : news.length = m * size) (hnews : ∀ j u, news[j]? = some u → ∃ ad, src = some ad ∧ w.cell? (ad.add j) = some u) (h1 : ∀ u ∈ news, u.oneCell' = true)
    (h63 : n + m ≤ maxLen) (hbytes : (n + m) * bytes ≤ 140737488355328) (hbase : base ≤ w.heap.size) :
    ∃ v' w', (Builtin.append_ #[t, t] ty #[v, .slice src m c]).run P w = .ok v' w' ∧ w'.ownsRow base e size v' (n + m) (xs ++ news) ∧ w.grownBy w' v.ownBlock ∧ (v'.ownBlock = v.ownBlock ∨ v'.ownBlock = some w.heap.size) := by
  cases src with
  | some ad =>
    obtain ⟨v', w', h2, h3, h4, _, h5⟩ := run_append_own_at (P := P) w base t ty e i z size bytes ht hi hz hsize hby hzs hsz v n xs hown ad m c news hl (fun j u hj => by
      obtain ⟨ad', e, h⟩ := hnews j u hj
      cases e; exact h) h1 h63 hbytes hbase
    exact ⟨v', w', h2, h3, h4, h5⟩
  | none =>
    have hn : news = [] := by
      cases news with
      | nil => rfl
      | cons u us => obtain ⟨_, e, _⟩ := hnews 0 u rfl; cases e
    subst hn
    have hm : m = 0 := by
      rcases Nat.mul_eq_zero.1 hl.symm with h | h
      · exact h
      · omega
    subst hm
    refine ⟨v, w, ?_, by simpa using hown, ⟨rfl, rfl, rfl, Nat.le_refl _, fun _ _ _ => rfl⟩, Or.inl rfl⟩
    rcases hown.2 with ⟨rfl, rfl⟩ | ⟨g, cap, cur, rfl, _, _, hnc, _⟩
    · simp [Builtin.append_, run_underlying ht, sizeOf, typeInfo, hi, Builtin.lenOf, Builtin.firstCells]
    · simp [Builtin.append_, run_underlying ht, sizeOf, typeInfo, hi, Builtin.lenOf, Builtin.firstCells, hnc, storeCells]

theorem wp_app {o : Oper} {a : Act} {K : Act → World → Prop} {Q : Exit → Act → World → Prop} (s x : Operand) (t : TypeId)
    (ho : o.op = .call { callee := .builtin .append, args := #[s, x], argTypes := #[t, t] })
    (base : Nat) (e : TypeId) (i : TypeInfo) (z : Value) (size bytes : Nat) (ht : P.underlying t = some (.slice e)) (hi : P.info? e = some i) (hz : i.zero = some z)
    (hsize : i.size = size) (hby : i.bytes = bytes) (hzs : z.cells.size = size) (hsz : 0 < size)
    (v : Value) (n : Nat) (xs : List Value) (hs : a.eval s = v) (hown : w.ownsRow base e size v n xs)
    (src : Option Addr) (m c : Nat) (news : List Value) (hx : a.eval x = .slice src m c) (hl : news.length = m * size) (hnews : ∀ j u, news[j]? = some u → ∃ ad, src = some ad ∧ w.cell? (ad.add j) = some u) (h1 : ∀ u ∈ news, u.oneCell' = true)
    (h63 : n + m ≤ maxLen) (hbytes : (n + m) * bytes ≤ 140737488355328) (hbase : base ≤ w.heap.size)
    (h : ∀ v' w', w'.ownsRow base e size v' (n + m) (xs ++ news) → w.grownBy w' v.ownBlock → (v'.ownBlock = v.ownBlock ∨ v'.ownBlock = some w.heap.size) → K (a.put o.dst v') w') : o.wp P a w K Q := by
  obtain ⟨v', w', hr, h2, h3, h4⟩ := run_app (P := P) w base t o.type e i z size bytes ht hi hz hsize hby hzs hsz v n xs hown src m c news hl hnews h1 h63 hbytes hbase
  unfold Oper.wp execOp
  simp only [ho, resolve, invoke, builtin, Sem.run_bind, Sem.run_pure, Result.andThen_ok, List.map_toArray, List.map_cons, List.map_nil, hs, hx, hr]
  exact h v' w' h2 h3 h4
end

theorem add_plain (b o j : Nat) : (⟨b, o, none⟩ : Addr).add j = ⟨b, o + j, none⟩ := by
  unfold Addr.add
  split
  · rename_i h; simp_all
  · rfl

theorem strs_cells {w : World} {a : Option Addr} {ss : List Str} (h : StrsAt w a ss) (j : Nat) (u : Value) (hj : (ss.map fun s => Value.string (S s))[j]? = some u) : ∃ ad, a = some ad ∧ w.cell? (ad.add j) = some u := by
  rw [List.getElem?_map] at hj
  have hlt : j < ss.length := by
    rcases Nat.lt_or_ge j ss.length with h' | h'
    · exact h'
    · simp [List.getElem?_eq_none h'] at hj
  obtain ⟨_, b, o, ea, hc⟩ := h.2 j hlt
  rw [List.getElem?_eq_getElem hlt] at hj
  simp only [Option.map_some, Option.some.injEq] at hj
  subst hj
  refine ⟨_, ea, ?_⟩
  rw [nth_get hlt] at hc
  rw [add_plain]; exact hc

theorem OwnL.app {w' : World} {base : Nat} {v : Value} {L M : List Str} (h : w'.ownsRow base 9 1 v (L.length + M.length) ((L.map fun s => Value.string (S s)) ++ M.map fun s => Value.string (S s))) : OwnL w' base v (L ++ M) := by
  unfold OwnL
  rw [List.map_append, List.length_append]
  exact h

/-- A list of names appended to a list of the call's own. -/
theorem wp_strs {o : Oper} {a : Act} {w : World} {K : Act → World → Prop} {Q : Exit → Act → World → Prop} (s x : Operand)
    (ho : o.op = .call { callee := .builtin .append, args := #[s, x], argTypes := #[23, 23] })
    {base : Nat} {v : Value} {L : List Str} (hs : a.eval s = v) (hown : OwnL w base v L) {src : Option Addr} {c : Nat} {M : List Str} (hx : a.eval x = .slice src M.length c) (hM : StrsAt w src M)
    (hlen : L.length + M.length ≤ 8796093022208) (hbase : base ≤ w.heap.size)
    (h : ∀ v' w', OwnL w' base v' (L ++ M) → w.grownBy w' v.ownBlock → (v'.ownBlock = v.ownBlock ∨ v'.ownBlock = some w.heap.size) → K (a.put o.dst v') w') : o.wp Qry.prog a w K Q := by
  obtain ⟨i0, hi, hz0, hz1, hz2⟩ := info_str
  exact wp_app w s x 23 ho base 9 i0 (.string (S [])) 1 16 (uQ Tryz.underlying23) hi hz0 hz1 hz2 rfl (by decide) v _ _ hs hown src M.length c _ hx (by simp) (strs_cells hM) (by simp [Value.oneCell']) (by unfold maxLen; omega) (by omega) hbase (fun v' w' h2 h3 h4 => h v' w' (OwnL.app h2) h3 h4)

theorem wpList_strs {ops : Array Oper} {rest : List Oper} {o : Oper} {a : Act} {w : World} {Q : Exit → Act → World → Prop} (hgd : o.guard = none) (s x : Operand)
    (ho : o.op = .call { callee := .builtin .append, args := #[s, x], argTypes := #[23, 23] })
    {base : Nat} {v : Value} {L : List Str} (hs : a.eval s = v) (hown : OwnL w base v L) {src : Option Addr} {c : Nat} {M : List Str} (hx : a.eval x = .slice src M.length c) (hM : StrsAt w src M)
    (hlen : L.length + M.length ≤ 8796093022208) (hbase : base ≤ w.heap.size)
    (h : ∀ v' w', OwnL w' base v' (L ++ M) → w.grownBy w' v.ownBlock → (v'.ownBlock = v.ownBlock ∨ v'.ownBlock = some w.heap.size) → wpList Qry.prog ops Q rest (a.put o.dst v') w') : wpList Qry.prog ops Q (o :: rest) a w :=
  wpList_plain hgd fun _ hK => wp_strs s x ho hs hown hx hM hlen hbase fun v' w' h2 h3 h4 => hK _ _ (h v' w' h2 h3 h4)

theorem own_sl {w : World} {base : Nat} {v : Value} {ss : List Str} (h : OwnL w base v ss) : ∃ a cap, v = .slice a ss.length cap := by
  rcases h.2 with ⟨rfl, h0⟩ | ⟨g, cap, cur, rfl, _⟩
  · exact ⟨none, 0, by rw [h0]⟩
  · exact ⟨_, cap, rfl⟩
theorem OwnL.low {w : World} {base base' : Nat} {v : Value} {ss : List Str} (h : OwnL w base v ss) (hb : base' ≤ base) : OwnL w base' v ss := by
  refine ⟨h.1, ?_⟩
  rcases h.2 with h2 | ⟨g, cap, cur, hv, hg, r⟩
  · exact Or.inl h2
  · exact Or.inr ⟨g, cap, cur, hv, Nat.le_trans hb hg, r⟩
/-- An empty list, just made. -/
theorem OwnL.made (w : World) (base : Nat) (hb : base ≤ w.heap.size) : OwnL (w.alloc (.cells #[] 9)) base (.slice (some ⟨w.heap.size, 0, none⟩) 0 0) [] :=
  World.ownsRow_made (base := base) (e := 9) (size := 1) w #[] 0 hb (by unfold maxLen; omega) (by simp)

set_option maxHeartbeats 400000 in
theorem l1Names_any (a : Option Addr) (c : Nat) (ss : List Str) (w : World) (h : StrsAt w a ss) :
    Calls Qry.prog 74 #[.slice a ss.length c] w fun e w' => ∃ v, e = .returned v ∧ Ext w w' ∧ OwnL w' w.heap.size v ss := by
  have hx := h.1
  have HO := hid (OwnL.made w w.heap.size (Nat.le_refl _))
  have HS := hid (h.ext (ext_alloc w (.cells #[] 9)))
  go_enter Qry.func74, Tryz.ntmps74
  go_wp2_with (at_builtin; refine wpList_strs rfl _ _ rfl rfl HO.out rfl HS.out ?q1 ?q2 ?_)
  case q1 => simp; omega
  case q2 => simp
  · intro v' w' hown hgrow _
    have HN := hid hown
    have HE : Hid (Ext w w') := (((Below.refl _ _).alloc (Nat.le_refl _) _).grown hgrow (by simp) (fun g hg => by simp [Value.ownBlock] at hg; omega))
    clear hown hgrow
    go_wp2
    go_ret
    exact ⟨v', rfl, HE.out, HN.out⟩
end Go.Proofs.YtdafpnpfcmgfcaaGreat
namespace Go.Proofs.YtdafpnpfcmgfcaaGreat
open Go.RowKit
attribute [local go_sem] S_toList S_size S_get

/-- What lies in a batch's three cells. -/
structure Row where
  name : Str
  has : Value
  needs : Value
def Row.cells (r : Row) : List Value := [.string (S r.name), r.has, r.needs]
def cellsOf (rs : List Row) : List Value := rs.flatMap Row.cells
theorem cellsOf_length : ∀ rs : List Row, (cellsOf rs).length = rs.length * 3
  | [] => rfl
  | r :: rs => by
    have h := cellsOf_length rs
    simp only [cellsOf, List.flatMap_cons, List.length_append, List.length_cons] at *
    rw [h]; simp [Row.cells]; omega
theorem cellsOf_append (a b : List Row) : cellsOf (a ++ b) = cellsOf a ++ cellsOf b := by simp [cellsOf]
theorem cellsOf_at : ∀ (rs : List Row) (i : Nat) (r : Row), rs[i]? = some r → (cellsOf rs)[i * 3]? = some (.string (S r.name)) ∧ (cellsOf rs)[i * 3 + 1]? = some r.has ∧ (cellsOf rs)[i * 3 + 2]? = some r.needs
  | [], i, r, h => by simp at h
  | x :: rs, 0, r, h => by
    simp at h; subst h
    exact ⟨rfl, rfl, rfl⟩
  | x :: rs, i + 1, r, h => by
    have h' := cellsOf_at rs i r (by simpa using h)
    have e : cellsOf (x :: rs) = .string (S x.name) :: x.has :: x.needs :: cellsOf rs := rfl
    rw [e]
    have e3 : (i + 1) * 3 = i * 3 + 1 + 1 + 1 := by omega
    rw [e3]
    exact h'

def ShortS (l : List Str) : Prop := l.length ≤ 8796093022208 ∧ ShortL l
theorem StrsAt.short {w : World} {a : Option Addr} {ss : List Str} (h : StrsAt w a ss) : ShortS ss := ⟨h.1, fun i hi => (h.2 i hi).1⟩
theorem OwnL.at' {w : World} {base : Nat} {v : Value} {ss : List Str} (h : OwnL w base v ss) (hs : ShortS ss) : ∃ a cap, v = .slice a ss.length cap ∧ StrsAt w a ss := h.at hs.1 hs.2

/-- One batch, its lists the call's own. -/
def RowOwn (w : World) (base : Nat) (r : Row) (x : Batch) : Prop :=
  r.name = x.name ∧ x.name.length ≤ 140737488355328 ∧ OwnL w base r.has x.has ∧ ShortS x.has ∧ OwnL w base r.needs x.needs ∧ ShortS x.needs
/-- Batches, their lists the call's own. -/
def RowsOwn (w : World) (base : Nat) (rs : List Row) (bs : List Batch) : Prop := rs.length = bs.length ∧ ∀ (i : Nat) r x, rs[i]? = some r → bs[i]? = some x → RowOwn w base r x
/-- A row of batches of the call's own. -/
def OwnBs (w : World) (base : Nat) (v : Value) (bs : List Batch) : Prop := ∃ rs, w.ownsRow base 32 3 v rs.length (cellsOf rs) ∧ RowsOwn w base rs bs

theorem OwnL.keep {w w' : World} {base : Nat} {v : Value} {ss : List Str} (h : OwnL w base v ss) {row : Option Nat} (g : w.grownBy w' row) (hne : ∀ (k : Nat) c, row = some k → w.heap[k]? = some (.cells c 9 (0, 0)) → False) : OwnL w' base v ss := by
  refine ⟨h.1, ?_⟩
  rcases h.2 with h2 | ⟨b, cap, cur, hv, hb, hg, r⟩
  · exact Or.inl h2
  · refine Or.inr ⟨b, cap, cur, hv, hb, ?_, r⟩
    rw [g.block b (Array.getElem?_eq_some_iff.1 hg).1 (fun e => hne b cur e.symm hg)]; exact hg
theorem RowOwn.keep {w w' : World} {base : Nat} {r : Row} {x : Batch} (h : RowOwn w base r x) {row : Option Nat} (g : w.grownBy w' row) (hne : ∀ (k : Nat) c, row = some k → w.heap[k]? = some (.cells c 9 (0, 0)) → False) : RowOwn w' base r x :=
  ⟨h.1, h.2.1, h.2.2.1.keep g hne, h.2.2.2.1, h.2.2.2.2.1.keep g hne, h.2.2.2.2.2⟩
theorem RowsOwn.keep {w w' : World} {base : Nat} {rs : List Row} {bs : List Batch} (h : RowsOwn w base rs bs) {row : Option Nat} (g : w.grownBy w' row) (hne : ∀ (k : Nat) c, row = some k → w.heap[k]? = some (.cells c 9 (0, 0)) → False) : RowsOwn w' base rs bs :=
  ⟨h.1, fun i r x hr hx => (h.2 i r x hr hx).keep g hne⟩
/-- The row's own block is no list's. -/
theorem row_ne {w : World} {base : Nat} {v : Value} {n : Nat} {xs : List Value} (h : w.ownsRow base 32 3 v n xs) (k : Nat) (c : Array Value) (e : v.ownBlock = some k) (hk : w.heap[k]? = some (.cells c 9 (0, 0))) : False := by
  rcases h.2 with ⟨rfl, _⟩ | ⟨g, cap, cur, rfl, _, hg, _⟩
  · simp [Value.ownBlock] at e
  · have e' : g = k := by simpa [Value.ownBlock] using e
    subst e'
    rw [hg] at hk; simp at hk
theorem gb_none {w w' : World} (e : Ext w w') : w.grownBy w' none := ⟨e.os, e.tape, e.output, e.size, fun k hk _ => e.block k hk⟩
theorem row_ext {w w' : World} {base : Nat} {v : Value} {n : Nat} {xs : List Value} {t : TypeId} {z : Nat} (h : w.ownsRow base t z v n xs) (e : Ext w w') : w'.ownsRow base t z v n xs := by
  refine World.ownsRow.kept h (row := none) (gb_none e) ?_
  cases v.ownBlock <;> simp
theorem RowsOwn.ext {w w' : World} {base : Nat} {rs : List Row} {bs : List Batch} (h : RowsOwn w base rs bs) (e : Ext w w') : RowsOwn w' base rs bs := h.keep (gb_none e) (fun k c h => by cases h)
theorem OwnBs.ext {w w' : World} {base : Nat} {v : Value} {bs : List Batch} (h : OwnBs w base v bs) (e : Ext w w') : OwnBs w' base v bs := by
  obtain ⟨rs, h1, h2⟩ := h
  exact ⟨rs, row_ext h1 e, h2.ext e⟩
theorem OwnBs.nil (w : World) (base : Nat) : OwnBs w base (.slice none 0 0) [] := ⟨[], World.ownsRow_nil _ _ _ _, rfl, fun i r x h => by simp at h⟩
theorem OwnBs.len {w : World} {base : Nat} {v : Value} {bs : List Batch} (h : OwnBs w base v bs) : ∃ a cap, v = .slice a bs.length cap := by
  obtain ⟨rs, h1, h2⟩ := h
  rcases h1.2 with ⟨rfl, h0⟩ | ⟨g, cap, cur, rfl, _⟩
  · exact ⟨none, 0, by rw [← h2.1, h0]⟩
  · exact ⟨_, cap, by rw [← h2.1]⟩

/-- The cells of such a row. -/
theorem own_cell {w : World} {base : Nat} {t : TypeId} {z : Nat} {v : Value} {n : Nat} {xs : List Value} (h : w.ownsRow base t z v n xs) {j : Nat} {u : Value} (hj : xs[j]? = some u) : ∃ g cap, v = .slice (some ⟨g, 0, none⟩) n cap ∧ base ≤ g ∧ w.cell? ⟨g, j, none⟩ = some u ∧ w.frozen? ⟨g, j, none⟩ = false := by
  have hlt : j < xs.length := by
    rcases Nat.lt_or_ge j xs.length with h' | h'
    · exact h'
    · simp [List.getElem?_eq_none h'] at hj
  rcases h.2 with ⟨rfl, h0⟩ | ⟨g, cap, cur, rfl, hb, hg, hc, hm, hs, ht⟩
  · have := h.1; rw [h0] at this; omega
  · refine ⟨g, cap, rfl, hb, ?_, ?_⟩
    · rw [← ht, List.getElem?_take] at hj
      split at hj
      · unfold World.cell?
        simp only [hg]
        rw [← Array.getElem?_toList]; exact hj
      · simp at hj
    · unfold World.frozen?
      simp [hg]

theorem OwnBs.at {w : World} {base : Nat} {v : Value} {bs : List Batch} (h : OwnBs w base v bs) (hn : bs.length ≤ 2199023255552) : ∃ a cap, v = .slice a bs.length cap ∧ BatchesAt w a bs := by
  obtain ⟨a, cap, rfl⟩ := h.len
  refine ⟨a, cap, rfl, hn, fun i hi => ?_⟩
  obtain ⟨rs, h1, h2⟩ := h
  have hir : i < rs.length := by rw [h2.1]; exact hi
  have hr := List.getElem?_eq_getElem hir
  have hx := List.getElem?_eq_getElem hi
  obtain ⟨k0, k1, k2⟩ := cellsOf_at rs i _ hr
  obtain ⟨e1, e2, e3, e4, e5, e6⟩ := h2.2 i _ _ hr hx
  obtain ⟨g, cap', ev, _, c0, _⟩ := own_cell h1 k0
  obtain ⟨g', cap'', ev', _, c1, _⟩ := own_cell h1 k1
  obtain ⟨g'', cap''', ev'', _, c2, _⟩ := own_cell h1 k2
  simp only [Value.slice.injEq] at ev ev' ev''
  obtain ⟨rfl, _⟩ := ev
  obtain ⟨e', _⟩ := ev'
  obtain ⟨e'', _⟩ := ev''
  simp only [Option.some.injEq, Addr.mk.injEq, and_true] at e' e''
  subst e'
  subst e''
  obtain ⟨a1, c1', f1, s1⟩ := e3.at' e4
  obtain ⟨a2, c2', f2, s2⟩ := e5.at' e6
  refine ⟨g, 0, rfl, ?_⟩
  rw [nthB_get hi]
  refine ⟨e2, a1, c1', a2, c2', ?_, ?_, ?_, s1, s2⟩
  · rw [Nat.zero_add, c0, e1]
  · rw [Nat.zero_add, c1, f1]
  · rw [Nat.zero_add, c2, f2]

theorem RowsOwn.snoc {w : World} {base : Nat} {rs : List Row} {bs : List Batch} {r : Row} {x : Batch} (h : RowsOwn w base rs bs) (hr : RowOwn w base r x) : RowsOwn w base (rs ++ [r]) (bs ++ [x]) := by
  refine ⟨by simp [h.1], fun i r' x' h1 h2 => ?_⟩
  rcases Nat.lt_or_ge i rs.length with hi | hi
  · rw [List.getElem?_append_left hi] at h1
    rw [List.getElem?_append_left (by rw [← h.1]; exact hi)] at h2
    exact h.2 i r' x' h1 h2
  · rw [List.getElem?_append_right hi] at h1
    rw [List.getElem?_append_right (by rw [← h.1]; exact hi), ← h.1] at h2
    cases hk : i - rs.length with
    | zero => rw [hk] at h1 h2; simp at h1 h2; subst h1; subst h2; exact hr
    | succ m => rw [hk] at h1; simp at h1

theorem OwnBs.shape {w : World} {base : Nat} {a : Option Addr} {n c : Nat} {bs : List Batch} (h : OwnBs w base (.slice a n c) bs) : (a = none ∧ n = 0 ∧ c = 0) ∨ ∃ g, a = some ⟨g, 0, none⟩ ∧ n ≤ c ∧ c ≤ maxLen ∧ base ≤ g := by
  obtain ⟨rs, h1, h2⟩ := h
  rcases h1.2 with ⟨e, h0⟩ | ⟨g, cap, cur, e, hb, _, hc, hm, _⟩
  · simp only [Value.slice.injEq] at e
    exact Or.inl e
  · simp only [Value.slice.injEq] at e
    obtain ⟨rfl, rfl, rfl⟩ := e
    exact Or.inr ⟨g, rfl, hc, hm, hb⟩
theorem cellsOf_take {rs : List Row} {k j : Nat} {u : Value} (h : (cellsOf (rs.take k))[j]? = some u) : (cellsOf rs)[j]? = some u := by
  have e : cellsOf rs = cellsOf (rs.take k) ++ cellsOf (rs.drop k) := by rw [← cellsOf_append, List.take_append_drop]
  have hlt : j < (cellsOf (rs.take k)).length := by
    rcases Nat.lt_or_ge j (cellsOf (rs.take k)).length with h' | h'
    · exact h'
    · simp [List.getElem?_eq_none h'] at h
  rw [e, List.getElem?_append_left hlt]; exact h
theorem cellsOf_drop {rs : List Row} {k j : Nat} {u : Value} (hk : k ≤ rs.length) (h : (cellsOf (rs.drop k))[j]? = some u) : (cellsOf rs)[k * 3 + j]? = some u := by
  have e : cellsOf rs = cellsOf (rs.take k) ++ cellsOf (rs.drop k) := by rw [← cellsOf_append, List.take_append_drop]
  have hl : (cellsOf (rs.take k)).length = k * 3 := by rw [cellsOf_length, List.length_take]; omega
  rw [e, List.getElem?_append_right (by omega), hl]
  have e' : k * 3 + j - k * 3 = j := by omega
  rw [e']; exact h
theorem RowsOwn.take {w : World} {base : Nat} {rs : List Row} {bs : List Batch} (h : RowsOwn w base rs bs) (k : Nat) : RowsOwn w base (rs.take k) (bs.take k) :=
  ⟨by rw [List.length_take, List.length_take, h.1], fun i r x hr hx => by
    rw [List.getElem?_take] at hr hx
    split at hr
    · rename_i hi
      rw [if_pos hi] at hx
      exact h.2 i r x hr hx
    · simp at hr⟩
theorem RowsOwn.drop {w : World} {base : Nat} {rs : List Row} {bs : List Batch} (h : RowsOwn w base rs bs) (k : Nat) : RowsOwn w base (rs.drop k) (bs.drop k) :=
  ⟨by rw [List.length_drop, List.length_drop, h.1], fun i r x hr hx => by
    rw [List.getElem?_drop] at hr hx
    exact h.2 _ r x hr hx⟩
/-- The rows of a row of the call's own, and where their cells lie. -/
theorem OwnBs.rows {w : World} {base : Nat} {a : Option Addr} {n c : Nat} {bs : List Batch} (h : OwnBs w base (.slice a n c) bs) : ∃ rs, RowsOwn w base rs bs ∧ ∀ (j : Nat) u, (cellsOf rs)[j]? = some u → ∃ g, a = some ⟨g, 0, none⟩ ∧ w.cell? ⟨g, j, none⟩ = some u := by
  obtain ⟨rs, h1, h2⟩ := h
  refine ⟨rs, h2, fun j u hj => ?_⟩
  obtain ⟨g, cap, e, _, hc, _⟩ := own_cell h1 hj
  simp only [Value.slice.injEq] at e
  exact ⟨g, e.1, hc⟩
theorem OwnBs.made (w : World) (base : Nat) (hb : base ≤ w.heap.size) : OwnBs (w.alloc (.cells #[] 32)) base (.slice (some ⟨w.heap.size, 0, none⟩) 0 0) [] :=
  ⟨[], World.ownsRow_made (base := base) (e := 32) (size := 3) w #[] 0 hb (by unfold maxLen; omega) (by simp), rfl, fun i r x h => by simp at h⟩
theorem RowsOwn.low {w : World} {base base' : Nat} {rs : List Row} {bs : List Batch} (h : RowsOwn w base rs bs) (hb : base' ≤ base) : RowsOwn w base' rs bs :=
  ⟨h.1, fun i r x hr hx => by
    obtain ⟨e1, e2, e3, e4, e5, e6⟩ := h.2 i r x hr hx
    exact ⟨e1, e2, e3.low hb, e4, e5.low hb, e6⟩⟩
theorem OwnBs.low {w : World} {base base' : Nat} {v : Value} {bs : List Batch} (h : OwnBs w base v bs) (hb : base' ≤ base) : OwnBs w base' v bs := by
  obtain ⟨rs, k1, k2⟩ := h
  refine ⟨rs, ⟨k1.1, ?_⟩, k2.low hb⟩
  rcases k1.2 with k3 | ⟨g, cap, cur, hv, hg, r⟩
  · exact Or.inl k3
  · exact Or.inr ⟨g, cap, cur, hv, Nat.le_trans hb hg, r⟩
/-- A store into a record that is neither. -/
theorem OwnBs.stored {w : World} {base : Nat} {v : Value} {bs : List Batch} (h : OwnBs w base v bs) {X : Nat} {t : TypeId} {l : List Value} (hr : Rec w X t l) (h1 : (t == 9) = false) (h2 : (t == 32) = false) (i : Nat) (u : Value) : OwnBs (w.setCell ⟨X, i, none⟩ u) base v bs := by
  obtain ⟨rs, k1, k2⟩ := h
  refine ⟨rs, World.ownsRow.kept k1 (gb_store w X i u) (Or.inr (fun e => hr.not_row h2 k1 e.symm)), k2.keep (gb_store w X i u) (fun k c e hk => ?_)⟩
  simp only [Option.some.injEq] at e
  subst e
  rw [show w.heap[X]? = _ from hr] at hk
  simp only [Option.some.injEq, Obj.cells.injEq] at hk
  simp [hk.2.1] at h1
theorem OwnL.stored {w : World} {base : Nat} {v : Value} {ss : List Str} (h : OwnL w base v ss) {X : Nat} {t : TypeId} {l : List Value} (hr : Rec w X t l) (h1 : (t == 9) = false) (i : Nat) (u : Value) : OwnL (w.setCell ⟨X, i, none⟩ u) base v ss := by
  refine h.keep (gb_store w X i u) (fun k c e hk => ?_)
  simp only [Option.some.injEq] at e
  subst e
  rw [show w.heap[X]? = _ from hr] at hk
  simp only [Option.some.injEq, Obj.cells.injEq] at hk
  simp [hk.2.1] at h1
theorem RowsOwn.one {w : World} {base : Nat} {r : Row} {x : Batch} (h : RowOwn w base r x) : RowsOwn w base [r] [x] :=
  RowsOwn.snoc (rs := []) (bs := []) ⟨rfl, fun i r x h => by simp at h⟩ h
theorem one_cells (w : World) (t : TypeId) (r : Row) (j : Nat) (u : Value) (hj : (cellsOf [r])[j]? = some u) : ∃ ad, some (⟨w.heap.size, 0, none⟩ : Addr) = some ad ∧ (w.alloc (.cells #[.string (S r.name), r.has, r.needs] t)).cell? (ad.add j) = some u :=
  ⟨_, rfl, by rw [add_plain, Nat.zero_add]; exact (Rec.new w t (cellsOf [r])).cell hj⟩
theorem take_bs {bs : List Batch} {k : Nat} (h : k < bs.length) : bs.take (k + 1) = bs.take k ++ [nthB bs k] := by
  rw [List.take_succ_eq_append_getElem h, nthB_get h]

theorem info_batch : ∃ i, Qry.prog.info? 32 = some i ∧ i.zero = some (.agg #[.string (S []), .slice none 0 0, .slice none 0 0]) ∧ i.size = 3 ∧ i.bytes = 64 := by
  obtain ⟨i, hi, hzz⟩ := Option.map_eq_some_iff.1 Qry.infoBatch
  simp only [Prod.mk.injEq] at hzz
  exact ⟨i, hi, hzz.1, hzz.2.1, hzz.2.2⟩

/-- Rows of batches appended to a row of the call's own. -/
theorem wp_rows {o : Oper} {a : Act} {w : World} {K : Act → World → Prop} {Q : Exit → Act → World → Prop} (s x : Operand)
    (ho : o.op = .call { callee := .builtin .append, args := #[s, x], argTypes := #[24, 24] })
    {base : Nat} {v : Value} {L : List Batch} (hs : a.eval s = v) (hown : OwnBs w base v L) {src : Option Addr} {m c : Nat} {M : List Batch} {rs : List Row} (hx : a.eval x = .slice src m c) (hm : M.length = m)
    (hrs : ∀ j u, (cellsOf rs)[j]? = some u → ∃ ad, src = some ad ∧ w.cell? (ad.add j) = some u) (hM : RowsOwn w base rs M)
    (hlen : L.length + M.length ≤ 2199023255552) (hbase : base ≤ w.heap.size)
    (h : ∀ v' w', OwnBs w' base v' (L ++ M) → w.grownBy w' v.ownBlock → (v'.ownBlock = v.ownBlock ∨ v'.ownBlock = some w.heap.size) → K (a.put o.dst v') w') : o.wp Qry.prog a w K Q := by
  obtain ⟨i0, hi, hz0, hz1, hz2⟩ := info_batch
  obtain ⟨rs0, h1, h2⟩ := hown
  have hl1 := h2.1
  have hl2 := hM.1
  have hone : ∀ u ∈ cellsOf rs, u.oneCell' = true := by
    intro u hu
    obtain ⟨r, hr, hur⟩ := List.mem_flatMap.1 hu
    obtain ⟨i, hi, e⟩ := List.getElem_of_mem hr
    have hiM : i < M.length := by rw [← hl2]; exact hi
    obtain ⟨_, _, e3, e4, e5, e6⟩ := hM.2 i r _ (by rw [List.getElem?_eq_getElem hi, e]) (List.getElem?_eq_getElem hiM)
    obtain ⟨a1, c1, f1, _⟩ := e3.at' e4
    obtain ⟨a2, c2, f2, _⟩ := e5.at' e6
    simp only [Row.cells, List.mem_cons, List.not_mem_nil, or_false] at hur
    rcases hur with rfl | rfl | rfl
    · rfl
    · rw [f1]; rfl
    · rw [f2]; rfl
  refine wp_app w s x 24 ho base 32 i0 _ 3 64 (uQ Tryz.underlying24) hi hz0 hz1 hz2 rfl (by decide) v _ _ hs h1 src m c (cellsOf rs) hx (by rw [cellsOf_length, hl2, hm]) hrs hone (by unfold maxLen; omega) (by omega) hbase (fun v' w' g2 g3 g4 => h v' w' ⟨rs0 ++ rs, ?_, ?_⟩ g3 g4)
  · rw [cellsOf_append, List.length_append, hl2, hm]; exact g2
  · have hne := fun k c => row_ne h1 k c
    have k1 := h2.keep g3 hne
    have k2 := hM.keep g3 hne
    refine ⟨by rw [List.length_append, List.length_append, k1.1, k2.1], fun i r y hr hy => ?_⟩
    rcases Nat.lt_or_ge i rs0.length with hi | hi
    · rw [List.getElem?_append_left hi] at hr
      rw [List.getElem?_append_left (by rw [← hl1]; exact hi)] at hy
      exact k1.2 i r y hr hy
    · rw [List.getElem?_append_right hi] at hr
      rw [List.getElem?_append_right (by rw [← hl1]; exact hi), ← hl1] at hy
      exact k2.2 _ r y hr hy
end Go.Proofs.YtdafpnpfcmgfcaaGreat
namespace Go.Proofs.YtdafpnpfcmgfcaaGreat
open Go.RowKit
attribute [local go_sem] S_toList S_size S_get

set_option maxRecDepth 100000 in
set_option maxHeartbeats 1000000 in
theorem l1Copy_any (b : Book) (a1 a2 : Option Addr) (c1 c2 : Nat) (w : World) (hb : BookAt w a1 a2 b) :
    Calls Qry.prog 51 #[.agg #[.slice a1 b.things.length c1, .slice a2 b.batches.length c2]] w fun e w' =>
      ∃ v1 v2, e = .returned (.agg #[v1, v2]) ∧ Ext w w' ∧ OwnL w' w.heap.size v1 b.things ∧ OwnBs w' w.heap.size v2 b.batches := by
  have hn := hb.2.1
  have e2 : ∀ o1 o2, Ext w ((w.alloc o1).alloc o2) := fun o1 o2 => ((Below.refl _ _).alloc (Nat.le_refl _) _).alloc (by simp) _
  go_enter Qry.func51, Tryz.ntmps51
  go_wp2_with fail
  refine (l1Names_any _ _ _ _ (hb.1.ext (e2 _ _))).mono ?_
  rintro e w1 ⟨v1, rfl, hE1, ho1⟩
  obtain ⟨x1, y1, rfl⟩ := own_sl ho1
  have HE1 := hid (Ext.tr (e2 _ _) hE1)
  have HO1 := hid ho1
  have hx0 : w1.cell? ⟨w.heap.size, 0, none⟩ = some (.slice a1 b.things.length c1) := (hE1.cell (p := ⟨w.heap.size, 0, none⟩) (by simp; omega)).trans (by simp)
  have hx1 : w1.cell? ⟨w.heap.size, 1, none⟩ = some (.slice a2 b.batches.length c2) := (hE1.cell (p := ⟨w.heap.size, 1, none⟩) (by simp; omega)).trans (by simp)
  have HR2 : Hid (Rec w1 (w.heap.size + 1) 26 [.slice none 0 0, .slice none 0 0]) := by
    have h := (Rec.new (w.alloc (.cells #[.slice a1 b.things.length c1, .slice a2 b.batches.length c2] 26)) 26 [.slice none 0 0, .slice none 0 0]).ext hE1
    have h' : Rec w1 (w.heap.size + 1) 26 [.slice none 0 0, .slice none 0 0] := by simpa using h
    exact h'
  have hz1 := hE1.size
  simp at hz1
  clear hE1 ho1
  go_wp2_with fail
  have HR1 : Hid (Rec (w1.alloc (.cells #[.slice x1 b.things.length y1, .slice none 0 0] 26)) w1.heap.size 26 [.slice x1 b.things.length y1, .slice none 0 0]) := Rec.new w1 _ _
  have HB1 : Hid (Below w1.heap.size w1 (w1.alloc (.cells #[.slice x1 b.things.length y1, .slice none 0 0] 26))) := (Below.refl _ _).alloc (Nat.le_refl _) _
  go_loopw [4] (fun i wr => ∃ (k : Nat) (v2 : Value), k ≤ b.batches.length ∧ i = .int .i64 k ∧ Below w1.heap.size w1 wr ∧ Rec wr w1.heap.size 26 [.slice x1 b.things.length y1, v2] ∧ OwnBs wr (w1.heap.size + 1) v2 (b.batches.take k)) (fun i _ => b.batches.length - (intOf i).toNat)
  case atStart => exact ⟨0, _, Nat.zero_le _, rfl, HB1.out, HR1.out, by simpa using OwnBs.nil _ _⟩
  case round =>
    clear HR1 HB1
    obtain ⟨k, v2, hk, rfl, hbel, hrec, hown⟩ := hrel
    have hy0 : wr.cell? ⟨w.heap.size, 0, none⟩ = some (.slice a1 b.things.length c1) := (hbel.cell (p := ⟨w.heap.size, 0, none⟩) (by simp; omega)).trans hx0
    have hy1 : wr.cell? ⟨w.heap.size, 1, none⟩ = some (.slice a2 b.batches.length c2) := (hbel.cell (p := ⟨w.heap.size, 1, none⟩) (by simp; omega)).trans hx1
    have hb' := hb.ext (Ext.tr HE1.out hbel)
    have HB := hid hbel
    have HR := hid hrec
    have HO := hid hown
    clear hbel hown
    by_cases hlt : k < b.batches.length
    · obtain ⟨ba, oa, rfl, hl, d1, g1, d2, g2, p0, p1, p2, s1, s2⟩ := hb'.2.2 k hlt
      obtain ⟨av, cv, rfl⟩ := HO.out.len
      have hlk : (b.batches.take k).length = k := by simp; omega
      have hlk1 : (b.batches.take k ++ [nthB b.batches k]).length = k + 1 := by rw [List.length_append, hlk]; rfl
      rw [hlk] at HO HR hrec
      have hc1 := hrec.cell (i := 1) rfl
      clear hrec
      go_wp2_with fail
      refine wp_region_T (fun w' => w'.cell? ⟨w1.heap.size, 1, none⟩ = some (.slice av k cv) ∧ w'.cell? ⟨w.heap.size, 1, none⟩ = some (.slice (some ⟨ba, oa, none⟩) b.batches.length c2) ∧ w'.cell? ⟨ba, oa + k * 3, none⟩ = some (.string (S (nthB b.batches k).name)) ∧ w'.cell? ⟨ba, oa + k * 3 + 1, none⟩ = some (.slice d1 (nthB b.batches k).has.length g1) ∧ w'.cell? ⟨ba, oa + k * 3 + 2, none⟩ = some (.slice d2 (nthB b.batches k).needs.length g2)) 26 (by kernel_rfl) ⟨hc1, hy1, p0, p1, p2⟩ (fun hS => ?_)
      refine wpT_take 0 (v := ?_) rfl rfl (by kernel_rfl) (by kernel_rfl) (by kernel_rfl) (by kernel_rfl) (fun _ _ _ h => h) hS rfl (by intro w0 hw0; (try dsimp only at hw0); go_simp; try rfl) ?_
      try simp only [List.set]
      refine wpT_take 1 (v := ?_) rfl rfl (by kernel_rfl) (by kernel_rfl) (by kernel_rfl) (by kernel_rfl) (fun _ _ _ h => h) hS rfl (by intro w0 hw0; (try dsimp only at hw0); go_simp; try rfl) ?_
      try simp only [List.set]
      refine wpT_take 2 (v := ?_) rfl rfl (by kernel_rfl) (by kernel_rfl) (by kernel_rfl) (by kernel_rfl) (fun _ _ _ h => h) hS rfl (by intro w0 hw0; (try dsimp only at hw0); go_simp; try rfl) ?_
      try simp only [List.set]
      refine wpT_take 3 (v := ?_) rfl rfl (by kernel_rfl) (by kernel_rfl) (by kernel_rfl) (by kernel_rfl) (fun _ _ _ h => h) hS rfl (by intro w0 hw0; (try dsimp only at hw0); go_simp; try rfl) ?_
      try simp only [List.set]
      refine wpT_take 4 (v := ?_) rfl rfl (by kernel_rfl) (by kernel_rfl) (by kernel_rfl) (by kernel_rfl) (fun _ _ _ h => h) hS rfl (by intro w0 hw0; (try dsimp only at hw0); go_simp; try rfl) ?_
      try simp only [List.set]
      refine wpT_take 5 (v := ?_) rfl rfl (by kernel_rfl) (by kernel_rfl) (by kernel_rfl) (by kernel_rfl) (fun _ _ _ h => h) hS rfl (by intro w0 hw0; (try dsimp only at hw0); go_simp; try rfl) ?_
      try simp only [List.set]
      refine wpT_take 6 (v := ?_) rfl rfl (by kernel_rfl) (by kernel_rfl) (by kernel_rfl) (by kernel_rfl) (fun _ _ _ h => h) hS rfl (by intro w0 hw0; (try dsimp only at hw0); go_simp; try rfl) ?_
      try simp only [List.set]
      refine wpT_take 7 (v := ?_) rfl rfl (by kernel_rfl) (by kernel_rfl) (by kernel_rfl) (by kernel_rfl) (fun _ _ _ h => h) hS rfl (by intro w0 hw0; (try dsimp only at hw0); go_simp; try rfl) ?_
      try simp only [List.set]
      refine wpT_take 8 (v := ?_) rfl rfl (by kernel_rfl) (by kernel_rfl) (by kernel_rfl) (by kernel_rfl) (fun _ _ _ h => h) hS rfl (by intro w0 hw0; (try dsimp only at hw0); go_simp; try rfl) ?_
      try simp only [List.set]
      refine wpT_take 9 (v := ?_) rfl rfl (by kernel_rfl) (by kernel_rfl) (by kernel_rfl) (by kernel_rfl) (fun _ _ _ h => h) hS rfl (by intro w0 hw0; (try dsimp only at hw0); go_simp; try rfl) ?_
      try simp only [List.set]
      refine wpT_take 10 (v := ?_) rfl rfl (by kernel_rfl) (by kernel_rfl) (by kernel_rfl) (by kernel_rfl) (fun _ _ _ h => h) hS rfl (by intro w0 hw0; (try dsimp only at hw0); go_simp; try rfl) ?_
      try simp only [List.set]
      refine wpT_take 11 (v := ?_) rfl rfl (by kernel_rfl) (by kernel_rfl) (by kernel_rfl) (by kernel_rfl) (fun _ _ _ h => h) hS rfl (by intro w0 hw0; (try dsimp only at hw0); go_simp; try rfl) ?_
      try simp only [List.set]
      refine wpT_take 12 (v := ?_) rfl rfl (by kernel_rfl) (by kernel_rfl) (by kernel_rfl) (by kernel_rfl) (fun _ _ _ h => h) hS rfl (by intro w0 hw0; (try dsimp only at hw0); go_simp; try rfl) ?_
      try simp only [List.set]
      refine wpT_take 13 (v := ?_) rfl rfl (by kernel_rfl) (by kernel_rfl) (by kernel_rfl) (by kernel_rfl) (fun _ _ _ h => h) hS rfl (by intro w0 hw0; (try dsimp only at hw0); go_simp; try rfl) ?_
      try simp only [List.set]
      refine wpT_take 15 (v := ?_) rfl rfl (by kernel_rfl) (by kernel_rfl) (by kernel_rfl) (by kernel_rfl) (fun _ _ _ h => h) hS rfl (by intro w0 hw0; (try dsimp only at hw0); go_simp; try rfl) ?_
      try simp only [List.set]
      refine wpT_take 16 (v := ?_) rfl rfl (by kernel_rfl) (by kernel_rfl) (by kernel_rfl) (by kernel_rfl) (fun _ _ _ h => h) hS rfl (by intro w0 hw0; (try dsimp only at hw0); go_simp; try rfl) ?_
      try simp only [List.set]
      refine wpT_take 17 (v := ?_) rfl rfl (by kernel_rfl) (by kernel_rfl) (by kernel_rfl) (by kernel_rfl) (fun _ _ _ h => h) hS rfl (by intro w0 hw0; (try dsimp only at hw0); go_simp; try rfl) ?_
      try simp only [List.set]
      refine wpT_take 18 (v := ?_) rfl rfl (by kernel_rfl) (by kernel_rfl) (by kernel_rfl) (by kernel_rfl) (fun _ _ _ h => h) hS rfl (by intro w0 hw0; (try dsimp only at hw0); go_simp; try rfl) ?_
      try simp only [List.set]
      refine wpT_take 19 (v := ?_) rfl rfl (by kernel_rfl) (by kernel_rfl) (by kernel_rfl) (by kernel_rfl) (fun _ _ _ h => h) hS rfl (by intro w0 hw0; (try dsimp only at hw0); go_simp; try rfl) ?_
      try simp only [List.set]
      refine wpT_take 20 (v := ?_) rfl rfl (by kernel_rfl) (by kernel_rfl) (by kernel_rfl) (by kernel_rfl) (fun _ _ _ h => h) hS rfl (by intro w0 hw0; (try dsimp only at hw0); go_simp; try rfl) ?_
      try simp only [List.set]
      refine wpT_one 14 rfl (by kernel_rfl) rfl rfl (fun K hK => ?_)
      go_simp
      refine (l1Names_any _ _ _ _ (s1.ext (ext_drewN wr 1))).mono ?_
      rintro e w2 ⟨u1, rfl, hE2, ho2⟩
      obtain ⟨x2, y2, rfl⟩ := own_sl ho2
      go_wp2_with fail
      refine hK.out _ _ ⟨hE2.keep hS.1, hE2.keep hS.2.1, hE2.keep hS.2.2.1, hE2.keep hS.2.2.2.1, hE2.keep hS.2.2.2.2⟩ (fun hS1 => ?_)
      clear hK hS
      have hS := hS1
      clear hS1
      try clear K
      try simp only [put_some, List.set]
      refine wpT_one 21 rfl (by kernel_rfl) rfl rfl (fun K hK => ?_)
      go_simp
      refine (l1Names_any _ _ _ _ ((s2.ext (ext_drewN wr 1)).ext hE2)).mono ?_
      rintro e w3 ⟨u3, rfl, hE3, ho3⟩
      obtain ⟨x3, y3, rfl⟩ := own_sl ho3
      go_wp2_with fail
      refine hK.out _ _ ⟨hE3.keep hS.1, hE3.keep hS.2.1, hE3.keep hS.2.2.1, hE3.keep hS.2.2.2.1, hE3.keep hS.2.2.2.2⟩ (fun hS1 => ?_)
      clear hK hS
      have hS := hS1
      clear hS1
      try clear K
      try simp only [put_some, List.set]
      refine wpT_take 22 (v := ?_) rfl rfl (by kernel_rfl) (by kernel_rfl) (by kernel_rfl) (by kernel_rfl) (fun _ _ _ h => h) hS rfl (by intro w0 hw0; (try dsimp only at hw0); go_simp; try rfl) ?_
      try simp only [List.set]
      refine wpT_one 23 rfl (by kernel_rfl) rfl rfl (fun K hK => ?_)
      go_simp
      refine hK.out _ _ ⟨(ext_alloc _ _).keep hS.1, (ext_alloc _ _).keep hS.2.1, (ext_alloc _ _).keep hS.2.2.1, (ext_alloc _ _).keep hS.2.2.2.1, (ext_alloc _ _).keep hS.2.2.2.2⟩ (fun hS1 => ?_)
      clear hK hS
      have hS := hS1
      clear hS1
      try clear K
      try simp only [put_some, List.set]
      have hE4 : Ext wr w3 := Ext.tr (Ext.tr (ext_drewN wr 1) hE2) hE3
      have hzr := HR.out.lt
      have hz2 : wr.heap.size ≤ w2.heap.size := hE2.size
      have hz3 := hE3.size
      have HRow : Hid (RowOwn (w3.alloc (.cells #[.string (S (nthB b.batches k).name), .slice x2 (nthB b.batches k).has.length y2, .slice x3 (nthB b.batches k).needs.length y3] 32)) (w1.heap.size + 1) ⟨(nthB b.batches k).name, .slice x2 (nthB b.batches k).has.length y2, .slice x3 (nthB b.batches k).needs.length y3⟩ (nthB b.batches k)) :=
        ⟨rfl, hl, ((ho2.low (by show w1.heap.size + 1 ≤ wr.heap.size; omega)).ext hE3).ext (ext_alloc _ _), s1.short, (ho3.low (by omega)).ext (ext_alloc _ _), s2.short⟩
      have hba : ba < w1.heap.size := by
        obtain ⟨_, _, e, _, _, _, _, _, q0, _⟩ := hb.2.2 k hlt
        cases e
        have h : ba < w.heap.size := cell_lt q0
        omega
      refine wpT_one 24 rfl (by kernel_rfl) rfl rfl (fun K hK => ?_)
      refine wp_rows (L := b.batches.take k) (M := [nthB b.batches k]) _ _ rfl rfl (HO.out.ext (Ext.tr hE4 (ext_alloc _ _))) rfl rfl (one_cells w3 32 ⟨(nthB b.batches k).name, .slice x2 (nthB b.batches k).has.length y2, .slice x3 (nthB b.batches k).needs.length y3⟩) (RowsOwn.one HRow.out) (by simp; omega) (by simp; omega) (fun v' w4 h2 h3 h4 => ?_)
      obtain ⟨a4, c4, rfl⟩ := h2.len
      rw [hlk1] at h2
      have hob : ∀ g, (Value.slice av k cv).ownBlock = some g → w1.heap.size + 1 ≤ g := fun g hg => by
        obtain ⟨rs, q1, _⟩ := HO.out
        exact (q1.lt g hg).1
      have HR4 : Hid (Rec w4 w1.heap.size 26 [.slice x1 b.things.length y1, .slice av k cv]) := (HR.out.ext (Ext.tr hE4 (ext_alloc _ _))).kept h3 (fun e => by have := hob _ e.symm; omega)
      have hB4 : Below w1.heap.size wr w4 := (Below.mono (Ext.tr hE4 (ext_alloc _ _)) (by omega)).grown h3 (by simp; omega) (fun g hg => by have := hob g hg; omega)
      refine hK.out _ _ ⟨HR4.out.cell rfl, (hB4.cell (p := ⟨w.heap.size, 1, none⟩) (by simp; omega)).trans hy1, (hB4.cell (p := ⟨ba, oa + k * 3, none⟩) hba).trans p0, (hB4.cell (p := ⟨ba, oa + k * 3 + 1, none⟩) hba).trans p1, (hB4.cell (p := ⟨ba, oa + k * 3 + 2, none⟩) hba).trans p2⟩ (fun hS1 => ?_)
      clear hK hS
      have hS := hS1
      clear hS1
      try clear K
      try simp only [put_some, List.set]
      refine wpT_take 25 (v := ?_) rfl rfl (by kernel_rfl) (by kernel_rfl) (by kernel_rfl) (by kernel_rfl) (fun _ _ _ h => h) hS rfl (by intro w0 hw0; (try dsimp only at hw0); go_simp; try rfl) ?_
      try simp only [List.set]
      have HN : Hid (OwnBs (w4.setCell ⟨w1.heap.size, 1, none⟩ (.slice a4 (k + 1) c4)) (w1.heap.size + 1) (.slice a4 (k + 1) c4) (b.batches.take (k + 1))) := by
        rw [take_bs hlt]; exact h2.stored HR4.out rfl rfl _ _
      have HRN := hid (HR4.out.set 1 (.slice a4 (k + 1) c4))
      have HBN : Hid (Below w1.heap.size w1 (w4.setCell ⟨w1.heap.size, 1, none⟩ (.slice a4 (k + 1) c4))) := (HB.out.trans hB4).setCell (Nat.le_refl _) _
      have hq1 := HR4.out.cell (i := 1) rfl
      have hq2 := HR4.out.frozen 1
      clear hS h2 h3 h4 HR4 hB4 HRow hE2 hE3 hE4 ho2 ho3 s1 s2 p0 p1 p2 hb' hy0 hy1
      refine wpT_last rfl (by kernel_rfl) (by kernel_rfl) rfl (fun K hK => ?_)
      go_simp
      refine hK.out _ _ ?_
      clear hK
      go_wp2
      go_roundw
      case rel => exact ⟨k + 1, _, by omega, by go_num, HBN.out, HRN.out, HN.out⟩
      case measure => simp [intOf]; omega
    · have e : k = b.batches.length := by omega
      subst e
      obtain ⟨av, cv, rfl⟩ := HO.out.len
      rw [List.take_length] at *
      have hq0 := HR.out.cell (i := 0) rfl
      have hq1 := HR.out.cell (i := 1) rfl
      have HR3 := hid (HR2.out.ext HB.out)
      have t0 := HR3.out.cell (i := 0) rfl
      have t1 := HR3.out.cell (i := 1) rfl
      have f0 := HR3.out.frozen 0
      have f1 := HR3.out.frozen 1
      have HO3 := hid ((HO1.out.low (base' := w.heap.size) (by simp; omega)).ext HB.out)
      have HE3 := hid (Ext.tr HE1.out HB.out)
      clear HB HR hrec HO1 HE1 hy0 hb'
      go_wp2
      refine bodyPost_ret (v := .agg #[.slice x1 b.things.length y1, .slice av b.batches.length cv]) (by simp [results, Tryz.results51, go_sem, t0, t1]) rfl ⟨_, _, rfl, ?_, ?_, ?_⟩
      · exact (HE3.out.setCell (by simp) _).setCell (by simp) _
      · exact (HO3.out.stored HR3.out rfl _ _).stored (HR3.out.set _ _) rfl _ _
      · exact ((HO.out.low (base' := w.heap.size) (by omega)).stored HR3.out rfl rfl _ _).stored (HR3.out.set _ _) rfl rfl _ _
end Go.Proofs.YtdafpnpfcmgfcaaGreat
