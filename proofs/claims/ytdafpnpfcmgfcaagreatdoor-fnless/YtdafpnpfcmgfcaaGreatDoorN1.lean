/- Rows that lie apart: what a call's own lists keep while another grows. -/
import Derived.Test.YtdafpnpfcmgfcaaGreatDoorS2
namespace Go.Proofs.YtdafpnpfcmgfcaaGreatDoor
open Go.RowKit
attribute [local go_sem] S_toList S_size S_get

theorem own_far {w w' : World} {base : Nat} {t : TypeId} {z : Nat} {v : Value} {n : Nat} {xs : List Value} (h : w.ownsRow base t z v n xs) {row : Option Nat} (g : w.grownBy w' row) (hr : ∀ k, row = some k → k < base) : w'.ownsRow base t z v n xs := by
  refine World.ownsRow.kept h g ?_
  cases hv : v.ownBlock with
  | none => exact Or.inl rfl
  | some b =>
    refine Or.inr (fun e => ?_)
    have h1 := (h.lt b hv).1
    have h2 := hr b e.symm
    omega
theorem OwnL.far {w w' : World} {base : Nat} {v : Value} {L : List Str} (h : OwnL w base v L) {row : Option Nat} (g : w.grownBy w' row) (hr : ∀ k, row = some k → k < base) : OwnL w' base v L := own_far h g hr
theorem OwnBs.far {w w' : World} {base : Nat} {v : Value} {bs : List Batch} (h : OwnBs w base v bs) {row : Option Nat} (g : w.grownBy w' row) (hr : ∀ k, row = some k → k < base) : OwnBs w' base v bs := by
  obtain ⟨rs, h1, h2⟩ := h
  exact ⟨rs, own_far h1 g hr, h2.1, fun i r x hri hx => by
    obtain ⟨e1, e2, e3, e4, e5, e6⟩ := h2.2 i r x hri hx
    exact ⟨e1, e2, e3.far g hr, e4, e5.far g hr, e6⟩⟩
/-- Two values lie in two rows. -/
def NE (u v : Value) : Prop := ∀ g, u.ownBlock = some g → v.ownBlock ≠ some g
theorem NE.symm {u v : Value} (h : NE u v) : NE v u := fun g h1 h2 => h g h2 h1
theorem NE.nil (u : Value) : NE u (.slice none 0 0) := fun g _ h => by simp [Value.ownBlock] at h
theorem NE.next {w : World} {u u' v : Value} {base n : Nat} {t : TypeId} {z : Nat} {xs : List Value} (h : NE u v) (ho : w.ownsRow base t z v n xs) (hu : u'.ownBlock = u.ownBlock ∨ u'.ownBlock = some w.heap.size) : NE u' v := by
  intro g hg hv
  rcases hu with hu | hu
  · exact h g (by rw [← hu]; exact hg) hv
  · rw [hu] at hg
    cases hg
    have := (ho.lt _ hv).2
    omega
theorem own_ne {w w' : World} {u v : Value} {base n : Nat} {t : TypeId} {z : Nat} {xs : List Value} (h : w.ownsRow base t z v n xs) (g : w.grownBy w' u.ownBlock) (ne : NE u v) : w'.ownsRow base t z v n xs := by
  refine World.ownsRow.kept h g ?_
  cases hv : v.ownBlock with
  | none => exact Or.inl rfl
  | some b => exact Or.inr (fun e => ne b e.symm hv)
theorem RowsOwn.ne {w w' : World} {u : Value} {base : Nat} {rs : List Row} {bs : List Batch} (h : RowsOwn w base rs bs) (g : w.grownBy w' u.ownBlock) (hn : ∀ r ∈ rs, NE u r.has ∧ NE u r.needs) : RowsOwn w' base rs bs :=
  ⟨h.1, fun i r x hr hx => by
    obtain ⟨e1, e2, e3, e4, e5, e6⟩ := h.2 i r x hr hx
    have hm := hn r (List.mem_of_getElem? hr)
    exact ⟨e1, e2, own_ne e3 g hm.1, e4, own_ne e5 g hm.2, e6⟩⟩
theorem RowsOwn.far {w w' : World} {base : Nat} {rs : List Row} {bs : List Batch} (h : RowsOwn w base rs bs) {row : Option Nat} (g : w.grownBy w' row) (hr : ∀ k, row = some k → k < base) : RowsOwn w' base rs bs :=
  ⟨h.1, fun i r x hri hx => by
    obtain ⟨e1, e2, e3, e4, e5, e6⟩ := h.2 i r x hri hx
    exact ⟨e1, e2, e3.far g hr, e4, e5.far g hr, e6⟩⟩
theorem RowsOwn.mem {w : World} {base : Nat} {rs : List Row} {bs : List Batch} (h : RowsOwn w base rs bs) {r : Row} (hr : r ∈ rs) : ∃ x, OwnL w base r.has x ∧ ∃ y, OwnL w base r.needs y := by
  obtain ⟨i, hi, e⟩ := List.getElem_of_mem hr
  have hx : i < bs.length := by rw [← h.1]; exact hi
  obtain ⟨_, _, e3, _, e5, _⟩ := h.2 i r _ (by rw [List.getElem?_eq_getElem hi, e]) (List.getElem?_eq_getElem hx)
  exact ⟨_, e3, _, e5⟩

theorem NE.older {w : World} {u v : Value} {b1 n1 z1 b2 n2 z2 : Nat} {t1 t2 : TypeId} {xs1 xs2 : List Value} {w' : World} (h1 : w.ownsRow b1 t1 z1 u n1 xs1) (h2 : w'.ownsRow b2 t2 z2 v n2 xs2) (hb : w.heap.size ≤ b2) : NE u v := fun g e1 e2 => by
  have := (h1.lt g e1).2
  have := (h2.lt g e2).1
  omega
/-- One batch appended to a row of the call's own; the rows as they are. -/
theorem wpList_row {ops : Array Oper} {rest : List Oper} {o : Oper} {a : Act} {w : World} {Q : Exit → Act → World → Prop} (hgd : o.guard = none) (s x : Operand)
    (ho : o.op = .call { callee := .builtin .append, args := #[s, x], argTypes := #[24, 24] })
    {base : Nat} {v : Value} {rs : List Row} (hs : a.eval s = v) (hown : w.ownsRow base 73 3 v rs.length (cellsOf rs)) {src : Option Addr} {c : Nat} {r : Row} (hx : a.eval x = .slice src 1 c)
    (hrs : ∀ (j : Nat) u, (cellsOf [r])[j]? = some u → ∃ ad, src = some ad ∧ w.cell? (ad.add j) = some u) (h1 : ∀ u ∈ cellsOf [r], u.oneCell' = true) (hlen : rs.length ≤ 1000000) (hbase : base ≤ w.heap.size)
    (h : ∀ v' w', w'.ownsRow base 73 3 v' (rs ++ [r]).length (cellsOf (rs ++ [r])) → w.grownBy w' v.ownBlock → (v'.ownBlock = v.ownBlock ∨ v'.ownBlock = some w.heap.size) → wpList Tryz.prog ops Q rest (a.put o.dst v') w') : wpList Tryz.prog ops Q (o :: rest) a w := by
  obtain ⟨i0, hi, hz0, hz1, hz2⟩ := info_batch
  refine wpList_plain hgd fun _ hK => wp_app w s x 24 ho base 73 i0 _ 3 64 Tryz.underlying24 hi hz0 hz1 hz2 rfl (by decide) v _ _ hs hown src 1 c (cellsOf [r]) hx (by rw [cellsOf_length]; rfl) hrs h1 (by unfold maxLen; omega) (by omega) hbase (fun v' w' g2 g3 g4 => hK _ _ (h v' w' ?_ g3 g4))
  rw [cellsOf_append, List.length_append]; exact g2
theorem own_shape3 {w : World} {base : Nat} {t : TypeId} {z : Nat} {v : Value} {n : Nat} {xs : List Value} (h : w.ownsRow base t z v n xs) : ∃ a c, v = .slice a n c := by
  rcases h.2 with ⟨rfl, h0⟩ | ⟨g, cap, cur, rfl, _⟩
  · exact ⟨none, 0, by rw [h0]⟩
  · exact ⟨_, cap, rfl⟩
theorem row_one {w : World} {base : Nat} {r : Row} {x : Batch} (h : RowOwn w base r x) : ∀ u ∈ cellsOf [r], u.oneCell' = true := by
  intro u hu
  obtain ⟨_, _, e3, e4, e5, e6⟩ := h
  obtain ⟨a1, c1, f1, _⟩ := e3.at' e4
  obtain ⟨a2, c2, f2, _⟩ := e5.at' e6
  simp only [cellsOf, List.flatMap_cons, List.flatMap_nil, List.append_nil, Row.cells, List.mem_cons, List.not_mem_nil, or_false] at hu
  rcases hu with rfl | rfl | rfl
  · rfl
  · rw [f1]; rfl
  · rw [f2]; rfl
/-- All the lists of some batches. -/
def allV (rs : List Row) : List Value := rs.flatMap fun r => [r.has, r.needs]
theorem allV_snoc (rs : List Row) (r : Row) : allV (rs ++ [r]) = allV rs ++ [r.has, r.needs] := by simp [allV]
theorem mem_allV {rs : List Row} {r : Row} (h : r ∈ rs) : r.has ∈ allV rs ∧ r.needs ∈ allV rs := by
  constructor
  · exact List.mem_flatMap.2 ⟨r, h, by simp⟩
  · exact List.mem_flatMap.2 ⟨r, h, by simp⟩
/-- No two lists share a row. -/
def Dis (v1 : Value) (rs : List Row) : Prop := (allV rs).Pairwise NE ∧ ∀ v ∈ allV rs, NE v1 v
theorem Dis.snoc {v1 : Value} {rs : List Row} {r : Row} (h : Dis v1 rs) (h1 : ∀ v ∈ allV rs, NE v r.has ∧ NE v r.needs) (h2 : NE r.has r.needs) (h3 : NE v1 r.has ∧ NE v1 r.needs) : Dis v1 (rs ++ [r]) := by
  refine ⟨?_, fun v hv => ?_⟩
  · rw [allV_snoc, List.pairwise_append]
    refine ⟨h.1, by simp [h2], fun a ha b hb => ?_⟩
    simp only [List.mem_cons, List.not_mem_nil, or_false] at hb
    rcases hb with rfl | rfl
    · exact (h1 a ha).1
    · exact (h1 a ha).2
  · rw [allV_snoc, List.mem_append] at hv
    rcases hv with hv | hv
    · exact h.2 v hv
    · simp only [List.mem_cons, List.not_mem_nil, or_false] at hv
      rcases hv with rfl | rfl
      · exact h3.1
      · exact h3.2
theorem RowsOwn.memV {w : World} {base : Nat} {rs : List Row} {bs : List Batch} (h : RowsOwn w base rs bs) {v : Value} (hv : v ∈ allV rs) : ∃ L, OwnL w base v L := by
  obtain ⟨r, hr, hv⟩ := List.mem_flatMap.1 hv
  obtain ⟨_, k1, _, k2⟩ := h.mem hr
  simp only [List.mem_cons, List.not_mem_nil, or_false] at hv
  rcases hv with rfl | rfl
  · exact ⟨_, k1⟩
  · exact ⟨_, k2⟩
theorem wp_row {o : Oper} {a : Act} {w : World} {K : Act → World → Prop} {Q : Exit → Act → World → Prop} (s x : Operand)
    (ho : o.op = .call { callee := .builtin .append, args := #[s, x], argTypes := #[24, 24] })
    {base : Nat} {v : Value} {rs : List Row} (hs : a.eval s = v) (hown : w.ownsRow base 73 3 v rs.length (cellsOf rs)) {src : Option Addr} {c : Nat} {r : Row} (hx : a.eval x = .slice src 1 c)
    (hrs : ∀ (j : Nat) u, (cellsOf [r])[j]? = some u → ∃ ad, src = some ad ∧ w.cell? (ad.add j) = some u) (h1 : ∀ u ∈ cellsOf [r], u.oneCell' = true) (hlen : rs.length + 1 ≤ 2199023255552) (hbase : base ≤ w.heap.size)
    (h : ∀ v' w', w'.ownsRow base 73 3 v' (rs ++ [r]).length (cellsOf (rs ++ [r])) → w.grownBy w' v.ownBlock → (v'.ownBlock = v.ownBlock ∨ v'.ownBlock = some w.heap.size) → K (a.put o.dst v') w') : o.wp Tryz.prog a w K Q := by
  obtain ⟨i0, hi, hz0, hz1, hz2⟩ := info_batch
  refine wp_app w s x 24 ho base 73 i0 _ 3 64 Tryz.underlying24 hi hz0 hz1 hz2 rfl (by decide) v _ _ hs hown src 1 c (cellsOf [r]) hx (by rw [cellsOf_length]; rfl) hrs h1 (by unfold maxLen; omega) (by omega) hbase (fun v' w' g2 g3 g4 => h v' w' ?_ g3 g4)
  rw [cellsOf_append, List.length_append]; exact g2

end Go.Proofs.YtdafpnpfcmgfcaaGreatDoor
