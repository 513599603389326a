/- A book of the call's own: a batch cut out, laid in, a batch's lists exchanged; stores to boxes of books. -/
import Derived.Test.YtdafpnpfcmgfcabGreatDoorE4
import Derived.Test.YtdafpnpfcmgfcabGreatDoorE6
import Derived.Test.YtdafpnpfcmgfcabGreatDoorK7
namespace Go.Proofs.YtdafpnpfcmgfcabGreatDoor
open Go.RowKit
attribute [local go_sem] S_toList S_size S_get

theorem rec_no_str {w : World} {X : Nat} {t : TypeId} {l : List Value} (h : Rec w X t l) (ht : (t == 9) = false) (k : Nat) (c : Array Value) (e : some X = some k) (hk : w.heap[k]? = some (.cells c 9 (0, 0))) : False := by
  cases e
  rw [show w.heap[X]? = _ from h] at hk
  simp only [Option.some.injEq, Obj.cells.injEq] at hk
  rw [hk.2.1] at ht
  simp at ht
theorem OB.stored {w : World} {base : Nat} {v1 v2 : Value} {rs : List Row} {b : Book} (h : OB w base v1 v2 rs b) {X : Nat} {t : TypeId} {l : List Value} (hr : Rec w X t l) (h1 : (t == 9) = false) (h2 : (t == 46) = false) (i : Nat) (u : Value) : OB (w.setCell ⟨X, i, none⟩ u) base v1 v2 rs b :=
  ⟨h.ot.stored hr h1 _ _, h.st, World.ownsRow.kept h.ob (gb_store _ _ _ _) (Or.inr (fun e => hr.not_row h2 h.ob e.symm)), h.ow.keep (gb_store _ _ _ _) (rec_no_str hr h1), h.di⟩

theorem RowsOwn.app {w : World} {base : Nat} {rs rs' : List Row} {bs bs' : List Batch} (h : RowsOwn w base rs bs) (h' : RowsOwn w base rs' bs') : RowsOwn w base (rs ++ rs') (bs ++ bs') := by
  refine ⟨by rw [List.length_append, List.length_append, h.1, h'.1], fun i r x hr hx => ?_⟩
  rcases Nat.lt_or_ge i rs.length with hlt | hge
  · rw [List.getElem?_append_left hlt] at hr
    rw [List.getElem?_append_left (by rw [← h.1]; exact hlt)] at hx
    exact h.2 i r x hr hx
  · rw [List.getElem?_append_right hge] at hr
    rw [List.getElem?_append_right (by rw [← h.1]; exact hge), ← h.1] at hx
    exact h'.2 _ r x hr hx
theorem allV_sub {rs rs' : List Row} (h : rs'.Sublist rs) : (allV rs').Sublist (allV rs) := by
  induction h with
  | slnil => exact List.Sublist.refl _
  | cons a _ ih => exact (ih.cons _).cons _
  | cons_cons a _ ih => exact (ih.cons_cons _).cons_cons _
theorem Dis.sub {v1 : Value} {rs rs' : List Row} (h : Dis v1 rs) (hs : rs'.Sublist rs) : Dis v1 rs' :=
  ⟨h.1.sublist (allV_sub hs), fun v hv => h.2 v ((allV_sub hs).subset hv)⟩

/-- A batch cut out. -/
theorem OB.cut {w w' : World} {base p : Nat} {v1 v2 v' : Value} {rs : List Row} {b : Book} (h : OB w base v1 v2 rs b) (hp : p < b.batches.length) (g : w.grownBy w' v2.ownBlock)
    (ho : w'.ownsRow base 46 3 v' (b.batches.length - 1) (cellsOf (rs.take p ++ rs.drop (p + 1)))) : OB w' base v1 v' (rs.take p ++ rs.drop (p + 1)) ⟨b.things, b.batches.take p ++ b.batches.drop (p + 1)⟩ := by
  have hl := h.ow.1
  have hne := fun k c e hk => row_ne h.ob k c e hk
  refine ⟨h.ot.keep g hne, h.st, ?_, (RowsOwn.app (h.ow.take p) (h.ow.drop (p + 1))).keep g hne, h.di.sub (cut_sub rs p)⟩
  have e : (rs.take p ++ rs.drop (p + 1)).length = b.batches.length - 1 := by
    rw [List.length_append, List.length_take, List.length_drop, hl]; omega
  rw [e]; exact ho

theorem Dis.ins {v1 : Value} {rs : List Row} {r : Row} (p : Nat) (h : Dis v1 rs) (h1 : ∀ v ∈ allV rs, NE v r.has ∧ NE v r.needs) (h2 : NE r.has r.needs) (h3 : NE v1 r.has ∧ NE v1 r.needs) : Dis v1 (rs.take p ++ [r] ++ rs.drop p) := by
  have e : allV (rs.take p ++ [r] ++ rs.drop p) = allV (rs.take p) ++ [r.has, r.needs] ++ allV (rs.drop p) := by simp [allV]
  have hs : allV rs = allV (rs.take p) ++ allV (rs.drop p) := by
    unfold allV
    rw [← List.flatMap_append, List.take_append_drop]
  have hd := h.1
  rw [hs, List.pairwise_append] at hd
  refine ⟨?_, fun v hv => ?_⟩
  · rw [e, List.pairwise_append, List.pairwise_append]
    refine ⟨⟨hd.1, by simp [h2], fun a ha c hc => ?_⟩, hd.2.1, fun a ha c hc => ?_⟩
    · have := h1 a (by rw [hs]; exact List.mem_append.2 (Or.inl ha))
      simp only [List.mem_cons, List.not_mem_nil, or_false] at hc
      rcases hc with rfl | rfl
      · exact this.1
      · exact this.2
    · have hc' := h1 c (by rw [hs]; exact List.mem_append.2 (Or.inr hc))
      rw [List.mem_append] at ha
      rcases ha with ha | ha
      · exact hd.2.2 a ha c hc
      · simp only [List.mem_cons, List.not_mem_nil, or_false] at ha
        rcases ha with rfl | rfl
        · exact hc'.1.symm
        · exact hc'.2.symm
  · rw [e, List.mem_append, List.mem_append] at hv
    rcases hv with (hv | hv) | hv
    · exact h.2 v (by rw [hs]; exact List.mem_append.2 (Or.inl hv))
    · simp only [List.mem_cons, List.not_mem_nil, or_false] at hv
      rcases hv with rfl | rfl
      · exact h3.1
      · exact h3.2
    · exact h.2 v (by rw [hs]; exact List.mem_append.2 (Or.inr hv))

/-- A batch laid in. -/
theorem OB.ins {w w' : World} {base p : Nat} {v1 v2 v' : Value} {rs : List Row} {b : Book} {r : Row} {x : Batch} (h : OB w base v1 v2 rs b) (g : w.grownBy w' v2.ownBlock) (hp : p ≤ b.batches.length)
    (ho : w'.ownsRow base 46 3 v' (b.batches.length + 1) (cellsOf (rs.take p ++ [r] ++ rs.drop p))) (hr : RowOwn w base r x)
    (h1 : ∀ v ∈ allV rs, NE v r.has ∧ NE v r.needs) (h2 : NE r.has r.needs) (h3 : NE v1 r.has ∧ NE v1 r.needs) : OB w' base v1 v' (rs.take p ++ [r] ++ rs.drop p) ⟨b.things, b.batches.take p ++ [x] ++ b.batches.drop p⟩ := by
  have hl := h.ow.1
  have hne := fun k c e hk => row_ne h.ob k c e hk
  refine ⟨h.ot.keep g hne, h.st, ?_, (RowsOwn.app (RowsOwn.snoc (h.ow.take p) hr) (h.ow.drop p)).keep g hne, h.di.ins p h1 h2 h3⟩
  have e : (rs.take p ++ [r] ++ rs.drop p).length = b.batches.length + 1 := by
    rw [List.length_append, List.length_append, List.length_take, List.length_drop, List.length_singleton, hl]; omega
  rw [e]; exact ho

theorem allV_setV : ∀ (rs : List Row) (k : Nat) (r r' : Row), rs[k]? = some r → allV (rs.set k r') = (allV rs).take (k * 2) ++ [r'.has, r'.needs] ++ (allV rs).drop (k * 2 + 2)
  | [], k, r, r', h => by simp at h
  | x :: rs, 0, r, r', h => by simp [allV]
  | x :: rs, k + 1, r, r', h => by
    have h' := allV_setV rs k r r' (by simpa using h)
    have e : ∀ (y : Row) l, allV (y :: l) = y.has :: y.needs :: allV l := fun y l => rfl
    rw [List.set_cons_succ, e, e, h']
    have e3 : (k + 1) * 2 = k * 2 + 1 + 1 := by omega
    rw [e3]
    rfl
theorem Dis.put {v1 : Value} {rs : List Row} {k : Nat} {r r' : Row} (h : Dis v1 rs) (hr : rs[k]? = some r)
    (h0 : ∀ (i : Nat) v, (allV rs)[i]? = some v → i ≠ k * 2 → i ≠ k * 2 + 1 → NE v r'.has ∧ NE v r'.needs) (h2 : NE r'.has r'.needs) (h3 : NE v1 r'.has ∧ NE v1 r'.needs) : Dis v1 (rs.set k r') := by
  have e := allV_setV rs k r r' hr
  have hd := h.1
  have hs : (allV rs).take (k * 2) ++ (allV rs).drop (k * 2) = allV rs := List.take_append_drop _ _
  have hlo : ∀ a ∈ (allV rs).take (k * 2), ∃ i, i < k * 2 ∧ (allV rs)[i]? = some a := fun a ha => by
    obtain ⟨i, hi, e⟩ := List.mem_take_iff_getElem.1 ha
    rw [Nat.lt_min] at hi
    exact ⟨i, hi.1, by rw [List.getElem?_eq_getElem hi.2, e]⟩
  have hhi : ∀ a ∈ (allV rs).drop (k * 2 + 2), ∃ i, k * 2 + 2 ≤ i ∧ (allV rs)[i]? = some a := fun a ha => by
    obtain ⟨i, hi, e⟩ := List.getElem_of_mem ha
    rw [List.getElem_drop] at e
    rw [List.length_drop] at hi
    exact ⟨k * 2 + 2 + i, by omega, by rw [List.getElem?_eq_getElem (by omega), e]⟩
  refine ⟨?_, fun v hv => ?_⟩
  · rw [e, List.pairwise_append, List.pairwise_append]
    refine ⟨⟨hd.sublist (List.take_sublist _ _), by simp [h2], fun a ha c hc => ?_⟩, hd.sublist (List.drop_sublist _ _), fun a ha c hc => ?_⟩
    · obtain ⟨i, hi, hia⟩ := hlo a ha
      have := h0 i a hia (by omega) (by omega)
      simp only [List.mem_cons, List.not_mem_nil, or_false] at hc
      rcases hc with rfl | rfl
      · exact this.1
      · exact this.2
    · obtain ⟨j, hj, hjc⟩ := hhi c hc
      rw [List.mem_append] at ha
      rcases ha with ha | ha
      · obtain ⟨i, hi, hia⟩ := hlo a ha
        exact NE.of_pair hd hia hjc (by omega)
      · have := h0 j c hjc (by omega) (by omega)
        simp only [List.mem_cons, List.not_mem_nil, or_false] at ha
        rcases ha with rfl | rfl
        · exact this.1.symm
        · exact this.2.symm
  · rw [e, List.mem_append, List.mem_append] at hv
    rcases hv with (hv | hv) | hv
    · exact h.2 v (List.mem_of_mem_take hv)
    · simp only [List.mem_cons, List.not_mem_nil, or_false] at hv
      rcases hv with rfl | rfl
      · exact h3.1
      · exact h3.2
    · exact h.2 v (List.mem_of_mem_drop hv)

/-- A batch's list of what it has exchanged by one that is younger than the book. -/
theorem OB.putHas {w : World} {base base' g c k : Nat} {v1 u : Value} {rs : List Row} {T : List Str} {bs : List Batch} {L : List Str} (h : OB w base v1 (.slice (some ⟨g, 0, none⟩) bs.length c) rs ⟨T, bs⟩) (hk : k < bs.length) (hL : OwnL w base' u L) (hs : ShortS L) (hb : base ≤ base')
    (hu : ∀ v ∈ v1 :: allV rs, NE v u) : ∃ rs', OB (w.setCell ⟨g, k * 3 + 1, none⟩ u) base v1 (.slice (some ⟨g, 0, none⟩) bs.length c) rs' ⟨T, bs.set k ⟨(nthB bs k).name, L, (nthB bs k).needs⟩⟩ ∧ (∀ v ∈ v1 :: allV rs', v = u ∨ v ∈ v1 :: allV rs) := by
  have hl : rs.length = bs.length := h.ow.1
  have hkr : k < rs.length := by omega
  have hr := List.getElem?_eq_getElem hkr
  have hx := List.getElem?_eq_getElem hk
  have h1 := h.ob
  rw [← hl] at h1
  have h3 := World.ownsRow.stored h1 (k * 3 + 1) u
  obtain ⟨e1, e2, e3, e4, e5, e6⟩ := h.ow.2 k _ _ hr hx
  have hne := fun k' cc => row_ne h1 k' cc
  obtain ⟨z1, z2⟩ := allV_at rs k _ hr
  refine ⟨rs.set k ⟨rs[k].name, u, rs[k].needs⟩, ⟨h.ot.keep h3.2 (fun k' cc e hk' => hne k' cc (by simpa [Value.ownBlock] using e) hk'), h.st, ?_, ?_, ?_⟩, fun v hv => ?_⟩
  · rw [← cellsOf_has rs k _ u hr, List.length_set, ← hl]; exact h3.1
  · refine RowsOwn.set (h.ow.keep h3.2 (fun k' cc e hk' => hne k' cc (by simpa [Value.ownBlock] using e) hk')) k ⟨?_, ?_, own_store_keep h1 (hL.low hb) _ _, hs, ?_, ?_⟩
    · rw [nthB_get hk]; exact e1
    · rw [nthB_get hk]; exact e2
    · rw [nthB_get hk]; exact own_store_keep h1 e5 _ _
    · rw [nthB_get hk]; exact e6
  · exact h.di.put hr (fun i v hv hi hj => ⟨hu v (by simp [List.mem_of_getElem? hv]), NE.of_pair h.di.1 hv z2 hj⟩) (hu _ (by simp [(mem_allV (List.mem_of_getElem? hr)).2])).symm ⟨hu v1 (by simp), h.di.2 _ (mem_allV (List.mem_of_getElem? hr)).2⟩
  · rw [List.mem_cons] at hv
    rcases hv with rfl | hv
    · exact Or.inr (by simp)
    · rw [allV_setV rs k _ _ hr, List.mem_append, List.mem_append] at hv
      rcases hv with (hv | hv) | hv
      · exact Or.inr (by simp [List.mem_of_mem_take hv])
      · simp only [List.mem_cons, List.not_mem_nil, or_false] at hv
        rcases hv with rfl | rfl
        · exact Or.inl rfl
        · exact Or.inr (by simp [(mem_allV (List.mem_of_getElem? hr)).2])
      · exact Or.inr (by simp [List.mem_of_mem_drop hv])
/-- A batch's list of needs exchanged by one that is younger than the book. -/
theorem OB.putNeeds {w : World} {base base' g c k : Nat} {v1 u : Value} {rs : List Row} {T : List Str} {bs : List Batch} {L : List Str} (h : OB w base v1 (.slice (some ⟨g, 0, none⟩) bs.length c) rs ⟨T, bs⟩) (hk : k < bs.length) (hL : OwnL w base' u L) (hs : ShortS L) (hb : base ≤ base')
    (hu : ∀ v ∈ v1 :: allV rs, NE v u) : ∃ rs', OB (w.setCell ⟨g, k * 3 + 2, none⟩ u) base v1 (.slice (some ⟨g, 0, none⟩) bs.length c) rs' ⟨T, bs.set k ⟨(nthB bs k).name, (nthB bs k).has, L⟩⟩ ∧ (∀ v ∈ v1 :: allV rs', v = u ∨ v ∈ v1 :: allV rs) := by
  have hl : rs.length = bs.length := h.ow.1
  have hkr : k < rs.length := by omega
  have hr := List.getElem?_eq_getElem hkr
  have hx := List.getElem?_eq_getElem hk
  have h1 := h.ob
  rw [← hl] at h1
  have h3 := World.ownsRow.stored h1 (k * 3 + 2) u
  obtain ⟨e1, e2, e3, e4, e5, e6⟩ := h.ow.2 k _ _ hr hx
  have hne := fun k' cc => row_ne h1 k' cc
  obtain ⟨z1, z2⟩ := allV_at rs k _ hr
  refine ⟨rs.set k ⟨rs[k].name, rs[k].has, u⟩, ⟨h.ot.keep h3.2 (fun k' cc e hk' => hne k' cc (by simpa [Value.ownBlock] using e) hk'), h.st, ?_, ?_, ?_⟩, fun v hv => ?_⟩
  · rw [← cellsOf_needs rs k _ u hr, List.length_set, ← hl]; exact h3.1
  · refine RowsOwn.set (h.ow.keep h3.2 (fun k' cc e hk' => hne k' cc (by simpa [Value.ownBlock] using e) hk')) k ⟨?_, ?_, ?_, ?_, own_store_keep h1 (hL.low hb) _ _, hs⟩
    · rw [nthB_get hk]; exact e1
    · rw [nthB_get hk]; exact e2
    · rw [nthB_get hk]; exact own_store_keep h1 e3 _ _
    · rw [nthB_get hk]; exact e4
  · exact h.di.put hr (fun i v hv hi hj => ⟨NE.of_pair h.di.1 hv z1 hi, hu v (by simp [List.mem_of_getElem? hv])⟩) (hu _ (by simp [(mem_allV (List.mem_of_getElem? hr)).1])) ⟨h.di.2 _ (mem_allV (List.mem_of_getElem? hr)).1, hu v1 (by simp)⟩
  · rw [List.mem_cons] at hv
    rcases hv with rfl | hv
    · exact Or.inr (by simp)
    · rw [allV_setV rs k _ _ hr, List.mem_append, List.mem_append] at hv
      rcases hv with (hv | hv) | hv
      · exact Or.inr (by simp [List.mem_of_mem_take hv])
      · simp only [List.mem_cons, List.not_mem_nil, or_false] at hv
        rcases hv with rfl | rfl
        · exact Or.inr (by simp [(mem_allV (List.mem_of_getElem? hr)).1])
        · exact Or.inl rfl
      · exact Or.inr (by simp [List.mem_of_mem_drop hv])
end Go.Proofs.YtdafpnpfcmgfcabGreatDoor
