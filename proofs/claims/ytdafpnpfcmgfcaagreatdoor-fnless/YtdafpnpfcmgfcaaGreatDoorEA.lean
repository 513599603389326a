/- A book of the call's own: a batch cut out, laid in, a batch's lists exchanged; stores to boxes of books. What is done: leaving. What is done: needing less. What is done: asking. -/
import Derived.Test.YtdafpnpfcmgfcaaGreatDoorE4
import Derived.Test.YtdafpnpfcmgfcaaGreatDoorE6
import Derived.Test.YtdafpnpfcmgfcaaGreatDoorK7
import Derived.Test.YtdafpnpfcmgfcaaGreatDoorE9
import Derived.Test.YtdafpnpfcmgfcaaGreatDoorE5
namespace Go.Proofs.YtdafpnpfcmgfcaaGreatDoor
open Go.RowKit
attribute [local go_sem] S_toList S_size S_get

theorem rec_no_str {w : World} {X : Nat} {t : TypeId} {l : List Value} (h : Rec w X t l) (ht : (t == 9) = false) (k : Nat) (c : Array Value) (e : some X = some k) (hk : w.heap[k]? = some (.cells c 9 (0, 0))) : False := by
  cases e
  rw [show w.heap[X]? = _ from h] at hk
  simp only [Option.some.injEq, Obj.cells.injEq] at hk
  rw [hk.2.1] at ht
  simp at ht
theorem OB.stored {w : World} {base : Nat} {v1 v2 : Value} {rs : List Row} {b : Book} (h : OB w base v1 v2 rs b) {X : Nat} {t : TypeId} {l : List Value} (hr : Rec w X t l) (h1 : (t == 9) = false) (h2 : (t == 73) = false) (i : Nat) (u : Value) : OB (w.setCell ⟨X, i, none⟩ u) base v1 v2 rs b :=
  ⟨h.ot.stored hr h1 _ _, h.st, World.ownsRow.kept h.ob (gb_store _ _ _ _) (Or.inr (fun e => hr.not_row h2 h.ob e.symm)), h.ow.keep (gb_store _ _ _ _) (rec_no_str hr h1), h.di⟩

theorem RowsOwn.app {w : World} {base : Nat} {rs rs' : List Row} {bs bs' : List Batch} (h : RowsOwn w base rs bs) (h' : RowsOwn w base rs' bs') : RowsOwn w base (rs ++ rs') (bs ++ bs') := by
  refine ⟨by rw [List.length_append, List.length_append, h.1, h'.1], fun i r x hr hx => ?_⟩
  rcases Nat.lt_or_ge i rs.length with hlt | hge
  · rw [List.getElem?_append_left hlt] at hr
    rw [List.getElem?_append_left (by rw [← h.1]; exact hlt)] at hx
    exact h.2 i r x hr hx
  · rw [List.getElem?_append_right hge] at hr
    rw [List.getElem?_append_right (by rw [← h.1]; exact hge), ← h.1] at hx
    exact h'.2 _ r x hr hx
theorem allV_sub {rs rs' : List Row} (h : rs'.Sublist rs) : (allV rs').Sublist (allV rs) := by
  induction h with
  | slnil => exact List.Sublist.refl _
  | cons a _ ih => exact (ih.cons _).cons _
  | cons_cons a _ ih => exact (ih.cons_cons _).cons_cons _
theorem Dis.sub {v1 : Value} {rs rs' : List Row} (h : Dis v1 rs) (hs : rs'.Sublist rs) : Dis v1 rs' :=
  ⟨h.1.sublist (allV_sub hs), fun v hv => h.2 v ((allV_sub hs).subset hv)⟩

/-- A batch cut out. -/
theorem OB.cut {w w' : World} {base p : Nat} {v1 v2 v' : Value} {rs : List Row} {b : Book} (h : OB w base v1 v2 rs b) (hp : p < b.batches.length) (g : w.grownBy w' v2.ownBlock)
    (ho : w'.ownsRow base 73 3 v' (b.batches.length - 1) (cellsOf (rs.take p ++ rs.drop (p + 1)))) : OB w' base v1 v' (rs.take p ++ rs.drop (p + 1)) ⟨b.things, b.batches.take p ++ b.batches.drop (p + 1)⟩ := by
  have hl := h.ow.1
  have hne := fun k c e hk => row_ne h.ob k c e hk
  refine ⟨h.ot.keep g hne, h.st, ?_, (RowsOwn.app (h.ow.take p) (h.ow.drop (p + 1))).keep g hne, h.di.sub (cut_sub rs p)⟩
  have e : (rs.take p ++ rs.drop (p + 1)).length = b.batches.length - 1 := by
    rw [List.length_append, List.length_take, List.length_drop, hl]; omega
  rw [e]; exact ho

theorem Dis.ins {v1 : Value} {rs : List Row} {r : Row} (p : Nat) (h : Dis v1 rs) (h1 : ∀ v ∈ allV rs, NE v r.has ∧ NE v r.needs) (h2 : NE r.has r.needs) (h3 : NE v1 r.has ∧ NE v1 r.needs) : Dis v1 (rs.take p ++ [r] ++ rs.drop p) := by
  have e : allV (rs.take p ++ [r] ++ rs.drop p) = allV (rs.take p) ++ [r.has, r.needs] ++ allV (rs.drop p) := by simp [allV]
  have hs : allV rs = allV (rs.take p) ++ allV (rs.drop p) := by
    unfold allV
    rw [← List.flatMap_append, List.take_append_drop]
  have hd := h.1
  rw [hs, List.pairwise_append] at hd
  refine ⟨?_, fun v hv => ?_⟩
  · rw [e, List.pairwise_append, List.pairwise_append]
    refine ⟨⟨hd.1, by simp [h2], fun a ha c hc => ?_⟩, hd.2.1, fun a ha c hc => ?_⟩
    · have := h1 a (by rw [hs]; exact List.mem_append.2 (Or.inl ha))
      simp only [List.mem_cons, List.not_mem_nil, or_false] at hc
      rcases hc with rfl | rfl
      · exact this.1
      · exact this.2
    · have hc' := h1 c (by rw [hs]; exact List.mem_append.2 (Or.inr hc))
      rw [List.mem_append] at ha
      rcases ha with ha | ha
      · exact hd.2.2 a ha c hc
      · simp only [List.mem_cons, List.not_mem_nil, or_false] at ha
        rcases ha with rfl | rfl
        · exact hc'.1.symm
        · exact hc'.2.symm
  · rw [e, List.mem_append, List.mem_append] at hv
    rcases hv with (hv | hv) | hv
    · exact h.2 v (by rw [hs]; exact List.mem_append.2 (Or.inl hv))
    · simp only [List.mem_cons, List.not_mem_nil, or_false] at hv
      rcases hv with rfl | rfl
      · exact h3.1
      · exact h3.2
    · exact h.2 v (by rw [hs]; exact List.mem_append.2 (Or.inr hv))

/-- A batch laid in. -/
theorem OB.ins {w w' : World} {base p : Nat} {v1 v2 v' : Value} {rs : List Row} {b : Book} {r : Row} {x : Batch} (h : OB w base v1 v2 rs b) (g : w.grownBy w' v2.ownBlock) (hp : p ≤ b.batches.length)
    (ho : w'.ownsRow base 73 3 v' (b.batches.length + 1) (cellsOf (rs.take p ++ [r] ++ rs.drop p))) (hr : RowOwn w base r x)
    (h1 : ∀ v ∈ allV rs, NE v r.has ∧ NE v r.needs) (h2 : NE r.has r.needs) (h3 : NE v1 r.has ∧ NE v1 r.needs) : OB w' base v1 v' (rs.take p ++ [r] ++ rs.drop p) ⟨b.things, b.batches.take p ++ [x] ++ b.batches.drop p⟩ := by
  have hl := h.ow.1
  have hne := fun k c e hk => row_ne h.ob k c e hk
  refine ⟨h.ot.keep g hne, h.st, ?_, (RowsOwn.app (RowsOwn.snoc (h.ow.take p) hr) (h.ow.drop p)).keep g hne, h.di.ins p h1 h2 h3⟩
  have e : (rs.take p ++ [r] ++ rs.drop p).length = b.batches.length + 1 := by
    rw [List.length_append, List.length_append, List.length_take, List.length_drop, List.length_singleton, hl]; omega
  rw [e]; exact ho

theorem allV_setV : ∀ (rs : List Row) (k : Nat) (r r' : Row), rs[k]? = some r → allV (rs.set k r') = (allV rs).take (k * 2) ++ [r'.has, r'.needs] ++ (allV rs).drop (k * 2 + 2)
  | [], k, r, r', h => by simp at h
  | x :: rs, 0, r, r', h => by simp [allV]
  | x :: rs, k + 1, r, r', h => by
    have h' := allV_setV rs k r r' (by simpa using h)
    have e : ∀ (y : Row) l, allV (y :: l) = y.has :: y.needs :: allV l := fun y l => rfl
    rw [List.set_cons_succ, e, e, h']
    have e3 : (k + 1) * 2 = k * 2 + 1 + 1 := by omega
    rw [e3]
    rfl
theorem Dis.put {v1 : Value} {rs : List Row} {k : Nat} {r r' : Row} (h : Dis v1 rs) (hr : rs[k]? = some r)
    (h0 : ∀ (i : Nat) v, (allV rs)[i]? = some v → i ≠ k * 2 → i ≠ k * 2 + 1 → NE v r'.has ∧ NE v r'.needs) (h2 : NE r'.has r'.needs) (h3 : NE v1 r'.has ∧ NE v1 r'.needs) : Dis v1 (rs.set k r') := by
  have e := allV_setV rs k r r' hr
  have hd := h.1
  have hs : (allV rs).take (k * 2) ++ (allV rs).drop (k * 2) = allV rs := List.take_append_drop _ _
  have hlo : ∀ a ∈ (allV rs).take (k * 2), ∃ i, i < k * 2 ∧ (allV rs)[i]? = some a := fun a ha => by
    obtain ⟨i, hi, e⟩ := List.mem_take_iff_getElem.1 ha
    rw [Nat.lt_min] at hi
    exact ⟨i, hi.1, by rw [List.getElem?_eq_getElem hi.2, e]⟩
  have hhi : ∀ a ∈ (allV rs).drop (k * 2 + 2), ∃ i, k * 2 + 2 ≤ i ∧ (allV rs)[i]? = some a := fun a ha => by
    obtain ⟨i, hi, e⟩ := List.getElem_of_mem ha
    rw [List.getElem_drop] at e
    rw [List.length_drop] at hi
    exact ⟨k * 2 + 2 + i, by omega, by rw [List.getElem?_eq_getElem (by omega), e]⟩
  refine ⟨?_, fun v hv => ?_⟩
  · rw [e, List.pairwise_append, List.pairwise_append]
    refine ⟨⟨hd.sublist (List.take_sublist _ _), by simp [h2], fun a ha c hc => ?_⟩, hd.sublist (List.drop_sublist _ _), fun a ha c hc => ?_⟩
    · obtain ⟨i, hi, hia⟩ := hlo a ha
      have := h0 i a hia (by omega) (by omega)
      simp only [List.mem_cons, List.not_mem_nil, or_false] at hc
      rcases hc with rfl | rfl
      · exact this.1
      · exact this.2
    · obtain ⟨j, hj, hjc⟩ := hhi c hc
      rw [List.mem_append] at ha
      rcases ha with ha | ha
      · obtain ⟨i, hi, hia⟩ := hlo a ha
        exact NE.of_pair hd hia hjc (by omega)
      · have := h0 j c hjc (by omega) (by omega)
        simp only [List.mem_cons, List.not_mem_nil, or_false] at ha
        rcases ha with rfl | rfl
        · exact this.1.symm
        · exact this.2.symm
  · rw [e, List.mem_append, List.mem_append] at hv
    rcases hv with (hv | hv) | hv
    · exact h.2 v (List.mem_of_mem_take hv)
    · simp only [List.mem_cons, List.not_mem_nil, or_false] at hv
      rcases hv with rfl | rfl
      · exact h3.1
      · exact h3.2
    · exact h.2 v (List.mem_of_mem_drop hv)

/-- A batch's list of what it has exchanged by one that is younger than the book. -/
theorem OB.putHas {w : World} {base base' g c k : Nat} {v1 u : Value} {rs : List Row} {T : List Str} {bs : List Batch} {L : List Str} (h : OB w base v1 (.slice (some ⟨g, 0, none⟩) bs.length c) rs ⟨T, bs⟩) (hk : k < bs.length) (hL : OwnL w base' u L) (hs : ShortS L) (hb : base ≤ base')
    (hu : ∀ v ∈ v1 :: allV rs, NE v u) : ∃ rs', OB (w.setCell ⟨g, k * 3 + 1, none⟩ u) base v1 (.slice (some ⟨g, 0, none⟩) bs.length c) rs' ⟨T, bs.set k ⟨(nthB bs k).name, L, (nthB bs k).needs⟩⟩ ∧ (∀ v ∈ v1 :: allV rs', v = u ∨ v ∈ v1 :: allV rs) := by
  have hl : rs.length = bs.length := h.ow.1
  have hkr : k < rs.length := by omega
  have hr := List.getElem?_eq_getElem hkr
  have hx := List.getElem?_eq_getElem hk
  have h1 := h.ob
  rw [← hl] at h1
  have h3 := World.ownsRow.stored h1 (k * 3 + 1) u
  obtain ⟨e1, e2, e3, e4, e5, e6⟩ := h.ow.2 k _ _ hr hx
  have hne := fun k' cc => row_ne h1 k' cc
  obtain ⟨z1, z2⟩ := allV_at rs k _ hr
  refine ⟨rs.set k ⟨rs[k].name, u, rs[k].needs⟩, ⟨h.ot.keep h3.2 (fun k' cc e hk' => hne k' cc (by simpa [Value.ownBlock] using e) hk'), h.st, ?_, ?_, ?_⟩, fun v hv => ?_⟩
  · rw [← cellsOf_has rs k _ u hr, List.length_set, ← hl]; exact h3.1
  · refine RowsOwn.set (h.ow.keep h3.2 (fun k' cc e hk' => hne k' cc (by simpa [Value.ownBlock] using e) hk')) k ⟨?_, ?_, own_store_keep h1 (hL.low hb) _ _, hs, ?_, ?_⟩
    · rw [nthB_get hk]; exact e1
    · rw [nthB_get hk]; exact e2
    · rw [nthB_get hk]; exact own_store_keep h1 e5 _ _
    · rw [nthB_get hk]; exact e6
  · exact h.di.put hr (fun i v hv hi hj => ⟨hu v (by simp [List.mem_of_getElem? hv]), NE.of_pair h.di.1 hv z2 hj⟩) (hu _ (by simp [(mem_allV (List.mem_of_getElem? hr)).2])).symm ⟨hu v1 (by simp), h.di.2 _ (mem_allV (List.mem_of_getElem? hr)).2⟩
  · rw [List.mem_cons] at hv
    rcases hv with rfl | hv
    · exact Or.inr (by simp)
    · rw [allV_setV rs k _ _ hr, List.mem_append, List.mem_append] at hv
      rcases hv with (hv | hv) | hv
      · exact Or.inr (by simp [List.mem_of_mem_take hv])
      · simp only [List.mem_cons, List.not_mem_nil, or_false] at hv
        rcases hv with rfl | rfl
        · exact Or.inl rfl
        · exact Or.inr (by simp [(mem_allV (List.mem_of_getElem? hr)).2])
      · exact Or.inr (by simp [List.mem_of_mem_drop hv])
/-- A batch's list of needs exchanged by one that is younger than the book. -/
theorem OB.putNeeds {w : World} {base base' g c k : Nat} {v1 u : Value} {rs : List Row} {T : List Str} {bs : List Batch} {L : List Str} (h : OB w base v1 (.slice (some ⟨g, 0, none⟩) bs.length c) rs ⟨T, bs⟩) (hk : k < bs.length) (hL : OwnL w base' u L) (hs : ShortS L) (hb : base ≤ base')
    (hu : ∀ v ∈ v1 :: allV rs, NE v u) : ∃ rs', OB (w.setCell ⟨g, k * 3 + 2, none⟩ u) base v1 (.slice (some ⟨g, 0, none⟩) bs.length c) rs' ⟨T, bs.set k ⟨(nthB bs k).name, (nthB bs k).has, L⟩⟩ ∧ (∀ v ∈ v1 :: allV rs', v = u ∨ v ∈ v1 :: allV rs) := by
  have hl : rs.length = bs.length := h.ow.1
  have hkr : k < rs.length := by omega
  have hr := List.getElem?_eq_getElem hkr
  have hx := List.getElem?_eq_getElem hk
  have h1 := h.ob
  rw [← hl] at h1
  have h3 := World.ownsRow.stored h1 (k * 3 + 2) u
  obtain ⟨e1, e2, e3, e4, e5, e6⟩ := h.ow.2 k _ _ hr hx
  have hne := fun k' cc => row_ne h1 k' cc
  obtain ⟨z1, z2⟩ := allV_at rs k _ hr
  refine ⟨rs.set k ⟨rs[k].name, rs[k].has, u⟩, ⟨h.ot.keep h3.2 (fun k' cc e hk' => hne k' cc (by simpa [Value.ownBlock] using e) hk'), h.st, ?_, ?_, ?_⟩, fun v hv => ?_⟩
  · rw [← cellsOf_needs rs k _ u hr, List.length_set, ← hl]; exact h3.1
  · refine RowsOwn.set (h.ow.keep h3.2 (fun k' cc e hk' => hne k' cc (by simpa [Value.ownBlock] using e) hk')) k ⟨?_, ?_, ?_, ?_, own_store_keep h1 (hL.low hb) _ _, hs⟩
    · rw [nthB_get hk]; exact e1
    · rw [nthB_get hk]; exact e2
    · rw [nthB_get hk]; exact own_store_keep h1 e3 _ _
    · rw [nthB_get hk]; exact e4
  · exact h.di.put hr (fun i v hv hi hj => ⟨NE.of_pair h.di.1 hv z1 hi, hu v (by simp [List.mem_of_getElem? hv])⟩) (hu _ (by simp [(mem_allV (List.mem_of_getElem? hr)).1])) ⟨h.di.2 _ (mem_allV (List.mem_of_getElem? hr)).1, hu v1 (by simp)⟩
  · rw [List.mem_cons] at hv
    rcases hv with rfl | hv
    · exact Or.inr (by simp)
    · rw [allV_setV rs k _ _ hr, List.mem_append, List.mem_append] at hv
      rcases hv with (hv | hv) | hv
      · exact Or.inr (by simp [List.mem_of_mem_take hv])
      · simp only [List.mem_cons, List.not_mem_nil, or_false] at hv
        rcases hv with rfl | rfl
        · exact Or.inr (by simp [(mem_allV (List.mem_of_getElem? hr)).1])
        · exact Or.inl rfl
      · exact Or.inr (by simp [List.mem_of_mem_drop hv])
end Go.Proofs.YtdafpnpfcmgfcaaGreatDoor
namespace Go.Proofs.YtdafpnpfcmgfcaaGreatDoor
open Go.RowKit
attribute [local go_sem] S_toList S_size S_get

theorem ok_short {b : Book} (h : bookOk b = true) : b.batches.length ≤ 2199023255552 := by have := ok_five h; omega
/-- Two boxes, of books: the second is the answer's. -/
theorem rec_second {w w1 : World} {c1 : Array Value} {t1 t2 : TypeId} {l : List Value} (h : Ext ((w.alloc (.cells c1 t1)).alloc (.cells l.toArray t2)) w1) : Rec w1 (w.heap.size + 1) t2 l := by
  have h' := (Rec.new (w.alloc (.cells c1 t1)) t2 l).ext h
  simpa using h'

/-- The book's box takes the batches, the answer's box the book. -/
theorem done_end {w w4 : World} {X : Nat} {b b' : Book} {z1 z2 o2 : Value} {rs : List Row} {fn : Func} {a : Act} (hE : Ext w w4) (hO : OB w4 w.heap.size z1 z2 rs b') (hc : Rec w4 X 26 [z1, o2]) (hr : Rec w4 (w.heap.size + 1) 26 [.slice none 0 0, .slice none 0 0]) (hX : w.heap.size ≤ X) (hne : w.heap.size + 1 ≠ X)
    (hres : (results fn a.tmps).run Tryz.prog (((w4.setCell ⟨X, 1, none⟩ z2).setCell ⟨w.heap.size + 1, 0, none⟩ z1).setCell ⟨w.heap.size + 1, 1, none⟩ z2) = .ok (.agg #[z1, z2]) (((w4.setCell ⟨X, 1, none⟩ z2).setCell ⟨w.heap.size + 1, 0, none⟩ z1).setCell ⟨w.heap.size + 1, 1, none⟩ z2)) (hd : a.defers = []) (hb : b' = b) :
    bodyPost Tryz.prog fn (fun e w' => ∃ v1 v2 rs, e = Ending.returned (.agg #[v1, v2]) ∧ Ext w w' ∧ OB w' w.heap.size v1 v2 rs b) Exit.ret a (((w4.setCell ⟨X, 1, none⟩ z2).setCell ⟨w.heap.size + 1, 0, none⟩ z1).setCell ⟨w.heap.size + 1, 1, none⟩ z2) := by
  subst hb
  have r1 := hr.kept (gb_store w4 X 1 z2) (fun e => hne (Option.some.inj e))
  exact bodyPost_ret hres hd ⟨z1, z2, rs, rfl, ((hE.setCell hX _).setCell (by simp) _).setCell (by simp) _, ((hO.stored hc rfl rfl _ _).stored r1 rfl rfl _ _).stored (r1.set _ _) rfl rfl _ _⟩
theorem asNoGE (v : Value) (w : World) : (Instr.typeAssert (.iface 80 v) 106 68 true).run Tryz.prog w = .ok (.tuple #[.agg #[.string (S []), .slice none 0 0], .bool false]) w := by kernel_rfl
theorem asNoGA (v : Value) (w : World) : (Instr.typeAssert (.iface 80 v) 106 75 true).run Tryz.prog w = .ok (.tuple #[.agg #[.string (S []), .slice none 0 0], .bool false]) w := by kernel_rfl
theorem asNoGL (v : Value) (w : World) : (Instr.typeAssert (.iface 80 v) 106 78 true).run Tryz.prog w = .ok (.tuple #[.agg #[.string (S []), .slice none 0 0], .bool false]) w := by kernel_rfl
theorem asNoLE (v : Value) (w : World) : (Instr.typeAssert (.iface 78 v) 106 68 true).run Tryz.prog w = .ok (.tuple #[.agg #[.string (S []), .slice none 0 0], .bool false]) w := by kernel_rfl
theorem asNoLA (v : Value) (w : World) : (Instr.typeAssert (.iface 78 v) 106 75 true).run Tryz.prog w = .ok (.tuple #[.agg #[.string (S []), .slice none 0 0], .bool false]) w := by kernel_rfl
theorem asNoAE (v : Value) (w : World) : (Instr.typeAssert (.iface 75 v) 106 68 true).run Tryz.prog w = .ok (.tuple #[.agg #[.string (S []), .slice none 0 0], .bool false]) w := by kernel_rfl
theorem asYesE (v : Value) (w : World) : (Instr.typeAssert (.iface 68 v) 106 68 true).run Tryz.prog w = .ok (.tuple #[v, .bool true]) w := by kernel_rfl
theorem asYesA (v : Value) (w : World) : (Instr.typeAssert (.iface 75 v) 106 75 true).run Tryz.prog w = .ok (.tuple #[v, .bool true]) w := by kernel_rfl
theorem asYesL (v : Value) (w : World) : (Instr.typeAssert (.iface 78 v) 106 78 true).run Tryz.prog w = .ok (.tuple #[v, .bool true]) w := by kernel_rfl
theorem asYesG (v : Value) (w : World) : (Instr.typeAssert (.iface 80 v) 106 80 true).run Tryz.prog w = .ok (.tuple #[v, .bool true]) w := by kernel_rfl

set_option maxRecDepth 100000 in
set_option maxHeartbeats 2000000 in
theorem doneG_any (b : Book) (n : Str) (a1 a2 : Option Addr) (c1 c2 : Nat) (w : World) (hb : BookAt w a1 a2 b) (hok : bookOk b = true) (hh : hereB b n = true) :
    Calls Tryz.prog 80 #[.agg #[.slice a1 b.things.length c1, .slice a2 b.batches.length c2], .iface 80 (.agg #[.string (S n)])] w fun e w' =>
      ∃ v1 v2 rs, e = .returned (.agg #[v1, v2]) ∧ Ext w w' ∧ OB w' w.heap.size v1 v2 rs ⟨b.things, b.batches.take (whereB b n) ++ b.batches.drop (whereB b n + 1)⟩ := by
  have hk := where_lt hh
  have HW := hid (ok_where hok hh)
  have h5 := ok_five hok
  have mW := mWhoG
  have n1 := asNoGE
  have n2 := asNoGA
  have n3 := asNoGL
  have y1' := asYesG
  clear hh
  go_enter Tryz.func80, Tryz.ntmps80
  go_wp2_with fail
  refine (copiedBook_any b _ _ _ _ _ (hb.ext (ext_two _ _ _))).mono ?_
  rintro e w1 ⟨v1, v2, rs, rfl, hE1, hOB1⟩
  obtain ⟨x1, y1, x2, y2, rfl, rfl, hat1⟩ := hOB1.at (ok_short hok)
  have HR2 := hid (rec_second (l := [.slice none 0 0, .slice none 0 0]) hE1)
  have HE1 := hid (Ext.tr (ext_two _ _ _) hE1)
  have HAT1 := hid hat1
  have HOB1 : Hid (OB w1 w.heap.size _ _ rs b) := hOB1.low (by simp; omega)
  have hz1 : w.heap.size + 2 ≤ w1.heap.size := by have := hE1.size; simp at this; omega
  clear hE1 hOB1 hat1
  go_wp2_with fail
  have HEc := hid (ext_alloc w1 (.cells #[.slice x1 b.things.length y1, .slice x2 b.batches.length y2] 26))
  have HRc : Hid (Rec _ w1.heap.size 26 [.slice x1 b.things.length y1, .slice x2 b.batches.length y2]) := Rec.new w1 _ _
  have HO2 := hid (HOB1.out.ext HEc.out)
  have HAT2 := hid (HAT1.out.ext HEc.out)
  have HR3 := hid (HR2.out.ext HEc.out)
  have HE2 := hid (Ext.tr HE1.out HEc.out)
  have hzc : w1.heap.size < (w1.alloc (.cells #[.slice x1 b.things.length y1, .slice x2 b.batches.length y2] 26)).heap.size := by simp
  generalize w1.alloc (.cells #[.slice x1 b.things.length y1, .slice x2 b.batches.length y2] 26) = wc at *
  clear HR2 HEc HOB1 HAT1 HE1
  refine wp_region_T (fun w' => w'.cell? ⟨w1.heap.size, 0, none⟩ = some (.slice x1 b.things.length y1) ∧ w'.cell? ⟨w1.heap.size, 1, none⟩ = some (.slice x2 b.batches.length y2)) 8 (by kernel_rfl) ⟨HRc.out.cell rfl, HRc.out.cell rfl⟩ (fun hS => ?_)
  refine wpT_take 0 (v := ?_) rfl rfl (by kernel_rfl) (by kernel_rfl) (by kernel_rfl) (by kernel_rfl) (fun _ _ _ h => h) hS rfl (by intro w0 hw0; (try dsimp only at hw0); go_simp; try rfl) ?_
  try simp only [List.set]
  refine wpT_take 1 (v := ?_) rfl rfl (by kernel_rfl) (by kernel_rfl) (by kernel_rfl) (by kernel_rfl) (fun _ _ _ h => h) hS rfl (by intro w0 hw0; (try dsimp only at hw0); go_simp; try rfl) ?_
  try simp only [List.set]
  refine wpT_one 2 rfl (by kernel_rfl) rfl rfl (fun K hK => ?_)
  go_simp
  refine (who_any n _).mono ?_
  rintro e w2 ⟨rfl, hE2⟩
  go_wp2_with fail
  refine hK.out _ _ ⟨hE2.keep hS.1, hE2.keep hS.2⟩ (fun hS1 => ?_)
  clear hK hS
  have hS := hS1
  clear hS1
  try clear K
  try simp only [put_some, List.set]
  refine wpT_one 3 rfl (by kernel_rfl) rfl rfl (fun K hK => ?_)
  go_simp
  refine (placeOf_any b n _ _ _ _ _ ((HAT2.out.ext (ext_drewN _ 1)).ext hE2) hok).mono ?_
  rintro e w3 ⟨rfl, hE3⟩
  go_wp2_with fail
  refine hK.out _ _ ⟨hE3.keep hS.1, hE3.keep hS.2⟩ (fun hS1 => ?_)
  clear hK hS
  have hS := hS1
  clear hS1
  try clear K
  try simp only [put_some, List.set]
  refine wpT_take 4 (v := ?_) rfl rfl (by kernel_rfl) (by kernel_rfl) (by kernel_rfl) (by kernel_rfl) (fun _ _ _ h => h) hS rfl (by intro w0 hw0; (try dsimp only at hw0); go_simp; try rfl) ?_
  try simp only [List.set]
  refine wpT_take 5 (v := ?_) rfl rfl (by kernel_rfl) (by kernel_rfl) (by kernel_rfl) (by kernel_rfl) (fun _ _ _ h => h) hS rfl (by intro w0 hw0; (try dsimp only at hw0); go_simp; try rfl) ?_
  try simp only [List.set]
  refine wpT_take 6 (v := ?_) rfl rfl (by kernel_rfl) (by kernel_rfl) (by kernel_rfl) (by kernel_rfl) (fun _ _ _ h => h) hS rfl (by intro w0 hw0; (try dsimp only at hw0); go_simp; try rfl) ?_
  try simp only [List.set]
  refine wpT_take 7 (v := ?_) rfl rfl (by kernel_rfl) (by kernel_rfl) (by kernel_rfl) (by kernel_rfl) (fun _ _ _ h => h) hS rfl (by intro w0 hw0; (try dsimp only at hw0); go_simp; try rfl) ?_
  try simp only [List.set]
  refine wpT_last rfl (by kernel_rfl) (by kernel_rfl) rfl (fun K hK => ?_)
  go_simp
  refine hK.out _ _ ?_
  clear hK hS
  have HE3 : Hid (Ext wc w3) := Ext.tr (ext_drewN _ 1) (Ext.tr hE2 hE3)
  have HO3 := hid (HO2.out.ext HE3.out)
  have HR3' := hid (HR3.out.ext HE3.out)
  have HRc3 := hid (HRc.out.ext HE3.out)
  have HE4 := hid (Ext.tr HE2.out HE3.out)
  have q0 := HRc3.out.cell (i := 0) rfl
  have q1 := HRc3.out.cell (i := 1) rfl
  have hz3 := HE3.out.size
  clear hE2 hE3 HE3 HO2 HR3 HRc HE2 HAT2
  rw [HW.out]
  clear HW
  generalize hke : whereB b n = k at *
  have HKE := hid hke
  clear hke
  have q1b := (ext_alloc w3 (.cells #[.string (S n)] 80)).keep q1
  go_wp2_with fail
  clear q0 q1 q1b
  replace HO3 := hid (HO3.out.ext (ext_alloc w3 (.cells #[.string (S n)] 80)))
  replace HR3' := hid (HR3'.out.ext (ext_alloc w3 (.cells #[.string (S n)] 80)))
  replace HRc3 := hid (HRc3.out.ext (ext_alloc w3 (.cells #[.string (S n)] 80)))
  replace HE4 := hid (Ext.tr HE4.out (ext_alloc w3 (.cells #[.string (S n)] 80)))
  replace hz3 : wc.heap.size ≤ (w3.alloc (.cells #[.string (S n)] 80)).heap.size := by simp; omega
  generalize w3.alloc (.cells #[.string (S n)] 80) = w3 at *
  refine (delete_any w.heap.size rs k b.batches.length _ _ (by have h := HO3.out.ob; rw [HO3.out.ow.1] at h; exact h) HO3.out.ow.1 (rows_one HO3.out.ow) hk (by omega)).mono ?_
  rintro e w4 ⟨v', rfl, hg, _, ho⟩
  have hob := HO3.out.cut hk hg ho
  have hlt3 : w1.heap.size < w3.heap.size := by omega
  have hn1 : some w1.heap.size ≠ (Value.slice x2 b.batches.length y2).ownBlock := HRc3.out.not_row rfl HO3.out.ob
  have hn2 : some (w.heap.size + 1) ≠ (Value.slice x2 b.batches.length y2).ownBlock := HR3'.out.not_row rfl HO3.out.ob
  have rc := HRc3.out.kept hg hn1
  have rr := HR3'.out.kept hg hn2
  have HE5 : Hid (Ext w w4) := HE4.out.grown hg (by omega) (fun g hg' => (HO3.out.ob.lt g hg').1)
  have HO5 := hid hob
  have HRC := hid rc
  have HRR := hid rr
  have hz4 := hg.size
  obtain ⟨av, cv, rfl⟩ := own_shape3 ho
  have q0 := rc.cell (i := 0) rfl
  have q1 := rc.cell (i := 1) rfl
  have f1 := rc.frozen 1
  have t0 := rr.cell (i := 0) rfl
  have t1 := rr.cell (i := 1) rfl
  have g0 := rr.frozen 0
  have g1 := rr.frozen 1
  have hne : w.heap.size + 1 ≠ w1.heap.size := by omega
  clear hob hg ho rc rr hn1 hn2 HO3 HR3' HRc3 HE4
  go_wp2_with fail
  exact done_end HE5.out HO5.out HRC.out HRR.out (by omega) hne (by simp [results, Tryz.results80, go_sem, t0, t1]) rfl (by rw [HKE.out])
end Go.Proofs.YtdafpnpfcmgfcaaGreatDoor
namespace Go.Proofs.YtdafpnpfcmgfcaaGreatDoor
open Go.RowKit
attribute [local go_sem] S_toList S_size S_get

theorem short_sub {l l' : List Str} (h : ShortS l) (hs : ∀ x ∈ l', x ∈ l) (hl : l'.length ≤ l.length) : ShortS l' := by
  refine ⟨by have := h.1; omega, fun i hi => ?_⟩
  rw [nth_get hi]
  obtain ⟨j, hj, e⟩ := List.getElem_of_mem (hs _ (List.getElem_mem hi))
  have := h.2 j hj
  rw [nth_get hj, e] at this; exact this
theorem short_kept {l o : List Str} (h : ShortS l) : ShortS (keptL l o) := short_sub h (fun _ hx => (List.mem_filter.1 hx).1) (kept_len l o)
theorem short_app {l m : List Str} (h : ShortS l) (k : ShortS m) (hl : l.length + m.length ≤ 8796093022208) : ShortS (l ++ m) := by
  refine ⟨by rw [List.length_append]; exact hl, fun i hi => ?_⟩
  rw [nth_get hi]
  rcases List.mem_append.1 (List.getElem_mem hi) with hm | hm
  · obtain ⟨j, hj, e⟩ := List.getElem_of_mem hm
    have := h.2 j hj
    rw [nth_get hj, e] at this; exact this
  · obtain ⟨j, hj, e⟩ := List.getElem_of_mem hm
    have := k.2 j hj
    rw [nth_get hj, e] at this; exact this
theorem nthB_set {bs : List Batch} {k : Nat} {x : Batch} (h : k < bs.length) : nthB (bs.set k x) k = x := by
  rw [nthB_get (by rw [List.length_set]; exact h)]; simp
/-- The answer is a book of the call's own. -/
def OutB (w : World) (b : Book) (e : Ending) (w' : World) : Prop := ∃ v1 v2 rs, e = .returned (.agg #[v1, v2]) ∧ Ext w w' ∧ OB w' w.heap.size v1 v2 rs b
/-- The answer's box takes the book. -/
theorem done_end2 {w w4 : World} {b b' : Book} {z1 z2 : Value} {rs : List Row} {fn : Func} {a : Act} (hE : Ext w w4) (hO : OB w4 w.heap.size z1 z2 rs b') (hr : Rec w4 (w.heap.size + 1) 26 [.slice none 0 0, .slice none 0 0])
    (hres : (results fn a.tmps).run Tryz.prog ((w4.setCell ⟨w.heap.size + 1, 0, none⟩ z1).setCell ⟨w.heap.size + 1, 1, none⟩ z2) = .ok (.agg #[z1, z2]) ((w4.setCell ⟨w.heap.size + 1, 0, none⟩ z1).setCell ⟨w.heap.size + 1, 1, none⟩ z2)) (hd : a.defers = []) (hb : b' = b) :
    bodyPost Tryz.prog fn (fun e w' => OutB w b e w') Exit.ret a ((w4.setCell ⟨w.heap.size + 1, 0, none⟩ z1).setCell ⟨w.heap.size + 1, 1, none⟩ z2) := by
  subst hb
  exact bodyPost_ret hres hd ⟨z1, z2, rs, rfl, (hE.setCell (by simp) _).setCell (by simp) _, (hO.stored hr rfl rfl _ _).stored (hr.set _ _) rfl rfl _ _⟩

set_option maxRecDepth 100000 in
set_option maxHeartbeats 2000000 in
theorem doneL_any (b : Book) (n : Str) (needs : List Str) (a1 a2 a3 : Option Addr) (c1 c2 c3 : Nat) (w : World) (hb : BookAt w a1 a2 b) (hn : StrsAt w a3 needs) (hok : bookOk b = true) (hh : hereB b n = true) :
    Calls Tryz.prog 80 #[.agg #[.slice a1 b.things.length c1, .slice a2 b.batches.length c2], .iface 78 (.agg #[.string (S n), .slice a3 needs.length c3])] w fun e w' => OutB w (fewerB b (whereB b n) needs) e w' := by
  have hk := where_lt hh
  have HW := hid (ok_where hok hh)
  have h5 := ok_five hok
  have mW := mWhoL
  have n1 := asNoLE
  have n2 := asNoLA
  have y1' := asYesL
  clear hh
  go_enter Tryz.func80, Tryz.ntmps80
  go_wp2_with fail
  refine (copiedBook_any b _ _ _ _ _ (hb.ext (ext_two _ _ _))).mono ?_
  rintro e w1 ⟨v1, v2, rs, rfl, hE1, hOB1⟩
  obtain ⟨x1, y1, x2, y2, rfl, rfl, hat1⟩ := hOB1.at (ok_short hok)
  have HR2 := hid (rec_second (l := [.slice none 0 0, .slice none 0 0]) hE1)
  have HE1 := hid (Ext.tr (ext_two _ _ _) hE1)
  have HAT1 := hid hat1
  have HOB1 : Hid (OB w1 w.heap.size _ _ rs b) := hOB1.low (by simp; omega)
  have hz1 : w.heap.size + 2 ≤ w1.heap.size := by have := hE1.size; simp at this; omega
  clear hE1 hOB1 hat1
  go_wp2_with fail
  have HEc := hid (ext_alloc w1 (.cells #[.slice x1 b.things.length y1, .slice x2 b.batches.length y2] 26))
  have HRc : Hid (Rec _ w1.heap.size 26 [.slice x1 b.things.length y1, .slice x2 b.batches.length y2]) := Rec.new w1 _ _
  have HO2 := hid (HOB1.out.ext HEc.out)
  have HAT2 := hid (HAT1.out.ext HEc.out)
  have HR3 := hid (HR2.out.ext HEc.out)
  have HE2 := hid (Ext.tr HE1.out HEc.out)
  have hzc : w1.heap.size < (w1.alloc (.cells #[.slice x1 b.things.length y1, .slice x2 b.batches.length y2] 26)).heap.size := by simp
  generalize w1.alloc (.cells #[.slice x1 b.things.length y1, .slice x2 b.batches.length y2] 26) = wc at *
  clear HR2 HEc HOB1 HAT1 HE1
  refine wp_region_T (fun w' => w'.cell? ⟨w1.heap.size, 0, none⟩ = some (.slice x1 b.things.length y1) ∧ w'.cell? ⟨w1.heap.size, 1, none⟩ = some (.slice x2 b.batches.length y2)) 8 (by kernel_rfl) ⟨HRc.out.cell rfl, HRc.out.cell rfl⟩ (fun hS => ?_)
  refine wpT_take 0 (v := ?_) rfl rfl (by kernel_rfl) (by kernel_rfl) (by kernel_rfl) (by kernel_rfl) (fun _ _ _ h => h) hS rfl (by intro w0 hw0; (try dsimp only at hw0); go_simp; try rfl) ?_
  try simp only [List.set]
  refine wpT_take 1 (v := ?_) rfl rfl (by kernel_rfl) (by kernel_rfl) (by kernel_rfl) (by kernel_rfl) (fun _ _ _ h => h) hS rfl (by intro w0 hw0; (try dsimp only at hw0); go_simp; try rfl) ?_
  try simp only [List.set]
  refine wpT_one 2 rfl (by kernel_rfl) rfl rfl (fun K hK => ?_)
  go_simp
  refine (who_any n _).mono ?_
  rintro e w2 ⟨rfl, hE2⟩
  go_wp2_with fail
  refine hK.out _ _ ⟨hE2.keep hS.1, hE2.keep hS.2⟩ (fun hS1 => ?_)
  clear hK hS
  have hS := hS1
  clear hS1
  try clear K
  try simp only [put_some, List.set]
  refine wpT_one 3 rfl (by kernel_rfl) rfl rfl (fun K hK => ?_)
  go_simp
  refine (placeOf_any b n _ _ _ _ _ ((HAT2.out.ext (ext_drewN _ 1)).ext hE2) hok).mono ?_
  rintro e w3 ⟨rfl, hE3⟩
  go_wp2_with fail
  refine hK.out _ _ ⟨hE3.keep hS.1, hE3.keep hS.2⟩ (fun hS1 => ?_)
  clear hK hS
  have hS := hS1
  clear hS1
  try clear K
  try simp only [put_some, List.set]
  refine wpT_take 4 (v := ?_) rfl rfl (by kernel_rfl) (by kernel_rfl) (by kernel_rfl) (by kernel_rfl) (fun _ _ _ h => h) hS rfl (by intro w0 hw0; (try dsimp only at hw0); go_simp; try rfl) ?_
  try simp only [List.set]
  refine wpT_take 5 (v := ?_) rfl rfl (by kernel_rfl) (by kernel_rfl) (by kernel_rfl) (by kernel_rfl) (fun _ _ _ h => h) hS rfl (by intro w0 hw0; (try dsimp only at hw0); go_simp; try rfl) ?_
  try simp only [List.set]
  refine wpT_take 6 (v := ?_) rfl rfl (by kernel_rfl) (by kernel_rfl) (by kernel_rfl) (by kernel_rfl) (fun _ _ _ h => h) hS rfl (by intro w0 hw0; (try dsimp only at hw0); go_simp; try rfl) ?_
  try simp only [List.set]
  refine wpT_take 7 (v := ?_) rfl rfl (by kernel_rfl) (by kernel_rfl) (by kernel_rfl) (by kernel_rfl) (fun _ _ _ h => h) hS rfl (by intro w0 hw0; (try dsimp only at hw0); go_simp; try rfl) ?_
  try simp only [List.set]
  refine wpT_last rfl (by kernel_rfl) (by kernel_rfl) rfl (fun K hK => ?_)
  go_simp
  refine hK.out _ _ ?_
  clear hK hS
  have HE3 : Hid (Ext wc w3) := Ext.tr (ext_drewN _ 1) (Ext.tr hE2 hE3)
  have HO3 := hid (HO2.out.ext HE3.out)
  have HAT3 := hid (HAT2.out.ext HE3.out)
  have HR3' := hid (HR3.out.ext HE3.out)
  have HRc3 := hid (HRc.out.ext HE3.out)
  have HE4 := hid (Ext.tr HE2.out HE3.out)
  have q0 := HRc3.out.cell (i := 0) rfl
  have q1 := HRc3.out.cell (i := 1) rfl
  have hz3 := HE3.out.size
  clear hE2 hE3 HE3 HO2 HR3 HRc HE2 HAT2
  rw [HW.out]
  clear HW
  generalize hke : whereB b n = k at *
  have HKE := hid hke
  clear hke
  obtain ⟨g, gc, cur, he, -⟩ := own_open (by have h := HO3.out.ob; rw [HO3.out.ow.1] at h; exact h) (by omega : 0 < b.batches.length)
  simp only [Value.slice.injEq, true_and] at he
  obtain ⟨rfl, rfl⟩ := he
  have hzw : wc.heap.size ≤ (w3.alloc (.cells #[.string (S n), .slice a3 needs.length c3] 78)).heap.size := by simp; omega
  have q1b := (ext_alloc w3 (.cells #[.string (S n), .slice a3 needs.length c3] 78)).keep q1
  go_wp2_with fail
  clear q0 q1 q1b
  replace HO3 := hid (HO3.out.ext (ext_alloc w3 (.cells #[.string (S n), .slice a3 needs.length c3] 78)))
  replace HAT3 := hid (HAT3.out.ext (ext_alloc w3 (.cells #[.string (S n), .slice a3 needs.length c3] 78)))
  replace HR3' := hid (HR3'.out.ext (ext_alloc w3 (.cells #[.string (S n), .slice a3 needs.length c3] 78)))
  replace HRc3 := hid (HRc3.out.ext (ext_alloc w3 (.cells #[.string (S n), .slice a3 needs.length c3] 78)))
  replace HE4 := hid (Ext.tr HE4.out (ext_alloc w3 (.cells #[.string (S n), .slice a3 needs.length c3] 78)))
  have HRw : Hid (Rec _ w3.heap.size 78 [.string (S n), .slice a3 needs.length c3]) := Rec.new w3 _ _
  have hzb : w3.heap.size < (w3.alloc (.cells #[.string (S n), .slice a3 needs.length c3] 78)).heap.size := by simp
  generalize w3.alloc (.cells #[.string (S n), .slice a3 needs.length c3] 78) = wb at *
  obtain ⟨bb, oo, hbo, -, z1, d1, z2, d2, -, p1, p2, s1, s2⟩ := HAT3.out.2.2 k hk
  cases hbo
  rw [Nat.zero_add] at p1 p2
  have hgl : g < wb.heap.size := cell_lt p1
  have hgb : w.heap.size ≤ g := (HO3.out.ob.lt g rfl).1
  have hn1 : w1.heap.size ≠ g := fun e => HRc3.out.not_row rfl HO3.out.ob (by rw [e]; rfl)
  have hn2 : w.heap.size + 1 ≠ g := fun e => HR3'.out.not_row rfl HO3.out.ob (by rw [e]; rfl)
  have hn3 : w3.heap.size ≠ g := fun e => HRw.out.not_row rfl HO3.out.ob (by rw [e]; rfl)
  refine wp_region_T (fun w' => w'.cell? ⟨w3.heap.size, 1, none⟩ = some (.slice a3 needs.length c3)) 17 (by kernel_rfl) (HRw.out.cell rfl) (fun hS => ?_)
  refine wpT_take 0 (v := ?_) rfl rfl (by kernel_rfl) (by kernel_rfl) (by kernel_rfl) (by kernel_rfl) (fun _ _ _ h => h) hS rfl (by intro w0 hw0; (try dsimp only at hw0); go_simp; try rfl) ?_
  try simp only [List.set]
  refine wpT_take 1 (v := ?_) rfl rfl (by kernel_rfl) (by kernel_rfl) (by kernel_rfl) (by kernel_rfl) (fun _ _ _ h => h) hS rfl (by intro w0 hw0; (try dsimp only at hw0); go_simp; try rfl) ?_
  try simp only [List.set]
  refine wpT_take 2 (v := ?_) rfl rfl (by kernel_rfl) (by kernel_rfl) (by kernel_rfl) (by kernel_rfl) (fun _ _ _ h => h) hS rfl (by intro w0 hw0; (try dsimp only at hw0); go_simp; try rfl) ?_
  try simp only [List.set]
  refine wpT_take 3 (v := ?_) rfl rfl (by kernel_rfl) (by kernel_rfl) (by kernel_rfl) (by kernel_rfl) (fun _ _ _ h => h) hS rfl (by intro w0 hw0; (try dsimp only at hw0); go_simp; try rfl) ?_
  try simp only [List.set]
  refine wpT_take 4 (v := ?_) rfl rfl (by kernel_rfl) (by kernel_rfl) (by kernel_rfl) (by kernel_rfl) (fun _ _ _ h => h) hS rfl (by intro w0 hw0; (try dsimp only at hw0); go_simp; try rfl) ?_
  try simp only [List.set]
  refine wpT_take 6 (v := ?_) rfl rfl (by kernel_rfl) (by kernel_rfl) (by kernel_rfl) (by kernel_rfl) (fun _ _ _ h => h) hS rfl (by intro w0 hw0; (try dsimp only at hw0); go_simp; try rfl) ?_
  try simp only [List.set]
  refine wpT_take 7 (v := ?_) rfl rfl (by kernel_rfl) (by kernel_rfl) (by kernel_rfl) (by kernel_rfl) (fun _ _ _ h => h) hS rfl (by intro w0 hw0; (try dsimp only at hw0); go_simp; try rfl) ?_
  try simp only [List.set]
  refine wpT_take 9 (v := ?_) rfl rfl (by kernel_rfl) (by kernel_rfl) (by kernel_rfl) (by kernel_rfl) (fun _ _ _ h => h) hS rfl (by intro w0 hw0; (try dsimp only at hw0); go_simp; try rfl) ?_
  try simp only [List.set]
  refine wpT_take 10 (v := ?_) rfl rfl (by kernel_rfl) (by kernel_rfl) (by kernel_rfl) (by kernel_rfl) (fun _ _ _ h => h) hS rfl (by intro w0 hw0; (try dsimp only at hw0); go_simp; try rfl) ?_
  try simp only [List.set]
  refine wpT_one 5 rfl (by kernel_rfl) rfl rfl (fun K hK => ?_)
  go_simp
  refine hK.out _ _ hS (fun hS1 => ?_)
  clear hK hS
  have hS := hS1
  clear hS1
  try clear K
  try simp only [put_some, List.set]
  refine wpT_one 8 rfl (by kernel_rfl) rfl rfl (fun K hK => ?_)
  go_simp
  refine (kept_any _ _ _ _ _ _ _ (s1.ext (ext_drewN _ 1)) ((hn.ext HE4.out).ext (ext_drewN _ 1))).mono ?_
  rintro e w5 ⟨u, rfl, hE5, ho5⟩
  obtain ⟨x5, y5, rfl⟩ := own_sl ho5
  go_wp2_with fail
  refine hK.out _ _ (hE5.keep hS) (fun hS1 => ?_)
  clear hK hS
  have hS := hS1
  clear hS1
  try clear K
  try simp only [put_some, List.set]
  refine wpT_one 11 rfl (by kernel_rfl) rfl rfl (fun K hK => ?_)
  go_simp
  refine (copied_any _ _ _ _ (((hn.ext HE4.out).ext (ext_drewN _ 1)).ext hE5)).mono ?_
  rintro e w6 ⟨u6, rfl, hE6, ho6⟩
  obtain ⟨x6, y6, rfl⟩ := own_sl ho6
  go_wp2_with fail
  refine hK.out _ _ (hE6.keep hS) (fun hS1 => ?_)
  clear hK hS
  have hS := hS1
  clear hS1
  try clear K
  try simp only [put_some, List.set]
  have hE16 : Ext wb w6 := Ext.tr (ext_drewN _ 1) (Ext.tr hE5 hE6)
  have hzb5 : wb.heap.size ≤ w5.heap.size := hE5.size
  have hzb6 : w5.heap.size ≤ w6.heap.size := hE6.size
  have hO6 := HO3.out.ext hE16
  have hu5 : ∀ v ∈ (Value.slice x1 b.things.length y1) :: allV rs, NE v (.slice x5 (keptL (nthB b.batches k).has needs).length y5) := fun v hv => by
    rw [List.mem_cons] at hv
    rcases hv with rfl | hv
    · exact NE.older HO3.out.ot ho5 (Nat.le_refl _)
    · obtain ⟨M, hM⟩ := HO3.out.ow.memV hv
      exact NE.older hM ho5 (Nat.le_refl _)
  obtain ⟨rs1, hO7, hsub⟩ := hO6.putHas hk (ho5.ext hE6) (short_kept s1.short) (by show w.heap.size ≤ wb.heap.size; omega) hu5
  have hu6 : ∀ v ∈ (Value.slice x1 b.things.length y1) :: allV rs1, NE v (.slice x6 needs.length y6) := fun v hv => by
    rcases hsub v hv with rfl | hv
    · exact NE.older ho5 ho6 (Nat.le_refl _)
    · rw [List.mem_cons] at hv
      rcases hv with rfl | hv
      · exact NE.older HO3.out.ot ho6 (by show wb.heap.size ≤ _; omega)
      · obtain ⟨M, hM⟩ := HO3.out.ow.memV hv
        exact NE.older hM ho6 (by show wb.heap.size ≤ _; omega)
  have h6' : OwnL (w6.setCell ⟨g, k * 3 + 1, none⟩ (.slice x5 (keptL (nthB b.batches k).has needs).length y5)) w5.heap.size (.slice x6 needs.length y6) needs := own_store_keep (by have h := hO6.ob; rw [hO6.ow.1] at h; exact h) ho6 _ _
  have hO7' : OB (w6.setCell ⟨g, k * 3 + 1, none⟩ (.slice x5 (keptL (nthB b.batches k).has needs).length y5)) w.heap.size (.slice x1 b.things.length y1) (.slice (some ⟨g, 0, none⟩) (b.batches.set k ⟨(nthB b.batches k).name, keptL (nthB b.batches k).has needs, (nthB b.batches k).needs⟩).length y2) rs1 ⟨b.things, b.batches.set k ⟨(nthB b.batches k).name, keptL (nthB b.batches k).has needs, (nthB b.batches k).needs⟩⟩ := by rw [List.length_set]; exact hO7
  obtain ⟨rs2, hO8, -⟩ := hO7'.putNeeds (by rw [List.length_set]; exact hk) h6' hn.short (by omega) hu6
  rw [nthB_set hk, List.set_set, List.length_set] at hO8
  have p1' := hE16.keep p1
  have f1 : w6.frozen? ⟨g, k * 3 + 1, none⟩ = false := by
    obtain ⟨-, -, f, -⟩ := hO6.bs.cells hk
    exact f
  have f2 : w6.frozen? ⟨g, k * 3 + 2, none⟩ = false := by
    obtain ⟨-, -, -, f⟩ := hO6.bs.cells hk
    exact f
  have p2' := hE16.keep p2
  have HO8 := hid hO8
  have gs1 := gb_store w6 g (k * 3 + 1) (.slice x5 (keptL (nthB b.batches k).has needs).length y5)
  have gs2 := gb_store (w6.setCell ⟨g, k * 3 + 1, none⟩ (.slice x5 (keptL (nthB b.batches k).has needs).length y5)) g (k * 3 + 2) (.slice x6 needs.length y6)
  have HRC := hid (((HRc3.out.ext hE16).kept gs1 (fun e => hn1 (Option.some.inj e))).kept gs2 (fun e => hn1 (Option.some.inj e)))
  have HRR := hid (((HR3'.out.ext hE16).kept gs1 (fun e => hn2 (Option.some.inj e))).kept gs2 (fun e => hn2 (Option.some.inj e)))
  have hRw1 := (HRw.out.ext hE16).kept gs1 (fun e => hn3 (Option.some.inj e))
  have HE8 : Hid (Ext w ((w6.setCell ⟨g, k * 3 + 1, none⟩ (.slice x5 (keptL (nthB b.batches k).has needs).length y5)).setCell ⟨g, k * 3 + 2, none⟩ (.slice x6 needs.length y6))) := ((Ext.tr HE4.out hE16).setCell hgb _).setCell hgb _
  clear hO8 hO7' h6' hu6 hO7 hu5 hO6 gs1 gs2 hE16 hE5 hE6 ho5 ho6 HO3 HAT3 HR3' HRc3 HE4 s1 s2 p1 p2 hsub
  refine wpT_take 12 (v := ?_) rfl rfl (by kernel_rfl) (by kernel_rfl) (by kernel_rfl) (by kernel_rfl) (fun _ _ _ h => h) hS rfl (by intro w0 hw0; (try dsimp only at hw0); go_simp; try rfl) ?_
  try simp only [List.set]
  refine wpT_take 13 (v := ?_) rfl rfl (by kernel_rfl) (by kernel_rfl) (by kernel_rfl) (by kernel_rfl) (fun _ _ _ h => h) hS rfl (by intro w0 hw0; (try dsimp only at hw0); go_simp; try rfl) ?_
  try simp only [List.set]
  refine wpT_one 14 rfl (by kernel_rfl) rfl rfl (fun K hK => ?_)
  go_simp
  refine hK.out _ _ (hRw1.cell rfl) (fun hS1 => ?_)
  clear hK hS
  have hS := hS1
  clear hS1
  try clear K
  try simp only [put_some, List.set]
  refine wpT_one 15 rfl (by kernel_rfl) rfl rfl (fun K hK => ?_)
  go_simp
  refine hK.out _ _ hS (fun hS1 => ?_)
  clear hK hS
  have hS := hS1
  clear hS1
  try clear K
  try simp only [put_some, List.set]
  refine wpT_one 16 rfl (by kernel_rfl) rfl rfl (fun K hK => ?_)
  go_simp
  refine hK.out _ _ hS (fun hS1 => ?_)
  clear hK hS
  have hS := hS1
  clear hS1
  try clear K
  try simp only [put_some, List.set]
  refine wpT_last rfl (by kernel_rfl) (by kernel_rfl) rfl (fun K hK => ?_)
  go_simp
  refine hK.out _ _ ?_
  clear hK hS hRw1
  generalize (w6.setCell ⟨g, k * 3 + 1, none⟩ (.slice x5 (keptL (nthB b.batches k).has needs).length y5)).setCell ⟨g, k * 3 + 2, none⟩ (.slice x6 needs.length y6) = w8 at *
  have q0 := HRC.out.cell (i := 0) rfl
  have q1 := HRC.out.cell (i := 1) rfl
  have t0 := HRR.out.cell (i := 0) rfl
  have t1 := HRR.out.cell (i := 1) rfl
  have g0 := HRR.out.frozen 0
  have g1 := HRR.out.frozen 1
  go_wp2_with fail
  exact done_end2 HE8.out HO8.out HRR.out (by simp [results, Tryz.results80, go_sem, t0, t1]) rfl (by rw [HKE.out]; rfl)

end Go.Proofs.YtdafpnpfcmgfcaaGreatDoor
namespace Go.Proofs.YtdafpnpfcmgfcaaGreatDoor
open Go.RowKit
attribute [local go_sem] S_toList S_size S_get

set_option maxRecDepth 100000 in
set_option maxHeartbeats 2000000 in
theorem doneA_any (b : Book) (n : Str) (things : List Str) (a1 a2 a3 : Option Addr) (c1 c2 c3 : Nat) (w : World) (hb : BookAt w a1 a2 b) (hn : StrsAt w a3 things) (hok : bookOk b = true) (hh : hereB b n = true) (hth : namesOk things (b.at (whereB b n)).needs = true) :
    Calls Tryz.prog 80 #[.agg #[.slice a1 b.things.length c1, .slice a2 b.batches.length c2], .iface 75 (.agg #[.string (S n), .slice a3 things.length c3])] w fun e w' => OutB w (giveB b (whereB b n) things) e w' := by
  have HKG : Hid (keptL (nthB b.batches (whereB b n)).needs ((nthB b.batches (whereB b n)).has ++ things) = things.foldl insS (nthB b.batches (whereB b n)).has) := by
    have h := each_at (ok_iff.1 hok) (where_lt hh)
    exact kept_give (namesOk_iff.1 h.1).1 h.2 hth
  have h8 := namesOk_len hth
  have h9 := ok_lens hok (where_lt hh)
  have hlA : (nthB b.batches (whereB b n)).has.length + things.length ≤ 16 := by
    have e : b.at (whereB b n) = nthB b.batches (whereB b n) := rfl
    rw [e] at h8 h9
    omega
  clear h8 h9 hth
  have hk := where_lt hh
  have HW := hid (ok_where hok hh)
  have h5 := ok_five hok
  have mW := mWhoA
  have n1 := asNoAE
  have y1' := asYesA
  clear hh
  go_enter Tryz.func80, Tryz.ntmps80
  go_wp2_with fail
  refine (copiedBook_any b _ _ _ _ _ (hb.ext (ext_two _ _ _))).mono ?_
  rintro e w1 ⟨v1, v2, rs, rfl, hE1, hOB1⟩
  obtain ⟨x1, y1, x2, y2, rfl, rfl, hat1⟩ := hOB1.at (ok_short hok)
  have HR2 := hid (rec_second (l := [.slice none 0 0, .slice none 0 0]) hE1)
  have HE1 := hid (Ext.tr (ext_two _ _ _) hE1)
  have HAT1 := hid hat1
  have HOB1 : Hid (OB w1 w.heap.size _ _ rs b) := hOB1.low (by simp; omega)
  have hz1 : w.heap.size + 2 ≤ w1.heap.size := by have := hE1.size; simp at this; omega
  clear hE1 hOB1 hat1
  go_wp2_with fail
  have HEc := hid (ext_alloc w1 (.cells #[.slice x1 b.things.length y1, .slice x2 b.batches.length y2] 26))
  have HRc : Hid (Rec _ w1.heap.size 26 [.slice x1 b.things.length y1, .slice x2 b.batches.length y2]) := Rec.new w1 _ _
  have HO2 := hid (HOB1.out.ext HEc.out)
  have HAT2 := hid (HAT1.out.ext HEc.out)
  have HR3 := hid (HR2.out.ext HEc.out)
  have HE2 := hid (Ext.tr HE1.out HEc.out)
  have hzc : w1.heap.size < (w1.alloc (.cells #[.slice x1 b.things.length y1, .slice x2 b.batches.length y2] 26)).heap.size := by simp
  generalize w1.alloc (.cells #[.slice x1 b.things.length y1, .slice x2 b.batches.length y2] 26) = wc at *
  clear HR2 HEc HOB1 HAT1 HE1
  refine wp_region_T (fun w' => w'.cell? ⟨w1.heap.size, 0, none⟩ = some (.slice x1 b.things.length y1) ∧ w'.cell? ⟨w1.heap.size, 1, none⟩ = some (.slice x2 b.batches.length y2)) 8 (by kernel_rfl) ⟨HRc.out.cell rfl, HRc.out.cell rfl⟩ (fun hS => ?_)
  refine wpT_take 0 (v := ?_) rfl rfl (by kernel_rfl) (by kernel_rfl) (by kernel_rfl) (by kernel_rfl) (fun _ _ _ h => h) hS rfl (by intro w0 hw0; (try dsimp only at hw0); go_simp; try rfl) ?_
  try simp only [List.set]
  refine wpT_take 1 (v := ?_) rfl rfl (by kernel_rfl) (by kernel_rfl) (by kernel_rfl) (by kernel_rfl) (fun _ _ _ h => h) hS rfl (by intro w0 hw0; (try dsimp only at hw0); go_simp; try rfl) ?_
  try simp only [List.set]
  refine wpT_one 2 rfl (by kernel_rfl) rfl rfl (fun K hK => ?_)
  go_simp
  refine (who_any n _).mono ?_
  rintro e w2 ⟨rfl, hE2⟩
  go_wp2_with fail
  refine hK.out _ _ ⟨hE2.keep hS.1, hE2.keep hS.2⟩ (fun hS1 => ?_)
  clear hK hS
  have hS := hS1
  clear hS1
  try clear K
  try simp only [put_some, List.set]
  refine wpT_one 3 rfl (by kernel_rfl) rfl rfl (fun K hK => ?_)
  go_simp
  refine (placeOf_any b n _ _ _ _ _ ((HAT2.out.ext (ext_drewN _ 1)).ext hE2) hok).mono ?_
  rintro e w3 ⟨rfl, hE3⟩
  go_wp2_with fail
  refine hK.out _ _ ⟨hE3.keep hS.1, hE3.keep hS.2⟩ (fun hS1 => ?_)
  clear hK hS
  have hS := hS1
  clear hS1
  try clear K
  try simp only [put_some, List.set]
  refine wpT_take 4 (v := ?_) rfl rfl (by kernel_rfl) (by kernel_rfl) (by kernel_rfl) (by kernel_rfl) (fun _ _ _ h => h) hS rfl (by intro w0 hw0; (try dsimp only at hw0); go_simp; try rfl) ?_
  try simp only [List.set]
  refine wpT_take 5 (v := ?_) rfl rfl (by kernel_rfl) (by kernel_rfl) (by kernel_rfl) (by kernel_rfl) (fun _ _ _ h => h) hS rfl (by intro w0 hw0; (try dsimp only at hw0); go_simp; try rfl) ?_
  try simp only [List.set]
  refine wpT_take 6 (v := ?_) rfl rfl (by kernel_rfl) (by kernel_rfl) (by kernel_rfl) (by kernel_rfl) (fun _ _ _ h => h) hS rfl (by intro w0 hw0; (try dsimp only at hw0); go_simp; try rfl) ?_
  try simp only [List.set]
  refine wpT_take 7 (v := ?_) rfl rfl (by kernel_rfl) (by kernel_rfl) (by kernel_rfl) (by kernel_rfl) (fun _ _ _ h => h) hS rfl (by intro w0 hw0; (try dsimp only at hw0); go_simp; try rfl) ?_
  try simp only [List.set]
  refine wpT_last rfl (by kernel_rfl) (by kernel_rfl) rfl (fun K hK => ?_)
  go_simp
  refine hK.out _ _ ?_
  clear hK hS
  have HE3 : Hid (Ext wc w3) := Ext.tr (ext_drewN _ 1) (Ext.tr hE2 hE3)
  have HO3 := hid (HO2.out.ext HE3.out)
  have HAT3 := hid (HAT2.out.ext HE3.out)
  have HR3' := hid (HR3.out.ext HE3.out)
  have HRc3 := hid (HRc.out.ext HE3.out)
  have HE4 := hid (Ext.tr HE2.out HE3.out)
  have q0 := HRc3.out.cell (i := 0) rfl
  have q1 := HRc3.out.cell (i := 1) rfl
  have hz3 := HE3.out.size
  clear hE2 hE3 HE3 HO2 HR3 HRc HE2 HAT2
  rw [HW.out]
  clear HW
  generalize hke : whereB b n = k at *
  have HKE := hid hke
  clear hke
  obtain ⟨g, gc, cur, he, -⟩ := own_open (by have h := HO3.out.ob; rw [HO3.out.ow.1] at h; exact h) (by omega : 0 < b.batches.length)
  simp only [Value.slice.injEq, true_and] at he
  obtain ⟨rfl, rfl⟩ := he
  have hzw : wc.heap.size ≤ (w3.alloc (.cells #[.string (S n), .slice a3 things.length c3] 75)).heap.size := by simp; omega
  have q1b := (ext_alloc w3 (.cells #[.string (S n), .slice a3 things.length c3] 75)).keep q1
  go_wp2_with fail
  clear q0 q1 q1b
  replace HO3 := hid (HO3.out.ext (ext_alloc w3 (.cells #[.string (S n), .slice a3 things.length c3] 75)))
  replace HAT3 := hid (HAT3.out.ext (ext_alloc w3 (.cells #[.string (S n), .slice a3 things.length c3] 75)))
  replace HR3' := hid (HR3'.out.ext (ext_alloc w3 (.cells #[.string (S n), .slice a3 things.length c3] 75)))
  replace HRc3 := hid (HRc3.out.ext (ext_alloc w3 (.cells #[.string (S n), .slice a3 things.length c3] 75)))
  replace HE4 := hid (Ext.tr HE4.out (ext_alloc w3 (.cells #[.string (S n), .slice a3 things.length c3] 75)))
  have HRw : Hid (Rec _ w3.heap.size 75 [.string (S n), .slice a3 things.length c3]) := Rec.new w3 _ _
  have hzb : w3.heap.size < (w3.alloc (.cells #[.string (S n), .slice a3 things.length c3] 75)).heap.size := by simp
  generalize w3.alloc (.cells #[.string (S n), .slice a3 things.length c3] 75) = wb at *
  obtain ⟨bb, oo, hbo, -, z1, d1, z2, d2, -, p1, p2, s1, s2⟩ := HAT3.out.2.2 k hk
  cases hbo
  rw [Nat.zero_add] at p1 p2
  have hgl : g < wb.heap.size := cell_lt p1
  have hgb : w.heap.size ≤ g := (HO3.out.ob.lt g rfl).1
  have hn1 : w1.heap.size ≠ g := fun e => HRc3.out.not_row rfl HO3.out.ob (by rw [e]; rfl)
  have hn2 : w.heap.size + 1 ≠ g := fun e => HR3'.out.not_row rfl HO3.out.ob (by rw [e]; rfl)
  have hn3 : w3.heap.size ≠ g := fun e => HRw.out.not_row rfl HO3.out.ob (by rw [e]; rfl)
  have p1d := p1
  refine wp_region_T (fun w' => w'.cell? ⟨w3.heap.size, 1, none⟩ = some (.slice a3 things.length c3) ∧ w'.cell? ⟨g, k * 3 + 1, none⟩ = some (.slice z1 (nthB b.batches k).has.length d1) ∧ w'.cell? ⟨g, k * 3 + 2, none⟩ = some (.slice z2 (nthB b.batches k).needs.length d2)) 16 (by kernel_rfl) ⟨HRw.out.cell rfl, p1, p2⟩ (fun hS => ?_)
  refine wpT_take 0 (v := ?_) rfl rfl (by kernel_rfl) (by kernel_rfl) (by kernel_rfl) (by kernel_rfl) (fun _ _ _ h => h) hS rfl (by intro w0 hw0; (try dsimp only at hw0); go_simp; try rfl) ?_
  try simp only [List.set]
  refine wpT_take 1 (v := ?_) rfl rfl (by kernel_rfl) (by kernel_rfl) (by kernel_rfl) (by kernel_rfl) (fun _ _ _ h => h) hS rfl (by intro w0 hw0; (try dsimp only at hw0); go_simp; try rfl) ?_
  try simp only [List.set]
  refine wpT_take 2 (v := ?_) rfl rfl (by kernel_rfl) (by kernel_rfl) (by kernel_rfl) (by kernel_rfl) (fun _ _ _ h => h) hS rfl (by intro w0 hw0; (try dsimp only at hw0); go_simp; try rfl) ?_
  try simp only [List.set]
  refine wpT_take 3 (v := ?_) rfl rfl (by kernel_rfl) (by kernel_rfl) (by kernel_rfl) (by kernel_rfl) (fun _ _ _ h => h) hS rfl (by intro w0 hw0; (try dsimp only at hw0); go_simp; try rfl) ?_
  try simp only [List.set]
  refine wpT_take 4 (v := ?_) rfl rfl (by kernel_rfl) (by kernel_rfl) (by kernel_rfl) (by kernel_rfl) (fun _ _ _ h => h) hS rfl (by intro w0 hw0; (try dsimp only at hw0); go_simp; try rfl) ?_
  try simp only [List.set]
  refine wpT_take 5 (v := ?_) rfl rfl (by kernel_rfl) (by kernel_rfl) (by kernel_rfl) (by kernel_rfl) (fun _ _ _ h => h) hS rfl (by intro w0 hw0; (try dsimp only at hw0); go_simp; try rfl) ?_
  try simp only [List.set]
  refine wpT_take 6 (v := ?_) rfl rfl (by kernel_rfl) (by kernel_rfl) (by kernel_rfl) (by kernel_rfl) (fun _ _ _ h => h) hS rfl (by intro w0 hw0; (try dsimp only at hw0); go_simp; try rfl) ?_
  try simp only [List.set]
  refine wpT_take 7 (v := ?_) rfl rfl (by kernel_rfl) (by kernel_rfl) (by kernel_rfl) (by kernel_rfl) (fun _ _ _ h => h) hS rfl (by intro w0 hw0; (try dsimp only at hw0); go_simp; try rfl) ?_
  try simp only [List.set]
  refine wpT_take 8 (v := ?_) rfl rfl (by kernel_rfl) (by kernel_rfl) (by kernel_rfl) (by kernel_rfl) (fun _ _ _ h => h) hS rfl (by intro w0 hw0; (try dsimp only at hw0); go_simp; try rfl) ?_
  try simp only [List.set]
  refine wpT_take 9 (v := ?_) rfl rfl (by kernel_rfl) (by kernel_rfl) (by kernel_rfl) (by kernel_rfl) (fun _ _ _ h => h) hS rfl (by intro w0 hw0; (try dsimp only at hw0); go_simp; try rfl) ?_
  try simp only [List.set]
  refine wpT_take 10 (v := ?_) rfl rfl (by kernel_rfl) (by kernel_rfl) (by kernel_rfl) (by kernel_rfl) (fun _ _ _ h => h) hS rfl (by intro w0 hw0; (try dsimp only at hw0); go_simp; try rfl) ?_
  try simp only [List.set]
  refine wpT_one 11 rfl (by kernel_rfl) rfl rfl (fun K hK => ?_)
  go_simp
  refine hK.out _ _ ⟨(ext_alloc _ _).keep hS.1, (ext_alloc _ _).keep hS.2.1, (ext_alloc _ _).keep hS.2.2⟩ (fun hS1 => ?_)
  clear hK hS
  have hS := hS1
  clear hS1
  try clear K
  try simp only [put_some, List.set]
  have hE5 : Ext wb ((wb.alloc (.cells #[.slice z1 (nthB b.batches k).has.length d1, .slice a3 things.length c3] 23)).drew) := Ext.tr (ext_alloc _ _) (ext_drewN _ 1)
  have v0 : ((wb.alloc (.cells #[.slice z1 (nthB b.batches k).has.length d1, .slice a3 things.length c3] 23)).drew).cell? ⟨wb.heap.size, 0, none⟩ = some (.slice z1 (nthB b.batches k).has.length d1) := box_cell (w := wb) (ext_drewN _ 1) (i := 0) rfl
  have v1 : ((wb.alloc (.cells #[.slice z1 (nthB b.batches k).has.length d1, .slice a3 things.length c3] 23)).drew).cell? ⟨wb.heap.size, 1, none⟩ = some (.slice a3 things.length c3) := box_cell (w := wb) (ext_drewN _ 1) (i := 1) rfl
  have hz5 : wb.heap.size ≤ ((wb.alloc (.cells #[.slice z1 (nthB b.batches k).has.length d1, .slice a3 things.length c3] 23)).drew).heap.size := hE5.size
  refine wpT_one 12 rfl (by kernel_rfl) rfl rfl (fun K hK => ?_)
  go_simp
  generalize (wb.alloc (.cells #[.slice z1 (nthB b.batches k).has.length d1, .slice a3 things.length c3] 23)).drew = w5 at *
  refine (concat_any _ _ _ _ _ _ _ _ _ v0 v1 (s1.ext hE5) ((hn.ext HE4.out).ext hE5) (by omega)).mono ?_
  rintro e w6 ⟨u6, rfl, hE6, ho6⟩
  have hsab := short_app s1.short hn.short (by omega)
  generalize (nthB b.batches k).has ++ things = ab at *
  obtain ⟨x6, y6, rfl, hs6⟩ := ho6.at' hsab
  clear hsab
  go_wp2_with fail
  refine hK.out _ _ ⟨hE6.keep hS.1, hE6.keep hS.2.1, hE6.keep hS.2.2⟩ (fun hS1 => ?_)
  clear hK hS
  have hS := hS1
  clear hS1
  try clear K
  try simp only [put_some, List.set]
  refine wpT_one 13 rfl (by kernel_rfl) rfl rfl (fun K hK => ?_)
  go_simp
  refine (kept_any _ _ _ _ _ _ _ ((s2.ext hE5).ext hE6) hs6).mono ?_
  rintro e w7 ⟨u, rfl, hE7, ho7⟩
  obtain ⟨x7, y7, rfl⟩ := own_sl ho7
  go_wp2_with fail
  refine hK.out _ _ ⟨hE7.keep hS.1, hE7.keep hS.2.1, hE7.keep hS.2.2⟩ (fun hS1 => ?_)
  clear hK hS
  have hS := hS1
  clear hS1
  try clear K
  try simp only [put_some, List.set]
  have hE17 : Ext wb w7 := Ext.tr hE5 (Ext.tr hE6 hE7)
  have hz6 : w5.heap.size ≤ w6.heap.size := hE6.size
  have hO7 := HO3.out.ext hE17
  have hu7 : ∀ v ∈ (Value.slice x1 b.things.length y1) :: allV rs, NE v (.slice x7 (keptL (nthB b.batches k).needs ab).length y7) := fun v hv => by
    rw [List.mem_cons] at hv
    rcases hv with rfl | hv
    · exact NE.older HO3.out.ot ho7 (by omega)
    · obtain ⟨M, hM⟩ := HO3.out.ow.memV hv
      exact NE.older hM ho7 (by omega)
  obtain ⟨rs1, hO8, -⟩ := hO7.putHas hk ho7 (short_kept s2.short) (by omega) hu7
  have f1 : w7.frozen? ⟨g, k * 3 + 1, none⟩ = false := by
    obtain ⟨-, -, f, -⟩ := hO7.bs.cells hk
    exact f
  have p1' := hE17.keep p1d
  have HO8 := hid hO8
  have gs1 := gb_store w7 g (k * 3 + 1) (.slice x7 (keptL (nthB b.batches k).needs ab).length y7)
  have HRC := hid ((HRc3.out.ext hE17).kept gs1 (fun e => hn1 (Option.some.inj e)))
  have HRR := hid ((HR3'.out.ext hE17).kept gs1 (fun e => hn2 (Option.some.inj e)))
  have HE8 : Hid (Ext w (w7.setCell ⟨g, k * 3 + 1, none⟩ (.slice x7 (keptL (nthB b.batches k).needs ab).length y7))) := (Ext.tr HE4.out hE17).setCell hgb _
  clear hO8 hO7 hu7 gs1 hE17 hE5 hE6 hE7 ho6 ho7 hs6 HO3 HAT3 HR3' HRc3 HE4 s1 s2 p1 p2 p1d v0 v1
  refine wpT_one 14 rfl (by kernel_rfl) rfl rfl (fun K hK => ?_)
  go_simp
  refine hK.out _ _ hS (fun hS1 => ?_)
  clear hK hS
  have hS := hS1
  clear hS1
  try clear K
  try simp only [put_some, List.set]
  refine wpT_take 15 (v := ?_) rfl rfl (by kernel_rfl) (by kernel_rfl) (by kernel_rfl) (by kernel_rfl) (fun _ _ _ h => h) hS rfl (by intro w0 hw0; (try dsimp only at hw0); go_simp; try rfl) ?_
  try simp only [List.set]
  refine wpT_last rfl (by kernel_rfl) (by kernel_rfl) rfl (fun K hK => ?_)
  go_simp
  refine hK.out _ _ ?_
  clear hK hS
  generalize w7.setCell ⟨g, k * 3 + 1, none⟩ (.slice x7 (keptL (nthB b.batches k).needs ab).length y7) = w8 at *
  have q0 := HRC.out.cell (i := 0) rfl
  have q1 := HRC.out.cell (i := 1) rfl
  have t0 := HRR.out.cell (i := 0) rfl
  have t1 := HRR.out.cell (i := 1) rfl
  have g0 := HRR.out.frozen 0
  have g1 := HRR.out.frozen 1
  go_wp2_with fail
  exact done_end2 HE8.out HO8.out HRR.out (by simp [results, Tryz.results80, go_sem, t0, t1]) rfl (by rw [HKE.out, HKG.out]; rfl)
end Go.Proofs.YtdafpnpfcmgfcaaGreatDoor
