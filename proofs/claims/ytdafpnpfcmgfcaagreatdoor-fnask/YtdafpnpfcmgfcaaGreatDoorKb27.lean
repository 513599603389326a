/- Rows that lie apart: what a call's own lists keep while another grows. The walk over the specification's l1Copy. What the specification's functions of chapter 3 share; the walk over ShareEnter. Small laws: a world that has drawn; wrapped sums. -/
import Derived.Test.YtdafpnpfcmgfcaaGreatDoorKb26
import Derived.Test.YtdafpnpfcmgfcaaGreatDoorKb23
namespace Go.Proofs.YtdafpnpfcmgfcaaGreatDoor
section
open Go.RowKit
attribute [local go_sem] S_toList S_size S_get
theorem own_far {w w' : World} {base : Nat} {t : TypeId} {z : Nat} {v : Value} {n : Nat} {xs : List Value} (h : w.ownsRow base t z v n xs) {row : Option Nat} (g : w.grownBy w' row) (hr : ∀ k, row = some k → k < base) : w'.ownsRow base t z v n xs := by
 refine World.ownsRow.kept h g ?_
 cases hv : v.ownBlock with
 | none => exact Or.inl rfl
 | some b =>
  refine Or.inr (fun e => ?_)
  have h1 := (h.lt b hv).1
  have h2 := hr b e.symm
  omega
theorem OwnL.far {w w' : World} {base : Nat} {v : Value} {L : List Str} (h : OwnL w base v L) {row : Option Nat} (g : w.grownBy w' row) (hr : ∀ k, row = some k → k < base) : OwnL w' base v L := own_far h g hr
def NE (u v : Value) : Prop := ∀ g, u.ownBlock = some g → v.ownBlock ≠ some g
theorem NE.symm {u v : Value} (h : NE u v) : NE v u := fun g h1 h2 => h g h2 h1
theorem NE.nil (u : Value) : NE u (.slice none 0 0) := fun g _ h => by simp [Value.ownBlock] at h
theorem NE.next {w : World} {u u' v : Value} {base n : Nat} {t : TypeId} {z : Nat} {xs : List Value} (h : NE u v) (ho : w.ownsRow base t z v n xs) (hu : u'.ownBlock = u.ownBlock ∨ u'.ownBlock = some w.heap.size) : NE u' v := by
 intro g hg hv
 rcases hu with hu | hu
 ·exact h g (by rw [← hu]; exact hg) hv
 ·rw [hu] at hg
  cases hg
  have := (ho.lt _ hv).2
  omega
theorem own_ne {w w' : World} {u v : Value} {base n : Nat} {t : TypeId} {z : Nat} {xs : List Value} (h : w.ownsRow base t z v n xs) (g : w.grownBy w' u.ownBlock) (ne : NE u v) : w'.ownsRow base t z v n xs := by
 refine World.ownsRow.kept h g ?_
 cases hv : v.ownBlock with
 | none => exact Or.inl rfl
 | some b => exact Or.inr (fun e => ne b e.symm hv)
theorem RowsOwn.ne {w w' : World} {u : Value} {base : Nat} {rs : List Row} {bs : List Batch} (h : RowsOwn w base rs bs) (g : w.grownBy w' u.ownBlock) (hn : ∀ r ∈ rs, NE u r.has ∧ NE u r.needs) : RowsOwn w' base rs bs :=
 ⟨h.1, fun i r x hr hx => by
  obtain ⟨e1, e2, e3, e4, e5, e6⟩ := h.2 i r x hr hx
  have hm := hn r (List.mem_of_getElem? hr)
  exact ⟨e1, e2, own_ne e3 g hm.1, e4, own_ne e5 g hm.2, e6⟩⟩
theorem RowsOwn.far {w w' : World} {base : Nat} {rs : List Row} {bs : List Batch} (h : RowsOwn w base rs bs) {row : Option Nat} (g : w.grownBy w' row) (hr : ∀ k, row = some k → k < base) : RowsOwn w' base rs bs :=
 ⟨h.1, fun i r x hri hx => by
  obtain ⟨e1, e2, e3, e4, e5, e6⟩ := h.2 i r x hri hx
  exact ⟨e1, e2, e3.far g hr, e4, e5.far g hr, e6⟩⟩
theorem RowsOwn.mem {w : World} {base : Nat} {rs : List Row} {bs : List Batch} (h : RowsOwn w base rs bs) {r : Row} (hr : r ∈ rs) : ∃ x, OwnL w base r.has x ∧ ∃ y, OwnL w base r.needs y := by
 obtain ⟨i, hi, e⟩ := List.getElem_of_mem hr
 have hx : i < bs.length := by rw [← h.1]; exact hi
 obtain ⟨_, _, e3, _, e5, _⟩ := h.2 i r _ (by rw [List.getElem?_eq_getElem hi, e]) (List.getElem?_eq_getElem hx)
 exact ⟨_, e3, _, e5⟩
theorem NE.older {w : World} {u v : Value} {b1 n1 z1 b2 n2 z2 : Nat} {t1 t2 : TypeId} {xs1 xs2 : List Value} {w' : World} (h1 : w.ownsRow b1 t1 z1 u n1 xs1) (h2 : w'.ownsRow b2 t2 z2 v n2 xs2) (hb : w.heap.size ≤ b2) : NE u v := fun g e1 e2 => by
 have := (h1.lt g e1).2
 have := (h2.lt g e2).1
 omega
theorem wpList_row {ops : Array Oper} {rest : List Oper} {o : Oper} {a : Act} {w : World} {Q : Exit → Act → World → Prop} (hgd : o.guard = none) (s x : Operand)
  (ho : o.op = .call { callee := .builtin .append, args := #[s, x], argTypes := #[24, 24] })
  {base : Nat} {v : Value} {rs : List Row} (hs : a.eval s = v) (hown : w.ownsRow base 73 3 v rs.length (cellsOf rs)) {src : Option Addr} {c : Nat} {r : Row} (hx : a.eval x = .slice src 1 c)
  (hrs : ∀ (j : Nat) u, (cellsOf [r])[j]? = some u → ∃ ad, src = some ad ∧ w.cell? (ad.add j) = some u) (h1 : ∀ u ∈ cellsOf [r], u.oneCell' = true) (hlen : rs.length ≤ 1000000) (hbase : base ≤ w.heap.size)
  (h : ∀ v' w', w'.ownsRow base 73 3 v' (rs ++ [r]).length (cellsOf (rs ++ [r])) → w.grownBy w' v.ownBlock → (v'.ownBlock = v.ownBlock ∨ v'.ownBlock = some w.heap.size) → wpList Qry.prog ops Q rest (a.put o.dst v') w') : wpList Qry.prog ops Q (o :: rest) a w := by
 obtain ⟨i0, hi, hz0, hz1, hz2⟩ := info_batch
 refine wpList_plain hgd fun _ hK => wp_app w s x 24 ho base 73 i0 _ 3 64 (uQ Tryz.underlying24) hi hz0 hz1 hz2 rfl (by decide) v _ _ hs hown src 1 c (cellsOf [r]) hx (by rw [cellsOf_length]; rfl) hrs h1 (by unfold maxLen; omega) (by omega) hbase (fun v' w' g2 g3 g4 => hK _ _ (h v' w' ?_ g3 g4))
 rw [cellsOf_append, List.length_append]; exact g2
theorem own_shape3 {w : World} {base : Nat} {t : TypeId} {z : Nat} {v : Value} {n : Nat} {xs : List Value} (h : w.ownsRow base t z v n xs) : ∃ a c, v = .slice a n c := by
 rcases h.2 with ⟨rfl, h0⟩ | ⟨g, cap, cur, rfl, _⟩
 ·exact ⟨none, 0, by rw [h0]⟩
 ·exact ⟨_, cap, rfl⟩
theorem row_one {w : World} {base : Nat} {r : Row} {x : Batch} (h : RowOwn w base r x) : ∀ u ∈ cellsOf [r], u.oneCell' = true := by
 intro u hu
 obtain ⟨_, _, e3, e4, e5, e6⟩ := h
 obtain ⟨a1, c1, f1, _⟩ := e3.at' e4
 obtain ⟨a2, c2, f2, _⟩ := e5.at' e6
 simp only [cellsOf, List.flatMap_cons, List.flatMap_nil, List.append_nil, Row.cells, List.mem_cons, List.not_mem_nil, or_false] at hu
 rcases hu with rfl | rfl | rfl
 ·rfl
 ·rw [f1]; rfl
 ·rw [f2]; rfl
def allV (rs : List Row) : List Value := rs.flatMap fun r => [r.has, r.needs]
theorem allV_snoc (rs : List Row) (r : Row) : allV (rs ++ [r]) = allV rs ++ [r.has, r.needs] := by simp [allV]
theorem mem_allV {rs : List Row} {r : Row} (h : r ∈ rs) : r.has ∈ allV rs ∧ r.needs ∈ allV rs := by
 constructor
 ·exact List.mem_flatMap.2 ⟨r, h, by simp⟩
 ·exact List.mem_flatMap.2 ⟨r, h, by simp⟩
def Dis (v1 : Value) (rs : List Row) : Prop := (allV rs).Pairwise NE ∧ ∀ v ∈ allV rs, NE v1 v
theorem Dis.snoc {v1 : Value} {rs : List Row} {r : Row} (h : Dis v1 rs) (h1 : ∀ v ∈ allV rs, NE v r.has ∧ NE v r.needs) (h2 : NE r.has r.needs) (h3 : NE v1 r.has ∧ NE v1 r.needs) : Dis v1 (rs ++ [r]) := by
 refine ⟨?_, fun v hv => ?_⟩
 ·rw [allV_snoc, List.pairwise_append]
  refine ⟨h.1, by simp [h2], fun a ha b hb => ?_⟩
  simp only [List.mem_cons, List.not_mem_nil, or_false] at hb
  rcases hb with rfl | rfl
  ·exact (h1 a ha).1
  ·exact (h1 a ha).2
 ·rw [allV_snoc, List.mem_append] at hv
  rcases hv with hv | hv
  ·exact h.2 v hv
  ·simp only [List.mem_cons, List.not_mem_nil, or_false] at hv
   rcases hv with rfl | rfl
   ·exact h3.1
   ·exact h3.2
theorem RowsOwn.memV {w : World} {base : Nat} {rs : List Row} {bs : List Batch} (h : RowsOwn w base rs bs) {v : Value} (hv : v ∈ allV rs) : ∃ L, OwnL w base v L := by
 obtain ⟨r, hr, hv⟩ := List.mem_flatMap.1 hv
 obtain ⟨_, k1, _, k2⟩ := h.mem hr
 simp only [List.mem_cons, List.not_mem_nil, or_false] at hv
 rcases hv with rfl | rfl
 ·exact ⟨_, k1⟩
 ·exact ⟨_, k2⟩
theorem wp_row {o : Oper} {a : Act} {w : World} {K : Act → World → Prop} {Q : Exit → Act → World → Prop} (s x : Operand)
  (ho : o.op = .call { callee := .builtin .append, args := #[s, x], argTypes := #[24, 24] })
  {base : Nat} {v : Value} {rs : List Row} (hs : a.eval s = v) (hown : w.ownsRow base 73 3 v rs.length (cellsOf rs)) {src : Option Addr} {c : Nat} {r : Row} (hx : a.eval x = .slice src 1 c)
  (hrs : ∀ (j : Nat) u, (cellsOf [r])[j]? = some u → ∃ ad, src = some ad ∧ w.cell? (ad.add j) = some u) (h1 : ∀ u ∈ cellsOf [r], u.oneCell' = true) (hlen : rs.length + 1 ≤ 2199023255552) (hbase : base ≤ w.heap.size)
  (h : ∀ v' w', w'.ownsRow base 73 3 v' (rs ++ [r]).length (cellsOf (rs ++ [r])) → w.grownBy w' v.ownBlock → (v'.ownBlock = v.ownBlock ∨ v'.ownBlock = some w.heap.size) → K (a.put o.dst v') w') : o.wp Qry.prog a w K Q := by
 obtain ⟨i0, hi, hz0, hz1, hz2⟩ := info_batch
 refine wp_app w s x 24 ho base 73 i0 _ 3 64 (uQ Tryz.underlying24) hi hz0 hz1 hz2 rfl (by decide) v _ _ hs hown src 1 c (cellsOf [r]) hx (by rw [cellsOf_length]; rfl) hrs h1 (by unfold maxLen; omega) (by omega) hbase (fun v' w' g2 g3 g4 => h v' w' ?_ g3 g4)
 rw [cellsOf_append, List.length_append]; exact g2
end
section
open Go.RowKit
attribute [local go_sem] S_toList S_size S_get
set_option maxRecDepth 100000 in
set_option maxHeartbeats 1000000 in
theorem l1Copy_any (b : Book) (a1 a2 : Option Addr) (c1 c2 : Nat) (w : World) (hb : BookAt w a1 a2 b) :
  Calls Qry.prog 45 #[.agg #[.slice a1 b.things.length c1, .slice a2 b.batches.length c2]] w fun e w' =>
   ∃ v1 v2, e = .returned (.agg #[v1, v2]) ∧ Ext w w' ∧ OwnL w' w.heap.size v1 b.things ∧ OwnBs w' w.heap.size v2 b.batches := by
 have hn := hb.2.1
 have e2 : ∀ o1 o2, Ext w ((w.alloc o1).alloc o2) := fun o1 o2 => ((Below.refl _ _).alloc (Nat.le_refl _) _).alloc (by simp) _
 go_enter Qry.func45, Tryz.ntmps45
 go_wp2_with fail
 refine (l1Names_any _ _ _ _ (hb.1.ext (e2 _ _))).mono ?_
 rintro e w1 ⟨v1, rfl, hE1, ho1⟩
 obtain ⟨x1, y1, rfl⟩ := own_sl ho1
 have HE1 := hid (Ext.tr (e2 _ _) hE1)
 have HO1 := hid ho1
 have hx0 : w1.cell? ⟨w.heap.size, 0, none⟩ = some (.slice a1 b.things.length c1) := (hE1.cell (p := ⟨w.heap.size, 0, none⟩) (by simp; omega)).trans (by simp)
 have hx1 : w1.cell? ⟨w.heap.size, 1, none⟩ = some (.slice a2 b.batches.length c2) := (hE1.cell (p := ⟨w.heap.size, 1, none⟩) (by simp; omega)).trans (by simp)
 have HR2 : Hid (Rec w1 (w.heap.size + 1) 26 [.slice none 0 0, .slice none 0 0]) := by
  have h := (Rec.new (w.alloc (.cells #[.slice a1 b.things.length c1, .slice a2 b.batches.length c2] 26)) 26 [.slice none 0 0, .slice none 0 0]).ext hE1
  have h' : Rec w1 (w.heap.size + 1) 26 [.slice none 0 0, .slice none 0 0] := by simpa using h
  exact h'
 have hz1 := hE1.size
 simp at hz1
 clear hE1 ho1
 go_wp2_with fail
 have HR1 : Hid (Rec (w1.alloc (.cells #[.slice x1 b.things.length y1, .slice none 0 0] 26)) w1.heap.size 26 [.slice x1 b.things.length y1, .slice none 0 0]) := Rec.new w1 _ _
 have HB1 : Hid (Below w1.heap.size w1 (w1.alloc (.cells #[.slice x1 b.things.length y1, .slice none 0 0] 26))) := (Below.refl _ _).alloc (Nat.le_refl _) _
 go_loopw [4] (fun i wr => ∃ (k : Nat) (v2 : Value), k ≤ b.batches.length ∧ i = .int .i64 k ∧ Below w1.heap.size w1 wr ∧ Rec wr w1.heap.size 26 [.slice x1 b.things.length y1, v2] ∧ OwnBs wr (w1.heap.size + 1) v2 (b.batches.take k)) (fun i _ => b.batches.length - (intOf i).toNat)
 case atStart => exact ⟨0, _, Nat.zero_le _, rfl, HB1.out, HR1.out, by simpa using OwnBs.nil _ _⟩
 case round =>
  clear HR1 HB1
  obtain ⟨k, v2, hk, rfl, hbel, hrec, hown⟩ := hrel
  have hy0 : wr.cell? ⟨w.heap.size, 0, none⟩ = some (.slice a1 b.things.length c1) := (hbel.cell (p := ⟨w.heap.size, 0, none⟩) (by simp; omega)).trans hx0
  have hy1 : wr.cell? ⟨w.heap.size, 1, none⟩ = some (.slice a2 b.batches.length c2) := (hbel.cell (p := ⟨w.heap.size, 1, none⟩) (by simp; omega)).trans hx1
  have hb' := hb.ext (Ext.tr HE1.out hbel)
  have HB := hid hbel
  have HR := hid hrec
  have HO := hid hown
  clear hbel hown
  by_cases hlt : k < b.batches.length
  ·obtain ⟨ba, oa, rfl, hl, d1, g1, d2, g2, p0, p1, p2, s1, s2⟩ := hb'.2.2 k hlt
   obtain ⟨av, cv, rfl⟩ := HO.out.len
   have hlk : (b.batches.take k).length = k := by simp; omega
   have hlk1 : (b.batches.take k ++ [nthB b.batches k]).length = k + 1 := by rw [List.length_append, hlk]; rfl
   rw [hlk] at HO HR hrec
   have hc1 := hrec.cell (i := 1) rfl
   clear hrec
   go_wp2_with fail
   refine wp_region_T (fun w' => w'.cell? ⟨w1.heap.size, 1, none⟩ = some (.slice av k cv) ∧ w'.cell? ⟨w.heap.size, 1, none⟩ = some (.slice (some ⟨ba, oa, none⟩) b.batches.length c2) ∧ w'.cell? ⟨ba, oa + k * 3, none⟩ = some (.string (S (nthB b.batches k).name)) ∧ w'.cell? ⟨ba, oa + k * 3 + 1, none⟩ = some (.slice d1 (nthB b.batches k).has.length g1) ∧ w'.cell? ⟨ba, oa + k * 3 + 2, none⟩ = some (.slice d2 (nthB b.batches k).needs.length g2)) 26 (by kernel_rfl) ⟨hc1, hy1, p0, p1, p2⟩ (fun hS => ?_)
   refine tk 0 hS ?_
   try simp only [List.set]
   refine tk 1 hS ?_
   try simp only [List.set]
   refine tk 2 hS ?_
   try simp only [List.set]
   refine tk 3 hS ?_
   try simp only [List.set]
   refine tk 4 hS ?_
   try simp only [List.set]
   refine tk 5 hS ?_
   try simp only [List.set]
   refine tk 6 hS ?_
   try simp only [List.set]
   refine tk 7 hS ?_
   try simp only [List.set]
   refine tk 8 hS ?_
   try simp only [List.set]
   refine tk 9 hS ?_
   try simp only [List.set]
   refine tk 10 hS ?_
   try simp only [List.set]
   refine tk 11 hS ?_
   try simp only [List.set]
   refine tk 12 hS ?_
   try simp only [List.set]
   refine tk 13 hS ?_
   try simp only [List.set]
   refine tk 15 hS ?_
   try simp only [List.set]
   refine tk 16 hS ?_
   try simp only [List.set]
   refine tk 17 hS ?_
   try simp only [List.set]
   refine tk 18 hS ?_
   try simp only [List.set]
   refine tk 19 hS ?_
   try simp only [List.set]
   refine tk 20 hS ?_
   try simp only [List.set]
   refine wpT_one 14 rfl (by kernel_rfl) rfl rfl (fun K hK => ?_)
   go_simp
   refine (l1Names_any _ _ _ _ (s1.ext (ext_drewN wr 1))).mono ?_
   rintro e w2 ⟨u1, rfl, hE2, ho2⟩
   obtain ⟨x2, y2, rfl⟩ := own_sl ho2
   go_wp2_with fail
   refine hK.out _ _ ⟨hE2.keep hS.1, hE2.keep hS.2.1, hE2.keep hS.2.2.1, hE2.keep hS.2.2.2.1, hE2.keep hS.2.2.2.2⟩ (fun hS1 => ?_)
   clear hK hS
   have hS := hS1
   clear hS1
   try clear K
   try simp only [put_some, List.set]
   refine wpT_one 21 rfl (by kernel_rfl) rfl rfl (fun K hK => ?_)
   go_simp
   refine (l1Names_any _ _ _ _ ((s2.ext (ext_drewN wr 1)).ext hE2)).mono ?_
   rintro e w3 ⟨u3, rfl, hE3, ho3⟩
   obtain ⟨x3, y3, rfl⟩ := own_sl ho3
   go_wp2_with fail
   refine hK.out _ _ ⟨hE3.keep hS.1, hE3.keep hS.2.1, hE3.keep hS.2.2.1, hE3.keep hS.2.2.2.1, hE3.keep hS.2.2.2.2⟩ (fun hS1 => ?_)
   clear hK hS
   have hS := hS1
   clear hS1
   try clear K
   try simp only [put_some, List.set]
   refine tk 22 hS ?_
   try simp only [List.set]
   refine wpT_one 23 rfl (by kernel_rfl) rfl rfl (fun K hK => ?_)
   go_simp
   refine hK.out _ _ ⟨(ext_alloc _ _).keep hS.1, (ext_alloc _ _).keep hS.2.1, (ext_alloc _ _).keep hS.2.2.1, (ext_alloc _ _).keep hS.2.2.2.1, (ext_alloc _ _).keep hS.2.2.2.2⟩ (fun hS1 => ?_)
   clear hK hS
   have hS := hS1
   clear hS1
   try clear K
   try simp only [put_some, List.set]
   have hE4 : Ext wr w3 := Ext.tr (Ext.tr (ext_drewN wr 1) hE2) hE3
   have hzr := HR.out.lt
   have hz2 : wr.heap.size ≤ w2.heap.size := hE2.size
   have hz3 := hE3.size
   have HRow : Hid (RowOwn (w3.alloc (.cells #[.string (S (nthB b.batches k).name), .slice x2 (nthB b.batches k).has.length y2, .slice x3 (nthB b.batches k).needs.length y3] 73)) (w1.heap.size + 1) ⟨(nthB b.batches k).name, .slice x2 (nthB b.batches k).has.length y2, .slice x3 (nthB b.batches k).needs.length y3⟩ (nthB b.batches k)) :=
    ⟨rfl, hl, ((ho2.low (by show w1.heap.size + 1 ≤ wr.heap.size; omega)).ext hE3).ext (ext_alloc _ _), s1.short, (ho3.low (by omega)).ext (ext_alloc _ _), s2.short⟩
   have hba : ba < w1.heap.size := by
    obtain ⟨_, _, e, _, _, _, _, _, q0, _⟩ := hb.2.2 k hlt
    cases e
    have h : ba < w.heap.size := cell_lt q0
    omega
   refine wpT_one 24 rfl (by kernel_rfl) rfl rfl (fun K hK => ?_)
   refine wp_rows (L := b.batches.take k) (M := [nthB b.batches k]) _ _ rfl rfl (HO.out.ext (Ext.tr hE4 (ext_alloc _ _))) rfl rfl (one_cells w3 73 ⟨(nthB b.batches k).name, .slice x2 (nthB b.batches k).has.length y2, .slice x3 (nthB b.batches k).needs.length y3⟩) (RowsOwn.one HRow.out) (by simp; omega) (by simp; omega) (fun v' w4 h2 h3 h4 => ?_)
   obtain ⟨a4, c4, rfl⟩ := h2.len
   rw [hlk1] at h2
   have hob : ∀ g, (Value.slice av k cv).ownBlock = some g → w1.heap.size + 1 ≤ g := fun g hg => by
    obtain ⟨rs, q1, _⟩ := HO.out
    exact (q1.lt g hg).1
   have HR4 : Hid (Rec w4 w1.heap.size 26 [.slice x1 b.things.length y1, .slice av k cv]) := (HR.out.ext (Ext.tr hE4 (ext_alloc _ _))).kept h3 (fun e => by have := hob _ e.symm; omega)
   have hB4 : Below w1.heap.size wr w4 := (Below.mono (Ext.tr hE4 (ext_alloc _ _)) (by omega)).grown h3 (by simp; omega) (fun g hg => by have := hob g hg; omega)
   refine hK.out _ _ ⟨HR4.out.cell rfl, (hB4.cell (p := ⟨w.heap.size, 1, none⟩) (by simp; omega)).trans hy1, (hB4.cell (p := ⟨ba, oa + k * 3, none⟩) hba).trans p0, (hB4.cell (p := ⟨ba, oa + k * 3 + 1, none⟩) hba).trans p1, (hB4.cell (p := ⟨ba, oa + k * 3 + 2, none⟩) hba).trans p2⟩ (fun hS1 => ?_)
   clear hK hS
   have hS := hS1
   clear hS1
   try clear K
   try simp only [put_some, List.set]
   refine tk 25 hS ?_
   try simp only [List.set]
   have HN : Hid (OwnBs (w4.setCell ⟨w1.heap.size, 1, none⟩ (.slice a4 (k + 1) c4)) (w1.heap.size + 1) (.slice a4 (k + 1) c4) (b.batches.take (k + 1))) := by
    rw [take_bs hlt]; exact h2.stored HR4.out rfl rfl _ _
   have HRN := hid (HR4.out.set 1 (.slice a4 (k + 1) c4))
   have HBN : Hid (Below w1.heap.size w1 (w4.setCell ⟨w1.heap.size, 1, none⟩ (.slice a4 (k + 1) c4))) := (HB.out.trans hB4).setCell (Nat.le_refl _) _
   have hq1 := HR4.out.cell (i := 1) rfl
   have hq2 := HR4.out.frozen 1
   clear hS h2 h3 h4 HR4 hB4 HRow hE2 hE3 hE4 ho2 ho3 s1 s2 p0 p1 p2 hb' hy0 hy1
   refine wpT_last rfl (by kernel_rfl) (by kernel_rfl) rfl (fun K hK => ?_)
   go_simp
   refine hK.out _ _ ?_
   clear hK
   go_wp2
   go_roundw
   case rel => exact ⟨k + 1, _, by omega, by go_num, HBN.out, HRN.out, HN.out⟩
   case measure => simp [intOf]; omega
  ·have e : k = b.batches.length := by omega
   subst e
   obtain ⟨av, cv, rfl⟩ := HO.out.len
   rw [List.take_length] at *
   have hq0 := HR.out.cell (i := 0) rfl
   have hq1 := HR.out.cell (i := 1) rfl
   have HR3 := hid (HR2.out.ext HB.out)
   have t0 := HR3.out.cell (i := 0) rfl
   have t1 := HR3.out.cell (i := 1) rfl
   have f0 := HR3.out.frozen 0
   have f1 := HR3.out.frozen 1
   have HO3 := hid ((HO1.out.low (base' := w.heap.size) (by simp; omega)).ext HB.out)
   have HE3 := hid (Ext.tr HE1.out HB.out)
   clear HB HR hrec HO1 HE1 hy0 hb'
   go_wp2
   refine bodyPost_ret (v := .agg #[.slice x1 b.things.length y1, .slice av b.batches.length cv]) (by simp [results, Tryz.results45, go_sem, t0, t1]) rfl ⟨_, _, rfl, ?_, ?_, ?_⟩
   ·exact (HE3.out.setCell (by simp) _).setCell (by simp) _
   ·exact (HO3.out.stored HR3.out rfl _ _).stored (HR3.out.set _ _) rfl _ _
   ·exact ((HO.out.low (base' := w.heap.size) (by omega)).stored HR3.out rfl rfl _ _).stored (HR3.out.set _ _) rfl rfl _ _
end
section
open Go.RowKit
attribute [local go_sem] S_toList S_size S_get
def ShortBs (bs : List Batch) : Prop := bs.length ≤ 2199023255552
theorem own_book_at {w : World} {base : Nat} {b : Book} {x1 x2 : Option Addr} {y1 y2 : Nat} (h1 : OwnL w base (.slice x1 b.things.length y1) b.things) (hs : ShortS b.things) (h2 : OwnBs w base (.slice x2 b.batches.length y2) b.batches) (hn : b.batches.length ≤ 2199023255552) : BookAt w x1 x2 b := by
 obtain ⟨a1, c1, e1, k1⟩ := h1.at' hs
 obtain ⟨a2, c2, e2, k2⟩ := h2.at hn
 simp only [Value.slice.injEq] at e1 e2
 obtain ⟨rfl, _⟩ := e1
 obtain ⟨rfl, _⟩ := e2
 exact ⟨k1, k2⟩
def BookRes (w : World) (r : Book × Nat) (e : Ending) (w' : World) : Prop :=
 ∃ a1 c1 a2 c2, e = .returned (.tuple #[.agg #[.slice a1 r.1.things.length c1, .slice a2 r.1.batches.length c2], .int .i64 ((r.2 : Nat) : Int)]) ∧ Ext w w' ∧ BookAt w' a1 a2 r.1
def BookOwn (w : World) (r : Book × Nat) (e : Ending) (w' : World) : Prop :=
 ∃ a1 c1 a2 c2, e = .returned (.tuple #[.agg #[.slice a1 r.1.things.length c1, .slice a2 r.1.batches.length c2], .int .i64 ((r.2 : Nat) : Int)]) ∧ Ext w w' ∧ BookAt w' a1 a2 r.1 ∧ OwnL w' w.heap.size (.slice a1 r.1.things.length c1) r.1.things ∧ OwnBs w' w.heap.size (.slice a2 r.1.batches.length c2) r.1.batches
theorem BookOwn.res {w : World} {r : Book × Nat} {e : Ending} {w' : World} (h : BookOwn w r e w') : BookRes w r e w' := by
 obtain ⟨a1, c1, a2, c2, h1, h2, h3, _⟩ := h
 exact ⟨a1, c1, a2, c2, h1, h2, h3⟩
structure EnS (w wc : World) (b : Book) (a1 a2 : Option Addr) (c1 c2 : Nat) (x1 x2 : Option Addr) (y1 y2 X : Nat) : Prop where
 ext : Ext w wc
 rb : Rec wc w.heap.size 26 [.slice a1 b.things.length c1, .slice a2 b.batches.length c2]
 rr : Rec wc (w.heap.size + 1) 26 [.slice none 0 0, .slice none 0 0]
 rx : Rec wc X 26 [.slice x1 b.things.length y1, .slice x2 b.batches.length y2]
 o1 : OwnL wc w.heap.size (.slice x1 b.things.length y1) b.things
 o2 : OwnBs wc w.heap.size (.slice x2 b.batches.length y2) b.batches
 hx : w.heap.size + 2 ≤ X
theorem EnS.next {w wc wd : World} {b : Book} {a1 a2 : Option Addr} {c1 c2 : Nat} {x1 x2 : Option Addr} {y1 y2 X : Nat} (h : EnS w wc b a1 a2 c1 c2 x1 x2 y1 y2 X) (e : Ext wc wd) : EnS w wd b a1 a2 c1 c2 x1 x2 y1 y2 X :=
 ⟨Ext.tr h.ext e, h.rb.ext e, h.rr.ext e, h.rx.ext e, h.o1.ext e, h.o2.ext e, h.hx⟩
theorem stored_book {w wc : World} {RB : Nat} {l : List Value} {b : Book} {x1 x2 : Option Addr} {y1 y2 : Nat} (hE : Ext w wc) (hR : Rec wc RB 26 l) (hRB : w.heap.size ≤ RB)
  (h1 : OwnL wc w.heap.size (.slice x1 b.things.length y1) b.things) (hs : ShortS b.things) (h2 : OwnBs wc w.heap.size (.slice x2 b.batches.length y2) b.batches) (hn : b.batches.length ≤ 2199023255552) (u v : Value) :
  Ext w ((wc.setCell ⟨RB, 0, none⟩ u).setCell ⟨RB, 1, none⟩ v) ∧ BookAt ((wc.setCell ⟨RB, 0, none⟩ u).setCell ⟨RB, 1, none⟩ v) x1 x2 b ∧ OwnL ((wc.setCell ⟨RB, 0, none⟩ u).setCell ⟨RB, 1, none⟩ v) w.heap.size (.slice x1 b.things.length y1) b.things ∧ OwnBs ((wc.setCell ⟨RB, 0, none⟩ u).setCell ⟨RB, 1, none⟩ v) w.heap.size (.slice x2 b.batches.length y2) b.batches :=
 ⟨(hE.setCell hRB _).setCell hRB _, own_book_at ((h1.stored hR rfl _ _).stored (hR.set _ _) rfl _ _) hs ((h2.stored hR rfl rfl _ _).stored (hR.set _ _) rfl rfl _ _) hn, (h1.stored hR rfl _ _).stored (hR.set _ _) rfl _ _, (h2.stored hR rfl rfl _ _).stored (hR.set _ _) rfl rfl _ _⟩
theorem EnS.fin {w wc : World} {b : Book} {a1 a2 : Option Addr} {c1 c2 : Nat} {x1 x2 : Option Addr} {y1 y2 X : Nat} (h : EnS w wc b a1 a2 c1 c2 x1 x2 y1 y2 X) (hb : BookAt w a1 a2 b) (u v : Value) :
  Ext w ((wc.setCell ⟨w.heap.size + 1, 0, none⟩ u).setCell ⟨w.heap.size + 1, 1, none⟩ v) ∧ BookAt ((wc.setCell ⟨w.heap.size + 1, 0, none⟩ u).setCell ⟨w.heap.size + 1, 1, none⟩ v) x1 x2 b ∧ OwnL ((wc.setCell ⟨w.heap.size + 1, 0, none⟩ u).setCell ⟨w.heap.size + 1, 1, none⟩ v) w.heap.size (.slice x1 b.things.length y1) b.things ∧ OwnBs ((wc.setCell ⟨w.heap.size + 1, 0, none⟩ u).setCell ⟨w.heap.size + 1, 1, none⟩ v) w.heap.size (.slice x2 b.batches.length y2) b.batches :=
 stored_book h.ext h.rr (by omega) h.o1 hb.1.short h.o2 hb.2.1 u v
theorem EnS.mk' {w w1 w2 : World} {b : Book} {a1 a2 : Option Addr} {c1 c2 : Nat} {x1 x2 : Option Addr} {y1 y2 : Nat}
  (h1 : Ext ((w.alloc (.cells #[.slice a1 b.things.length c1, .slice a2 b.batches.length c2] 26)).alloc (.cells #[.slice none 0 0, .slice none 0 0] 26)) w1) (h2 : Ext w1 w2)
  (o1 : OwnL w2 w1.heap.size (.slice x1 b.things.length y1) b.things) (o2 : OwnBs w2 w1.heap.size (.slice x2 b.batches.length y2) b.batches) :
  EnS w (w2.alloc (.cells #[.slice x1 b.things.length y1, .slice x2 b.batches.length y2] 26)) b a1 a2 c1 c2 x1 x2 y1 y2 w2.heap.size := by
 have e2 : ∀ o1 o2, Ext w ((w.alloc o1).alloc o2) := fun o1 o2 => ((Below.refl _ _).alloc (Nat.le_refl _) _).alloc (by simp) _
 have r1 : Rec ((w.alloc (.cells #[.slice a1 b.things.length c1, .slice a2 b.batches.length c2] 26)).alloc (.cells #[.slice none 0 0, .slice none 0 0] 26)) (w.heap.size + 1) 26 [.slice none 0 0, .slice none 0 0] := by
  have h := Rec.new (w.alloc (.cells #[.slice a1 b.things.length c1, .slice a2 b.batches.length c2] 26)) 26 [.slice none 0 0, .slice none 0 0]
  simpa using h
 have r0 : Rec ((w.alloc (.cells #[.slice a1 b.things.length c1, .slice a2 b.batches.length c2] 26)).alloc (.cells #[.slice none 0 0, .slice none 0 0] 26)) w.heap.size 26 [.slice a1 b.things.length c1, .slice a2 b.batches.length c2] :=
  (Rec.new w 26 _).ext (ext_alloc _ _)
 have hz := h1.size
 simp at hz
 have hz2 := h2.size
 have ea := ext_alloc w2 (.cells #[.slice x1 b.things.length y1, .slice x2 b.batches.length y2] 26)
 exact ⟨Ext.tr (Ext.tr (e2 _ _) (Ext.tr h1 h2)) ea, (r0.ext (Ext.tr h1 h2)).ext ea, (r1.ext (Ext.tr h1 h2)).ext ea, Rec.new w2 _ _, (o1.low (by omega)).ext ea, (o2.low (by omega)).ext ea, by omega⟩
theorem EnS.facts {w wc : World} {b : Book} {a1 a2 : Option Addr} {c1 c2 : Nat} {x1 x2 : Option Addr} {y1 y2 X : Nat} (h : EnS w wc b a1 a2 c1 c2 x1 x2 y1 y2 X) :
  wc.cell? ⟨w.heap.size, 0, none⟩ = some (.slice a1 b.things.length c1) ∧ wc.cell? ⟨w.heap.size, 1, none⟩ = some (.slice a2 b.batches.length c2) ∧
  wc.cell? ⟨w.heap.size + 1, 0, none⟩ = some (.slice none 0 0) ∧ wc.cell? ⟨w.heap.size + 1, 1, none⟩ = some (.slice none 0 0) ∧ wc.frozen? ⟨w.heap.size + 1, 0, none⟩ = false ∧ wc.frozen? ⟨w.heap.size + 1, 1, none⟩ = false ∧
  wc.cell? ⟨X, 0, none⟩ = some (.slice x1 b.things.length y1) ∧ wc.cell? ⟨X, 1, none⟩ = some (.slice x2 b.batches.length y2) :=
 ⟨h.rb.cell rfl, h.rb.cell rfl, h.rr.cell rfl, h.rr.cell rfl, h.rr.frozen 0, h.rr.frozen 1, h.rx.cell rfl, h.rx.cell rfl⟩
theorem BookRes.mk {w w' : World} {r : Book × Nat} {b : Book} {k : Nat} {x1 x2 : Option Addr} {y1 y2 : Nat} (hr : r = (b, k)) (h : Ext w w' ∧ BookAt w' x1 x2 b ∧ OwnL w' w.heap.size (.slice x1 b.things.length y1) b.things ∧ OwnBs w' w.heap.size (.slice x2 b.batches.length y2) b.batches) : BookOwn w r (.returned (.tuple #[.agg #[.slice x1 b.things.length y1, .slice x2 b.batches.length y2], .int .i64 ((k : Nat) : Int)])) w' := by
 subst hr
 exact ⟨x1, y1, x2, y2, rfl, h.1, h.2⟩
end
section
open Go.RowKit
theorem gb_tr' {a b : World} {row : Option Nat} (h : a.grownBy b row) : a.grownBy b.drew row := ⟨h.os, h.tape, h.output, h.size, h.block⟩
theorem wrapS {z : Int} (h0 : 0 ≤ z) (h1 : z < 9223372036854775808) : IntKind.i64.wrap z = z := by rw [IntKind.wrap_i64]; omega
end
end Go.Proofs.YtdafpnpfcmgfcaaGreatDoor
