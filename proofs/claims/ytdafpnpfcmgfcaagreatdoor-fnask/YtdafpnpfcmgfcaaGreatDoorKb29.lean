/- A book of the call's own: a batch cut out, laid in, a batch's lists exchanged; stores to boxes of books. What is done: leaving. What is done: needing less. What is done: asking. -/
import Derived.Test.YtdafpnpfcmgfcaaGreatDoorKb28
import Derived.Test.YtdafpnpfcmgfcaaGreatDoorKb26
namespace Go.Proofs.YtdafpnpfcmgfcaaGreatDoor
section
open Go.RowKit
attribute [local go_sem] S_toList S_size S_get
theorem rec_no_str {w : World} {X : Nat} {t : TypeId} {l : List Value} (h : Rec w X t l) (ht : (t == 9) = false) (k : Nat) (c : Array Value) (e : some X = some k) (hk : w.heap[k]? = some (.cells c 9 (0, 0))) : False := by
 cases e
 rw [show w.heap[X]? = _ from h] at hk
 simp only [Option.some.injEq, Obj.cells.injEq] at hk
 rw [hk.2.1] at ht
 simp at ht
theorem OB.stored {w : World} {base : Nat} {v1 v2 : Value} {rs : List Row} {b : Book} (h : OB w base v1 v2 rs b) {X : Nat} {t : TypeId} {l : List Value} (hr : Rec w X t l) (h1 : (t == 9) = false) (h2 : (t == 73) = false) (i : Nat) (u : Value) : OB (w.setCell ⟨X, i, none⟩ u) base v1 v2 rs b :=
 ⟨h.ot.stored hr h1 _ _, h.st, World.ownsRow.kept h.ob (gb_store _ _ _ _) (Or.inr (fun e => hr.not_row h2 h.ob e.symm)), h.ow.keep (gb_store _ _ _ _) (rec_no_str hr h1), h.di⟩
theorem Dis.ins {v1 : Value} {rs : List Row} {r : Row} (p : Nat) (h : Dis v1 rs) (h1 : ∀ v ∈ allV rs, NE v r.has ∧ NE v r.needs) (h2 : NE r.has r.needs) (h3 : NE v1 r.has ∧ NE v1 r.needs) : Dis v1 (rs.take p ++ [r] ++ rs.drop p) := by
 have e : allV (rs.take p ++ [r] ++ rs.drop p) = allV (rs.take p) ++ [r.has, r.needs] ++ allV (rs.drop p) := by simp [allV]
 have hs : allV rs = allV (rs.take p) ++ allV (rs.drop p) := by
  unfold allV
  rw [← List.flatMap_append, List.take_append_drop]
 have hd := h.1
 rw [hs, List.pairwise_append] at hd
 refine ⟨?_, fun v hv => ?_⟩
 ·rw [e, List.pairwise_append, List.pairwise_append]
  refine ⟨⟨hd.1, by simp [h2], fun a ha c hc => ?_⟩, hd.2.1, fun a ha c hc => ?_⟩
  ·have := h1 a (by rw [hs]; exact List.mem_append.2 (Or.inl ha))
   simp only [List.mem_cons, List.not_mem_nil, or_false] at hc
   rcases hc with rfl | rfl
   ·exact this.1
   ·exact this.2
  ·have hc' := h1 c (by rw [hs]; exact List.mem_append.2 (Or.inr hc))
   rw [List.mem_append] at ha
   rcases ha with ha | ha
   ·exact hd.2.2 a ha c hc
   ·simp only [List.mem_cons, List.not_mem_nil, or_false] at ha
    rcases ha with rfl | rfl
    ·exact hc'.1.symm
    ·exact hc'.2.symm
 ·rw [e, List.mem_append, List.mem_append] at hv
  rcases hv with (hv | hv) | hv
  ·exact h.2 v (by rw [hs]; exact List.mem_append.2 (Or.inl hv))
  ·simp only [List.mem_cons, List.not_mem_nil, or_false] at hv
   rcases hv with rfl | rfl
   ·exact h3.1
   ·exact h3.2
  ·exact h.2 v (by rw [hs]; exact List.mem_append.2 (Or.inr hv))
theorem allV_setV : ∀ (rs : List Row) (k : Nat) (r r' : Row), rs[k]? = some r → allV (rs.set k r') = (allV rs).take (k * 2) ++ [r'.has, r'.needs] ++ (allV rs).drop (k * 2 + 2)
 | [], k, r, r', h => by simp at h
 | x :: rs, 0, r, r', h => by simp [allV]
 | x :: rs, k + 1, r, r', h => by
  have h' := allV_setV rs k r r' (by simpa using h)
  have e : ∀ (y : Row) l, allV (y :: l) = y.has :: y.needs :: allV l := fun y l => rfl
  rw [List.set_cons_succ, e, e, h']
  have e3 : (k + 1) * 2 = k * 2 + 1 + 1 := by omega
  rw [e3]
  rfl
theorem Dis.put {v1 : Value} {rs : List Row} {k : Nat} {r r' : Row} (h : Dis v1 rs) (hr : rs[k]? = some r)
  (h0 : ∀ (i : Nat) v, (allV rs)[i]? = some v → i ≠ k * 2 → i ≠ k * 2 + 1 → NE v r'.has ∧ NE v r'.needs) (h2 : NE r'.has r'.needs) (h3 : NE v1 r'.has ∧ NE v1 r'.needs) : Dis v1 (rs.set k r') := by
 have e := allV_setV rs k r r' hr
 have hd := h.1
 have hs : (allV rs).take (k * 2) ++ (allV rs).drop (k * 2) = allV rs := List.take_append_drop _ _
 have hlo : ∀ a ∈ (allV rs).take (k * 2), ∃ i, i < k * 2 ∧ (allV rs)[i]? = some a := fun a ha => by
  obtain ⟨i, hi, e⟩ := List.mem_take_iff_getElem.1 ha
  rw [Nat.lt_min] at hi
  exact ⟨i, hi.1, by rw [List.getElem?_eq_getElem hi.2, e]⟩
 have hhi : ∀ a ∈ (allV rs).drop (k * 2 + 2), ∃ i, k * 2 + 2 ≤ i ∧ (allV rs)[i]? = some a := fun a ha => by
  obtain ⟨i, hi, e⟩ := List.getElem_of_mem ha
  rw [List.getElem_drop] at e
  rw [List.length_drop] at hi
  exact ⟨k * 2 + 2 + i, by omega, by rw [List.getElem?_eq_getElem (by omega), e]⟩
 refine ⟨?_, fun v hv => ?_⟩
 ·rw [e, List.pairwise_append, List.pairwise_append]
  refine ⟨⟨hd.sublist (List.take_sublist _ _), by simp [h2], fun a ha c hc => ?_⟩, hd.sublist (List.drop_sublist _ _), fun a ha c hc => ?_⟩
  ·obtain ⟨i, hi, hia⟩ := hlo a ha
   have := h0 i a hia (by omega) (by omega)
   simp only [List.mem_cons, List.not_mem_nil, or_false] at hc
   rcases hc with rfl | rfl
   ·exact this.1
   ·exact this.2
  ·obtain ⟨j, hj, hjc⟩ := hhi c hc
   rw [List.mem_append] at ha
   rcases ha with ha | ha
   ·obtain ⟨i, hi, hia⟩ := hlo a ha
    exact NE.of_pair hd hia hjc (by omega)
   ·have := h0 j c hjc (by omega) (by omega)
    simp only [List.mem_cons, List.not_mem_nil, or_false] at ha
    rcases ha with rfl | rfl
    ·exact this.1.symm
    ·exact this.2.symm
 ·rw [e, List.mem_append, List.mem_append] at hv
  rcases hv with (hv | hv) | hv
  ·exact h.2 v (List.mem_of_mem_take hv)
  ·simp only [List.mem_cons, List.not_mem_nil, or_false] at hv
   rcases hv with rfl | rfl
   ·exact h3.1
   ·exact h3.2
  ·exact h.2 v (List.mem_of_mem_drop hv)
theorem OB.putHas {w : World} {base base' g c k : Nat} {v1 u : Value} {rs : List Row} {T : List Str} {bs : List Batch} {L : List Str} (h : OB w base v1 (.slice (some ⟨g, 0, none⟩) bs.length c) rs ⟨T, bs⟩) (hk : k < bs.length) (hL : OwnL w base' u L) (hs : ShortS L) (hb : base ≤ base')
  (hu : ∀ v ∈ v1 :: allV rs, NE v u) : ∃ rs', OB (w.setCell ⟨g, k * 3 + 1, none⟩ u) base v1 (.slice (some ⟨g, 0, none⟩) bs.length c) rs' ⟨T, bs.set k ⟨(nthB bs k).name, L, (nthB bs k).needs⟩⟩ ∧ (∀ v ∈ v1 :: allV rs', v = u ∨ v ∈ v1 :: allV rs) := by
 have hl : rs.length = bs.length := h.ow.1
 have hkr : k < rs.length := by omega
 have hr := List.getElem?_eq_getElem hkr
 have hx := List.getElem?_eq_getElem hk
 have h1 := h.ob
 rw [← hl] at h1
 have h3 := World.ownsRow.stored h1 (k * 3 + 1) u
 obtain ⟨e1, e2, e3, e4, e5, e6⟩ := h.ow.2 k _ _ hr hx
 have hne := fun k' cc => row_ne h1 k' cc
 obtain ⟨z1, z2⟩ := allV_at rs k _ hr
 refine ⟨rs.set k ⟨rs[k].name, u, rs[k].needs⟩, ⟨h.ot.keep h3.2 (fun k' cc e hk' => hne k' cc (by simpa [Value.ownBlock] using e) hk'), h.st, ?_, ?_, ?_⟩, fun v hv => ?_⟩
 ·rw [← cellsOf_has rs k _ u hr, List.length_set, ← hl]; exact h3.1
 ·refine RowsOwn.set (h.ow.keep h3.2 (fun k' cc e hk' => hne k' cc (by simpa [Value.ownBlock] using e) hk')) k ⟨?_, ?_, own_store_keep h1 (hL.low hb) _ _, hs, ?_, ?_⟩
  ·rw [nthB_get hk]; exact e1
  ·rw [nthB_get hk]; exact e2
  ·rw [nthB_get hk]; exact own_store_keep h1 e5 _ _
  ·rw [nthB_get hk]; exact e6
 ·exact h.di.put hr (fun i v hv hi hj => ⟨hu v (by simp [List.mem_of_getElem? hv]), NE.of_pair h.di.1 hv z2 hj⟩) (hu _ (by simp [(mem_allV (List.mem_of_getElem? hr)).2])).symm ⟨hu v1 (by simp), h.di.2 _ (mem_allV (List.mem_of_getElem? hr)).2⟩
 ·rw [List.mem_cons] at hv
  rcases hv with rfl | hv
  ·exact Or.inr (by simp)
  ·rw [allV_setV rs k _ _ hr, List.mem_append, List.mem_append] at hv
   rcases hv with (hv | hv) | hv
   ·exact Or.inr (by simp [List.mem_of_mem_take hv])
   ·simp only [List.mem_cons, List.not_mem_nil, or_false] at hv
    rcases hv with rfl | rfl
    ·exact Or.inl rfl
    ·exact Or.inr (by simp [(mem_allV (List.mem_of_getElem? hr)).2])
   ·exact Or.inr (by simp [List.mem_of_mem_drop hv])
end
section
open Go.RowKit
attribute [local go_sem] S_toList S_size S_get
theorem ok_short {b : Book} (h : bookOk b = true) : b.batches.length ≤ 2199023255552 := by have := ok_five h; omega
theorem rec_second {w w1 : World} {c1 : Array Value} {t1 t2 : TypeId} {l : List Value} (h : Ext ((w.alloc (.cells c1 t1)).alloc (.cells l.toArray t2)) w1) : Rec w1 (w.heap.size + 1) t2 l := by
 have h' := (Rec.new (w.alloc (.cells c1 t1)) t2 l).ext h
 simpa using h'
theorem asNoAE (v : Value) (w : World) : (Instr.typeAssert (.iface 75 v) 106 68 true).run Qry.prog w = .ok (.tuple #[.agg #[.string (S []), .slice none 0 0], .bool false]) w := by kernel_rfl
theorem asYesA (v : Value) (w : World) : (Instr.typeAssert (.iface 75 v) 106 75 true).run Qry.prog w = .ok (.tuple #[v, .bool true]) w := by kernel_rfl
end
section
open Go.RowKit
attribute [local go_sem] S_toList S_size S_get
theorem short_sub {l l' : List Str} (h : ShortS l) (hs : ∀ x ∈ l', x ∈ l) (hl : l'.length ≤ l.length) : ShortS l' := by
 refine ⟨by have := h.1; omega, fun i hi => ?_⟩
 rw [nth_get hi]
 obtain ⟨j, hj, e⟩ := List.getElem_of_mem (hs _ (List.getElem_mem hi))
 have := h.2 j hj
 rw [nth_get hj, e] at this; exact this
theorem short_kept {l o : List Str} (h : ShortS l) : ShortS (keptL l o) := short_sub h (fun _ hx => (List.mem_filter.1 hx).1) (kept_len l o)
theorem short_app {l m : List Str} (h : ShortS l) (k : ShortS m) (hl : l.length + m.length ≤ 8796093022208) : ShortS (l ++ m) := by
 refine ⟨by rw [List.length_append]; exact hl, fun i hi => ?_⟩
 rw [nth_get hi]
 rcases List.mem_append.1 (List.getElem_mem hi) with hm | hm
 ·obtain ⟨j, hj, e⟩ := List.getElem_of_mem hm
  have := h.2 j hj
  rw [nth_get hj, e] at this; exact this
 ·obtain ⟨j, hj, e⟩ := List.getElem_of_mem hm
  have := k.2 j hj
  rw [nth_get hj, e] at this; exact this
def OutB (w : World) (b : Book) (e : Ending) (w' : World) : Prop := ∃ v1 v2 rs, e = .returned (.agg #[v1, v2]) ∧ Ext w w' ∧ OB w' w.heap.size v1 v2 rs b
theorem done_end2 {w w4 : World} {b b' : Book} {z1 z2 : Value} {rs : List Row} {fn : Func} {a : Act} (hE : Ext w w4) (hO : OB w4 w.heap.size z1 z2 rs b') (hr : Rec w4 (w.heap.size + 1) 26 [.slice none 0 0, .slice none 0 0])
  (hres : (results fn a.tmps).run Qry.prog ((w4.setCell ⟨w.heap.size + 1, 0, none⟩ z1).setCell ⟨w.heap.size + 1, 1, none⟩ z2) = .ok (.agg #[z1, z2]) ((w4.setCell ⟨w.heap.size + 1, 0, none⟩ z1).setCell ⟨w.heap.size + 1, 1, none⟩ z2)) (hd : a.defers = []) (hb : b' = b) :
  bodyPost Qry.prog fn (fun e w' => OutB w b e w') Exit.ret a ((w4.setCell ⟨w.heap.size + 1, 0, none⟩ z1).setCell ⟨w.heap.size + 1, 1, none⟩ z2) := by
 subst hb
 exact bodyPost_ret hres hd ⟨z1, z2, rs, rfl, (hE.setCell (by simp) _).setCell (by simp) _, (hO.stored hr rfl rfl _ _).stored (hr.set _ _) rfl rfl _ _⟩
end
section
open Go.RowKit
attribute [local go_sem] S_toList S_size S_get
set_option maxRecDepth 100000 in
set_option maxHeartbeats 2000000 in
theorem doneA_any (b : Book) (n : Str) (things : List Str) (a1 a2 a3 : Option Addr) (c1 c2 c3 : Nat) (w : World) (hb : BookAt w a1 a2 b) (hn : StrsAt w a3 things) (hok : bookOk b = true) (hh : hereB b n = true) (hth : namesOk things (b.at (whereB b n)).needs = true) :
  Calls Qry.prog 80 #[.agg #[.slice a1 b.things.length c1, .slice a2 b.batches.length c2], .iface 75 (.agg #[.string (S n), .slice a3 things.length c3])] w fun e w' => OutB w (giveB b (whereB b n) things) e w' := by
 have HKG : Hid (keptL (nthB b.batches (whereB b n)).needs ((nthB b.batches (whereB b n)).has ++ things) = things.foldl insS (nthB b.batches (whereB b n)).has) := by
  have h := each_at (ok_iff.1 hok) (where_lt hh)
  exact kept_give (namesOk_iff.1 h.1).1 h.2 hth
 have h8 := namesOk_len hth
 have h9 := ok_lens hok (where_lt hh)
 have hlA : (nthB b.batches (whereB b n)).has.length + things.length ≤ 16 := by
  have e : b.at (whereB b n) = nthB b.batches (whereB b n) := rfl
  rw [e] at h8 h9
  omega
 clear h8 h9 hth
 have hk := where_lt hh
 have HW := hid (ok_where hok hh)
 have h5 := ok_five hok
 have mW := mWhoA
 have n1 := asNoAE
 have y1' := asYesA
 clear hh
 go_enter Qry.func80, Tryz.ntmps80
 go_wp2_with fail
 refine (copiedBook_any b _ _ _ _ _ (hb.ext (ext_two _ _ _))).mono ?_
 rintro e w1 ⟨v1, v2, rs, rfl, hE1, hOB1⟩
 obtain ⟨x1, y1, x2, y2, rfl, rfl, hat1⟩ := hOB1.at (ok_short hok)
 have HR2 := hid (rec_second (l := [.slice none 0 0, .slice none 0 0]) hE1)
 have HE1 := hid (Ext.tr (ext_two _ _ _) hE1)
 have HAT1 := hid hat1
 have HOB1 : Hid (OB w1 w.heap.size _ _ rs b) := hOB1.low (by simp; omega)
 have hz1 : w.heap.size + 2 ≤ w1.heap.size := by have := hE1.size; simp at this; omega
 clear hE1 hOB1 hat1
 go_wp2_with fail
 have HEc := hid (ext_alloc w1 (.cells #[.slice x1 b.things.length y1, .slice x2 b.batches.length y2] 26))
 have HRc : Hid (Rec _ w1.heap.size 26 [.slice x1 b.things.length y1, .slice x2 b.batches.length y2]) := Rec.new w1 _ _
 have HO2 := hid (HOB1.out.ext HEc.out)
 have HAT2 := hid (HAT1.out.ext HEc.out)
 have HR3 := hid (HR2.out.ext HEc.out)
 have HE2 := hid (Ext.tr HE1.out HEc.out)
 have hzc : w1.heap.size < (w1.alloc (.cells #[.slice x1 b.things.length y1, .slice x2 b.batches.length y2] 26)).heap.size := by simp
 generalize w1.alloc (.cells #[.slice x1 b.things.length y1, .slice x2 b.batches.length y2] 26) = wc at *
 clear HR2 HEc HOB1 HAT1 HE1
 refine wp_region_T (fun w' => w'.cell? ⟨w1.heap.size, 0, none⟩ = some (.slice x1 b.things.length y1) ∧ w'.cell? ⟨w1.heap.size, 1, none⟩ = some (.slice x2 b.batches.length y2)) 8 (by kernel_rfl) ⟨HRc.out.cell rfl, HRc.out.cell rfl⟩ (fun hS => ?_)
 refine tk 0 hS ?_
 try simp only [List.set]
 refine tk 1 hS ?_
 try simp only [List.set]
 refine wpT_one 2 rfl (by kernel_rfl) rfl rfl (fun K hK => ?_)
 go_simp
 refine (who_any n _).mono ?_
 rintro e w2 ⟨rfl, hE2⟩
 go_wp2_with fail
 refine hK.out _ _ ⟨hE2.keep hS.1, hE2.keep hS.2⟩ (fun hS1 => ?_)
 clear hK hS
 have hS := hS1
 clear hS1
 try clear K
 try simp only [put_some, List.set]
 refine wpT_one 3 rfl (by kernel_rfl) rfl rfl (fun K hK => ?_)
 go_simp
 refine (placeOf_any b n _ _ _ _ _ ((HAT2.out.ext (ext_drewN _ 1)).ext hE2) hok).mono ?_
 rintro e w3 ⟨rfl, hE3⟩
 go_wp2_with fail
 refine hK.out _ _ ⟨hE3.keep hS.1, hE3.keep hS.2⟩ (fun hS1 => ?_)
 clear hK hS
 have hS := hS1
 clear hS1
 try clear K
 try simp only [put_some, List.set]
 refine tk 4 hS ?_
 try simp only [List.set]
 refine tk 5 hS ?_
 try simp only [List.set]
 refine tk 6 hS ?_
 try simp only [List.set]
 refine tk 7 hS ?_
 try simp only [List.set]
 refine wpT_last rfl (by kernel_rfl) (by kernel_rfl) rfl (fun K hK => ?_)
 go_simp
 refine hK.out _ _ ?_
 clear hK hS
 have HE3 : Hid (Ext wc w3) := Ext.tr (ext_drewN _ 1) (Ext.tr hE2 hE3)
 have HO3 := hid (HO2.out.ext HE3.out)
 have HAT3 := hid (HAT2.out.ext HE3.out)
 have HR3' := hid (HR3.out.ext HE3.out)
 have HRc3 := hid (HRc.out.ext HE3.out)
 have HE4 := hid (Ext.tr HE2.out HE3.out)
 have q0 := HRc3.out.cell (i := 0) rfl
 have q1 := HRc3.out.cell (i := 1) rfl
 have hz3 := HE3.out.size
 clear hE2 hE3 HE3 HO2 HR3 HRc HE2 HAT2
 rw [HW.out]
 clear HW
 generalize hke : whereB b n = k at *
 have HKE := hid hke
 clear hke
 obtain ⟨g, gc, cur, he, -⟩ := own_open (by have h := HO3.out.ob; rw [HO3.out.ow.1] at h; exact h) (by omega : 0 < b.batches.length)
 simp only [Value.slice.injEq, true_and] at he
 obtain ⟨rfl, rfl⟩ := he
 have hzw : wc.heap.size ≤ (w3.alloc (.cells #[.string (S n), .slice a3 things.length c3] 75)).heap.size := by simp; omega
 have q1b := (ext_alloc w3 (.cells #[.string (S n), .slice a3 things.length c3] 75)).keep q1
 go_wp2_with fail
 clear q0 q1 q1b
 replace HO3 := hid (HO3.out.ext (ext_alloc w3 (.cells #[.string (S n), .slice a3 things.length c3] 75)))
 replace HAT3 := hid (HAT3.out.ext (ext_alloc w3 (.cells #[.string (S n), .slice a3 things.length c3] 75)))
 replace HR3' := hid (HR3'.out.ext (ext_alloc w3 (.cells #[.string (S n), .slice a3 things.length c3] 75)))
 replace HRc3 := hid (HRc3.out.ext (ext_alloc w3 (.cells #[.string (S n), .slice a3 things.length c3] 75)))
 replace HE4 := hid (Ext.tr HE4.out (ext_alloc w3 (.cells #[.string (S n), .slice a3 things.length c3] 75)))
 have HRw : Hid (Rec _ w3.heap.size 75 [.string (S n), .slice a3 things.length c3]) := Rec.new w3 _ _
 have hzb : w3.heap.size < (w3.alloc (.cells #[.string (S n), .slice a3 things.length c3] 75)).heap.size := by simp
 generalize w3.alloc (.cells #[.string (S n), .slice a3 things.length c3] 75) = wb at *
 obtain ⟨bb, oo, hbo, -, z1, d1, z2, d2, -, p1, p2, s1, s2⟩ := HAT3.out.2.2 k hk
 cases hbo
 rw [Nat.zero_add] at p1 p2
 have hgl : g < wb.heap.size := cell_lt p1
 have hgb : w.heap.size ≤ g := (HO3.out.ob.lt g rfl).1
 have hn1 : w1.heap.size ≠ g := fun e => HRc3.out.not_row rfl HO3.out.ob (by rw [e]; rfl)
 have hn2 : w.heap.size + 1 ≠ g := fun e => HR3'.out.not_row rfl HO3.out.ob (by rw [e]; rfl)
 have hn3 : w3.heap.size ≠ g := fun e => HRw.out.not_row rfl HO3.out.ob (by rw [e]; rfl)
 have p1d := p1
 refine wp_region_T (fun w' => w'.cell? ⟨w3.heap.size, 1, none⟩ = some (.slice a3 things.length c3) ∧ w'.cell? ⟨g, k * 3 + 1, none⟩ = some (.slice z1 (nthB b.batches k).has.length d1) ∧ w'.cell? ⟨g, k * 3 + 2, none⟩ = some (.slice z2 (nthB b.batches k).needs.length d2)) 16 (by kernel_rfl) ⟨HRw.out.cell rfl, p1, p2⟩ (fun hS => ?_)
 refine tk 0 hS ?_
 try simp only [List.set]
 refine tk 1 hS ?_
 try simp only [List.set]
 refine tk 2 hS ?_
 try simp only [List.set]
 refine tk 3 hS ?_
 try simp only [List.set]
 refine tk 4 hS ?_
 try simp only [List.set]
 refine tk 5 hS ?_
 try simp only [List.set]
 refine tk 6 hS ?_
 try simp only [List.set]
 refine tk 7 hS ?_
 try simp only [List.set]
 refine tk 8 hS ?_
 try simp only [List.set]
 refine tk 9 hS ?_
 try simp only [List.set]
 refine tk 10 hS ?_
 try simp only [List.set]
 refine wpT_one 11 rfl (by kernel_rfl) rfl rfl (fun K hK => ?_)
 go_simp
 refine hK.out _ _ ⟨(ext_alloc _ _).keep hS.1, (ext_alloc _ _).keep hS.2.1, (ext_alloc _ _).keep hS.2.2⟩ (fun hS1 => ?_)
 clear hK hS
 have hS := hS1
 clear hS1
 try clear K
 try simp only [put_some, List.set]
 have hE5 : Ext wb ((wb.alloc (.cells #[.slice z1 (nthB b.batches k).has.length d1, .slice a3 things.length c3] 23)).drew) := Ext.tr (ext_alloc _ _) (ext_drewN _ 1)
 have v0 : ((wb.alloc (.cells #[.slice z1 (nthB b.batches k).has.length d1, .slice a3 things.length c3] 23)).drew).cell? ⟨wb.heap.size, 0, none⟩ = some (.slice z1 (nthB b.batches k).has.length d1) := box_cell (w := wb) (ext_drewN _ 1) (i := 0) rfl
 have v1 : ((wb.alloc (.cells #[.slice z1 (nthB b.batches k).has.length d1, .slice a3 things.length c3] 23)).drew).cell? ⟨wb.heap.size, 1, none⟩ = some (.slice a3 things.length c3) := box_cell (w := wb) (ext_drewN _ 1) (i := 1) rfl
 have hz5 : wb.heap.size ≤ ((wb.alloc (.cells #[.slice z1 (nthB b.batches k).has.length d1, .slice a3 things.length c3] 23)).drew).heap.size := hE5.size
 refine wpT_one 12 rfl (by kernel_rfl) rfl rfl (fun K hK => ?_)
 go_simp
 generalize (wb.alloc (.cells #[.slice z1 (nthB b.batches k).has.length d1, .slice a3 things.length c3] 23)).drew = w5 at *
 refine (concat_any _ _ _ _ _ _ _ _ _ v0 v1 (s1.ext hE5) ((hn.ext HE4.out).ext hE5) (by omega)).mono ?_
 rintro e w6 ⟨u6, rfl, hE6, ho6⟩
 have hsab := short_app s1.short hn.short (by omega)
 generalize (nthB b.batches k).has ++ things = ab at *
 obtain ⟨x6, y6, rfl, hs6⟩ := ho6.at' hsab
 clear hsab
 go_wp2_with fail
 refine hK.out _ _ ⟨hE6.keep hS.1, hE6.keep hS.2.1, hE6.keep hS.2.2⟩ (fun hS1 => ?_)
 clear hK hS
 have hS := hS1
 clear hS1
 try clear K
 try simp only [put_some, List.set]
 refine wpT_one 13 rfl (by kernel_rfl) rfl rfl (fun K hK => ?_)
 go_simp
 refine (kept_any _ _ _ _ _ _ _ ((s2.ext hE5).ext hE6) hs6).mono ?_
 rintro e w7 ⟨u, rfl, hE7, ho7⟩
 obtain ⟨x7, y7, rfl⟩ := own_sl ho7
 go_wp2_with fail
 refine hK.out _ _ ⟨hE7.keep hS.1, hE7.keep hS.2.1, hE7.keep hS.2.2⟩ (fun hS1 => ?_)
 clear hK hS
 have hS := hS1
 clear hS1
 try clear K
 try simp only [put_some, List.set]
 have hE17 : Ext wb w7 := Ext.tr hE5 (Ext.tr hE6 hE7)
 have hz6 : w5.heap.size ≤ w6.heap.size := hE6.size
 have hO7 := HO3.out.ext hE17
 have hu7 : ∀ v ∈ (Value.slice x1 b.things.length y1) :: allV rs, NE v (.slice x7 (keptL (nthB b.batches k).needs ab).length y7) := fun v hv => by
  rw [List.mem_cons] at hv
  rcases hv with rfl | hv
  ·exact NE.older HO3.out.ot ho7 (by omega)
  ·obtain ⟨M, hM⟩ := HO3.out.ow.memV hv
   exact NE.older hM ho7 (by omega)
 obtain ⟨rs1, hO8, -⟩ := hO7.putHas hk ho7 (short_kept s2.short) (by omega) hu7
 have f1 : w7.frozen? ⟨g, k * 3 + 1, none⟩ = false := by
  obtain ⟨-, -, f, -⟩ := hO7.bs.cells hk
  exact f
 have p1' := hE17.keep p1d
 have HO8 := hid hO8
 have gs1 := gb_store w7 g (k * 3 + 1) (.slice x7 (keptL (nthB b.batches k).needs ab).length y7)
 have HRC := hid ((HRc3.out.ext hE17).kept gs1 (fun e => hn1 (Option.some.inj e)))
 have HRR := hid ((HR3'.out.ext hE17).kept gs1 (fun e => hn2 (Option.some.inj e)))
 have HE8 : Hid (Ext w (w7.setCell ⟨g, k * 3 + 1, none⟩ (.slice x7 (keptL (nthB b.batches k).needs ab).length y7))) := (Ext.tr HE4.out hE17).setCell hgb _
 clear hO8 hO7 hu7 gs1 hE17 hE5 hE6 hE7 ho6 ho7 hs6 HO3 HAT3 HR3' HRc3 HE4 s1 s2 p1 p2 p1d v0 v1
 refine wpT_one 14 rfl (by kernel_rfl) rfl rfl (fun K hK => ?_)
 go_simp
 refine hK.out _ _ hS (fun hS1 => ?_)
 clear hK hS
 have hS := hS1
 clear hS1
 try clear K
 try simp only [put_some, List.set]
 refine tk 15 hS ?_
 try simp only [List.set]
 refine wpT_last rfl (by kernel_rfl) (by kernel_rfl) rfl (fun K hK => ?_)
 go_simp
 refine hK.out _ _ ?_
 clear hK hS
 generalize w7.setCell ⟨g, k * 3 + 1, none⟩ (.slice x7 (keptL (nthB b.batches k).needs ab).length y7) = w8 at *
 have q0 := HRC.out.cell (i := 0) rfl
 have q1 := HRC.out.cell (i := 1) rfl
 have t0 := HRR.out.cell (i := 0) rfl
 have t1 := HRR.out.cell (i := 1) rfl
 have g0 := HRR.out.frozen 0
 have g1 := HRR.out.frozen 1
 go_wp2_with fail
 exact done_end2 HE8.out HO8.out HRR.out (by simp [results, Tryz.results80, go_sem, t0, t1]) rfl (by rw [HKE.out, HKG.out]; rfl)
end
end Go.Proofs.YtdafpnpfcmgfcaaGreatDoor
