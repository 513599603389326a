/- What is done: needing less. -/
import Derived.Test.YtdafpnpfcmgfcabGreatDoorE11
namespace Go.Proofs.YtdafpnpfcmgfcabGreatDoor
open Go.RowKit
attribute [local go_sem] S_toList S_size S_get

theorem short_sub {l l' : List Str} (h : ShortS l) (hs : ∀ x ∈ l', x ∈ l) (hl : l'.length ≤ l.length) : ShortS l' := by
  refine ⟨by have := h.1; omega, fun i hi => ?_⟩
  rw [nth_get hi]
  obtain ⟨j, hj, e⟩ := List.getElem_of_mem (hs _ (List.getElem_mem hi))
  have := h.2 j hj
  rw [nth_get hj, e] at this; exact this
theorem short_kept {l o : List Str} (h : ShortS l) : ShortS (keptL l o) := short_sub h (fun _ hx => (List.mem_filter.1 hx).1) (kept_len l o)
theorem short_app {l m : List Str} (h : ShortS l) (k : ShortS m) (hl : l.length + m.length ≤ 8796093022208) : ShortS (l ++ m) := by
  refine ⟨by rw [List.length_append]; exact hl, fun i hi => ?_⟩
  rw [nth_get hi]
  rcases List.mem_append.1 (List.getElem_mem hi) with hm | hm
  · obtain ⟨j, hj, e⟩ := List.getElem_of_mem hm
    have := h.2 j hj
    rw [nth_get hj, e] at this; exact this
  · obtain ⟨j, hj, e⟩ := List.getElem_of_mem hm
    have := k.2 j hj
    rw [nth_get hj, e] at this; exact this
theorem nthB_set {bs : List Batch} {k : Nat} {x : Batch} (h : k < bs.length) : nthB (bs.set k x) k = x := by
  rw [nthB_get (by rw [List.length_set]; exact h)]; simp
/-- The answer is a book of the call's own. -/
def OutB (w : World) (b : Book) (e : Ending) (w' : World) : Prop := ∃ v1 v2 rs, e = .returned (.agg #[v1, v2]) ∧ Ext w w' ∧ OB w' w.heap.size v1 v2 rs b
/-- The answer's box takes the book. -/
theorem done_end2 {w w4 : World} {b b' : Book} {z1 z2 : Value} {rs : List Row} {fn : Func} {a : Act} (hE : Ext w w4) (hO : OB w4 w.heap.size z1 z2 rs b') (hr : Rec w4 (w.heap.size + 1) 30 [.slice none 0 0, .slice none 0 0])
    (hres : (results fn a.tmps).run Tryz.prog ((w4.setCell ⟨w.heap.size + 1, 0, none⟩ z1).setCell ⟨w.heap.size + 1, 1, none⟩ z2) = .ok (.agg #[z1, z2]) ((w4.setCell ⟨w.heap.size + 1, 0, none⟩ z1).setCell ⟨w.heap.size + 1, 1, none⟩ z2)) (hd : a.defers = []) (hb : b' = b) :
    bodyPost Tryz.prog fn (fun e w' => OutB w b e w') Exit.ret a ((w4.setCell ⟨w.heap.size + 1, 0, none⟩ z1).setCell ⟨w.heap.size + 1, 1, none⟩ z2) := by
  subst hb
  exact bodyPost_ret hres hd ⟨z1, z2, rs, rfl, (hE.setCell (by simp) _).setCell (by simp) _, (hO.stored hr rfl rfl _ _).stored (hr.set _ _) rfl rfl _ _⟩

set_option maxRecDepth 100000 in
set_option maxHeartbeats 2000000 in
theorem doneL_any (b : Book) (n : Str) (needs : List Str) (a1 a2 a3 : Option Addr) (c1 c2 c3 : Nat) (w : World) (hb : BookAt w a1 a2 b) (hn : StrsAt w a3 needs) (hok : bookOk b = true) (hh : hereB b n = true) :
    Calls Tryz.prog 46 #[.agg #[.slice a1 b.things.length c1, .slice a2 b.batches.length c2], .iface 61 (.agg #[.string (S n), .slice a3 needs.length c3])] w fun e w' => OutB w (fewerB b (whereB b n) needs) e w' := by
  have hk := where_lt hh
  have HW := hid (ok_where hok hh)
  have h5 := ok_five hok
  have mW := mWhoL
  have n1 := asNoLE
  have n2 := asNoLA
  have y1' := asYesL
  clear hh
  go_enter Tryz.func46, Tryz.ntmps46
  go_wp2_with fail
  refine (copiedBook_any b _ _ _ _ _ (hb.ext (ext_two _ _ _))).mono ?_
  rintro e w1 ⟨v1, v2, rs, rfl, hE1, hOB1⟩
  obtain ⟨x1, y1, x2, y2, rfl, rfl, hat1⟩ := hOB1.at (ok_short hok)
  have HR2 := hid (rec_second (l := [.slice none 0 0, .slice none 0 0]) hE1)
  have HE1 := hid (Ext.tr (ext_two _ _ _) hE1)
  have HAT1 := hid hat1
  have HOB1 : Hid (OB w1 w.heap.size _ _ rs b) := hOB1.low (by simp; omega)
  have hz1 : w.heap.size + 2 ≤ w1.heap.size := by have := hE1.size; simp at this; omega
  clear hE1 hOB1 hat1
  go_wp2_with fail
  have HEc := hid (ext_alloc w1 (.cells #[.slice x1 b.things.length y1, .slice x2 b.batches.length y2] 30))
  have HRc : Hid (Rec _ w1.heap.size 30 [.slice x1 b.things.length y1, .slice x2 b.batches.length y2]) := Rec.new w1 _ _
  have HO2 := hid (HOB1.out.ext HEc.out)
  have HAT2 := hid (HAT1.out.ext HEc.out)
  have HR3 := hid (HR2.out.ext HEc.out)
  have HE2 := hid (Ext.tr HE1.out HEc.out)
  have hzc : w1.heap.size < (w1.alloc (.cells #[.slice x1 b.things.length y1, .slice x2 b.batches.length y2] 30)).heap.size := by simp
  generalize w1.alloc (.cells #[.slice x1 b.things.length y1, .slice x2 b.batches.length y2] 30) = wc at *
  clear HR2 HEc HOB1 HAT1 HE1
  refine wp_region_T (fun w' => w'.cell? ⟨w1.heap.size, 0, none⟩ = some (.slice x1 b.things.length y1) ∧ w'.cell? ⟨w1.heap.size, 1, none⟩ = some (.slice x2 b.batches.length y2)) 8 (by kernel_rfl) ⟨HRc.out.cell rfl, HRc.out.cell rfl⟩ (fun hS => ?_)
  refine wpT_take 0 (v := ?_) rfl rfl (by kernel_rfl) (by kernel_rfl) (by kernel_rfl) (by kernel_rfl) (fun _ _ _ h => h) hS rfl (by intro w0 hw0; (try dsimp only at hw0); go_simp; try rfl) ?_
  try simp only [List.set]
  refine wpT_take 1 (v := ?_) rfl rfl (by kernel_rfl) (by kernel_rfl) (by kernel_rfl) (by kernel_rfl) (fun _ _ _ h => h) hS rfl (by intro w0 hw0; (try dsimp only at hw0); go_simp; try rfl) ?_
  try simp only [List.set]
  refine wpT_one 2 rfl (by kernel_rfl) rfl rfl (fun K hK => ?_)
  go_simp
  refine (who_any n _).mono ?_
  rintro e w2 ⟨rfl, hE2⟩
  go_wp2_with fail
  refine hK.out _ _ ⟨hE2.keep hS.1, hE2.keep hS.2⟩ (fun hS1 => ?_)
  clear hK hS
  have hS := hS1
  clear hS1
  try clear K
  try simp only [put_some, List.set]
  refine wpT_one 3 rfl (by kernel_rfl) rfl rfl (fun K hK => ?_)
  go_simp
  refine (placeOf_any b n _ _ _ _ _ ((HAT2.out.ext (ext_drewN _ 1)).ext hE2) hok).mono ?_
  rintro e w3 ⟨rfl, hE3⟩
  go_wp2_with fail
  refine hK.out _ _ ⟨hE3.keep hS.1, hE3.keep hS.2⟩ (fun hS1 => ?_)
  clear hK hS
  have hS := hS1
  clear hS1
  try clear K
  try simp only [put_some, List.set]
  refine wpT_take 4 (v := ?_) rfl rfl (by kernel_rfl) (by kernel_rfl) (by kernel_rfl) (by kernel_rfl) (fun _ _ _ h => h) hS rfl (by intro w0 hw0; (try dsimp only at hw0); go_simp; try rfl) ?_
  try simp only [List.set]
  refine wpT_take 5 (v := ?_) rfl rfl (by kernel_rfl) (by kernel_rfl) (by kernel_rfl) (by kernel_rfl) (fun _ _ _ h => h) hS rfl (by intro w0 hw0; (try dsimp only at hw0); go_simp; try rfl) ?_
  try simp only [List.set]
  refine wpT_take 6 (v := ?_) rfl rfl (by kernel_rfl) (by kernel_rfl) (by kernel_rfl) (by kernel_rfl) (fun _ _ _ h => h) hS rfl (by intro w0 hw0; (try dsimp only at hw0); go_simp; try rfl) ?_
  try simp only [List.set]
  refine wpT_take 7 (v := ?_) rfl rfl (by kernel_rfl) (by kernel_rfl) (by kernel_rfl) (by kernel_rfl) (fun _ _ _ h => h) hS rfl (by intro w0 hw0; (try dsimp only at hw0); go_simp; try rfl) ?_
  try simp only [List.set]
  refine wpT_last rfl (by kernel_rfl) (by kernel_rfl) rfl (fun K hK => ?_)
  go_simp
  refine hK.out _ _ ?_
  clear hK hS
  have HE3 : Hid (Ext wc w3) := Ext.tr (ext_drewN _ 1) (Ext.tr hE2 hE3)
  have HO3 := hid (HO2.out.ext HE3.out)
  have HAT3 := hid (HAT2.out.ext HE3.out)
  have HR3' := hid (HR3.out.ext HE3.out)
  have HRc3 := hid (HRc.out.ext HE3.out)
  have HE4 := hid (Ext.tr HE2.out HE3.out)
  have q0 := HRc3.out.cell (i := 0) rfl
  have q1 := HRc3.out.cell (i := 1) rfl
  have hz3 := HE3.out.size
  clear hE2 hE3 HE3 HO2 HR3 HRc HE2 HAT2
  rw [HW.out]
  clear HW
  generalize hke : whereB b n = k at *
  have HKE := hid hke
  clear hke
  obtain ⟨g, gc, cur, he, -⟩ := own_open (by have h := HO3.out.ob; rw [HO3.out.ow.1] at h; exact h) (by omega : 0 < b.batches.length)
  simp only [Value.slice.injEq, true_and] at he
  obtain ⟨rfl, rfl⟩ := he
  have hzw : wc.heap.size ≤ (w3.alloc (.cells #[.string (S n), .slice a3 needs.length c3] 61)).heap.size := by simp; omega
  have q1b := (ext_alloc w3 (.cells #[.string (S n), .slice a3 needs.length c3] 61)).keep q1
  go_wp2_with fail
  clear q0 q1 q1b
  replace HO3 := hid (HO3.out.ext (ext_alloc w3 (.cells #[.string (S n), .slice a3 needs.length c3] 61)))
  replace HAT3 := hid (HAT3.out.ext (ext_alloc w3 (.cells #[.string (S n), .slice a3 needs.length c3] 61)))
  replace HR3' := hid (HR3'.out.ext (ext_alloc w3 (.cells #[.string (S n), .slice a3 needs.length c3] 61)))
  replace HRc3 := hid (HRc3.out.ext (ext_alloc w3 (.cells #[.string (S n), .slice a3 needs.length c3] 61)))
  replace HE4 := hid (Ext.tr HE4.out (ext_alloc w3 (.cells #[.string (S n), .slice a3 needs.length c3] 61)))
  have HRw : Hid (Rec _ w3.heap.size 61 [.string (S n), .slice a3 needs.length c3]) := Rec.new w3 _ _
  have hzb : w3.heap.size < (w3.alloc (.cells #[.string (S n), .slice a3 needs.length c3] 61)).heap.size := by simp
  generalize w3.alloc (.cells #[.string (S n), .slice a3 needs.length c3] 61) = wb at *
  obtain ⟨bb, oo, hbo, -, z1, d1, z2, d2, -, p1, p2, s1, s2⟩ := HAT3.out.2.2 k hk
  cases hbo
  rw [Nat.zero_add] at p1 p2
  have hgl : g < wb.heap.size := cell_lt p1
  have hgb : w.heap.size ≤ g := (HO3.out.ob.lt g rfl).1
  have hn1 : w1.heap.size ≠ g := fun e => HRc3.out.not_row rfl HO3.out.ob (by rw [e]; rfl)
  have hn2 : w.heap.size + 1 ≠ g := fun e => HR3'.out.not_row rfl HO3.out.ob (by rw [e]; rfl)
  have hn3 : w3.heap.size ≠ g := fun e => HRw.out.not_row rfl HO3.out.ob (by rw [e]; rfl)
  refine wp_region_T (fun w' => w'.cell? ⟨w3.heap.size, 1, none⟩ = some (.slice a3 needs.length c3)) 17 (by kernel_rfl) (HRw.out.cell rfl) (fun hS => ?_)
  refine wpT_take 0 (v := ?_) rfl rfl (by kernel_rfl) (by kernel_rfl) (by kernel_rfl) (by kernel_rfl) (fun _ _ _ h => h) hS rfl (by intro w0 hw0; (try dsimp only at hw0); go_simp; try rfl) ?_
  try simp only [List.set]
  refine wpT_take 1 (v := ?_) rfl rfl (by kernel_rfl) (by kernel_rfl) (by kernel_rfl) (by kernel_rfl) (fun _ _ _ h => h) hS rfl (by intro w0 hw0; (try dsimp only at hw0); go_simp; try rfl) ?_
  try simp only [List.set]
  refine wpT_take 2 (v := ?_) rfl rfl (by kernel_rfl) (by kernel_rfl) (by kernel_rfl) (by kernel_rfl) (fun _ _ _ h => h) hS rfl (by intro w0 hw0; (try dsimp only at hw0); go_simp; try rfl) ?_
  try simp only [List.set]
  refine wpT_take 3 (v := ?_) rfl rfl (by kernel_rfl) (by kernel_rfl) (by kernel_rfl) (by kernel_rfl) (fun _ _ _ h => h) hS rfl (by intro w0 hw0; (try dsimp only at hw0); go_simp; try rfl) ?_
  try simp only [List.set]
  refine wpT_take 4 (v := ?_) rfl rfl (by kernel_rfl) (by kernel_rfl) (by kernel_rfl) (by kernel_rfl) (fun _ _ _ h => h) hS rfl (by intro w0 hw0; (try dsimp only at hw0); go_simp; try rfl) ?_
  try simp only [List.set]
  refine wpT_take 6 (v := ?_) rfl rfl (by kernel_rfl) (by kernel_rfl) (by kernel_rfl) (by kernel_rfl) (fun _ _ _ h => h) hS rfl (by intro w0 hw0; (try dsimp only at hw0); go_simp; try rfl) ?_
  try simp only [List.set]
  refine wpT_take 7 (v := ?_) rfl rfl (by kernel_rfl) (by kernel_rfl) (by kernel_rfl) (by kernel_rfl) (fun _ _ _ h => h) hS rfl (by intro w0 hw0; (try dsimp only at hw0); go_simp; try rfl) ?_
  try simp only [List.set]
  refine wpT_take 9 (v := ?_) rfl rfl (by kernel_rfl) (by kernel_rfl) (by kernel_rfl) (by kernel_rfl) (fun _ _ _ h => h) hS rfl (by intro w0 hw0; (try dsimp only at hw0); go_simp; try rfl) ?_
  try simp only [List.set]
  refine wpT_take 10 (v := ?_) rfl rfl (by kernel_rfl) (by kernel_rfl) (by kernel_rfl) (by kernel_rfl) (fun _ _ _ h => h) hS rfl (by intro w0 hw0; (try dsimp only at hw0); go_simp; try rfl) ?_
  try simp only [List.set]
  refine wpT_one 5 rfl (by kernel_rfl) rfl rfl (fun K hK => ?_)
  go_simp
  refine hK.out _ _ hS (fun hS1 => ?_)
  clear hK hS
  have hS := hS1
  clear hS1
  try clear K
  try simp only [put_some, List.set]
  refine wpT_one 8 rfl (by kernel_rfl) rfl rfl (fun K hK => ?_)
  go_simp
  refine (kept_any _ _ _ _ _ _ _ (s1.ext (ext_drewN _ 1)) ((hn.ext HE4.out).ext (ext_drewN _ 1))).mono ?_
  rintro e w5 ⟨u, rfl, hE5, ho5⟩
  obtain ⟨x5, y5, rfl⟩ := own_sl ho5
  go_wp2_with fail
  refine hK.out _ _ (hE5.keep hS) (fun hS1 => ?_)
  clear hK hS
  have hS := hS1
  clear hS1
  try clear K
  try simp only [put_some, List.set]
  refine wpT_one 11 rfl (by kernel_rfl) rfl rfl (fun K hK => ?_)
  go_simp
  refine (copied_any _ _ _ _ (((hn.ext HE4.out).ext (ext_drewN _ 1)).ext hE5)).mono ?_
  rintro e w6 ⟨u6, rfl, hE6, ho6⟩
  obtain ⟨x6, y6, rfl⟩ := own_sl ho6
  go_wp2_with fail
  refine hK.out _ _ (hE6.keep hS) (fun hS1 => ?_)
  clear hK hS
  have hS := hS1
  clear hS1
  try clear K
  try simp only [put_some, List.set]
  have hE16 : Ext wb w6 := Ext.tr (ext_drewN _ 1) (Ext.tr hE5 hE6)
  have hzb5 : wb.heap.size ≤ w5.heap.size := hE5.size
  have hzb6 : w5.heap.size ≤ w6.heap.size := hE6.size
  have hO6 := HO3.out.ext hE16
  have hu5 : ∀ v ∈ (Value.slice x1 b.things.length y1) :: allV rs, NE v (.slice x5 (keptL (nthB b.batches k).has needs).length y5) := fun v hv => by
    rw [List.mem_cons] at hv
    rcases hv with rfl | hv
    · exact NE.older HO3.out.ot ho5 (Nat.le_refl _)
    · obtain ⟨M, hM⟩ := HO3.out.ow.memV hv
      exact NE.older hM ho5 (Nat.le_refl _)
  obtain ⟨rs1, hO7, hsub⟩ := hO6.putHas hk (ho5.ext hE6) (short_kept s1.short) (by show w.heap.size ≤ wb.heap.size; omega) hu5
  have hu6 : ∀ v ∈ (Value.slice x1 b.things.length y1) :: allV rs1, NE v (.slice x6 needs.length y6) := fun v hv => by
    rcases hsub v hv with rfl | hv
    · exact NE.older ho5 ho6 (Nat.le_refl _)
    · rw [List.mem_cons] at hv
      rcases hv with rfl | hv
      · exact NE.older HO3.out.ot ho6 (by show wb.heap.size ≤ _; omega)
      · obtain ⟨M, hM⟩ := HO3.out.ow.memV hv
        exact NE.older hM ho6 (by show wb.heap.size ≤ _; omega)
  have h6' : OwnL (w6.setCell ⟨g, k * 3 + 1, none⟩ (.slice x5 (keptL (nthB b.batches k).has needs).length y5)) w5.heap.size (.slice x6 needs.length y6) needs := own_store_keep (by have h := hO6.ob; rw [hO6.ow.1] at h; exact h) ho6 _ _
  have hO7' : OB (w6.setCell ⟨g, k * 3 + 1, none⟩ (.slice x5 (keptL (nthB b.batches k).has needs).length y5)) w.heap.size (.slice x1 b.things.length y1) (.slice (some ⟨g, 0, none⟩) (b.batches.set k ⟨(nthB b.batches k).name, keptL (nthB b.batches k).has needs, (nthB b.batches k).needs⟩).length y2) rs1 ⟨b.things, b.batches.set k ⟨(nthB b.batches k).name, keptL (nthB b.batches k).has needs, (nthB b.batches k).needs⟩⟩ := by rw [List.length_set]; exact hO7
  obtain ⟨rs2, hO8, -⟩ := hO7'.putNeeds (by rw [List.length_set]; exact hk) h6' hn.short (by omega) hu6
  rw [nthB_set hk, List.set_set, List.length_set] at hO8
  have p1' := hE16.keep p1
  have f1 : w6.frozen? ⟨g, k * 3 + 1, none⟩ = false := by
    obtain ⟨-, -, f, -⟩ := hO6.bs.cells hk
    exact f
  have f2 : w6.frozen? ⟨g, k * 3 + 2, none⟩ = false := by
    obtain ⟨-, -, -, f⟩ := hO6.bs.cells hk
    exact f
  have p2' := hE16.keep p2
  have HO8 := hid hO8
  have gs1 := gb_store w6 g (k * 3 + 1) (.slice x5 (keptL (nthB b.batches k).has needs).length y5)
  have gs2 := gb_store (w6.setCell ⟨g, k * 3 + 1, none⟩ (.slice x5 (keptL (nthB b.batches k).has needs).length y5)) g (k * 3 + 2) (.slice x6 needs.length y6)
  have HRC := hid (((HRc3.out.ext hE16).kept gs1 (fun e => hn1 (Option.some.inj e))).kept gs2 (fun e => hn1 (Option.some.inj e)))
  have HRR := hid (((HR3'.out.ext hE16).kept gs1 (fun e => hn2 (Option.some.inj e))).kept gs2 (fun e => hn2 (Option.some.inj e)))
  have hRw1 := (HRw.out.ext hE16).kept gs1 (fun e => hn3 (Option.some.inj e))
  have HE8 : Hid (Ext w ((w6.setCell ⟨g, k * 3 + 1, none⟩ (.slice x5 (keptL (nthB b.batches k).has needs).length y5)).setCell ⟨g, k * 3 + 2, none⟩ (.slice x6 needs.length y6))) := ((Ext.tr HE4.out hE16).setCell hgb _).setCell hgb _
  clear hO8 hO7' h6' hu6 hO7 hu5 hO6 gs1 gs2 hE16 hE5 hE6 ho5 ho6 HO3 HAT3 HR3' HRc3 HE4 s1 s2 p1 p2 hsub
  refine wpT_take 12 (v := ?_) rfl rfl (by kernel_rfl) (by kernel_rfl) (by kernel_rfl) (by kernel_rfl) (fun _ _ _ h => h) hS rfl (by intro w0 hw0; (try dsimp only at hw0); go_simp; try rfl) ?_
  try simp only [List.set]
  refine wpT_take 13 (v := ?_) rfl rfl (by kernel_rfl) (by kernel_rfl) (by kernel_rfl) (by kernel_rfl) (fun _ _ _ h => h) hS rfl (by intro w0 hw0; (try dsimp only at hw0); go_simp; try rfl) ?_
  try simp only [List.set]
  refine wpT_one 14 rfl (by kernel_rfl) rfl rfl (fun K hK => ?_)
  go_simp
  refine hK.out _ _ (hRw1.cell rfl) (fun hS1 => ?_)
  clear hK hS
  have hS := hS1
  clear hS1
  try clear K
  try simp only [put_some, List.set]
  refine wpT_one 15 rfl (by kernel_rfl) rfl rfl (fun K hK => ?_)
  go_simp
  refine hK.out _ _ hS (fun hS1 => ?_)
  clear hK hS
  have hS := hS1
  clear hS1
  try clear K
  try simp only [put_some, List.set]
  refine wpT_one 16 rfl (by kernel_rfl) rfl rfl (fun K hK => ?_)
  go_simp
  refine hK.out _ _ hS (fun hS1 => ?_)
  clear hK hS
  have hS := hS1
  clear hS1
  try clear K
  try simp only [put_some, List.set]
  refine wpT_last rfl (by kernel_rfl) (by kernel_rfl) rfl (fun K hK => ?_)
  go_simp
  refine hK.out _ _ ?_
  clear hK hS hRw1
  generalize (w6.setCell ⟨g, k * 3 + 1, none⟩ (.slice x5 (keptL (nthB b.batches k).has needs).length y5)).setCell ⟨g, k * 3 + 2, none⟩ (.slice x6 needs.length y6) = w8 at *
  have q0 := HRC.out.cell (i := 0) rfl
  have q1 := HRC.out.cell (i := 1) rfl
  have t0 := HRR.out.cell (i := 0) rfl
  have t1 := HRR.out.cell (i := 1) rfl
  have g0 := HRR.out.frozen 0
  have g1 := HRR.out.frozen 1
  go_wp2_with fail
  exact done_end2 HE8.out HO8.out HRR.out (by simp [results, Tryz.results46, go_sem, t0, t1]) rfl (by rw [HKE.out]; rfl)

end Go.Proofs.YtdafpnpfcmgfcabGreatDoor
