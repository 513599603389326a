/- What is done: asking. -/
import Derived.Test.YtdafpnpfcmgfcabGreatDoorE13
import Derived.Test.YtdafpnpfcmgfcabGreatDoorE5
namespace Go.Proofs.YtdafpnpfcmgfcabGreatDoor
open Go.RowKit
attribute [local go_sem] S_toList S_size S_get

set_option maxRecDepth 100000 in
set_option maxHeartbeats 2000000 in
theorem doneA_any (b : Book) (n : Str) (things : List Str) (a1 a2 a3 : Option Addr) (c1 c2 c3 : Nat) (w : World) (hb : BookAt w a1 a2 b) (hn : StrsAt w a3 things) (hok : bookOk b = true) (hh : hereB b n = true) (hth : namesOk things (b.at (whereB b n)).needs = true) :
    Calls Tryz.prog 46 #[.agg #[.slice a1 b.things.length c1, .slice a2 b.batches.length c2], .iface 55 (.agg #[.string (S n), .slice a3 things.length c3])] w fun e w' => OutB w (giveB b (whereB b n) things) e w' := by
  have HKG : Hid (keptL (nthB b.batches (whereB b n)).needs ((nthB b.batches (whereB b n)).has ++ things) = things.foldl insS (nthB b.batches (whereB b n)).has) := by
    have h := each_at (ok_iff.1 hok) (where_lt hh)
    exact kept_give (namesOk_iff.1 h.1).1 h.2 hth
  have h8 := namesOk_len hth
  have h9 := ok_lens hok (where_lt hh)
  have hlA : (nthB b.batches (whereB b n)).has.length + things.length ≤ 16 := by
    have e : b.at (whereB b n) = nthB b.batches (whereB b n) := rfl
    rw [e] at h8 h9
    omega
  clear h8 h9 hth
  have hk := where_lt hh
  have HW := hid (ok_where hok hh)
  have h5 := ok_five hok
  have mW := mWhoA
  have n1 := asNoAE
  have y1' := asYesA
  clear hh
  go_enter Tryz.func46, Tryz.ntmps46
  go_wp2_with fail
  refine (copiedBook_any b _ _ _ _ _ (hb.ext (ext_two _ _ _))).mono ?_
  rintro e w1 ⟨v1, v2, rs, rfl, hE1, hOB1⟩
  obtain ⟨x1, y1, x2, y2, rfl, rfl, hat1⟩ := hOB1.at (ok_short hok)
  have HR2 := hid (rec_second (l := [.slice none 0 0, .slice none 0 0]) hE1)
  have HE1 := hid (Ext.tr (ext_two _ _ _) hE1)
  have HAT1 := hid hat1
  have HOB1 : Hid (OB w1 w.heap.size _ _ rs b) := hOB1.low (by simp; omega)
  have hz1 : w.heap.size + 2 ≤ w1.heap.size := by have := hE1.size; simp at this; omega
  clear hE1 hOB1 hat1
  go_wp2_with fail
  have HEc := hid (ext_alloc w1 (.cells #[.slice x1 b.things.length y1, .slice x2 b.batches.length y2] 30))
  have HRc : Hid (Rec _ w1.heap.size 30 [.slice x1 b.things.length y1, .slice x2 b.batches.length y2]) := Rec.new w1 _ _
  have HO2 := hid (HOB1.out.ext HEc.out)
  have HAT2 := hid (HAT1.out.ext HEc.out)
  have HR3 := hid (HR2.out.ext HEc.out)
  have HE2 := hid (Ext.tr HE1.out HEc.out)
  have hzc : w1.heap.size < (w1.alloc (.cells #[.slice x1 b.things.length y1, .slice x2 b.batches.length y2] 30)).heap.size := by simp
  generalize w1.alloc (.cells #[.slice x1 b.things.length y1, .slice x2 b.batches.length y2] 30) = wc at *
  clear HR2 HEc HOB1 HAT1 HE1
  refine wp_region_T (fun w' => w'.cell? ⟨w1.heap.size, 0, none⟩ = some (.slice x1 b.things.length y1) ∧ w'.cell? ⟨w1.heap.size, 1, none⟩ = some (.slice x2 b.batches.length y2)) 8 (by kernel_rfl) ⟨HRc.out.cell rfl, HRc.out.cell rfl⟩ (fun hS => ?_)
  refine wpT_take 0 (v := ?_) rfl rfl (by kernel_rfl) (by kernel_rfl) (by kernel_rfl) (by kernel_rfl) (fun _ _ _ h => h) hS rfl (by intro w0 hw0; (try dsimp only at hw0); go_simp; try rfl) ?_
  try simp only [List.set]
  refine wpT_take 1 (v := ?_) rfl rfl (by kernel_rfl) (by kernel_rfl) (by kernel_rfl) (by kernel_rfl) (fun _ _ _ h => h) hS rfl (by intro w0 hw0; (try dsimp only at hw0); go_simp; try rfl) ?_
  try simp only [List.set]
  refine wpT_one 2 rfl (by kernel_rfl) rfl rfl (fun K hK => ?_)
  go_simp
  refine (who_any n _).mono ?_
  rintro e w2 ⟨rfl, hE2⟩
  go_wp2_with fail
  refine hK.out _ _ ⟨hE2.keep hS.1, hE2.keep hS.2⟩ (fun hS1 => ?_)
  clear hK hS
  have hS := hS1
  clear hS1
  try clear K
  try simp only [put_some, List.set]
  refine wpT_one 3 rfl (by kernel_rfl) rfl rfl (fun K hK => ?_)
  go_simp
  refine (placeOf_any b n _ _ _ _ _ ((HAT2.out.ext (ext_drewN _ 1)).ext hE2) hok).mono ?_
  rintro e w3 ⟨rfl, hE3⟩
  go_wp2_with fail
  refine hK.out _ _ ⟨hE3.keep hS.1, hE3.keep hS.2⟩ (fun hS1 => ?_)
  clear hK hS
  have hS := hS1
  clear hS1
  try clear K
  try simp only [put_some, List.set]
  refine wpT_take 4 (v := ?_) rfl rfl (by kernel_rfl) (by kernel_rfl) (by kernel_rfl) (by kernel_rfl) (fun _ _ _ h => h) hS rfl (by intro w0 hw0; (try dsimp only at hw0); go_simp; try rfl) ?_
  try simp only [List.set]
  refine wpT_take 5 (v := ?_) rfl rfl (by kernel_rfl) (by kernel_rfl) (by kernel_rfl) (by kernel_rfl) (fun _ _ _ h => h) hS rfl (by intro w0 hw0; (try dsimp only at hw0); go_simp; try rfl) ?_
  try simp only [List.set]
  refine wpT_take 6 (v := ?_) rfl rfl (by kernel_rfl) (by kernel_rfl) (by kernel_rfl) (by kernel_rfl) (fun _ _ _ h => h) hS rfl (by intro w0 hw0; (try dsimp only at hw0); go_simp; try rfl) ?_
  try simp only [List.set]
  refine wpT_take 7 (v := ?_) rfl rfl (by kernel_rfl) (by kernel_rfl) (by kernel_rfl) (by kernel_rfl) (fun _ _ _ h => h) hS rfl (by intro w0 hw0; (try dsimp only at hw0); go_simp; try rfl) ?_
  try simp only [List.set]
  refine wpT_last rfl (by kernel_rfl) (by kernel_rfl) rfl (fun K hK => ?_)
  go_simp
  refine hK.out _ _ ?_
  clear hK hS
  have HE3 : Hid (Ext wc w3) := Ext.tr (ext_drewN _ 1) (Ext.tr hE2 hE3)
  have HO3 := hid (HO2.out.ext HE3.out)
  have HAT3 := hid (HAT2.out.ext HE3.out)
  have HR3' := hid (HR3.out.ext HE3.out)
  have HRc3 := hid (HRc.out.ext HE3.out)
  have HE4 := hid (Ext.tr HE2.out HE3.out)
  have q0 := HRc3.out.cell (i := 0) rfl
  have q1 := HRc3.out.cell (i := 1) rfl
  have hz3 := HE3.out.size
  clear hE2 hE3 HE3 HO2 HR3 HRc HE2 HAT2
  rw [HW.out]
  clear HW
  generalize hke : whereB b n = k at *
  have HKE := hid hke
  clear hke
  obtain ⟨g, gc, cur, he, -⟩ := own_open (by have h := HO3.out.ob; rw [HO3.out.ow.1] at h; exact h) (by omega : 0 < b.batches.length)
  simp only [Value.slice.injEq, true_and] at he
  obtain ⟨rfl, rfl⟩ := he
  have hzw : wc.heap.size ≤ (w3.alloc (.cells #[.string (S n), .slice a3 things.length c3] 55)).heap.size := by simp; omega
  have q1b := (ext_alloc w3 (.cells #[.string (S n), .slice a3 things.length c3] 55)).keep q1
  go_wp2_with fail
  clear q0 q1 q1b
  replace HO3 := hid (HO3.out.ext (ext_alloc w3 (.cells #[.string (S n), .slice a3 things.length c3] 55)))
  replace HAT3 := hid (HAT3.out.ext (ext_alloc w3 (.cells #[.string (S n), .slice a3 things.length c3] 55)))
  replace HR3' := hid (HR3'.out.ext (ext_alloc w3 (.cells #[.string (S n), .slice a3 things.length c3] 55)))
  replace HRc3 := hid (HRc3.out.ext (ext_alloc w3 (.cells #[.string (S n), .slice a3 things.length c3] 55)))
  replace HE4 := hid (Ext.tr HE4.out (ext_alloc w3 (.cells #[.string (S n), .slice a3 things.length c3] 55)))
  have HRw : Hid (Rec _ w3.heap.size 55 [.string (S n), .slice a3 things.length c3]) := Rec.new w3 _ _
  have hzb : w3.heap.size < (w3.alloc (.cells #[.string (S n), .slice a3 things.length c3] 55)).heap.size := by simp
  generalize w3.alloc (.cells #[.string (S n), .slice a3 things.length c3] 55) = wb at *
  obtain ⟨bb, oo, hbo, -, z1, d1, z2, d2, -, p1, p2, s1, s2⟩ := HAT3.out.2.2 k hk
  cases hbo
  rw [Nat.zero_add] at p1 p2
  have hgl : g < wb.heap.size := cell_lt p1
  have hgb : w.heap.size ≤ g := (HO3.out.ob.lt g rfl).1
  have hn1 : w1.heap.size ≠ g := fun e => HRc3.out.not_row rfl HO3.out.ob (by rw [e]; rfl)
  have hn2 : w.heap.size + 1 ≠ g := fun e => HR3'.out.not_row rfl HO3.out.ob (by rw [e]; rfl)
  have hn3 : w3.heap.size ≠ g := fun e => HRw.out.not_row rfl HO3.out.ob (by rw [e]; rfl)
  have p1d := p1
  refine wp_region_T (fun w' => w'.cell? ⟨w3.heap.size, 1, none⟩ = some (.slice a3 things.length c3) ∧ w'.cell? ⟨g, k * 3 + 1, none⟩ = some (.slice z1 (nthB b.batches k).has.length d1) ∧ w'.cell? ⟨g, k * 3 + 2, none⟩ = some (.slice z2 (nthB b.batches k).needs.length d2)) 16 (by kernel_rfl) ⟨HRw.out.cell rfl, p1, p2⟩ (fun hS => ?_)
  refine wpT_take 0 (v := ?_) rfl rfl (by kernel_rfl) (by kernel_rfl) (by kernel_rfl) (by kernel_rfl) (fun _ _ _ h => h) hS rfl (by intro w0 hw0; (try dsimp only at hw0); go_simp; try rfl) ?_
  try simp only [List.set]
  refine wpT_take 1 (v := ?_) rfl rfl (by kernel_rfl) (by kernel_rfl) (by kernel_rfl) (by kernel_rfl) (fun _ _ _ h => h) hS rfl (by intro w0 hw0; (try dsimp only at hw0); go_simp; try rfl) ?_
  try simp only [List.set]
  refine wpT_take 2 (v := ?_) rfl rfl (by kernel_rfl) (by kernel_rfl) (by kernel_rfl) (by kernel_rfl) (fun _ _ _ h => h) hS rfl (by intro w0 hw0; (try dsimp only at hw0); go_simp; try rfl) ?_
  try simp only [List.set]
  refine wpT_take 3 (v := ?_) rfl rfl (by kernel_rfl) (by kernel_rfl) (by kernel_rfl) (by kernel_rfl) (fun _ _ _ h => h) hS rfl (by intro w0 hw0; (try dsimp only at hw0); go_simp; try rfl) ?_
  try simp only [List.set]
  refine wpT_take 4 (v := ?_) rfl rfl (by kernel_rfl) (by kernel_rfl) (by kernel_rfl) (by kernel_rfl) (fun _ _ _ h => h) hS rfl (by intro w0 hw0; (try dsimp only at hw0); go_simp; try rfl) ?_
  try simp only [List.set]
  refine wpT_take 5 (v := ?_) rfl rfl (by kernel_rfl) (by kernel_rfl) (by kernel_rfl) (by kernel_rfl) (fun _ _ _ h => h) hS rfl (by intro w0 hw0; (try dsimp only at hw0); go_simp; try rfl) ?_
  try simp only [List.set]
  refine wpT_take 6 (v := ?_) rfl rfl (by kernel_rfl) (by kernel_rfl) (by kernel_rfl) (by kernel_rfl) (fun _ _ _ h => h) hS rfl (by intro w0 hw0; (try dsimp only at hw0); go_simp; try rfl) ?_
  try simp only [List.set]
  refine wpT_take 7 (v := ?_) rfl rfl (by kernel_rfl) (by kernel_rfl) (by kernel_rfl) (by kernel_rfl) (fun _ _ _ h => h) hS rfl (by intro w0 hw0; (try dsimp only at hw0); go_simp; try rfl) ?_
  try simp only [List.set]
  refine wpT_take 8 (v := ?_) rfl rfl (by kernel_rfl) (by kernel_rfl) (by kernel_rfl) (by kernel_rfl) (fun _ _ _ h => h) hS rfl (by intro w0 hw0; (try dsimp only at hw0); go_simp; try rfl) ?_
  try simp only [List.set]
  refine wpT_take 9 (v := ?_) rfl rfl (by kernel_rfl) (by kernel_rfl) (by kernel_rfl) (by kernel_rfl) (fun _ _ _ h => h) hS rfl (by intro w0 hw0; (try dsimp only at hw0); go_simp; try rfl) ?_
  try simp only [List.set]
  refine wpT_take 10 (v := ?_) rfl rfl (by kernel_rfl) (by kernel_rfl) (by kernel_rfl) (by kernel_rfl) (fun _ _ _ h => h) hS rfl (by intro w0 hw0; (try dsimp only at hw0); go_simp; try rfl) ?_
  try simp only [List.set]
  refine wpT_one 11 rfl (by kernel_rfl) rfl rfl (fun K hK => ?_)
  go_simp
  refine hK.out _ _ ⟨(ext_alloc _ _).keep hS.1, (ext_alloc _ _).keep hS.2.1, (ext_alloc _ _).keep hS.2.2⟩ (fun hS1 => ?_)
  clear hK hS
  have hS := hS1
  clear hS1
  try clear K
  try simp only [put_some, List.set]
  have hE5 : Ext wb ((wb.alloc (.cells #[.slice z1 (nthB b.batches k).has.length d1, .slice a3 things.length c3] 22)).drew) := Ext.tr (ext_alloc _ _) (ext_drewN _ 1)
  have v0 : ((wb.alloc (.cells #[.slice z1 (nthB b.batches k).has.length d1, .slice a3 things.length c3] 22)).drew).cell? ⟨wb.heap.size, 0, none⟩ = some (.slice z1 (nthB b.batches k).has.length d1) := box_cell (w := wb) (ext_drewN _ 1) (i := 0) rfl
  have v1 : ((wb.alloc (.cells #[.slice z1 (nthB b.batches k).has.length d1, .slice a3 things.length c3] 22)).drew).cell? ⟨wb.heap.size, 1, none⟩ = some (.slice a3 things.length c3) := box_cell (w := wb) (ext_drewN _ 1) (i := 1) rfl
  have hz5 : wb.heap.size ≤ ((wb.alloc (.cells #[.slice z1 (nthB b.batches k).has.length d1, .slice a3 things.length c3] 22)).drew).heap.size := hE5.size
  refine wpT_one 12 rfl (by kernel_rfl) rfl rfl (fun K hK => ?_)
  go_simp
  generalize (wb.alloc (.cells #[.slice z1 (nthB b.batches k).has.length d1, .slice a3 things.length c3] 22)).drew = w5 at *
  refine (concat_any _ _ _ _ _ _ _ _ _ v0 v1 (s1.ext hE5) ((hn.ext HE4.out).ext hE5) (by omega)).mono ?_
  rintro e w6 ⟨u6, rfl, hE6, ho6⟩
  have hsab := short_app s1.short hn.short (by omega)
  generalize (nthB b.batches k).has ++ things = ab at *
  obtain ⟨x6, y6, rfl, hs6⟩ := ho6.at' hsab
  clear hsab
  go_wp2_with fail
  refine hK.out _ _ ⟨hE6.keep hS.1, hE6.keep hS.2.1, hE6.keep hS.2.2⟩ (fun hS1 => ?_)
  clear hK hS
  have hS := hS1
  clear hS1
  try clear K
  try simp only [put_some, List.set]
  refine wpT_one 13 rfl (by kernel_rfl) rfl rfl (fun K hK => ?_)
  go_simp
  refine (kept_any _ _ _ _ _ _ _ ((s2.ext hE5).ext hE6) hs6).mono ?_
  rintro e w7 ⟨u, rfl, hE7, ho7⟩
  obtain ⟨x7, y7, rfl⟩ := own_sl ho7
  go_wp2_with fail
  refine hK.out _ _ ⟨hE7.keep hS.1, hE7.keep hS.2.1, hE7.keep hS.2.2⟩ (fun hS1 => ?_)
  clear hK hS
  have hS := hS1
  clear hS1
  try clear K
  try simp only [put_some, List.set]
  have hE17 : Ext wb w7 := Ext.tr hE5 (Ext.tr hE6 hE7)
  have hz6 : w5.heap.size ≤ w6.heap.size := hE6.size
  have hO7 := HO3.out.ext hE17
  have hu7 : ∀ v ∈ (Value.slice x1 b.things.length y1) :: allV rs, NE v (.slice x7 (keptL (nthB b.batches k).needs ab).length y7) := fun v hv => by
    rw [List.mem_cons] at hv
    rcases hv with rfl | hv
    · exact NE.older HO3.out.ot ho7 (by omega)
    · obtain ⟨M, hM⟩ := HO3.out.ow.memV hv
      exact NE.older hM ho7 (by omega)
  obtain ⟨rs1, hO8, -⟩ := hO7.putHas hk ho7 (short_kept s2.short) (by omega) hu7
  have f1 : w7.frozen? ⟨g, k * 3 + 1, none⟩ = false := by
    obtain ⟨-, -, f, -⟩ := hO7.bs.cells hk
    exact f
  have p1' := hE17.keep p1d
  have HO8 := hid hO8
  have gs1 := gb_store w7 g (k * 3 + 1) (.slice x7 (keptL (nthB b.batches k).needs ab).length y7)
  have HRC := hid ((HRc3.out.ext hE17).kept gs1 (fun e => hn1 (Option.some.inj e)))
  have HRR := hid ((HR3'.out.ext hE17).kept gs1 (fun e => hn2 (Option.some.inj e)))
  have HE8 : Hid (Ext w (w7.setCell ⟨g, k * 3 + 1, none⟩ (.slice x7 (keptL (nthB b.batches k).needs ab).length y7))) := (Ext.tr HE4.out hE17).setCell hgb _
  clear hO8 hO7 hu7 gs1 hE17 hE5 hE6 hE7 ho6 ho7 hs6 HO3 HAT3 HR3' HRc3 HE4 s1 s2 p1 p2 p1d v0 v1
  refine wpT_one 14 rfl (by kernel_rfl) rfl rfl (fun K hK => ?_)
  go_simp
  refine hK.out _ _ hS (fun hS1 => ?_)
  clear hK hS
  have hS := hS1
  clear hS1
  try clear K
  try simp only [put_some, List.set]
  refine wpT_take 15 (v := ?_) rfl rfl (by kernel_rfl) (by kernel_rfl) (by kernel_rfl) (by kernel_rfl) (fun _ _ _ h => h) hS rfl (by intro w0 hw0; (try dsimp only at hw0); go_simp; try rfl) ?_
  try simp only [List.set]
  refine wpT_last rfl (by kernel_rfl) (by kernel_rfl) rfl (fun K hK => ?_)
  go_simp
  refine hK.out _ _ ?_
  clear hK hS
  generalize w7.setCell ⟨g, k * 3 + 1, none⟩ (.slice x7 (keptL (nthB b.batches k).needs ab).length y7) = w8 at *
  have q0 := HRC.out.cell (i := 0) rfl
  have q1 := HRC.out.cell (i := 1) rfl
  have t0 := HRR.out.cell (i := 0) rfl
  have t1 := HRR.out.cell (i := 1) rfl
  have g0 := HRR.out.frozen 0
  have g1 := HRR.out.frozen 1
  go_wp2_with fail
  exact done_end2 HE8.out HO8.out HRR.out (by simp [results, Tryz.results46, go_sem, t0, t1]) rfl (by rw [HKE.out, HKG.out]; rfl)
end Go.Proofs.YtdafpnpfcmgfcabGreatDoor
