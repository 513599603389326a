/- What is done: entering. -/
import Derived.Test.YtdafpnpfcmgfcaaGreatDoorEA
import Derived.Test.YtdafpnpfcmgfcaaGreatDoorE7
namespace Go.Proofs.YtdafpnpfcmgfcaaGreatDoor
open Go.RowKit
attribute [local go_sem] S_toList S_size S_get

set_option maxRecDepth 100000 in
set_option maxHeartbeats 2000000 in
theorem doneE_any (b : Book) (n : Str) (needs : List Str) (a1 a2 a3 : Option Addr) (c1 c2 c3 : Nat) (w : World) (hb : BookAt w a1 a2 b) (hn : StrsAt w a3 needs) (hnl : n.length ≤ 140737488355328) (hok : bookOk b = true) :
    Calls Tryz.prog 80 #[.agg #[.slice a1 b.things.length c1, .slice a2 b.batches.length c2], .iface 68 (.agg #[.string (S n), .slice a3 needs.length c3])] w fun e w' =>
      ∃ v1 v2 rs, e = .returned (.agg #[v1, v2]) ∧ Ext w w' ∧ OB w' w.heap.size v1 v2 rs ⟨b.things, insB b.batches ⟨n, [], needs⟩⟩ := by
  have hk : leadB b.batches n ≤ b.batches.length := lead_le _ _
  have HW : Hid (leadS (namesOf b.batches) n = leadB b.batches n) := lead_names.symm
  have h5 := ok_five hok
  have mW := mWhoE
  have y1' := asYesE
  go_enter Tryz.func80, Tryz.ntmps80
  go_wp2_with fail
  refine (copiedBook_any b _ _ _ _ _ (hb.ext (ext_two _ _ _))).mono ?_
  rintro e w1 ⟨v1, v2, rs, rfl, hE1, hOB1⟩
  obtain ⟨x1, y1, x2, y2, rfl, rfl, hat1⟩ := hOB1.at (ok_short hok)
  have HR2 := hid (rec_second (l := [.slice none 0 0, .slice none 0 0]) hE1)
  have HE1 := hid (Ext.tr (ext_two _ _ _) hE1)
  have HAT1 := hid hat1
  have HOB1 : Hid (OB w1 w.heap.size _ _ rs b) := hOB1.low (by simp; omega)
  have hz1 : w.heap.size + 2 ≤ w1.heap.size := by have := hE1.size; simp at this; omega
  clear hE1 hOB1 hat1
  go_wp2_with fail
  have HEc := hid (ext_alloc w1 (.cells #[.slice x1 b.things.length y1, .slice x2 b.batches.length y2] 26))
  have HRc : Hid (Rec _ w1.heap.size 26 [.slice x1 b.things.length y1, .slice x2 b.batches.length y2]) := Rec.new w1 _ _
  have HO2 := hid (HOB1.out.ext HEc.out)
  have HAT2 := hid (HAT1.out.ext HEc.out)
  have HR3 := hid (HR2.out.ext HEc.out)
  have HE2 := hid (Ext.tr HE1.out HEc.out)
  have hzc : w1.heap.size < (w1.alloc (.cells #[.slice x1 b.things.length y1, .slice x2 b.batches.length y2] 26)).heap.size := by simp
  generalize w1.alloc (.cells #[.slice x1 b.things.length y1, .slice x2 b.batches.length y2] 26) = wc at *
  clear HR2 HEc HOB1 HAT1 HE1
  refine wp_region_T (fun w' => w'.cell? ⟨w1.heap.size, 0, none⟩ = some (.slice x1 b.things.length y1) ∧ w'.cell? ⟨w1.heap.size, 1, none⟩ = some (.slice x2 b.batches.length y2)) 8 (by kernel_rfl) ⟨HRc.out.cell rfl, HRc.out.cell rfl⟩ (fun hS => ?_)
  refine wpT_take 0 (v := ?_) rfl rfl (by kernel_rfl) (by kernel_rfl) (by kernel_rfl) (by kernel_rfl) (fun _ _ _ h => h) hS rfl (by intro w0 hw0; (try dsimp only at hw0); go_simp; try rfl) ?_
  try simp only [List.set]
  refine wpT_take 1 (v := ?_) rfl rfl (by kernel_rfl) (by kernel_rfl) (by kernel_rfl) (by kernel_rfl) (fun _ _ _ h => h) hS rfl (by intro w0 hw0; (try dsimp only at hw0); go_simp; try rfl) ?_
  try simp only [List.set]
  refine wpT_one 2 rfl (by kernel_rfl) rfl rfl (fun K hK => ?_)
  go_simp
  refine (who_any n _).mono ?_
  rintro e w2 ⟨rfl, hE2⟩
  go_wp2_with fail
  refine hK.out _ _ ⟨hE2.keep hS.1, hE2.keep hS.2⟩ (fun hS1 => ?_)
  clear hK hS
  have hS := hS1
  clear hS1
  try clear K
  try simp only [put_some, List.set]
  refine wpT_one 3 rfl (by kernel_rfl) rfl rfl (fun K hK => ?_)
  go_simp
  refine (placeOf_any b n _ _ _ _ _ ((HAT2.out.ext (ext_drewN _ 1)).ext hE2) hok).mono ?_
  rintro e w3 ⟨rfl, hE3⟩
  go_wp2_with fail
  refine hK.out _ _ ⟨hE3.keep hS.1, hE3.keep hS.2⟩ (fun hS1 => ?_)
  clear hK hS
  have hS := hS1
  clear hS1
  try clear K
  try simp only [put_some, List.set]
  refine wpT_take 4 (v := ?_) rfl rfl (by kernel_rfl) (by kernel_rfl) (by kernel_rfl) (by kernel_rfl) (fun _ _ _ h => h) hS rfl (by intro w0 hw0; (try dsimp only at hw0); go_simp; try rfl) ?_
  try simp only [List.set]
  refine wpT_take 5 (v := ?_) rfl rfl (by kernel_rfl) (by kernel_rfl) (by kernel_rfl) (by kernel_rfl) (fun _ _ _ h => h) hS rfl (by intro w0 hw0; (try dsimp only at hw0); go_simp; try rfl) ?_
  try simp only [List.set]
  refine wpT_take 6 (v := ?_) rfl rfl (by kernel_rfl) (by kernel_rfl) (by kernel_rfl) (by kernel_rfl) (fun _ _ _ h => h) hS rfl (by intro w0 hw0; (try dsimp only at hw0); go_simp; try rfl) ?_
  try simp only [List.set]
  refine wpT_take 7 (v := ?_) rfl rfl (by kernel_rfl) (by kernel_rfl) (by kernel_rfl) (by kernel_rfl) (fun _ _ _ h => h) hS rfl (by intro w0 hw0; (try dsimp only at hw0); go_simp; try rfl) ?_
  try simp only [List.set]
  refine wpT_last rfl (by kernel_rfl) (by kernel_rfl) rfl (fun K hK => ?_)
  go_simp
  refine hK.out _ _ ?_
  clear hK hS
  have HE3 : Hid (Ext wc w3) := Ext.tr (ext_drewN _ 1) (Ext.tr hE2 hE3)
  have HO3 := hid (HO2.out.ext HE3.out)
  have HR3' := hid (HR3.out.ext HE3.out)
  have HRc3 := hid (HRc.out.ext HE3.out)
  have HE4 := hid (Ext.tr HE2.out HE3.out)
  have q0 := HRc3.out.cell (i := 0) rfl
  have q1 := HRc3.out.cell (i := 1) rfl
  have hz3 := HE3.out.size
  clear hE2 hE3 HE3 HO2 HR3 HRc HE2 HAT2
  rw [HW.out]
  clear HW
  have HIN : Hid (∀ k, leadB b.batches n = k → insB b.batches ⟨n, [], needs⟩ = b.batches.take k ++ [⟨n, [], needs⟩] ++ b.batches.drop k) := fun k e => by subst e; rfl
  generalize hke : leadB b.batches n = k at *
  replace HIN := hid (HIN.out k rfl)
  clear hke
  have q1b := (ext_alloc w3 (.cells #[.string (S n), .slice a3 needs.length c3] 68)).keep q1
  go_wp2_with fail
  clear q0 q1 q1b
  replace HO3 := hid (HO3.out.ext (ext_alloc w3 (.cells #[.string (S n), .slice a3 needs.length c3] 68)))
  replace HR3' := hid (HR3'.out.ext (ext_alloc w3 (.cells #[.string (S n), .slice a3 needs.length c3] 68)))
  replace HRc3 := hid (HRc3.out.ext (ext_alloc w3 (.cells #[.string (S n), .slice a3 needs.length c3] 68)))
  replace HE4 := hid (Ext.tr HE4.out (ext_alloc w3 (.cells #[.string (S n), .slice a3 needs.length c3] 68)))
  have HRw : Hid (Rec _ w3.heap.size 68 [.string (S n), .slice a3 needs.length c3]) := Rec.new w3 _ _
  have hzb : w3.heap.size < (w3.alloc (.cells #[.string (S n), .slice a3 needs.length c3] 68)).heap.size := by simp
  generalize w3.alloc (.cells #[.string (S n), .slice a3 needs.length c3] 68) = wb at *
  refine wp_region_T (fun w' => w'.cell? ⟨w1.heap.size, 1, none⟩ = some (.slice x2 b.batches.length y2) ∧ w'.cell? ⟨w3.heap.size, 0, none⟩ = some (.string (S n)) ∧ w'.cell? ⟨w3.heap.size, 1, none⟩ = some (.slice a3 needs.length c3)) 13 (by kernel_rfl) ⟨HRc3.out.cell rfl, HRw.out.cell rfl, HRw.out.cell rfl⟩ (fun hS => ?_)
  refine wpT_take 0 (v := ?_) rfl rfl (by kernel_rfl) (by kernel_rfl) (by kernel_rfl) (by kernel_rfl) (fun _ _ _ h => h) hS rfl (by intro w0 hw0; (try dsimp only at hw0); go_simp; try rfl) ?_
  try simp only [List.set]
  refine wpT_take 1 (v := ?_) rfl rfl (by kernel_rfl) (by kernel_rfl) (by kernel_rfl) (by kernel_rfl) (fun _ _ _ h => h) hS rfl (by intro w0 hw0; (try dsimp only at hw0); go_simp; try rfl) ?_
  try simp only [List.set]
  refine wpT_take 2 (v := ?_) rfl rfl (by kernel_rfl) (by kernel_rfl) (by kernel_rfl) (by kernel_rfl) (fun _ _ _ h => h) hS rfl (by intro w0 hw0; (try dsimp only at hw0); go_simp; try rfl) ?_
  try simp only [List.set]
  refine wpT_take 3 (v := ?_) rfl rfl (by kernel_rfl) (by kernel_rfl) (by kernel_rfl) (by kernel_rfl) (fun _ _ _ h => h) hS rfl (by intro w0 hw0; (try dsimp only at hw0); go_simp; try rfl) ?_
  try simp only [List.set]
  refine wpT_take 4 (v := ?_) rfl rfl (by kernel_rfl) (by kernel_rfl) (by kernel_rfl) (by kernel_rfl) (fun _ _ _ h => h) hS rfl (by intro w0 hw0; (try dsimp only at hw0); go_simp; try rfl) ?_
  try simp only [List.set]
  refine wpT_take 5 (v := ?_) rfl rfl (by kernel_rfl) (by kernel_rfl) (by kernel_rfl) (by kernel_rfl) (fun _ _ _ h => h) hS rfl (by intro w0 hw0; (try dsimp only at hw0); go_simp; try rfl) ?_
  try simp only [List.set]
  refine wpT_take 6 (v := ?_) rfl rfl (by kernel_rfl) (by kernel_rfl) (by kernel_rfl) (by kernel_rfl) (fun _ _ _ h => h) hS rfl (by intro w0 hw0; (try dsimp only at hw0); go_simp; try rfl) ?_
  try simp only [List.set]
  refine wpT_take 7 (v := ?_) rfl rfl (by kernel_rfl) (by kernel_rfl) (by kernel_rfl) (by kernel_rfl) (fun _ _ _ h => h) hS rfl (by intro w0 hw0; (try dsimp only at hw0); go_simp; try rfl) ?_
  try simp only [List.set]
  refine wpT_one 8 rfl (by kernel_rfl) rfl rfl (fun K hK => ?_)
  go_simp
  refine (copied_any _ _ _ _ ((hn.ext HE4.out).ext (ext_drewN _ 1))).mono ?_
  rintro e w5 ⟨u, rfl, hE5, ho5⟩
  obtain ⟨x5, y5, rfl⟩ := own_sl ho5
  go_wp2_with fail
  refine hK.out _ _ ⟨hE5.keep hS.1, hE5.keep hS.2.1, hE5.keep hS.2.2⟩ (fun hS1 => ?_)
  clear hK hS
  have hS := hS1
  clear hS1
  try clear K
  try simp only [put_some, List.set]
  refine wpT_take 9 (v := ?_) rfl rfl (by kernel_rfl) (by kernel_rfl) (by kernel_rfl) (by kernel_rfl) (fun _ _ _ h => h) hS rfl (by intro w0 hw0; (try dsimp only at hw0); go_simp; try rfl) ?_
  try simp only [List.set]
  refine wpT_one 10 rfl (by kernel_rfl) rfl rfl (fun K hK => ?_)
  go_simp
  refine hK.out _ _ ⟨(ext_alloc _ _).keep hS.1, (ext_alloc _ _).keep hS.2.1, (ext_alloc _ _).keep hS.2.2⟩ (fun hS1 => ?_)
  clear hK hS
  have hS := hS1
  clear hS1
  try clear K
  try simp only [put_some, List.set]
  refine wpT_one 11 rfl (by kernel_rfl) rfl rfl (fun K hK => ?_)
  go_simp
  have hzb5 : wb.heap.size ≤ w5.heap.size := hE5.size
  have hE6 : Ext wb (w5.alloc (.cells #[.string (S n), .slice none 0 0, .slice x5 needs.length y5] 73)) := Ext.tr (ext_drewN _ 1) (Ext.tr hE5 (ext_alloc _ _))
  have hV : Rec (w5.alloc (.cells #[.string (S n), .slice none 0 0, .slice x5 needs.length y5] 73)) w5.heap.size 73 (cellsOf [⟨n, .slice none 0 0, .slice x5 needs.length y5⟩]) := Rec.new w5 _ _
  have hO6 := HO3.out.ext hE6
  have hrow : RowOwn (w5.alloc (.cells #[.string (S n), .slice none 0 0, .slice x5 needs.length y5] 73)) w.heap.size ⟨n, .slice none 0 0, .slice x5 needs.length y5⟩ ⟨n, [], needs⟩ :=
    ⟨rfl, hnl, World.ownsRow_nil _ _ _ _, ⟨by simp, fun i hi => by simp at hi⟩, (ho5.low (by show w.heap.size ≤ wb.heap.size; omega)).ext (ext_alloc _ _), hn.short⟩
  have hz6 : w5.heap.size < (w5.alloc (.cells #[.string (S n), .slice none 0 0, .slice x5 needs.length y5] 73)).heap.size := by simp
  refine (insert_any w.heap.size rs ⟨n, .slice none 0 0, .slice x5 needs.length y5⟩ k b.batches.length _ w5.heap.size _ _ (by have h := hO6.ob; rw [hO6.ow.1] at h; exact h) hO6.ow.1 (by omega) (rows_one hO6.ow) ⟨rfl, rfl⟩ hV (fun e => by have := (HO3.out.ob.lt _ e).2; omega) hk (by omega)).mono ?_
  rintro e w7 ⟨v', rfl, hg, hown, ho⟩
  have hold : ∀ v, v ∈ allV rs → NE v (.slice x5 needs.length y5) := fun v hv => by
    obtain ⟨L, hL⟩ := HO3.out.ow.memV hv
    exact NE.older hL ho5 (Nat.le_refl _)
  have hob := hO6.ins hg hk ho hrow (fun v hv => ⟨NE.nil v, hold v hv⟩) (NE.nil _).symm ⟨NE.nil _, NE.older HO3.out.ot ho5 (Nat.le_refl _)⟩
  have hn1 : some w1.heap.size ≠ (Value.slice x2 b.batches.length y2).ownBlock := HRc3.out.not_row rfl HO3.out.ob
  have hn2 : some (w.heap.size + 1) ≠ (Value.slice x2 b.batches.length y2).ownBlock := HR3'.out.not_row rfl HO3.out.ob
  have hn3 : some w3.heap.size ≠ (Value.slice x2 b.batches.length y2).ownBlock := HRw.out.not_row rfl HO3.out.ob
  have rc := (HRc3.out.ext hE6).kept hg hn1
  have rr := (HR3'.out.ext hE6).kept hg hn2
  have rw7 := (HRw.out.ext hE6).kept hg hn3
  have HE5 : Hid (Ext w w7) := (Ext.tr HE4.out hE6).grown hg (by omega) (fun g hg' => (HO3.out.ob.lt g hg').1)
  have HO5 := hid hob
  have HRC := hid rc
  have HRR := hid rr
  obtain ⟨av, cv, rfl⟩ := own_shape3 ho
  go_wp2_with fail
  refine hK.out _ _ ⟨rc.cell rfl, rw7.cell rfl, rw7.cell rfl⟩ (fun hS1 => ?_)
  clear hK hS
  have hS := hS1
  clear hS1
  try clear K
  try simp only [put_some, List.set]
  refine wpT_take 12 (v := ?_) rfl rfl (by kernel_rfl) (by kernel_rfl) (by kernel_rfl) (by kernel_rfl) (fun _ _ _ h => h) hS rfl (by intro w0 hw0; (try dsimp only at hw0); go_simp; try rfl) ?_
  try simp only [List.set]
  have q1 := rc.cell (i := 1) rfl
  have f1 := rc.frozen 1
  clear hS hob hg ho rc rr rw7 hn1 hn2 hn3 HO3 HR3' HRc3 HE4 HRw hO6 hV hrow hE6 hold hE5 ho5
  refine wpT_last rfl (by kernel_rfl) (by kernel_rfl) rfl (fun K hK => ?_)
  go_simp
  refine hK.out _ _ ?_
  clear hK
  have q0 := HRC.out.cell (i := 0) rfl
  have t0 := HRR.out.cell (i := 0) rfl
  have t1 := HRR.out.cell (i := 1) rfl
  have g0 := HRR.out.frozen 0
  have g1 := HRR.out.frozen 1
  have hne : w.heap.size + 1 ≠ w1.heap.size := by omega
  go_wp2_with fail
  exact done_end HE5.out HO5.out HRC.out HRR.out (by omega) hne (by simp [results, Tryz.results80, go_sem, t0, t1]) rfl (by rw [HIN.out])
end Go.Proofs.YtdafpnpfcmgfcaaGreatDoor
