/- What is done: entering. ShareEnter, whole. The frame of the law FnTop, and what it holds of the world. A book that comes in: from its reading to its cells. From a book as the call meets it to the whole run: what rows of calls that go have in common. -/
import Derived.Test.YtdafpnpfcmgfcaaGreatDoorKe41
import Derived.Test.YtdafpnpfcmgfcaaGreatDoorKe49
import Derived.Test.YtdafpnpfcmgfcaaGreatDoorKe45
import Derived.Test.YtdafpnpfcmgfcaaGreatDoorKe36
import Derived.Test.YtdafpnpfcmgfcaaGreatDoorKe47
import Derived.Test.YtdafpnpfcmgfcaaGreatDoorKe48
import Derived.Test.YtdafpnpfcmgfcaaGreatDoorKe30
import Derived.Test.YtdafpnpfcmgfcaaGreatDoorKe31
import Derived.Test.YtdafpnpfcmgfcaaGreatDoorKe32
import Derived.Test.YtdafpnpfcmgfcaaGreatDoorKe18
import Derived.Test.YtdafpnpfcmgfcaaGreatDoorChecked
import Derived.Deep.Strs
import Derived.Lib.SmallJoins
import Derived.SizedLaws
import Derived.ProofKit
import Derived.Test.YtdafpnpfcmgfcaaGreatDoorKe24
import Derived.Test.YtdafpnpfcmgfcaaGreatDoorKe23
import Derived.Conc.LeavingOf
namespace Go.Proofs.YtdafpnpfcmgfcaaGreatDoor
section
open Go.RowKit
attribute [local go_sem] S_toList S_size S_get
set_option maxRecDepth 100000 in
set_option maxHeartbeats 2000000 in
theorem doneE_any (b : Book) (n : Str) (needs : List Str) (a1 a2 a3 : Option Addr) (c1 c2 c3 : Nat) (w : World) (hb : BookAt w a1 a2 b) (hn : StrsAt w a3 needs) (hnl : n.length ≤ 140737488355328) (hok : bookOk b = true) :
  Calls Qry.prog 80 #[.agg #[.slice a1 b.things.length c1, .slice a2 b.batches.length c2], .iface 68 (.agg #[.string (S n), .slice a3 needs.length c3])] w fun e w' =>
   ∃ v1 v2 rs, e = .returned (.agg #[v1, v2]) ∧ Ext w w' ∧ OB w' w.heap.size v1 v2 rs ⟨b.things, insB b.batches ⟨n, [], needs⟩⟩ := by
 have hk : leadB b.batches n ≤ b.batches.length := lead_le _ _
 have HW : Hid (leadS (namesOf b.batches) n = leadB b.batches n) := lead_names.symm
 have h5 := ok_five hok
 have mW := mWhoE
 have y1' := asYesE
 go_enter Qry.func80, Tryz.ntmps80
 go_wp2_with fail
 refine (copiedBook_any b _ _ _ _ _ (hb.ext (ext_two _ _ _))).mono ?_
 rintro e w1 ⟨v1, v2, rs, rfl, hE1, hOB1⟩
 obtain ⟨x1, y1, x2, y2, rfl, rfl, hat1⟩ := hOB1.at (ok_short hok)
 have HR2 := hid (rec_second (l := [.slice none 0 0, .slice none 0 0]) hE1)
 have HE1 := hid (Ext.tr (ext_two _ _ _) hE1)
 have HAT1 := hid hat1
 have HOB1 : Hid (OB w1 w.heap.size _ _ rs b) := hOB1.low (by simp; omega)
 have hz1 : w.heap.size + 2 ≤ w1.heap.size := by have := hE1.size; simp at this; omega
 clear hE1 hOB1 hat1
 go_wp2_with fail
 have HEc := hid (ext_alloc w1 (.cells #[.slice x1 b.things.length y1, .slice x2 b.batches.length y2] 26))
 have HRc : Hid (Rec _ w1.heap.size 26 [.slice x1 b.things.length y1, .slice x2 b.batches.length y2]) := Rec.new w1 _ _
 have HO2 := hid (HOB1.out.ext HEc.out)
 have HAT2 := hid (HAT1.out.ext HEc.out)
 have HR3 := hid (HR2.out.ext HEc.out)
 have HE2 := hid (Ext.tr HE1.out HEc.out)
 have hzc : w1.heap.size < (w1.alloc (.cells #[.slice x1 b.things.length y1, .slice x2 b.batches.length y2] 26)).heap.size := by simp
 generalize w1.alloc (.cells #[.slice x1 b.things.length y1, .slice x2 b.batches.length y2] 26) = wc at *
 clear HR2 HEc HOB1 HAT1 HE1
 refine wp_region_T (fun w' => w'.cell? ⟨w1.heap.size, 0, none⟩ = some (.slice x1 b.things.length y1) ∧ w'.cell? ⟨w1.heap.size, 1, none⟩ = some (.slice x2 b.batches.length y2)) 8 (by kernel_rfl) ⟨HRc.out.cell rfl, HRc.out.cell rfl⟩ (fun hS => ?_)
 refine tk 0 hS ?_
 try simp only [List.set]
 refine tk 1 hS ?_
 try simp only [List.set]
 refine wpT_one 2 rfl (by kernel_rfl) rfl rfl (fun K hK => ?_)
 go_simp
 refine (who_any n _).mono ?_
 rintro e w2 ⟨rfl, hE2⟩
 go_wp2_with fail
 refine hK.out _ _ ⟨hE2.keep hS.1, hE2.keep hS.2⟩ (fun hS1 => ?_)
 clear hK hS
 have hS := hS1
 clear hS1
 try clear K
 try simp only [put_some, List.set]
 refine wpT_one 3 rfl (by kernel_rfl) rfl rfl (fun K hK => ?_)
 go_simp
 refine (placeOf_any b n _ _ _ _ _ ((HAT2.out.ext (ext_drewN _ 1)).ext hE2) hok).mono ?_
 rintro e w3 ⟨rfl, hE3⟩
 go_wp2_with fail
 refine hK.out _ _ ⟨hE3.keep hS.1, hE3.keep hS.2⟩ (fun hS1 => ?_)
 clear hK hS
 have hS := hS1
 clear hS1
 try clear K
 try simp only [put_some, List.set]
 refine tk 4 hS ?_
 try simp only [List.set]
 refine tk 5 hS ?_
 try simp only [List.set]
 refine tk 6 hS ?_
 try simp only [List.set]
 refine tk 7 hS ?_
 try simp only [List.set]
 refine wpT_last rfl (by kernel_rfl) (by kernel_rfl) rfl (fun K hK => ?_)
 go_simp
 refine hK.out _ _ ?_
 clear hK hS
 have HE3 : Hid (Ext wc w3) := Ext.tr (ext_drewN _ 1) (Ext.tr hE2 hE3)
 have HO3 := hid (HO2.out.ext HE3.out)
 have HR3' := hid (HR3.out.ext HE3.out)
 have HRc3 := hid (HRc.out.ext HE3.out)
 have HE4 := hid (Ext.tr HE2.out HE3.out)
 have q0 := HRc3.out.cell (i := 0) rfl
 have q1 := HRc3.out.cell (i := 1) rfl
 have hz3 := HE3.out.size
 clear hE2 hE3 HE3 HO2 HR3 HRc HE2 HAT2
 rw [HW.out]
 clear HW
 have HIN : Hid (∀ k, leadB b.batches n = k → insB b.batches ⟨n, [], needs⟩ = b.batches.take k ++ [⟨n, [], needs⟩] ++ b.batches.drop k) := fun k e => by subst e; rfl
 generalize hke : leadB b.batches n = k at *
 replace HIN := hid (HIN.out k rfl)
 clear hke
 have q1b := (ext_alloc w3 (.cells #[.string (S n), .slice a3 needs.length c3] 68)).keep q1
 go_wp2_with fail
 clear q0 q1 q1b
 replace HO3 := hid (HO3.out.ext (ext_alloc w3 (.cells #[.string (S n), .slice a3 needs.length c3] 68)))
 replace HR3' := hid (HR3'.out.ext (ext_alloc w3 (.cells #[.string (S n), .slice a3 needs.length c3] 68)))
 replace HRc3 := hid (HRc3.out.ext (ext_alloc w3 (.cells #[.string (S n), .slice a3 needs.length c3] 68)))
 replace HE4 := hid (Ext.tr HE4.out (ext_alloc w3 (.cells #[.string (S n), .slice a3 needs.length c3] 68)))
 have HRw : Hid (Rec _ w3.heap.size 68 [.string (S n), .slice a3 needs.length c3]) := Rec.new w3 _ _
 have hzb : w3.heap.size < (w3.alloc (.cells #[.string (S n), .slice a3 needs.length c3] 68)).heap.size := by simp
 generalize w3.alloc (.cells #[.string (S n), .slice a3 needs.length c3] 68) = wb at *
 refine wp_region_T (fun w' => w'.cell? ⟨w1.heap.size, 1, none⟩ = some (.slice x2 b.batches.length y2) ∧ w'.cell? ⟨w3.heap.size, 0, none⟩ = some (.string (S n)) ∧ w'.cell? ⟨w3.heap.size, 1, none⟩ = some (.slice a3 needs.length c3)) 13 (by kernel_rfl) ⟨HRc3.out.cell rfl, HRw.out.cell rfl, HRw.out.cell rfl⟩ (fun hS => ?_)
 refine tk 0 hS ?_
 try simp only [List.set]
 refine tk 1 hS ?_
 try simp only [List.set]
 refine tk 2 hS ?_
 try simp only [List.set]
 refine tk 3 hS ?_
 try simp only [List.set]
 refine tk 4 hS ?_
 try simp only [List.set]
 refine tk 5 hS ?_
 try simp only [List.set]
 refine tk 6 hS ?_
 try simp only [List.set]
 refine tk 7 hS ?_
 try simp only [List.set]
 refine wpT_one 8 rfl (by kernel_rfl) rfl rfl (fun K hK => ?_)
 go_simp
 refine (copied_any _ _ _ _ ((hn.ext HE4.out).ext (ext_drewN _ 1))).mono ?_
 rintro e w5 ⟨u, rfl, hE5, ho5⟩
 obtain ⟨x5, y5, rfl⟩ := own_sl ho5
 go_wp2_with fail
 refine hK.out _ _ ⟨hE5.keep hS.1, hE5.keep hS.2.1, hE5.keep hS.2.2⟩ (fun hS1 => ?_)
 clear hK hS
 have hS := hS1
 clear hS1
 try clear K
 try simp only [put_some, List.set]
 refine tk 9 hS ?_
 try simp only [List.set]
 refine wpT_one 10 rfl (by kernel_rfl) rfl rfl (fun K hK => ?_)
 go_simp
 refine hK.out _ _ ⟨(ext_alloc _ _).keep hS.1, (ext_alloc _ _).keep hS.2.1, (ext_alloc _ _).keep hS.2.2⟩ (fun hS1 => ?_)
 clear hK hS
 have hS := hS1
 clear hS1
 try clear K
 try simp only [put_some, List.set]
 refine wpT_one 11 rfl (by kernel_rfl) rfl rfl (fun K hK => ?_)
 go_simp
 have hzb5 : wb.heap.size ≤ w5.heap.size := hE5.size
 have hE6 : Ext wb (w5.alloc (.cells #[.string (S n), .slice none 0 0, .slice x5 needs.length y5] 73)) := Ext.tr (ext_drewN _ 1) (Ext.tr hE5 (ext_alloc _ _))
 have hV : Rec (w5.alloc (.cells #[.string (S n), .slice none 0 0, .slice x5 needs.length y5] 73)) w5.heap.size 73 (cellsOf [⟨n, .slice none 0 0, .slice x5 needs.length y5⟩]) := Rec.new w5 _ _
 have hO6 := HO3.out.ext hE6
 have hrow : RowOwn (w5.alloc (.cells #[.string (S n), .slice none 0 0, .slice x5 needs.length y5] 73)) w.heap.size ⟨n, .slice none 0 0, .slice x5 needs.length y5⟩ ⟨n, [], needs⟩ :=
  ⟨rfl, hnl, World.ownsRow_nil _ _ _ _, ⟨by simp, fun i hi => by simp at hi⟩, (ho5.low (by show w.heap.size ≤ wb.heap.size; omega)).ext (ext_alloc _ _), hn.short⟩
 have hz6 : w5.heap.size < (w5.alloc (.cells #[.string (S n), .slice none 0 0, .slice x5 needs.length y5] 73)).heap.size := by simp
 refine (insert_any w.heap.size rs ⟨n, .slice none 0 0, .slice x5 needs.length y5⟩ k b.batches.length _ w5.heap.size _ _ (by have h := hO6.ob; rw [hO6.ow.1] at h; exact h) hO6.ow.1 (by omega) (rows_one hO6.ow) ⟨rfl, rfl⟩ hV (fun e => by have := (HO3.out.ob.lt _ e).2; omega) hk (by omega)).mono ?_
 rintro e w7 ⟨v', rfl, hg, hown, ho⟩
 have hold : ∀ v, v ∈ allV rs → NE v (.slice x5 needs.length y5) := fun v hv => by
  obtain ⟨L, hL⟩ := HO3.out.ow.memV hv
  exact NE.older hL ho5 (Nat.le_refl _)
 have hob := hO6.ins hg hk ho hrow (fun v hv => ⟨NE.nil v, hold v hv⟩) (NE.nil _).symm ⟨NE.nil _, NE.older HO3.out.ot ho5 (Nat.le_refl _)⟩
 have hn1 : some w1.heap.size ≠ (Value.slice x2 b.batches.length y2).ownBlock := HRc3.out.not_row rfl HO3.out.ob
 have hn2 : some (w.heap.size + 1) ≠ (Value.slice x2 b.batches.length y2).ownBlock := HR3'.out.not_row rfl HO3.out.ob
 have hn3 : some w3.heap.size ≠ (Value.slice x2 b.batches.length y2).ownBlock := HRw.out.not_row rfl HO3.out.ob
 have rc := (HRc3.out.ext hE6).kept hg hn1
 have rr := (HR3'.out.ext hE6).kept hg hn2
 have rw7 := (HRw.out.ext hE6).kept hg hn3
 have HE5 : Hid (Ext w w7) := (Ext.tr HE4.out hE6).grown hg (by omega) (fun g hg' => (HO3.out.ob.lt g hg').1)
 have HO5 := hid hob
 have HRC := hid rc
 have HRR := hid rr
 obtain ⟨av, cv, rfl⟩ := own_shape3 ho
 go_wp2_with fail
 refine hK.out _ _ ⟨rc.cell rfl, rw7.cell rfl, rw7.cell rfl⟩ (fun hS1 => ?_)
 clear hK hS
 have hS := hS1
 clear hS1
 try clear K
 try simp only [put_some, List.set]
 refine tk 12 hS ?_
 try simp only [List.set]
 have q1 := rc.cell (i := 1) rfl
 have f1 := rc.frozen 1
 clear hS hob hg ho rc rr rw7 hn1 hn2 hn3 HO3 HR3' HRc3 HE4 HRw hO6 hV hrow hE6 hold hE5 ho5
 refine wpT_last rfl (by kernel_rfl) (by kernel_rfl) rfl (fun K hK => ?_)
 go_simp
 refine hK.out _ _ ?_
 clear hK
 have q0 := HRC.out.cell (i := 0) rfl
 have t0 := HRR.out.cell (i := 0) rfl
 have t1 := HRR.out.cell (i := 1) rfl
 have g0 := HRR.out.frozen 0
 have g1 := HRR.out.frozen 1
 have hne : w.heap.size + 1 ≠ w1.heap.size := by omega
 go_wp2_with fail
 exact done_end HE5.out HO5.out HRC.out HRR.out (by omega) hne (by simp [results, Tryz.results80, go_sem, t0, t1]) rfl (by rw [HIN.out])
end
section
open Go.RowKit
attribute [local go_sem] S_toList S_size S_get
set_option maxRecDepth 100000 in
set_option maxHeartbeats 1000000 in
theorem implEnter_any (b : Book) (n : Str) (needs : List Str) (a1 a2 a3 : Option Addr) (c1 c2 c3 : Nat) (w : World) (hb : BookAt w a1 a2 b) (hn : StrsAt w a3 needs) (hnl : n.length ≤ 140737488355328)
  (hg : w.cell? ⟨0, 0, none⟩ = some (.iface 176 (.agg #[.pointer (some ⟨1, 110, none⟩)]))) :
  Calls Qry.prog 8 #[.agg #[.slice a1 b.things.length c1, .slice a2 b.batches.length c2], .string (S n), .slice a3 needs.length c3] w fun e w' => OutA w (enterB b n needs).1 (enterB b n needs).2 e w' := by
 have hA : ∀ w', Ext w w' → Calls Qry.prog 43 #[.agg #[.slice a1 b.things.length c1, .slice a2 b.batches.length c2], .iface 68 (.agg #[.string (S n), .slice a3 needs.length c3])] w' fun e w2 => OutA w' (enterB b n needs).1 (enterB b n needs).2 e w2 := fun w' hE =>
  answered_any _ b _ _ n _ a1 a2 c1 c2 w' (hb.ext hE) (enter_book b n needs) (hE.keep hg)
   (fun w2 hE2 => refusalOfE _ b n _ _ a1 a2 c1 c2 w2 (hb.ext (Ext.tr hE hE2)) (enter_code b n needs) (fun w => mWhoE _ _ w) (fun w => mRefE _ w) (fun hok w3 hE3 => enterRef_any b n needs a1 a2 a3 c1 c2 c3 w3 (hb.ext (Ext.tr hE (Ext.tr hE2 hE3))) (hn.ext (Ext.tr hE (Ext.tr hE2 hE3))) hnl hok))
   (fun hz w2 hE2 => doneE_any b n needs a1 a2 a3 c1 c2 c3 w2 (hb.ext (Ext.tr hE hE2)) (hn.ext (Ext.tr hE hE2)) hnl (enter_zero hz))
 generalize (enterB b n needs).1 = B at *
 generalize (enterB b n needs).2 = c at *
 have HA := hid hA
 clear hA
 go_enter Qry.func8, Tryz.ntmps8
 go_wp2_with fail
 refine (HA.out _ (ext_two _ _ _)).mono ?_
 rintro e w1 ⟨v1, v2, rs, rfl, hE1, hO1⟩
 have rr := rec_second (l := [.slice none 0 0, .slice none 0 0]) hE1
 have HRR := hid rr
 have HO1 : Hid (OB w1 w.heap.size v1 v2 rs B) := hO1.low (by simp; omega)
 have HE1 := hid (Ext.tr (ext_two _ _ _) hE1)
 have t0 := rr.cell (i := 0) rfl
 have t1 := rr.cell (i := 1) rfl
 have g0 := rr.frozen 0
 have g1 := rr.frozen 1
 obtain ⟨x1, y1, rfl⟩ := own_sl hO1.ot
 obtain ⟨x2, y2, rfl⟩ := own_shape3 hO1.ob
 clear hE1 hO1 rr
 go_wp2_with fail
 refine bodyPost_ret (v := .tuple #[.agg #[.slice x1 B.things.length y1, .slice x2 rs.length y2], .int .i64 (c : Int)]) (by simp [results, Tryz.results8, go_sem, t0, t1]) rfl ⟨_, _, rs, rfl, ?_, ?_⟩
 ·exact (HE1.out.setCell (by simp) _).setCell (by simp) _
 ·exact (HO1.out.stored HRR.out rfl rfl _ _).stored (HRR.out.set _ _) rfl rfl _ _
end
section
open Go Go.Conc Go.ConcN
def FrT (p3 p4 p5 p7 p8 p9 p10 p11 p12 p13 p14 p15 p16 : Value) (x : Act) : Prop :=
 ∃ u : Nat → Value, x = ⟨#[u 0, u 1, u 2, p3, p4, p5, u 6, p7, p8, p9, p10, p11, p12, p13, p14, p15, p16, u 17, u 18, u 19, u 20, u 21, u 22, u 23, u 24, u 25, u 26, u 27, u 28, u 29, u 30, u 31, u 32, u 33, u 34, u 35, u 36, u 37, u 38, u 39, u 40, u 41, u 42, u 43, u 44, u 45, u 46, u 47, u 48, u 49, u 50, u 51, u 52, u 53, u 54, u 55, u 56, u 57, u 58, u 59, u 60, u 61, u 62, u 63, u 64, u 65, u 66, u 67, u 68, u 69, u 70, u 71, u 72, u 73, u 74, u 75, u 76, u 77, u 78, u 79, u 80, u 81, u 82, u 83, u 84, u 85, u 86, u 87, u 88, u 89, u 90, u 91, u 92, u 93, u 94, u 95, u 96, u 97, u 98, u 99, u 100, u 101, u 102, u 103, u 104, u 105, u 106, u 107, u 108, u 109, u 110, u 111, u 112, u 113, u 114, u 115, u 116, u 117, u 118, u 119, u 120, u 121, u 122, u 123, u 124, u 125, u 126, u 127, u 128, u 129, u 130, u 131, u 132, u 133, u 134, u 135, u 136, u 137, u 138, u 139, u 140, u 141, u 142, u 143, u 144, u 145, u 146, u 147, u 148, u 149, u 150, u 151, u 152, u 153, u 154, u 155, u 156, u 157, u 158, u 159, u 160, u 161, u 162, u 163, u 164, u 165, u 166, u 167, u 168, u 169, u 170, u 171, u 172, u 173, u 174, u 175, u 176, u 177, u 178, u 179, u 180, u 181, u 182, u 183, u 184, u 185, u 186, u 187, u 188, u 189, u 190, u 191, u 192, u 193, u 194, u 195], []⟩
def onlyN (N : Act → World → Prop) : Exit → Act → World → Prop
 | .normal, a, v => N a v
 | _, _, _ => False
def slotsOf (x : Act) : Nat → Value := fun n => x.tmps.toList.getD n undef
theorem FrT.of {x : Act} (h : x = ⟨#[slotsOf x 0, slotsOf x 1, slotsOf x 2, slotsOf x 3, slotsOf x 4, slotsOf x 5, slotsOf x 6, slotsOf x 7, slotsOf x 8, slotsOf x 9, slotsOf x 10, slotsOf x 11, slotsOf x 12, slotsOf x 13, slotsOf x 14, slotsOf x 15, slotsOf x 16, slotsOf x 17, slotsOf x 18, slotsOf x 19, slotsOf x 20, slotsOf x 21, slotsOf x 22, slotsOf x 23, slotsOf x 24, slotsOf x 25, slotsOf x 26, slotsOf x 27, slotsOf x 28, slotsOf x 29, slotsOf x 30, slotsOf x 31, slotsOf x 32, slotsOf x 33, slotsOf x 34, slotsOf x 35, slotsOf x 36, slotsOf x 37, slotsOf x 38, slotsOf x 39, slotsOf x 40, slotsOf x 41, slotsOf x 42, slotsOf x 43, slotsOf x 44, slotsOf x 45, slotsOf x 46, slotsOf x 47, slotsOf x 48, slotsOf x 49, slotsOf x 50, slotsOf x 51, slotsOf x 52, slotsOf x 53, slotsOf x 54, slotsOf x 55, slotsOf x 56, slotsOf x 57, slotsOf x 58, slotsOf x 59, slotsOf x 60, slotsOf x 61, slotsOf x 62, slotsOf x 63, slotsOf x 64, slotsOf x 65, slotsOf x 66, slotsOf x 67, slotsOf x 68, slotsOf x 69, slotsOf x 70, slotsOf x 71, slotsOf x 72, slotsOf x 73, slotsOf x 74, slotsOf x 75, slotsOf x 76, slotsOf x 77, slotsOf x 78, slotsOf x 79, slotsOf x 80, slotsOf x 81, slotsOf x 82, slotsOf x 83, slotsOf x 84, slotsOf x 85, slotsOf x 86, slotsOf x 87, slotsOf x 88, slotsOf x 89, slotsOf x 90, slotsOf x 91, slotsOf x 92, slotsOf x 93, slotsOf x 94, slotsOf x 95, slotsOf x 96, slotsOf x 97, slotsOf x 98, slotsOf x 99, slotsOf x 100, slotsOf x 101, slotsOf x 102, slotsOf x 103, slotsOf x 104, slotsOf x 105, slotsOf x 106, slotsOf x 107, slotsOf x 108, slotsOf x 109, slotsOf x 110, slotsOf x 111, slotsOf x 112, slotsOf x 113, slotsOf x 114, slotsOf x 115, slotsOf x 116, slotsOf x 117, slotsOf x 118, slotsOf x 119, slotsOf x 120, slotsOf x 121, slotsOf x 122, slotsOf x 123, slotsOf x 124, slotsOf x 125, slotsOf x 126, slotsOf x 127, slotsOf x 128, slotsOf x 129, slotsOf x 130, slotsOf x 131, slotsOf x 132, slotsOf x 133, slotsOf x 134, slotsOf x 135, slotsOf x 136, slotsOf x 137, slotsOf x 138, slotsOf x 139, slotsOf x 140, slotsOf x 141, slotsOf x 142, slotsOf x 143, slotsOf x 144, slotsOf x 145, slotsOf x 146, slotsOf x 147, slotsOf x 148, slotsOf x 149, slotsOf x 150, slotsOf x 151, slotsOf x 152, slotsOf x 153, slotsOf x 154, slotsOf x 155, slotsOf x 156, slotsOf x 157, slotsOf x 158, slotsOf x 159, slotsOf x 160, slotsOf x 161, slotsOf x 162, slotsOf x 163, slotsOf x 164, slotsOf x 165, slotsOf x 166, slotsOf x 167, slotsOf x 168, slotsOf x 169, slotsOf x 170, slotsOf x 171, slotsOf x 172, slotsOf x 173, slotsOf x 174, slotsOf x 175, slotsOf x 176, slotsOf x 177, slotsOf x 178, slotsOf x 179, slotsOf x 180, slotsOf x 181, slotsOf x 182, slotsOf x 183, slotsOf x 184, slotsOf x 185, slotsOf x 186, slotsOf x 187, slotsOf x 188, slotsOf x 189, slotsOf x 190, slotsOf x 191, slotsOf x 192, slotsOf x 193, slotsOf x 194, slotsOf x 195], []⟩) : FrT (slotsOf x 3) (slotsOf x 4) (slotsOf x 5) (slotsOf x 7) (slotsOf x 8) (slotsOf x 9) (slotsOf x 10) (slotsOf x 11) (slotsOf x 12) (slotsOf x 13) (slotsOf x 14) (slotsOf x 15) (slotsOf x 16) x := ⟨slotsOf x, h⟩
theorem Grew.cellT {a b : World} (h : Grew a b) {p : Addr} {x : Value} (hc : a.cell? p = some x) : b.cell? p = some x := Ext.keep (w := World.re a a.drawn b.tape) h.ext hc
theorem Grew.dos {a b : World} (h : Grew a b) {x : Option Addr} {ds : List Do} (hs : DosAt a x ds) : DosAt b x ds := DosAt.ext (w := World.re a a.drawn b.tape) hs h.ext
theorem Grew.recT {a b : World} (h : Grew a b) {X : Nat} {t : TypeId} {l : List Value} (hr : Rec a X t l) : Rec b X t l := (h.low X hr.lt).trans hr
theorem Grew.store {a b : World} (h : Grew a b) {X : Nat} (hX : a.heap.size ≤ X) (i : Nat) (u : Value) : Grew a (b.setCell ⟨X, i, none⟩ u) :=
 ⟨by simpa [World.setCell] using h.size, fun x hx => by
  rw [(gb_store b X i u).block x (Nat.lt_of_lt_of_le hx h.size) (by simp; omega)]
  exact h.low x hx, h.os, h.output⟩
structure StT [Floor] (w2 : World) (Bb : Nat) (b : Book) (x1 x2 : Option Addr) (y1 y2 : Nat) (z : World) : Prop where
 g : Grew w2 z
 low : Floor.low ≤ z.heap.size
 rb : Rec z Bb 26 [.slice x1 b.things.length y1, .slice x2 b.batches.length y2]
 book : BookAt z x1 x2 b
 safe : safeB b = true
theorem StT.on [Floor] {w2 : World} {Bb : Nat} {b : Book} {x1 x2 : Option Addr} {y1 y2 : Nat} {z z' : World} (h : StT w2 Bb b x1 x2 y1 y2 z) (g : Grew z z') : StT w2 Bb b x1 x2 y1 y2 z' :=
 ⟨h.g.tr g, Nat.le_trans h.low g.size, g.recT h.rb, g.book h.book, h.safe⟩
theorem StT.put [Floor] {w2 : World} {Bb : Nat} {b B : Book} {x1 x2 g1 g2 : Option Addr} {y1 y2 e1 e2 : Nat} {z : World} (h : StT w2 Bb b x1 x2 y1 y2 z) (hB : w2.heap.size ≤ Bb) (hb : BookAt z g1 g2 B) (hs : safeB B = true) :
  StT w2 Bb B g1 g2 e1 e2 ((z.setCell ⟨Bb, 0, none⟩ (.slice g1 B.things.length e1)).setCell ⟨Bb, 1, none⟩ (.slice g2 B.batches.length e2)) :=
 ⟨(h.g.store hB _ _).store hB _ _, by have := h.low; simpa [World.setCell] using this, (h.rb.set 0 _).set 1 _, (hb.box h.rb noStr2).box (h.rb.set 0 _) noStr2, hs⟩
theorem Rec.other2 {z : World} {X Y : Nat} {t : TypeId} {l : List Value} (h : Rec z Y t l) (hne : X ≠ Y) (u1 u2 : Value) : Rec ((z.setCell ⟨X, 0, none⟩ u1).setCell ⟨X, 1, none⟩ u2) Y t l :=
 (h.kept (gb_store z X 0 u1) (by simp; omega)).kept (gb_store _ X 1 u2) (by simp; omega)
theorem BookAt.box2 {z : World} {X : Nat} {q1 q2 : Option Addr} {r1 r2 m1 m2 n1 m n2 k : Nat} {j1 j2 : Option Addr} {a1 a2 : Option Addr} {b : Book} (h : BookAt z a1 a2 b) (hr : Rec z X 26 [.slice q1 r1 m1, .slice q2 r2 m2]) :
  BookAt ((z.setCell ⟨X, 0, none⟩ (.slice j1 n1 m)).setCell ⟨X, 1, none⟩ (.slice j2 n2 k)) a1 a2 b := (h.box hr noStr2).box (hr.set 0 _) noStr2
theorem StrsAt.box2 {z : World} {X : Nat} {q1 q2 : Option Addr} {r1 r2 m1 m2 n1 m n2 k : Nat} {j1 j2 : Option Addr} {a1 : Option Addr} {ss : List Str} (h : StrsAt z a1 ss) (hr : Rec z X 26 [.slice q1 r1 m1, .slice q2 r2 m2]) :
  StrsAt ((z.setCell ⟨X, 0, none⟩ (.slice j1 n1 m)).setCell ⟨X, 1, none⟩ (.slice j2 n2 k)) a1 ss := (h.box hr noStr2 _ _).box (hr.set 0 _) noStr2 _ _
theorem StT.box2 [Floor] {w2 : World} {Bb : Nat} {b : Book} {x1 x2 : Option Addr} {y1 y2 : Nat} {z : World} (h : StT w2 Bb b x1 x2 y1 y2 z) {X : Nat} {q1 q2 : Option Addr} {r1 r2 m1 m2 n1 m n2 k : Nat} {j1 j2 : Option Addr} (hr : Rec z X 26 [.slice q1 r1 m1, .slice q2 r2 m2]) (hX : w2.heap.size ≤ X) (hne : X ≠ Bb) :
  StT w2 Bb b x1 x2 y1 y2 ((z.setCell ⟨X, 0, none⟩ (.slice j1 n1 m)).setCell ⟨X, 1, none⟩ (.slice j2 n2 k)) :=
 ⟨(h.g.store hX _ _).store hX _ _, by have := h.low; simpa [World.setCell] using this, h.rb.other2 hne _ _, h.book.box2 hr, h.safe⟩
structure StX [Floor] (w2 : World) (Bb : Nat) (b B : Book) (kc : Nat) (x1 x2 g1 g2 s1 s2 : Option Addr) (y1 y2 e1 e2 t1 t2 Bx Bw : Nat) (z : World) : Prop where
 st : StT w2 Bb b x1 x2 y1 y2 z
 rx : Rec z Bx 26 [.slice g1 B.things.length e1, .slice g2 B.batches.length e2]
 rw : Rec z Bw 26 [.slice s1 B.things.length t1, .slice s2 B.batches.length t2]
 out : BookAt z g1 g2 B
 want : BookAt z s1 s2 B
 deed : Deed b B kc
theorem StX.on [Floor] {w2 : World} {Bb : Nat} {b B : Book} {kc : Nat} {x1 x2 g1 g2 s1 s2 : Option Addr} {y1 y2 e1 e2 t1 t2 Bx Bw : Nat} {z z' : World} (h : StX w2 Bb b B kc x1 x2 g1 g2 s1 s2 y1 y2 e1 e2 t1 t2 Bx Bw z) (g : Grew z z') : StX w2 Bb b B kc x1 x2 g1 g2 s1 s2 y1 y2 e1 e2 t1 t2 Bx Bw z' :=
 ⟨h.st.on g, g.recT h.rx, g.recT h.rw, g.book h.out, g.book h.want, h.deed⟩
end
section
open Go.RowKit Go.Deep Go.ChangeShapes Go.WideShapes Go.Joins
theorem plain_addr {w : World} {a : Addr} {v : Value} (h : w.cell? a = some v) : a = ⟨a.block, a.off, none⟩ := by
 unfold World.cell? at h
 split at h
 ·split at h
  ·simp at h
  ·cases a with
   | mk b o s => cases s with
    | none => rfl
    | some q => simp at *
 ·simp at h
section
variable {H : Type} {enc : TypeId × Value → H} {W : World} {base : Nat} {spare : Nat → Bool} {held : Bool}
end
end
section
open Go.ChangeShapes Go.WideShapes Go.ChangeAt Go.RowKit Go.Conc Go.ConcN
theorem moves_laidOut : laidOutB Tryz.prog = true := by kernel_rfl
theorem same_of_blocks {W w' : World} (h : ∀ k, k < W.heap.size → w'.heap[k]? = W.heap[k]?) {p : MemPlace} (hp : p.block < W.heap.size) : W.sameAt w' p := by
 cases p with
 | cell b o => exact World.cell?_of_block (w := W) (h b hp)
 | map b => exact h b hp
theorem kept_of_blocks {W w' : World} (h1 : w'.os = W.os) (h2 : w'.output = W.output) (h : ∀ k, k < W.heap.size → w'.heap[k]? = W.heap[k]?) (may : MemPlace → Prop) : W.keptBut w' may := by
 refine ⟨h1, h2, fun i hi => ?_⟩
 rw [h i hi]
 split <;> simp_all
theorem run_of_law {f : FuncId} {fn : Func} {args : Array Value} {W : World} (hf : Tryz.prog.funcs[f]? = some fn) (hi : Tryz.prog.inits.idxOf? f = none)
  (H : ∀ [Floor], Floor.low ≤ (veiled W).heap.size → BodyM Tryz.prog fn args (veiled W) (fun r v' => r = .bool true ∧ Grew (veiled W) v')) :
  ∃ M last o w' t', runNT Tryz.prog (M + 1) (solo (G (Frame.enter Tryz.prog f args .normal) []) W) #[] = (.ended o w', t') ∧ runN Tryz.prog M (solo (G (Frame.enter Tryz.prog f args .normal) []) W) = .next last ∧ step Tryz.prog last = .ended o w' ∧ Conc.Good Tryz.prog (Kept0 W (fun r => r = .bool true)) last o w' t' :=
 mw_top hf hi (fun hfl => by
  obtain ⟨c, hc, hm⟩ := H (by rw [veiled_size, hfl]; exact Nat.le_refl _)
  exact ⟨c, hc, hm.mono fun e a' v' h => by
   cases e with
   | normal => obtain ⟨h1, r, h2, h3, h4⟩ := h; exact ⟨h1, r, h2, h3, h4.size, h4.low, h4.os, h4.output⟩
   | ret => obtain ⟨h1, r, h2, h3, h4⟩ := h; exact ⟨h1, r, h2, h3, h4.size, h4.low, h4.os, h4.output⟩
   | _ => exact h⟩)
end
end Go.Proofs.YtdafpnpfcmgfcaaGreatDoor
