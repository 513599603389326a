/- What is done: leaving. What is done: needing less. -/
import Derived.Test.YtdafpnpfcmgfcaaGreatDoorKe38
import Derived.Test.YtdafpnpfcmgfcaaGreatDoorKe40
namespace Go.Proofs.YtdafpnpfcmgfcaaGreatDoor
section
open Go.RowKit
attribute [local go_sem] S_toList S_size S_get
theorem ok_short {b : Book} (h : bookOk b = true) : b.batches.length ≤ 2199023255552 := by have := ok_five h; omega
theorem rec_second {w w1 : World} {c1 : Array Value} {t1 t2 : TypeId} {l : List Value} (h : Ext ((w.alloc (.cells c1 t1)).alloc (.cells l.toArray t2)) w1) : Rec w1 (w.heap.size + 1) t2 l := by
 have h' := (Rec.new (w.alloc (.cells c1 t1)) t2 l).ext h
 simpa using h'
theorem done_end {w w4 : World} {X : Nat} {b b' : Book} {z1 z2 o2 : Value} {rs : List Row} {fn : Func} {a : Act} (hE : Ext w w4) (hO : OB w4 w.heap.size z1 z2 rs b') (hc : Rec w4 X 26 [z1, o2]) (hr : Rec w4 (w.heap.size + 1) 26 [.slice none 0 0, .slice none 0 0]) (hX : w.heap.size ≤ X) (hne : w.heap.size + 1 ≠ X)
  (hres : (results fn a.tmps).run Qry.prog (((w4.setCell ⟨X, 1, none⟩ z2).setCell ⟨w.heap.size + 1, 0, none⟩ z1).setCell ⟨w.heap.size + 1, 1, none⟩ z2) = .ok (.agg #[z1, z2]) (((w4.setCell ⟨X, 1, none⟩ z2).setCell ⟨w.heap.size + 1, 0, none⟩ z1).setCell ⟨w.heap.size + 1, 1, none⟩ z2)) (hd : a.defers = []) (hb : b' = b) :
  bodyPost Qry.prog fn (fun e w' => ∃ v1 v2 rs, e = Ending.returned (.agg #[v1, v2]) ∧ Ext w w' ∧ OB w' w.heap.size v1 v2 rs b) Exit.ret a (((w4.setCell ⟨X, 1, none⟩ z2).setCell ⟨w.heap.size + 1, 0, none⟩ z1).setCell ⟨w.heap.size + 1, 1, none⟩ z2) := by
 subst hb
 have r1 := hr.kept (gb_store w4 X 1 z2) (fun e => hne (Option.some.inj e))
 exact bodyPost_ret hres hd ⟨z1, z2, rs, rfl, ((hE.setCell hX _).setCell (by simp) _).setCell (by simp) _, ((hO.stored hc rfl rfl _ _).stored r1 rfl rfl _ _).stored (r1.set _ _) rfl rfl _ _⟩
theorem asNoGE (v : Value) (w : World) : (Instr.typeAssert (.iface 80 v) 106 68 true).run Qry.prog w = .ok (.tuple #[.agg #[.string (S []), .slice none 0 0], .bool false]) w := by kernel_rfl
theorem asNoGA (v : Value) (w : World) : (Instr.typeAssert (.iface 80 v) 106 75 true).run Qry.prog w = .ok (.tuple #[.agg #[.string (S []), .slice none 0 0], .bool false]) w := by kernel_rfl
theorem asNoGL (v : Value) (w : World) : (Instr.typeAssert (.iface 80 v) 106 78 true).run Qry.prog w = .ok (.tuple #[.agg #[.string (S []), .slice none 0 0], .bool false]) w := by kernel_rfl
theorem asNoLE (v : Value) (w : World) : (Instr.typeAssert (.iface 78 v) 106 68 true).run Qry.prog w = .ok (.tuple #[.agg #[.string (S []), .slice none 0 0], .bool false]) w := by kernel_rfl
theorem asNoLA (v : Value) (w : World) : (Instr.typeAssert (.iface 78 v) 106 75 true).run Qry.prog w = .ok (.tuple #[.agg #[.string (S []), .slice none 0 0], .bool false]) w := by kernel_rfl
theorem asNoAE (v : Value) (w : World) : (Instr.typeAssert (.iface 75 v) 106 68 true).run Qry.prog w = .ok (.tuple #[.agg #[.string (S []), .slice none 0 0], .bool false]) w := by kernel_rfl
theorem asYesE (v : Value) (w : World) : (Instr.typeAssert (.iface 68 v) 106 68 true).run Qry.prog w = .ok (.tuple #[v, .bool true]) w := by kernel_rfl
theorem asYesA (v : Value) (w : World) : (Instr.typeAssert (.iface 75 v) 106 75 true).run Qry.prog w = .ok (.tuple #[v, .bool true]) w := by kernel_rfl
theorem asYesL (v : Value) (w : World) : (Instr.typeAssert (.iface 78 v) 106 78 true).run Qry.prog w = .ok (.tuple #[v, .bool true]) w := by kernel_rfl
theorem asYesG (v : Value) (w : World) : (Instr.typeAssert (.iface 80 v) 106 80 true).run Qry.prog w = .ok (.tuple #[v, .bool true]) w := by kernel_rfl
set_option maxRecDepth 100000 in
set_option maxHeartbeats 2000000 in
theorem doneG_any (b : Book) (n : Str) (a1 a2 : Option Addr) (c1 c2 : Nat) (w : World) (hb : BookAt w a1 a2 b) (hok : bookOk b = true) (hh : hereB b n = true) :
  Calls Qry.prog 80 #[.agg #[.slice a1 b.things.length c1, .slice a2 b.batches.length c2], .iface 80 (.agg #[.string (S n)])] w fun e w' =>
   ∃ v1 v2 rs, e = .returned (.agg #[v1, v2]) ∧ Ext w w' ∧ OB w' w.heap.size v1 v2 rs ⟨b.things, b.batches.take (whereB b n) ++ b.batches.drop (whereB b n + 1)⟩ := by
 have hk := where_lt hh
 have HW := hid (ok_where hok hh)
 have h5 := ok_five hok
 have mW := mWhoG
 have n1 := asNoGE
 have n2 := asNoGA
 have n3 := asNoGL
 have y1' := asYesG
 clear hh
 go_enter Qry.func80, Tryz.ntmps80
 go_wp2_with fail
 refine (copiedBook_any b _ _ _ _ _ (hb.ext (ext_two _ _ _))).mono ?_
 rintro e w1 ⟨v1, v2, rs, rfl, hE1, hOB1⟩
 obtain ⟨x1, y1, x2, y2, rfl, rfl, hat1⟩ := hOB1.at (ok_short hok)
 have HR2 := hid (rec_second (l := [.slice none 0 0, .slice none 0 0]) hE1)
 have HE1 := hid (Ext.tr (ext_two _ _ _) hE1)
 have HAT1 := hid hat1
 have HOB1 : Hid (OB w1 w.heap.size _ _ rs b) := hOB1.low (by simp; omega)
 have hz1 : w.heap.size + 2 ≤ w1.heap.size := by have := hE1.size; simp at this; omega
 clear hE1 hOB1 hat1
 go_wp2_with fail
 have HEc := hid (ext_alloc w1 (.cells #[.slice x1 b.things.length y1, .slice x2 b.batches.length y2] 26))
 have HRc : Hid (Rec _ w1.heap.size 26 [.slice x1 b.things.length y1, .slice x2 b.batches.length y2]) := Rec.new w1 _ _
 have HO2 := hid (HOB1.out.ext HEc.out)
 have HAT2 := hid (HAT1.out.ext HEc.out)
 have HR3 := hid (HR2.out.ext HEc.out)
 have HE2 := hid (Ext.tr HE1.out HEc.out)
 have hzc : w1.heap.size < (w1.alloc (.cells #[.slice x1 b.things.length y1, .slice x2 b.batches.length y2] 26)).heap.size := by simp
 generalize w1.alloc (.cells #[.slice x1 b.things.length y1, .slice x2 b.batches.length y2] 26) = wc at *
 clear HR2 HEc HOB1 HAT1 HE1
 refine wp_region_T (fun w' => w'.cell? ⟨w1.heap.size, 0, none⟩ = some (.slice x1 b.things.length y1) ∧ w'.cell? ⟨w1.heap.size, 1, none⟩ = some (.slice x2 b.batches.length y2)) 8 (by kernel_rfl) ⟨HRc.out.cell rfl, HRc.out.cell rfl⟩ (fun hS => ?_)
 refine tk 0 hS ?_
 try simp only [List.set]
 refine tk 1 hS ?_
 try simp only [List.set]
 refine wpT_one 2 rfl (by kernel_rfl) rfl rfl (fun K hK => ?_)
 go_simp
 refine (who_any n _).mono ?_
 rintro e w2 ⟨rfl, hE2⟩
 go_wp2_with fail
 refine hK.out _ _ ⟨hE2.keep hS.1, hE2.keep hS.2⟩ (fun hS1 => ?_)
 clear hK hS
 have hS := hS1
 clear hS1
 try clear K
 try simp only [put_some, List.set]
 refine wpT_one 3 rfl (by kernel_rfl) rfl rfl (fun K hK => ?_)
 go_simp
 refine (placeOf_any b n _ _ _ _ _ ((HAT2.out.ext (ext_drewN _ 1)).ext hE2) hok).mono ?_
 rintro e w3 ⟨rfl, hE3⟩
 go_wp2_with fail
 refine hK.out _ _ ⟨hE3.keep hS.1, hE3.keep hS.2⟩ (fun hS1 => ?_)
 clear hK hS
 have hS := hS1
 clear hS1
 try clear K
 try simp only [put_some, List.set]
 refine tk 4 hS ?_
 try simp only [List.set]
 refine tk 5 hS ?_
 try simp only [List.set]
 refine tk 6 hS ?_
 try simp only [List.set]
 refine tk 7 hS ?_
 try simp only [List.set]
 refine wpT_last rfl (by kernel_rfl) (by kernel_rfl) rfl (fun K hK => ?_)
 go_simp
 refine hK.out _ _ ?_
 clear hK hS
 have HE3 : Hid (Ext wc w3) := Ext.tr (ext_drewN _ 1) (Ext.tr hE2 hE3)
 have HO3 := hid (HO2.out.ext HE3.out)
 have HR3' := hid (HR3.out.ext HE3.out)
 have HRc3 := hid (HRc.out.ext HE3.out)
 have HE4 := hid (Ext.tr HE2.out HE3.out)
 have q0 := HRc3.out.cell (i := 0) rfl
 have q1 := HRc3.out.cell (i := 1) rfl
 have hz3 := HE3.out.size
 clear hE2 hE3 HE3 HO2 HR3 HRc HE2 HAT2
 rw [HW.out]
 clear HW
 generalize hke : whereB b n = k at *
 have HKE := hid hke
 clear hke
 have q1b := (ext_alloc w3 (.cells #[.string (S n)] 80)).keep q1
 go_wp2_with fail
 clear q0 q1 q1b
 replace HO3 := hid (HO3.out.ext (ext_alloc w3 (.cells #[.string (S n)] 80)))
 replace HR3' := hid (HR3'.out.ext (ext_alloc w3 (.cells #[.string (S n)] 80)))
 replace HRc3 := hid (HRc3.out.ext (ext_alloc w3 (.cells #[.string (S n)] 80)))
 replace HE4 := hid (Ext.tr HE4.out (ext_alloc w3 (.cells #[.string (S n)] 80)))
 replace hz3 : wc.heap.size ≤ (w3.alloc (.cells #[.string (S n)] 80)).heap.size := by simp; omega
 generalize w3.alloc (.cells #[.string (S n)] 80) = w3 at *
 refine (delete_any w.heap.size rs k b.batches.length _ _ (by have h := HO3.out.ob; rw [HO3.out.ow.1] at h; exact h) HO3.out.ow.1 (rows_one HO3.out.ow) hk (by omega)).mono ?_
 rintro e w4 ⟨v', rfl, hg, _, ho⟩
 have hob := HO3.out.cut hk hg ho
 have hlt3 : w1.heap.size < w3.heap.size := by omega
 have hn1 : some w1.heap.size ≠ (Value.slice x2 b.batches.length y2).ownBlock := HRc3.out.not_row rfl HO3.out.ob
 have hn2 : some (w.heap.size + 1) ≠ (Value.slice x2 b.batches.length y2).ownBlock := HR3'.out.not_row rfl HO3.out.ob
 have rc := HRc3.out.kept hg hn1
 have rr := HR3'.out.kept hg hn2
 have HE5 : Hid (Ext w w4) := HE4.out.grown hg (by omega) (fun g hg' => (HO3.out.ob.lt g hg').1)
 have HO5 := hid hob
 have HRC := hid rc
 have HRR := hid rr
 have hz4 := hg.size
 obtain ⟨av, cv, rfl⟩ := own_shape3 ho
 have q0 := rc.cell (i := 0) rfl
 have q1 := rc.cell (i := 1) rfl
 have f1 := rc.frozen 1
 have t0 := rr.cell (i := 0) rfl
 have t1 := rr.cell (i := 1) rfl
 have g0 := rr.frozen 0
 have g1 := rr.frozen 1
 have hne : w.heap.size + 1 ≠ w1.heap.size := by omega
 clear hob hg ho rc rr hn1 hn2 HO3 HR3' HRc3 HE4
 go_wp2_with fail
 exact done_end HE5.out HO5.out HRC.out HRR.out (by omega) hne (by simp [results, Tryz.results80, go_sem, t0, t1]) rfl (by rw [HKE.out])
end
section
open Go.RowKit
attribute [local go_sem] S_toList S_size S_get
theorem short_sub {l l' : List Str} (h : ShortS l) (hs : ∀ x ∈ l', x ∈ l) (hl : l'.length ≤ l.length) : ShortS l' := by
 refine ⟨by have := h.1; omega, fun i hi => ?_⟩
 rw [nth_get hi]
 obtain ⟨j, hj, e⟩ := List.getElem_of_mem (hs _ (List.getElem_mem hi))
 have := h.2 j hj
 rw [nth_get hj, e] at this; exact this
theorem short_kept {l o : List Str} (h : ShortS l) : ShortS (keptL l o) := short_sub h (fun _ hx => (List.mem_filter.1 hx).1) (kept_len l o)
theorem short_app {l m : List Str} (h : ShortS l) (k : ShortS m) (hl : l.length + m.length ≤ 8796093022208) : ShortS (l ++ m) := by
 refine ⟨by rw [List.length_append]; exact hl, fun i hi => ?_⟩
 rw [nth_get hi]
 rcases List.mem_append.1 (List.getElem_mem hi) with hm | hm
 ·obtain ⟨j, hj, e⟩ := List.getElem_of_mem hm
  have := h.2 j hj
  rw [nth_get hj, e] at this; exact this
 ·obtain ⟨j, hj, e⟩ := List.getElem_of_mem hm
  have := k.2 j hj
  rw [nth_get hj, e] at this; exact this
theorem nthB_set {bs : List Batch} {k : Nat} {x : Batch} (h : k < bs.length) : nthB (bs.set k x) k = x := by
 rw [nthB_get (by rw [List.length_set]; exact h)]; simp
def OutB (w : World) (b : Book) (e : Ending) (w' : World) : Prop := ∃ v1 v2 rs, e = .returned (.agg #[v1, v2]) ∧ Ext w w' ∧ OB w' w.heap.size v1 v2 rs b
theorem done_end2 {w w4 : World} {b b' : Book} {z1 z2 : Value} {rs : List Row} {fn : Func} {a : Act} (hE : Ext w w4) (hO : OB w4 w.heap.size z1 z2 rs b') (hr : Rec w4 (w.heap.size + 1) 26 [.slice none 0 0, .slice none 0 0])
  (hres : (results fn a.tmps).run Qry.prog ((w4.setCell ⟨w.heap.size + 1, 0, none⟩ z1).setCell ⟨w.heap.size + 1, 1, none⟩ z2) = .ok (.agg #[z1, z2]) ((w4.setCell ⟨w.heap.size + 1, 0, none⟩ z1).setCell ⟨w.heap.size + 1, 1, none⟩ z2)) (hd : a.defers = []) (hb : b' = b) :
  bodyPost Qry.prog fn (fun e w' => OutB w b e w') Exit.ret a ((w4.setCell ⟨w.heap.size + 1, 0, none⟩ z1).setCell ⟨w.heap.size + 1, 1, none⟩ z2) := by
 subst hb
 exact bodyPost_ret hres hd ⟨z1, z2, rs, rfl, (hE.setCell (by simp) _).setCell (by simp) _, (hO.stored hr rfl rfl _ _).stored (hr.set _ _) rfl rfl _ _⟩
set_option maxRecDepth 100000 in
set_option maxHeartbeats 2000000 in
theorem doneL_any (b : Book) (n : Str) (needs : List Str) (a1 a2 a3 : Option Addr) (c1 c2 c3 : Nat) (w : World) (hb : BookAt w a1 a2 b) (hn : StrsAt w a3 needs) (hok : bookOk b = true) (hh : hereB b n = true) :
  Calls Qry.prog 80 #[.agg #[.slice a1 b.things.length c1, .slice a2 b.batches.length c2], .iface 78 (.agg #[.string (S n), .slice a3 needs.length c3])] w fun e w' => OutB w (fewerB b (whereB b n) needs) e w' := by
 have hk := where_lt hh
 have HW := hid (ok_where hok hh)
 have h5 := ok_five hok
 have mW := mWhoL
 have n1 := asNoLE
 have n2 := asNoLA
 have y1' := asYesL
 clear hh
 go_enter Qry.func80, Tryz.ntmps80
 go_wp2_with fail
 refine (copiedBook_any b _ _ _ _ _ (hb.ext (ext_two _ _ _))).mono ?_
 rintro e w1 ⟨v1, v2, rs, rfl, hE1, hOB1⟩
 obtain ⟨x1, y1, x2, y2, rfl, rfl, hat1⟩ := hOB1.at (ok_short hok)
 have HR2 := hid (rec_second (l := [.slice none 0 0, .slice none 0 0]) hE1)
 have HE1 := hid (Ext.tr (ext_two _ _ _) hE1)
 have HAT1 := hid hat1
 have HOB1 : Hid (OB w1 w.heap.size _ _ rs b) := hOB1.low (by simp; omega)
 have hz1 : w.heap.size + 2 ≤ w1.heap.size := by have := hE1.size; simp at this; omega
 clear hE1 hOB1 hat1
 go_wp2_with fail
 have HEc := hid (ext_alloc w1 (.cells #[.slice x1 b.things.length y1, .slice x2 b.batches.length y2] 26))
 have HRc : Hid (Rec _ w1.heap.size 26 [.slice x1 b.things.length y1, .slice x2 b.batches.length y2]) := Rec.new w1 _ _
 have HO2 := hid (HOB1.out.ext HEc.out)
 have HAT2 := hid (HAT1.out.ext HEc.out)
 have HR3 := hid (HR2.out.ext HEc.out)
 have HE2 := hid (Ext.tr HE1.out HEc.out)
 have hzc : w1.heap.size < (w1.alloc (.cells #[.slice x1 b.things.length y1, .slice x2 b.batches.length y2] 26)).heap.size := by simp
 generalize w1.alloc (.cells #[.slice x1 b.things.length y1, .slice x2 b.batches.length y2] 26) = wc at *
 clear HR2 HEc HOB1 HAT1 HE1
 refine wp_region_T (fun w' => w'.cell? ⟨w1.heap.size, 0, none⟩ = some (.slice x1 b.things.length y1) ∧ w'.cell? ⟨w1.heap.size, 1, none⟩ = some (.slice x2 b.batches.length y2)) 8 (by kernel_rfl) ⟨HRc.out.cell rfl, HRc.out.cell rfl⟩ (fun hS => ?_)
 refine tk 0 hS ?_
 try simp only [List.set]
 refine tk 1 hS ?_
 try simp only [List.set]
 refine wpT_one 2 rfl (by kernel_rfl) rfl rfl (fun K hK => ?_)
 go_simp
 refine (who_any n _).mono ?_
 rintro e w2 ⟨rfl, hE2⟩
 go_wp2_with fail
 refine hK.out _ _ ⟨hE2.keep hS.1, hE2.keep hS.2⟩ (fun hS1 => ?_)
 clear hK hS
 have hS := hS1
 clear hS1
 try clear K
 try simp only [put_some, List.set]
 refine wpT_one 3 rfl (by kernel_rfl) rfl rfl (fun K hK => ?_)
 go_simp
 refine (placeOf_any b n _ _ _ _ _ ((HAT2.out.ext (ext_drewN _ 1)).ext hE2) hok).mono ?_
 rintro e w3 ⟨rfl, hE3⟩
 go_wp2_with fail
 refine hK.out _ _ ⟨hE3.keep hS.1, hE3.keep hS.2⟩ (fun hS1 => ?_)
 clear hK hS
 have hS := hS1
 clear hS1
 try clear K
 try simp only [put_some, List.set]
 refine tk 4 hS ?_
 try simp only [List.set]
 refine tk 5 hS ?_
 try simp only [List.set]
 refine tk 6 hS ?_
 try simp only [List.set]
 refine tk 7 hS ?_
 try simp only [List.set]
 refine wpT_last rfl (by kernel_rfl) (by kernel_rfl) rfl (fun K hK => ?_)
 go_simp
 refine hK.out _ _ ?_
 clear hK hS
 have HE3 : Hid (Ext wc w3) := Ext.tr (ext_drewN _ 1) (Ext.tr hE2 hE3)
 have HO3 := hid (HO2.out.ext HE3.out)
 have HAT3 := hid (HAT2.out.ext HE3.out)
 have HR3' := hid (HR3.out.ext HE3.out)
 have HRc3 := hid (HRc.out.ext HE3.out)
 have HE4 := hid (Ext.tr HE2.out HE3.out)
 have q0 := HRc3.out.cell (i := 0) rfl
 have q1 := HRc3.out.cell (i := 1) rfl
 have hz3 := HE3.out.size
 clear hE2 hE3 HE3 HO2 HR3 HRc HE2 HAT2
 rw [HW.out]
 clear HW
 generalize hke : whereB b n = k at *
 have HKE := hid hke
 clear hke
 obtain ⟨g, gc, cur, he, -⟩ := own_open (by have h := HO3.out.ob; rw [HO3.out.ow.1] at h; exact h) (by omega : 0 < b.batches.length)
 simp only [Value.slice.injEq, true_and] at he
 obtain ⟨rfl, rfl⟩ := he
 have hzw : wc.heap.size ≤ (w3.alloc (.cells #[.string (S n), .slice a3 needs.length c3] 78)).heap.size := by simp; omega
 have q1b := (ext_alloc w3 (.cells #[.string (S n), .slice a3 needs.length c3] 78)).keep q1
 go_wp2_with fail
 clear q0 q1 q1b
 replace HO3 := hid (HO3.out.ext (ext_alloc w3 (.cells #[.string (S n), .slice a3 needs.length c3] 78)))
 replace HAT3 := hid (HAT3.out.ext (ext_alloc w3 (.cells #[.string (S n), .slice a3 needs.length c3] 78)))
 replace HR3' := hid (HR3'.out.ext (ext_alloc w3 (.cells #[.string (S n), .slice a3 needs.length c3] 78)))
 replace HRc3 := hid (HRc3.out.ext (ext_alloc w3 (.cells #[.string (S n), .slice a3 needs.length c3] 78)))
 replace HE4 := hid (Ext.tr HE4.out (ext_alloc w3 (.cells #[.string (S n), .slice a3 needs.length c3] 78)))
 have HRw : Hid (Rec _ w3.heap.size 78 [.string (S n), .slice a3 needs.length c3]) := Rec.new w3 _ _
 have hzb : w3.heap.size < (w3.alloc (.cells #[.string (S n), .slice a3 needs.length c3] 78)).heap.size := by simp
 generalize w3.alloc (.cells #[.string (S n), .slice a3 needs.length c3] 78) = wb at *
 obtain ⟨bb, oo, hbo, -, z1, d1, z2, d2, -, p1, p2, s1, s2⟩ := HAT3.out.2.2 k hk
 cases hbo
 rw [Nat.zero_add] at p1 p2
 have hgl : g < wb.heap.size := cell_lt p1
 have hgb : w.heap.size ≤ g := (HO3.out.ob.lt g rfl).1
 have hn1 : w1.heap.size ≠ g := fun e => HRc3.out.not_row rfl HO3.out.ob (by rw [e]; rfl)
 have hn2 : w.heap.size + 1 ≠ g := fun e => HR3'.out.not_row rfl HO3.out.ob (by rw [e]; rfl)
 have hn3 : w3.heap.size ≠ g := fun e => HRw.out.not_row rfl HO3.out.ob (by rw [e]; rfl)
 refine wp_region_T (fun w' => w'.cell? ⟨w3.heap.size, 1, none⟩ = some (.slice a3 needs.length c3)) 17 (by kernel_rfl) (HRw.out.cell rfl) (fun hS => ?_)
 refine tk 0 hS ?_
 try simp only [List.set]
 refine tk 1 hS ?_
 try simp only [List.set]
 refine tk 2 hS ?_
 try simp only [List.set]
 refine tk 3 hS ?_
 try simp only [List.set]
 refine tk 4 hS ?_
 try simp only [List.set]
 refine tk 6 hS ?_
 try simp only [List.set]
 refine tk 7 hS ?_
 try simp only [List.set]
 refine tk 9 hS ?_
 try simp only [List.set]
 refine tk 10 hS ?_
 try simp only [List.set]
 refine wpT_one 5 rfl (by kernel_rfl) rfl rfl (fun K hK => ?_)
 go_simp
 refine hK.out _ _ hS (fun hS1 => ?_)
 clear hK hS
 have hS := hS1
 clear hS1
 try clear K
 try simp only [put_some, List.set]
 refine wpT_one 8 rfl (by kernel_rfl) rfl rfl (fun K hK => ?_)
 go_simp
 refine (kept_any _ _ _ _ _ _ _ (s1.ext (ext_drewN _ 1)) ((hn.ext HE4.out).ext (ext_drewN _ 1))).mono ?_
 rintro e w5 ⟨u, rfl, hE5, ho5⟩
 obtain ⟨x5, y5, rfl⟩ := own_sl ho5
 go_wp2_with fail
 refine hK.out _ _ (hE5.keep hS) (fun hS1 => ?_)
 clear hK hS
 have hS := hS1
 clear hS1
 try clear K
 try simp only [put_some, List.set]
 refine wpT_one 11 rfl (by kernel_rfl) rfl rfl (fun K hK => ?_)
 go_simp
 refine (copied_any _ _ _ _ (((hn.ext HE4.out).ext (ext_drewN _ 1)).ext hE5)).mono ?_
 rintro e w6 ⟨u6, rfl, hE6, ho6⟩
 obtain ⟨x6, y6, rfl⟩ := own_sl ho6
 go_wp2_with fail
 refine hK.out _ _ (hE6.keep hS) (fun hS1 => ?_)
 clear hK hS
 have hS := hS1
 clear hS1
 try clear K
 try simp only [put_some, List.set]
 have hE16 : Ext wb w6 := Ext.tr (ext_drewN _ 1) (Ext.tr hE5 hE6)
 have hzb5 : wb.heap.size ≤ w5.heap.size := hE5.size
 have hzb6 : w5.heap.size ≤ w6.heap.size := hE6.size
 have hO6 := HO3.out.ext hE16
 have hu5 : ∀ v ∈ (Value.slice x1 b.things.length y1) :: allV rs, NE v (.slice x5 (keptL (nthB b.batches k).has needs).length y5) := fun v hv => by
  rw [List.mem_cons] at hv
  rcases hv with rfl | hv
  ·exact NE.older HO3.out.ot ho5 (Nat.le_refl _)
  ·obtain ⟨M, hM⟩ := HO3.out.ow.memV hv
   exact NE.older hM ho5 (Nat.le_refl _)
 obtain ⟨rs1, hO7, hsub⟩ := hO6.putHas hk (ho5.ext hE6) (short_kept s1.short) (by show w.heap.size ≤ wb.heap.size; omega) hu5
 have hu6 : ∀ v ∈ (Value.slice x1 b.things.length y1) :: allV rs1, NE v (.slice x6 needs.length y6) := fun v hv => by
  rcases hsub v hv with rfl | hv
  ·exact NE.older ho5 ho6 (Nat.le_refl _)
  ·rw [List.mem_cons] at hv
   rcases hv with rfl | hv
   ·exact NE.older HO3.out.ot ho6 (by show wb.heap.size ≤ _; omega)
   ·obtain ⟨M, hM⟩ := HO3.out.ow.memV hv
    exact NE.older hM ho6 (by show wb.heap.size ≤ _; omega)
 have h6' : OwnL (w6.setCell ⟨g, k * 3 + 1, none⟩ (.slice x5 (keptL (nthB b.batches k).has needs).length y5)) w5.heap.size (.slice x6 needs.length y6) needs := own_store_keep (by have h := hO6.ob; rw [hO6.ow.1] at h; exact h) ho6 _ _
 have hO7' : OB (w6.setCell ⟨g, k * 3 + 1, none⟩ (.slice x5 (keptL (nthB b.batches k).has needs).length y5)) w.heap.size (.slice x1 b.things.length y1) (.slice (some ⟨g, 0, none⟩) (b.batches.set k ⟨(nthB b.batches k).name, keptL (nthB b.batches k).has needs, (nthB b.batches k).needs⟩).length y2) rs1 ⟨b.things, b.batches.set k ⟨(nthB b.batches k).name, keptL (nthB b.batches k).has needs, (nthB b.batches k).needs⟩⟩ := by rw [List.length_set]; exact hO7
 obtain ⟨rs2, hO8, -⟩ := hO7'.putNeeds (by rw [List.length_set]; exact hk) h6' hn.short (by omega) hu6
 rw [nthB_set hk, List.set_set, List.length_set] at hO8
 have p1' := hE16.keep p1
 have f1 : w6.frozen? ⟨g, k * 3 + 1, none⟩ = false := by
  obtain ⟨-, -, f, -⟩ := hO6.bs.cells hk
  exact f
 have f2 : w6.frozen? ⟨g, k * 3 + 2, none⟩ = false := by
  obtain ⟨-, -, -, f⟩ := hO6.bs.cells hk
  exact f
 have p2' := hE16.keep p2
 have HO8 := hid hO8
 have gs1 := gb_store w6 g (k * 3 + 1) (.slice x5 (keptL (nthB b.batches k).has needs).length y5)
 have gs2 := gb_store (w6.setCell ⟨g, k * 3 + 1, none⟩ (.slice x5 (keptL (nthB b.batches k).has needs).length y5)) g (k * 3 + 2) (.slice x6 needs.length y6)
 have HRC := hid (((HRc3.out.ext hE16).kept gs1 (fun e => hn1 (Option.some.inj e))).kept gs2 (fun e => hn1 (Option.some.inj e)))
 have HRR := hid (((HR3'.out.ext hE16).kept gs1 (fun e => hn2 (Option.some.inj e))).kept gs2 (fun e => hn2 (Option.some.inj e)))
 have hRw1 := (HRw.out.ext hE16).kept gs1 (fun e => hn3 (Option.some.inj e))
 have HE8 : Hid (Ext w ((w6.setCell ⟨g, k * 3 + 1, none⟩ (.slice x5 (keptL (nthB b.batches k).has needs).length y5)).setCell ⟨g, k * 3 + 2, none⟩ (.slice x6 needs.length y6))) := ((Ext.tr HE4.out hE16).setCell hgb _).setCell hgb _
 clear hO8 hO7' h6' hu6 hO7 hu5 hO6 gs1 gs2 hE16 hE5 hE6 ho5 ho6 HO3 HAT3 HR3' HRc3 HE4 s1 s2 p1 p2 hsub
 refine tk 12 hS ?_
 try simp only [List.set]
 refine tk 13 hS ?_
 try simp only [List.set]
 refine wpT_one 14 rfl (by kernel_rfl) rfl rfl (fun K hK => ?_)
 go_simp
 refine hK.out _ _ (hRw1.cell rfl) (fun hS1 => ?_)
 clear hK hS
 have hS := hS1
 clear hS1
 try clear K
 try simp only [put_some, List.set]
 refine wpT_one 15 rfl (by kernel_rfl) rfl rfl (fun K hK => ?_)
 go_simp
 refine hK.out _ _ hS (fun hS1 => ?_)
 clear hK hS
 have hS := hS1
 clear hS1
 try clear K
 try simp only [put_some, List.set]
 refine wpT_one 16 rfl (by kernel_rfl) rfl rfl (fun K hK => ?_)
 go_simp
 refine hK.out _ _ hS (fun hS1 => ?_)
 clear hK hS
 have hS := hS1
 clear hS1
 try clear K
 try simp only [put_some, List.set]
 refine wpT_last rfl (by kernel_rfl) (by kernel_rfl) rfl (fun K hK => ?_)
 go_simp
 refine hK.out _ _ ?_
 clear hK hS hRw1
 generalize (w6.setCell ⟨g, k * 3 + 1, none⟩ (.slice x5 (keptL (nthB b.batches k).has needs).length y5)).setCell ⟨g, k * 3 + 2, none⟩ (.slice x6 needs.length y6) = w8 at *
 have q0 := HRC.out.cell (i := 0) rfl
 have q1 := HRC.out.cell (i := 1) rfl
 have t0 := HRR.out.cell (i := 0) rfl
 have t1 := HRR.out.cell (i := 1) rfl
 have g0 := HRR.out.frozen 0
 have g1 := HRR.out.frozen 1
 go_wp2_with fail
 exact done_end2 HE8.out HO8.out HRR.out (by simp [results, Tryz.results80, go_sem, t0, t1]) rfl (by rw [HKE.out]; rfl)
end
end Go.Proofs.YtdafpnpfcmgfcaaGreatDoor
