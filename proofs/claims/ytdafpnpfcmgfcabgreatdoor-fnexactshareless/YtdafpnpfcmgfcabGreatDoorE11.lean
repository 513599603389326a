/- What is done: leaving. -/
import Derived.Test.YtdafpnpfcmgfcabGreatDoorE9
import Derived.Test.YtdafpnpfcmgfcabGreatDoorE10
namespace Go.Proofs.YtdafpnpfcmgfcabGreatDoor
open Go.RowKit
attribute [local go_sem] S_toList S_size S_get

theorem ok_short {b : Book} (h : bookOk b = true) : b.batches.length ≤ 2199023255552 := by have := ok_five h; omega
/-- Two boxes, of books: the second is the answer's. -/
theorem rec_second {w w1 : World} {c1 : Array Value} {t1 t2 : TypeId} {l : List Value} (h : Ext ((w.alloc (.cells c1 t1)).alloc (.cells l.toArray t2)) w1) : Rec w1 (w.heap.size + 1) t2 l := by
  have h' := (Rec.new (w.alloc (.cells c1 t1)) t2 l).ext h
  simpa using h'

/-- The book's box takes the batches, the answer's box the book. -/
theorem done_end {w w4 : World} {X : Nat} {b b' : Book} {z1 z2 o2 : Value} {rs : List Row} {fn : Func} {a : Act} (hE : Ext w w4) (hO : OB w4 w.heap.size z1 z2 rs b') (hc : Rec w4 X 30 [z1, o2]) (hr : Rec w4 (w.heap.size + 1) 30 [.slice none 0 0, .slice none 0 0]) (hX : w.heap.size ≤ X) (hne : w.heap.size + 1 ≠ X)
    (hres : (results fn a.tmps).run Tryz.prog (((w4.setCell ⟨X, 1, none⟩ z2).setCell ⟨w.heap.size + 1, 0, none⟩ z1).setCell ⟨w.heap.size + 1, 1, none⟩ z2) = .ok (.agg #[z1, z2]) (((w4.setCell ⟨X, 1, none⟩ z2).setCell ⟨w.heap.size + 1, 0, none⟩ z1).setCell ⟨w.heap.size + 1, 1, none⟩ z2)) (hd : a.defers = []) (hb : b' = b) :
    bodyPost Tryz.prog fn (fun e w' => ∃ v1 v2 rs, e = Ending.returned (.agg #[v1, v2]) ∧ Ext w w' ∧ OB w' w.heap.size v1 v2 rs b) Exit.ret a (((w4.setCell ⟨X, 1, none⟩ z2).setCell ⟨w.heap.size + 1, 0, none⟩ z1).setCell ⟨w.heap.size + 1, 1, none⟩ z2) := by
  subst hb
  have r1 := hr.kept (gb_store w4 X 1 z2) (fun e => hne (Option.some.inj e))
  exact bodyPost_ret hres hd ⟨z1, z2, rs, rfl, ((hE.setCell hX _).setCell (by simp) _).setCell (by simp) _, ((hO.stored hc rfl rfl _ _).stored r1 rfl rfl _ _).stored (r1.set _ _) rfl rfl _ _⟩
theorem asNoGE (v : Value) (w : World) : (Instr.typeAssert (.iface 63 v) 72 103 true).run Tryz.prog w = .ok (.tuple #[.agg #[.string (S []), .slice none 0 0], .bool false]) w := by kernel_rfl
theorem asNoGA (v : Value) (w : World) : (Instr.typeAssert (.iface 63 v) 72 55 true).run Tryz.prog w = .ok (.tuple #[.agg #[.string (S []), .slice none 0 0], .bool false]) w := by kernel_rfl
theorem asNoGL (v : Value) (w : World) : (Instr.typeAssert (.iface 63 v) 72 61 true).run Tryz.prog w = .ok (.tuple #[.agg #[.string (S []), .slice none 0 0], .bool false]) w := by kernel_rfl
theorem asNoLE (v : Value) (w : World) : (Instr.typeAssert (.iface 61 v) 72 103 true).run Tryz.prog w = .ok (.tuple #[.agg #[.string (S []), .slice none 0 0], .bool false]) w := by kernel_rfl
theorem asNoLA (v : Value) (w : World) : (Instr.typeAssert (.iface 61 v) 72 55 true).run Tryz.prog w = .ok (.tuple #[.agg #[.string (S []), .slice none 0 0], .bool false]) w := by kernel_rfl
theorem asNoAE (v : Value) (w : World) : (Instr.typeAssert (.iface 55 v) 72 103 true).run Tryz.prog w = .ok (.tuple #[.agg #[.string (S []), .slice none 0 0], .bool false]) w := by kernel_rfl
theorem asYesE (v : Value) (w : World) : (Instr.typeAssert (.iface 103 v) 72 103 true).run Tryz.prog w = .ok (.tuple #[v, .bool true]) w := by kernel_rfl
theorem asYesA (v : Value) (w : World) : (Instr.typeAssert (.iface 55 v) 72 55 true).run Tryz.prog w = .ok (.tuple #[v, .bool true]) w := by kernel_rfl
theorem asYesL (v : Value) (w : World) : (Instr.typeAssert (.iface 61 v) 72 61 true).run Tryz.prog w = .ok (.tuple #[v, .bool true]) w := by kernel_rfl
theorem asYesG (v : Value) (w : World) : (Instr.typeAssert (.iface 63 v) 72 63 true).run Tryz.prog w = .ok (.tuple #[v, .bool true]) w := by kernel_rfl

set_option maxRecDepth 100000 in
set_option maxHeartbeats 2000000 in
theorem doneG_any (b : Book) (n : Str) (a1 a2 : Option Addr) (c1 c2 : Nat) (w : World) (hb : BookAt w a1 a2 b) (hok : bookOk b = true) (hh : hereB b n = true) :
    Calls Tryz.prog 46 #[.agg #[.slice a1 b.things.length c1, .slice a2 b.batches.length c2], .iface 63 (.agg #[.string (S n)])] w fun e w' =>
      ∃ v1 v2 rs, e = .returned (.agg #[v1, v2]) ∧ Ext w w' ∧ OB w' w.heap.size v1 v2 rs ⟨b.things, b.batches.take (whereB b n) ++ b.batches.drop (whereB b n + 1)⟩ := by
  have hk := where_lt hh
  have HW := hid (ok_where hok hh)
  have h5 := ok_five hok
  have mW := mWhoG
  have n1 := asNoGE
  have n2 := asNoGA
  have n3 := asNoGL
  have y1' := asYesG
  clear hh
  go_enter Tryz.func46, Tryz.ntmps46
  go_wp2_with fail
  refine (copiedBook_any b _ _ _ _ _ (hb.ext (ext_two _ _ _))).mono ?_
  rintro e w1 ⟨v1, v2, rs, rfl, hE1, hOB1⟩
  obtain ⟨x1, y1, x2, y2, rfl, rfl, hat1⟩ := hOB1.at (ok_short hok)
  have HR2 := hid (rec_second (l := [.slice none 0 0, .slice none 0 0]) hE1)
  have HE1 := hid (Ext.tr (ext_two _ _ _) hE1)
  have HAT1 := hid hat1
  have HOB1 : Hid (OB w1 w.heap.size _ _ rs b) := hOB1.low (by simp; omega)
  have hz1 : w.heap.size + 2 ≤ w1.heap.size := by have := hE1.size; simp at this; omega
  clear hE1 hOB1 hat1
  go_wp2_with fail
  have HEc := hid (ext_alloc w1 (.cells #[.slice x1 b.things.length y1, .slice x2 b.batches.length y2] 30))
  have HRc : Hid (Rec _ w1.heap.size 30 [.slice x1 b.things.length y1, .slice x2 b.batches.length y2]) := Rec.new w1 _ _
  have HO2 := hid (HOB1.out.ext HEc.out)
  have HAT2 := hid (HAT1.out.ext HEc.out)
  have HR3 := hid (HR2.out.ext HEc.out)
  have HE2 := hid (Ext.tr HE1.out HEc.out)
  have hzc : w1.heap.size < (w1.alloc (.cells #[.slice x1 b.things.length y1, .slice x2 b.batches.length y2] 30)).heap.size := by simp
  generalize w1.alloc (.cells #[.slice x1 b.things.length y1, .slice x2 b.batches.length y2] 30) = wc at *
  clear HR2 HEc HOB1 HAT1 HE1
  refine wp_region_T (fun w' => w'.cell? ⟨w1.heap.size, 0, none⟩ = some (.slice x1 b.things.length y1) ∧ w'.cell? ⟨w1.heap.size, 1, none⟩ = some (.slice x2 b.batches.length y2)) 8 (by kernel_rfl) ⟨HRc.out.cell rfl, HRc.out.cell rfl⟩ (fun hS => ?_)
  refine wpT_take 0 (v := ?_) rfl rfl (by kernel_rfl) (by kernel_rfl) (by kernel_rfl) (by kernel_rfl) (fun _ _ _ h => h) hS rfl (by intro w0 hw0; (try dsimp only at hw0); go_simp; try rfl) ?_
  try simp only [List.set]
  refine wpT_take 1 (v := ?_) rfl rfl (by kernel_rfl) (by kernel_rfl) (by kernel_rfl) (by kernel_rfl) (fun _ _ _ h => h) hS rfl (by intro w0 hw0; (try dsimp only at hw0); go_simp; try rfl) ?_
  try simp only [List.set]
  refine wpT_one 2 rfl (by kernel_rfl) rfl rfl (fun K hK => ?_)
  go_simp
  refine (who_any n _).mono ?_
  rintro e w2 ⟨rfl, hE2⟩
  go_wp2_with fail
  refine hK.out _ _ ⟨hE2.keep hS.1, hE2.keep hS.2⟩ (fun hS1 => ?_)
  clear hK hS
  have hS := hS1
  clear hS1
  try clear K
  try simp only [put_some, List.set]
  refine wpT_one 3 rfl (by kernel_rfl) rfl rfl (fun K hK => ?_)
  go_simp
  refine (placeOf_any b n _ _ _ _ _ ((HAT2.out.ext (ext_drewN _ 1)).ext hE2) hok).mono ?_
  rintro e w3 ⟨rfl, hE3⟩
  go_wp2_with fail
  refine hK.out _ _ ⟨hE3.keep hS.1, hE3.keep hS.2⟩ (fun hS1 => ?_)
  clear hK hS
  have hS := hS1
  clear hS1
  try clear K
  try simp only [put_some, List.set]
  refine wpT_take 4 (v := ?_) rfl rfl (by kernel_rfl) (by kernel_rfl) (by kernel_rfl) (by kernel_rfl) (fun _ _ _ h => h) hS rfl (by intro w0 hw0; (try dsimp only at hw0); go_simp; try rfl) ?_
  try simp only [List.set]
  refine wpT_take 5 (v := ?_) rfl rfl (by kernel_rfl) (by kernel_rfl) (by kernel_rfl) (by kernel_rfl) (fun _ _ _ h => h) hS rfl (by intro w0 hw0; (try dsimp only at hw0); go_simp; try rfl) ?_
  try simp only [List.set]
  refine wpT_take 6 (v := ?_) rfl rfl (by kernel_rfl) (by kernel_rfl) (by kernel_rfl) (by kernel_rfl) (fun _ _ _ h => h) hS rfl (by intro w0 hw0; (try dsimp only at hw0); go_simp; try rfl) ?_
  try simp only [List.set]
  refine wpT_take 7 (v := ?_) rfl rfl (by kernel_rfl) (by kernel_rfl) (by kernel_rfl) (by kernel_rfl) (fun _ _ _ h => h) hS rfl (by intro w0 hw0; (try dsimp only at hw0); go_simp; try rfl) ?_
  try simp only [List.set]
  refine wpT_last rfl (by kernel_rfl) (by kernel_rfl) rfl (fun K hK => ?_)
  go_simp
  refine hK.out _ _ ?_
  clear hK hS
  have HE3 : Hid (Ext wc w3) := Ext.tr (ext_drewN _ 1) (Ext.tr hE2 hE3)
  have HO3 := hid (HO2.out.ext HE3.out)
  have HR3' := hid (HR3.out.ext HE3.out)
  have HRc3 := hid (HRc.out.ext HE3.out)
  have HE4 := hid (Ext.tr HE2.out HE3.out)
  have q0 := HRc3.out.cell (i := 0) rfl
  have q1 := HRc3.out.cell (i := 1) rfl
  have hz3 := HE3.out.size
  clear hE2 hE3 HE3 HO2 HR3 HRc HE2 HAT2
  rw [HW.out]
  clear HW
  generalize hke : whereB b n = k at *
  have HKE := hid hke
  clear hke
  have q1b := (ext_alloc w3 (.cells #[.string (S n)] 63)).keep q1
  go_wp2_with fail
  clear q0 q1 q1b
  replace HO3 := hid (HO3.out.ext (ext_alloc w3 (.cells #[.string (S n)] 63)))
  replace HR3' := hid (HR3'.out.ext (ext_alloc w3 (.cells #[.string (S n)] 63)))
  replace HRc3 := hid (HRc3.out.ext (ext_alloc w3 (.cells #[.string (S n)] 63)))
  replace HE4 := hid (Ext.tr HE4.out (ext_alloc w3 (.cells #[.string (S n)] 63)))
  replace hz3 : wc.heap.size ≤ (w3.alloc (.cells #[.string (S n)] 63)).heap.size := by simp; omega
  generalize w3.alloc (.cells #[.string (S n)] 63) = w3 at *
  refine (delete_any w.heap.size rs k b.batches.length _ _ (by have h := HO3.out.ob; rw [HO3.out.ow.1] at h; exact h) HO3.out.ow.1 (rows_one HO3.out.ow) hk (by omega)).mono ?_
  rintro e w4 ⟨v', rfl, hg, _, ho⟩
  have hob := HO3.out.cut hk hg ho
  have hlt3 : w1.heap.size < w3.heap.size := by omega
  have hn1 : some w1.heap.size ≠ (Value.slice x2 b.batches.length y2).ownBlock := HRc3.out.not_row rfl HO3.out.ob
  have hn2 : some (w.heap.size + 1) ≠ (Value.slice x2 b.batches.length y2).ownBlock := HR3'.out.not_row rfl HO3.out.ob
  have rc := HRc3.out.kept hg hn1
  have rr := HR3'.out.kept hg hn2
  have HE5 : Hid (Ext w w4) := HE4.out.grown hg (by omega) (fun g hg' => (HO3.out.ob.lt g hg').1)
  have HO5 := hid hob
  have HRC := hid rc
  have HRR := hid rr
  have hz4 := hg.size
  obtain ⟨av, cv, rfl⟩ := own_shape3 ho
  have q0 := rc.cell (i := 0) rfl
  have q1 := rc.cell (i := 1) rfl
  have f1 := rc.frozen 1
  have t0 := rr.cell (i := 0) rfl
  have t1 := rr.cell (i := 1) rfl
  have g0 := rr.frozen 0
  have g1 := rr.frozen 1
  have hne : w.heap.size + 1 ≠ w1.heap.size := by omega
  clear hob hg ho rc rr hn1 hn2 HO3 HR3' HRc3 HE4
  go_wp2_with fail
  exact done_end HE5.out HO5.out HRC.out HRR.out (by omega) hne (by simp [results, Tryz.results46, go_sem, t0, t1]) rfl (by rw [HKE.out])
end Go.Proofs.YtdafpnpfcmgfcabGreatDoor
