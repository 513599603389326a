/- The walk over the law FnTop, beside those that are only leaving. -/
import Derived.Test.YtdafpnpfcmgfcaaGreatDoorKe50
namespace Go.Proofs.YtdafpnpfcmgfcaaGreatDoor
open Go Go.Conc Go.ConcN Go.RowKit
attribute [local go_sem] S_toList S_size S_get
set_option maxHeartbeats 4000000 in
set_option maxRecDepth 100000 in
theorem lawTop_m [Floor] (a : Option Addr) (n c : Nat) (v : World) (h1 : BytesAt v a n) (hn : n ≤ c) (hc : c ≤ 140737488355328)
  (hg : v.cell? ⟨0, 0, none⟩ = some (.iface 176 (.agg #[.pointer (some ⟨1, 110, none⟩)]))) (hfl : Floor.low ≤ v.heap.size) :
  BodyM Tryz.prog Tryz.f3 #[.slice a n c] v (fun r v' => r = .bool true ∧ Grew v v') := by
 refine ⟨_, rfl, ?_⟩
 simp only [Tryz.ntmps3, List.size_toArray, List.length_cons, List.length_nil, Nat.reduceAdd, Nat.reduceSub, Array.replicate_succ, Array.replicate_zero, List.push_toArray, List.append_toArray, List.nil_append, List.cons_append]
 refine mw_front tamed 3 rfl (by kernel_rfl) (by kernel_rfl) (fun T => ?_)
 generalize hw : World.re v 0 T = w
 have HG0 : Hid (Grew v w) := by subst hw; exact Grew.re v 0 T
 replace h1 : BytesAt w a n := by subst hw; exact h1
 have HFL : Hid (Floor.low ≤ w.heap.size) := by subst hw; exact hfl
 clear hw hfl
 refine wpF_k (fun K hK => ?_)
 go_wp2_with fail
 refine wpF_k (fun K hK => ?_)
 by_cases hlong : 1048576 < n
 ·go_wp2_with fail
  exact ⟨rfl, _, resultsC_tmp (t := 2) rfl _, rfl, HG0.out⟩
 go_wp2_with fail
 clear hlong
 refine wpF_k (fun K hK => ?_)
 go_wp2_with fail
 refine (drawDoes_any a n c _ h1 hn hc).mono ?_
 rintro e w2 ⟨Th, x1, ad, y1, cd, ds, rfl, hE2, hT2, hsf, hda⟩
 have HGV : Hid (Grew v w2) := HG0.out.tr (Grew.of hE2)
 have HDA := hid hda
 have HD40 := hid hda.1
 have HGE : Hid (w2.cell? ⟨0, 0, none⟩ = some (.iface 176 (.agg #[.pointer (some ⟨1, 110, none⟩)]))) := HGV.out.cellT hg
 have HS3 : Hid (StT w2 w2.heap.size ⟨Th, []⟩ x1 none y1 0 (w2.alloc (.cells #[.slice x1 Th.length y1, .slice none 0 0] 26))) :=
  ⟨Grew.of (ext_alloc _ _), Nat.le_trans HFL.out ((Ext.tr hE2 (ext_alloc w2 (.cells #[.slice x1 Th.length y1, .slice none 0 0] 26))).size), Rec.new w2 _ _, ⟨hT2.ext (ext_alloc _ _), by simp, fun i hi => by simp at hi⟩, hsf⟩
 clear h1 hn hc hg hE2 hT2 hsf hda HG0 HFL
 go_wp2_with fail
 generalize w2.alloc (.cells #[.slice x1 Th.length y1, .slice none 0 0] 26) = w3 at HS3 ⊢
 refine wpF_0 (mw_mid (fun x z => (∃ b x1 x2 y1 y2, StT w2 w2.heap.size b x1 x2 y1 y2 z) ∧ ∃ p5 p7 p8 p9 p10 p11 p12 p13 p14 p15 p16, FrT (.pointer (some ⟨w2.heap.size, 0, none⟩)) (.slice ad ds.length cd) p5 p7 p8 p9 p10 p11 p12 p13 p14 p15 p16 x) (by kernel_rfl) (fun why h => by cases h) ?_ ?_)
 ·-- the deeds
  refine mw_seq_wp tamed rfl (by kernel_rfl) (by kernel_rfl) (fun why h => by cases h) (fun T1 => ?_)
  go_wp2
  refine mw_block (mw_loop (by kernel_rfl) (fun m x z => ∃ (k : Nat), k ≤ ds.length ∧ m = ds.length - k ∧ (∃ b x1 x2 y1 y2, StT w2 w2.heap.size b x1 x2 y1 y2 z) ∧ ∃ p7 p8 p9 p10 p11 p12 p13 p14 p15 p16, FrT (.pointer (some ⟨w2.heap.size, 0, none⟩)) (.slice ad ds.length cd) (.int .i64 (k : Int)) p7 p8 p9 p10 p11 p12 p13 p14 p15 p16 x) (fun m x z hI => ?_) ds.length ⟨0, Nat.zero_le _, rfl, ⟨_, _, _, _, _, HS3.out.on (Grew.re _ _ _)⟩, _, _, _, _, _, _, _, _, _, _, FrT.of rfl⟩)
  clear HS3
  obtain ⟨k, hk, rfl, ⟨b, x1, x2, y1, y2, hst⟩, p7, p8, p9, p10, p11, p12, p13, p14, p15, p16, u, rfl⟩ := hI
  refine mw_seq_wp tamed rfl (by kernel_rfl) (by kernel_rfl) (fun why h => by cases h) (fun T2 => ?_)
  have hs1 : StT w2 w2.heap.size b x1 x2 y1 y2 (World.re z 0 T2) := hst.on (Grew.re _ _ _)
  generalize World.re z 0 T2 = z1 at hs1 ⊢
  have HS1 := hid hs1
  have hd40 := HD40.out
  clear hs1 hst
  by_cases hlt : k < ds.length
  ·go_wp2_with fail
   refine mw_mid (fun x z => (∃ b x1 x2 y1 y2, StT w2 w2.heap.size b x1 x2 y1 y2 z) ∧ ∃ p7 p8 p9 p10 p11 p12 p13 p14 p15 p16, FrT (.pointer (some ⟨w2.heap.size, 0, none⟩)) (.slice ad ds.length cd) (.int .i64 (k : Int)) p7 p8 p9 p10 p11 p12 p13 p14 p15 p16 x) (by kernel_rfl) (fun why h => by cases h) (mw_block ?_) ?_
   ·refine mw_front tamed 5 rfl (by kernel_rfl) (by kernel_rfl) (fun T3 => ?_)
    have hs1 : StT w2 w2.heap.size b x1 x2 y1 y2 (World.re z1 0 T3) := HS1.out.on (Grew.re _ _ _)
    generalize World.re z1 0 T3 = z2 at hs1 ⊢
    obtain ⟨bo, oo, dl, dc, rfl, q0, q1, q2, hsl, hnl⟩ := (hs1.g.dos HDA.out).2 k _ (List.getElem?_eq_getElem hlt)
    generalize ds[k] = d at q0 q1 q2 hsl hnl
    have HS2 := hid hs1
    have c0 := hs1.rb.cell (i := 0) rfl
    have c1 := hs1.rb.cell (i := 1) rfl
    have hBz := hs1.rb.lt
    clear hs1 HS1
    refine wpF_k (fun K hK => ?_)
    go_wp2_with fail
    have HS3 := hid (HS2.out.on (Grew.of (ext_alloc z2 (.cells #[.int .i64 (d.kind : Int), .string (S d.name), .slice dl d.list.length dc] 31))))
    have HRD : Hid (Rec (z2.alloc (.cells #[.int .i64 (d.kind : Int), .string (S d.name), .slice dl d.list.length dc] 31)) z2.heap.size 31 [.int .i64 (d.kind : Int), .string (S d.name), .slice dl d.list.length dc]) := Rec.new z2 _ _
    have HSL := hid (hsl.ext (ext_alloc z2 (.cells #[.int .i64 (d.kind : Int), .string (S d.name), .slice dl d.list.length dc] 31)))
    clear HS2 c0 c1 q0 q1 q2 hsl
    generalize z2.alloc (.cells #[.int .i64 (d.kind : Int), .string (S d.name), .slice dl d.list.length dc] 31) = z3 at HS3 HRD HSL ⊢
    generalize z2.heap.size = D at HRD hBz ⊢
    refine wpF_k (fun K hK => ?_)
    have c0 := HS3.out.rb.cell (i := 0) rfl
    have c1 := HS3.out.rb.cell (i := 1) rfl
    go_wp2_with fail
    have eA := ext_alloc z3 (.cells #[.slice x1 b.things.length y1, .slice x2 b.batches.length y2] 26)
    have HRX : Hid (Rec (z3.alloc (.cells #[.slice x1 b.things.length y1, .slice x2 b.batches.length y2] 26)) z3.heap.size 26 [.slice x1 b.things.length y1, .slice x2 b.batches.length y2]) := Rec.new z3 _ _
    have hBbx : w2.heap.size < z3.heap.size := HS3.out.rb.lt
    have hDx : D < z3.heap.size := HRD.out.lt
    replace HS3 := hid (HS3.out.on (Grew.of eA))
    replace HRD := hid (HRD.out.ext eA)
    replace HSL := hid (HSL.out.ext eA)
    clear eA c0 c1
    generalize z3.alloc (.cells #[.slice x1 b.things.length y1, .slice x2 b.batches.length y2] 26) = z4 at HS3 HRD HSL HRX ⊢
    generalize z3.heap.size = Bx at HRX hBbx hDx ⊢
    refine wpF_k (fun K hK => ?_)
    have c0 := HS3.out.rb.cell (i := 0) rfl
    have c1 := HS3.out.rb.cell (i := 1) rfl
    go_wp2_with fail
    have eA := ext_alloc z4 (.cells #[.slice x1 b.things.length y1, .slice x2 b.batches.length y2] 26)
    have HRW : Hid (Rec (z4.alloc (.cells #[.slice x1 b.things.length y1, .slice x2 b.batches.length y2] 26)) z4.heap.size 26 [.slice x1 b.things.length y1, .slice x2 b.batches.length y2]) := Rec.new z4 _ _
    have hBxw : Bx < z4.heap.size := HRX.out.lt
    have hDw : D < z4.heap.size := HRD.out.lt
    have hBbw : w2.heap.size < z4.heap.size := HS3.out.rb.lt
    replace HS3 := hid (HS3.out.on (Grew.of eA))
    replace HRD := hid (HRD.out.ext eA)
    replace HSL := hid (HSL.out.ext eA)
    replace HRX := hid (HRX.out.ext eA)
    clear eA c0 c1
    generalize z4.alloc (.cells #[.slice x1 b.things.length y1, .slice x2 b.batches.length y2] 26) = z5 at HS3 HRD HSL HRX HRW ⊢
    generalize z4.heap.size = Bw at HRW hBxw hDw hBbw ⊢
    refine wpF_k (fun K hK => ?_)
    go_wp2_with fail
    refine wpF_k (fun K hK => ?_)
    go_wp2_with fail
    refine wpF_0 (mw_mid (fun x z => (∃ B kc, (∃ g1 g2 s1 s2 e1 e2 t1 t2, StX w2 w2.heap.size b B kc x1 x2 g1 g2 s1 s2 y1 y2 e1 e2 t1 t2 Bx Bw z) ∧ ∃ p11 p12 p13 p14 p15 p16, FrT (.pointer (some ⟨w2.heap.size, 0, none⟩)) (.slice (some ⟨bo, oo, none⟩) ds.length cd) (.int .i64 (k : Int)) (.pointer (some ⟨Bx, 0, none⟩)) (.pointer (some ⟨Bw, 0, none⟩)) (.int .i64 (kc : Int)) (.int .i64 (kc : Int)) p11 p12 p13 p14 p15 p16 x)) (by kernel_rfl) (fun why h => by cases h) ?_ ?_)
    ·refine mw_wp tamed rfl (by kernel_rfl) (fun T4 => ?_)
     have HS6 : Hid (StT w2 w2.heap.size b x1 x2 y1 y2 (World.re z5 0 T4)) := HS3.out.on (Grew.re _ _ _)
     replace HRD : Hid (Rec (World.re z5 0 T4) D 31 [.int .i64 (d.kind : Int), .string (S d.name), .slice dl d.list.length dc]) := HRD.out
     replace HSL : Hid (StrsAt (World.re z5 0 T4) dl d.list) := HSL.out
     replace HRX : Hid (Rec (World.re z5 0 T4) Bx 26 [.slice x1 b.things.length y1, .slice x2 b.batches.length y2]) := HRX.out
     replace HRW : Hid (Rec (World.re z5 0 T4) Bw 26 [.slice x1 b.things.length y1, .slice x2 b.batches.length y2]) := HRW.out
     clear HS3
     generalize World.re z5 0 T4 = z6 at HS6 HRD HSL HRX HRW ⊢
     have c0 := HS6.out.rb.cell (i := 0) rfl
     have c1 := HS6.out.rb.cell (i := 1) rfl
     have d0 := HRD.out.cell (i := 0) rfl
     have d1 := HRD.out.cell (i := 1) rfl
     have d2 := HRD.out.cell (i := 2) rfl
     by_cases hk1 : d.kind = 1
     ·have hk1' : ((d.kind : Int) == 1) = true := by rw [hk1]; rfl
      clear hk1
      have HDE : Hid (Deed b (enterB b d.name d.list).1 (enterB b d.name d.list).2) := deed_enter HS6.out.safe d.name d.list
      have HBL : Hid ((enterB b d.name d.list).1.batches.length ≤ 2199023255552) := by
       show _ ≤ _
       have := ok_five HDE.out.ok; omega
      have HSP : Hid (∀ w, BookAt w x1 x2 b → StrsAt w dl d.list → Calls Qry.prog 9 #[.agg #[.slice x1 b.things.length y1, .slice x2 b.batches.length y2], .string (S d.name), .slice dl d.list.length dc] w fun e w' =>
        ∃ a1 c1 a2 c2, e = .returned (.tuple #[.agg #[.slice a1 (enterB b d.name d.list).1.things.length c1, .slice a2 (enterB b d.name d.list).1.batches.length c2], .int .i64 (((enterB b d.name d.list).2 : Nat) : Int)]) ∧ Ext w w' ∧ BookAt w' a1 a2 (enterB b d.name d.list).1) := fun w h1 h2 => specEnter_any b d.name d.list x1 x2 dl y1 y2 dc w h1 hnl h2
      go_wp2_with fail
      refine (implEnter_any b d.name d.list x1 x2 dl y1 y2 dc z6 HS6.out.book HSL.out hnl (HS6.out.g.cellT HGE.out)).mono ?_
      rintro e z7 ⟨v1, v2, rs, rfl, hE7, hO7⟩
      generalize (enterB b d.name d.list).1 = B at *
      generalize (enterB b d.name d.list).2 = kc at *
      obtain ⟨g1, e1, g2, e2, rfl, rfl, hat7⟩ := hO7.at HBL.out
      have hrx := HRX.out.ext hE7
      have f0 := hrx.frozen 0
      have f1 := hrx.frozen 1
      have r0 := hrx.cell (i := 0) rfl
      have r1 := hrx.cell (i := 1) rfl
      have HSA := hid (((HS6.out.on (Grew.of hE7)).box2 (j1 := g1) (n1 := B.things.length) (m := e1) (j2 := g2) (n2 := B.batches.length) (k := e2) hrx (by omega) (by omega)))
      have HXA : Hid (Rec ((z7.setCell ⟨Bx, 0, none⟩ (.slice g1 B.things.length e1)).setCell ⟨Bx, 1, none⟩ (.slice g2 B.batches.length e2)) Bx 26 [.slice g1 B.things.length e1, .slice g2 B.batches.length e2]) := (hrx.set 0 _).set 1 _
      have HWA := hid ((HRW.out.ext hE7).other2 (X := Bx) (by omega) (.slice g1 B.things.length e1) (.slice g2 B.batches.length e2))
      have HDA2 := hid ((HRD.out.ext hE7).other2 (X := Bx) (by omega) (.slice g1 B.things.length e1) (.slice g2 B.batches.length e2))
      have HBA := hid (hat7.box2 (j1 := g1) (n1 := B.things.length) (m := e1) (j2 := g2) (n2 := B.batches.length) (k := e2) hrx)
      have HLA := hid ((HSL.out.ext hE7).box2 (j1 := g1) (n1 := B.things.length) (m := e1) (j2 := g2) (n2 := B.batches.length) (k := e2) hrx)
      have a0 := HSA.out.rb.cell (i := 0) rfl
      have a1 := HSA.out.rb.cell (i := 1) rfl
      have dd1 := HDA2.out.cell (i := 1) rfl
      have dd2 := HDA2.out.cell (i := 2) rfl
      clear hE7 hO7 hat7 hrx c0 c1 d0 d1 d2 HS6 HRX HRD HSL HRW
      go_wp2_with fail
      clear f0 f1 r0 r1 a0 a1 dd1 dd2
      generalize (z7.setCell ⟨Bx, 0, none⟩ (.slice g1 B.things.length e1)).setCell ⟨Bx, 1, none⟩ (.slice g2 B.batches.length e2) = z8 at HSA HXA HWA HDA2 HBA HLA ⊢
      refine (HSP.out z8 HSA.out.book HLA.out).mono ?_
      rintro e z9 ⟨s1, t1, s2, t2, rfl, hE9, hw9⟩
      have hrw := HWA.out.ext hE9
      have f0 := hrw.frozen 0
      have f1 := hrw.frozen 1
      have r0 := hrw.cell (i := 0) rfl
      have r1 := hrw.cell (i := 1) rfl
      have HFX : Hid (StX w2 w2.heap.size b B kc x1 x2 g1 g2 s1 s2 y1 y2 e1 e2 t1 t2 Bx Bw ((z9.setCell ⟨Bw, 0, none⟩ (.slice s1 B.things.length t1)).setCell ⟨Bw, 1, none⟩ (.slice s2 B.batches.length t2))) :=
       ⟨(HSA.out.on (Grew.of hE9)).box2 hrw (by omega) (by omega), (HXA.out.ext hE9).other2 (by omega) _ _, (hrw.set 0 _).set 1 _, (HBA.out.ext hE9).box2 hrw, hw9.box2 hrw, HDE.out⟩
      clear hE9 hw9 hrw HSA HXA HWA HDA2 HBA HLA HSP HBL HDE
      go_wp2_with fail
      exact ⟨B, kc, ⟨g1, g2, s1, s2, e1, e2, t1, t2, HFX.out⟩, _, _, _, _, _, _, FrT.of rfl⟩
     have hk1' : ((d.kind : Int) == 1) = false := by rw [beq_eq_false_iff_ne]; omega
     by_cases hk2 : d.kind = 2
     ·have hk2' : ((d.kind : Int) == 2) = true := by rw [hk2]; rfl
      clear hk1 hk2
      have HDE : Hid (Deed b (askB b d.name d.list).1 (askB b d.name d.list).2) := deed_ask HS6.out.safe d.name d.list
      have HBL : Hid ((askB b d.name d.list).1.batches.length ≤ 2199023255552) := by
       show _ ≤ _
       have := ok_five HDE.out.ok; omega
      have HSP : Hid (∀ w, BookAt w x1 x2 b → StrsAt w dl d.list → Calls Qry.prog 11 #[.agg #[.slice x1 b.things.length y1, .slice x2 b.batches.length y2], .string (S d.name), .slice dl d.list.length dc] w fun e w' =>
        ∃ a1 c1 a2 c2, e = .returned (.tuple #[.agg #[.slice a1 (askB b d.name d.list).1.things.length c1, .slice a2 (askB b d.name d.list).1.batches.length c2], .int .i64 (((askB b d.name d.list).2 : Nat) : Int)]) ∧ Ext w w' ∧ BookAt w' a1 a2 (askB b d.name d.list).1) := fun w h1 h2 => specAsk_any b d.name d.list x1 x2 dl y1 y2 dc w h1 h2
      go_wp2_with fail
      refine (implAsk_any b d.name d.list x1 x2 dl y1 y2 dc z6 HS6.out.book HSL.out (HS6.out.g.cellT HGE.out)).mono ?_
      rintro e z7 ⟨v1, v2, rs, rfl, hE7, hO7⟩
      generalize (askB b d.name d.list).1 = B at *
      generalize (askB b d.name d.list).2 = kc at *
      obtain ⟨g1, e1, g2, e2, rfl, rfl, hat7⟩ := hO7.at HBL.out
      have hrx := HRX.out.ext hE7
      have f0 := hrx.frozen 0
      have f1 := hrx.frozen 1
      have r0 := hrx.cell (i := 0) rfl
      have r1 := hrx.cell (i := 1) rfl
      have HSA := hid (((HS6.out.on (Grew.of hE7)).box2 (j1 := g1) (n1 := B.things.length) (m := e1) (j2 := g2) (n2 := B.batches.length) (k := e2) hrx (by omega) (by omega)))
      have HXA : Hid (Rec ((z7.setCell ⟨Bx, 0, none⟩ (.slice g1 B.things.length e1)).setCell ⟨Bx, 1, none⟩ (.slice g2 B.batches.length e2)) Bx 26 [.slice g1 B.things.length e1, .slice g2 B.batches.length e2]) := (hrx.set 0 _).set 1 _
      have HWA := hid ((HRW.out.ext hE7).other2 (X := Bx) (by omega) (.slice g1 B.things.length e1) (.slice g2 B.batches.length e2))
      have HDA2 := hid ((HRD.out.ext hE7).other2 (X := Bx) (by omega) (.slice g1 B.things.length e1) (.slice g2 B.batches.length e2))
      have HBA := hid (hat7.box2 (j1 := g1) (n1 := B.things.length) (m := e1) (j2 := g2) (n2 := B.batches.length) (k := e2) hrx)
      have HLA := hid ((HSL.out.ext hE7).box2 (j1 := g1) (n1 := B.things.length) (m := e1) (j2 := g2) (n2 := B.batches.length) (k := e2) hrx)
      have a0 := HSA.out.rb.cell (i := 0) rfl
      have a1 := HSA.out.rb.cell (i := 1) rfl
      have dd1 := HDA2.out.cell (i := 1) rfl
      have dd2 := HDA2.out.cell (i := 2) rfl
      clear hE7 hO7 hat7 hrx c0 c1 d0 d1 d2 HS6 HRX HRD HSL HRW
      go_wp2_with fail
      clear f0 f1 r0 r1 a0 a1 dd1 dd2
      generalize (z7.setCell ⟨Bx, 0, none⟩ (.slice g1 B.things.length e1)).setCell ⟨Bx, 1, none⟩ (.slice g2 B.batches.length e2) = z8 at HSA HXA HWA HDA2 HBA HLA ⊢
      refine (HSP.out z8 HSA.out.book HLA.out).mono ?_
      rintro e z9 ⟨s1, t1, s2, t2, rfl, hE9, hw9⟩
      have hrw := HWA.out.ext hE9
      have f0 := hrw.frozen 0
      have f1 := hrw.frozen 1
      have r0 := hrw.cell (i := 0) rfl
      have r1 := hrw.cell (i := 1) rfl
      have HFX : Hid (StX w2 w2.heap.size b B kc x1 x2 g1 g2 s1 s2 y1 y2 e1 e2 t1 t2 Bx Bw ((z9.setCell ⟨Bw, 0, none⟩ (.slice s1 B.things.length t1)).setCell ⟨Bw, 1, none⟩ (.slice s2 B.batches.length t2))) :=
       ⟨(HSA.out.on (Grew.of hE9)).box2 hrw (by omega) (by omega), (HXA.out.ext hE9).other2 (by omega) _ _, (hrw.set 0 _).set 1 _, (HBA.out.ext hE9).box2 hrw, hw9.box2 hrw, HDE.out⟩
      clear hE9 hw9 hrw HSA HXA HWA HDA2 HBA HLA HSP HBL HDE
      go_wp2_with fail
      exact ⟨B, kc, ⟨g1, g2, s1, s2, e1, e2, t1, t2, HFX.out⟩, _, _, _, _, _, _, FrT.of rfl⟩
     have hk2' : ((d.kind : Int) == 2) = false := by rw [beq_eq_false_iff_ne]; omega
     by_cases hk3 : d.kind = 3
     ·have hk3' : ((d.kind : Int) == 3) = true := by rw [hk3]; rfl
      clear hk1 hk2 hk3
      have HDE : Hid (Deed b (lessB b d.name d.list).1 (lessB b d.name d.list).2) := deed_less HS6.out.safe d.name d.list
      have HBL : Hid ((lessB b d.name d.list).1.batches.length ≤ 2199023255552) := by
       show _ ≤ _
       have := ok_five HDE.out.ok; omega
      have HSP : Hid (∀ w, BookAt w x1 x2 b → StrsAt w dl d.list → Calls Qry.prog 13 #[.agg #[.slice x1 b.things.length y1, .slice x2 b.batches.length y2], .string (S d.name), .slice dl d.list.length dc] w fun e w' =>
        ∃ a1 c1 a2 c2, e = .returned (.tuple #[.agg #[.slice a1 (lessB b d.name d.list).1.things.length c1, .slice a2 (lessB b d.name d.list).1.batches.length c2], .int .i64 (((lessB b d.name d.list).2 : Nat) : Int)]) ∧ Ext w w' ∧ BookAt w' a1 a2 (lessB b d.name d.list).1) := fun w h1 h2 => specLess_any b d.name d.list x1 x2 dl y1 y2 dc w h1 h2
      go_wp2_with fail
      refine (implLess_any b d.name d.list x1 x2 dl y1 y2 dc z6 HS6.out.book HSL.out (HS6.out.g.cellT HGE.out)).mono ?_
      rintro e z7 ⟨v1, v2, rs, rfl, hE7, hO7⟩
      generalize (lessB b d.name d.list).1 = B at *
      generalize (lessB b d.name d.list).2 = kc at *
      obtain ⟨g1, e1, g2, e2, rfl, rfl, hat7⟩ := hO7.at HBL.out
      have hrx := HRX.out.ext hE7
      have f0 := hrx.frozen 0
      have f1 := hrx.frozen 1
      have r0 := hrx.cell (i := 0) rfl
      have r1 := hrx.cell (i := 1) rfl
      have HSA := hid (((HS6.out.on (Grew.of hE7)).box2 (j1 := g1) (n1 := B.things.length) (m := e1) (j2 := g2) (n2 := B.batches.length) (k := e2) hrx (by omega) (by omega)))
      have HXA : Hid (Rec ((z7.setCell ⟨Bx, 0, none⟩ (.slice g1 B.things.length e1)).setCell ⟨Bx, 1, none⟩ (.slice g2 B.batches.length e2)) Bx 26 [.slice g1 B.things.length e1, .slice g2 B.batches.length e2]) := (hrx.set 0 _).set 1 _
      have HWA := hid ((HRW.out.ext hE7).other2 (X := Bx) (by omega) (.slice g1 B.things.length e1) (.slice g2 B.batches.length e2))
      have HDA2 := hid ((HRD.out.ext hE7).other2 (X := Bx) (by omega) (.slice g1 B.things.length e1) (.slice g2 B.batches.length e2))
      have HBA := hid (hat7.box2 (j1 := g1) (n1 := B.things.length) (m := e1) (j2 := g2) (n2 := B.batches.length) (k := e2) hrx)
      have HLA := hid ((HSL.out.ext hE7).box2 (j1 := g1) (n1 := B.things.length) (m := e1) (j2 := g2) (n2 := B.batches.length) (k := e2) hrx)
      have a0 := HSA.out.rb.cell (i := 0) rfl
      have a1 := HSA.out.rb.cell (i := 1) rfl
      have dd1 := HDA2.out.cell (i := 1) rfl
      have dd2 := HDA2.out.cell (i := 2) rfl
      clear hE7 hO7 hat7 hrx c0 c1 d0 d1 d2 HS6 HRX HRD HSL HRW
      go_wp2_with fail
      clear f0 f1 r0 r1 a0 a1 dd1 dd2
      generalize (z7.setCell ⟨Bx, 0, none⟩ (.slice g1 B.things.length e1)).setCell ⟨Bx, 1, none⟩ (.slice g2 B.batches.length e2) = z8 at HSA HXA HWA HDA2 HBA HLA ⊢
      refine (HSP.out z8 HSA.out.book HLA.out).mono ?_
      rintro e z9 ⟨s1, t1, s2, t2, rfl, hE9, hw9⟩
      have hrw := HWA.out.ext hE9
      have f0 := hrw.frozen 0
      have f1 := hrw.frozen 1
      have r0 := hrw.cell (i := 0) rfl
      have r1 := hrw.cell (i := 1) rfl
      have HFX : Hid (StX w2 w2.heap.size b B kc x1 x2 g1 g2 s1 s2 y1 y2 e1 e2 t1 t2 Bx Bw ((z9.setCell ⟨Bw, 0, none⟩ (.slice s1 B.things.length t1)).setCell ⟨Bw, 1, none⟩ (.slice s2 B.batches.length t2))) :=
       ⟨(HSA.out.on (Grew.of hE9)).box2 hrw (by omega) (by omega), (HXA.out.ext hE9).other2 (by omega) _ _, (hrw.set 0 _).set 1 _, (HBA.out.ext hE9).box2 hrw, hw9.box2 hrw, HDE.out⟩
      clear hE9 hw9 hrw HSA HXA HWA HDA2 HBA HLA HSP HBL HDE
      go_wp2_with fail
      exact ⟨B, kc, ⟨g1, g2, s1, s2, e1, e2, t1, t2, HFX.out⟩, _, _, _, _, _, _, FrT.of rfl⟩
     have hk3' : ((d.kind : Int) == 3) = false := by rw [beq_eq_false_iff_ne]; omega
     clear hk1 hk2 hk3
     have HDE : Hid (Deed b (leaveB b d.name).1 (leaveB b d.name).2) := deed_leave HS6.out.safe d.name
     have HBL : Hid ((leaveB b d.name).1.batches.length ≤ 2199023255552) := by
      show _ ≤ _
      have := ok_five HDE.out.ok; omega
     have HSP : Hid (∀ w, BookAt w x1 x2 b → StrsAt w dl d.list → Calls Qry.prog 15 #[.agg #[.slice x1 b.things.length y1, .slice x2 b.batches.length y2], .string (S d.name)] w fun e w' =>
       ∃ a1 c1 a2 c2, e = .returned (.tuple #[.agg #[.slice a1 (leaveB b d.name).1.things.length c1, .slice a2 (leaveB b d.name).1.batches.length c2], .int .i64 (((leaveB b d.name).2 : Nat) : Int)]) ∧ Ext w w' ∧ BookAt w' a1 a2 (leaveB b d.name).1) := fun w h1 _ => specLeave_any b d.name x1 x2 y1 y2 w h1
     go_wp2_with fail
     refine (implLeave_any b d.name x1 x2 y1 y2 z6 HS6.out.book (HS6.out.g.cellT HGE.out)).mono ?_
     rintro e z7 ⟨v1, v2, rs, rfl, hE7, hO7⟩
     generalize (leaveB b d.name).1 = B at *
     generalize (leaveB b d.name).2 = kc at *
     obtain ⟨g1, e1, g2, e2, rfl, rfl, hat7⟩ := hO7.at HBL.out
     have hrx := HRX.out.ext hE7
     have f0 := hrx.frozen 0
     have f1 := hrx.frozen 1
     have r0 := hrx.cell (i := 0) rfl
     have r1 := hrx.cell (i := 1) rfl
     have HSA := hid (((HS6.out.on (Grew.of hE7)).box2 (j1 := g1) (n1 := B.things.length) (m := e1) (j2 := g2) (n2 := B.batches.length) (k := e2) hrx (by omega) (by omega)))
     have HXA : Hid (Rec ((z7.setCell ⟨Bx, 0, none⟩ (.slice g1 B.things.length e1)).setCell ⟨Bx, 1, none⟩ (.slice g2 B.batches.length e2)) Bx 26 [.slice g1 B.things.length e1, .slice g2 B.batches.length e2]) := (hrx.set 0 _).set 1 _
     have HWA := hid ((HRW.out.ext hE7).other2 (X := Bx) (by omega) (.slice g1 B.things.length e1) (.slice g2 B.batches.length e2))
     have HDA2 := hid ((HRD.out.ext hE7).other2 (X := Bx) (by omega) (.slice g1 B.things.length e1) (.slice g2 B.batches.length e2))
     have HBA := hid (hat7.box2 (j1 := g1) (n1 := B.things.length) (m := e1) (j2 := g2) (n2 := B.batches.length) (k := e2) hrx)
     have HLA := hid ((HSL.out.ext hE7).box2 (j1 := g1) (n1 := B.things.length) (m := e1) (j2 := g2) (n2 := B.batches.length) (k := e2) hrx)
     have a0 := HSA.out.rb.cell (i := 0) rfl
     have a1 := HSA.out.rb.cell (i := 1) rfl
     have dd1 := HDA2.out.cell (i := 1) rfl
     clear hE7 hO7 hat7 hrx c0 c1 d0 d1 d2 HS6 HRX HRD HSL HRW
     go_wp2_with fail
     clear f0 f1 r0 r1 a0 a1 dd1
     generalize (z7.setCell ⟨Bx, 0, none⟩ (.slice g1 B.things.length e1)).setCell ⟨Bx, 1, none⟩ (.slice g2 B.batches.length e2) = z8 at HSA HXA HWA HDA2 HBA HLA ⊢
     refine (HSP.out z8 HSA.out.book HLA.out).mono ?_
     rintro e z9 ⟨s1, t1, s2, t2, rfl, hE9, hw9⟩
     have hrw := HWA.out.ext hE9
     have f0 := hrw.frozen 0
     have f1 := hrw.frozen 1
     have r0 := hrw.cell (i := 0) rfl
     have r1 := hrw.cell (i := 1) rfl
     have HFX : Hid (StX w2 w2.heap.size b B kc x1 x2 g1 g2 s1 s2 y1 y2 e1 e2 t1 t2 Bx Bw ((z9.setCell ⟨Bw, 0, none⟩ (.slice s1 B.things.length t1)).setCell ⟨Bw, 1, none⟩ (.slice s2 B.batches.length t2))) :=
      ⟨(HSA.out.on (Grew.of hE9)).box2 hrw (by omega) (by omega), (HXA.out.ext hE9).other2 (by omega) _ _, (hrw.set 0 _).set 1 _, (HBA.out.ext hE9).box2 hrw, hw9.box2 hrw, HDE.out⟩
     clear hE9 hw9 hrw HSA HXA HWA HDA2 HBA HLA HSP HBL HDE
     go_wp2_with fail
     exact ⟨B, kc, ⟨g1, g2, s1, s2, e1, e2, t1, t2, HFX.out⟩, _, _, _, _, _, _, FrT.of rfl⟩
    ·rintro x z ⟨B, kc, ⟨g1, g2, s1, s2, e1, e2, t1, t2, hsx⟩, p11, p12, p13, p14, p15, p16, u, rfl⟩
     clear HS3 HRD HSL HRX HRW
     have HDD := hid hsx.deed
     have hstk := top_stuck hsx.deed.safe
     refine mw_seq (by kernel_rfl) (fun why h => by cases h) (mw_seq (by kernel_rfl) (fun why h => by cases h) (mw_region ?_))
     refine mo_list tamed [0, 1, 2, 3, 4, 5, 6, 7, 8, 9, 10, 11, 12, 13, 14, 15, 16, 17, 18, 19, 20] [21, 22, 23, 24, 25, 26, 27, 28, 29, 30, 31, 32] rfl (by kernel_rfl) (by kernel_rfl) (fun T5 => ?_)
     simp only [List.filterMap, List.getElem?_toArray, List.getElem?_cons_zero, List.getElem?_cons_succ]
     have hs1 : StX w2 w2.heap.size b B kc x1 x2 g1 g2 s1 s2 y1 y2 e1 e2 t1 t2 Bx Bw (World.re z 0 T5) := hsx.on (Grew.re _ _ _)
     generalize World.re z 0 T5 = z1 at hs1 ⊢
     have HSX := hid hs1
     have r0 := hs1.rx.cell (i := 0) rfl
     have r1 := hs1.rx.cell (i := 1) rfl
     have q0 := hs1.rw.cell (i := 0) rfl
     have q1 := hs1.rw.cell (i := 1) rfl
     have hbok := hs1.deed.ok
     have hbsf := hs1.deed.safe
     have HBO := hid hbok
     have HBS := hid hbsf
     clear hs1 hsx hbok hbsf
     go_wp2_with (first | (go_at_call 16; refine (wBook_same B g1 g2 s1 s2 e1 e2 t1 t2 z1 HSX.out.out HSX.out.want).mono ?_; rintro e za ⟨rfl, hEa⟩; replace r0 := hEa.keep r0; replace r1 := hEa.keep r1) | (go_at_call 17; refine (implBookOk_any B g1 g2 e1 e2 za (HSX.out.out.ext hEa)).mono ?_; rintro e zb ⟨rfl, hEb⟩; rw [HBO.out]; replace r0 := hEb.keep r0; replace r1 := hEb.keep r1) | (go_at_call 18; refine (implSafe_any B g1 g2 e1 e2 zb ((HSX.out.out.ext hEa).ext hEb)).mono ?_; rintro e zc ⟨rfl, hEc⟩; rw [HBS.out]; replace r0 := hEc.keep r0; replace r1 := hEc.keep r1))
     have HSY := hid (HSX.out.on (Grew.of (Ext.tr hEa (Ext.tr hEb hEc))))
     clear hEa hEb hEc HSX r0 r1 q0 q1
     refine mo_call (by kernel_rfl) rfl rfl rfl rfl (by simp [Act.eval]) (stuck_m B g1 g2 e1 e2 zc HSY.out.out HSY.out.st.low) (fun r z2 hr => ?_)
     obtain ⟨hG2, rfl⟩ := hr
     rw [hstk]
     have HSZ := hid (HSY.out.on hG2)
     clear hG2 HSY
     walk_nrm
     refine mo_list tamed [22, 23, 24, 25, 26, 27, 28, 29, 30, 31, 32] [] rfl (by kernel_rfl) (by kernel_rfl) (fun T6 => ?_)
     simp only [List.filterMap, List.getElem?_toArray, List.getElem?_cons_zero, List.getElem?_cons_succ]
     have hs1 : StX w2 w2.heap.size b B kc x1 x2 g1 g2 s1 s2 y1 y2 e1 e2 t1 t2 Bx Bw (World.re z2 0 T6) := HSZ.out.on (Grew.re _ _ _)
     generalize World.re z2 0 T6 = z3 at hs1 ⊢
     have HSX := hid hs1
     have r0 := hs1.rx.cell (i := 0) rfl
     have r1 := hs1.rx.cell (i := 1) rfl
     have c0 := hs1.st.rb.cell (i := 0) rfl
     have c1 := hs1.st.rb.cell (i := 1) rfl
     have f0 := hs1.st.rb.frozen 0
     have f1 := hs1.st.rb.frozen 1
     clear hs1 HSZ f0 f1
     by_cases hkc : kc = 0
     ·subst hkc
      go_wp2
      have HSE := HSX
      clear HSX r0 r1 c0 c1
      refine mo_nil ?_
      change MW _ _ _ _ _
      refine mw_cond (t := false) rfl ?_
      refine mw_skip ?_
      change MW _ _ _ _ _
      refine mw_wp tamed rfl (by kernel_rfl) (fun T7 => ?_)
      have hs1 : StX w2 w2.heap.size b B 0 x1 x2 g1 g2 s1 s2 y1 y2 e1 e2 t1 t2 Bx Bw (World.re z3 0 T7) := HSE.out.on (Grew.re _ _ _)
      generalize World.re z3 0 T7 = z5 at hs1 ⊢
      have r0 := hs1.rx.cell (i := 0) rfl
      have r1 := hs1.rx.cell (i := 1) rfl
      have c0 := hs1.st.rb.cell (i := 0) rfl
      have c1 := hs1.st.rb.cell (i := 1) rfl
      have f0 := hs1.st.rb.frozen 0
      have f1 := hs1.st.rb.frozen 1
      have HPT := hid (hs1.st.put (e1 := e1) (e2 := e2) (Nat.le_refl _) hs1.out hs1.deed.safe)
      clear hs1 HSE
      go_wp2_with fail
      exact ⟨rfl, ⟨B, g1, g2, e1, e2, HPT.out⟩, _, _, _, _, _, _, _, _, _, _, FrT.of rfl⟩
     ·have hkc' : ((kc : Int) == 0) = false := by rw [beq_eq_false_iff_ne]; omega
      have hkc1 : ((kc : Int) != 0) = true := by simp; omega
      have hkc2 : ¬ ((kc : Int) = 0) := by omega
      have hBb := HDD.out.same hkc
      have HBB : Hid (BookAt z3 g1 g2 b) := by
       have h := HSX.out.out
       rw [hBb] at h; exact h
      have r0' : z3.cell? ⟨Bx, 0, none⟩ = some (.slice g1 b.things.length e1) := by rw [← hBb]; exact r0
      have r1' : z3.cell? ⟨Bx, 1, none⟩ = some (.slice g2 b.batches.length e2) := by rw [← hBb]; exact r1
      clear hBb r0 r1
      go_wp2_with (go_at_call 16; refine (wBook_same b g1 g2 x1 x2 e1 e2 y1 y2 z3 HBB.out HSX.out.st.book).mono ?_; rintro e z4 ⟨rfl, hE4⟩)
      have HSE := hid (HSX.out.on (Grew.of hE4))
      clear HSX hE4 r0' r1' c0 c1 HBB
      refine mo_nil ?_
      change MW _ _ _ _ _
      refine mw_cond (t := false) rfl ?_
      refine mw_skip ?_
      change MW _ _ _ _ _
      refine mw_wp tamed rfl (by kernel_rfl) (fun T7 => ?_)
      have hs1 : StX w2 w2.heap.size b B kc x1 x2 g1 g2 s1 s2 y1 y2 e1 e2 t1 t2 Bx Bw (World.re z4 0 T7) := HSE.out.on (Grew.re _ _ _)
      generalize World.re z4 0 T7 = z5 at hs1 ⊢
      have r0 := hs1.rx.cell (i := 0) rfl
      have r1 := hs1.rx.cell (i := 1) rfl
      have c0 := hs1.st.rb.cell (i := 0) rfl
      have c1 := hs1.st.rb.cell (i := 1) rfl
      have f0 := hs1.st.rb.frozen 0
      have f1 := hs1.st.rb.frozen 1
      have HPT := hid (hs1.st.put (e1 := e1) (e2 := e2) (Nat.le_refl _) hs1.out hs1.deed.safe)
      clear hs1 HSE
      go_wp2_with fail
      exact ⟨rfl, ⟨B, g1, g2, e1, e2, HPT.out⟩, _, _, _, _, _, _, _, _, _, _, FrT.of rfl⟩
   ·-- the next deed
    rintro x z ⟨⟨b', x1', x2', y1', y2', hst⟩, p7, p8, p9, p10, p11, p12, p13, p14, p15, p16, u, rfl⟩
    refine mw_wp tamed rfl (by kernel_rfl) (fun T8 => ?_)
    have HSN := hid (hst.on (Grew.re z 0 T8))
    clear hst
    have hkb : k < 40 := by omega
    go_wp2
    have hcast : ((k : Int) + 1) = ((k + 1 : Nat) : Int) := by omega
    try rw [hcast]
    exact ⟨ds.length - (k + 1), by omega, k + 1, by omega, rfl, ⟨b', x1', x2', y1', y2', HSN.out⟩, _, _, _, _, _, _, _, _, _, _, FrT.of rfl⟩
  ·go_wp2_with fail
   exact ⟨rfl, ⟨b, x1, x2, y1, y2, HS1.out⟩, _, _, _, _, _, _, _, _, _, _, _, FrT.of rfl⟩
 ·-- those who go
  rintro x z ⟨⟨b, x1, x2, y1, y2, hst⟩, p5, p7, p8, p9, p10, p11, p12, p13, p14, p15, p16, u, rfl⟩
  clear HS3
  have h5 := ok_five (safe_ok hst.safe)
  refine mw_mid (fun x z => (∃ b, (∃ x1 x2 y1 y2, StT w2 w2.heap.size b x1 x2 y1 y2 z) ∧ b.batches.length = 0) ∧ ∃ p4 p5 p7 p8 p9 p10 p11 p12 p13 p14 p15 p16, FrT (.pointer (some ⟨w2.heap.size, 0, none⟩)) p4 p5 p7 p8 p9 p10 p11 p12 p13 p14 p15 p16 x) (by kernel_rfl) (fun why h => by cases h) ?_ ?_
  ·refine mw_seq_wp tamed rfl (by kernel_rfl) (by kernel_rfl) (fun why h => by cases h) (fun T1 => ?_)
   have hs1 := hst.on (Grew.re z 0 T1)
   generalize World.re z 0 T1 = z1 at hs1 ⊢
   have c0 := hs1.rb.cell (i := 0) rfl
   have c1 := hs1.rb.cell (i := 1) rfl
   have HS1 := hid hs1
   clear hst hs1
   go_wp2_with fail
   refine mw_block (mw_loop (by kernel_rfl) (fun m x z => m ≤ 5 ∧ (∃ b, (∃ x1 x2 y1 y2, StT w2 w2.heap.size b x1 x2 y1 y2 z) ∧ b.batches.length = m) ∧ ∃ p4 p5 p7 p8 p9 p10 p12 p13 p14 p15 p16, FrT (.pointer (some ⟨w2.heap.size, 0, none⟩)) p4 p5 p7 p8 p9 p10 (.int .i64 (m : Int)) p12 p13 p14 p15 p16 x) (fun m x z hI => ?_) b.batches.length ⟨h5, ⟨b, ⟨x1, x2, y1, y2, HS1.out⟩, rfl⟩, _, _, _, _, _, _, _, _, _, _, _, FrT.of rfl⟩)
   clear HS1 c0 c1 h5
   obtain ⟨hm5, ⟨b, ⟨x1, x2, y1, y2, hst⟩, hbl⟩, p4, p5, p7, p8, p9, p10, p12, p13, p14, p15, p16, u, rfl⟩ := hI
   refine mw_seq_wp tamed rfl (by kernel_rfl) (by kernel_rfl) (fun why h => by cases h) (fun T2 => ?_)
   have HS1 := hid (hst.on (Grew.re z 0 T2))
   have HBL := hid hbl
   clear hst hbl
   generalize World.re z 0 T2 = z1 at HS1 ⊢
   by_cases hm0 : 0 < m
   ·have hmi : (0 : Int) < (m : Int) := by omega
    go_wp2_with fail
    refine mw_mid (fun x z => (∃ b, (∃ x1 x2 y1 y2, StT w2 w2.heap.size b x1 x2 y1 y2 z) ∧ b.batches.length + 1 = m) ∧ ∃ p4 p5 p7 p8 p9 p10 p12 p13 p14 p15 p16, FrT (.pointer (some ⟨w2.heap.size, 0, none⟩)) p4 p5 p7 p8 p9 p10 (.int .i64 (m : Int)) p12 p13 p14 p15 p16 x) (by kernel_rfl) (fun why h => by cases h) (mw_block (mw_seq (by kernel_rfl) (fun why h => by cases h) (mw_region ?_))) ?_
    ·have hok := safe_ok HS1.out.safe
     have hmv := top_moves HS1.out.safe (by rw [HBL.out]; exact hm0)
     have hme : movesL b = pickL (fun i => canB b i []) b.batches b.batches.length := by simp [movesL, hok]
     have HSH : Hid (ShortP (movesL b)) := by
      show ShortP (movesL b)
      rw [hme]; exact pickL_short HS1.out.book.2 _ _ (Nat.le_refl _)
     have HLM : Hid ((movesL b).length ≤ 5) := by
      show _ ≤ _
      have h5 := ok_five hok
      have := pickL_len (fun i => canB b i []) b.batches b.batches.length
      rw [hme]; omega
     have HME := hid hme
     clear hme
     refine mo_list tamed [0] [1, 2] rfl (by kernel_rfl) (by kernel_rfl) (fun T3 => ?_)
     simp only [List.filterMap, List.getElem?_toArray, List.getElem?_cons_zero]
     have hs1 := HS1.out.on (Grew.re z1 0 T3)
     generalize World.re z1 0 T3 = z2 at hs1 ⊢
     have c0 := hs1.rb.cell (i := 0) rfl
     have c1 := hs1.rb.cell (i := 1) rfl
     have HS2 := hid hs1
     clear hs1 HS1
     go_wp2
     refine mo_call (by kernel_rfl) rfl rfl rfl rfl (by simp [Act.eval]) (moves_m b x1 x2 y1 y2 z2 HS2.out.book HS2.out.low) (fun r z3 hr => ?_)
     obtain ⟨hG3, ho3⟩ := hr
     obtain ⟨aM, cM, rfl, hsM⟩ := ho3.at (by have := HLM.out; omega) HSH.out
     have HS3 := hid (HS2.out.on hG3)
     have HM3 := hid hsM
     clear hG3 ho3 hsM HS2 c0 c1
     walk_nrm
     refine mo_list tamed [2] [] rfl (by kernel_rfl) (by kernel_rfl) (fun T4 => ?_)
     simp only [List.filterMap, List.getElem?_toArray, List.getElem?_cons_zero, List.getElem?_cons_succ]
     go_wp2
     refine mo_nil ?_
     change MW _ _ _ _ _
     refine (mw_wp tamed (R := onlyN (fun x z => (∃ b, (∃ x1 x2 y1 y2, StT w2 w2.heap.size b x1 x2 y1 y2 z) ∧ b.batches.length + 1 = m) ∧ ∃ p4 p5 p7 p8 p9 p10 p12 p13 p14 p15 p16, FrT (.pointer (some ⟨w2.heap.size, 0, none⟩)) p4 p5 p7 p8 p9 p10 (.int .i64 (m : Int)) p12 p13 p14 p15 p16 x)) rfl (by kernel_rfl) (fun T5 => ?_)).mono (fun e a' v' h => by cases e <;> first | exact ⟨rfl, h⟩ | exact h.elim)
     have hs1 : StT w2 w2.heap.size b x1 x2 y1 y2 (World.re (World.re z3 0 T4) 0 T5) := (HS3.out.on (Grew.re z3 0 T4)).on (Grew.re _ 0 T5)
     have hm1 : StrsAt (World.re (World.re z3 0 T4) 0 T5) aM (movesL b) := HM3.out
     generalize World.re (World.re z3 0 T4) 0 T5 = z4 at hs1 hm1 ⊢
     obtain ⟨hml, bl, ol, rfl, hcl0⟩ := hm1.2 0 hmv
     have hcl : z4.cell? ⟨bl, ol, none⟩ = some (.string (S (nth (movesL b) 0))) := hcl0
     clear hcl0
     have hmem : nth (movesL b) 0 ∈ movesL b := by rw [nth_get hmv]; exact List.getElem_mem hmv
     have hpos : (((movesL b).length : Int) == 0) = false := by rw [beq_eq_false_iff_ne]; omega
     have hA0 := top_ask hok hmem
     have hL0 := top_leave hA0
     have hlenL := leave_len hL0
     have hAs := ask_safe (n := nth (movesL b) 0) (l := lackB b (nth (movesL b) 0)) hs1.safe
     have hLs := leave_safe hL0 hAs
     have hlenA : (askB b (nth (movesL b) 0) (lackB b (nth (movesL b) 0))).1.batches.length = b.batches.length := by
      have hbk := ask_book b (nth (movesL b) 0) (lackB b (nth (movesL b) 0))
      rw [if_pos hA0] at hbk
      rw [← hbk]
      simp [giveB]
     have HLB : Hid ((leaveB (askB b (nth (movesL b) 0) (lackB b (nth (movesL b) 0))).1 (nth (movesL b) 0)).1.batches.length + 1 = m) := by
      show _ = _
      rw [hlenL, hlenA]; exact HBL.out
     have hshl : ∀ x, x ∈ movesL b → ShortS (lackB b x) := fun x hx => by
      rw [HME.out, pickL_mem] at hx
      obtain ⟨j, hj, _, rfl⟩ := hx
      rw [lackB_at hok hj]
      obtain ⟨_, _, _, _, _, _, _, _, _, _, _, _, s2⟩ := hs1.book.2.2 j hj
      exact filter_short s2.short
     have HSL := hid (hshl _ hmem)
     clear hshl
     have HS4 := hid hs1
     have HM4 := hid hm1
     have HOK := hid hok
     have HA0 := hid hA0
     have HL0 := hid hL0
     have HAS := hid hAs
     have HLS := hid hLs
     have hM0 : (0 : Int) < ((movesL b).length : Int) := by omega
     clear hs1 hm1 HS3 HM3 hok hA0 hL0 hAs hLs hlenL hlenA hmem HBL
     generalize hmvn : nth (movesL b) 0 = mv at *
     clear hmvn
     have HAL : Hid ((askB b mv (lackB b mv)).1.batches.length ≤ 2199023255552) := by
      show _ ≤ _
      have := ok_five (safe_ok HAS.out); omega
     have c0 := HS4.out.rb.cell (i := 0) rfl
     have c1 := HS4.out.rb.cell (i := 1) rfl
     generalize (movesL b).length = lm at *
     go_upto_region 33 with fail
     go_cut [13, 14] from 159 to 171 (fun v13 v14 wx => ∃ X g1 g2 e1 e2, v13 = .pointer (some ⟨X, 0, none⟩) ∧ v14 = .int .i64 0 ∧ Ext z4 wx ∧ Rec wx X 26 [.slice g1 (askB b mv (lackB b mv)).1.things.length e1, .slice g2 (askB b mv (lackB b mv)).1.batches.length e2] ∧ BookAt wx g1 g2 (askB b mv (lackB b mv)).1)
     case first =>
      refine wp_region_T (fun w' => w'.cell? ⟨w2.heap.size, 0, none⟩ = some (.slice x1 b.things.length y1) ∧ w'.cell? ⟨w2.heap.size, 1, none⟩ = some (.slice x2 b.batches.length y2) ∧ w'.cell? ⟨bl, ol, none⟩ = some (.string (S mv))) 15 (by kernel_rfl) ⟨c0, c1, hcl⟩ (fun hS => ?_)
      refine tk 0 hS ?_
      try simp only [List.set]
      refine tk 1 hS ?_
      try simp only [List.set]
      refine tk 2 hS ?_
      try simp only [List.set]
      refine tk 3 hS ?_
      try simp only [List.set]
      refine tk 4 hS ?_
      try simp only [List.set]
      refine tk 5 hS ?_
      try simp only [List.set]
      refine tk 6 hS ?_
      try simp only [List.set]
      refine tk 7 hS ?_
      try simp only [List.set]
      have hEZ : Ext z4 (z4.drewN 1) := ext_drewN z4 1
      refine wpT_two 8 13 rfl rfl (by kernel_rfl) rfl rfl rfl rfl (fun K hK => ?_) (fun K hK => ?_)
      ·skip
       go_simp
       refine (wMissing_any b mv x1 x2 y1 y2 _ (HS4.out.book.ext hEZ) HOK.out).mono ?_
       rintro e wa ⟨vl, rfl, hEa, hoa⟩
       obtain ⟨al, cl, rfl, hsl⟩ := hoa.at' HSL.out
       have hEA : Ext z4 wa := Ext.tr hEZ hEa
       go_wp2_with fail
       refine hK.out _ _ ⟨hEA.keep c0, hEA.keep c1, hEA.keep hcl⟩ (fun hS1 => ?_)
       clear hK hS
       have hS := hS1
       clear hS1
       try clear K
       try simp only [put_some, List.set]
       clear hEa hoa
       refine wpT_two 9 13 rfl rfl (by kernel_rfl) rfl rfl rfl rfl (fun K hK => ?_) (fun K hK => ?_)
       ·skip
        go_simp
        refine (implAsk_any b mv (lackB b mv) x1 x2 al y1 y2 cl _ (HS4.out.book.ext hEA) hsl ((HS4.out.g.tr (Grew.of hEA)).cellT HGE.out)).mono ?_
        rintro e wb ⟨v1, v2, rs, rfl, hEb, hOb⟩
        obtain ⟨g1, e1, g2, e2, rfl, rfl, hatb⟩ := hOb.at HAL.out
        rw [HA0.out]
        have hEB : Ext z4 wb := Ext.tr hEA hEb
        go_wp2_with fail
        refine hK.out _ _ ⟨hEB.keep c0, hEB.keep c1, hEB.keep hcl⟩ (fun hS1 => ?_)
        clear hK hS
        have hS := hS1
        clear hS1
        try clear K
        try simp only [put_some, List.set]
        clear hOb
        refine tk 10 hS ?_
        try simp only [List.set]
        refine tk 11 hS ?_
        try simp only [List.set]
        refine tk 12 hS ?_
        try simp only [List.set]
        refine wpT_one 13 rfl (by kernel_rfl) rfl rfl (fun K hK => ?_)
        go_simp
        refine hK.out _ _ ⟨(Ext.tr hEB (ext_alloc _ _)).keep c0, (Ext.tr hEB (ext_alloc _ _)).keep c1, (Ext.tr hEB (ext_alloc _ _)).keep hcl⟩ (fun hS1 => ?_)
        clear hK hS
        have hS := hS1
        clear hS1
        try clear K
        try simp only [put_some, List.set]
        refine wpT_one 14 rfl (by kernel_rfl) rfl rfl (fun K hK => ?_)
        go_simp
        refine hK.out _ _ ⟨(Ext.tr hEB (ext_alloc _ _)).keep c0, (Ext.tr hEB (ext_alloc _ _)).keep c1, (Ext.tr hEB (ext_alloc _ _)).keep hcl⟩ (fun hS1 => ?_)
        clear hK hS
        have hS := hS1
        clear hS1
        try clear K
        try simp only [put_some, List.set]
        refine wpT_last rfl (by kernel_rfl) (by kernel_rfl) rfl (fun K hK => ?_)
        go_simp
        refine hK.out _ _ ?_
        clear hK hS
        go_wp2_with fail
        go_meet
        exact ⟨wb.heap.size, g1, g2, e1, e2, rfl, rfl, Ext.tr hEB (ext_alloc _ _), Rec.new wb _ _, hatb.ext (ext_alloc _ _)⟩
       ·have hEN : Ext z4 (wa.alloc (.cells #[.slice none 0 0, .slice none 0 0] 26)) := Ext.tr hEA (ext_alloc _ _)
        have hXz : z4.heap.size ≤ wa.heap.size := hEA.size
        go_simp
        refine hK.out _ _ ⟨(Ext.tr hEA (ext_alloc _ _)).keep c0, (Ext.tr hEA (ext_alloc _ _)).keep c1, (Ext.tr hEA (ext_alloc _ _)).keep hcl⟩ (fun hS1 => ?_)
        clear hK hS
        have hS := hS1
        clear hS1
        try clear K
        try simp only [put_some, List.set]
        refine wpT_one 9 rfl (by kernel_rfl) rfl rfl (fun K hK => ?_)
        go_simp
        refine (implAsk_any b mv (lackB b mv) x1 x2 al y1 y2 cl _ (HS4.out.book.ext hEN) (hsl.ext (ext_alloc _ _)) ((HS4.out.g.tr (Grew.of hEN)).cellT HGE.out)).mono ?_
        rintro e wb ⟨v1, v2, rs, rfl, hEb, hOb⟩
        obtain ⟨g1, e1, g2, e2, rfl, rfl, hatb⟩ := hOb.at HAL.out
        rw [HA0.out]
        have hEB : Ext z4 wb := Ext.tr hEN hEb
        go_wp2_with fail
        refine hK.out _ _ ⟨hEB.keep c0, hEB.keep c1, hEB.keep hcl⟩ (fun hS1 => ?_)
        clear hK hS
        have hS := hS1
        clear hS1
        try clear K
        try simp only [put_some, List.set]
        clear hOb
        have hr := (Rec.new wa 26 [.slice none 0 0, .slice none 0 0]).ext hEb
        have r0 := hr.cell (i := 0) rfl
        have r1 := hr.cell (i := 1) rfl
        have f0 := hr.frozen 0
        have f1 := hr.frozen 1
        refine tk 10 hS ?_
        try simp only [List.set]
        refine tk 11 hS ?_
        try simp only [List.set]
        refine tk 12 hS ?_
        try simp only [List.set]
        refine wpT_one 14 rfl (by kernel_rfl) rfl rfl (fun K hK => ?_)
        go_simp
        have hEC : Ext z4 ((wb.setCell ⟨wa.heap.size, 0, none⟩ (.slice g1 (askB b mv (lackB b mv)).1.things.length e1)).setCell ⟨wa.heap.size, 1, none⟩ (.slice g2 (askB b mv (lackB b mv)).1.batches.length e2)) := (hEB.setCell hXz _).setCell hXz _
        refine hK.out _ _ ⟨hEC.keep c0, hEC.keep c1, hEC.keep hcl⟩ (fun hS1 => ?_)
        clear hK hS
        have hS := hS1
        clear hS1
        try clear K
        try simp only [put_some, List.set]
        refine wpT_last rfl (by kernel_rfl) (by kernel_rfl) rfl (fun K hK => ?_)
        go_simp
        refine hK.out _ _ ?_
        clear hK hS
        go_wp2_with fail
        go_meet
        exact ⟨wa.heap.size, g1, g2, e1, e2, rfl, rfl, hEC, (hr.set 0 _).set 1 _, hatb.box2 hr⟩
      ·have hEN : Ext z4 ((z4.drewN 1).alloc (.cells #[.slice none 0 0, .slice none 0 0] 26)) := Ext.tr hEZ (ext_alloc _ _)
       go_simp
       refine hK.out _ _ ⟨(Ext.tr hEZ (ext_alloc _ _)).keep c0, (Ext.tr hEZ (ext_alloc _ _)).keep c1, (Ext.tr hEZ (ext_alloc _ _)).keep hcl⟩ (fun hS1 => ?_)
       clear hK hS
       have hS := hS1
       clear hS1
       try clear K
       try simp only [put_some, List.set]
       refine wpT_one 8 rfl (by kernel_rfl) rfl rfl (fun K hK => ?_)
       go_simp
       refine (wMissing_any b mv x1 x2 y1 y2 _ (HS4.out.book.ext hEN) HOK.out).mono ?_
       rintro e wa ⟨vl, rfl, hEa, hoa⟩
       obtain ⟨al, cl, rfl, hsl⟩ := hoa.at' HSL.out
       have hEA : Ext z4 wa := Ext.tr hEN hEa
       go_wp2_with fail
       refine hK.out _ _ ⟨hEA.keep c0, hEA.keep c1, hEA.keep hcl⟩ (fun hS1 => ?_)
       clear hK hS
       have hS := hS1
       clear hS1
       try clear K
       try simp only [put_some, List.set]
       clear hoa
       refine wpT_one 9 rfl (by kernel_rfl) rfl rfl (fun K hK => ?_)
       go_simp
       refine (implAsk_any b mv (lackB b mv) x1 x2 al y1 y2 cl _ (HS4.out.book.ext hEA) hsl ((HS4.out.g.tr (Grew.of hEA)).cellT HGE.out)).mono ?_
       rintro e wb ⟨v1, v2, rs, rfl, hEb, hOb⟩
       obtain ⟨g1, e1, g2, e2, rfl, rfl, hatb⟩ := hOb.at HAL.out
       rw [HA0.out]
       have hEB : Ext z4 wb := Ext.tr hEA hEb
       go_wp2_with fail
       refine hK.out _ _ ⟨hEB.keep c0, hEB.keep c1, hEB.keep hcl⟩ (fun hS1 => ?_)
       clear hK hS
       have hS := hS1
       clear hS1
       try clear K
       try simp only [put_some, List.set]
       clear hOb
       have hr : Rec wb z4.heap.size 26 [.slice none 0 0, .slice none 0 0] := (Rec.new (z4.drewN 1) 26 [.slice none 0 0, .slice none 0 0]).ext (Ext.tr hEa hEb)
       have r0 := hr.cell (i := 0) rfl
       have r1 := hr.cell (i := 1) rfl
       have f0 := hr.frozen 0
       have f1 := hr.frozen 1
       refine tk 10 hS ?_
       try simp only [List.set]
       refine tk 11 hS ?_
       try simp only [List.set]
       refine tk 12 hS ?_
       try simp only [List.set]
       refine wpT_one 14 rfl (by kernel_rfl) rfl rfl (fun K hK => ?_)
       go_simp
       have hEC : Ext z4 ((wb.setCell ⟨z4.heap.size, 0, none⟩ (.slice g1 (askB b mv (lackB b mv)).1.things.length e1)).setCell ⟨z4.heap.size, 1, none⟩ (.slice g2 (askB b mv (lackB b mv)).1.batches.length e2)) := (hEB.setCell (Nat.le_refl _) _).setCell (Nat.le_refl _) _
       refine hK.out _ _ ⟨hEC.keep c0, hEC.keep c1, hEC.keep hcl⟩ (fun hS1 => ?_)
       clear hK hS
       have hS := hS1
       clear hS1
       try clear K
       try simp only [put_some, List.set]
       refine wpT_last rfl (by kernel_rfl) (by kernel_rfl) rfl (fun K hK => ?_)
       go_simp
       refine hK.out _ _ ?_
       clear hK hS
       go_wp2_with fail
       go_meet
       exact ⟨z4.heap.size, g1, g2, e1, e2, rfl, rfl, hEC, (hr.set 0 _).set 1 _, hatb.box2 hr⟩
     case rest =>
      obtain ⟨X, g1, g2, e1, e2, rfl, rfl, hEc, hrc, hbc⟩ := hcut
      have HSC := hid (HS4.out.on (Grew.of hEc))
      have HRC := hid hrc
      have HBC := hid hbc
      have hclc := hEc.keep hcl
      have d0 := hrc.cell (i := 0) rfl
      have d1 := hrc.cell (i := 1) rfl
      have HLL : Hid ((leaveB (askB b mv (lackB b mv)).1 mv).1.batches.length ≤ 2199023255552) := by
       show _ ≤ _
       have := ok_five (safe_ok HLS.out); omega
      clear hEc hrc hbc hcl c0 c1 HS4 HM4
      generalize hAB : (askB b mv (lackB b mv)).1 = A at *
      clear hAB
      go_upto_region 34 with fail
      go_cut [15, 16] from 172 to 179 (fun v15 v16 wx => ∃ Y s1 s2 t1 t2, v15 = .pointer (some ⟨Y, 0, none⟩) ∧ v16 = .int .i64 0 ∧ Ext wc wx ∧ Rec wx Y 26 [.slice s1 (leaveB A mv).1.things.length t1, .slice s2 (leaveB A mv).1.batches.length t2] ∧ BookAt wx s1 s2 (leaveB A mv).1)
      case first =>
       refine wp_region_T (fun w' => w'.cell? ⟨X, 0, none⟩ = some (.slice g1 A.things.length e1) ∧ w'.cell? ⟨X, 1, none⟩ = some (.slice g2 A.batches.length e2) ∧ w'.cell? ⟨bl, ol, none⟩ = some (.string (S mv))) 10 (by kernel_rfl) ⟨d0, d1, hclc⟩ (fun hS => ?_)
       refine tk 0 hS ?_
       try simp only [List.set]
       refine tk 1 hS ?_
       try simp only [List.set]
       refine tk 2 hS ?_
       try simp only [List.set]
       refine tk 3 hS ?_
       try simp only [List.set]
       have hEZ : Ext wc (wc.drewN 1) := ext_drewN wc 1
       refine wpT_two 4 8 rfl rfl (by kernel_rfl) rfl rfl rfl rfl (fun K hK => ?_) (fun K hK => ?_)
       ·go_simp
        refine (implLeave_any A mv g1 g2 e1 e2 _ (HBC.out.ext hEZ) ((HSC.out.g.tr (Grew.of hEZ)).cellT HGE.out)).mono ?_
        rintro e wb ⟨v1, v2, rs, rfl, hEb, hOb⟩
        obtain ⟨s1, t1, s2, t2, rfl, rfl, hatb⟩ := hOb.at HLL.out
        rw [HL0.out]
        have hEB : Ext wc wb := Ext.tr hEZ hEb
        go_wp2_with fail
        refine hK.out _ _ ⟨hEB.keep d0, hEB.keep d1, hEB.keep hclc⟩ (fun hS1 => ?_)
        clear hK hS
        have hS := hS1
        clear hS1
        try clear K
        try simp only [put_some, List.set]
        clear hOb
        refine tk 5 hS ?_
        try simp only [List.set]
        refine tk 6 hS ?_
        try simp only [List.set]
        refine tk 7 hS ?_
        try simp only [List.set]
        refine wpT_one 8 rfl (by kernel_rfl) rfl rfl (fun K hK => ?_)
        go_simp
        refine hK.out _ _ ⟨(Ext.tr hEB (ext_alloc _ _)).keep d0, (Ext.tr hEB (ext_alloc _ _)).keep d1, (Ext.tr hEB (ext_alloc _ _)).keep hclc⟩ (fun hS1 => ?_)
        clear hK hS
        have hS := hS1
        clear hS1
        try clear K
        try simp only [put_some, List.set]
        refine wpT_one 9 rfl (by kernel_rfl) rfl rfl (fun K hK => ?_)
        go_simp
        refine hK.out _ _ ⟨(Ext.tr hEB (ext_alloc _ _)).keep d0, (Ext.tr hEB (ext_alloc _ _)).keep d1, (Ext.tr hEB (ext_alloc _ _)).keep hclc⟩ (fun hS1 => ?_)
        clear hK hS
        have hS := hS1
        clear hS1
        try clear K
        try simp only [put_some, List.set]
        refine wpT_last rfl (by kernel_rfl) (by kernel_rfl) rfl (fun K hK => ?_)
        go_simp
        refine hK.out _ _ ?_
        clear hK hS
        go_wp2_with fail
        go_meet
        exact ⟨wb.heap.size, s1, s2, t1, t2, rfl, rfl, Ext.tr hEB (ext_alloc _ _), Rec.new wb _ _, hatb.ext (ext_alloc _ _)⟩
       ·have hEN : Ext wc ((wc.drewN 1).alloc (.cells #[.slice none 0 0, .slice none 0 0] 26)) := Ext.tr hEZ (ext_alloc _ _)
        go_simp
        refine hK.out _ _ ⟨(Ext.tr hEZ (ext_alloc _ _)).keep d0, (Ext.tr hEZ (ext_alloc _ _)).keep d1, (Ext.tr hEZ (ext_alloc _ _)).keep hclc⟩ (fun hS1 => ?_)
        clear hK hS
        have hS := hS1
        clear hS1
        try clear K
        try simp only [put_some, List.set]
        refine wpT_one 4 rfl (by kernel_rfl) rfl rfl (fun K hK => ?_)
        go_simp
        refine (implLeave_any A mv g1 g2 e1 e2 _ (HBC.out.ext hEN) ((HSC.out.g.tr (Grew.of hEN)).cellT HGE.out)).mono ?_
        rintro e wb ⟨v1, v2, rs, rfl, hEb, hOb⟩
        obtain ⟨s1, t1, s2, t2, rfl, rfl, hatb⟩ := hOb.at HLL.out
        rw [HL0.out]
        have hEB : Ext wc wb := Ext.tr hEN hEb
        go_wp2_with fail
        refine hK.out _ _ ⟨hEB.keep d0, hEB.keep d1, hEB.keep hclc⟩ (fun hS1 => ?_)
        clear hK hS
        have hS := hS1
        clear hS1
        try clear K
        try simp only [put_some, List.set]
        clear hOb
        have hr : Rec wb wc.heap.size 26 [.slice none 0 0, .slice none 0 0] := (Rec.new (wc.drewN 1) 26 [.slice none 0 0, .slice none 0 0]).ext hEb
        have r0 := hr.cell (i := 0) rfl
        have r1 := hr.cell (i := 1) rfl
        have f0 := hr.frozen 0
        have f1 := hr.frozen 1
        refine tk 5 hS ?_
        try simp only [List.set]
        refine tk 6 hS ?_
        try simp only [List.set]
        refine tk 7 hS ?_
        try simp only [List.set]
        refine wpT_one 9 rfl (by kernel_rfl) rfl rfl (fun K hK => ?_)
        go_simp
        have hEC : Ext wc ((wb.setCell ⟨wc.heap.size, 0, none⟩ (.slice s1 (leaveB A mv).1.things.length t1)).setCell ⟨wc.heap.size, 1, none⟩ (.slice s2 (leaveB A mv).1.batches.length t2)) := (hEB.setCell (Nat.le_refl _) _).setCell (Nat.le_refl _) _
        refine hK.out _ _ ⟨hEC.keep d0, hEC.keep d1, hEC.keep hclc⟩ (fun hS1 => ?_)
        clear hK hS
        have hS := hS1
        clear hS1
        try clear K
        try simp only [put_some, List.set]
        refine wpT_last rfl (by kernel_rfl) (by kernel_rfl) rfl (fun K hK => ?_)
        go_simp
        refine hK.out _ _ ?_
        clear hK hS
        go_wp2_with fail
        go_meet
        exact ⟨wc.heap.size, s1, s2, t1, t2, rfl, rfl, hEC, (hr.set 0 _).set 1 _, hatb.box2 hr⟩
      case rest =>
       obtain ⟨Y, s1, s2, t1, t2, rfl, rfl, hEd, hrd, hbd⟩ := hcut
       have HSD := hid (HSC.out.on (Grew.of hEd))
       have HAD := hid (HBC.out.ext hEd)
       have HBD := hid hbd
       have a0 := (HRC.out.ext hEd).cell (i := 0) rfl
       have a1 := (HRC.out.ext hEd).cell (i := 1) rfl
       have q0 := hrd.cell (i := 0) rfl
       have q1 := hrd.cell (i := 1) rfl
       clear hEd hrd hbd HSC HBC HRC d0 d1 hclc HA0 HL0 HAL HLL HSH HSL HLM HME
       go_wp2_with (go_at_call 18; refine (implSafe_any A g1 g2 e1 e2 wc HAD.out).mono ?_; rintro e wd ⟨rfl, hEe⟩; rw [HAS.out]; replace q0 := hEe.keep q0; replace q1 := hEe.keep q1; have HSE := hid (HSD.out.on (Grew.of hEe)); have b0 := HSE.out.rb.cell (i := 0) rfl; have b1 := HSE.out.rb.cell (i := 1) rfl; have f0 := HSE.out.rb.frozen 0; have f1 := HSE.out.rb.frozen 1)
       have HPT := hid (HSE.out.put (e1 := t1) (e2 := t2) (Nat.le_refl _) (HBD.out.ext hEe) HLS.out)
       exact ⟨⟨(leaveB A mv).1, ⟨s1, s2, t1, t2, HPT.out⟩, HLB.out⟩, _, _, _, _, _, _, _, _, _, _, _, FrT.of rfl⟩
    ·rintro x z ⟨⟨b, ⟨x1, x2, y1, y2, hst⟩, hbl⟩, p4, p5, p7, p8, p9, p10, p12, p13, p14, p15, p16, u, rfl⟩
     refine mw_wp tamed rfl (by kernel_rfl) (fun T3 => ?_)
     have HSN := hid (hst.on (Grew.re z 0 T3))
     have HBN := hid hbl
     clear hst hbl
     go_wp2
     have hcast : ((m : Int) - 1) = ((m - 1 : Nat) : Int) := by omega
     try rw [hcast]
     exact ⟨m - 1, by omega, by omega, ⟨b, ⟨x1, x2, y1, y2, HSN.out⟩, by have := HBN.out; omega⟩, _, _, _, _, _, _, _, _, _, _, _, FrT.of rfl⟩
   ·have hmi : ¬ ((0 : Int) < (m : Int)) := by omega
    have HZ : Hid (b.batches.length = 0) := by
     show _ = _
     have := HBL.out; omega
    go_wp2_with fail
    exact ⟨rfl, ⟨b, ⟨x1, x2, y1, y2, HS1.out⟩, List.eq_nil_of_length_eq_zero HZ.out⟩, _, _, _, _, _, _, _, _, _, _, _, _, FrT.of rfl⟩
  ·rintro x z ⟨⟨b, ⟨x1, x2, y1, y2, hst⟩, hbl⟩, p4, p5, p7, p8, p9, p10, p11, p12, p13, p14, p15, p16, u, rfl⟩
   refine mw_wp tamed rfl (by kernel_rfl) (fun T1 => ?_)
   have hs1 := hst.on (Grew.re z 0 T1)
   generalize World.re z 0 T1 = z1 at hs1 ⊢
   have c0 := hs1.rb.cell (i := 0) rfl
   have c1 := hs1.rb.cell (i := 1) rfl
   rw [hbl] at c1
   have HS1 := hid hs1
   clear hst hs1 hbl
   go_wp2
   exact ⟨rfl, _, resultsC_tmp (t := 2) rfl _, rfl, HGV.out.tr HS1.out.g⟩
end Go.Proofs.YtdafpnpfcmgfcaaGreatDoor
