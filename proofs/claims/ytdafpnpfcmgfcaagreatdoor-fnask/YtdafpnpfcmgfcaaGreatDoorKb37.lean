/- The walk over the specification's ShareLeave. The walk over the specification's ShareLess. -/
import Derived.Test.YtdafpnpfcmgfcaaGreatDoorKb27
import Derived.Test.YtdafpnpfcmgfcaaGreatDoorKb28
namespace Go.Proofs.YtdafpnpfcmgfcaaGreatDoor
section
open Go.RowKit
attribute [local go_sem] S_toList S_size S_get
set_option maxRecDepth 100000 in
set_option maxHeartbeats 2000000 in
theorem specLeave_own (b : Book) (n : Str) (a1 a2 : Option Addr) (c1 c2 : Nat) (w : World) (hb : BookAt w a1 a2 b) :
  Calls Qry.prog 15 #[.agg #[.slice a1 b.things.length c1, .slice a2 b.batches.length c2], .string (S n)] w fun e w' => BookOwn w (leaveB b n) e w' := by
 have e2 : ∀ o1 o2, Ext w ((w.alloc o1).alloc o2) := fun o1 o2 => ((Below.refl _ _).alloc (Nat.le_refl _) _).alloc (by simp) _
 have hbn := hb.2.1
 go_enter Qry.func15, Tryz.ntmps15
 go_wp2_with fail
 refine (specBookOk_any b _ _ _ _ _ (hb.ext (e2 _ _))).mono ?_
 rintro e w1 ⟨rfl, hE1⟩
 have hx0 : w1.cell? ⟨w.heap.size, 0, none⟩ = some (.slice a1 b.things.length c1) := (hE1.cell (p := ⟨w.heap.size, 0, none⟩) (by simp; omega)).trans (by simp)
 have hx1 : w1.cell? ⟨w.heap.size, 1, none⟩ = some (.slice a2 b.batches.length c2) := (hE1.cell (p := ⟨w.heap.size, 1, none⟩) (by simp; omega)).trans (by simp)
 have hx2 : w1.cell? ⟨w.heap.size + 1, 0, none⟩ = some (.slice none 0 0) := (hE1.cell (p := ⟨w.heap.size + 1, 0, none⟩) (by simp)).trans (by simp)
 have hx3 : w1.cell? ⟨w.heap.size + 1, 1, none⟩ = some (.slice none 0 0) := (hE1.cell (p := ⟨w.heap.size + 1, 1, none⟩) (by simp)).trans (by simp)
 have HR1 : Hid (Rec w1 (w.heap.size + 1) 26 [.slice none 0 0, .slice none 0 0]) := by
  have h := (Rec.new (w.alloc (.cells #[.slice a1 b.things.length c1, .slice a2 b.batches.length c2] 26)) 26 [.slice none 0 0, .slice none 0 0]).ext hE1
  have h' : Rec w1 (w.heap.size + 1) 26 [.slice none 0 0, .slice none 0 0] := by simpa using h
  exact h'
 have HE1 := hid hE1
 have HEW := hid (Ext.tr (e2 _ _) hE1)
 clear hE1
 cases hok : bookOk b
 ·have hf2 := HR1.out.frozen 0
  have hf3 := HR1.out.frozen 1
  have HF : Hid (leaveB b n = (emptyBook, 1)) := by show _ = _; simp [leaveB, hok]
  go_wp2
  rw [HF.out]
  refine bodyPost_ret (v := .tuple #[.agg #[.slice none 0 0, .slice none 0 0], .int .i64 1]) (by simp [results, Tryz.results15, go_sem, hx2, hx3]) rfl ⟨none, 0, none, 0, rfl, ?_, ⟨StrsAt.nil _ _, by simp [emptyBook], fun i hi => by simp [emptyBook] at hi⟩, World.ownsRow_nil _ _ _ _, OwnBs.nil _ _⟩
  exact (HEW.out.setCell (by simp) _).setCell (by simp) _
 ·go_wp2_with fail
  refine (l1Copy_any b _ _ _ _ _ (hb.ext HEW.out)).mono ?_
  rintro e w2 ⟨v1, v2, rfl, hE2, ho1, ho2⟩
  obtain ⟨x1, y1, rfl⟩ := own_sl ho1
  obtain ⟨x2, y2, rfl⟩ := ho2.len
  have HS := hid (EnS.mk' HE1.out hE2 ho1 ho2)
  have hx20 := HS.out.rb.cell (i := 0) rfl
  have hx21 := HS.out.rb.cell (i := 1) rfl
  clear ho1 ho2 hx0 hx1 hx2 hx3 HR1 HE1 hE2
  go_wp2_with fail
  clear hx20 hx21
  generalize w2.alloc (.cells #[.slice x1 b.things.length y1, .slice x2 b.batches.length y2] 26) = w3 at HS ⊢
  generalize w2.heap.size = X at HS ⊢
  clear HEW
  refine (l1At_any b n _ _ _ _ _ (hb.ext HS.out.ext)).mono ?_
  rintro e w5 ⟨hres, hE5⟩
  have HS5 := hid (HS.out.next hE5)
  clear hE5 HS
  obtain ⟨p0, p1, t0, t1, f0, f1, q0, q1⟩ := HS5.out.facts
  rcases hres with ⟨k, rfl, hfa⟩ | ⟨rfl, hno⟩
  ·have hh : hereB b n = true := hasB_of hfa.1 hfa.2.1
   have hw : whereB b n = k := place_of hfa
   have hkl : k < b.batches.length := by have := hfa.1; rwa [namesOf_length] at this
   have HF : Hid (leaveB b n = (⟨b.things, b.batches.take k ++ b.batches.drop (k + 1)⟩, 0)) := by show _ = _; simp [leaveB, hok, hh, hw]
   have hlk : (b.batches.take k).length = k := by rw [List.length_take]; omega
   obtain ⟨rs, hRows, hcells⟩ := HS5.out.o2.rows
   have hrl := hRows.1
   rcases HS5.out.o2.shape with ⟨rfl, h0, rfl⟩ | ⟨g, rfl, hcap, hcm, hgb⟩
   ·omega
   ·have hky : k ≤ y2 := by omega
    have hky1 : k + 1 ≤ y2 := by omega
    have H1 : ∀ (j : Nat) u, (cellsOf (rs.take k))[j]? = some u → ∃ ad, some (⟨g, 0, none⟩ : Addr) = some ad ∧ w5.cell? (ad.add j) = some u := fun j u hj => by
     obtain ⟨g', e, hc⟩ := hcells j u (cellsOf_take hj)
     cases e
     exact ⟨_, rfl, by rw [add_plain, Nat.zero_add]; exact hc⟩
    by_cases hyk : y2 = k + 1
    ·have HYK := hid hyk
     clear hyk
     have H2 : ∀ (j : Nat) u, (cellsOf (rs.drop (k + 1)))[j]? = some u → ∃ ad, some (⟨g, 0, none⟩ : Addr) = some ad ∧ w5.cell? (ad.add j) = some u := fun j u hj => by
      have e0 : rs.drop (k + 1) = [] := List.drop_eq_nil_of_le (by have := HYK.out; omega)
      rw [e0] at hj; simp [cellsOf] at hj
     clear hcells
     go_wp2_with fail
     refine wp_region_T (fun w' => w'.cell? ⟨X, 1, none⟩ = some (.slice (some ⟨g, 0, none⟩) b.batches.length y2)) 13 (by kernel_rfl) q1 (fun hS => ?_)
     refine tk 1 hS ?_
     try simp only [List.set]
     refine tk 2 hS ?_
     try simp only [List.set]
     refine tk 3 hS ?_
     try simp only [List.set]
     refine tk 4 hS ?_
     try simp only [List.set]
     refine tk 6 hS ?_
     try simp only [List.set]
     refine tk 7 hS ?_
     try simp only [List.set]
     refine tk 8 hS ?_
     try simp only [List.set]
     refine wpT_take 9 (v := .int .i64 ((k : Int) + 1)) rfl rfl (by kernel_rfl) (by kernel_rfl) (by kernel_rfl) (by kernel_rfl) (fun _ _ _ h => h) hS rfl (by intro w0 hw0; (try dsimp only at hw0); go_simp; exact wrapS (by omega) (by omega)) ?_
     try simp only [List.set]
     refine wpT_take 10 (v := .slice (some ⟨g, 0, none⟩) (b.batches.length - (k + 1)) (y2 - (k + 1))) rfl rfl (by kernel_rfl) (by kernel_rfl) (by kernel_rfl) (by kernel_rfl) (fun _ _ _ h => h) hS rfl (by intro w0 hw0; (try dsimp only at hw0); go_simp; rw [if_pos (by omega), if_pos HYK.out]) ?_
     try simp only [List.set]
     refine wpT_one 0 rfl (by kernel_rfl) rfl rfl (fun K hK => ?_)
     go_simp
     refine hK.out _ _ ((ext_alloc _ _).keep hS) (fun hS1 => ?_)
     clear hK hS
     have hS := hS1
     clear hS1
     try clear K
     try simp only [put_some, List.set]
     have hEA : Ext w5 (w5.drew.alloc (.cells #[] 73)) := Ext.tr (ext_drewN w5 1) (ext_alloc _ _)
     have hwz : w.heap.size ≤ w5.heap.size := HS5.out.ext.size
     have hOA : OwnBs (w5.drew.alloc (.cells #[] 73)) w.heap.size (.slice (some ⟨w5.heap.size, 0, none⟩) 0 0) [] := OwnBs.made w5.drew w.heap.size hwz
     refine wpT_one 5 rfl (by kernel_rfl) rfl rfl (fun K hK => ?_)
     refine wp_rows (L := []) (M := b.batches.take k) _ _ rfl rfl hOA rfl hlk (fun j u hj => by obtain ⟨ad, e, hc⟩ := H1 j u hj; exact ⟨ad, e, hEA.keep hc⟩) ((hRows.take k).ext hEA) (by first | (simp; done) | (simp; omega)) (by first | (simp; done) | (simp; omega)) (fun v' wB h2 h3 h4 => ?_)
     rw [List.nil_append] at h2
     obtain ⟨aB, cB, rfl⟩ := h2.len
     rw [hlk] at h2 h4 ⊢
     have hobB : ∀ g', (Value.slice aB k cB).ownBlock = some g' → w5.heap.size ≤ g' := fun g' e => by
      rcases h4 with h4 | h4
      ·rw [h4] at e
       have e' : w5.heap.size = g' := Option.some.inj e
       omega
      ·rw [h4] at e
       have e' : (w5.drew.alloc (.cells #[] 73)).heap.size = g' := Option.some.inj e
       simp at e'
       omega
     have hEB : Ext w5 wB := hEA.grown h3 (by simp) (fun g' e => by have e' : w5.heap.size = g' := Option.some.inj e; omega)
     refine hK.out _ _ (hEB.keep q1) (fun hS1 => ?_)
     clear hK hS
     have hS := hS1
     clear hS1
     try clear K
     try simp only [put_some, List.set]
     have hzB := hEB.size
     refine wpT_one 11 rfl (by kernel_rfl) rfl rfl (fun K hK => ?_)
     refine wp_rows (L := b.batches.take k) (M := b.batches.drop (k + 1)) _ _ rfl rfl h2 rfl (by rw [List.length_drop]) (fun j u hj => by obtain ⟨ad, e, hc⟩ := H2 j u hj; exact ⟨ad, e, hEB.keep hc⟩) ((hRows.drop (k + 1)).ext hEB) (by rw [hlk, List.length_drop]; omega) (by omega) (fun v' wE h8 h9 h10 => ?_)
     obtain ⟨aE, cE, rfl⟩ := h8.len
     have hEE : Ext w5 wE := hEB.grown h9 hzB hobB
     refine hK.out _ _ (hEE.keep q1) (fun hS1 => ?_)
     clear hK hS
     have hS := hS1
     clear hS1
     try clear K
     try simp only [put_some, List.set]
     refine tk 12 hS ?_
     try simp only [List.set]
     have hlen : (b.batches.take k ++ b.batches.drop (k + 1)).length ≤ 2199023255552 := by rw [List.length_append, hlk, List.length_drop]; omega
     have HS6 := hid (HS5.out.next hEE)
     clear hS h2 h3 h4 h9 h10 hOA hRows H1 H2 hEA hEB hobB p0 p1 t0 t1 f0 f1 q0
     have q1' := HS6.out.rx.cell (i := 1) rfl
     have qf' := HS6.out.rx.frozen 1
     generalize hbs : b.batches.take k ++ b.batches.drop (k + 1) = bs at h8 hlen HF ⊢
     refine wpT_last rfl (by kernel_rfl) (by kernel_rfl) rfl (fun K hK => ?_)
     go_simp
     refine hK.out _ _ ?_
     clear hK
     have HRX := hid (HS6.out.rx.set 1 (.slice aE bs.length cE))
     have HOX1 := hid (HS6.out.o1.stored HS6.out.rx rfl 1 (.slice aE bs.length cE))
     have HOX2 := hid (h8.stored HS6.out.rx rfl rfl 1 (.slice aE bs.length cE))
     have HRR : Hid (Rec (wE.setCell ⟨X, 1, none⟩ (.slice aE bs.length cE)) (w.heap.size + 1) 26 [.slice none 0 0, .slice none 0 0]) := HS6.out.rr.kept (gb_store wE X 1 _) (fun e => by have := HS6.out.hx; simp at e; omega)
     have HEX : Hid (Ext w (wE.setCell ⟨X, 1, none⟩ (.slice aE bs.length cE))) := HS6.out.ext.setCell (by have := HS6.out.hx; show w.heap.size ≤ X; omega) _
     clear q1' qf' h8 HS5 HS6 hEE
     generalize wE.setCell ⟨X, 1, none⟩ (.slice aE bs.length cE) = wF at HRX HOX1 HOX2 HRR HEX ⊢
     have q1' := HRX.out.cell (i := 1) rfl
     have q0' := HRX.out.cell (i := 0) rfl
     have t0 := HRR.out.cell (i := 0) rfl
     have t1 := HRR.out.cell (i := 1) rfl
     have f0 := HRR.out.frozen 0
     have f1 := HRR.out.frozen 1
     go_wp2
     refine bodyPost_ret (v := .tuple #[.agg #[.slice x1 b.things.length y1, .slice aE bs.length cE], .int .i64 0]) (by simp [results, Tryz.results15, go_sem, t0, t1]) rfl (BookRes.mk HF.out (stored_book (b := ⟨b.things, bs⟩) HEX.out HRR.out (by omega) HOX1.out hb.1.short HOX2.out hlen _ _))
    ·have H2 : ∀ (j : Nat) u, (cellsOf (rs.drop (k + 1)))[j]? = some u → ∃ ad, some (⟨g, (k + 1) * 3, none⟩ : Addr) = some ad ∧ w5.cell? (ad.add j) = some u := fun j u hj => by
      obtain ⟨g', e, hc⟩ := hcells _ u (cellsOf_drop (by omega) hj)
      cases e
      exact ⟨_, rfl, by rw [add_plain]; exact hc⟩
     clear hcells
     go_wp2_with fail
     refine wp_region_T (fun w' => w'.cell? ⟨X, 1, none⟩ = some (.slice (some ⟨g, 0, none⟩) b.batches.length y2)) 13 (by kernel_rfl) q1 (fun hS => ?_)
     refine tk 1 hS ?_
     try simp only [List.set]
     refine tk 2 hS ?_
     try simp only [List.set]
     refine tk 3 hS ?_
     try simp only [List.set]
     refine tk 4 hS ?_
     try simp only [List.set]
     refine tk 6 hS ?_
     try simp only [List.set]
     refine tk 7 hS ?_
     try simp only [List.set]
     refine tk 8 hS ?_
     try simp only [List.set]
     refine wpT_take 9 (v := .int .i64 ((k : Int) + 1)) rfl rfl (by kernel_rfl) (by kernel_rfl) (by kernel_rfl) (by kernel_rfl) (fun _ _ _ h => h) hS rfl (by intro w0 hw0; (try dsimp only at hw0); go_simp; exact wrapS (by omega) (by omega)) ?_
     try simp only [List.set]
     refine wpT_take 10 (v := .slice (some ⟨g, (k + 1) * 3, none⟩) (b.batches.length - (k + 1)) (y2 - (k + 1))) rfl rfl (by kernel_rfl) (by kernel_rfl) (by kernel_rfl) (by kernel_rfl) (fun _ _ _ h => h) hS rfl (by intro w0 hw0; (try dsimp only at hw0); go_simp; intro h; have := h (by omega); omega) ?_
     try simp only [List.set]
     refine wpT_one 0 rfl (by kernel_rfl) rfl rfl (fun K hK => ?_)
     go_simp
     refine hK.out _ _ ((ext_alloc _ _).keep hS) (fun hS1 => ?_)
     clear hK hS
     have hS := hS1
     clear hS1
     try clear K
     try simp only [put_some, List.set]
     have hEA : Ext w5 (w5.drew.alloc (.cells #[] 73)) := Ext.tr (ext_drewN w5 1) (ext_alloc _ _)
     have hwz : w.heap.size ≤ w5.heap.size := HS5.out.ext.size
     have hOA : OwnBs (w5.drew.alloc (.cells #[] 73)) w.heap.size (.slice (some ⟨w5.heap.size, 0, none⟩) 0 0) [] := OwnBs.made w5.drew w.heap.size hwz
     refine wpT_one 5 rfl (by kernel_rfl) rfl rfl (fun K hK => ?_)
     refine wp_rows (L := []) (M := b.batches.take k) _ _ rfl rfl hOA rfl hlk (fun j u hj => by obtain ⟨ad, e, hc⟩ := H1 j u hj; exact ⟨ad, e, hEA.keep hc⟩) ((hRows.take k).ext hEA) (by first | (simp; done) | (simp; omega)) (by first | (simp; done) | (simp; omega)) (fun v' wB h2 h3 h4 => ?_)
     rw [List.nil_append] at h2
     obtain ⟨aB, cB, rfl⟩ := h2.len
     rw [hlk] at h2 h4 ⊢
     have hobB : ∀ g', (Value.slice aB k cB).ownBlock = some g' → w5.heap.size ≤ g' := fun g' e => by
      rcases h4 with h4 | h4
      ·rw [h4] at e
       have e' : w5.heap.size = g' := Option.some.inj e
       omega
      ·rw [h4] at e
       have e' : (w5.drew.alloc (.cells #[] 73)).heap.size = g' := Option.some.inj e
       simp at e'
       omega
     have hEB : Ext w5 wB := hEA.grown h3 (by simp) (fun g' e => by have e' : w5.heap.size = g' := Option.some.inj e; omega)
     refine hK.out _ _ (hEB.keep q1) (fun hS1 => ?_)
     clear hK hS
     have hS := hS1
     clear hS1
     try clear K
     try simp only [put_some, List.set]
     have hzB := hEB.size
     refine wpT_one 11 rfl (by kernel_rfl) rfl rfl (fun K hK => ?_)
     refine wp_rows (L := b.batches.take k) (M := b.batches.drop (k + 1)) _ _ rfl rfl h2 rfl (by rw [List.length_drop]) (fun j u hj => by obtain ⟨ad, e, hc⟩ := H2 j u hj; exact ⟨ad, e, hEB.keep hc⟩) ((hRows.drop (k + 1)).ext hEB) (by rw [hlk, List.length_drop]; omega) (by omega) (fun v' wE h8 h9 h10 => ?_)
     obtain ⟨aE, cE, rfl⟩ := h8.len
     have hEE : Ext w5 wE := hEB.grown h9 hzB hobB
     refine hK.out _ _ (hEE.keep q1) (fun hS1 => ?_)
     clear hK hS
     have hS := hS1
     clear hS1
     try clear K
     try simp only [put_some, List.set]
     refine tk 12 hS ?_
     try simp only [List.set]
     have hlen : (b.batches.take k ++ b.batches.drop (k + 1)).length ≤ 2199023255552 := by rw [List.length_append, hlk, List.length_drop]; omega
     have HS6 := hid (HS5.out.next hEE)
     clear hS h2 h3 h4 h9 h10 hOA hRows H1 H2 hEA hEB hobB p0 p1 t0 t1 f0 f1 q0
     have q1' := HS6.out.rx.cell (i := 1) rfl
     have qf' := HS6.out.rx.frozen 1
     generalize hbs : b.batches.take k ++ b.batches.drop (k + 1) = bs at h8 hlen HF ⊢
     refine wpT_last rfl (by kernel_rfl) (by kernel_rfl) rfl (fun K hK => ?_)
     go_simp
     refine hK.out _ _ ?_
     clear hK
     have HRX := hid (HS6.out.rx.set 1 (.slice aE bs.length cE))
     have HOX1 := hid (HS6.out.o1.stored HS6.out.rx rfl 1 (.slice aE bs.length cE))
     have HOX2 := hid (h8.stored HS6.out.rx rfl rfl 1 (.slice aE bs.length cE))
     have HRR : Hid (Rec (wE.setCell ⟨X, 1, none⟩ (.slice aE bs.length cE)) (w.heap.size + 1) 26 [.slice none 0 0, .slice none 0 0]) := HS6.out.rr.kept (gb_store wE X 1 _) (fun e => by have := HS6.out.hx; simp at e; omega)
     have HEX : Hid (Ext w (wE.setCell ⟨X, 1, none⟩ (.slice aE bs.length cE))) := HS6.out.ext.setCell (by have := HS6.out.hx; show w.heap.size ≤ X; omega) _
     clear q1' qf' h8 HS5 HS6 hEE
     generalize wE.setCell ⟨X, 1, none⟩ (.slice aE bs.length cE) = wF at HRX HOX1 HOX2 HRR HEX ⊢
     have q1' := HRX.out.cell (i := 1) rfl
     have q0' := HRX.out.cell (i := 0) rfl
     have t0 := HRR.out.cell (i := 0) rfl
     have t1 := HRR.out.cell (i := 1) rfl
     have f0 := HRR.out.frozen 0
     have f1 := HRR.out.frozen 1
     go_wp2
     refine bodyPost_ret (v := .tuple #[.agg #[.slice x1 b.things.length y1, .slice aE bs.length cE], .int .i64 0]) (by simp [results, Tryz.results15, go_sem, t0, t1]) rfl (BookRes.mk HF.out (stored_book (b := ⟨b.things, bs⟩) HEX.out HRR.out (by omega) HOX1.out hb.1.short HOX2.out hlen _ _))
  ·have HF : Hid (leaveB b n = (b, 3)) := by
    have hh : hereB b n = false := hno
    show _ = _
    simp [leaveB, hok, hh]
   go_wp2_with fail
   refine bodyPost_ret (v := .tuple #[.agg #[.slice x1 b.things.length y1, .slice x2 b.batches.length y2], .int .i64 3]) (by simp [results, Tryz.results15, go_sem, t0, t1]) rfl (BookRes.mk HF.out (HS5.out.fin hb _ _))
theorem specLeave_any (b : Book) (n : Str) (a1 a2 : Option Addr) (c1 c2 : Nat) (w : World) (hb : BookAt w a1 a2 b) :
  Calls Qry.prog 15 #[.agg #[.slice a1 b.things.length c1, .slice a2 b.batches.length c2], .string (S n)] w fun e w' => BookRes w (leaveB b n) e w' :=
 (specLeave_own b n a1 a2 c1 c2 w hb).mono fun _ _ h => h.res
end
section
open Go.RowKit
attribute [local go_sem] S_toList S_size S_get
theorem one_str' (w : World) (x : Str) (h : x.length ≤ 140737488355328) : StrsAt (w.alloc (.cells #[.string (S x)] 9)) (some ⟨w.heap.size, 0, none⟩) [x] :=
 ⟨by simp, fun i hi => by
  match i, hi with
  | 0, _ => exact ⟨by simpa [nth] using h, _, 0, rfl, (Rec.new w 9 [.string (S x)]).cell rfl⟩⟩
set_option maxRecDepth 100000 in
set_option maxHeartbeats 2000000 in
theorem specLess_own (b : Book) (n : Str) (needs : List Str) (a1 a2 a3 : Option Addr) (c1 c2 c3 : Nat) (w : World) (hb : BookAt w a1 a2 b) (hns : StrsAt w a3 needs) :
  Calls Qry.prog 13 #[.agg #[.slice a1 b.things.length c1, .slice a2 b.batches.length c2], .string (S n), .slice a3 needs.length c3] w fun e w' => BookOwn w (lessB b n needs) e w' := by
 have e2 : ∀ o1 o2, Ext w ((w.alloc o1).alloc o2) := fun o1 o2 => ((Below.refl _ _).alloc (Nat.le_refl _) _).alloc (by simp) _
 have hbn := hb.2.1
 go_enter Qry.func13, Tryz.ntmps13
 go_wp2_with fail
 refine (specBookOk_any b _ _ _ _ _ (hb.ext (e2 _ _))).mono ?_
 rintro e w1 ⟨rfl, hE1⟩
 have hx0 : w1.cell? ⟨w.heap.size, 0, none⟩ = some (.slice a1 b.things.length c1) := (hE1.cell (p := ⟨w.heap.size, 0, none⟩) (by simp; omega)).trans (by simp)
 have hx1 : w1.cell? ⟨w.heap.size, 1, none⟩ = some (.slice a2 b.batches.length c2) := (hE1.cell (p := ⟨w.heap.size, 1, none⟩) (by simp; omega)).trans (by simp)
 have hx2 : w1.cell? ⟨w.heap.size + 1, 0, none⟩ = some (.slice none 0 0) := (hE1.cell (p := ⟨w.heap.size + 1, 0, none⟩) (by simp)).trans (by simp)
 have hx3 : w1.cell? ⟨w.heap.size + 1, 1, none⟩ = some (.slice none 0 0) := (hE1.cell (p := ⟨w.heap.size + 1, 1, none⟩) (by simp)).trans (by simp)
 have HR1 : Hid (Rec w1 (w.heap.size + 1) 26 [.slice none 0 0, .slice none 0 0]) := by
  have h := (Rec.new (w.alloc (.cells #[.slice a1 b.things.length c1, .slice a2 b.batches.length c2] 26)) 26 [.slice none 0 0, .slice none 0 0]).ext hE1
  have h' : Rec w1 (w.heap.size + 1) 26 [.slice none 0 0, .slice none 0 0] := by simpa using h
  exact h'
 have HE1 := hid hE1
 have HEW := hid (Ext.tr (e2 _ _) hE1)
 clear hE1
 cases hok : bookOk b
 ·have hf2 := HR1.out.frozen 0
  have hf3 := HR1.out.frozen 1
  have HF : Hid (lessB b n needs = (emptyBook, 1)) := by show _ = _; simp [lessB, hok]
  go_wp2
  rw [HF.out]
  refine bodyPost_ret (v := .tuple #[.agg #[.slice none 0 0, .slice none 0 0], .int .i64 1]) (by simp [results, Tryz.results13, go_sem, hx2, hx3]) rfl ⟨none, 0, none, 0, rfl, ?_, ⟨StrsAt.nil _ _, by simp [emptyBook], fun i hi => by simp [emptyBook] at hi⟩, World.ownsRow_nil _ _ _ _, OwnBs.nil _ _⟩
  exact (HEW.out.setCell (by simp) _).setCell (by simp) _
 ·go_wp2_with fail
  refine (l1Copy_any b _ _ _ _ _ (hb.ext HEW.out)).mono ?_
  rintro e w2 ⟨v1, v2, rfl, hE2, ho1, ho2⟩
  obtain ⟨x1, y1, rfl⟩ := own_sl ho1
  obtain ⟨x2, y2, rfl⟩ := ho2.len
  have HS := hid (EnS.mk' HE1.out hE2 ho1 ho2)
  have hx20 := HS.out.rb.cell (i := 0) rfl
  have hx21 := HS.out.rb.cell (i := 1) rfl
  clear ho1 ho2 hx0 hx1 hx2 hx3 HR1 HE1 hE2
  go_wp2_with fail
  clear hx20 hx21
  generalize w2.alloc (.cells #[.slice x1 b.things.length y1, .slice x2 b.batches.length y2] 26) = w3 at HS ⊢
  generalize w2.heap.size = X at HS ⊢
  clear HEW
  refine (l1At_any b n _ _ _ _ _ (hb.ext HS.out.ext)).mono ?_
  rintro e w5 ⟨hres, hE5⟩
  have HS5 := hid (HS.out.next hE5)
  clear hE5 HS
  obtain ⟨p0, p1, t0, t1, f0, f1, q0, q1⟩ := HS5.out.facts
  rcases hres with ⟨k, rfl, hfa⟩ | ⟨rfl, hno⟩
  ·have hh : hereB b n = true := hasB_of hfa.1 hfa.2.1
   have hw : whereB b n = k := place_of hfa
   have hkl : k < b.batches.length := by have := hfa.1; rwa [namesOf_length] at this
   have hb5 := hb.ext HS5.out.ext
   have hns5 := hns.ext HS5.out.ext
   obtain ⟨ba, oa, rfl, hl, d1, g1, d2, g2, z0, z1, z2, s1, s2⟩ := hb5.2.2 k hkl
   cases hnd : namesOk needs (nthB b.batches k).needs
   ·have HF : Hid (lessB b n needs = (b, 2)) := by show _ = _; simp [lessB, hok, hh, hw, Book.at, hnd]
    go_wp2_with (first | (go_at_call 47; refine (l1NamesOk_v _ _ _ _ _ _ _ _ hns5 s2 hnd).mono ?_; rintro e w' ⟨rfl, n4, rfl⟩))
    refine bodyPost_ret (v := .tuple #[.agg #[.slice x1 b.things.length y1, .slice x2 b.batches.length y2], .int .i64 2]) (by simp [results, Tryz.results13, go_sem, t0, t1]) rfl (BookRes.mk HF.out ((HS5.out.next (ext_drewN _ n4)).fin hb _ _))
   ·have HF : Hid (lessB b n needs = (fewerB b k needs, 0)) := by show _ = _; simp [lessB, hok, hh, hw, Book.at, hnd]
    go_upto_region 9 with (first | (go_at_call 47; refine (l1NamesOk_v _ _ _ _ _ _ _ _ hns5 s2 hnd).mono ?_; rintro e w' ⟨rfl, n4, rfl⟩))
    have HS6 := hid (HS5.out.next (ext_drewN w5 n4))
    clear HS5 p0 p1 t0 t1 f0 f1 q0 q1 hb5 hns5 z0 z1 z2 s1 s2
    generalize w5.drewN n4 = w6 at HS6 ⊢
    have HO := hid (OwnL.made w6 w6.heap.size (Nat.le_refl _))
    go_wp2_with fail
    go_loopw [10, 11] (fun v i wr => ∃ (j : Nat) (L : List Str), j ≤ (nthB b.batches k).has.length ∧ i = .int .i64 j ∧ Ext w6 wr ∧ OwnL wr w6.heap.size v L ∧ L = ((nthB b.batches k).has.take j).filter (hasB needs)) (fun _ i _ => (nthB b.batches k).has.length - (intOf i).toNat)
    case atStart => exact ⟨0, [], Nat.zero_le _, rfl, ext_alloc _ _, HO.out, by simp⟩
    case round =>
     clear HO
     obtain ⟨j, L, hj, rfl, hEr, hown, hL⟩ := hrel
     have HSr := hid (HS6.out.next hEr)
     have hbr := hb.ext HSr.out.ext
     have hnsr := hns.ext HSr.out.ext
     have hll : L.length ≤ j := by rw [hL]; exact Nat.le_trans (List.length_filter_le _ _) (by rw [List.length_take]; omega)
     obtain ⟨av, cv, rfl⟩ := own_sl hown
     have HER := hid hEr
     have HOW := hid hown
     have HL := hid hL
     clear hEr hown hL
     obtain ⟨ba', oa', e', hl', d1, g1, d2, g2, z0, z1, z2, s1, s2⟩ := hbr.2.2 k hkl
     cases e'
     have hsl := s1.1
     obtain ⟨p0, p1, t0, t1, f0, f1, q0, q1⟩ := HSr.out.facts
     have hz6 := HER.out.size
     by_cases hlt : j < (nthB b.batches k).has.length
     ·obtain ⟨hln, bb, oo, rfl, hc⟩ := s1.2 j hlt
      have htake : (nthB b.batches k).has.take (j + 1) = (nthB b.batches k).has.take j ++ [nth (nthB b.batches k).has j] := by rw [List.take_succ_eq_append_getElem hlt, nth_get hlt]
      cases hin : hasB needs (nth (nthB b.batches k).has j)
      ·go_wp2_with (go_at_call 53; refine (l1Has_v _ _ _ _ _ _ hnsr hin).mono ?_; rintro e w' ⟨rfl, rfl⟩)
       go_roundw
       case rel => exact ⟨j + 1, L, by omega, by go_num, HER.out, HOW.out, by rw [htake, List.filter_append, ← HL.out]; simp [hin]⟩
       case measure => simp [intOf]; omega
      ·have HSTR := hid (one_str' wr (nth (nthB b.batches k).has j) hln)
       go_wp2_with (first | (go_at_call 53; refine (l1Has_v _ _ _ _ _ _ hnsr hin).mono ?_; rintro e w' ⟨rfl, rfl⟩) | (at_builtin; refine wpList_strs rfl _ _ rfl rfl (HOW.out.ext (ext_alloc _ _)) (M := [nth (nthB b.batches k).has j]) rfl HSTR.out ?q1 ?q2 ?_))
       case q1 => simp; omega
       case q2 => simp; omega
       ·intro v' w2 hown hgrow hat
        have HE2 : Hid (Ext w6 w2) := (Ext.tr HER.out (ext_alloc _ _)).grown hgrow (by simp; omega) (fun g hg => (HOW.out.lt g hg).1)
        have HN := hid hown
        clear hown hgrow hat
        go_wp2
        go_roundw
        case rel => exact ⟨j + 1, L ++ [nth (nthB b.batches k).has j], by omega, by go_num, HE2.out, HN.out, by rw [htake, List.filter_append, ← HL.out]; simp [hin]⟩
        case measure => simp [intOf]; omega
     ·have hje : j = (nthB b.batches k).has.length := by omega
      have hLf : L = (nthB b.batches k).has.filter (hasB needs) := by rw [HL.out, hje, List.take_length]
      have hshort : ShortS L := by
       rw [hLf]
       refine ⟨Nat.le_trans (List.length_filter_le _ _) hsl, fun i hi => ?_⟩
       have hm : nth ((nthB b.batches k).has.filter (hasB needs)) i ∈ (nthB b.batches k).has := by
        rw [nth_get hi]
        exact (List.mem_filter.1 (List.getElem_mem hi)).1
       obtain ⟨i', hi', ei⟩ := List.getElem_of_mem hm
       rw [← ei, ← nth_get hi']
       exact (s1.2 i' hi').1
      have HLF := hid hLf
      clear hLf
      rcases HSr.out.o2.shape with ⟨rfl, h0, rfl⟩ | ⟨g, rfl, hcap, hcm, hgb⟩
      ·omega
      ·have HOW' := hid (HOW.out.low (base' := w.heap.size) (Nat.le_trans HS6.out.ext.size (Nat.le_refl _)))
       clear HOW HL HS6 HER hbr
       go_wp2_with fail
       refine wp_region_T (fun w' => w'.cell? ⟨X, 1, none⟩ = some (.slice (some ⟨g, 0, none⟩) b.batches.length y2)) 7 (by kernel_rfl) q1 (fun hS => ?_)
       refine tk 0 hS ?_
       try simp only [List.set]
       refine tk 1 hS ?_
       try simp only [List.set]
       refine tk 2 hS ?_
       try simp only [List.set]
       refine tk 3 hS ?_
       try simp only [List.set]
       refine wpT_one 4 rfl (by kernel_rfl) rfl rfl (fun K hK => ?_)
       go_simp
       refine (l1Names_any _ _ _ _ (hnsr.ext (ext_drewN wr 1))).mono ?_
       rintro e wC ⟨u1, rfl, hEC, hoC⟩
       obtain ⟨xC, yC, rfl⟩ := own_sl hoC
       go_wp2_with fail
       refine hK.out _ _ (hEC.keep hS) (fun hS1 => ?_)
       clear hK hS
       have hS := hS1
       clear hS1
       try clear K
       try simp only [put_some, List.set]
       refine wpT_one 5 rfl (by kernel_rfl) rfl rfl (fun K hK => ?_)
       go_simp
       refine hK.out _ _ hS (fun hS1 => ?_)
       clear hK hS
       have hS := hS1
       clear hS1
       try clear K
       try simp only [put_some, List.set]
       refine wpT_one 6 rfl (by kernel_rfl) rfl rfl (fun K hK => ?_)
       go_simp
       refine hK.out _ _ hS (fun hS1 => ?_)
       clear hK hS
       have hS := hS1
       clear hS1
       try clear K
       try simp only [put_some, List.set]
       have hzr := HSr.out.ext.size
       have HX := hid ((HSr.out.xs.next (ext_drewN wr 1)).next hEC)
       have HOC := hid (hoC.low (base' := w.heap.size) hzr)
       have HOW2 := hid ((HOW'.out.ext (ext_drewN wr 1)).ext hEC)
       obtain ⟨_, ⟨un, hun, _⟩, _, hf2⟩ := HX.out.o2.cells hkl
       clear hoC hEC hS HSr HOW' z0 z1 z2 s1 s2 p0 p1 t0 t1 f0 f1 q0 q1 hnsr
       refine wpT_last rfl (by kernel_rfl) (by kernel_rfl) rfl (fun K hK => ?_)
       go_simp
       refine hK.out _ _ ?_
       clear hK hun hf2
       have HX1 := hid (HX.out.store (b' := ⟨b.things, b.batches.set k ⟨(nthB b.batches k).name, (nthB b.batches k).has, needs⟩⟩) rfl (by simp) (HX.out.o2.putNeeds rfl hkl HOC.out hns.short))
       have HOW3 := hid (HX.out.keepL (i := k * 3 + 2) (u := .slice xC needs.length yC) HOW2.out)
       clear HX HOC HOW2
       generalize wC.setCell ⟨g, k * 3 + 2, none⟩ (.slice xC needs.length yC) = wD at HX1 HOW3 ⊢
       have hkl1 : k < (b.batches.set k ⟨(nthB b.batches k).name, (nthB b.batches k).has, needs⟩).length := by simpa using hkl
       obtain ⟨⟨uh, huh, _⟩, _, hf1, _⟩ := HX1.out.o2.cells hkl1
       have q1 := HX1.out.rx.cell (i := 1) rfl
       simp only [List.length_set] at q1
       have hfb : (fewerB b k needs).batches = b.batches.set k ⟨(nthB b.batches k).name, L, needs⟩ := by rw [HLF.out]; rfl
       have HX2 := hid (HX1.out.store (b' := fewerB b k needs) (u := .slice av L.length cv) (i := k * 3 + 1) rfl (by simp [fewerB]) (by
        have h := HX1.out.o2.putHas rfl hkl1 HOW3.out hshort
        simp only [List.set_set, nthB_get hkl1, List.getElem_set_self] at h
        rw [hfb]
        exact h))
       have hfl : (fewerB b k needs).batches.length = b.batches.length := by simp [fewerB]
       have qq0 : (wD.setCell ⟨g, k * 3 + 1, none⟩ (.slice av L.length cv)).cell? ⟨X, 0, none⟩ = some (.slice x1 b.things.length y1) := HX2.out.rx.cell rfl
       have qq1 : (wD.setCell ⟨g, k * 3 + 1, none⟩ (.slice av L.length cv)).cell? ⟨X, 1, none⟩ = some (.slice (some ⟨g, 0, none⟩) b.batches.length y2) := by rw [← hfl]; exact HX2.out.rx.cell rfl
       clear HX1 HOW3
       go_wp2_with fail
       clear qq0 qq1 huh hf1 q1
       generalize wD.setCell ⟨g, k * 3 + 1, none⟩ (.slice av L.length cv) = wE at HX2 ⊢
       have hC := l1Copy_any (fewerB b k needs) x1 (some ⟨g, 0, none⟩) y1 y2 wE (HX2.out.at hb.1.short (by rw [hfl]; exact hbn))
       rw [hfl] at hC
       refine hC.mono ?_
       clear hC
       rintro e wG ⟨v1, v2, rfl, hEG, ho1, ho2⟩
       obtain ⟨m1, z1', rfl⟩ := own_sl ho1
       obtain ⟨m2, z2', rfl⟩ := ho2.len
       have HEG := hid (Ext.tr HX2.out.ext hEG)
       have HRG := hid (HX2.out.rr.ext hEG)
       have HO1 := hid (ho1.low HX2.out.ext.size)
       have HO2 := hid (ho2.low HX2.out.ext.size)
       clear ho1 ho2 hEG HX2
       have t0 := HRG.out.cell (i := 0) rfl
       have t1 := HRG.out.cell (i := 1) rfl
       have f0 := HRG.out.frozen 0
       have f1 := HRG.out.frozen 1
       go_wp2
       refine bodyPost_ret (v := .tuple #[.agg #[.slice m1 (fewerB b k needs).things.length z1', .slice m2 (fewerB b k needs).batches.length z2'], .int .i64 0]) (by simp [results, Tryz.results13, go_sem, t0, t1, hfl]) rfl (BookRes.mk HF.out (stored_book (b := fewerB b k needs) HEG.out HRG.out (by omega) HO1.out hb.1.short HO2.out (by rw [hfl]; exact hbn) _ _))
  ·have HF : Hid (lessB b n needs = (b, 3)) := by
    have hh : hereB b n = false := hno
    show _ = _
    simp [lessB, hok, hh]
   go_wp2_with fail
   refine bodyPost_ret (v := .tuple #[.agg #[.slice x1 b.things.length y1, .slice x2 b.batches.length y2], .int .i64 3]) (by simp [results, Tryz.results13, go_sem, t0, t1]) rfl (BookRes.mk HF.out (HS5.out.fin hb _ _))
theorem specLess_any (b : Book) (n : Str) (needs : List Str) (a1 a2 a3 : Option Addr) (c1 c2 c3 : Nat) (w : World) (hb : BookAt w a1 a2 b) (hns : StrsAt w a3 needs) :
  Calls Qry.prog 13 #[.agg #[.slice a1 b.things.length c1, .slice a2 b.batches.length c2], .string (S n), .slice a3 needs.length c3] w fun e w' => BookRes w (lessB b n needs) e w' :=
 (specLess_own b n needs a1 a2 a3 c1 c2 c3 w hb hns).mono fun _ _ h => h.res
end
end Go.Proofs.YtdafpnpfcmgfcaaGreatDoor
