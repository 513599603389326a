/- The walk over the specification's ShareLeave. -/
import Derived.Test.YtdafpnpfcmgfcabGreatDoorSA
namespace Go.Proofs.YtdafpnpfcmgfcabGreatDoor
open Go.RowKit
attribute [local go_sem] S_toList S_size S_get

set_option maxRecDepth 100000 in
set_option maxHeartbeats 2000000 in
theorem specLeave_any (b : Book) (n : Str) (a1 a2 : Option Addr) (c1 c2 : Nat) (w : World) (hb : BookAt w a1 a2 b) :
    Calls Tryz.prog 19 #[.agg #[.slice a1 b.things.length c1, .slice a2 b.batches.length c2], .string (S n)] w fun e w' => BookRes w (leaveB b n) e w' := by
  have e2 : ∀ o1 o2, Ext w ((w.alloc o1).alloc o2) := fun o1 o2 => ((Below.refl _ _).alloc (Nat.le_refl _) _).alloc (by simp) _
  have hbn := hb.2.1
  go_enter Tryz.func19, Tryz.ntmps19
  go_wp2_with fail
  refine (specBookOk_any b _ _ _ _ _ (hb.ext (e2 _ _))).mono ?_
  rintro e w1 ⟨rfl, hE1⟩
  have hx0 : w1.cell? ⟨w.heap.size, 0, none⟩ = some (.slice a1 b.things.length c1) := (hE1.cell (p := ⟨w.heap.size, 0, none⟩) (by simp; omega)).trans (by simp)
  have hx1 : w1.cell? ⟨w.heap.size, 1, none⟩ = some (.slice a2 b.batches.length c2) := (hE1.cell (p := ⟨w.heap.size, 1, none⟩) (by simp; omega)).trans (by simp)
  have hx2 : w1.cell? ⟨w.heap.size + 1, 0, none⟩ = some (.slice none 0 0) := (hE1.cell (p := ⟨w.heap.size + 1, 0, none⟩) (by simp)).trans (by simp)
  have hx3 : w1.cell? ⟨w.heap.size + 1, 1, none⟩ = some (.slice none 0 0) := (hE1.cell (p := ⟨w.heap.size + 1, 1, none⟩) (by simp)).trans (by simp)
  have HR1 : Hid (Rec w1 (w.heap.size + 1) 30 [.slice none 0 0, .slice none 0 0]) := by
    have h := (Rec.new (w.alloc (.cells #[.slice a1 b.things.length c1, .slice a2 b.batches.length c2] 30)) 30 [.slice none 0 0, .slice none 0 0]).ext hE1
    have h' : Rec w1 (w.heap.size + 1) 30 [.slice none 0 0, .slice none 0 0] := by simpa using h
    exact h'
  have HE1 := hid hE1
  have HEW := hid (Ext.tr (e2 _ _) hE1)
  clear hE1
  cases hok : bookOk b
  · have hf2 := HR1.out.frozen 0
    have hf3 := HR1.out.frozen 1
    have HF : Hid (leaveB b n = (emptyBook, 1)) := by show _ = _; simp [leaveB, hok]
    go_wp2
    rw [HF.out]
    refine bodyPost_ret (v := .tuple #[.agg #[.slice none 0 0, .slice none 0 0], .int .i64 1]) (by simp [results, Tryz.results19, go_sem, hx2, hx3]) rfl ⟨none, 0, none, 0, rfl, ?_, StrsAt.nil _ _, by simp [emptyBook], fun i hi => by simp [emptyBook] at hi⟩
    exact (HEW.out.setCell (by simp) _).setCell (by simp) _
  · go_wp2_with fail
    refine (l1Copy_any b _ _ _ _ _ (hb.ext HEW.out)).mono ?_
    rintro e w2 ⟨v1, v2, rfl, hE2, ho1, ho2⟩
    obtain ⟨x1, y1, rfl⟩ := own_sl ho1
    obtain ⟨x2, y2, rfl⟩ := ho2.len
    have HS := hid (EnS.mk' HE1.out hE2 ho1 ho2)
    have hx20 := HS.out.rb.cell (i := 0) rfl
    have hx21 := HS.out.rb.cell (i := 1) rfl
    clear ho1 ho2 hx0 hx1 hx2 hx3 HR1 HE1 hE2
    go_wp2_with fail
    clear hx20 hx21
    generalize w2.alloc (.cells #[.slice x1 b.things.length y1, .slice x2 b.batches.length y2] 30) = w3 at HS ⊢
    generalize w2.heap.size = X at HS ⊢
    clear HEW
    refine (l1At_any b n _ _ _ _ _ (hb.ext HS.out.ext)).mono ?_
    rintro e w5 ⟨hres, hE5⟩
    have HS5 := hid (HS.out.next hE5)
    clear hE5 HS
    obtain ⟨p0, p1, t0, t1, f0, f1, q0, q1⟩ := HS5.out.facts
    rcases hres with ⟨k, rfl, hfa⟩ | ⟨rfl, hno⟩
    · have hh : hereB b n = true := hasB_of hfa.1 hfa.2.1
      have hw : whereB b n = k := place_of hfa
      have hkl : k < b.batches.length := by have := hfa.1; rwa [namesOf_length] at this
      have HF : Hid (leaveB b n = (⟨b.things, b.batches.take k ++ b.batches.drop (k + 1)⟩, 0)) := by show _ = _; simp [leaveB, hok, hh, hw]
      have hlk : (b.batches.take k).length = k := by rw [List.length_take]; omega
      obtain ⟨rs, hRows, hcells⟩ := HS5.out.o2.rows
      have hrl := hRows.1
      rcases HS5.out.o2.shape with ⟨rfl, h0, rfl⟩ | ⟨g, rfl, hcap, hcm, hgb⟩
      · omega
      · have hky : k ≤ y2 := by omega
        have hky1 : k + 1 ≤ y2 := by omega
        have H1 : ∀ (j : Nat) u, (cellsOf (rs.take k))[j]? = some u → ∃ ad, some (⟨g, 0, none⟩ : Addr) = some ad ∧ w5.cell? (ad.add j) = some u := fun j u hj => by
          obtain ⟨g', e, hc⟩ := hcells j u (cellsOf_take hj)
          cases e
          exact ⟨_, rfl, by rw [add_plain, Nat.zero_add]; exact hc⟩
        by_cases hyk : y2 = k + 1
        · have HYK := hid hyk
          clear hyk
          have H2 : ∀ (j : Nat) u, (cellsOf (rs.drop (k + 1)))[j]? = some u → ∃ ad, some (⟨g, 0, none⟩ : Addr) = some ad ∧ w5.cell? (ad.add j) = some u := fun j u hj => by
            have e0 : rs.drop (k + 1) = [] := List.drop_eq_nil_of_le (by have := HYK.out; omega)
            rw [e0] at hj; simp [cellsOf] at hj
          clear hcells
          go_wp2_with fail
          refine wp_region_T (fun w' => w'.cell? ⟨X, 1, none⟩ = some (.slice (some ⟨g, 0, none⟩) b.batches.length y2)) 13 (by kernel_rfl) q1 (fun hS => ?_)
          refine wpT_take 1 (v := ?_) rfl rfl (by kernel_rfl) (by kernel_rfl) (by kernel_rfl) (by kernel_rfl) (fun _ _ _ h => h) hS rfl (by intro w0 hw0; (try dsimp only at hw0); go_simp; try rfl) ?_
          try simp only [List.set]
          refine wpT_take 2 (v := ?_) rfl rfl (by kernel_rfl) (by kernel_rfl) (by kernel_rfl) (by kernel_rfl) (fun _ _ _ h => h) hS rfl (by intro w0 hw0; (try dsimp only at hw0); go_simp; try rfl) ?_
          try simp only [List.set]
          refine wpT_take 3 (v := ?_) rfl rfl (by kernel_rfl) (by kernel_rfl) (by kernel_rfl) (by kernel_rfl) (fun _ _ _ h => h) hS rfl (by intro w0 hw0; (try dsimp only at hw0); go_simp; try rfl) ?_
          try simp only [List.set]
          refine wpT_take 4 (v := ?_) rfl rfl (by kernel_rfl) (by kernel_rfl) (by kernel_rfl) (by kernel_rfl) (fun _ _ _ h => h) hS rfl (by intro w0 hw0; (try dsimp only at hw0); go_simp; try rfl) ?_
          try simp only [List.set]
          refine wpT_take 6 (v := ?_) rfl rfl (by kernel_rfl) (by kernel_rfl) (by kernel_rfl) (by kernel_rfl) (fun _ _ _ h => h) hS rfl (by intro w0 hw0; (try dsimp only at hw0); go_simp; try rfl) ?_
          try simp only [List.set]
          refine wpT_take 7 (v := ?_) rfl rfl (by kernel_rfl) (by kernel_rfl) (by kernel_rfl) (by kernel_rfl) (fun _ _ _ h => h) hS rfl (by intro w0 hw0; (try dsimp only at hw0); go_simp; try rfl) ?_
          try simp only [List.set]
          refine wpT_take 8 (v := ?_) rfl rfl (by kernel_rfl) (by kernel_rfl) (by kernel_rfl) (by kernel_rfl) (fun _ _ _ h => h) hS rfl (by intro w0 hw0; (try dsimp only at hw0); go_simp; try rfl) ?_
          try simp only [List.set]
          refine wpT_take 9 (v := .int .i64 ((k : Int) + 1)) rfl rfl (by kernel_rfl) (by kernel_rfl) (by kernel_rfl) (by kernel_rfl) (fun _ _ _ h => h) hS rfl (by intro w0 hw0; (try dsimp only at hw0); go_simp; exact wrapS (by omega) (by omega)) ?_
          try simp only [List.set]
          refine wpT_take 10 (v := .slice (some ⟨g, 0, none⟩) (b.batches.length - (k + 1)) (y2 - (k + 1))) rfl rfl (by kernel_rfl) (by kernel_rfl) (by kernel_rfl) (by kernel_rfl) (fun _ _ _ h => h) hS rfl (by intro w0 hw0; (try dsimp only at hw0); go_simp; rw [if_pos (by omega), if_pos HYK.out]) ?_
          try simp only [List.set]
          refine wpT_one 0 rfl (by kernel_rfl) rfl rfl (fun K hK => ?_)
          go_simp
          refine hK.out _ _ ((ext_alloc _ _).keep hS) (fun hS1 => ?_)
          clear hK hS
          have hS := hS1
          clear hS1
          try clear K
          try simp only [put_some, List.set]
          have hEA : Ext w5 (w5.drew.alloc (.cells #[] 46)) := Ext.tr (ext_drewN w5 1) (ext_alloc _ _)
          have hwz : w.heap.size ≤ w5.heap.size := HS5.out.ext.size
          have hOA : OwnBs (w5.drew.alloc (.cells #[] 46)) w.heap.size (.slice (some ⟨w5.heap.size, 0, none⟩) 0 0) [] := OwnBs.made w5.drew w.heap.size hwz
          refine wpT_one 5 rfl (by kernel_rfl) rfl rfl (fun K hK => ?_)
          refine wp_rows (L := []) (M := b.batches.take k) _ _ rfl rfl hOA rfl hlk (fun j u hj => by obtain ⟨ad, e, hc⟩ := H1 j u hj; exact ⟨ad, e, hEA.keep hc⟩) ((hRows.take k).ext hEA) (by first | (simp; done) | (simp; omega)) (by first | (simp; done) | (simp; omega)) (fun v' wB h2 h3 h4 => ?_)
          rw [List.nil_append] at h2
          obtain ⟨aB, cB, rfl⟩ := h2.len
          rw [hlk] at h2 h4 ⊢
          have hobB : ∀ g', (Value.slice aB k cB).ownBlock = some g' → w5.heap.size ≤ g' := fun g' e => by
            rcases h4 with h4 | h4
            · rw [h4] at e
              have e' : w5.heap.size = g' := Option.some.inj e
              omega
            · rw [h4] at e
              have e' : (w5.drew.alloc (.cells #[] 46)).heap.size = g' := Option.some.inj e
              simp at e'
              omega
          have hEB : Ext w5 wB := hEA.grown h3 (by simp) (fun g' e => by have e' : w5.heap.size = g' := Option.some.inj e; omega)
          refine hK.out _ _ (hEB.keep q1) (fun hS1 => ?_)
          clear hK hS
          have hS := hS1
          clear hS1
          try clear K
          try simp only [put_some, List.set]
          have hzB := hEB.size
          refine wpT_one 11 rfl (by kernel_rfl) rfl rfl (fun K hK => ?_)
          refine wp_rows (L := b.batches.take k) (M := b.batches.drop (k + 1)) _ _ rfl rfl h2 rfl (by rw [List.length_drop]) (fun j u hj => by obtain ⟨ad, e, hc⟩ := H2 j u hj; exact ⟨ad, e, hEB.keep hc⟩) ((hRows.drop (k + 1)).ext hEB) (by rw [hlk, List.length_drop]; omega) (by omega) (fun v' wE h8 h9 h10 => ?_)
          obtain ⟨aE, cE, rfl⟩ := h8.len
          have hEE : Ext w5 wE := hEB.grown h9 hzB hobB
          refine hK.out _ _ (hEE.keep q1) (fun hS1 => ?_)
          clear hK hS
          have hS := hS1
          clear hS1
          try clear K
          try simp only [put_some, List.set]
          refine wpT_take 12 (v := ?_) rfl rfl (by kernel_rfl) (by kernel_rfl) (by kernel_rfl) (by kernel_rfl) (fun _ _ _ h => h) hS rfl (by intro w0 hw0; (try dsimp only at hw0); go_simp; try rfl) ?_
          try simp only [List.set]
          have hlen : (b.batches.take k ++ b.batches.drop (k + 1)).length ≤ 2199023255552 := by rw [List.length_append, hlk, List.length_drop]; omega
          have HS6 := hid (HS5.out.next hEE)
          clear hS h2 h3 h4 h9 h10 hOA hRows H1 H2 hEA hEB hobB p0 p1 t0 t1 f0 f1 q0
          have q1' := HS6.out.rx.cell (i := 1) rfl
          have qf' := HS6.out.rx.frozen 1
          generalize hbs : b.batches.take k ++ b.batches.drop (k + 1) = bs at h8 hlen HF ⊢
          refine wpT_last rfl (by kernel_rfl) (by kernel_rfl) rfl (fun K hK => ?_)
          go_simp
          refine hK.out _ _ ?_
          clear hK
          have HRX := hid (HS6.out.rx.set 1 (.slice aE bs.length cE))
          have HOX1 := hid (HS6.out.o1.stored HS6.out.rx rfl 1 (.slice aE bs.length cE))
          have HOX2 := hid (h8.stored HS6.out.rx rfl rfl 1 (.slice aE bs.length cE))
          have HRR : Hid (Rec (wE.setCell ⟨X, 1, none⟩ (.slice aE bs.length cE)) (w.heap.size + 1) 30 [.slice none 0 0, .slice none 0 0]) := HS6.out.rr.kept (gb_store wE X 1 _) (fun e => by have := HS6.out.hx; simp at e; omega)
          have HEX : Hid (Ext w (wE.setCell ⟨X, 1, none⟩ (.slice aE bs.length cE))) := HS6.out.ext.setCell (by have := HS6.out.hx; show w.heap.size ≤ X; omega) _
          clear q1' qf' h8 HS5 HS6 hEE
          generalize wE.setCell ⟨X, 1, none⟩ (.slice aE bs.length cE) = wF at HRX HOX1 HOX2 HRR HEX ⊢
          have q1' := HRX.out.cell (i := 1) rfl
          have q0' := HRX.out.cell (i := 0) rfl
          have t0 := HRR.out.cell (i := 0) rfl
          have t1 := HRR.out.cell (i := 1) rfl
          have f0 := HRR.out.frozen 0
          have f1 := HRR.out.frozen 1
          go_wp2
          refine bodyPost_ret (v := .tuple #[.agg #[.slice x1 b.things.length y1, .slice aE bs.length cE], .int .i64 0]) (by simp [results, Tryz.results19, go_sem, t0, t1]) rfl (BookRes.mk HF.out (stored_book (b := ⟨b.things, bs⟩) HEX.out HRR.out (by omega) HOX1.out hb.1.short HOX2.out hlen _ _))
        · have H2 : ∀ (j : Nat) u, (cellsOf (rs.drop (k + 1)))[j]? = some u → ∃ ad, some (⟨g, (k + 1) * 3, none⟩ : Addr) = some ad ∧ w5.cell? (ad.add j) = some u := fun j u hj => by
            obtain ⟨g', e, hc⟩ := hcells _ u (cellsOf_drop (by omega) hj)
            cases e
            exact ⟨_, rfl, by rw [add_plain]; exact hc⟩
          clear hcells
          go_wp2_with fail
          refine wp_region_T (fun w' => w'.cell? ⟨X, 1, none⟩ = some (.slice (some ⟨g, 0, none⟩) b.batches.length y2)) 13 (by kernel_rfl) q1 (fun hS => ?_)
          refine wpT_take 1 (v := ?_) rfl rfl (by kernel_rfl) (by kernel_rfl) (by kernel_rfl) (by kernel_rfl) (fun _ _ _ h => h) hS rfl (by intro w0 hw0; (try dsimp only at hw0); go_simp; try rfl) ?_
          try simp only [List.set]
          refine wpT_take 2 (v := ?_) rfl rfl (by kernel_rfl) (by kernel_rfl) (by kernel_rfl) (by kernel_rfl) (fun _ _ _ h => h) hS rfl (by intro w0 hw0; (try dsimp only at hw0); go_simp; try rfl) ?_
          try simp only [List.set]
          refine wpT_take 3 (v := ?_) rfl rfl (by kernel_rfl) (by kernel_rfl) (by kernel_rfl) (by kernel_rfl) (fun _ _ _ h => h) hS rfl (by intro w0 hw0; (try dsimp only at hw0); go_simp; try rfl) ?_
          try simp only [List.set]
          refine wpT_take 4 (v := ?_) rfl rfl (by kernel_rfl) (by kernel_rfl) (by kernel_rfl) (by kernel_rfl) (fun _ _ _ h => h) hS rfl (by intro w0 hw0; (try dsimp only at hw0); go_simp; try rfl) ?_
          try simp only [List.set]
          refine wpT_take 6 (v := ?_) rfl rfl (by kernel_rfl) (by kernel_rfl) (by kernel_rfl) (by kernel_rfl) (fun _ _ _ h => h) hS rfl (by intro w0 hw0; (try dsimp only at hw0); go_simp; try rfl) ?_
          try simp only [List.set]
          refine wpT_take 7 (v := ?_) rfl rfl (by kernel_rfl) (by kernel_rfl) (by kernel_rfl) (by kernel_rfl) (fun _ _ _ h => h) hS rfl (by intro w0 hw0; (try dsimp only at hw0); go_simp; try rfl) ?_
          try simp only [List.set]
          refine wpT_take 8 (v := ?_) rfl rfl (by kernel_rfl) (by kernel_rfl) (by kernel_rfl) (by kernel_rfl) (fun _ _ _ h => h) hS rfl (by intro w0 hw0; (try dsimp only at hw0); go_simp; try rfl) ?_
          try simp only [List.set]
          refine wpT_take 9 (v := .int .i64 ((k : Int) + 1)) rfl rfl (by kernel_rfl) (by kernel_rfl) (by kernel_rfl) (by kernel_rfl) (fun _ _ _ h => h) hS rfl (by intro w0 hw0; (try dsimp only at hw0); go_simp; exact wrapS (by omega) (by omega)) ?_
          try simp only [List.set]
          refine wpT_take 10 (v := .slice (some ⟨g, (k + 1) * 3, none⟩) (b.batches.length - (k + 1)) (y2 - (k + 1))) rfl rfl (by kernel_rfl) (by kernel_rfl) (by kernel_rfl) (by kernel_rfl) (fun _ _ _ h => h) hS rfl (by intro w0 hw0; (try dsimp only at hw0); go_simp; intro h; have := h (by omega); omega) ?_
          try simp only [List.set]
          refine wpT_one 0 rfl (by kernel_rfl) rfl rfl (fun K hK => ?_)
          go_simp
          refine hK.out _ _ ((ext_alloc _ _).keep hS) (fun hS1 => ?_)
          clear hK hS
          have hS := hS1
          clear hS1
          try clear K
          try simp only [put_some, List.set]
          have hEA : Ext w5 (w5.drew.alloc (.cells #[] 46)) := Ext.tr (ext_drewN w5 1) (ext_alloc _ _)
          have hwz : w.heap.size ≤ w5.heap.size := HS5.out.ext.size
          have hOA : OwnBs (w5.drew.alloc (.cells #[] 46)) w.heap.size (.slice (some ⟨w5.heap.size, 0, none⟩) 0 0) [] := OwnBs.made w5.drew w.heap.size hwz
          refine wpT_one 5 rfl (by kernel_rfl) rfl rfl (fun K hK => ?_)
          refine wp_rows (L := []) (M := b.batches.take k) _ _ rfl rfl hOA rfl hlk (fun j u hj => by obtain ⟨ad, e, hc⟩ := H1 j u hj; exact ⟨ad, e, hEA.keep hc⟩) ((hRows.take k).ext hEA) (by first | (simp; done) | (simp; omega)) (by first | (simp; done) | (simp; omega)) (fun v' wB h2 h3 h4 => ?_)
          rw [List.nil_append] at h2
          obtain ⟨aB, cB, rfl⟩ := h2.len
          rw [hlk] at h2 h4 ⊢
          have hobB : ∀ g', (Value.slice aB k cB).ownBlock = some g' → w5.heap.size ≤ g' := fun g' e => by
            rcases h4 with h4 | h4
            · rw [h4] at e
              have e' : w5.heap.size = g' := Option.some.inj e
              omega
            · rw [h4] at e
              have e' : (w5.drew.alloc (.cells #[] 46)).heap.size = g' := Option.some.inj e
              simp at e'
              omega
          have hEB : Ext w5 wB := hEA.grown h3 (by simp) (fun g' e => by have e' : w5.heap.size = g' := Option.some.inj e; omega)
          refine hK.out _ _ (hEB.keep q1) (fun hS1 => ?_)
          clear hK hS
          have hS := hS1
          clear hS1
          try clear K
          try simp only [put_some, List.set]
          have hzB := hEB.size
          refine wpT_one 11 rfl (by kernel_rfl) rfl rfl (fun K hK => ?_)
          refine wp_rows (L := b.batches.take k) (M := b.batches.drop (k + 1)) _ _ rfl rfl h2 rfl (by rw [List.length_drop]) (fun j u hj => by obtain ⟨ad, e, hc⟩ := H2 j u hj; exact ⟨ad, e, hEB.keep hc⟩) ((hRows.drop (k + 1)).ext hEB) (by rw [hlk, List.length_drop]; omega) (by omega) (fun v' wE h8 h9 h10 => ?_)
          obtain ⟨aE, cE, rfl⟩ := h8.len
          have hEE : Ext w5 wE := hEB.grown h9 hzB hobB
          refine hK.out _ _ (hEE.keep q1) (fun hS1 => ?_)
          clear hK hS
          have hS := hS1
          clear hS1
          try clear K
          try simp only [put_some, List.set]
          refine wpT_take 12 (v := ?_) rfl rfl (by kernel_rfl) (by kernel_rfl) (by kernel_rfl) (by kernel_rfl) (fun _ _ _ h => h) hS rfl (by intro w0 hw0; (try dsimp only at hw0); go_simp; try rfl) ?_
          try simp only [List.set]
          have hlen : (b.batches.take k ++ b.batches.drop (k + 1)).length ≤ 2199023255552 := by rw [List.length_append, hlk, List.length_drop]; omega
          have HS6 := hid (HS5.out.next hEE)
          clear hS h2 h3 h4 h9 h10 hOA hRows H1 H2 hEA hEB hobB p0 p1 t0 t1 f0 f1 q0
          have q1' := HS6.out.rx.cell (i := 1) rfl
          have qf' := HS6.out.rx.frozen 1
          generalize hbs : b.batches.take k ++ b.batches.drop (k + 1) = bs at h8 hlen HF ⊢
          refine wpT_last rfl (by kernel_rfl) (by kernel_rfl) rfl (fun K hK => ?_)
          go_simp
          refine hK.out _ _ ?_
          clear hK
          have HRX := hid (HS6.out.rx.set 1 (.slice aE bs.length cE))
          have HOX1 := hid (HS6.out.o1.stored HS6.out.rx rfl 1 (.slice aE bs.length cE))
          have HOX2 := hid (h8.stored HS6.out.rx rfl rfl 1 (.slice aE bs.length cE))
          have HRR : Hid (Rec (wE.setCell ⟨X, 1, none⟩ (.slice aE bs.length cE)) (w.heap.size + 1) 30 [.slice none 0 0, .slice none 0 0]) := HS6.out.rr.kept (gb_store wE X 1 _) (fun e => by have := HS6.out.hx; simp at e; omega)
          have HEX : Hid (Ext w (wE.setCell ⟨X, 1, none⟩ (.slice aE bs.length cE))) := HS6.out.ext.setCell (by have := HS6.out.hx; show w.heap.size ≤ X; omega) _
          clear q1' qf' h8 HS5 HS6 hEE
          generalize wE.setCell ⟨X, 1, none⟩ (.slice aE bs.length cE) = wF at HRX HOX1 HOX2 HRR HEX ⊢
          have q1' := HRX.out.cell (i := 1) rfl
          have q0' := HRX.out.cell (i := 0) rfl
          have t0 := HRR.out.cell (i := 0) rfl
          have t1 := HRR.out.cell (i := 1) rfl
          have f0 := HRR.out.frozen 0
          have f1 := HRR.out.frozen 1
          go_wp2
          refine bodyPost_ret (v := .tuple #[.agg #[.slice x1 b.things.length y1, .slice aE bs.length cE], .int .i64 0]) (by simp [results, Tryz.results19, go_sem, t0, t1]) rfl (BookRes.mk HF.out (stored_book (b := ⟨b.things, bs⟩) HEX.out HRR.out (by omega) HOX1.out hb.1.short HOX2.out hlen _ _))
    · have HF : Hid (leaveB b n = (b, 3)) := by
        have hh : hereB b n = false := hno
        show _ = _
        simp [leaveB, hok, hh]
      go_wp2_with fail
      refine bodyPost_ret (v := .tuple #[.agg #[.slice x1 b.things.length y1, .slice x2 b.batches.length y2], .int .i64 3]) (by simp [results, Tryz.results19, go_sem, t0, t1]) rfl (BookRes.mk HF.out (HS5.out.fin hb _ _))
end Go.Proofs.YtdafpnpfcmgfcabGreatDoor
