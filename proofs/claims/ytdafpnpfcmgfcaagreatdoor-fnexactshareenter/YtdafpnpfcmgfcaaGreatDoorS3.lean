/- The walk over the specification's l1Copy. -/
import Derived.Test.YtdafpnpfcmgfcaaGreatDoorS2
namespace Go.Proofs.YtdafpnpfcmgfcaaGreatDoor
open Go.RowKit
attribute [local go_sem] S_toList S_size S_get

set_option maxRecDepth 100000 in
set_option maxHeartbeats 1000000 in
theorem l1Copy_any (b : Book) (a1 a2 : Option Addr) (c1 c2 : Nat) (w : World) (hb : BookAt w a1 a2 b) :
    Calls Tryz.prog 45 #[.agg #[.slice a1 b.things.length c1, .slice a2 b.batches.length c2]] w fun e w' =>
      ∃ v1 v2, e = .returned (.agg #[v1, v2]) ∧ Ext w w' ∧ OwnL w' w.heap.size v1 b.things ∧ OwnBs w' w.heap.size v2 b.batches := by
  have hn := hb.2.1
  have e2 : ∀ o1 o2, Ext w ((w.alloc o1).alloc o2) := fun o1 o2 => ((Below.refl _ _).alloc (Nat.le_refl _) _).alloc (by simp) _
  go_enter Tryz.func45, Tryz.ntmps45
  go_wp2_with fail
  refine (l1Names_any _ _ _ _ (hb.1.ext (e2 _ _))).mono ?_
  rintro e w1 ⟨v1, rfl, hE1, ho1⟩
  obtain ⟨x1, y1, rfl⟩ := own_sl ho1
  have HE1 := hid (Ext.tr (e2 _ _) hE1)
  have HO1 := hid ho1
  have hx0 : w1.cell? ⟨w.heap.size, 0, none⟩ = some (.slice a1 b.things.length c1) := (hE1.cell (p := ⟨w.heap.size, 0, none⟩) (by simp; omega)).trans (by simp)
  have hx1 : w1.cell? ⟨w.heap.size, 1, none⟩ = some (.slice a2 b.batches.length c2) := (hE1.cell (p := ⟨w.heap.size, 1, none⟩) (by simp; omega)).trans (by simp)
  have HR2 : Hid (Rec w1 (w.heap.size + 1) 26 [.slice none 0 0, .slice none 0 0]) := by
    have h := (Rec.new (w.alloc (.cells #[.slice a1 b.things.length c1, .slice a2 b.batches.length c2] 26)) 26 [.slice none 0 0, .slice none 0 0]).ext hE1
    have h' : Rec w1 (w.heap.size + 1) 26 [.slice none 0 0, .slice none 0 0] := by simpa using h
    exact h'
  have hz1 := hE1.size
  simp at hz1
  clear hE1 ho1
  go_wp2_with fail
  have HR1 : Hid (Rec (w1.alloc (.cells #[.slice x1 b.things.length y1, .slice none 0 0] 26)) w1.heap.size 26 [.slice x1 b.things.length y1, .slice none 0 0]) := Rec.new w1 _ _
  have HB1 : Hid (Below w1.heap.size w1 (w1.alloc (.cells #[.slice x1 b.things.length y1, .slice none 0 0] 26))) := (Below.refl _ _).alloc (Nat.le_refl _) _
  go_loopw [4] (fun i wr => ∃ (k : Nat) (v2 : Value), k ≤ b.batches.length ∧ i = .int .i64 k ∧ Below w1.heap.size w1 wr ∧ Rec wr w1.heap.size 26 [.slice x1 b.things.length y1, v2] ∧ OwnBs wr (w1.heap.size + 1) v2 (b.batches.take k)) (fun i _ => b.batches.length - (intOf i).toNat)
  case atStart => exact ⟨0, _, Nat.zero_le _, rfl, HB1.out, HR1.out, by simpa using OwnBs.nil _ _⟩
  case round =>
    clear HR1 HB1
    obtain ⟨k, v2, hk, rfl, hbel, hrec, hown⟩ := hrel
    have hy0 : wr.cell? ⟨w.heap.size, 0, none⟩ = some (.slice a1 b.things.length c1) := (hbel.cell (p := ⟨w.heap.size, 0, none⟩) (by simp; omega)).trans hx0
    have hy1 : wr.cell? ⟨w.heap.size, 1, none⟩ = some (.slice a2 b.batches.length c2) := (hbel.cell (p := ⟨w.heap.size, 1, none⟩) (by simp; omega)).trans hx1
    have hb' := hb.ext (Ext.tr HE1.out hbel)
    have HB := hid hbel
    have HR := hid hrec
    have HO := hid hown
    clear hbel hown
    by_cases hlt : k < b.batches.length
    · obtain ⟨ba, oa, rfl, hl, d1, g1, d2, g2, p0, p1, p2, s1, s2⟩ := hb'.2.2 k hlt
      obtain ⟨av, cv, rfl⟩ := HO.out.len
      have hlk : (b.batches.take k).length = k := by simp; omega
      have hlk1 : (b.batches.take k ++ [nthB b.batches k]).length = k + 1 := by rw [List.length_append, hlk]; rfl
      rw [hlk] at HO HR hrec
      have hc1 := hrec.cell (i := 1) rfl
      clear hrec
      go_wp2_with fail
      refine wp_region_T (fun w' => w'.cell? ⟨w1.heap.size, 1, none⟩ = some (.slice av k cv) ∧ w'.cell? ⟨w.heap.size, 1, none⟩ = some (.slice (some ⟨ba, oa, none⟩) b.batches.length c2) ∧ w'.cell? ⟨ba, oa + k * 3, none⟩ = some (.string (S (nthB b.batches k).name)) ∧ w'.cell? ⟨ba, oa + k * 3 + 1, none⟩ = some (.slice d1 (nthB b.batches k).has.length g1) ∧ w'.cell? ⟨ba, oa + k * 3 + 2, none⟩ = some (.slice d2 (nthB b.batches k).needs.length g2)) 26 (by kernel_rfl) ⟨hc1, hy1, p0, p1, p2⟩ (fun hS => ?_)
      refine wpT_take 0 (v := ?_) rfl rfl (by kernel_rfl) (by kernel_rfl) (by kernel_rfl) (by kernel_rfl) (fun _ _ _ h => h) hS rfl (by intro w0 hw0; (try dsimp only at hw0); go_simp; try rfl) ?_
      try simp only [List.set]
      refine wpT_take 1 (v := ?_) rfl rfl (by kernel_rfl) (by kernel_rfl) (by kernel_rfl) (by kernel_rfl) (fun _ _ _ h => h) hS rfl (by intro w0 hw0; (try dsimp only at hw0); go_simp; try rfl) ?_
      try simp only [List.set]
      refine wpT_take 2 (v := ?_) rfl rfl (by kernel_rfl) (by kernel_rfl) (by kernel_rfl) (by kernel_rfl) (fun _ _ _ h => h) hS rfl (by intro w0 hw0; (try dsimp only at hw0); go_simp; try rfl) ?_
      try simp only [List.set]
      refine wpT_take 3 (v := ?_) rfl rfl (by kernel_rfl) (by kernel_rfl) (by kernel_rfl) (by kernel_rfl) (fun _ _ _ h => h) hS rfl (by intro w0 hw0; (try dsimp only at hw0); go_simp; try rfl) ?_
      try simp only [List.set]
      refine wpT_take 4 (v := ?_) rfl rfl (by kernel_rfl) (by kernel_rfl) (by kernel_rfl) (by kernel_rfl) (fun _ _ _ h => h) hS rfl (by intro w0 hw0; (try dsimp only at hw0); go_simp; try rfl) ?_
      try simp only [List.set]
      refine wpT_take 5 (v := ?_) rfl rfl (by kernel_rfl) (by kernel_rfl) (by kernel_rfl) (by kernel_rfl) (fun _ _ _ h => h) hS rfl (by intro w0 hw0; (try dsimp only at hw0); go_simp; try rfl) ?_
      try simp only [List.set]
      refine wpT_take 6 (v := ?_) rfl rfl (by kernel_rfl) (by kernel_rfl) (by kernel_rfl) (by kernel_rfl) (fun _ _ _ h => h) hS rfl (by intro w0 hw0; (try dsimp only at hw0); go_simp; try rfl) ?_
      try simp only [List.set]
      refine wpT_take 7 (v := ?_) rfl rfl (by kernel_rfl) (by kernel_rfl) (by kernel_rfl) (by kernel_rfl) (fun _ _ _ h => h) hS rfl (by intro w0 hw0; (try dsimp only at hw0); go_simp; try rfl) ?_
      try simp only [List.set]
      refine wpT_take 8 (v := ?_) rfl rfl (by kernel_rfl) (by kernel_rfl) (by kernel_rfl) (by kernel_rfl) (fun _ _ _ h => h) hS rfl (by intro w0 hw0; (try dsimp only at hw0); go_simp; try rfl) ?_
      try simp only [List.set]
      refine wpT_take 9 (v := ?_) rfl rfl (by kernel_rfl) (by kernel_rfl) (by kernel_rfl) (by kernel_rfl) (fun _ _ _ h => h) hS rfl (by intro w0 hw0; (try dsimp only at hw0); go_simp; try rfl) ?_
      try simp only [List.set]
      refine wpT_take 10 (v := ?_) rfl rfl (by kernel_rfl) (by kernel_rfl) (by kernel_rfl) (by kernel_rfl) (fun _ _ _ h => h) hS rfl (by intro w0 hw0; (try dsimp only at hw0); go_simp; try rfl) ?_
      try simp only [List.set]
      refine wpT_take 11 (v := ?_) rfl rfl (by kernel_rfl) (by kernel_rfl) (by kernel_rfl) (by kernel_rfl) (fun _ _ _ h => h) hS rfl (by intro w0 hw0; (try dsimp only at hw0); go_simp; try rfl) ?_
      try simp only [List.set]
      refine wpT_take 12 (v := ?_) rfl rfl (by kernel_rfl) (by kernel_rfl) (by kernel_rfl) (by kernel_rfl) (fun _ _ _ h => h) hS rfl (by intro w0 hw0; (try dsimp only at hw0); go_simp; try rfl) ?_
      try simp only [List.set]
      refine wpT_take 13 (v := ?_) rfl rfl (by kernel_rfl) (by kernel_rfl) (by kernel_rfl) (by kernel_rfl) (fun _ _ _ h => h) hS rfl (by intro w0 hw0; (try dsimp only at hw0); go_simp; try rfl) ?_
      try simp only [List.set]
      refine wpT_take 15 (v := ?_) rfl rfl (by kernel_rfl) (by kernel_rfl) (by kernel_rfl) (by kernel_rfl) (fun _ _ _ h => h) hS rfl (by intro w0 hw0; (try dsimp only at hw0); go_simp; try rfl) ?_
      try simp only [List.set]
      refine wpT_take 16 (v := ?_) rfl rfl (by kernel_rfl) (by kernel_rfl) (by kernel_rfl) (by kernel_rfl) (fun _ _ _ h => h) hS rfl (by intro w0 hw0; (try dsimp only at hw0); go_simp; try rfl) ?_
      try simp only [List.set]
      refine wpT_take 17 (v := ?_) rfl rfl (by kernel_rfl) (by kernel_rfl) (by kernel_rfl) (by kernel_rfl) (fun _ _ _ h => h) hS rfl (by intro w0 hw0; (try dsimp only at hw0); go_simp; try rfl) ?_
      try simp only [List.set]
      refine wpT_take 18 (v := ?_) rfl rfl (by kernel_rfl) (by kernel_rfl) (by kernel_rfl) (by kernel_rfl) (fun _ _ _ h => h) hS rfl (by intro w0 hw0; (try dsimp only at hw0); go_simp; try rfl) ?_
      try simp only [List.set]
      refine wpT_take 19 (v := ?_) rfl rfl (by kernel_rfl) (by kernel_rfl) (by kernel_rfl) (by kernel_rfl) (fun _ _ _ h => h) hS rfl (by intro w0 hw0; (try dsimp only at hw0); go_simp; try rfl) ?_
      try simp only [List.set]
      refine wpT_take 20 (v := ?_) rfl rfl (by kernel_rfl) (by kernel_rfl) (by kernel_rfl) (by kernel_rfl) (fun _ _ _ h => h) hS rfl (by intro w0 hw0; (try dsimp only at hw0); go_simp; try rfl) ?_
      try simp only [List.set]
      refine wpT_one 14 rfl (by kernel_rfl) rfl rfl (fun K hK => ?_)
      go_simp
      refine (l1Names_any _ _ _ _ (s1.ext (ext_drewN wr 1))).mono ?_
      rintro e w2 ⟨u1, rfl, hE2, ho2⟩
      obtain ⟨x2, y2, rfl⟩ := own_sl ho2
      go_wp2_with fail
      refine hK.out _ _ ⟨hE2.keep hS.1, hE2.keep hS.2.1, hE2.keep hS.2.2.1, hE2.keep hS.2.2.2.1, hE2.keep hS.2.2.2.2⟩ (fun hS1 => ?_)
      clear hK hS
      have hS := hS1
      clear hS1
      try clear K
      try simp only [put_some, List.set]
      refine wpT_one 21 rfl (by kernel_rfl) rfl rfl (fun K hK => ?_)
      go_simp
      refine (l1Names_any _ _ _ _ ((s2.ext (ext_drewN wr 1)).ext hE2)).mono ?_
      rintro e w3 ⟨u3, rfl, hE3, ho3⟩
      obtain ⟨x3, y3, rfl⟩ := own_sl ho3
      go_wp2_with fail
      refine hK.out _ _ ⟨hE3.keep hS.1, hE3.keep hS.2.1, hE3.keep hS.2.2.1, hE3.keep hS.2.2.2.1, hE3.keep hS.2.2.2.2⟩ (fun hS1 => ?_)
      clear hK hS
      have hS := hS1
      clear hS1
      try clear K
      try simp only [put_some, List.set]
      refine wpT_take 22 (v := ?_) rfl rfl (by kernel_rfl) (by kernel_rfl) (by kernel_rfl) (by kernel_rfl) (fun _ _ _ h => h) hS rfl (by intro w0 hw0; (try dsimp only at hw0); go_simp; try rfl) ?_
      try simp only [List.set]
      refine wpT_one 23 rfl (by kernel_rfl) rfl rfl (fun K hK => ?_)
      go_simp
      refine hK.out _ _ ⟨(ext_alloc _ _).keep hS.1, (ext_alloc _ _).keep hS.2.1, (ext_alloc _ _).keep hS.2.2.1, (ext_alloc _ _).keep hS.2.2.2.1, (ext_alloc _ _).keep hS.2.2.2.2⟩ (fun hS1 => ?_)
      clear hK hS
      have hS := hS1
      clear hS1
      try clear K
      try simp only [put_some, List.set]
      have hE4 : Ext wr w3 := Ext.tr (Ext.tr (ext_drewN wr 1) hE2) hE3
      have hzr := HR.out.lt
      have hz2 : wr.heap.size ≤ w2.heap.size := hE2.size
      have hz3 := hE3.size
      have HRow : Hid (RowOwn (w3.alloc (.cells #[.string (S (nthB b.batches k).name), .slice x2 (nthB b.batches k).has.length y2, .slice x3 (nthB b.batches k).needs.length y3] 73)) (w1.heap.size + 1) ⟨(nthB b.batches k).name, .slice x2 (nthB b.batches k).has.length y2, .slice x3 (nthB b.batches k).needs.length y3⟩ (nthB b.batches k)) :=
        ⟨rfl, hl, ((ho2.low (by show w1.heap.size + 1 ≤ wr.heap.size; omega)).ext hE3).ext (ext_alloc _ _), s1.short, (ho3.low (by omega)).ext (ext_alloc _ _), s2.short⟩
      have hba : ba < w1.heap.size := by
        obtain ⟨_, _, e, _, _, _, _, _, q0, _⟩ := hb.2.2 k hlt
        cases e
        have h : ba < w.heap.size := cell_lt q0
        omega
      refine wpT_one 24 rfl (by kernel_rfl) rfl rfl (fun K hK => ?_)
      refine wp_rows (L := b.batches.take k) (M := [nthB b.batches k]) _ _ rfl rfl (HO.out.ext (Ext.tr hE4 (ext_alloc _ _))) rfl rfl (one_cells w3 73 ⟨(nthB b.batches k).name, .slice x2 (nthB b.batches k).has.length y2, .slice x3 (nthB b.batches k).needs.length y3⟩) (RowsOwn.one HRow.out) (by simp; omega) (by simp; omega) (fun v' w4 h2 h3 h4 => ?_)
      obtain ⟨a4, c4, rfl⟩ := h2.len
      rw [hlk1] at h2
      have hob : ∀ g, (Value.slice av k cv).ownBlock = some g → w1.heap.size + 1 ≤ g := fun g hg => by
        obtain ⟨rs, q1, _⟩ := HO.out
        exact (q1.lt g hg).1
      have HR4 : Hid (Rec w4 w1.heap.size 26 [.slice x1 b.things.length y1, .slice av k cv]) := (HR.out.ext (Ext.tr hE4 (ext_alloc _ _))).kept h3 (fun e => by have := hob _ e.symm; omega)
      have hB4 : Below w1.heap.size wr w4 := (Below.mono (Ext.tr hE4 (ext_alloc _ _)) (by omega)).grown h3 (by simp; omega) (fun g hg => by have := hob g hg; omega)
      refine hK.out _ _ ⟨HR4.out.cell rfl, (hB4.cell (p := ⟨w.heap.size, 1, none⟩) (by simp; omega)).trans hy1, (hB4.cell (p := ⟨ba, oa + k * 3, none⟩) hba).trans p0, (hB4.cell (p := ⟨ba, oa + k * 3 + 1, none⟩) hba).trans p1, (hB4.cell (p := ⟨ba, oa + k * 3 + 2, none⟩) hba).trans p2⟩ (fun hS1 => ?_)
      clear hK hS
      have hS := hS1
      clear hS1
      try clear K
      try simp only [put_some, List.set]
      refine wpT_take 25 (v := ?_) rfl rfl (by kernel_rfl) (by kernel_rfl) (by kernel_rfl) (by kernel_rfl) (fun _ _ _ h => h) hS rfl (by intro w0 hw0; (try dsimp only at hw0); go_simp; try rfl) ?_
      try simp only [List.set]
      have HN : Hid (OwnBs (w4.setCell ⟨w1.heap.size, 1, none⟩ (.slice a4 (k + 1) c4)) (w1.heap.size + 1) (.slice a4 (k + 1) c4) (b.batches.take (k + 1))) := by
        rw [take_bs hlt]; exact h2.stored HR4.out rfl rfl _ _
      have HRN := hid (HR4.out.set 1 (.slice a4 (k + 1) c4))
      have HBN : Hid (Below w1.heap.size w1 (w4.setCell ⟨w1.heap.size, 1, none⟩ (.slice a4 (k + 1) c4))) := (HB.out.trans hB4).setCell (Nat.le_refl _) _
      have hq1 := HR4.out.cell (i := 1) rfl
      have hq2 := HR4.out.frozen 1
      clear hS h2 h3 h4 HR4 hB4 HRow hE2 hE3 hE4 ho2 ho3 s1 s2 p0 p1 p2 hb' hy0 hy1
      refine wpT_last rfl (by kernel_rfl) (by kernel_rfl) rfl (fun K hK => ?_)
      go_simp
      refine hK.out _ _ ?_
      clear hK
      go_wp2
      go_roundw
      case rel => exact ⟨k + 1, _, by omega, by go_num, HBN.out, HRN.out, HN.out⟩
      case measure => simp [intOf]; omega
    · have e : k = b.batches.length := by omega
      subst e
      obtain ⟨av, cv, rfl⟩ := HO.out.len
      rw [List.take_length] at *
      have hq0 := HR.out.cell (i := 0) rfl
      have hq1 := HR.out.cell (i := 1) rfl
      have HR3 := hid (HR2.out.ext HB.out)
      have t0 := HR3.out.cell (i := 0) rfl
      have t1 := HR3.out.cell (i := 1) rfl
      have f0 := HR3.out.frozen 0
      have f1 := HR3.out.frozen 1
      have HO3 := hid ((HO1.out.low (base' := w.heap.size) (by simp; omega)).ext HB.out)
      have HE3 := hid (Ext.tr HE1.out HB.out)
      clear HB HR hrec HO1 HE1 hy0 hb'
      go_wp2
      refine bodyPost_ret (v := .agg #[.slice x1 b.things.length y1, .slice av b.batches.length cv]) (by simp [results, Tryz.results45, go_sem, t0, t1]) rfl ⟨_, _, rfl, ?_, ?_, ?_⟩
      · exact (HE3.out.setCell (by simp) _).setCell (by simp) _
      · exact (HO3.out.stored HR3.out rfl _ _).stored (HR3.out.set _ _) rfl _ _
      · exact ((HO.out.low (base' := w.heap.size) (by omega)).stored HR3.out rfl rfl _ _).stored (HR3.out.set _ _) rfl rfl _ _
end Go.Proofs.YtdafpnpfcmgfcaaGreatDoor
