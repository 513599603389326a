/- The program's copy of a book: no two of its lists in one row. -/
import Derived.Test.YtdafpnpfcmgfcabGreatDoorE2
import Derived.Test.YtdafpnpfcmgfcabGreatDoorSA
namespace Go.Proofs.YtdafpnpfcmgfcabGreatDoor
open Go.RowKit
attribute [local go_sem] S_toList S_size S_get

set_option maxRecDepth 100000 in
set_option maxHeartbeats 1000000 in
theorem copiedBook_any (b : Book) (a1 a2 : Option Addr) (c1 c2 : Nat) (w : World) (hb : BookAt w a1 a2 b) :
    Calls Tryz.prog 47 #[.agg #[.slice a1 b.things.length c1, .slice a2 b.batches.length c2]] w fun e w' =>
      ∃ v1 v2 rs, e = .returned (.agg #[v1, v2]) ∧ Ext w w' ∧ OB w' w.heap.size v1 v2 rs b := by
  have hn := hb.2.1
  have e2 : ∀ o1 o2, Ext w ((w.alloc o1).alloc o2) := fun o1 o2 => ((Below.refl _ _).alloc (Nat.le_refl _) _).alloc (by simp) _
  go_enter Tryz.func47, Tryz.ntmps47
  go_wp2_with fail
  refine (copied_any _ _ _ _ (hb.1.ext (e2 _ _))).mono ?_
  rintro e w1 ⟨v1, rfl, hE1, ho1⟩
  obtain ⟨x1, y1, rfl⟩ := own_sl ho1
  have HE1 := hid (Ext.tr (e2 _ _) hE1)
  have HO1 := hid ho1
  have hx0 : w1.cell? ⟨w.heap.size, 0, none⟩ = some (.slice a1 b.things.length c1) := (hE1.cell (p := ⟨w.heap.size, 0, none⟩) (by simp; omega)).trans (by simp)
  have hx1 : w1.cell? ⟨w.heap.size, 1, none⟩ = some (.slice a2 b.batches.length c2) := (hE1.cell (p := ⟨w.heap.size, 1, none⟩) (by simp; omega)).trans (by simp)
  have HR2 : Hid (Rec w1 (w.heap.size + 1) 30 [.slice none 0 0, .slice none 0 0]) := by
    have h := (Rec.new (w.alloc (.cells #[.slice a1 b.things.length c1, .slice a2 b.batches.length c2] 30)) 30 [.slice none 0 0, .slice none 0 0]).ext hE1
    have h' : Rec w1 (w.heap.size + 1) 30 [.slice none 0 0, .slice none 0 0] := by simpa using h
    exact h'
  have hz1 := hE1.size
  simp at hz1
  clear hE1 ho1
  have hx1b := (ext_alloc w1 (.cells #[.slice x1 b.things.length y1, .slice none 0 0] 30)).keep hx1
  go_wp2_with fail
  have HR1 : Hid (Rec (w1.alloc (.cells #[.slice x1 b.things.length y1, .slice none 0 0] 30)) w1.heap.size 30 [.slice x1 b.things.length y1, .slice none 0 0]) := Rec.new w1 _ _
  have HB1 : Hid (Below w1.heap.size w1 (w1.alloc (.cells #[.slice x1 b.things.length y1, .slice none 0 0] 30))) := (Below.refl _ _).alloc (Nat.le_refl _) _
  go_loopw [13] (fun i wr => ∃ (k : Nat) (v2 : Value) (rs : List Row), k ≤ b.batches.length ∧ i = .int .i64 k ∧ Below w1.heap.size w1 wr ∧ Rec wr w1.heap.size 30 [.slice x1 b.things.length y1, v2] ∧ wr.ownsRow (w1.heap.size + 1) 46 3 v2 rs.length (cellsOf rs) ∧ RowsOwn wr (w1.heap.size + 1) rs (b.batches.take k) ∧ Dis (.slice x1 b.things.length y1) rs) (fun i _ => b.batches.length - (intOf i).toNat)
  case atStart => exact ⟨0, _, [], Nat.zero_le _, rfl, HB1.out, HR1.out, World.ownsRow_nil _ _ _ _, ⟨rfl, fun i r x h => by simp at h⟩, List.Pairwise.nil, fun v hv => by simp [allV] at hv⟩
  case round =>
    clear HR1 HB1
    obtain ⟨k, v2, rs, hk, rfl, hbel, hrec, hown, hrows, hdis⟩ := hrel
    have hb' := hb.ext (Ext.tr HE1.out hbel)
    have HB := hid hbel
    have HR := hid hrec
    have HO := hid hown
    have HRS := hid hrows
    have HD := hid hdis
    clear hbel hown hrows hdis
    by_cases hlt : k < b.batches.length
    · obtain ⟨ba, oa, rfl, hl, d1, g1, d2, g2, p0, p1, p2, s1, s2⟩ := hb'.2.2 k hlt
      obtain ⟨av, cv, rfl⟩ := own_shape3 HO.out
      have hlk : rs.length = k := by rw [HRS.out.1, List.length_take]; omega
      rw [hlk] at HO HR hrec
      go_upto_region 5 with fail
      have hX : Rec (wr.alloc (.cells #[.string (S (nthB b.batches k).name), .slice d1 (nthB b.batches k).has.length g1, .slice d2 (nthB b.batches k).needs.length g2] 46)) wr.heap.size 46 [.string (S (nthB b.batches k).name), .slice d1 (nthB b.batches k).has.length g1, .slice d2 (nthB b.batches k).needs.length g2] := Rec.new wr _ _
      have HEb := hid (ext_alloc wr (.cells #[.string (S (nthB b.batches k).name), .slice d1 (nthB b.batches k).has.length g1, .slice d2 (nthB b.batches k).needs.length g2] 46))
      have hzb : wr.heap.size < (wr.alloc (.cells #[.string (S (nthB b.batches k).name), .slice d1 (nthB b.batches k).has.length g1, .slice d2 (nthB b.batches k).needs.length g2] 46)).heap.size := by simp
      generalize wr.alloc (.cells #[.string (S (nthB b.batches k).name), .slice d1 (nthB b.batches k).has.length g1, .slice d2 (nthB b.batches k).needs.length g2] 46) = wb at *
      have hc1 := HEb.out.keep (hrec.cell (i := 1) rfl)
      clear hrec
      refine wp_region_T (fun w' => w'.cell? ⟨w1.heap.size, 1, none⟩ = some (.slice av k cv) ∧ w'.cell? ⟨wr.heap.size, 0, none⟩ = some (.string (S (nthB b.batches k).name)) ∧ w'.cell? ⟨wr.heap.size, 1, none⟩ = some (.slice d1 (nthB b.batches k).has.length g1) ∧ w'.cell? ⟨wr.heap.size, 2, none⟩ = some (.slice d2 (nthB b.batches k).needs.length g2)) 14 (by kernel_rfl) ⟨hc1, hX.cell rfl, hX.cell rfl, hX.cell rfl⟩ (fun hS => ?_)
      refine wpT_take 0 (v := ?_) rfl rfl (by kernel_rfl) (by kernel_rfl) (by kernel_rfl) (by kernel_rfl) (fun _ _ _ h => h) hS rfl (by intro w0 hw0; (try dsimp only at hw0); go_simp; try rfl) ?_
      try simp only [List.set]
      refine wpT_take 1 (v := ?_) rfl rfl (by kernel_rfl) (by kernel_rfl) (by kernel_rfl) (by kernel_rfl) (fun _ _ _ h => h) hS rfl (by intro w0 hw0; (try dsimp only at hw0); go_simp; try rfl) ?_
      try simp only [List.set]
      refine wpT_take 2 (v := ?_) rfl rfl (by kernel_rfl) (by kernel_rfl) (by kernel_rfl) (by kernel_rfl) (fun _ _ _ h => h) hS rfl (by intro w0 hw0; (try dsimp only at hw0); go_simp; try rfl) ?_
      try simp only [List.set]
      refine wpT_take 3 (v := ?_) rfl rfl (by kernel_rfl) (by kernel_rfl) (by kernel_rfl) (by kernel_rfl) (fun _ _ _ h => h) hS rfl (by intro w0 hw0; (try dsimp only at hw0); go_simp; try rfl) ?_
      try simp only [List.set]
      refine wpT_take 4 (v := ?_) rfl rfl (by kernel_rfl) (by kernel_rfl) (by kernel_rfl) (by kernel_rfl) (fun _ _ _ h => h) hS rfl (by intro w0 hw0; (try dsimp only at hw0); go_simp; try rfl) ?_
      try simp only [List.set]
      refine wpT_take 5 (v := ?_) rfl rfl (by kernel_rfl) (by kernel_rfl) (by kernel_rfl) (by kernel_rfl) (fun _ _ _ h => h) hS rfl (by intro w0 hw0; (try dsimp only at hw0); go_simp; try rfl) ?_
      try simp only [List.set]
      refine wpT_take 7 (v := ?_) rfl rfl (by kernel_rfl) (by kernel_rfl) (by kernel_rfl) (by kernel_rfl) (fun _ _ _ h => h) hS rfl (by intro w0 hw0; (try dsimp only at hw0); go_simp; try rfl) ?_
      try simp only [List.set]
      refine wpT_take 8 (v := ?_) rfl rfl (by kernel_rfl) (by kernel_rfl) (by kernel_rfl) (by kernel_rfl) (fun _ _ _ h => h) hS rfl (by intro w0 hw0; (try dsimp only at hw0); go_simp; try rfl) ?_
      try simp only [List.set]
      refine wpT_one 6 rfl (by kernel_rfl) rfl rfl (fun K hK => ?_)
      go_simp
      refine (copied_any _ _ _ _ ((s1.ext HEb.out).ext (ext_drewN wb 1))).mono ?_
      rintro e w2 ⟨u1, rfl, hE2, ho2⟩
      obtain ⟨x2, y2, rfl⟩ := own_sl ho2
      go_wp2_with fail
      refine hK.out _ _ ⟨hE2.keep hS.1, hE2.keep hS.2.1, hE2.keep hS.2.2.1, hE2.keep hS.2.2.2⟩ (fun hS1 => ?_)
      clear hK hS
      have hS := hS1
      clear hS1
      try clear K
      try simp only [put_some, List.set]
      refine wpT_one 9 rfl (by kernel_rfl) rfl rfl (fun K hK => ?_)
      go_simp
      refine (copied_any _ _ _ _ (((s2.ext HEb.out).ext (ext_drewN wb 1)).ext hE2)).mono ?_
      rintro e w3 ⟨u3, rfl, hE3, ho3⟩
      obtain ⟨x3, y3, rfl⟩ := own_sl ho3
      go_wp2_with fail
      refine hK.out _ _ ⟨hE3.keep hS.1, hE3.keep hS.2.1, hE3.keep hS.2.2.1, hE3.keep hS.2.2.2⟩ (fun hS1 => ?_)
      clear hK hS
      have hS := hS1
      clear hS1
      try clear K
      try simp only [put_some, List.set]
      refine wpT_take 10 (v := ?_) rfl rfl (by kernel_rfl) (by kernel_rfl) (by kernel_rfl) (by kernel_rfl) (fun _ _ _ h => h) hS rfl (by intro w0 hw0; (try dsimp only at hw0); go_simp; try rfl) ?_
      try simp only [List.set]
      refine wpT_one 11 rfl (by kernel_rfl) rfl rfl (fun K hK => ?_)
      go_simp
      refine hK.out _ _ ⟨(ext_alloc _ _).keep hS.1, (ext_alloc _ _).keep hS.2.1, (ext_alloc _ _).keep hS.2.2.1, (ext_alloc _ _).keep hS.2.2.2⟩ (fun hS1 => ?_)
      clear hK hS
      have hS := hS1
      clear hS1
      try clear K
      try simp only [put_some, List.set]
      have hE4 : Ext wr w3 := Ext.tr (Ext.tr HEb.out (ext_drewN wb 1)) (Ext.tr hE2 hE3)
      have hzr := HR.out.lt
      have hz2 : wb.heap.size ≤ w2.heap.size := hE2.size
      have hz3 := hE3.size
      have HRow : Hid (RowOwn (w3.alloc (.cells #[.string (S (nthB b.batches k).name), .slice x2 (nthB b.batches k).has.length y2, .slice x3 (nthB b.batches k).needs.length y3] 46)) (w1.heap.size + 1) ⟨(nthB b.batches k).name, .slice x2 (nthB b.batches k).has.length y2, .slice x3 (nthB b.batches k).needs.length y3⟩ (nthB b.batches k)) :=
        ⟨rfl, hl, ((ho2.low (by show w1.heap.size + 1 ≤ wb.heap.size; omega)).ext hE3).ext (ext_alloc _ _), s1.short, (ho3.low (by omega)).ext (ext_alloc _ _), s2.short⟩
      refine wpT_one 12 rfl (by kernel_rfl) rfl rfl (fun K hK => ?_)
      have hE5 := Ext.tr hE4 (ext_alloc w3 (.cells #[.string (S (nthB b.batches k).name), .slice x2 (nthB b.batches k).has.length y2, .slice x3 (nthB b.batches k).needs.length y3] 46))
      have hO5 : (w3.alloc (.cells #[.string (S (nthB b.batches k).name), .slice x2 (nthB b.batches k).has.length y2, .slice x3 (nthB b.batches k).needs.length y3] 46)).ownsRow (w1.heap.size + 1) 46 3 (.slice av k cv) rs.length (cellsOf rs) := by rw [hlk]; exact row_ext HO.out hE5
      have HDN : Hid (Dis (.slice x1 b.things.length y1) (rs ++ [⟨(nthB b.batches k).name, .slice x2 (nthB b.batches k).has.length y2, .slice x3 (nthB b.batches k).needs.length y3⟩])) := by
        have hzr2 : (wb.drewN 1).heap.size = wb.heap.size := rfl
        refine HD.out.snoc (fun v hv => ?_) (NE.older ho2 ho3 (Nat.le_refl _)) ⟨NE.older (HO1.out) ho2 (by rw [hzr2]; omega), NE.older HO1.out ho3 (by omega)⟩
        obtain ⟨L, hL⟩ := HRS.out.memV hv
        exact ⟨NE.older hL ho2 (by rw [hzr2]; omega), NE.older hL ho3 (by omega)⟩
      refine wp_row (r := ⟨(nthB b.batches k).name, .slice x2 (nthB b.batches k).has.length y2, .slice x3 (nthB b.batches k).needs.length y3⟩) _ _ rfl rfl hO5 rfl (one_cells w3 46 ⟨(nthB b.batches k).name, .slice x2 (nthB b.batches k).has.length y2, .slice x3 (nthB b.batches k).needs.length y3⟩) (row_one HRow.out) (by omega) (by simp; omega) (fun v' w4 h2 h3 h4 => ?_)
      have hlk1 : (rs ++ [(⟨(nthB b.batches k).name, .slice x2 (nthB b.batches k).has.length y2, .slice x3 (nthB b.batches k).needs.length y3⟩ : Row)]).length = k + 1 := by rw [List.length_append, hlk]; rfl
      obtain ⟨a4, c4, rfl⟩ := own_shape3 h2
      rw [hlk1] at h2 ⊢
      have hob : ∀ g, (Value.slice av k cv).ownBlock = some g → w1.heap.size + 1 ≤ g ∧ g < wr.heap.size := fun g hg => HO.out.lt g hg
      have HR4 : Hid (Rec w4 w1.heap.size 30 [.slice x1 b.things.length y1, .slice av k cv]) := (HR.out.ext (Ext.tr hE4 (ext_alloc _ _))).kept h3 (fun e => by have := hob _ e.symm; omega)
      have hB4 : Below w1.heap.size wr w4 := (Below.mono (Ext.tr hE4 (ext_alloc _ _)) (by omega)).grown h3 (by simp; omega) (fun g hg => by have := hob g hg; omega)
      have HX4 : Hid (Rec w4 wr.heap.size 46 [.string (S (nthB b.batches k).name), .slice d1 (nthB b.batches k).has.length g1, .slice d2 (nthB b.batches k).needs.length g2]) := (hX.ext (Ext.tr (ext_drewN wb 1) (Ext.tr hE2 (Ext.tr hE3 (ext_alloc _ _))))).kept h3 (fun e => by have := hob _ e.symm; omega)
      refine hK.out _ _ ⟨HR4.out.cell rfl, HX4.out.cell rfl, HX4.out.cell rfl, HX4.out.cell rfl⟩ (fun hS1 => ?_)
      clear hK hS
      have hS := hS1
      clear hS1
      try clear K
      try simp only [put_some, List.set]
      refine wpT_take 13 (v := ?_) rfl rfl (by kernel_rfl) (by kernel_rfl) (by kernel_rfl) (by kernel_rfl) (fun _ _ _ h => h) hS rfl (by intro w0 hw0; (try dsimp only at hw0); go_simp; try rfl) ?_
      try simp only [List.set]
      have hkk : ∀ (k' : Nat) c, (Value.slice av k cv).ownBlock = some k' → (w3.alloc (.cells #[.string (S (nthB b.batches k).name), .slice x2 (nthB b.batches k).has.length y2, .slice x3 (nthB b.batches k).needs.length y3] 46)).heap[k']? = some (.cells c 9 (0, 0)) → False := fun k' c e hk' => row_ne hO5 k' c e hk'
      have hg4 := gb_store w4 w1.heap.size 1 (.slice a4 (k + 1) c4)
      have hk4 : ∀ (k' : Nat) c, some w1.heap.size = some k' → w4.heap[k']? = some (.cells c 9 (0, 0)) → False := fun k' c e hk' => by
        cases e
        rw [show w4.heap[w1.heap.size]? = _ from HR4.out] at hk'
        simp at hk'
      have HN : Hid ((w4.setCell ⟨w1.heap.size, 1, none⟩ (.slice a4 (k + 1) c4)).ownsRow (w1.heap.size + 1) 46 3 (.slice a4 (k + 1) c4) (rs ++ [(⟨(nthB b.batches k).name, .slice x2 (nthB b.batches k).has.length y2, .slice x3 (nthB b.batches k).needs.length y3⟩ : Row)]).length (cellsOf (rs ++ [⟨(nthB b.batches k).name, .slice x2 (nthB b.batches k).has.length y2, .slice x3 (nthB b.batches k).needs.length y3⟩]))) := by
        rw [hlk1]
        exact World.ownsRow.kept h2 hg4 (Or.inr (fun e => by have := (h2.lt _ e).1; omega))
      have HRN2 : Hid (RowsOwn (w4.setCell ⟨w1.heap.size, 1, none⟩ (.slice a4 (k + 1) c4)) (w1.heap.size + 1) (rs ++ [⟨(nthB b.batches k).name, .slice x2 (nthB b.batches k).has.length y2, .slice x3 (nthB b.batches k).needs.length y3⟩]) (b.batches.take (k + 1))) := by
        rw [take_bs hlt]
        exact RowsOwn.snoc (((HRS.out.ext hE5).keep h3 hkk).keep hg4 hk4) ((HRow.out.keep h3 hkk).keep hg4 hk4)
      have HRN := hid (HR4.out.set 1 (.slice a4 (k + 1) c4))
      have HBN : Hid (Below w1.heap.size w1 (w4.setCell ⟨w1.heap.size, 1, none⟩ (.slice a4 (k + 1) c4))) := (HB.out.trans hB4).setCell (Nat.le_refl _) _
      have hq1 := HR4.out.cell (i := 1) rfl
      have hq2 := HR4.out.frozen 1
      clear hS h2 h3 h4 hkk hk4 hg4 hO5 hE5 HR4 hB4 HRow hE2 hE3 hE4 ho2 ho3 s1 s2 p0 p1 p2 hb' hX HX4 HEb
      refine wpT_last rfl (by kernel_rfl) (by kernel_rfl) rfl (fun K hK => ?_)
      go_simp
      refine hK.out _ _ ?_
      clear hK
      go_wp2
      go_roundw
      case rel => exact ⟨k + 1, _, _, by omega, by go_num, HBN.out, HRN.out, HN.out, HRN2.out, HDN.out⟩
      case measure => simp [intOf]; omega
    · have e : k = b.batches.length := by omega
      subst e
      rw [List.take_length] at *
      obtain ⟨av, cv, rfl⟩ := own_shape3 HO.out
      have hlk : rs.length = b.batches.length := HRS.out.1
      rw [hlk] at HO HR
      have hq0 := HR.out.cell (i := 0) rfl
      have hq1 := HR.out.cell (i := 1) rfl
      have HR3 := hid (HR2.out.ext HB.out)
      have t0 := HR3.out.cell (i := 0) rfl
      have t1 := HR3.out.cell (i := 1) rfl
      have f0 := HR3.out.frozen 0
      have f1 := HR3.out.frozen 1
      have HO3 := hid ((HO1.out.low (base' := w.heap.size) (by simp; omega)).ext HB.out)
      have HE3 := hid (Ext.tr HE1.out HB.out)
      have HSH := hid hb.1.short
      clear HB HR hrec HO1 HE1 hb'
      go_wp2
      refine bodyPost_ret (v := .agg #[.slice x1 b.things.length y1, .slice av b.batches.length cv]) (by simp [results, Tryz.results47, go_sem, t0, t1]) rfl ⟨_, _, rs, rfl, ?_, ?_, HSH.out, ?_, ?_, HD.out⟩
      · exact (HE3.out.setCell (by simp) _).setCell (by simp) _
      · exact (HO3.out.stored HR3.out rfl _ _).stored (HR3.out.set _ _) rfl _ _
      · have hne2 : ∀ u : Value, Value.ownBlock (.slice av b.batches.length cv) ≠ some (w.heap.size + 1) := fun _ e => by have := (HO.out.lt _ e).1; omega
        rw [hlk]
        have hlow : wr.ownsRow w.heap.size 46 3 (.slice av b.batches.length cv) b.batches.length (cellsOf rs) := by
          refine ⟨HO.out.1, ?_⟩
          rcases HO.out.2 with h | ⟨g, cap, cur, hv, hg, r⟩
          · exact Or.inl h
          · exact Or.inr ⟨g, cap, cur, hv, by omega, r⟩
        exact World.ownsRow.kept (World.ownsRow.kept hlow (gb_store _ _ _ _) (Or.inr (hne2 undef))) (gb_store _ _ _ _) (Or.inr (hne2 undef))
      · have hk1 : ∀ (k' : Nat) c, some (w.heap.size + 1) = some k' → wr.heap[k']? = some (.cells c 9 (0, 0)) → False := fun k' c e hk' => by
          cases e
          rw [show wr.heap[w.heap.size + 1]? = _ from HR3.out] at hk'
          simp at hk'
        have r1 := HR3.out.set 0 (.slice x1 b.things.length y1)
        have hk2 : ∀ (k' : Nat) c, some (w.heap.size + 1) = some k' → (wr.setCell ⟨w.heap.size + 1, 0, none⟩ (.slice x1 b.things.length y1)).heap[k']? = some (.cells c 9 (0, 0)) → False := fun k' c e hk' => by
          cases e
          rw [show (wr.setCell ⟨w.heap.size + 1, 0, none⟩ (.slice x1 b.things.length y1)).heap[w.heap.size + 1]? = _ from r1] at hk'
          simp at hk'
        exact ((HRS.out.low (by omega)).keep (gb_store _ _ _ _) hk1).keep (gb_store _ _ _ _) hk2
end Go.Proofs.YtdafpnpfcmgfcabGreatDoor
