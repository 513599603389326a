/- The walk over the specification's l1Copy once more: no two of the copy's lists share a row. What l5Spoil does to a copy: its state. -/
import Derived.Test.YtdafpnpfcmgfcaaGreatKH
namespace Go.Proofs.YtdafpnpfcmgfcaaGreat
open Go.RowKit
attribute [local go_sem] S_toList S_size S_get

set_option maxRecDepth 100000 in
set_option maxHeartbeats 1000000 in
theorem l1Copy_dis (b : Book) (a1 a2 : Option Addr) (c1 c2 : Nat) (w : World) (hb : BookAt w a1 a2 b) :
    Calls Qry.prog 51 #[.agg #[.slice a1 b.things.length c1, .slice a2 b.batches.length c2]] w fun e w' =>
      ∃ v1 v2 rs, e = .returned (.agg #[v1, v2]) ∧ Ext w w' ∧ OwnL w' w.heap.size v1 b.things ∧ w'.ownsRow w.heap.size 32 3 v2 rs.length (cellsOf rs) ∧ RowsOwn w' w.heap.size rs b.batches ∧ Dis v1 rs := by
  have hn := hb.2.1
  have e2 : ∀ o1 o2, Ext w ((w.alloc o1).alloc o2) := fun o1 o2 => ((Below.refl _ _).alloc (Nat.le_refl _) _).alloc (by simp) _
  go_enter Qry.func51, Tryz.ntmps51
  go_wp2_with fail
  refine (l1Names_any _ _ _ _ (hb.1.ext (e2 _ _))).mono ?_
  rintro e w1 ⟨v1, rfl, hE1, ho1⟩
  obtain ⟨x1, y1, rfl⟩ := own_sl ho1
  have HE1 := hid (Ext.tr (e2 _ _) hE1)
  have HO1 := hid ho1
  have hx0 : w1.cell? ⟨w.heap.size, 0, none⟩ = some (.slice a1 b.things.length c1) := (hE1.cell (p := ⟨w.heap.size, 0, none⟩) (by simp; omega)).trans (by simp)
  have hx1 : w1.cell? ⟨w.heap.size, 1, none⟩ = some (.slice a2 b.batches.length c2) := (hE1.cell (p := ⟨w.heap.size, 1, none⟩) (by simp; omega)).trans (by simp)
  have HR2 : Hid (Rec w1 (w.heap.size + 1) 26 [.slice none 0 0, .slice none 0 0]) := by
    have h := (Rec.new (w.alloc (.cells #[.slice a1 b.things.length c1, .slice a2 b.batches.length c2] 26)) 26 [.slice none 0 0, .slice none 0 0]).ext hE1
    have h' : Rec w1 (w.heap.size + 1) 26 [.slice none 0 0, .slice none 0 0] := by simpa using h
    exact h'
  have hz1 := hE1.size
  simp at hz1
  clear hE1 ho1
  go_wp2_with fail
  have HR1 : Hid (Rec (w1.alloc (.cells #[.slice x1 b.things.length y1, .slice none 0 0] 26)) w1.heap.size 26 [.slice x1 b.things.length y1, .slice none 0 0]) := Rec.new w1 _ _
  have HB1 : Hid (Below w1.heap.size w1 (w1.alloc (.cells #[.slice x1 b.things.length y1, .slice none 0 0] 26))) := (Below.refl _ _).alloc (Nat.le_refl _) _
  go_loopw [4] (fun i wr => ∃ (k : Nat) (v2 : Value) (rs : List Row), k ≤ b.batches.length ∧ i = .int .i64 k ∧ Below w1.heap.size w1 wr ∧ Rec wr w1.heap.size 26 [.slice x1 b.things.length y1, v2] ∧ wr.ownsRow (w1.heap.size + 1) 32 3 v2 rs.length (cellsOf rs) ∧ RowsOwn wr (w1.heap.size + 1) rs (b.batches.take k) ∧ Dis (.slice x1 b.things.length y1) rs) (fun i _ => b.batches.length - (intOf i).toNat)
  case atStart => exact ⟨0, _, [], Nat.zero_le _, rfl, HB1.out, HR1.out, World.ownsRow_nil _ _ _ _, ⟨rfl, fun i r x h => by simp at h⟩, List.Pairwise.nil, fun v hv => by simp [allV] at hv⟩
  case round =>
    clear HR1 HB1
    obtain ⟨k, v2, rs, hk, rfl, hbel, hrec, hown, hrows, hdis⟩ := hrel
    have hy0 : wr.cell? ⟨w.heap.size, 0, none⟩ = some (.slice a1 b.things.length c1) := (hbel.cell (p := ⟨w.heap.size, 0, none⟩) (by simp; omega)).trans hx0
    have hy1 : wr.cell? ⟨w.heap.size, 1, none⟩ = some (.slice a2 b.batches.length c2) := (hbel.cell (p := ⟨w.heap.size, 1, none⟩) (by simp; omega)).trans hx1
    have hb' := hb.ext (Ext.tr HE1.out hbel)
    have HB := hid hbel
    have HR := hid hrec
    have HO := hid hown
    have HRS := hid hrows
    have HD := hid hdis
    clear hbel hown hrows hdis
    by_cases hlt : k < b.batches.length
    · obtain ⟨ba, oa, rfl, hl, d1, g1, d2, g2, p0, p1, p2, s1, s2⟩ := hb'.2.2 k hlt
      obtain ⟨av, cv, rfl⟩ := own_shape3 HO.out
      have hlk : rs.length = k := by rw [HRS.out.1, List.length_take]; omega
      rw [hlk] at HO HR hrec
      have hc1 := hrec.cell (i := 1) rfl
      clear hrec
      go_wp2_with fail
      refine wp_region_T (fun w' => w'.cell? ⟨w1.heap.size, 1, none⟩ = some (.slice av k cv) ∧ w'.cell? ⟨w.heap.size, 1, none⟩ = some (.slice (some ⟨ba, oa, none⟩) b.batches.length c2) ∧ w'.cell? ⟨ba, oa + k * 3, none⟩ = some (.string (S (nthB b.batches k).name)) ∧ w'.cell? ⟨ba, oa + k * 3 + 1, none⟩ = some (.slice d1 (nthB b.batches k).has.length g1) ∧ w'.cell? ⟨ba, oa + k * 3 + 2, none⟩ = some (.slice d2 (nthB b.batches k).needs.length g2)) 26 (by kernel_rfl) ⟨hc1, hy1, p0, p1, p2⟩ (fun hS => ?_)
      refine wpT_take 0 (v := ?_) rfl rfl (by kernel_rfl) (by kernel_rfl) (by kernel_rfl) (by kernel_rfl) (fun _ _ _ h => h) hS rfl (by intro w0 hw0; (try dsimp only at hw0); go_simp; try rfl) ?_
      try simp only [List.set]
      refine wpT_take 1 (v := ?_) rfl rfl (by kernel_rfl) (by kernel_rfl) (by kernel_rfl) (by kernel_rfl) (fun _ _ _ h => h) hS rfl (by intro w0 hw0; (try dsimp only at hw0); go_simp; try rfl) ?_
      try simp only [List.set]
      refine wpT_take 2 (v := ?_) rfl rfl (by kernel_rfl) (by kernel_rfl) (by kernel_rfl) (by kernel_rfl) (fun _ _ _ h => h) hS rfl (by intro w0 hw0; (try dsimp only at hw0); go_simp; try rfl) ?_
      try simp only [List.set]
      refine wpT_take 3 (v := ?_) rfl rfl (by kernel_rfl) (by kernel_rfl) (by kernel_rfl) (by kernel_rfl) (fun _ _ _ h => h) hS rfl (by intro w0 hw0; (try dsimp only at hw0); go_simp; try rfl) ?_
      try simp only [List.set]
      refine wpT_take 4 (v := ?_) rfl rfl (by kernel_rfl) (by kernel_rfl) (by kernel_rfl) (by kernel_rfl) (fun _ _ _ h => h) hS rfl (by intro w0 hw0; (try dsimp only at hw0); go_simp; try rfl) ?_
      try simp only [List.set]
      refine wpT_take 5 (v := ?_) rfl rfl (by kernel_rfl) (by kernel_rfl) (by kernel_rfl) (by kernel_rfl) (fun _ _ _ h => h) hS rfl (by intro w0 hw0; (try dsimp only at hw0); go_simp; try rfl) ?_
      try simp only [List.set]
      refine wpT_take 6 (v := ?_) rfl rfl (by kernel_rfl) (by kernel_rfl) (by kernel_rfl) (by kernel_rfl) (fun _ _ _ h => h) hS rfl (by intro w0 hw0; (try dsimp only at hw0); go_simp; try rfl) ?_
      try simp only [List.set]
      refine wpT_take 7 (v := ?_) rfl rfl (by kernel_rfl) (by kernel_rfl) (by kernel_rfl) (by kernel_rfl) (fun _ _ _ h => h) hS rfl (by intro w0 hw0; (try dsimp only at hw0); go_simp; try rfl) ?_
      try simp only [List.set]
      refine wpT_take 8 (v := ?_) rfl rfl (by kernel_rfl) (by kernel_rfl) (by kernel_rfl) (by kernel_rfl) (fun _ _ _ h => h) hS rfl (by intro w0 hw0; (try dsimp only at hw0); go_simp; try rfl) ?_
      try simp only [List.set]
      refine wpT_take 9 (v := ?_) rfl rfl (by kernel_rfl) (by kernel_rfl) (by kernel_rfl) (by kernel_rfl) (fun _ _ _ h => h) hS rfl (by intro w0 hw0; (try dsimp only at hw0); go_simp; try rfl) ?_
      try simp only [List.set]
      refine wpT_take 10 (v := ?_) rfl rfl (by kernel_rfl) (by kernel_rfl) (by kernel_rfl) (by kernel_rfl) (fun _ _ _ h => h) hS rfl (by intro w0 hw0; (try dsimp only at hw0); go_simp; try rfl) ?_
      try simp only [List.set]
      refine wpT_take 11 (v := ?_) rfl rfl (by kernel_rfl) (by kernel_rfl) (by kernel_rfl) (by kernel_rfl) (fun _ _ _ h => h) hS rfl (by intro w0 hw0; (try dsimp only at hw0); go_simp; try rfl) ?_
      try simp only [List.set]
      refine wpT_take 12 (v := ?_) rfl rfl (by kernel_rfl) (by kernel_rfl) (by kernel_rfl) (by kernel_rfl) (fun _ _ _ h => h) hS rfl (by intro w0 hw0; (try dsimp only at hw0); go_simp; try rfl) ?_
      try simp only [List.set]
      refine wpT_take 13 (v := ?_) rfl rfl (by kernel_rfl) (by kernel_rfl) (by kernel_rfl) (by kernel_rfl) (fun _ _ _ h => h) hS rfl (by intro w0 hw0; (try dsimp only at hw0); go_simp; try rfl) ?_
      try simp only [List.set]
      refine wpT_take 15 (v := ?_) rfl rfl (by kernel_rfl) (by kernel_rfl) (by kernel_rfl) (by kernel_rfl) (fun _ _ _ h => h) hS rfl (by intro w0 hw0; (try dsimp only at hw0); go_simp; try rfl) ?_
      try simp only [List.set]
      refine wpT_take 16 (v := ?_) rfl rfl (by kernel_rfl) (by kernel_rfl) (by kernel_rfl) (by kernel_rfl) (fun _ _ _ h => h) hS rfl (by intro w0 hw0; (try dsimp only at hw0); go_simp; try rfl) ?_
      try simp only [List.set]
      refine wpT_take 17 (v := ?_) rfl rfl (by kernel_rfl) (by kernel_rfl) (by kernel_rfl) (by kernel_rfl) (fun _ _ _ h => h) hS rfl (by intro w0 hw0; (try dsimp only at hw0); go_simp; try rfl) ?_
      try simp only [List.set]
      refine wpT_take 18 (v := ?_) rfl rfl (by kernel_rfl) (by kernel_rfl) (by kernel_rfl) (by kernel_rfl) (fun _ _ _ h => h) hS rfl (by intro w0 hw0; (try dsimp only at hw0); go_simp; try rfl) ?_
      try simp only [List.set]
      refine wpT_take 19 (v := ?_) rfl rfl (by kernel_rfl) (by kernel_rfl) (by kernel_rfl) (by kernel_rfl) (fun _ _ _ h => h) hS rfl (by intro w0 hw0; (try dsimp only at hw0); go_simp; try rfl) ?_
      try simp only [List.set]
      refine wpT_take 20 (v := ?_) rfl rfl (by kernel_rfl) (by kernel_rfl) (by kernel_rfl) (by kernel_rfl) (fun _ _ _ h => h) hS rfl (by intro w0 hw0; (try dsimp only at hw0); go_simp; try rfl) ?_
      try simp only [List.set]
      refine wpT_one 14 rfl (by kernel_rfl) rfl rfl (fun K hK => ?_)
      go_simp
      refine (l1Names_any _ _ _ _ (s1.ext (ext_drewN wr 1))).mono ?_
      rintro e w2 ⟨u1, rfl, hE2, ho2⟩
      obtain ⟨x2, y2, rfl⟩ := own_sl ho2
      go_wp2_with fail
      refine hK.out _ _ ⟨hE2.keep hS.1, hE2.keep hS.2.1, hE2.keep hS.2.2.1, hE2.keep hS.2.2.2.1, hE2.keep hS.2.2.2.2⟩ (fun hS1 => ?_)
      clear hK hS
      have hS := hS1
      clear hS1
      try clear K
      try simp only [put_some, List.set]
      refine wpT_one 21 rfl (by kernel_rfl) rfl rfl (fun K hK => ?_)
      go_simp
      refine (l1Names_any _ _ _ _ ((s2.ext (ext_drewN wr 1)).ext hE2)).mono ?_
      rintro e w3 ⟨u3, rfl, hE3, ho3⟩
      obtain ⟨x3, y3, rfl⟩ := own_sl ho3
      go_wp2_with fail
      refine hK.out _ _ ⟨hE3.keep hS.1, hE3.keep hS.2.1, hE3.keep hS.2.2.1, hE3.keep hS.2.2.2.1, hE3.keep hS.2.2.2.2⟩ (fun hS1 => ?_)
      clear hK hS
      have hS := hS1
      clear hS1
      try clear K
      try simp only [put_some, List.set]
      refine wpT_take 22 (v := ?_) rfl rfl (by kernel_rfl) (by kernel_rfl) (by kernel_rfl) (by kernel_rfl) (fun _ _ _ h => h) hS rfl (by intro w0 hw0; (try dsimp only at hw0); go_simp; try rfl) ?_
      try simp only [List.set]
      refine wpT_one 23 rfl (by kernel_rfl) rfl rfl (fun K hK => ?_)
      go_simp
      refine hK.out _ _ ⟨(ext_alloc _ _).keep hS.1, (ext_alloc _ _).keep hS.2.1, (ext_alloc _ _).keep hS.2.2.1, (ext_alloc _ _).keep hS.2.2.2.1, (ext_alloc _ _).keep hS.2.2.2.2⟩ (fun hS1 => ?_)
      clear hK hS
      have hS := hS1
      clear hS1
      try clear K
      try simp only [put_some, List.set]
      have hE4 : Ext wr w3 := Ext.tr (Ext.tr (ext_drewN wr 1) hE2) hE3
      have hzr := HR.out.lt
      have hz2 : wr.heap.size ≤ w2.heap.size := hE2.size
      have hz3 := hE3.size
      have HRow : Hid (RowOwn (w3.alloc (.cells #[.string (S (nthB b.batches k).name), .slice x2 (nthB b.batches k).has.length y2, .slice x3 (nthB b.batches k).needs.length y3] 32)) (w1.heap.size + 1) ⟨(nthB b.batches k).name, .slice x2 (nthB b.batches k).has.length y2, .slice x3 (nthB b.batches k).needs.length y3⟩ (nthB b.batches k)) :=
        ⟨rfl, hl, ((ho2.low (by show w1.heap.size + 1 ≤ wr.heap.size; omega)).ext hE3).ext (ext_alloc _ _), s1.short, (ho3.low (by omega)).ext (ext_alloc _ _), s2.short⟩
      have hba : ba < w1.heap.size := by
        obtain ⟨_, _, e, _, _, _, _, _, q0, _⟩ := hb.2.2 k hlt
        cases e
        have h : ba < w.heap.size := cell_lt q0
        omega
      refine wpT_one 24 rfl (by kernel_rfl) rfl rfl (fun K hK => ?_)
      have hE5 := Ext.tr hE4 (ext_alloc w3 (.cells #[.string (S (nthB b.batches k).name), .slice x2 (nthB b.batches k).has.length y2, .slice x3 (nthB b.batches k).needs.length y3] 32))
      have hO5 : (w3.alloc (.cells #[.string (S (nthB b.batches k).name), .slice x2 (nthB b.batches k).has.length y2, .slice x3 (nthB b.batches k).needs.length y3] 32)).ownsRow (w1.heap.size + 1) 32 3 (.slice av k cv) rs.length (cellsOf rs) := by rw [hlk]; exact row_ext HO.out hE5
      have HDN : Hid (Dis (.slice x1 b.things.length y1) (rs ++ [⟨(nthB b.batches k).name, .slice x2 (nthB b.batches k).has.length y2, .slice x3 (nthB b.batches k).needs.length y3⟩])) := by
        have hzr2 : (wr.drewN 1).heap.size = wr.heap.size := rfl
        refine HD.out.snoc (fun v hv => ?_) (NE.older ho2 ho3 (Nat.le_refl _)) ⟨NE.older (HO1.out) ho2 (by rw [hzr2]; omega), NE.older HO1.out ho3 (by omega)⟩
        obtain ⟨L, hL⟩ := HRS.out.memV hv
        exact ⟨NE.older hL ho2 (Nat.le_refl _), NE.older hL ho3 (by omega)⟩
      refine wp_row (r := ⟨(nthB b.batches k).name, .slice x2 (nthB b.batches k).has.length y2, .slice x3 (nthB b.batches k).needs.length y3⟩) _ _ rfl rfl hO5 rfl (one_cells w3 32 ⟨(nthB b.batches k).name, .slice x2 (nthB b.batches k).has.length y2, .slice x3 (nthB b.batches k).needs.length y3⟩) (row_one HRow.out) (by omega) (by simp; omega) (fun v' w4 h2 h3 h4 => ?_)
      have hlk1 : (rs ++ [(⟨(nthB b.batches k).name, .slice x2 (nthB b.batches k).has.length y2, .slice x3 (nthB b.batches k).needs.length y3⟩ : Row)]).length = k + 1 := by rw [List.length_append, hlk]; rfl
      obtain ⟨a4, c4, rfl⟩ := own_shape3 h2
      rw [hlk1] at h2 ⊢
      have hob : ∀ g, (Value.slice av k cv).ownBlock = some g → w1.heap.size + 1 ≤ g := fun g hg => by
        exact (HO.out.lt g hg).1
      have HR4 : Hid (Rec w4 w1.heap.size 26 [.slice x1 b.things.length y1, .slice av k cv]) := (HR.out.ext (Ext.tr hE4 (ext_alloc _ _))).kept h3 (fun e => by have := hob _ e.symm; omega)
      have hB4 : Below w1.heap.size wr w4 := (Below.mono (Ext.tr hE4 (ext_alloc _ _)) (by omega)).grown h3 (by simp; omega) (fun g hg => by have := hob g hg; omega)
      refine hK.out _ _ ⟨HR4.out.cell rfl, (hB4.cell (p := ⟨w.heap.size, 1, none⟩) (by simp; omega)).trans hy1, (hB4.cell (p := ⟨ba, oa + k * 3, none⟩) hba).trans p0, (hB4.cell (p := ⟨ba, oa + k * 3 + 1, none⟩) hba).trans p1, (hB4.cell (p := ⟨ba, oa + k * 3 + 2, none⟩) hba).trans p2⟩ (fun hS1 => ?_)
      clear hK hS
      have hS := hS1
      clear hS1
      try clear K
      try simp only [put_some, List.set]
      refine wpT_take 25 (v := ?_) rfl rfl (by kernel_rfl) (by kernel_rfl) (by kernel_rfl) (by kernel_rfl) (fun _ _ _ h => h) hS rfl (by intro w0 hw0; (try dsimp only at hw0); go_simp; try rfl) ?_
      try simp only [List.set]
      have hkk : ∀ (k' : Nat) c, (Value.slice av k cv).ownBlock = some k' → (w3.alloc (.cells #[.string (S (nthB b.batches k).name), .slice x2 (nthB b.batches k).has.length y2, .slice x3 (nthB b.batches k).needs.length y3] 32)).heap[k']? = some (.cells c 9 (0, 0)) → False := fun k' c e hk' => row_ne hO5 k' c e hk'
      have hg4 := gb_store w4 w1.heap.size 1 (.slice a4 (k + 1) c4)
      have hk4 : ∀ (k' : Nat) c, some w1.heap.size = some k' → w4.heap[k']? = some (.cells c 9 (0, 0)) → False := fun k' c e hk' => by
        cases e
        rw [show w4.heap[w1.heap.size]? = _ from HR4.out] at hk'
        simp at hk'
      have HN : Hid ((w4.setCell ⟨w1.heap.size, 1, none⟩ (.slice a4 (k + 1) c4)).ownsRow (w1.heap.size + 1) 32 3 (.slice a4 (k + 1) c4) (rs ++ [(⟨(nthB b.batches k).name, .slice x2 (nthB b.batches k).has.length y2, .slice x3 (nthB b.batches k).needs.length y3⟩ : Row)]).length (cellsOf (rs ++ [⟨(nthB b.batches k).name, .slice x2 (nthB b.batches k).has.length y2, .slice x3 (nthB b.batches k).needs.length y3⟩]))) := by
        rw [hlk1]
        exact World.ownsRow.kept h2 hg4 (Or.inr (fun e => by have := (h2.lt _ e).1; omega))
      have HRN2 : Hid (RowsOwn (w4.setCell ⟨w1.heap.size, 1, none⟩ (.slice a4 (k + 1) c4)) (w1.heap.size + 1) (rs ++ [⟨(nthB b.batches k).name, .slice x2 (nthB b.batches k).has.length y2, .slice x3 (nthB b.batches k).needs.length y3⟩]) (b.batches.take (k + 1))) := by
        rw [take_bs hlt]
        exact RowsOwn.snoc (((HRS.out.ext hE5).keep h3 hkk).keep hg4 hk4) ((HRow.out.keep h3 hkk).keep hg4 hk4)
      have HRN := hid (HR4.out.set 1 (.slice a4 (k + 1) c4))
      have HBN : Hid (Below w1.heap.size w1 (w4.setCell ⟨w1.heap.size, 1, none⟩ (.slice a4 (k + 1) c4))) := (HB.out.trans hB4).setCell (Nat.le_refl _) _
      have hq1 := HR4.out.cell (i := 1) rfl
      have hq2 := HR4.out.frozen 1
      clear hS h2 h3 h4 hkk hk4 hg4 hO5 hE5 HR4 hB4 HRow hE2 hE3 hE4 ho2 ho3 s1 s2 p0 p1 p2 hb' hy0 hy1
      refine wpT_last rfl (by kernel_rfl) (by kernel_rfl) rfl (fun K hK => ?_)
      go_simp
      refine hK.out _ _ ?_
      clear hK
      go_wp2
      go_roundw
      case rel => exact ⟨k + 1, _, _, by omega, by go_num, HBN.out, HRN.out, HN.out, HRN2.out, HDN.out⟩
      case measure => simp [intOf]; omega
    · have e : k = b.batches.length := by omega
      subst e
      rw [List.take_length] at *
      obtain ⟨av, cv, rfl⟩ := own_shape3 HO.out
      have hlk : rs.length = b.batches.length := HRS.out.1
      rw [hlk] at HO HR
      have hq0 := HR.out.cell (i := 0) rfl
      have hq1 := HR.out.cell (i := 1) rfl
      have HR3 := hid (HR2.out.ext HB.out)
      have t0 := HR3.out.cell (i := 0) rfl
      have t1 := HR3.out.cell (i := 1) rfl
      have f0 := HR3.out.frozen 0
      have f1 := HR3.out.frozen 1
      have HO3 := hid ((HO1.out.low (base' := w.heap.size) (by simp; omega)).ext HB.out)
      have HE3 := hid (Ext.tr HE1.out HB.out)
      clear HB HR hrec HO1 HE1 hy0 hb'
      go_wp2
      refine bodyPost_ret (v := .agg #[.slice x1 b.things.length y1, .slice av b.batches.length cv]) (by simp [results, Tryz.results51, go_sem, t0, t1]) rfl ⟨_, _, rs, rfl, ?_, ?_, ?_, ?_, HD.out⟩
      · exact (HE3.out.setCell (by simp) _).setCell (by simp) _
      · exact (HO3.out.stored HR3.out rfl _ _).stored (HR3.out.set _ _) rfl _ _
      · have hne2 : ∀ u : Value, Value.ownBlock (.slice av b.batches.length cv) ≠ some (w.heap.size + 1) := fun _ e => by have := (HO.out.lt _ e).1; omega
        rw [hlk]
        have hlow : wr.ownsRow w.heap.size 32 3 (.slice av b.batches.length cv) b.batches.length (cellsOf rs) := by
          refine ⟨HO.out.1, ?_⟩
          rcases HO.out.2 with h | ⟨g, cap, cur, hv, hg, r⟩
          · exact Or.inl h
          · exact Or.inr ⟨g, cap, cur, hv, by omega, r⟩
        exact World.ownsRow.kept (World.ownsRow.kept hlow (gb_store _ _ _ _) (Or.inr (hne2 undef))) (gb_store _ _ _ _) (Or.inr (hne2 undef))
      · have hk1 : ∀ (k' : Nat) c, some (w.heap.size + 1) = some k' → wr.heap[k']? = some (.cells c 9 (0, 0)) → False := fun k' c e hk' => by
          cases e
          rw [show wr.heap[w.heap.size + 1]? = _ from HR3.out] at hk'
          simp at hk'
        have r1 := HR3.out.set 0 (.slice x1 b.things.length y1)
        have hk2 : ∀ (k' : Nat) c, some (w.heap.size + 1) = some k' → (wr.setCell ⟨w.heap.size + 1, 0, none⟩ (.slice x1 b.things.length y1)).heap[k']? = some (.cells c 9 (0, 0)) → False := fun k' c e hk' => by
          cases e
          rw [show (wr.setCell ⟨w.heap.size + 1, 0, none⟩ (.slice x1 b.things.length y1)).heap[w.heap.size + 1]? = _ from r1] at hk'
          simp at hk'
        exact ((HRS.out.low (by omega)).keep (gb_store _ _ _ _) hk1).keep (gb_store _ _ _ _) hk2
end Go.Proofs.YtdafpnpfcmgfcaaGreat
namespace Go.Proofs.YtdafpnpfcmgfcaaGreat
open Go.RowKit
attribute [local go_sem] S_toList S_size S_get

theorem allV_atD : ∀ (rs : List Row) (i : Nat) (r : Row), rs[i]? = some r → (allV rs)[2 * i]? = some r.has ∧ (allV rs)[2 * i + 1]? = some r.needs
  | [], i, r, h => by simp at h
  | x :: rs, 0, r, h => by
    simp at h; subst h
    exact ⟨rfl, rfl⟩
  | x :: rs, i + 1, r, h => by
    have h' := allV_atD rs i r (by simpa using h)
    have e : allV (x :: rs) = x.has :: x.needs :: allV rs := rfl
    have e2 : 2 * (i + 1) = 2 * i + 1 + 1 := by omega
    rw [e, e2]
    exact h'
theorem pw_ne {l : List Value} (h : l.Pairwise NE) {i j : Nat} {u v : Value} (hi : l[i]? = some u) (hj : l[j]? = some v) (hne : i ≠ j) : NE u v := by
  have li : i < l.length := by
    rcases Nat.lt_or_ge i l.length with h' | h'
    · exact h'
    · simp [List.getElem?_eq_none h'] at hi
  have lj : j < l.length := by
    rcases Nat.lt_or_ge j l.length with h' | h'
    · exact h'
    · simp [List.getElem?_eq_none h'] at hj
  rw [List.getElem?_eq_getElem li] at hi
  rw [List.getElem?_eq_getElem lj] at hj
  cases hi; cases hj
  rcases Nat.lt_or_gt_of_ne hne with h' | h'
  · exact (List.pairwise_iff_getElem.1 h) i j li lj h'
  · exact ((List.pairwise_iff_getElem.1 h) j i lj li h').symm
theorem cellsOf_nameD : ∀ (rs : List Row) (k : Nat) (r : Row) (s : Str), rs[k]? = some r → (cellsOf rs).set (k * 3) (.string (S s)) = cellsOf (rs.set k ⟨s, r.has, r.needs⟩)
  | [], k, r, s, h => by simp at h
  | x :: rs, 0, r, s, h => by
    simp at h; subst h
    rfl
  | x :: rs, k + 1, r, s, h => by
    have h' := cellsOf_nameD rs k r s (by simpa using h)
    have e3 : (k + 1) * 3 = (k * 3) + 1 + 1 + 1 := by omega
    rw [cellsOf_cons, e3, List.set_cons_succ, List.set_cons_succ, List.set_cons_succ, h', List.set_cons_succ, cellsOf_cons]

def Small9 (bs : List Batch) : Prop := ∀ x ∈ bs, x.has.length ≤ 9 ∧ x.needs.length ≤ 9
def SmB9 (b : Book) : Prop := b.things.length ≤ 9 ∧ b.batches.length ≤ 7 ∧ Small9 b.batches
theorem SmB.nine {b : Book} (h : SmB b) : SmB9 b := ⟨by have := h.1; omega, by have := h.2.1; omega, fun x hx => by have := h.2.2 x hx; omega⟩

/-- A copy that may still be spoilt. -/
structure PS (w wc : World) (R q X : Nat) (things : List Str) (bs : List Batch) (rs : List Row) (v1 v2 : Value) : Prop where
  on : w.grownBy wc (some R)
  rd : Rd wc R q
  rr : Rec wc (w.heap.size + 1) 26 [.slice none 0 0, .slice none 0 0]
  rx : Rec wc X 26 [v1, v2]
  o1 : OwnL wc (w.heap.size + 2) v1 things
  ob : wc.ownsRow (w.heap.size + 2) 32 3 v2 rs.length (cellsOf rs)
  ow : RowsOwn wc (w.heap.size + 2) rs bs
  hR : R < w.heap.size
  hX : w.heap.size + 2 ≤ X
  hz : w.heap.size + 2 ≤ wc.heap.size

theorem PS.ext {w wc wd : World} {R q X : Nat} {things : List Str} {bs : List Batch} {rs : List Row} {v1 v2 : Value} (h : PS w wc R q X things bs rs v1 v2) (e : Ext wc wd) : PS w wd R q X things bs rs v1 v2 :=
  ⟨gb_tr h.on (gb_ext e _), h.rd.ext e, h.rr.ext e, h.rx.ext e, h.o1.ext e, row_ext h.ob e, h.ow.ext e, h.hR, h.hX, Nat.le_trans h.hz e.size⟩
theorem PS.read {w wc wd : World} {R q q' X : Nat} {things : List Str} {bs : List Batch} {rs : List Row} {v1 v2 : Value} (h : PS w wc R q X things bs rs v1 v2) (g : wc.grownBy wd (some R)) (hr : Rd wd R q') : PS w wd R q' X things bs rs v1 v2 := by
  have hR := h.hR
  have hX := h.hX
  have hf : ∀ k, some R = some k → k < w.heap.size + 2 := fun k e => by cases e; omega
  exact ⟨gb_tr h.on g, hr, h.rr.kept g (by simp; omega), h.rx.kept g (by simp; omega), h.o1.far g hf, own_far h.ob g hf, h.ow.far g hf, h.hR, h.hX, Nat.le_trans h.hz g.size⟩
theorem PS.mono {w wc : World} {R q q' X : Nat} {things : List Str} {bs : List Batch} {rs : List Row} {v1 v2 : Value} (h : PS w wc R q X things bs rs v1 v2) (hq : q ≤ q') : PS w wc R q' X things bs rs v1 v2 :=
  ⟨h.on, h.rd.mono hq, h.rr, h.rx, h.o1, h.ob, h.ow, h.hR, h.hX, h.hz⟩
/-- What lies in the box at the end. -/
structure FS (w wc : World) (R q X : Nat) : Prop where
  on : w.grownBy wc (some R)
  rd : Rd wc R q
  rr : Rec wc (w.heap.size + 1) 26 [.slice none 0 0, .slice none 0 0]
  bk : ∃ (b : Book) (z1 z2 : Option Addr) (d1 d2 : Nat), Rec wc X 26 [.slice z1 b.things.length d1, .slice z2 b.batches.length d2] ∧ BookAt wc z1 z2 b ∧ SmB9 b
  hR : R < w.heap.size
theorem PS.fs {w wc : World} {R q X : Nat} {things : List Str} {bs : List Batch} {rs : List Row} {v1 v2 : Value} (h : PS w wc R q X things bs rs v1 v2) (hs : ShortL things) (h1 : things.length ≤ 9) (h2 : bs.length ≤ 7) (h3 : Small9 bs) : FS w wc R q X := by
  refine ⟨h.on, h.rd, h.rr, ?_, h.hR⟩
  obtain ⟨z1, d1, rfl⟩ := own_sl h.o1
  have hob : OwnBs wc (w.heap.size + 2) v2 bs := ⟨rs, h.ob, h.ow⟩
  obtain ⟨z2, d2, rfl⟩ := hob.len
  exact ⟨⟨things, bs⟩, z1, z2, d1, d2, h.rx, own_book_at (b := ⟨things, bs⟩) h.o1 ⟨by show things.length ≤ _; omega, hs⟩ hob (by show bs.length ≤ _; omega), h1, h2, h3⟩

/-- A thing is added. -/
theorem PS.thing {w wc wd : World} {R q X : Nat} {things things' : List Str} {bs : List Batch} {rs : List Row} {v1 v1' v2 : Value} (h : PS w wc R q X things bs rs v1 v2) (hd : ∀ v ∈ allV rs, NE v1 v) (g : wc.grownBy wd v1.ownBlock) (ho : OwnL wd (w.heap.size + 2) v1' things') : PS w (wd.setCell ⟨X, 0, none⟩ v1') R q X things' bs rs v1' v2 := by
  have hR := h.hR
  have hX := h.hX
  have hob : ∀ k, v1.ownBlock = some k → w.heap.size + 2 ≤ k := fun k e => (h.o1.lt k e).1
  have rx1 := h.rx.kept g (h.rx.not_row rfl h.o1)
  have rr1 := h.rr.kept g (h.rr.not_row rfl h.o1)
  have g2 := gb_store wd X 0 v1'
  have hk2 : ∀ (k : Nat) c, some X = some k → wd.heap[k]? = some (.cells c 9 (0, 0)) → False := fun k c e hk => by
    cases e
    rw [show wd.heap[X]? = _ from rx1] at hk
    simp at hk
  have hn1 : ∀ k, v1.ownBlock = some k → v2.ownBlock = some k → False := fun k e1 e2 => by
    rcases h.o1.2 with ⟨e, _⟩ | ⟨b1, _, _, e, _, hg1, _⟩
    · rw [e] at e1; simp [Value.ownBlock] at e1
    · rcases h.ob.2 with ⟨e', _⟩ | ⟨b2, _, _, e', _, hg2, _⟩
      · rw [e'] at e2; simp [Value.ownBlock] at e2
      · rw [e] at e1
        rw [e'] at e2
        simp only [Value.ownBlock, Option.some.injEq] at e1 e2
        subst e1; subst e2
        rw [hg1] at hg2; simp at hg2
  have ob1 := own_ne h.ob g hn1
  have ow1 := h.ow.ne g (fun r hr => ⟨hd _ (mem_allV hr).1, hd _ (mem_allV hr).2⟩)
  refine ⟨on_grown (on_grown h.on g (fun k e => by have := hob k e; omega)) g2 (fun k e => by cases e; omega), (h.rd.gb g (fun k e => by have := hob k e; omega)).gb g2 (fun k e => by cases e; omega), rr1.kept g2 ?_, rx1.set 0 v1', ho.keep g2 hk2, World.ownsRow.kept ob1 g2 (Or.inr (fun e => rx1.not_row rfl ob1 e.symm)), ow1.keep g2 hk2, h.hR, h.hX, Nat.le_trans h.hz (Nat.le_trans g.size g2.size)⟩
  simp; omega
/-- The row's cells turn. -/
theorem PS.cellsTurn {w wc : World} {R q X g n c i : Nat} {things : List Str} {bs bs' : List Batch} {rs rs' : List Row} {v1 u : Value} (h : PS w wc R q X things bs rs v1 (.slice (some ⟨g, 0, none⟩) n c)) (hc : (cellsOf rs).set i u = cellsOf rs') (hl : rs'.length = rs.length) (how : RowsOwn wc (w.heap.size + 2) rs' bs') : PS w (wc.setCell ⟨g, i, none⟩ u) R q X things bs' rs' v1 (.slice (some ⟨g, 0, none⟩) n c) := by
  have hR := h.hR
  have hX := h.hX
  obtain ⟨a', c', ee⟩ := own_shape3 h.ob
  have hn : n = rs.length := by simp only [Value.slice.injEq] at ee; exact ee.2.1
  subst hn
  have h3 := World.ownsRow.stored h.ob i u
  have hgb : w.heap.size + 2 ≤ g := (h.ob.lt g rfl).1
  have g2 := gb_store wc g i u
  have hk2 : ∀ (k : Nat) c, some g = some k → wc.heap[k]? = some (.cells c 9 (0, 0)) → False := fun k cc e hk => row_ne h.ob k cc (by rw [← e]; rfl) hk
  refine ⟨on_grown h.on g2 (fun k e => by cases e; omega), h.rd.gb g2 (fun k e => by cases e; omega), h.rr.kept g2 (h.rr.not_row rfl h.ob), h.rx.kept g2 (h.rx.not_row rfl h.ob), h.o1.keep g2 hk2, ?_, how.keep g2 hk2, h.hR, h.hX, Nat.le_trans h.hz g2.size⟩
  rw [hl, ← hc]; exact h3.1
/-- A row of names of the copy's own turns: that of the batch at k alone. -/
theorem PS.listTurn {w wc wd : World} {R q X : Nat} {things : List Str} {bs : List Batch} {rs : List Row} {v1 v2 u : Value} {L : List Str} (h : PS w wc R q X things bs rs v1 v2) (ho : OwnL wc (w.heap.size + 2) u L) (g : wc.grownBy wd u.ownBlock) (n1 : NE u v1) : w.grownBy wd (some R) ∧ Rd wd R q ∧ Rec wd (w.heap.size + 1) 26 [.slice none 0 0, .slice none 0 0] ∧ Rec wd X 26 [v1, v2] ∧ OwnL wd (w.heap.size + 2) v1 things ∧ wd.ownsRow (w.heap.size + 2) 32 3 v2 rs.length (cellsOf rs) := by
  have hR := h.hR
  have hob : ∀ k, u.ownBlock = some k → w.heap.size + 2 ≤ k := fun k e => (ho.lt k e).1
  refine ⟨on_grown h.on g (fun k e => by have := hob k e; omega), h.rd.gb g (fun k e => by have := hob k e; omega), h.rr.kept g (h.rr.not_row rfl ho), h.rx.kept g (h.rx.not_row rfl ho), own_ne h.o1 g n1, own_ne h.ob g (fun k e1 e2 => ?_)⟩
  rcases ho.2 with ⟨e, _⟩ | ⟨b1, _, _, e, _, hg1, _⟩
  · rw [e] at e1; simp [Value.ownBlock] at e1
  · rcases h.ob.2 with ⟨e', _⟩ | ⟨b2, _, _, e', _, hg2, _⟩
    · rw [e'] at e2; simp [Value.ownBlock] at e2
    · rw [e] at e1
      rw [e'] at e2
      simp only [Value.ownBlock, Option.some.injEq] at e1 e2
      subst e1; subst e2
      rw [hg1] at hg2; simp at hg2
/-- One list of one batch grows. -/
theorem PS.needs {w wc wd : World} {R q X g n c k : Nat} {things : List Str} {bs : List Batch} {rs : List Row} {v1 u' : Value} {r : Row} {L' : List Str} (h : PS w wc R q X things bs rs v1 (.slice (some ⟨g, 0, none⟩) n c)) (hd : Dis v1 rs) (hr : rs[k]? = some r) (gw : wc.grownBy wd r.needs.ownBlock) (ho' : OwnL wd (w.heap.size + 2) u' L') (hs : ShortS L') :
    PS w (wd.setCell ⟨g, k * 3 + 2, none⟩ u') R q X things (bs.set k ⟨(nthB bs k).name, (nthB bs k).has, L'⟩) (rs.set k ⟨r.name, r.has, u'⟩) v1 (.slice (some ⟨g, 0, none⟩) n c) := by
  have hkr : k < rs.length := by
    rcases Nat.lt_or_ge k rs.length with h' | h'
    · exact h'
    · simp [List.getElem?_eq_none h'] at hr
  have hkb : k < bs.length := by rw [← h.ow.1]; exact hkr
  obtain ⟨e1, e2, e3, e4, e5, e6⟩ := h.ow.2 k r _ hr (List.getElem?_eq_getElem hkb)
  have hav := allV_atD rs k r hr
  obtain ⟨k1, k2, k3, k4, k5, k6⟩ := h.listTurn e5 gw ((hd.2 _ (mem_allV (List.mem_of_getElem? hr)).2).symm)
  have how : RowsOwn wd (w.heap.size + 2) (rs.set k ⟨r.name, r.has, u'⟩) (bs.set k ⟨(nthB bs k).name, (nthB bs k).has, L'⟩) := by
    refine ⟨by simp [h.ow.1], fun i r' x' h1 h2 => ?_⟩
    rw [List.getElem?_set] at h1 h2
    by_cases e : k = i
    · subst e
      rw [if_pos rfl, if_pos hkr] at h1
      rw [if_pos rfl, if_pos hkb] at h2
      cases h1; cases h2
      rw [nthB_get hkb]
      exact ⟨e1, e2, own_ne e3 gw (pw_ne hd.1 hav.2 hav.1 (by omega)), e4, ho', hs⟩
    · rw [if_neg e] at h1 h2
      obtain ⟨f1, f2, f3, f4, f5, f6⟩ := h.ow.2 i r' x' h1 h2
      have hai := allV_atD rs i r' h1
      exact ⟨f1, f2, own_ne f3 gw (pw_ne hd.1 hav.2 hai.1 (by omega)), f4, own_ne f5 gw (pw_ne hd.1 hav.2 hai.2 (by omega)), f6⟩
  have hps : PS w wd R q X things bs rs v1 (.slice (some ⟨g, 0, none⟩) n c) → True := fun _ => trivial
  obtain ⟨a', c', ee⟩ := own_shape3 k6
  have hn : n = rs.length := by simp only [Value.slice.injEq] at ee; exact ee.2.1
  subst hn
  have h3 := World.ownsRow.stored k6 (k * 3 + 2) u'
  have hgb : w.heap.size + 2 ≤ g := (k6.lt g rfl).1
  have g2 := gb_store wd g (k * 3 + 2) u'
  have hk2 : ∀ (k' : Nat) cc, some g = some k' → wd.heap[k']? = some (.cells cc 9 (0, 0)) → False := fun k' cc e hk => row_ne k6 k' cc (by rw [← e]; rfl) hk
  have hR := h.hR
  clear hps
  refine ⟨on_grown k1 g2 (fun k e => by cases e; omega), k2.gb g2 (fun k e => by cases e; omega), k3.kept g2 (k3.not_row rfl k6), k4.kept g2 (k4.not_row rfl k6), k5.keep g2 hk2, ?_, how.keep g2 hk2, h.hR, h.hX, Nat.le_trans h.hz (Nat.le_trans gw.size g2.size)⟩
  rw [List.length_set, ← cellsOf_needs rs k r u' hr]; exact h3.1
theorem PS.hasGrow {w wc wd : World} {R q X g n c k : Nat} {things : List Str} {bs : List Batch} {rs : List Row} {v1 u' : Value} {r : Row} {L' : List Str} (h : PS w wc R q X things bs rs v1 (.slice (some ⟨g, 0, none⟩) n c)) (hd : Dis v1 rs) (hr : rs[k]? = some r) (gw : wc.grownBy wd r.has.ownBlock) (ho' : OwnL wd (w.heap.size + 2) u' L') (hs : ShortS L') :
    PS w (wd.setCell ⟨g, k * 3 + 1, none⟩ u') R q X things (bs.set k ⟨(nthB bs k).name, L', (nthB bs k).needs⟩) (rs.set k ⟨r.name, u', r.needs⟩) v1 (.slice (some ⟨g, 0, none⟩) n c) := by
  have hkr : k < rs.length := by
    rcases Nat.lt_or_ge k rs.length with h' | h'
    · exact h'
    · simp [List.getElem?_eq_none h'] at hr
  have hkb : k < bs.length := by rw [← h.ow.1]; exact hkr
  obtain ⟨e1, e2, e3, e4, e5, e6⟩ := h.ow.2 k r _ hr (List.getElem?_eq_getElem hkb)
  have hav := allV_atD rs k r hr
  obtain ⟨k1, k2, k3, k4, k5, k6⟩ := h.listTurn e3 gw ((hd.2 _ (mem_allV (List.mem_of_getElem? hr)).1).symm)
  have how : RowsOwn wd (w.heap.size + 2) (rs.set k ⟨r.name, u', r.needs⟩) (bs.set k ⟨(nthB bs k).name, L', (nthB bs k).needs⟩) := by
    refine ⟨by simp [h.ow.1], fun i r' x' h1 h2 => ?_⟩
    rw [List.getElem?_set] at h1 h2
    by_cases e : k = i
    · subst e
      rw [if_pos rfl, if_pos hkr] at h1
      rw [if_pos rfl, if_pos hkb] at h2
      cases h1; cases h2
      rw [nthB_get hkb]
      exact ⟨e1, e2, ho', hs, own_ne e5 gw (pw_ne hd.1 hav.1 hav.2 (by omega)), e6⟩
    · rw [if_neg e] at h1 h2
      obtain ⟨f1, f2, f3, f4, f5, f6⟩ := h.ow.2 i r' x' h1 h2
      have hai := allV_atD rs i r' h1
      exact ⟨f1, f2, own_ne f3 gw (pw_ne hd.1 hav.1 hai.1 (by omega)), f4, own_ne f5 gw (pw_ne hd.1 hav.1 hai.2 (by omega)), f6⟩
  obtain ⟨a', c', ee⟩ := own_shape3 k6
  have hn : n = rs.length := by simp only [Value.slice.injEq] at ee; exact ee.2.1
  subst hn
  have h3 := World.ownsRow.stored k6 (k * 3 + 1) u'
  have hgb : w.heap.size + 2 ≤ g := (k6.lt g rfl).1
  have g2 := gb_store wd g (k * 3 + 1) u'
  have hk2 : ∀ (k' : Nat) cc, some g = some k' → wd.heap[k']? = some (.cells cc 9 (0, 0)) → False := fun k' cc e hk => row_ne k6 k' cc (by rw [← e]; rfl) hk
  have hR := h.hR
  refine ⟨on_grown k1 g2 (fun k e => by cases e; omega), k2.gb g2 (fun k e => by cases e; omega), k3.kept g2 (k3.not_row rfl k6), k4.kept g2 (k4.not_row rfl k6), k5.keep g2 hk2, ?_, how.keep g2 hk2, h.hR, h.hX, Nat.le_trans h.hz (Nat.le_trans gw.size g2.size)⟩
  rw [List.length_set, ← cellsOf_has rs k r u' hr]; exact h3.1
/-- A batch is added. -/
theorem PS.row {w wc wd : World} {R q X : Nat} {things : List Str} {bs : List Batch} {rs : List Row} {v1 v2 v2' : Value} {r : Row} {x : Batch} (h : PS w wc R q X things bs rs v1 v2) (hx : RowOwn wc (w.heap.size + 2) r x) (g : wc.grownBy wd v2.ownBlock) (ho : wd.ownsRow (w.heap.size + 2) 32 3 v2' (rs ++ [r]).length (cellsOf (rs ++ [r]))) : PS w (wd.setCell ⟨X, 1, none⟩ v2') R q X things (bs ++ [x]) (rs ++ [r]) v1 v2' := by
  have hR := h.hR
  have hX := h.hX
  have hob : ∀ k, v2.ownBlock = some k → w.heap.size + 2 ≤ k := fun k e => (h.ob.lt k e).1
  have hk : ∀ (k : Nat) c, v2.ownBlock = some k → wc.heap[k]? = some (.cells c 9 (0, 0)) → False := fun k c e hk => row_ne h.ob k c e hk
  have rx1 := h.rx.kept g (h.rx.not_row rfl h.ob)
  have g2 := gb_store wd X 1 v2'
  have hk2 : ∀ (k : Nat) c, some X = some k → wd.heap[k]? = some (.cells c 9 (0, 0)) → False := fun k c e hk => by
    cases e
    rw [show wd.heap[X]? = _ from rx1] at hk
    simp at hk
  refine ⟨on_grown (on_grown h.on g (fun k e => by have := hob k e; omega)) g2 (fun k e => by cases e; omega), (h.rd.gb g (fun k e => by have := hob k e; omega)).gb g2 (fun k e => by cases e; omega), (h.rr.kept g (h.rr.not_row rfl h.ob)).kept g2 (by simp; omega), rx1.set 1 v2', (h.o1.keep g hk).keep g2 hk2, World.ownsRow.kept ho g2 (Or.inr (fun e => rx1.not_row rfl ho e.symm)), RowsOwn.snoc ((h.ow.keep g hk).keep g2 hk2) ((hx.keep g hk).keep g2 hk2), h.hR, h.hX, Nat.le_trans h.hz (Nat.le_trans g.size g2.size)⟩
end Go.Proofs.YtdafpnpfcmgfcaaGreat
