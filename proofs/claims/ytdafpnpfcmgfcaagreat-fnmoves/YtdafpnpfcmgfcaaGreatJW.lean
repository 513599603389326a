/- The walk over l5Any. The walks over l5Asks, DrawShareLess and DrawShareEnter. -/
import Derived.Test.YtdafpnpfcmgfcaaGreatD10
namespace Go.Proofs.YtdafpnpfcmgfcaaGreat
open Go.RowKit
attribute [local go_sem] S_toList S_size S_get

/-- Two stores into one box of slices. -/
theorem one_box {w wc : World} {RB R q : Nat} {r1 r2 : Value} {x1 x2 : Option Addr} {y1 y2 n1 n2 : Nat} {b : Book} (hE : w.grownBy wc (some R)) (hrd : Rd wc R q) (hR : Rec wc RB 26 [r1, r2]) (hr : NoStr [r1, r2]) (h2 : w.heap.size ≤ RB) (hlt : R < RB) (hb : BookAt wc x1 x2 b) :
    w.grownBy ((wc.setCell ⟨RB, 0, none⟩ (.slice x1 n1 y1)).setCell ⟨RB, 1, none⟩ (.slice x2 n2 y2)) (some R) ∧ Rd ((wc.setCell ⟨RB, 0, none⟩ (.slice x1 n1 y1)).setCell ⟨RB, 1, none⟩ (.slice x2 n2 y2)) R q ∧ BookAt ((wc.setCell ⟨RB, 0, none⟩ (.slice x1 n1 y1)).setCell ⟨RB, 1, none⟩ (.slice x2 n2 y2)) x1 x2 b := by
  refine ⟨on_grown (on_grown hE (gb_store _ _ _ _) (fun g hg => by cases hg; omega)) (gb_store _ _ _ _) (fun g hg => by cases hg; omega), (hrd.gb (gb_store _ _ _ _) (fun g hg => by cases hg; omega)).gb (gb_store _ _ _ _) (fun g hg => by cases hg; omega), ?_⟩
  have hr1 : NoStr [Value.slice x1 n1 y1, r2] := by
    intro v hv s e
    simp only [List.mem_cons, List.not_mem_nil, or_false] at hv
    rcases hv with rfl | rfl
    · cases e
    · exact hr _ (by simp) s e
  exact (hb.box hR hr).box (hR.set 0 _) hr1

set_option maxRecDepth 100000 in
set_option maxHeartbeats 1000000 in
theorem l5Any_any (R q : Nat) (w : World) (h : Rd w R q) (hq : q ≤ 600000) :
    Calls Qry.prog 16 #[.pointer (some ⟨R, 0, none⟩)] w fun e w' =>
      ∃ (b : Book) (x1 x2 : Option Addr) (y1 y2 : Nat), e = .returned (.agg #[.slice x1 b.things.length y1, .slice x2 b.batches.length y2]) ∧ w.grownBy w' (some R) ∧ Rd w' R (q + 3100) ∧ BookAt w' x1 x2 b ∧ SmB9 b := by
  have hlt0 := h.lt
  go_enter Qry.func16, Tryz.ntmps16
  go_wp2_with fail
  refine (l5Book_any R q _ (h.ext (ext_alloc _ _)) (by omega)).mono ?_
  rintro e w1 ⟨b, x1, x2, y1, y2, rfl, hg1, hr1, hb1, hsm⟩
  have hz1 := hg1.size
  simp at hz1
  have HG1 : Hid (w.grownBy (w1.alloc (.cells #[.slice x1 b.things.length y1, .slice x2 b.batches.length y2] 26)) (some R)) := gb_tr (gb_tr (gb_ext (ext_alloc _ _) _) hg1) (gb_ext (ext_alloc _ _) _)
  have HRd := hid (hr1.ext (ext_alloc w1 (.cells #[.slice x1 b.things.length y1, .slice x2 b.batches.length y2] 26)))
  have HRR : Hid (Rec (w1.alloc (.cells #[.slice x1 b.things.length y1, .slice x2 b.batches.length y2] 26)) w.heap.size 26 [.slice none 0 0, .slice none 0 0]) := ((Rec.new w _ _).kept hg1 (by simp; omega)).ext (ext_alloc _ _)
  have HRX : Hid (Rec (w1.alloc (.cells #[.slice x1 b.things.length y1, .slice x2 b.batches.length y2] 26)) w1.heap.size 26 [.slice x1 b.things.length y1, .slice x2 b.batches.length y2]) := Rec.new w1 _ _
  have HB := hid (hb1.ext (ext_alloc w1 (.cells #[.slice x1 b.things.length y1, .slice x2 b.batches.length y2] 26)))
  clear hg1 hr1 hb1
  go_wp2_with fail
  generalize w1.alloc (.cells #[.slice x1 b.things.length y1, .slice x2 b.batches.length y2] 26) = w2 at HG1 HRd HRR HRX HB ⊢
  generalize w1.heap.size = X at HRX hz1 ⊢
  refine (pick_any R (q + 3000) 20 w2 HRd.out (by omega) (by omega) (by omega)).mono ?_
  rintro e w3 ⟨j, rfl, hj, hg3, hr3⟩
  have HG3 := hid (gb_tr HG1.out hg3)
  have HRR3 := hid (HRR.out.kept hg3 (by simp; omega))
  have HRX3 := hid (HRX.out.kept hg3 (by simp; omega))
  have HB3 := hid (HB.out.on HRd.out hg3)
  have HRd3 := hid hr3
  clear HG1 HRR HRX HB HRd hg3 hr3
  have c0 := HRX3.out.cell (i := 0) rfl
  have c1 := HRX3.out.cell (i := 1) rfl
  by_cases hj0 : j = 0
  · subst hj0
    go_wp2_with fail
    refine (l5Spoil_any R (q + 3000 + 1) b x1 x2 y1 y2 w3 HRd3.out (by omega) HB3.out hsm).mono ?_
    rintro e w4 ⟨b', z1, z2, d1, d2, rfl, hg4, hr4, hb4, hsm4⟩
    have HG4 := hid (gb_tr HG3.out hg4)
    have HRR4 := hid (HRR3.out.kept hg4 (by simp; omega))
    have HBK := hid hb4
    have HRd4 := hid hr4
    have HSM := hid hsm4
    clear hg4 hr4 hb4 hsm4 HG3 HRR3 HRX3 HB3 HRd3 c0 c1
    have t0 := HRR4.out.cell (i := 0) rfl
    have t1 := HRR4.out.cell (i := 1) rfl
    have f0 := HRR4.out.frozen 0
    have f1 := HRR4.out.frozen 1
    go_wp2
    obtain ⟨k1, k2, k3⟩ := one_box (n1 := b'.things.length) (n2 := b'.batches.length) (y1 := d1) (y2 := d2) HG4.out HRd4.out HRR4.out noStr2 (Nat.le_refl _) hlt0 HBK.out
    refine bodyPost_ret (v := .agg #[.slice z1 b'.things.length d1, .slice z2 b'.batches.length d2]) (by simp [results, Tryz.results16, go_sem, t0, t1]) rfl (by
      refine ⟨b', z1, z2, ?_⟩
      first
        | exact ⟨d1, d2, rfl, k1, k2.mono (by omega), k3, HSM.out⟩
        | exact ⟨⟨d1, d2, rfl⟩, k1, k2.mono (by omega), k3, HSM.out⟩)
  · have hj1 : ((j : Int) == 0) = false := by simp; omega
    have t0 := HRR3.out.cell (i := 0) rfl
    have t1 := HRR3.out.cell (i := 1) rfl
    have f0 := HRR3.out.frozen 0
    have f1 := HRR3.out.frozen 1
    go_wp2
    obtain ⟨k1, k2, k3⟩ := one_box (n1 := b.things.length) (n2 := b.batches.length) (y1 := y1) (y2 := y2) HG3.out HRd3.out HRR3.out noStr2 (Nat.le_refl _) hlt0 HB3.out
    refine bodyPost_ret (v := .agg #[.slice x1 b.things.length y1, .slice x2 b.batches.length y2]) (by simp [results, Tryz.results16, go_sem, t0, t1]) rfl (by
      refine ⟨b, x1, x2, ?_⟩
      first
        | exact ⟨y1, y2, rfl, k1, k2.mono (by omega), k3, hsm.nine⟩
        | exact ⟨⟨y1, y2, rfl⟩, k1, k2.mono (by omega), k3, hsm.nine⟩)
theorem on_new {w w1 w2 : World} {R : Nat} (h1 : Ext w w1) (hR : w.heap.size ≤ R) (g : w1.grownBy w2 (some R)) : Ext w w2 :=
  ⟨g.os.trans h1.os, g.tape.trans h1.tape, g.output.trans h1.output, Nat.le_trans h1.size g.size, fun k hk => by
    have := h1.size
    rw [g.block k (by omega) (by simp; omega)]
    exact h1.block k hk⟩
end Go.Proofs.YtdafpnpfcmgfcaaGreat
namespace Go.Proofs.YtdafpnpfcmgfcaaGreat
open Go.RowKit
attribute [local go_sem] S_toList S_size S_get

theorem SmB9.does {b : Book} (h : SmB9 b) : DoesSm b := ⟨h.1, h.2.1, fun i hi => by
  rw [nthB_get hi]
  exact (h.2.2 _ (List.getElem_mem hi)).2⟩
/-- A book, a name, a list. -/
def AskRes (w : World) (e : Ending) (w' : World) : Prop :=
  ∃ (b : Book) (x1 x2 x3 : Option Addr) (y1 y2 y3 : Nat) (s : Str) (L : List Str), e = .returned (.tuple #[.agg #[.slice x1 b.things.length y1, .slice x2 b.batches.length y2], .string (S s), .slice x3 L.length y3]) ∧ Ext w w' ∧ BookAt w' x1 x2 b ∧ StrsAt w' x3 L ∧ SmB9 b ∧ s.length ≤ 140737488355328

theorem StrsAt.box {w : World} {a : Option Addr} {ss : List Str} {X : Nat} {t : TypeId} {l : List Value} (h : StrsAt w a ss) (hr : Rec w X t l) (hn : NoStr l) (i : Nat) (u : Value) : StrsAt (w.setCell ⟨X, i, none⟩ u) a ss :=
  h.gb (gb_store _ _ _ _) (fun hp b o e => by
    obtain ⟨b', o', e', hc⟩ := (h.2 0 hp).2
    rw [e] at e'
    cases e'
    intro e2
    cases e2
    exact rec_ne hr hn hc rfl)

set_option maxRecDepth 100000 in
set_option maxHeartbeats 1000000 in
theorem asks_any (a : Option Addr) (n c : Nat) (w : World) (h : BytesAt w a n) (hn : n ≤ c) (hc : c ≤ 140737488355328) :
    Calls Qry.prog 30 #[.slice a n c] w fun e w' => AskRes w e w' := by
  have hby : BytesAt (w.alloc (.cells #[.slice none 0 0, .slice none 0 0] 26)) a n := h.gb (gb_none (ext_alloc _ _)) (fun b o e hp => by simp)
  go_enter Qry.func30, Tryz.ntmps30
  go_wp2_with fail
  refine (l1Open_any a n c _ hby hn hc).mono ?_
  rintro e w1 ⟨rfl, hE1, hr1⟩
  have hz1 := hr1.lt
  simp at hr1 hz1
  have HRR : Hid (Rec w1 w.heap.size 26 [.slice none 0 0, .slice none 0 0]) := (Rec.new w _ _).ext hE1
  have HE1 := hid (Ext.tr (ext_alloc _ _) hE1)
  clear hE1
  go_wp2_with fail
  refine (l5Any_any (w.heap.size + 1) 0 w1 hr1 (by omega)).mono ?_
  rintro e w2 ⟨b, x1, x2, y1, y2, rfl, hg2, hr2, hb2, hsm⟩
  have hz2 := hg2.size
  have HE2 := hid (Ext.tr (on_new HE1.out (by omega) hg2) (ext_alloc w2 (.cells #[.slice x1 b.things.length y1, .slice x2 b.batches.length y2] 26)))
  have HRR2 := hid ((HRR.out.kept hg2 (by simp)).ext (ext_alloc w2 (.cells #[.slice x1 b.things.length y1, .slice x2 b.batches.length y2] 26)))
  have HB2 := hid (hb2.ext (ext_alloc w2 (.cells #[.slice x1 b.things.length y1, .slice x2 b.batches.length y2] 26)))
  have HRd2 := hid (hr2.ext (ext_alloc w2 (.cells #[.slice x1 b.things.length y1, .slice x2 b.batches.length y2] 26)))
  have HRX2 : Hid (Rec (w2.alloc (.cells #[.slice x1 b.things.length y1, .slice x2 b.batches.length y2] 26)) w2.heap.size 26 [.slice x1 b.things.length y1, .slice x2 b.batches.length y2]) := Rec.new w2 _ _
  clear hg2 hr2 hb2 HRR HE1 hr1
  go_wp2_with fail
  generalize w2.alloc (.cells #[.slice x1 b.things.length y1, .slice x2 b.batches.length y2] 26) = w3 at HE2 HRR2 HB2 HRd2 HRX2 ⊢
  have hXw : w.heap.size + 1 + 1 ≤ w2.heap.size := by omega
  generalize w2.heap.size = X at HRX2 hXw ⊢
  refine (l5Does_any (w.heap.size + 1) (0 + 3100) b _ _ _ _ _ HRd2.out (by omega) HB2.out hsm.does).mono ?_
  rintro e w4 ⟨kind, s, L, x3, y3, rfl, hg4, hr4, hl4, hsl⟩
  have hX3 := HRX2.out.lt
  have hz4 := hg4.size
  have HRX4 := hid ((HRX2.out.kept hg4 (by simp; omega)).ext (ext_alloc w4 (.cells #[.int .i64 (kind : Int), .string (S s), .slice x3 L.length y3] 82)))
  have HRR4 := hid ((HRR2.out.kept hg4 (by simp)).ext (ext_alloc w4 (.cells #[.int .i64 (kind : Int), .string (S s), .slice x3 L.length y3] 82)))
  have HE4 := hid (Ext.tr (on_new HE2.out (by omega) hg4) (ext_alloc w4 (.cells #[.int .i64 (kind : Int), .string (S s), .slice x3 L.length y3] 82)))
  have HB4 := hid ((HB2.out.on HRd2.out hg4).ext (ext_alloc w4 (.cells #[.int .i64 (kind : Int), .string (S s), .slice x3 L.length y3] 82)))
  have HL4 := hid (hl4.ext (ext_alloc w4 (.cells #[.int .i64 (kind : Int), .string (S s), .slice x3 L.length y3] 82)))
  have HRD4 : Hid (Rec (w4.alloc (.cells #[.int .i64 (kind : Int), .string (S s), .slice x3 L.length y3] 82)) w4.heap.size 82 [.int .i64 (kind : Int), .string (S s), .slice x3 L.length y3]) := Rec.new w4 _ _
  clear hg4 hr4 hl4 HE2 HRR2 HB2 HRd2 HRX2
  go_wp2_with fail
  generalize w4.alloc (.cells #[.int .i64 (kind : Int), .string (S s), .slice x3 L.length y3] 82) = w5 at HRX4 HRR4 HE4 HB4 HL4 HRD4 ⊢
  have hDw : X < w4.heap.size := by omega
  generalize w4.heap.size = D at HRD4 hDw ⊢
  refine wp_region_T (fun w' => w'.cell? ⟨X, 0, none⟩ = some (.slice x1 b.things.length y1) ∧ w'.cell? ⟨X, 1, none⟩ = some (.slice x2 b.batches.length y2) ∧ w'.cell? ⟨D, 1, none⟩ = some (.string (S s)) ∧ w'.cell? ⟨D, 2, none⟩ = some (.slice x3 L.length y3)) 7 (by kernel_rfl) ⟨HRX4.out.cell rfl, HRX4.out.cell rfl, HRD4.out.cell rfl, HRD4.out.cell rfl⟩ (fun hS => ?_)
  refine wpT_take 0 (v := ?_) rfl rfl (by kernel_rfl) (by kernel_rfl) (by kernel_rfl) (by kernel_rfl) (fun _ _ _ h => h) hS rfl (by intro w0 hw0; (try dsimp only at hw0); go_simp; try rfl) ?_
  try simp only [List.set]
  refine wpT_take 1 (v := ?_) rfl rfl (by kernel_rfl) (by kernel_rfl) (by kernel_rfl) (by kernel_rfl) (fun _ _ _ h => h) hS rfl (by intro w0 hw0; (try dsimp only at hw0); go_simp; try rfl) ?_
  try simp only [List.set]
  refine wpT_take 2 (v := ?_) rfl rfl (by kernel_rfl) (by kernel_rfl) (by kernel_rfl) (by kernel_rfl) (fun _ _ _ h => h) hS rfl (by intro w0 hw0; (try dsimp only at hw0); go_simp; try rfl) ?_
  try simp only [List.set]
  refine wpT_take 3 (v := ?_) rfl rfl (by kernel_rfl) (by kernel_rfl) (by kernel_rfl) (by kernel_rfl) (fun _ _ _ h => h) hS rfl (by intro w0 hw0; (try dsimp only at hw0); go_simp; try rfl) ?_
  try simp only [List.set]
  refine wpT_take 4 (v := ?_) rfl rfl (by kernel_rfl) (by kernel_rfl) (by kernel_rfl) (by kernel_rfl) (fun _ _ _ h => h) hS rfl (by intro w0 hw0; (try dsimp only at hw0); go_simp; try rfl) ?_
  try simp only [List.set]
  have t0 := HRR4.out.cell (i := 0) rfl
  have t1 := HRR4.out.cell (i := 1) rfl
  have f0 := HRR4.out.frozen 0
  have f1 := HRR4.out.frozen 1
  have hRR5 := HRR4.out.ext (ext_drewN w5 1)
  have HS3 : Hid (Ext w (((w5.drewN 1).setCell ⟨w.heap.size, 0, none⟩ (.slice x1 b.things.length y1)).setCell ⟨w.heap.size, 1, none⟩ (.slice x2 b.batches.length y2))) := ((Ext.tr HE4.out (ext_drewN w5 1)).setCell (by simp) _).setCell (by simp) _
  have HB3 : Hid (BookAt (((w5.drewN 1).setCell ⟨w.heap.size, 0, none⟩ (.slice x1 b.things.length y1)).setCell ⟨w.heap.size, 1, none⟩ (.slice x2 b.batches.length y2)) x1 x2 b) := ((HB4.out.ext (ext_drewN w5 1)).box hRR5 noStr2).box (hRR5.set 0 _) noStr2
  have HL3 : Hid (StrsAt (((w5.drewN 1).setCell ⟨w.heap.size, 0, none⟩ (.slice x1 b.things.length y1)).setCell ⟨w.heap.size, 1, none⟩ (.slice x2 b.batches.length y2)) x3 L) := ((HL4.out.ext (ext_drewN w5 1)).box hRR5 noStr2 _ _).box (hRR5.set 0 _) noStr2 _ _
  have HX5 := hid (((HRX4.out.ext (ext_drewN w5 1)).kept (gb_store (w5.drewN 1) w.heap.size 0 (.slice x1 b.things.length y1)) (by simp; omega)).kept (gb_store _ w.heap.size 1 (.slice x2 b.batches.length y2)) (by simp; omega))
  have HD5 := hid (((HRD4.out.ext (ext_drewN w5 1)).kept (gb_store (w5.drewN 1) w.heap.size 0 (.slice x1 b.things.length y1)) (by simp; omega)).kept (gb_store _ w.heap.size 1 (.slice x2 b.batches.length y2)) (by simp; omega))
  refine wpT_one 5 rfl (by kernel_rfl) rfl rfl (fun K hK => ?_)
  go_simp
  refine hK.out _ _ ⟨HX5.out.cell rfl, HX5.out.cell rfl, HD5.out.cell rfl, HD5.out.cell rfl⟩ (fun hS1 => ?_)
  clear hK hS
  have hS := hS1
  clear hS1
  try clear K
  try simp only [put_some, List.set]
  refine wpT_take 6 (v := ?_) rfl rfl (by kernel_rfl) (by kernel_rfl) (by kernel_rfl) (by kernel_rfl) (fun _ _ _ h => h) hS rfl (by intro w0 hw0; (try dsimp only at hw0); go_simp; try rfl) ?_
  try simp only [List.set]
  refine wpT_last rfl (by kernel_rfl) (by kernel_rfl) rfl (fun K hK => ?_)
  go_simp
  refine hK.out _ _ ?_
  clear hK hS hRR5
  go_wp2
  exact bodyPost_ret (v := .tuple #[.agg #[.slice x1 b.things.length y1, .slice x2 b.batches.length y2], .string (S s), .slice x3 L.length y3]) (by simp [results, Tryz.results30, go_sem, t0, t1]) rfl ⟨b, x1, x2, x3, y1, y2, y3, s, L, rfl, HS3.out, HB3.out, HL3.out, hsm, hsl⟩
end Go.Proofs.YtdafpnpfcmgfcaaGreat
