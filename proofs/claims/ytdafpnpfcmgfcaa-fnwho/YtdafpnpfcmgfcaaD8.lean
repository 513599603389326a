/- The walk over l5Book. -/
import Derived.Test.YtdafpnpfcmgfcaaD7
namespace Go.Proofs.Ytdafpnpfcmgfcaa
open Go.RowKit
attribute [local go_sem] S_toList S_size S_get

/-- A small book. -/
def SmB (b : Book) : Prop := b.things.length ≤ 8 ∧ b.batches.length ≤ 5 ∧ SmallBs b.batches
theorem ok_small {b : Book} (h : bookOk b = true) : SmB b :=
  ⟨things_eight h, (ok_parts h).2.1, fun x hx => by
    obtain ⟨i, hi, e⟩ := List.getElem_of_mem hx
    have hl := ok_lens h hi
    rw [Book.at, nthB_get hi, e] at hl
    exact ⟨hl.2.1, hl.1⟩⟩
theorem nilBatches (w : World) (a : Option Addr) : BatchesAt w a [] := ⟨by simp, fun i hi => by simp at hi⟩

set_option maxRecDepth 100000 in
set_option maxHeartbeats 2000000 in
theorem l5Book_any (R q : Nat) (w : World) (h : Rd w R q) (hq : q ≤ 700000) :
    Calls Try.prog 62 #[.pointer (some ⟨R, 0, none⟩)] w fun e w' =>
      ∃ (b : Book) (x1 x2 : Option Addr) (y1 y2 : Nat), e = .returned (.agg #[.slice x1 b.things.length y1, .slice x2 b.batches.length y2]) ∧ w.grownBy w' (some R) ∧ Rd w' R (q + 3000) ∧ BookAt w' x1 x2 b ∧ SmB b := by
  have hlt0 := h.lt
  go_enter Try.func62, Try.ntmps62
  go_wp2_with fail
  refine (l5Base_any R q _ (h.ext (ext_alloc _ _)) (by omega)).mono ?_
  rintro e w1 ⟨v, T, rfl, hg1, hr1, ho1, hsub⟩
  obtain ⟨x1, y1, rfl⟩ := own_sl ho1
  have hTs := sub_short hsub kegs_short
  obtain ⟨_, _, ee, hT⟩ := ho1.at' hTs
  simp only [Value.slice.injEq] at ee
  obtain ⟨rfl, _, rfl⟩ := ee
  have hT8 : T.length ≤ 8 := Nat.le_trans hsub.length_le (by decide)
  have hz1 := hg1.size
  simp at hz1
  have HG1 : Hid (w.grownBy (w1.alloc (.cells #[.slice x1 T.length y1, .slice none 0 0] 26)) (some R)) := gb_tr (gb_tr (gb_ext (ext_alloc _ _) _) hg1) (gb_ext (ext_alloc _ _) _)
  have HRd := hid (hr1.ext (ext_alloc w1 (.cells #[.slice x1 T.length y1, .slice none 0 0] 26)))
  have HRR : Hid (Rec (w1.alloc (.cells #[.slice x1 T.length y1, .slice none 0 0] 26)) w.heap.size 26 [.slice none 0 0, .slice none 0 0]) := ((Rec.new w _ _).kept hg1 (by simp; omega)).ext (ext_alloc _ _)
  have HRX : Hid (Rec (w1.alloc (.cells #[.slice x1 T.length y1, .slice none 0 0] 26)) w1.heap.size 26 [.slice x1 T.length y1, .slice none 0 0]) := Rec.new w1 _ _
  have HT := hid (hT.ext (ext_alloc w1 (.cells #[.slice x1 T.length y1, .slice none 0 0] 26)))
  have HOK := hid (kegs_ok hsub)
  clear hg1 hr1 ho1 hT
  go_wp2_with fail
  generalize w1.alloc (.cells #[.slice x1 T.length y1, .slice none 0 0] 26) = w2 at HG1 HRd HRR HRX HT ⊢
  have hXw : w.heap.size + 1 ≤ w1.heap.size := hz1
  generalize w1.heap.size = X at HRX hXw ⊢
  refine (pick_any R (q + 5) 3 w2 HRd.out (by omega) (by omega) (by omega)).mono ?_
  rintro e w3 ⟨j, rfl, hj, hg3, hr3⟩
  have HG3 := hid (gb_tr HG1.out hg3)
  have HRR3 := hid (HRR.out.kept hg3 (by simp; omega))
  have HRX3 := hid (HRX.out.kept hg3 (by simp; omega))
  have HT3 := hid (HT.out.on HRd.out hg3)
  have HRd3 := hid hr3
  clear HG1 HRR HRX HT HRd hg3 hr3
  have c0 := HRX3.out.cell (i := 0) rfl
  have c1 := HRX3.out.cell (i := 1) rfl
  by_cases hj0 : j = 0
  · subst hj0
    go_wp2_with fail
    refine (l5Wild_any R (q + 6) T x1 y1 w3 HRd3.out (by omega) HT3.out hT8).mono ?_
    rintro e w4 ⟨bs, x2, y2, rfl, hg4, hr4, hbs, hb5, hsm⟩
    have HG4 := hid (gb_tr HG3.out hg4)
    have HRR4 := hid (HRR3.out.kept hg4 (by simp; omega))
    have HBK : Hid (BookAt w4 x1 x2 ⟨T, bs⟩) := ⟨HT3.out.on HRd3.out hg4, hbs⟩
    have HRd4 := hid hr4
    clear hg4 hr4 hbs HG3 HRR3 HRX3 HT3 HRd3
    have t0 := HRR4.out.cell (i := 0) rfl
    have t1 := HRR4.out.cell (i := 1) rfl
    have f0 := HRR4.out.frozen 0
    have f1 := HRR4.out.frozen 1
    go_wp2
    have r1 := HRR4.out.set 0 (.slice x1 T.length y1)
    refine bodyPost_ret (v := .agg #[.slice x1 T.length y1, .slice x2 bs.length y2]) (by simp [results, Try.results62, go_sem, t0, t1]) rfl ⟨⟨T, bs⟩, x1, x2, y1, y2, rfl, ?_, ?_, ?_, hT8, hb5, hsm⟩
    · exact on_grown (on_grown HG4.out (gb_store _ _ _ _) (fun g hg => by cases hg; omega)) (gb_store _ _ _ _) (fun g hg => by cases hg; omega)
    · exact ((HRd4.out.gb (gb_store _ _ _ _) (fun g hg => by cases hg; omega)).gb (gb_store _ _ _ _) (fun g hg => by cases hg; omega)).mono (by omega)
    · exact (HBK.out.box HRR4.out noStr2).box r1 noStr2
  · have hj1 : ((j : Int) == 0) = false := by simp; omega
    go_wp2_with fail
    refine (pick_any R (q + 6) 24 w3 HRd3.out (by omega) (by omega) (by omega)).mono ?_
    rintro e w4 ⟨n, rfl, hn, hg4, hr4⟩
    have HG4 := hid (gb_tr HG3.out hg4)
    have HRR4 := hid (HRR3.out.kept hg4 (by simp; omega))
    have HRX4 := hid (HRX3.out.kept hg4 (by simp; omega))
    have HBK : Hid (BookAt w4 x1 none ⟨T, []⟩) := ⟨HT3.out.on HRd3.out hg4, nilBatches _ _⟩
    have HRd4 := hid hr4
    clear hg4 hr4 HG3 HRR3 HRX3 HT3 HRd3 c0 c1
    go_wp2_with fail
    go_loopw [4] (fun i wr => ∃ (m : Nat) (b : Book) (z1 z2 : Option Addr) (d1 d2 : Nat), m ≤ 23 ∧ i = .int .i64 m ∧ w.grownBy wr (some R) ∧ Rd wr R (q + 7 + 61 * (23 - m)) ∧ Rec wr w.heap.size 26 [.slice none 0 0, .slice none 0 0] ∧ Rec wr X 26 [.slice z1 b.things.length d1, .slice z2 b.batches.length d2] ∧ BookAt wr z1 z2 b ∧ bookOk b = true) (fun i _ => (intOf i).toNat)
    case atStart => exact ⟨n, ⟨T, []⟩, x1, none, y1, 0, by omega, rfl, HG4.out, HRd4.out.mono (by omega), HRR4.out, HRX4.out, HBK.out, HOK.out⟩
    case round =>
      clear HG4 HRR4 HRX4 HBK HRd4 HOK
      obtain ⟨m, b, z1, z2, d1, d2, hm, rfl, hg, hrd, hrr, hrx, hbk, hok⟩ := hrel
      have HG := hid hg
      have HRD := hid hrd
      have HRR := hid hrr
      have HRX := hid hrx
      have HBK := hid hbk
      have c0 := hrx.cell (i := 0) rfl
      have c1 := hrx.cell (i := 1) rfl
      clear hg hrd hrr hrx hbk
      by_cases hm0 : 0 < m
      · have hmi : (0 : Int) < (m : Int) := by omega
        go_wp2_with fail
        refine wp_region_T (fun w' => w'.cell? ⟨X, 0, none⟩ = some (.slice z1 b.things.length d1) ∧ w'.cell? ⟨X, 1, none⟩ = some (.slice z2 b.batches.length d2)) 5 (by kernel_rfl) ⟨c0, c1⟩ (fun hS => ?_)
        refine wpT_take 0 (v := ?_) rfl rfl (by kernel_rfl) (by kernel_rfl) (by kernel_rfl) (by kernel_rfl) (fun _ _ _ h => h) hS rfl (by intro w0 hw0; (try dsimp only at hw0); go_simp; try rfl) ?_
        try simp only [List.set]
        refine wpT_take 1 (v := ?_) rfl rfl (by kernel_rfl) (by kernel_rfl) (by kernel_rfl) (by kernel_rfl) (fun _ _ _ h => h) hS rfl (by intro w0 hw0; (try dsimp only at hw0); go_simp; try rfl) ?_
        try simp only [List.set]
        refine wpT_take 2 (v := ?_) rfl rfl (by kernel_rfl) (by kernel_rfl) (by kernel_rfl) (by kernel_rfl) (fun _ _ _ h => h) hS rfl (by intro w0 hw0; (try dsimp only at hw0); go_simp; try rfl) ?_
        try simp only [List.set]
        refine wpT_one 3 rfl (by kernel_rfl) rfl rfl (fun K hK => ?_)
        go_simp
        refine (l5Does_any R (q + 7 + 61 * (23 - m)) b _ _ _ _ _ (HRD.out.ext (ext_drewN wr 1)) (by omega) (HBK.out.ext (ext_drewN wr 1)) hok).mono ?_
        rintro e w5 ⟨kind, name, L, a, c, rfl, hg5, hr5, hL5, hnm⟩
        have hbk5 := (HBK.out.ext (ext_drewN wr 1)).on (HRD.out.ext (ext_drewN wr 1)) hg5
        have hrx5 := (HRX.out.ext (ext_drewN wr 1)).kept hg5 (by simp; omega)
        have hrr5 := (HRR.out.ext (ext_drewN wr 1)).kept hg5 (by simp; omega)
        go_wp2_with fail
        refine hK.out _ _ ⟨hrx5.cell rfl, hrx5.cell rfl⟩ (fun hS1 => ?_)
        clear hK hS
        have hS := hS1
        clear hS1
        try clear K
        try simp only [put_some, List.set]
        refine wpT_one 4 rfl (by kernel_rfl) rfl rfl (fun K hK => ?_)
        go_simp
        refine (l5Step_any b kind name L _ _ _ _ _ _ _ hbk5 hnm hL5 hok).mono ?_
        rintro e w6 ⟨b', z1', z2', d1', d2', rfl, hE6, hbk6, hok6⟩
        have hrx6 := hrx5.ext hE6
        have HRR6 := hid (hrr5.ext hE6)
        have HG6 := hid (gb_tr (gb_tr (gb_tr HG.out (gb_ext (ext_drewN wr 1) _)) hg5) (gb_ext hE6 _))
        have HRD6 := hid (hr5.ext hE6)
        go_wp2_with fail
        refine hK.out _ _ ⟨hrx6.cell rfl, hrx6.cell rfl⟩ (fun hS1 => ?_)
        clear hK hS
        have hS := hS1
        clear hS1
        try clear K
        try simp only [put_some, List.set]
        have q0 := hrx6.cell (i := 0) rfl
        have q1 := hrx6.cell (i := 1) rfl
        have qf0 := hrx6.frozen 0
        have qf1 := hrx6.frozen 1
        have HX6 := hid hrx6
        have HB6 := hid hbk6
        clear hS hg5 hr5 hL5 hbk5 hrx5 hrr5 hE6 hbk6 hrx6 HG HRD HRR HRX HBK c0 c1
        refine wpT_last rfl (by kernel_rfl) (by kernel_rfl) rfl (fun K hK => ?_)
        go_simp
        refine hK.out _ _ ?_
        clear hK
        have r1 := HX6.out.set 0 (.slice z1' b'.things.length d1')
        have g1 := gb_store w6 X 0 (.slice z1' b'.things.length d1')
        have g2 := gb_store (w6.setCell ⟨X, 0, none⟩ (.slice z1' b'.things.length d1')) X 1 (.slice z2' b'.batches.length d2')
        have HX7 := hid (r1.set 1 (.slice z2' b'.batches.length d2'))
        have HB7 := hid ((HB6.out.box (i := 0) (u := .slice z1' b'.things.length d1') HX6.out noStr2).box (i := 1) (u := .slice z2' b'.batches.length d2') r1 noStr2)
        have HG7 := hid (on_grown (on_grown HG6.out g1 (fun g hg => by cases hg; omega)) g2 (fun g hg => by cases hg; omega))
        have HRD7 : Hid (Rd ((w6.setCell ⟨X, 0, none⟩ (.slice z1' b'.things.length d1')).setCell ⟨X, 1, none⟩ (.slice z2' b'.batches.length d2')) R (q + 7 + 61 * (23 - m) + 60)) := (HRD6.out.gb g1 (fun g hg => by cases hg; omega)).gb g2 (fun g hg => by cases hg; omega)
        have HRR7 := hid ((HRR6.out.kept g1 (by simp; omega)).kept g2 (by simp; omega))
        clear HX6 HB6 HG6 HRD6 HRR6 r1 g1 g2
        go_wp2
        go_roundw
        case rel => exact ⟨m - 1, b', z1', z2', d1', d2', by omega, by go_num, HG7.out, HRD7.out.mono (by omega), HRR7.out, HX7.out, HB7.out, hok6⟩
        case measure => simp [intOf]; omega
      · have hmi : ¬ ((0 : Int) < (m : Int)) := by omega
        have t0 := HRR.out.cell (i := 0) rfl
        have t1 := HRR.out.cell (i := 1) rfl
        have f0 := HRR.out.frozen 0
        have f1 := HRR.out.frozen 1
        go_wp2
        have r1 := HRR.out.set 0 (.slice z1 b.things.length d1)
        have HA : w.grownBy ((wr.setCell ⟨w.heap.size, 0, none⟩ (.slice z1 b.things.length d1)).setCell ⟨w.heap.size, 1, none⟩ (.slice z2 b.batches.length d2)) (some R) := on_grown (on_grown HG.out (gb_store _ _ _ _) (fun g hg => by cases hg; omega)) (gb_store _ _ _ _) (fun g hg => by cases hg; omega)
        have HB : Rd ((wr.setCell ⟨w.heap.size, 0, none⟩ (.slice z1 b.things.length d1)).setCell ⟨w.heap.size, 1, none⟩ (.slice z2 b.batches.length d2)) R (q + 3000) := ((HRD.out.gb (gb_store _ _ _ _) (fun g hg => by cases hg; omega)).gb (gb_store _ _ _ _) (fun g hg => by cases hg; omega)).mono (by omega)
        have HC : BookAt ((wr.setCell ⟨w.heap.size, 0, none⟩ (.slice z1 b.things.length d1)).setCell ⟨w.heap.size, 1, none⟩ (.slice z2 b.batches.length d2)) z1 z2 b := (HBK.out.box HRR.out noStr2).box r1 noStr2
        refine bodyPost_ret (v := .agg #[.slice z1 b.things.length d1, .slice z2 b.batches.length d2]) (by simp [results, Try.results62, go_sem, t0, t1]) rfl (by
          refine ⟨b, z1, z2, ?_⟩
          first
            | exact ⟨d1, d2, rfl, HA, HB, HC, ok_small hok⟩
            | exact ⟨⟨d1, d2, rfl⟩, HA, HB, HC, ok_small hok⟩)
end Go.Proofs.Ytdafpnpfcmgfcaa
