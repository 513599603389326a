/- The walk over l5Book. The walk over the specification's l1Copy once more: no two of the copy's lists share a row. What l5Spoil does to a copy: its state. The walks over l5Dec and l5Spoil. The walks over l5Any, l5Thing, DrawShareWho and DrawShareOrder. -/
import Derived.Test.YtdafpnpfcmgfcaaJA
import Derived.Test.YtdafpnpfcmgfcaaK1
namespace Go.Proofs.Ytdafpnpfcmgfcaa
open Go.RowKit
attribute [local go_sem] S_toList S_size S_get

/-- A small book. -/
def SmB (b : Book) : Prop := b.things.length ≤ 8 ∧ b.batches.length ≤ 5 ∧ SmallBs b.batches
theorem ok_small {b : Book} (h : bookOk b = true) : SmB b :=
  ⟨things_eight h, (ok_parts h).2.1, fun x hx => by
    obtain ⟨i, hi, e⟩ := List.getElem_of_mem hx
    have hl := ok_lens h hi
    rw [Book.at, nthB_get hi, e] at hl
    exact ⟨hl.2.1, hl.1⟩⟩
theorem nilBatches (w : World) (a : Option Addr) : BatchesAt w a [] := ⟨by simp, fun i hi => by simp at hi⟩

set_option maxRecDepth 100000 in
set_option maxHeartbeats 2000000 in
theorem l5Book_any (R q : Nat) (w : World) (h : Rd w R q) (hq : q ≤ 700000) :
    Calls Try.prog 62 #[.pointer (some ⟨R, 0, none⟩)] w fun e w' =>
      ∃ (b : Book) (x1 x2 : Option Addr) (y1 y2 : Nat), e = .returned (.agg #[.slice x1 b.things.length y1, .slice x2 b.batches.length y2]) ∧ w.grownBy w' (some R) ∧ Rd w' R (q + 3000) ∧ BookAt w' x1 x2 b ∧ SmB b := by
  have hlt0 := h.lt
  go_enter Try.func62, Try.ntmps62
  go_wp2_with fail
  refine (l5Base_any R q _ (h.ext (ext_alloc _ _)) (by omega)).mono ?_
  rintro e w1 ⟨v, T, rfl, hg1, hr1, ho1, hsub⟩
  obtain ⟨x1, y1, rfl⟩ := own_sl ho1
  have hTs := sub_short hsub kegs_short
  obtain ⟨_, _, ee, hT⟩ := ho1.at' hTs
  simp only [Value.slice.injEq] at ee
  obtain ⟨rfl, _, rfl⟩ := ee
  have hT8 : T.length ≤ 8 := Nat.le_trans hsub.length_le (by decide)
  have hz1 := hg1.size
  simp at hz1
  have HG1 : Hid (w.grownBy (w1.alloc (.cells #[.slice x1 T.length y1, .slice none 0 0] 26)) (some R)) := gb_tr (gb_tr (gb_ext (ext_alloc _ _) _) hg1) (gb_ext (ext_alloc _ _) _)
  have HRd := hid (hr1.ext (ext_alloc w1 (.cells #[.slice x1 T.length y1, .slice none 0 0] 26)))
  have HRR : Hid (Rec (w1.alloc (.cells #[.slice x1 T.length y1, .slice none 0 0] 26)) w.heap.size 26 [.slice none 0 0, .slice none 0 0]) := ((Rec.new w _ _).kept hg1 (by simp; omega)).ext (ext_alloc _ _)
  have HRX : Hid (Rec (w1.alloc (.cells #[.slice x1 T.length y1, .slice none 0 0] 26)) w1.heap.size 26 [.slice x1 T.length y1, .slice none 0 0]) := Rec.new w1 _ _
  have HT := hid (hT.ext (ext_alloc w1 (.cells #[.slice x1 T.length y1, .slice none 0 0] 26)))
  have HOK := hid (kegs_ok hsub)
  clear hg1 hr1 ho1 hT
  go_wp2_with fail
  generalize w1.alloc (.cells #[.slice x1 T.length y1, .slice none 0 0] 26) = w2 at HG1 HRd HRR HRX HT ⊢
  have hXw : w.heap.size + 1 ≤ w1.heap.size := hz1
  generalize w1.heap.size = X at HRX hXw ⊢
  refine (pick_any R (q + 5) 3 w2 HRd.out (by omega) (by omega) (by omega)).mono ?_
  rintro e w3 ⟨j, rfl, hj, hg3, hr3⟩
  have HG3 := hid (gb_tr HG1.out hg3)
  have HRR3 := hid (HRR.out.kept hg3 (by simp; omega))
  have HRX3 := hid (HRX.out.kept hg3 (by simp; omega))
  have HT3 := hid (HT.out.on HRd.out hg3)
  have HRd3 := hid hr3
  clear HG1 HRR HRX HT HRd hg3 hr3
  have c0 := HRX3.out.cell (i := 0) rfl
  have c1 := HRX3.out.cell (i := 1) rfl
  by_cases hj0 : j = 0
  · subst hj0
    go_wp2_with fail
    refine (l5Wild_any R (q + 6) T x1 y1 w3 HRd3.out (by omega) HT3.out hT8).mono ?_
    rintro e w4 ⟨bs, x2, y2, rfl, hg4, hr4, hbs, hb5, hsm⟩
    have HG4 := hid (gb_tr HG3.out hg4)
    have HRR4 := hid (HRR3.out.kept hg4 (by simp; omega))
    have HBK : Hid (BookAt w4 x1 x2 ⟨T, bs⟩) := ⟨HT3.out.on HRd3.out hg4, hbs⟩
    have HRd4 := hid hr4
    clear hg4 hr4 hbs HG3 HRR3 HRX3 HT3 HRd3
    have t0 := HRR4.out.cell (i := 0) rfl
    have t1 := HRR4.out.cell (i := 1) rfl
    have f0 := HRR4.out.frozen 0
    have f1 := HRR4.out.frozen 1
    go_wp2
    have r1 := HRR4.out.set 0 (.slice x1 T.length y1)
    refine bodyPost_ret (v := .agg #[.slice x1 T.length y1, .slice x2 bs.length y2]) (by simp [results, Try.results62, go_sem, t0, t1]) rfl ⟨⟨T, bs⟩, x1, x2, y1, y2, rfl, ?_, ?_, ?_, hT8, hb5, hsm⟩
    · exact on_grown (on_grown HG4.out (gb_store _ _ _ _) (fun g hg => by cases hg; omega)) (gb_store _ _ _ _) (fun g hg => by cases hg; omega)
    · exact ((HRd4.out.gb (gb_store _ _ _ _) (fun g hg => by cases hg; omega)).gb (gb_store _ _ _ _) (fun g hg => by cases hg; omega)).mono (by omega)
    · exact (HBK.out.box HRR4.out noStr2).box r1 noStr2
  · have hj1 : ((j : Int) == 0) = false := by simp; omega
    go_wp2_with fail
    refine (pick_any R (q + 6) 24 w3 HRd3.out (by omega) (by omega) (by omega)).mono ?_
    rintro e w4 ⟨n, rfl, hn, hg4, hr4⟩
    have HG4 := hid (gb_tr HG3.out hg4)
    have HRR4 := hid (HRR3.out.kept hg4 (by simp; omega))
    have HRX4 := hid (HRX3.out.kept hg4 (by simp; omega))
    have HBK : Hid (BookAt w4 x1 none ⟨T, []⟩) := ⟨HT3.out.on HRd3.out hg4, nilBatches _ _⟩
    have HRd4 := hid hr4
    clear hg4 hr4 HG3 HRR3 HRX3 HT3 HRd3 c0 c1
    go_wp2_with fail
    go_loopw [4] (fun i wr => ∃ (m : Nat) (b : Book) (z1 z2 : Option Addr) (d1 d2 : Nat), m ≤ 23 ∧ i = .int .i64 m ∧ w.grownBy wr (some R) ∧ Rd wr R (q + 7 + 61 * (23 - m)) ∧ Rec wr w.heap.size 26 [.slice none 0 0, .slice none 0 0] ∧ Rec wr X 26 [.slice z1 b.things.length d1, .slice z2 b.batches.length d2] ∧ BookAt wr z1 z2 b ∧ bookOk b = true) (fun i _ => (intOf i).toNat)
    case atStart => exact ⟨n, ⟨T, []⟩, x1, none, y1, 0, by omega, rfl, HG4.out, HRd4.out.mono (by omega), HRR4.out, HRX4.out, HBK.out, HOK.out⟩
    case round =>
      clear HG4 HRR4 HRX4 HBK HRd4 HOK
      obtain ⟨m, b, z1, z2, d1, d2, hm, rfl, hg, hrd, hrr, hrx, hbk, hok⟩ := hrel
      have HG := hid hg
      have HRD := hid hrd
      have HRR := hid hrr
      have HRX := hid hrx
      have HBK := hid hbk
      have c0 := hrx.cell (i := 0) rfl
      have c1 := hrx.cell (i := 1) rfl
      clear hg hrd hrr hrx hbk
      by_cases hm0 : 0 < m
      · have hmi : (0 : Int) < (m : Int) := by omega
        go_wp2_with fail
        refine wp_region_T (fun w' => w'.cell? ⟨X, 0, none⟩ = some (.slice z1 b.things.length d1) ∧ w'.cell? ⟨X, 1, none⟩ = some (.slice z2 b.batches.length d2)) 5 (by kernel_rfl) ⟨c0, c1⟩ (fun hS => ?_)
        refine wpT_take 0 (v := ?_) rfl rfl (by kernel_rfl) (by kernel_rfl) (by kernel_rfl) (by kernel_rfl) (fun _ _ _ h => h) hS rfl (by intro w0 hw0; (try dsimp only at hw0); go_simp; try rfl) ?_
        try simp only [List.set]
        refine wpT_take 1 (v := ?_) rfl rfl (by kernel_rfl) (by kernel_rfl) (by kernel_rfl) (by kernel_rfl) (fun _ _ _ h => h) hS rfl (by intro w0 hw0; (try dsimp only at hw0); go_simp; try rfl) ?_
        try simp only [List.set]
        refine wpT_take 2 (v := ?_) rfl rfl (by kernel_rfl) (by kernel_rfl) (by kernel_rfl) (by kernel_rfl) (fun _ _ _ h => h) hS rfl (by intro w0 hw0; (try dsimp only at hw0); go_simp; try rfl) ?_
        try simp only [List.set]
        refine wpT_one 3 rfl (by kernel_rfl) rfl rfl (fun K hK => ?_)
        go_simp
        refine (l5Does_any R (q + 7 + 61 * (23 - m)) b _ _ _ _ _ (HRD.out.ext (ext_drewN wr 1)) (by omega) (HBK.out.ext (ext_drewN wr 1)) hok).mono ?_
        rintro e w5 ⟨kind, name, L, a, c, rfl, hg5, hr5, hL5, hnm⟩
        have hbk5 := (HBK.out.ext (ext_drewN wr 1)).on (HRD.out.ext (ext_drewN wr 1)) hg5
        have hrx5 := (HRX.out.ext (ext_drewN wr 1)).kept hg5 (by simp; omega)
        have hrr5 := (HRR.out.ext (ext_drewN wr 1)).kept hg5 (by simp; omega)
        go_wp2_with fail
        refine hK.out _ _ ⟨hrx5.cell rfl, hrx5.cell rfl⟩ (fun hS1 => ?_)
        clear hK hS
        have hS := hS1
        clear hS1
        try clear K
        try simp only [put_some, List.set]
        refine wpT_one 4 rfl (by kernel_rfl) rfl rfl (fun K hK => ?_)
        go_simp
        refine (l5Step_any b kind name L _ _ _ _ _ _ _ hbk5 hnm hL5 hok).mono ?_
        rintro e w6 ⟨b', z1', z2', d1', d2', rfl, hE6, hbk6, hok6⟩
        have hrx6 := hrx5.ext hE6
        have HRR6 := hid (hrr5.ext hE6)
        have HG6 := hid (gb_tr (gb_tr (gb_tr HG.out (gb_ext (ext_drewN wr 1) _)) hg5) (gb_ext hE6 _))
        have HRD6 := hid (hr5.ext hE6)
        go_wp2_with fail
        refine hK.out _ _ ⟨hrx6.cell rfl, hrx6.cell rfl⟩ (fun hS1 => ?_)
        clear hK hS
        have hS := hS1
        clear hS1
        try clear K
        try simp only [put_some, List.set]
        have q0 := hrx6.cell (i := 0) rfl
        have q1 := hrx6.cell (i := 1) rfl
        have qf0 := hrx6.frozen 0
        have qf1 := hrx6.frozen 1
        have HX6 := hid hrx6
        have HB6 := hid hbk6
        clear hS hg5 hr5 hL5 hbk5 hrx5 hrr5 hE6 hbk6 hrx6 HG HRD HRR HRX HBK c0 c1
        refine wpT_last rfl (by kernel_rfl) (by kernel_rfl) rfl (fun K hK => ?_)
        go_simp
        refine hK.out _ _ ?_
        clear hK
        have r1 := HX6.out.set 0 (.slice z1' b'.things.length d1')
        have g1 := gb_store w6 X 0 (.slice z1' b'.things.length d1')
        have g2 := gb_store (w6.setCell ⟨X, 0, none⟩ (.slice z1' b'.things.length d1')) X 1 (.slice z2' b'.batches.length d2')
        have HX7 := hid (r1.set 1 (.slice z2' b'.batches.length d2'))
        have HB7 := hid ((HB6.out.box (i := 0) (u := .slice z1' b'.things.length d1') HX6.out noStr2).box (i := 1) (u := .slice z2' b'.batches.length d2') r1 noStr2)
        have HG7 := hid (on_grown (on_grown HG6.out g1 (fun g hg => by cases hg; omega)) g2 (fun g hg => by cases hg; omega))
        have HRD7 : Hid (Rd ((w6.setCell ⟨X, 0, none⟩ (.slice z1' b'.things.length d1')).setCell ⟨X, 1, none⟩ (.slice z2' b'.batches.length d2')) R (q + 7 + 61 * (23 - m) + 60)) := (HRD6.out.gb g1 (fun g hg => by cases hg; omega)).gb g2 (fun g hg => by cases hg; omega)
        have HRR7 := hid ((HRR6.out.kept g1 (by simp; omega)).kept g2 (by simp; omega))
        clear HX6 HB6 HG6 HRD6 HRR6 r1 g1 g2
        go_wp2
        go_roundw
        case rel => exact ⟨m - 1, b', z1', z2', d1', d2', by omega, by go_num, HG7.out, HRD7.out.mono (by omega), HRR7.out, HX7.out, HB7.out, hok6⟩
        case measure => simp [intOf]; omega
      · have hmi : ¬ ((0 : Int) < (m : Int)) := by omega
        have t0 := HRR.out.cell (i := 0) rfl
        have t1 := HRR.out.cell (i := 1) rfl
        have f0 := HRR.out.frozen 0
        have f1 := HRR.out.frozen 1
        go_wp2
        have r1 := HRR.out.set 0 (.slice z1 b.things.length d1)
        have HA : w.grownBy ((wr.setCell ⟨w.heap.size, 0, none⟩ (.slice z1 b.things.length d1)).setCell ⟨w.heap.size, 1, none⟩ (.slice z2 b.batches.length d2)) (some R) := on_grown (on_grown HG.out (gb_store _ _ _ _) (fun g hg => by cases hg; omega)) (gb_store _ _ _ _) (fun g hg => by cases hg; omega)
        have HB : Rd ((wr.setCell ⟨w.heap.size, 0, none⟩ (.slice z1 b.things.length d1)).setCell ⟨w.heap.size, 1, none⟩ (.slice z2 b.batches.length d2)) R (q + 3000) := ((HRD.out.gb (gb_store _ _ _ _) (fun g hg => by cases hg; omega)).gb (gb_store _ _ _ _) (fun g hg => by cases hg; omega)).mono (by omega)
        have HC : BookAt ((wr.setCell ⟨w.heap.size, 0, none⟩ (.slice z1 b.things.length d1)).setCell ⟨w.heap.size, 1, none⟩ (.slice z2 b.batches.length d2)) z1 z2 b := (HBK.out.box HRR.out noStr2).box r1 noStr2
        refine bodyPost_ret (v := .agg #[.slice z1 b.things.length d1, .slice z2 b.batches.length d2]) (by simp [results, Try.results62, go_sem, t0, t1]) rfl (by
          refine ⟨b, z1, z2, ?_⟩
          first
            | exact ⟨d1, d2, rfl, HA, HB, HC, ok_small hok⟩
            | exact ⟨⟨d1, d2, rfl⟩, HA, HB, HC, ok_small hok⟩)
end Go.Proofs.Ytdafpnpfcmgfcaa
namespace Go.Proofs.Ytdafpnpfcmgfcaa
open Go.RowKit
attribute [local go_sem] S_toList S_size S_get

set_option maxRecDepth 100000 in
set_option maxHeartbeats 1000000 in
theorem l1Copy_dis (b : Book) (a1 a2 : Option Addr) (c1 c2 : Nat) (w : World) (hb : BookAt w a1 a2 b) :
    Calls Try.prog 77 #[.agg #[.slice a1 b.things.length c1, .slice a2 b.batches.length c2]] w fun e w' =>
      ∃ v1 v2 rs, e = .returned (.agg #[v1, v2]) ∧ Ext w w' ∧ OwnL w' w.heap.size v1 b.things ∧ w'.ownsRow w.heap.size 41 3 v2 rs.length (cellsOf rs) ∧ RowsOwn w' w.heap.size rs b.batches ∧ Dis v1 rs := by
  have hn := hb.2.1
  have e2 : ∀ o1 o2, Ext w ((w.alloc o1).alloc o2) := fun o1 o2 => ((Below.refl _ _).alloc (Nat.le_refl _) _).alloc (by simp) _
  go_enter Try.func77, Try.ntmps77
  go_wp2_with fail
  refine (l1Names_any _ _ _ _ (hb.1.ext (e2 _ _))).mono ?_
  rintro e w1 ⟨v1, rfl, hE1, ho1⟩
  obtain ⟨x1, y1, rfl⟩ := own_sl ho1
  have HE1 := hid (Ext.tr (e2 _ _) hE1)
  have HO1 := hid ho1
  have hx0 : w1.cell? ⟨w.heap.size, 0, none⟩ = some (.slice a1 b.things.length c1) := (hE1.cell (p := ⟨w.heap.size, 0, none⟩) (by simp; omega)).trans (by simp)
  have hx1 : w1.cell? ⟨w.heap.size, 1, none⟩ = some (.slice a2 b.batches.length c2) := (hE1.cell (p := ⟨w.heap.size, 1, none⟩) (by simp; omega)).trans (by simp)
  have HR2 : Hid (Rec w1 (w.heap.size + 1) 26 [.slice none 0 0, .slice none 0 0]) := by
    have h := (Rec.new (w.alloc (.cells #[.slice a1 b.things.length c1, .slice a2 b.batches.length c2] 26)) 26 [.slice none 0 0, .slice none 0 0]).ext hE1
    have h' : Rec w1 (w.heap.size + 1) 26 [.slice none 0 0, .slice none 0 0] := by simpa using h
    exact h'
  have hz1 := hE1.size
  simp at hz1
  clear hE1 ho1
  go_wp2_with fail
  have HR1 : Hid (Rec (w1.alloc (.cells #[.slice x1 b.things.length y1, .slice none 0 0] 26)) w1.heap.size 26 [.slice x1 b.things.length y1, .slice none 0 0]) := Rec.new w1 _ _
  have HB1 : Hid (Below w1.heap.size w1 (w1.alloc (.cells #[.slice x1 b.things.length y1, .slice none 0 0] 26))) := (Below.refl _ _).alloc (Nat.le_refl _) _
  go_loopw [4] (fun i wr => ∃ (k : Nat) (v2 : Value) (rs : List Row), k ≤ b.batches.length ∧ i = .int .i64 k ∧ Below w1.heap.size w1 wr ∧ Rec wr w1.heap.size 26 [.slice x1 b.things.length y1, v2] ∧ wr.ownsRow (w1.heap.size + 1) 41 3 v2 rs.length (cellsOf rs) ∧ RowsOwn wr (w1.heap.size + 1) rs (b.batches.take k) ∧ Dis (.slice x1 b.things.length y1) rs) (fun i _ => b.batches.length - (intOf i).toNat)
  case atStart => exact ⟨0, _, [], Nat.zero_le _, rfl, HB1.out, HR1.out, World.ownsRow_nil _ _ _ _, ⟨rfl, fun i r x h => by simp at h⟩, List.Pairwise.nil, fun v hv => by simp [allV] at hv⟩
  case round =>
    clear HR1 HB1
    obtain ⟨k, v2, rs, hk, rfl, hbel, hrec, hown, hrows, hdis⟩ := hrel
    have hy0 : wr.cell? ⟨w.heap.size, 0, none⟩ = some (.slice a1 b.things.length c1) := (hbel.cell (p := ⟨w.heap.size, 0, none⟩) (by simp; omega)).trans hx0
    have hy1 : wr.cell? ⟨w.heap.size, 1, none⟩ = some (.slice a2 b.batches.length c2) := (hbel.cell (p := ⟨w.heap.size, 1, none⟩) (by simp; omega)).trans hx1
    have hb' := hb.ext (Ext.tr HE1.out hbel)
    have HB := hid hbel
    have HR := hid hrec
    have HO := hid hown
    have HRS := hid hrows
    have HD := hid hdis
    clear hbel hown hrows hdis
    by_cases hlt : k < b.batches.length
    · obtain ⟨ba, oa, rfl, hl, d1, g1, d2, g2, p0, p1, p2, s1, s2⟩ := hb'.2.2 k hlt
      obtain ⟨av, cv, rfl⟩ := own_shape3 HO.out
      have hlk : rs.length = k := by rw [HRS.out.1, List.length_take]; omega
      rw [hlk] at HO HR hrec
      have hc1 := hrec.cell (i := 1) rfl
      clear hrec
      go_wp2_with fail
      refine wp_region_T (fun w' => w'.cell? ⟨w1.heap.size, 1, none⟩ = some (.slice av k cv) ∧ w'.cell? ⟨w.heap.size, 1, none⟩ = some (.slice (some ⟨ba, oa, none⟩) b.batches.length c2) ∧ w'.cell? ⟨ba, oa + k * 3, none⟩ = some (.string (S (nthB b.batches k).name)) ∧ w'.cell? ⟨ba, oa + k * 3 + 1, none⟩ = some (.slice d1 (nthB b.batches k).has.length g1) ∧ w'.cell? ⟨ba, oa + k * 3 + 2, none⟩ = some (.slice d2 (nthB b.batches k).needs.length g2)) 26 (by kernel_rfl) ⟨hc1, hy1, p0, p1, p2⟩ (fun hS => ?_)
      refine wpT_take 0 (v := ?_) rfl rfl (by kernel_rfl) (by kernel_rfl) (by kernel_rfl) (by kernel_rfl) (fun _ _ _ h => h) hS rfl (by intro w0 hw0; (try dsimp only at hw0); go_simp; try rfl) ?_
      try simp only [List.set]
      refine wpT_take 1 (v := ?_) rfl rfl (by kernel_rfl) (by kernel_rfl) (by kernel_rfl) (by kernel_rfl) (fun _ _ _ h => h) hS rfl (by intro w0 hw0; (try dsimp only at hw0); go_simp; try rfl) ?_
      try simp only [List.set]
      refine wpT_take 2 (v := ?_) rfl rfl (by kernel_rfl) (by kernel_rfl) (by kernel_rfl) (by kernel_rfl) (fun _ _ _ h => h) hS rfl (by intro w0 hw0; (try dsimp only at hw0); go_simp; try rfl) ?_
      try simp only [List.set]
      refine wpT_take 3 (v := ?_) rfl rfl (by kernel_rfl) (by kernel_rfl) (by kernel_rfl) (by kernel_rfl) (fun _ _ _ h => h) hS rfl (by intro w0 hw0; (try dsimp only at hw0); go_simp; try rfl) ?_
      try simp only [List.set]
      refine wpT_take 4 (v := ?_) rfl rfl (by kernel_rfl) (by kernel_rfl) (by kernel_rfl) (by kernel_rfl) (fun _ _ _ h => h) hS rfl (by intro w0 hw0; (try dsimp only at hw0); go_simp; try rfl) ?_
      try simp only [List.set]
      refine wpT_take 5 (v := ?_) rfl rfl (by kernel_rfl) (by kernel_rfl) (by kernel_rfl) (by kernel_rfl) (fun _ _ _ h => h) hS rfl (by intro w0 hw0; (try dsimp only at hw0); go_simp; try rfl) ?_
      try simp only [List.set]
      refine wpT_take 6 (v := ?_) rfl rfl (by kernel_rfl) (by kernel_rfl) (by kernel_rfl) (by kernel_rfl) (fun _ _ _ h => h) hS rfl (by intro w0 hw0; (try dsimp only at hw0); go_simp; try rfl) ?_
      try simp only [List.set]
      refine wpT_take 7 (v := ?_) rfl rfl (by kernel_rfl) (by kernel_rfl) (by kernel_rfl) (by kernel_rfl) (fun _ _ _ h => h) hS rfl (by intro w0 hw0; (try dsimp only at hw0); go_simp; try rfl) ?_
      try simp only [List.set]
      refine wpT_take 8 (v := ?_) rfl rfl (by kernel_rfl) (by kernel_rfl) (by kernel_rfl) (by kernel_rfl) (fun _ _ _ h => h) hS rfl (by intro w0 hw0; (try dsimp only at hw0); go_simp; try rfl) ?_
      try simp only [List.set]
      refine wpT_take 9 (v := ?_) rfl rfl (by kernel_rfl) (by kernel_rfl) (by kernel_rfl) (by kernel_rfl) (fun _ _ _ h => h) hS rfl (by intro w0 hw0; (try dsimp only at hw0); go_simp; try rfl) ?_
      try simp only [List.set]
      refine wpT_take 10 (v := ?_) rfl rfl (by kernel_rfl) (by kernel_rfl) (by kernel_rfl) (by kernel_rfl) (fun _ _ _ h => h) hS rfl (by intro w0 hw0; (try dsimp only at hw0); go_simp; try rfl) ?_
      try simp only [List.set]
      refine wpT_take 11 (v := ?_) rfl rfl (by kernel_rfl) (by kernel_rfl) (by kernel_rfl) (by kernel_rfl) (fun _ _ _ h => h) hS rfl (by intro w0 hw0; (try dsimp only at hw0); go_simp; try rfl) ?_
      try simp only [List.set]
      refine wpT_take 12 (v := ?_) rfl rfl (by kernel_rfl) (by kernel_rfl) (by kernel_rfl) (by kernel_rfl) (fun _ _ _ h => h) hS rfl (by intro w0 hw0; (try dsimp only at hw0); go_simp; try rfl) ?_
      try simp only [List.set]
      refine wpT_take 13 (v := ?_) rfl rfl (by kernel_rfl) (by kernel_rfl) (by kernel_rfl) (by kernel_rfl) (fun _ _ _ h => h) hS rfl (by intro w0 hw0; (try dsimp only at hw0); go_simp; try rfl) ?_
      try simp only [List.set]
      refine wpT_take 15 (v := ?_) rfl rfl (by kernel_rfl) (by kernel_rfl) (by kernel_rfl) (by kernel_rfl) (fun _ _ _ h => h) hS rfl (by intro w0 hw0; (try dsimp only at hw0); go_simp; try rfl) ?_
      try simp only [List.set]
      refine wpT_take 16 (v := ?_) rfl rfl (by kernel_rfl) (by kernel_rfl) (by kernel_rfl) (by kernel_rfl) (fun _ _ _ h => h) hS rfl (by intro w0 hw0; (try dsimp only at hw0); go_simp; try rfl) ?_
      try simp only [List.set]
      refine wpT_take 17 (v := ?_) rfl rfl (by kernel_rfl) (by kernel_rfl) (by kernel_rfl) (by kernel_rfl) (fun _ _ _ h => h) hS rfl (by intro w0 hw0; (try dsimp only at hw0); go_simp; try rfl) ?_
      try simp only [List.set]
      refine wpT_take 18 (v := ?_) rfl rfl (by kernel_rfl) (by kernel_rfl) (by kernel_rfl) (by kernel_rfl) (fun _ _ _ h => h) hS rfl (by intro w0 hw0; (try dsimp only at hw0); go_simp; try rfl) ?_
      try simp only [List.set]
      refine wpT_take 19 (v := ?_) rfl rfl (by kernel_rfl) (by kernel_rfl) (by kernel_rfl) (by kernel_rfl) (fun _ _ _ h => h) hS rfl (by intro w0 hw0; (try dsimp only at hw0); go_simp; try rfl) ?_
      try simp only [List.set]
      refine wpT_take 20 (v := ?_) rfl rfl (by kernel_rfl) (by kernel_rfl) (by kernel_rfl) (by kernel_rfl) (fun _ _ _ h => h) hS rfl (by intro w0 hw0; (try dsimp only at hw0); go_simp; try rfl) ?_
      try simp only [List.set]
      refine wpT_one 14 rfl (by kernel_rfl) rfl rfl (fun K hK => ?_)
      go_simp
      refine (l1Names_any _ _ _ _ (s1.ext (ext_drewN wr 1))).mono ?_
      rintro e w2 ⟨u1, rfl, hE2, ho2⟩
      obtain ⟨x2, y2, rfl⟩ := own_sl ho2
      go_wp2_with fail
      refine hK.out _ _ ⟨hE2.keep hS.1, hE2.keep hS.2.1, hE2.keep hS.2.2.1, hE2.keep hS.2.2.2.1, hE2.keep hS.2.2.2.2⟩ (fun hS1 => ?_)
      clear hK hS
      have hS := hS1
      clear hS1
      try clear K
      try simp only [put_some, List.set]
      refine wpT_one 21 rfl (by kernel_rfl) rfl rfl (fun K hK => ?_)
      go_simp
      refine (l1Names_any _ _ _ _ ((s2.ext (ext_drewN wr 1)).ext hE2)).mono ?_
      rintro e w3 ⟨u3, rfl, hE3, ho3⟩
      obtain ⟨x3, y3, rfl⟩ := own_sl ho3
      go_wp2_with fail
      refine hK.out _ _ ⟨hE3.keep hS.1, hE3.keep hS.2.1, hE3.keep hS.2.2.1, hE3.keep hS.2.2.2.1, hE3.keep hS.2.2.2.2⟩ (fun hS1 => ?_)
      clear hK hS
      have hS := hS1
      clear hS1
      try clear K
      try simp only [put_some, List.set]
      refine wpT_take 22 (v := ?_) rfl rfl (by kernel_rfl) (by kernel_rfl) (by kernel_rfl) (by kernel_rfl) (fun _ _ _ h => h) hS rfl (by intro w0 hw0; (try dsimp only at hw0); go_simp; try rfl) ?_
      try simp only [List.set]
      refine wpT_one 23 rfl (by kernel_rfl) rfl rfl (fun K hK => ?_)
      go_simp
      refine hK.out _ _ ⟨(ext_alloc _ _).keep hS.1, (ext_alloc _ _).keep hS.2.1, (ext_alloc _ _).keep hS.2.2.1, (ext_alloc _ _).keep hS.2.2.2.1, (ext_alloc _ _).keep hS.2.2.2.2⟩ (fun hS1 => ?_)
      clear hK hS
      have hS := hS1
      clear hS1
      try clear K
      try simp only [put_some, List.set]
      have hE4 : Ext wr w3 := Ext.tr (Ext.tr (ext_drewN wr 1) hE2) hE3
      have hzr := HR.out.lt
      have hz2 : wr.heap.size ≤ w2.heap.size := hE2.size
      have hz3 := hE3.size
      have HRow : Hid (RowOwn (w3.alloc (.cells #[.string (S (nthB b.batches k).name), .slice x2 (nthB b.batches k).has.length y2, .slice x3 (nthB b.batches k).needs.length y3] 41)) (w1.heap.size + 1) ⟨(nthB b.batches k).name, .slice x2 (nthB b.batches k).has.length y2, .slice x3 (nthB b.batches k).needs.length y3⟩ (nthB b.batches k)) :=
        ⟨rfl, hl, ((ho2.low (by show w1.heap.size + 1 ≤ wr.heap.size; omega)).ext hE3).ext (ext_alloc _ _), s1.short, (ho3.low (by omega)).ext (ext_alloc _ _), s2.short⟩
      have hba : ba < w1.heap.size := by
        obtain ⟨_, _, e, _, _, _, _, _, q0, _⟩ := hb.2.2 k hlt
        cases e
        have h : ba < w.heap.size := cell_lt q0
        omega
      refine wpT_one 24 rfl (by kernel_rfl) rfl rfl (fun K hK => ?_)
      have hE5 := Ext.tr hE4 (ext_alloc w3 (.cells #[.string (S (nthB b.batches k).name), .slice x2 (nthB b.batches k).has.length y2, .slice x3 (nthB b.batches k).needs.length y3] 41))
      have hO5 : (w3.alloc (.cells #[.string (S (nthB b.batches k).name), .slice x2 (nthB b.batches k).has.length y2, .slice x3 (nthB b.batches k).needs.length y3] 41)).ownsRow (w1.heap.size + 1) 41 3 (.slice av k cv) rs.length (cellsOf rs) := by rw [hlk]; exact row_ext HO.out hE5
      have HDN : Hid (Dis (.slice x1 b.things.length y1) (rs ++ [⟨(nthB b.batches k).name, .slice x2 (nthB b.batches k).has.length y2, .slice x3 (nthB b.batches k).needs.length y3⟩])) := by
        have hzr2 : (wr.drewN 1).heap.size = wr.heap.size := rfl
        refine HD.out.snoc (fun v hv => ?_) (NE.older ho2 ho3 (Nat.le_refl _)) ⟨NE.older (HO1.out) ho2 (by rw [hzr2]; omega), NE.older HO1.out ho3 (by omega)⟩
        obtain ⟨L, hL⟩ := HRS.out.memV hv
        exact ⟨NE.older hL ho2 (Nat.le_refl _), NE.older hL ho3 (by omega)⟩
      refine wp_row (r := ⟨(nthB b.batches k).name, .slice x2 (nthB b.batches k).has.length y2, .slice x3 (nthB b.batches k).needs.length y3⟩) _ _ rfl rfl hO5 rfl (one_cells w3 41 ⟨(nthB b.batches k).name, .slice x2 (nthB b.batches k).has.length y2, .slice x3 (nthB b.batches k).needs.length y3⟩) (row_one HRow.out) (by omega) (by simp; omega) (fun v' w4 h2 h3 h4 => ?_)
      have hlk1 : (rs ++ [(⟨(nthB b.batches k).name, .slice x2 (nthB b.batches k).has.length y2, .slice x3 (nthB b.batches k).needs.length y3⟩ : Row)]).length = k + 1 := by rw [List.length_append, hlk]; rfl
      obtain ⟨a4, c4, rfl⟩ := own_shape3 h2
      rw [hlk1] at h2 ⊢
      have hob : ∀ g, (Value.slice av k cv).ownBlock = some g → w1.heap.size + 1 ≤ g := fun g hg => by
        exact (HO.out.lt g hg).1
      have HR4 : Hid (Rec w4 w1.heap.size 26 [.slice x1 b.things.length y1, .slice av k cv]) := (HR.out.ext (Ext.tr hE4 (ext_alloc _ _))).kept h3 (fun e => by have := hob _ e.symm; omega)
      have hB4 : Below w1.heap.size wr w4 := (Below.mono (Ext.tr hE4 (ext_alloc _ _)) (by omega)).grown h3 (by simp; omega) (fun g hg => by have := hob g hg; omega)
      refine hK.out _ _ ⟨HR4.out.cell rfl, (hB4.cell (p := ⟨w.heap.size, 1, none⟩) (by simp; omega)).trans hy1, (hB4.cell (p := ⟨ba, oa + k * 3, none⟩) hba).trans p0, (hB4.cell (p := ⟨ba, oa + k * 3 + 1, none⟩) hba).trans p1, (hB4.cell (p := ⟨ba, oa + k * 3 + 2, none⟩) hba).trans p2⟩ (fun hS1 => ?_)
      clear hK hS
      have hS := hS1
      clear hS1
      try clear K
      try simp only [put_some, List.set]
      refine wpT_take 25 (v := ?_) rfl rfl (by kernel_rfl) (by kernel_rfl) (by kernel_rfl) (by kernel_rfl) (fun _ _ _ h => h) hS rfl (by intro w0 hw0; (try dsimp only at hw0); go_simp; try rfl) ?_
      try simp only [List.set]
      have hkk : ∀ (k' : Nat) c, (Value.slice av k cv).ownBlock = some k' → (w3.alloc (.cells #[.string (S (nthB b.batches k).name), .slice x2 (nthB b.batches k).has.length y2, .slice x3 (nthB b.batches k).needs.length y3] 41)).heap[k']? = some (.cells c 9 (0, 0)) → False := fun k' c e hk' => row_ne hO5 k' c e hk'
      have hg4 := gb_store w4 w1.heap.size 1 (.slice a4 (k + 1) c4)
      have hk4 : ∀ (k' : Nat) c, some w1.heap.size = some k' → w4.heap[k']? = some (.cells c 9 (0, 0)) → False := fun k' c e hk' => by
        cases e
        rw [show w4.heap[w1.heap.size]? = _ from HR4.out] at hk'
        simp at hk'
      have HN : Hid ((w4.setCell ⟨w1.heap.size, 1, none⟩ (.slice a4 (k + 1) c4)).ownsRow (w1.heap.size + 1) 41 3 (.slice a4 (k + 1) c4) (rs ++ [(⟨(nthB b.batches k).name, .slice x2 (nthB b.batches k).has.length y2, .slice x3 (nthB b.batches k).needs.length y3⟩ : Row)]).length (cellsOf (rs ++ [⟨(nthB b.batches k).name, .slice x2 (nthB b.batches k).has.length y2, .slice x3 (nthB b.batches k).needs.length y3⟩]))) := by
        rw [hlk1]
        exact World.ownsRow.kept h2 hg4 (Or.inr (fun e => by have := (h2.lt _ e).1; omega))
      have HRN2 : Hid (RowsOwn (w4.setCell ⟨w1.heap.size, 1, none⟩ (.slice a4 (k + 1) c4)) (w1.heap.size + 1) (rs ++ [⟨(nthB b.batches k).name, .slice x2 (nthB b.batches k).has.length y2, .slice x3 (nthB b.batches k).needs.length y3⟩]) (b.batches.take (k + 1))) := by
        rw [take_bs hlt]
        exact RowsOwn.snoc (((HRS.out.ext hE5).keep h3 hkk).keep hg4 hk4) ((HRow.out.keep h3 hkk).keep hg4 hk4)
      have HRN := hid (HR4.out.set 1 (.slice a4 (k + 1) c4))
      have HBN : Hid (Below w1.heap.size w1 (w4.setCell ⟨w1.heap.size, 1, none⟩ (.slice a4 (k + 1) c4))) := (HB.out.trans hB4).setCell (Nat.le_refl _) _
      have hq1 := HR4.out.cell (i := 1) rfl
      have hq2 := HR4.out.frozen 1
      clear hS h2 h3 h4 hkk hk4 hg4 hO5 hE5 HR4 hB4 HRow hE2 hE3 hE4 ho2 ho3 s1 s2 p0 p1 p2 hb' hy0 hy1
      refine wpT_last rfl (by kernel_rfl) (by kernel_rfl) rfl (fun K hK => ?_)
      go_simp
      refine hK.out _ _ ?_
      clear hK
      go_wp2
      go_roundw
      case rel => exact ⟨k + 1, _, _, by omega, by go_num, HBN.out, HRN.out, HN.out, HRN2.out, HDN.out⟩
      case measure => simp [intOf]; omega
    · have e : k = b.batches.length := by omega
      subst e
      rw [List.take_length] at *
      obtain ⟨av, cv, rfl⟩ := own_shape3 HO.out
      have hlk : rs.length = b.batches.length := HRS.out.1
      rw [hlk] at HO HR
      have hq0 := HR.out.cell (i := 0) rfl
      have hq1 := HR.out.cell (i := 1) rfl
      have HR3 := hid (HR2.out.ext HB.out)
      have t0 := HR3.out.cell (i := 0) rfl
      have t1 := HR3.out.cell (i := 1) rfl
      have f0 := HR3.out.frozen 0
      have f1 := HR3.out.frozen 1
      have HO3 := hid ((HO1.out.low (base' := w.heap.size) (by simp; omega)).ext HB.out)
      have HE3 := hid (Ext.tr HE1.out HB.out)
      clear HB HR hrec HO1 HE1 hy0 hb'
      go_wp2
      refine bodyPost_ret (v := .agg #[.slice x1 b.things.length y1, .slice av b.batches.length cv]) (by simp [results, Try.results77, go_sem, t0, t1]) rfl ⟨_, _, rs, rfl, ?_, ?_, ?_, ?_, HD.out⟩
      · exact (HE3.out.setCell (by simp) _).setCell (by simp) _
      · exact (HO3.out.stored HR3.out rfl _ _).stored (HR3.out.set _ _) rfl _ _
      · have hne2 : ∀ u : Value, Value.ownBlock (.slice av b.batches.length cv) ≠ some (w.heap.size + 1) := fun _ e => by have := (HO.out.lt _ e).1; omega
        rw [hlk]
        have hlow : wr.ownsRow w.heap.size 41 3 (.slice av b.batches.length cv) b.batches.length (cellsOf rs) := by
          refine ⟨HO.out.1, ?_⟩
          rcases HO.out.2 with h | ⟨g, cap, cur, hv, hg, r⟩
          · exact Or.inl h
          · exact Or.inr ⟨g, cap, cur, hv, by omega, r⟩
        exact World.ownsRow.kept (World.ownsRow.kept hlow (gb_store _ _ _ _) (Or.inr (hne2 undef))) (gb_store _ _ _ _) (Or.inr (hne2 undef))
      · have hk1 : ∀ (k' : Nat) c, some (w.heap.size + 1) = some k' → wr.heap[k']? = some (.cells c 9 (0, 0)) → False := fun k' c e hk' => by
          cases e
          rw [show wr.heap[w.heap.size + 1]? = _ from HR3.out] at hk'
          simp at hk'
        have r1 := HR3.out.set 0 (.slice x1 b.things.length y1)
        have hk2 : ∀ (k' : Nat) c, some (w.heap.size + 1) = some k' → (wr.setCell ⟨w.heap.size + 1, 0, none⟩ (.slice x1 b.things.length y1)).heap[k']? = some (.cells c 9 (0, 0)) → False := fun k' c e hk' => by
          cases e
          rw [show (wr.setCell ⟨w.heap.size + 1, 0, none⟩ (.slice x1 b.things.length y1)).heap[w.heap.size + 1]? = _ from r1] at hk'
          simp at hk'
        exact ((HRS.out.low (by omega)).keep (gb_store _ _ _ _) hk1).keep (gb_store _ _ _ _) hk2
end Go.Proofs.Ytdafpnpfcmgfcaa
namespace Go.Proofs.Ytdafpnpfcmgfcaa
open Go.RowKit
attribute [local go_sem] S_toList S_size S_get

theorem allV_atD : ∀ (rs : List Row) (i : Nat) (r : Row), rs[i]? = some r → (allV rs)[2 * i]? = some r.has ∧ (allV rs)[2 * i + 1]? = some r.needs
  | [], i, r, h => by simp at h
  | x :: rs, 0, r, h => by
    simp at h; subst h
    exact ⟨rfl, rfl⟩
  | x :: rs, i + 1, r, h => by
    have h' := allV_atD rs i r (by simpa using h)
    have e : allV (x :: rs) = x.has :: x.needs :: allV rs := rfl
    have e2 : 2 * (i + 1) = 2 * i + 1 + 1 := by omega
    rw [e, e2]
    exact h'
theorem pw_ne {l : List Value} (h : l.Pairwise NE) {i j : Nat} {u v : Value} (hi : l[i]? = some u) (hj : l[j]? = some v) (hne : i ≠ j) : NE u v := by
  have li : i < l.length := by
    rcases Nat.lt_or_ge i l.length with h' | h'
    · exact h'
    · simp [List.getElem?_eq_none h'] at hi
  have lj : j < l.length := by
    rcases Nat.lt_or_ge j l.length with h' | h'
    · exact h'
    · simp [List.getElem?_eq_none h'] at hj
  rw [List.getElem?_eq_getElem li] at hi
  rw [List.getElem?_eq_getElem lj] at hj
  cases hi; cases hj
  rcases Nat.lt_or_gt_of_ne hne with h' | h'
  · exact (List.pairwise_iff_getElem.1 h) i j li lj h'
  · exact ((List.pairwise_iff_getElem.1 h) j i lj li h').symm
theorem cellsOf_nameD : ∀ (rs : List Row) (k : Nat) (r : Row) (s : Str), rs[k]? = some r → (cellsOf rs).set (k * 3) (.string (S s)) = cellsOf (rs.set k ⟨s, r.has, r.needs⟩)
  | [], k, r, s, h => by simp at h
  | x :: rs, 0, r, s, h => by
    simp at h; subst h
    rfl
  | x :: rs, k + 1, r, s, h => by
    have h' := cellsOf_nameD rs k r s (by simpa using h)
    have e3 : (k + 1) * 3 = (k * 3) + 1 + 1 + 1 := by omega
    rw [cellsOf_cons, e3, List.set_cons_succ, List.set_cons_succ, List.set_cons_succ, h', List.set_cons_succ, cellsOf_cons]

def Small9 (bs : List Batch) : Prop := ∀ x ∈ bs, x.has.length ≤ 9 ∧ x.needs.length ≤ 9
def SmB9 (b : Book) : Prop := b.things.length ≤ 9 ∧ b.batches.length ≤ 7 ∧ Small9 b.batches
theorem SmB.nine {b : Book} (h : SmB b) : SmB9 b := ⟨by have := h.1; omega, by have := h.2.1; omega, fun x hx => by have := h.2.2 x hx; omega⟩

/-- A copy that may still be spoilt. -/
structure PS (w wc : World) (R q X : Nat) (things : List Str) (bs : List Batch) (rs : List Row) (v1 v2 : Value) : Prop where
  on : w.grownBy wc (some R)
  rd : Rd wc R q
  rr : Rec wc (w.heap.size + 1) 26 [.slice none 0 0, .slice none 0 0]
  rx : Rec wc X 26 [v1, v2]
  o1 : OwnL wc (w.heap.size + 2) v1 things
  ob : wc.ownsRow (w.heap.size + 2) 41 3 v2 rs.length (cellsOf rs)
  ow : RowsOwn wc (w.heap.size + 2) rs bs
  hR : R < w.heap.size
  hX : w.heap.size + 2 ≤ X
  hz : w.heap.size + 2 ≤ wc.heap.size

theorem PS.ext {w wc wd : World} {R q X : Nat} {things : List Str} {bs : List Batch} {rs : List Row} {v1 v2 : Value} (h : PS w wc R q X things bs rs v1 v2) (e : Ext wc wd) : PS w wd R q X things bs rs v1 v2 :=
  ⟨gb_tr h.on (gb_ext e _), h.rd.ext e, h.rr.ext e, h.rx.ext e, h.o1.ext e, row_ext h.ob e, h.ow.ext e, h.hR, h.hX, Nat.le_trans h.hz e.size⟩
theorem PS.read {w wc wd : World} {R q q' X : Nat} {things : List Str} {bs : List Batch} {rs : List Row} {v1 v2 : Value} (h : PS w wc R q X things bs rs v1 v2) (g : wc.grownBy wd (some R)) (hr : Rd wd R q') : PS w wd R q' X things bs rs v1 v2 := by
  have hR := h.hR
  have hX := h.hX
  have hf : ∀ k, some R = some k → k < w.heap.size + 2 := fun k e => by cases e; omega
  exact ⟨gb_tr h.on g, hr, h.rr.kept g (by simp; omega), h.rx.kept g (by simp; omega), h.o1.far g hf, own_far h.ob g hf, h.ow.far g hf, h.hR, h.hX, Nat.le_trans h.hz g.size⟩
theorem PS.mono {w wc : World} {R q q' X : Nat} {things : List Str} {bs : List Batch} {rs : List Row} {v1 v2 : Value} (h : PS w wc R q X things bs rs v1 v2) (hq : q ≤ q') : PS w wc R q' X things bs rs v1 v2 :=
  ⟨h.on, h.rd.mono hq, h.rr, h.rx, h.o1, h.ob, h.ow, h.hR, h.hX, h.hz⟩
/-- What lies in the box at the end. -/
structure FS (w wc : World) (R q X : Nat) : Prop where
  on : w.grownBy wc (some R)
  rd : Rd wc R q
  rr : Rec wc (w.heap.size + 1) 26 [.slice none 0 0, .slice none 0 0]
  bk : ∃ (b : Book) (z1 z2 : Option Addr) (d1 d2 : Nat), Rec wc X 26 [.slice z1 b.things.length d1, .slice z2 b.batches.length d2] ∧ BookAt wc z1 z2 b ∧ SmB9 b
  hR : R < w.heap.size
theorem PS.fs {w wc : World} {R q X : Nat} {things : List Str} {bs : List Batch} {rs : List Row} {v1 v2 : Value} (h : PS w wc R q X things bs rs v1 v2) (hs : ShortL things) (h1 : things.length ≤ 9) (h2 : bs.length ≤ 7) (h3 : Small9 bs) : FS w wc R q X := by
  refine ⟨h.on, h.rd, h.rr, ?_, h.hR⟩
  obtain ⟨z1, d1, rfl⟩ := own_sl h.o1
  have hob : OwnBs wc (w.heap.size + 2) v2 bs := ⟨rs, h.ob, h.ow⟩
  obtain ⟨z2, d2, rfl⟩ := hob.len
  exact ⟨⟨things, bs⟩, z1, z2, d1, d2, h.rx, own_book_at (b := ⟨things, bs⟩) h.o1 ⟨by show things.length ≤ _; omega, hs⟩ hob (by show bs.length ≤ _; omega), h1, h2, h3⟩

/-- A thing is added. -/
theorem PS.thing {w wc wd : World} {R q X : Nat} {things things' : List Str} {bs : List Batch} {rs : List Row} {v1 v1' v2 : Value} (h : PS w wc R q X things bs rs v1 v2) (hd : ∀ v ∈ allV rs, NE v1 v) (g : wc.grownBy wd v1.ownBlock) (ho : OwnL wd (w.heap.size + 2) v1' things') : PS w (wd.setCell ⟨X, 0, none⟩ v1') R q X things' bs rs v1' v2 := by
  have hR := h.hR
  have hX := h.hX
  have hob : ∀ k, v1.ownBlock = some k → w.heap.size + 2 ≤ k := fun k e => (h.o1.lt k e).1
  have rx1 := h.rx.kept g (h.rx.not_row rfl h.o1)
  have rr1 := h.rr.kept g (h.rr.not_row rfl h.o1)
  have g2 := gb_store wd X 0 v1'
  have hk2 : ∀ (k : Nat) c, some X = some k → wd.heap[k]? = some (.cells c 9 (0, 0)) → False := fun k c e hk => by
    cases e
    rw [show wd.heap[X]? = _ from rx1] at hk
    simp at hk
  have hn1 : ∀ k, v1.ownBlock = some k → v2.ownBlock = some k → False := fun k e1 e2 => by
    rcases h.o1.2 with ⟨e, _⟩ | ⟨b1, _, _, e, _, hg1, _⟩
    · rw [e] at e1; simp [Value.ownBlock] at e1
    · rcases h.ob.2 with ⟨e', _⟩ | ⟨b2, _, _, e', _, hg2, _⟩
      · rw [e'] at e2; simp [Value.ownBlock] at e2
      · rw [e] at e1
        rw [e'] at e2
        simp only [Value.ownBlock, Option.some.injEq] at e1 e2
        subst e1; subst e2
        rw [hg1] at hg2; simp at hg2
  have ob1 := own_ne h.ob g hn1
  have ow1 := h.ow.ne g (fun r hr => ⟨hd _ (mem_allV hr).1, hd _ (mem_allV hr).2⟩)
  refine ⟨on_grown (on_grown h.on g (fun k e => by have := hob k e; omega)) g2 (fun k e => by cases e; omega), (h.rd.gb g (fun k e => by have := hob k e; omega)).gb g2 (fun k e => by cases e; omega), rr1.kept g2 ?_, rx1.set 0 v1', ho.keep g2 hk2, World.ownsRow.kept ob1 g2 (Or.inr (fun e => rx1.not_row rfl ob1 e.symm)), ow1.keep g2 hk2, h.hR, h.hX, Nat.le_trans h.hz (Nat.le_trans g.size g2.size)⟩
  simp; omega
/-- The row's cells turn. -/
theorem PS.cellsTurn {w wc : World} {R q X g n c i : Nat} {things : List Str} {bs bs' : List Batch} {rs rs' : List Row} {v1 u : Value} (h : PS w wc R q X things bs rs v1 (.slice (some ⟨g, 0, none⟩) n c)) (hc : (cellsOf rs).set i u = cellsOf rs') (hl : rs'.length = rs.length) (how : RowsOwn wc (w.heap.size + 2) rs' bs') : PS w (wc.setCell ⟨g, i, none⟩ u) R q X things bs' rs' v1 (.slice (some ⟨g, 0, none⟩) n c) := by
  have hR := h.hR
  have hX := h.hX
  obtain ⟨a', c', ee⟩ := own_shape3 h.ob
  have hn : n = rs.length := by simp only [Value.slice.injEq] at ee; exact ee.2.1
  subst hn
  have h3 := World.ownsRow.stored h.ob i u
  have hgb : w.heap.size + 2 ≤ g := (h.ob.lt g rfl).1
  have g2 := gb_store wc g i u
  have hk2 : ∀ (k : Nat) c, some g = some k → wc.heap[k]? = some (.cells c 9 (0, 0)) → False := fun k cc e hk => row_ne h.ob k cc (by rw [← e]; rfl) hk
  refine ⟨on_grown h.on g2 (fun k e => by cases e; omega), h.rd.gb g2 (fun k e => by cases e; omega), h.rr.kept g2 (h.rr.not_row rfl h.ob), h.rx.kept g2 (h.rx.not_row rfl h.ob), h.o1.keep g2 hk2, ?_, how.keep g2 hk2, h.hR, h.hX, Nat.le_trans h.hz g2.size⟩
  rw [hl, ← hc]; exact h3.1
/-- A row of names of the copy's own turns: that of the batch at k alone. -/
theorem PS.listTurn {w wc wd : World} {R q X : Nat} {things : List Str} {bs : List Batch} {rs : List Row} {v1 v2 u : Value} {L : List Str} (h : PS w wc R q X things bs rs v1 v2) (ho : OwnL wc (w.heap.size + 2) u L) (g : wc.grownBy wd u.ownBlock) (n1 : NE u v1) : w.grownBy wd (some R) ∧ Rd wd R q ∧ Rec wd (w.heap.size + 1) 26 [.slice none 0 0, .slice none 0 0] ∧ Rec wd X 26 [v1, v2] ∧ OwnL wd (w.heap.size + 2) v1 things ∧ wd.ownsRow (w.heap.size + 2) 41 3 v2 rs.length (cellsOf rs) := by
  have hR := h.hR
  have hob : ∀ k, u.ownBlock = some k → w.heap.size + 2 ≤ k := fun k e => (ho.lt k e).1
  refine ⟨on_grown h.on g (fun k e => by have := hob k e; omega), h.rd.gb g (fun k e => by have := hob k e; omega), h.rr.kept g (h.rr.not_row rfl ho), h.rx.kept g (h.rx.not_row rfl ho), own_ne h.o1 g n1, own_ne h.ob g (fun k e1 e2 => ?_)⟩
  rcases ho.2 with ⟨e, _⟩ | ⟨b1, _, _, e, _, hg1, _⟩
  · rw [e] at e1; simp [Value.ownBlock] at e1
  · rcases h.ob.2 with ⟨e', _⟩ | ⟨b2, _, _, e', _, hg2, _⟩
    · rw [e'] at e2; simp [Value.ownBlock] at e2
    · rw [e] at e1
      rw [e'] at e2
      simp only [Value.ownBlock, Option.some.injEq] at e1 e2
      subst e1; subst e2
      rw [hg1] at hg2; simp at hg2
/-- One list of one batch grows. -/
theorem PS.needs {w wc wd : World} {R q X g n c k : Nat} {things : List Str} {bs : List Batch} {rs : List Row} {v1 u' : Value} {r : Row} {L' : List Str} (h : PS w wc R q X things bs rs v1 (.slice (some ⟨g, 0, none⟩) n c)) (hd : Dis v1 rs) (hr : rs[k]? = some r) (gw : wc.grownBy wd r.needs.ownBlock) (ho' : OwnL wd (w.heap.size + 2) u' L') (hs : ShortS L') :
    PS w (wd.setCell ⟨g, k * 3 + 2, none⟩ u') R q X things (bs.set k ⟨(nthB bs k).name, (nthB bs k).has, L'⟩) (rs.set k ⟨r.name, r.has, u'⟩) v1 (.slice (some ⟨g, 0, none⟩) n c) := by
  have hkr : k < rs.length := by
    rcases Nat.lt_or_ge k rs.length with h' | h'
    · exact h'
    · simp [List.getElem?_eq_none h'] at hr
  have hkb : k < bs.length := by rw [← h.ow.1]; exact hkr
  obtain ⟨e1, e2, e3, e4, e5, e6⟩ := h.ow.2 k r _ hr (List.getElem?_eq_getElem hkb)
  have hav := allV_atD rs k r hr
  obtain ⟨k1, k2, k3, k4, k5, k6⟩ := h.listTurn e5 gw ((hd.2 _ (mem_allV (List.mem_of_getElem? hr)).2).symm)
  have how : RowsOwn wd (w.heap.size + 2) (rs.set k ⟨r.name, r.has, u'⟩) (bs.set k ⟨(nthB bs k).name, (nthB bs k).has, L'⟩) := by
    refine ⟨by simp [h.ow.1], fun i r' x' h1 h2 => ?_⟩
    rw [List.getElem?_set] at h1 h2
    by_cases e : k = i
    · subst e
      rw [if_pos rfl, if_pos hkr] at h1
      rw [if_pos rfl, if_pos hkb] at h2
      cases h1; cases h2
      rw [nthB_get hkb]
      exact ⟨e1, e2, own_ne e3 gw (pw_ne hd.1 hav.2 hav.1 (by omega)), e4, ho', hs⟩
    · rw [if_neg e] at h1 h2
      obtain ⟨f1, f2, f3, f4, f5, f6⟩ := h.ow.2 i r' x' h1 h2
      have hai := allV_atD rs i r' h1
      exact ⟨f1, f2, own_ne f3 gw (pw_ne hd.1 hav.2 hai.1 (by omega)), f4, own_ne f5 gw (pw_ne hd.1 hav.2 hai.2 (by omega)), f6⟩
  have hps : PS w wd R q X things bs rs v1 (.slice (some ⟨g, 0, none⟩) n c) → True := fun _ => trivial
  obtain ⟨a', c', ee⟩ := own_shape3 k6
  have hn : n = rs.length := by simp only [Value.slice.injEq] at ee; exact ee.2.1
  subst hn
  have h3 := World.ownsRow.stored k6 (k * 3 + 2) u'
  have hgb : w.heap.size + 2 ≤ g := (k6.lt g rfl).1
  have g2 := gb_store wd g (k * 3 + 2) u'
  have hk2 : ∀ (k' : Nat) cc, some g = some k' → wd.heap[k']? = some (.cells cc 9 (0, 0)) → False := fun k' cc e hk => row_ne k6 k' cc (by rw [← e]; rfl) hk
  have hR := h.hR
  clear hps
  refine ⟨on_grown k1 g2 (fun k e => by cases e; omega), k2.gb g2 (fun k e => by cases e; omega), k3.kept g2 (k3.not_row rfl k6), k4.kept g2 (k4.not_row rfl k6), k5.keep g2 hk2, ?_, how.keep g2 hk2, h.hR, h.hX, Nat.le_trans h.hz (Nat.le_trans gw.size g2.size)⟩
  rw [List.length_set, ← cellsOf_needs rs k r u' hr]; exact h3.1
theorem PS.hasGrow {w wc wd : World} {R q X g n c k : Nat} {things : List Str} {bs : List Batch} {rs : List Row} {v1 u' : Value} {r : Row} {L' : List Str} (h : PS w wc R q X things bs rs v1 (.slice (some ⟨g, 0, none⟩) n c)) (hd : Dis v1 rs) (hr : rs[k]? = some r) (gw : wc.grownBy wd r.has.ownBlock) (ho' : OwnL wd (w.heap.size + 2) u' L') (hs : ShortS L') :
    PS w (wd.setCell ⟨g, k * 3 + 1, none⟩ u') R q X things (bs.set k ⟨(nthB bs k).name, L', (nthB bs k).needs⟩) (rs.set k ⟨r.name, u', r.needs⟩) v1 (.slice (some ⟨g, 0, none⟩) n c) := by
  have hkr : k < rs.length := by
    rcases Nat.lt_or_ge k rs.length with h' | h'
    · exact h'
    · simp [List.getElem?_eq_none h'] at hr
  have hkb : k < bs.length := by rw [← h.ow.1]; exact hkr
  obtain ⟨e1, e2, e3, e4, e5, e6⟩ := h.ow.2 k r _ hr (List.getElem?_eq_getElem hkb)
  have hav := allV_atD rs k r hr
  obtain ⟨k1, k2, k3, k4, k5, k6⟩ := h.listTurn e3 gw ((hd.2 _ (mem_allV (List.mem_of_getElem? hr)).1).symm)
  have how : RowsOwn wd (w.heap.size + 2) (rs.set k ⟨r.name, u', r.needs⟩) (bs.set k ⟨(nthB bs k).name, L', (nthB bs k).needs⟩) := by
    refine ⟨by simp [h.ow.1], fun i r' x' h1 h2 => ?_⟩
    rw [List.getElem?_set] at h1 h2
    by_cases e : k = i
    · subst e
      rw [if_pos rfl, if_pos hkr] at h1
      rw [if_pos rfl, if_pos hkb] at h2
      cases h1; cases h2
      rw [nthB_get hkb]
      exact ⟨e1, e2, ho', hs, own_ne e5 gw (pw_ne hd.1 hav.1 hav.2 (by omega)), e6⟩
    · rw [if_neg e] at h1 h2
      obtain ⟨f1, f2, f3, f4, f5, f6⟩ := h.ow.2 i r' x' h1 h2
      have hai := allV_atD rs i r' h1
      exact ⟨f1, f2, own_ne f3 gw (pw_ne hd.1 hav.1 hai.1 (by omega)), f4, own_ne f5 gw (pw_ne hd.1 hav.1 hai.2 (by omega)), f6⟩
  obtain ⟨a', c', ee⟩ := own_shape3 k6
  have hn : n = rs.length := by simp only [Value.slice.injEq] at ee; exact ee.2.1
  subst hn
  have h3 := World.ownsRow.stored k6 (k * 3 + 1) u'
  have hgb : w.heap.size + 2 ≤ g := (k6.lt g rfl).1
  have g2 := gb_store wd g (k * 3 + 1) u'
  have hk2 : ∀ (k' : Nat) cc, some g = some k' → wd.heap[k']? = some (.cells cc 9 (0, 0)) → False := fun k' cc e hk => row_ne k6 k' cc (by rw [← e]; rfl) hk
  have hR := h.hR
  refine ⟨on_grown k1 g2 (fun k e => by cases e; omega), k2.gb g2 (fun k e => by cases e; omega), k3.kept g2 (k3.not_row rfl k6), k4.kept g2 (k4.not_row rfl k6), k5.keep g2 hk2, ?_, how.keep g2 hk2, h.hR, h.hX, Nat.le_trans h.hz (Nat.le_trans gw.size g2.size)⟩
  rw [List.length_set, ← cellsOf_has rs k r u' hr]; exact h3.1
/-- A batch is added. -/
theorem PS.row {w wc wd : World} {R q X : Nat} {things : List Str} {bs : List Batch} {rs : List Row} {v1 v2 v2' : Value} {r : Row} {x : Batch} (h : PS w wc R q X things bs rs v1 v2) (hx : RowOwn wc (w.heap.size + 2) r x) (g : wc.grownBy wd v2.ownBlock) (ho : wd.ownsRow (w.heap.size + 2) 41 3 v2' (rs ++ [r]).length (cellsOf (rs ++ [r]))) : PS w (wd.setCell ⟨X, 1, none⟩ v2') R q X things (bs ++ [x]) (rs ++ [r]) v1 v2' := by
  have hR := h.hR
  have hX := h.hX
  have hob : ∀ k, v2.ownBlock = some k → w.heap.size + 2 ≤ k := fun k e => (h.ob.lt k e).1
  have hk : ∀ (k : Nat) c, v2.ownBlock = some k → wc.heap[k]? = some (.cells c 9 (0, 0)) → False := fun k c e hk => row_ne h.ob k c e hk
  have rx1 := h.rx.kept g (h.rx.not_row rfl h.ob)
  have g2 := gb_store wd X 1 v2'
  have hk2 : ∀ (k : Nat) c, some X = some k → wd.heap[k]? = some (.cells c 9 (0, 0)) → False := fun k c e hk => by
    cases e
    rw [show wd.heap[X]? = _ from rx1] at hk
    simp at hk
  refine ⟨on_grown (on_grown h.on g (fun k e => by have := hob k e; omega)) g2 (fun k e => by cases e; omega), (h.rd.gb g (fun k e => by have := hob k e; omega)).gb g2 (fun k e => by cases e; omega), (h.rr.kept g (h.rr.not_row rfl h.ob)).kept g2 (by simp; omega), rx1.set 1 v2', (h.o1.keep g hk).keep g2 hk2, World.ownsRow.kept ho g2 (Or.inr (fun e => rx1.not_row rfl ho e.symm)), RowsOwn.snoc ((h.ow.keep g hk).keep g2 hk2) ((hx.keep g hk).keep g2 hk2), h.hR, h.hX, Nat.le_trans h.hz (Nat.le_trans g.size g2.size)⟩
end Go.Proofs.Ytdafpnpfcmgfcaa
namespace Go.Proofs.Ytdafpnpfcmgfcaa
open Go.RowKit
attribute [local go_sem] S_toList S_size S_get

theorem conv_dec (m : Nat) (hm : m ≤ 9) (wr : World) : (convert 22 9 (.slice (some ⟨wr.heap.size, 0, none⟩) 1 1)).run Try.prog (wr.alloc (.cells #[.int .u8 (48 + (m : Int))] 5)) = .ok (.string (S [UInt8.ofNat (48 + m)])) (wr.alloc (.cells #[.int .u8 (48 + (m : Int))] 5)) := by
  have h := run_convert_bytes_arg (P := Try.prog) (w := wr.alloc (.cells #[.int .u8 (48 + (m : Int))] 5)) 22 5 Try.underlying22 Try.underlying5 wr.heap.size 0 1 1 [48 + (m : Int)] rfl (fun i hi => by
    have e : i = 0 := by omega
    subst e
    simp) 9 Try.underlying9
  have e : strOfNums [48 + (m : Int)] = S [UInt8.ofNat (48 + m)] := by
    apply ByteArray.ext
    apply Array.ext'
    rw [strOfNums_data, S_data]
    have e2 : (48 + (m : Int)).toNat = 48 + m := by omega
    simp [e2]
  rw [e] at h
  exact h

set_option maxHeartbeats 400000 in
theorem l5Dec_any (m : Nat) (hm : m ≤ 9) (w : World) : Calls Try.prog 78 #[.int .i64 (m : Int)] w fun e w' => ∃ c, e = .returned (.string (S [c])) ∧ Ext w w' := by
  have hc := conv_dec m hm w
  go_enter Try.func78, Try.ntmps78
  go_wp2
  go_ret
  exact ⟨_, rfl, ext_alloc _ _⟩

def wordsA : List Str := [[], [65], [97], [122, 122]]
theorem wordsA_short : ShortS wordsA := ⟨by simp [wordsA], fun i hi => by
  match i, hi with
  | 0, _ => simp [wordsA, nth]
  | 1, _ => simp [wordsA, nth]
  | 2, _ => simp [wordsA, nth]
  | 3, _ => simp [wordsA, nth]⟩
def wordsB : List Str := [[], [66], [122, 122], [97]]
theorem wordsB_short : ShortS wordsB := ⟨by simp [wordsB], fun i hi => by
  match i, hi with
  | 0, _ => simp [wordsB, nth]
  | 1, _ => simp [wordsB, nth]
  | 2, _ => simp [wordsB, nth]
  | 3, _ => simp [wordsB, nth]⟩
def wordsC : List Str := [[], [122, 122], [107, 101, 103], [119]]
theorem wordsC_short : ShortS wordsC := ⟨by simp [wordsC], fun i hi => by
  match i, hi with
  | 0, _ => simp [wordsC, nth]
  | 1, _ => simp [wordsC, nth]
  | 2, _ => simp [wordsC, nth]
  | 3, _ => simp [wordsC, nth]⟩

set_option maxRecDepth 100000 in
set_option maxHeartbeats 1000000 in
theorem l5Spoil_any (R q : Nat) (b : Book) (a1 a2 : Option Addr) (c1 c2 : Nat) (w : World) (h : Rd w R q) (hq : q ≤ 700000) (hb : BookAt w a1 a2 b) (hsm : SmB b) :
    Calls Try.prog 63 #[.pointer (some ⟨R, 0, none⟩), .agg #[.slice a1 b.things.length c1, .slice a2 b.batches.length c2]] w fun e w' =>
      ∃ (b' : Book) (x1 x2 : Option Addr) (y1 y2 : Nat), e = .returned (.agg #[.slice x1 b'.things.length y1, .slice x2 b'.batches.length y2]) ∧ w.grownBy w' (some R) ∧ Rd w' R (q + 10) ∧ BookAt w' x1 x2 b' ∧ SmB9 b' := by
  have hlt0 := h.lt
  have e2 : ∀ o1 o2, Ext w ((w.alloc o1).alloc o2) := fun o1 o2 => ((Below.refl _ _).alloc (Nat.le_refl _) _).alloc (by simp) _
  go_enter Try.func63, Try.ntmps63
  go_wp2_with fail
  refine (l1Copy_dis b _ _ _ _ _ (hb.ext (e2 _ _))).mono ?_
  rintro e w1 ⟨v1, v2, rs, rfl, hE1, ho1, hob, how, hdis⟩
  have ez : ((w.alloc (.cells #[.slice a1 b.things.length c1, .slice a2 b.batches.length c2] 26)).alloc (.cells #[.slice none 0 0, .slice none 0 0] 26)).heap.size = w.heap.size + 2 := by simp
  rw [ez] at ho1 hob how
  have hz1 := hE1.size
  rw [ez] at hz1
  obtain ⟨x1, y1, rfl⟩ := own_sl ho1
  obtain ⟨x2, y2, rfl⟩ := own_shape3 hob
  have HLEN : Hid (rs.length = b.batches.length) := how.1
  have hr5 : rs.length ≤ 5 := by rw [how.1]; exact hsm.2.1
  have HRR : Hid (Rec w1 (w.heap.size + 1) 26 [.slice none 0 0, .slice none 0 0]) := by
    have h := (Rec.new (w.alloc (.cells #[.slice a1 b.things.length c1, .slice a2 b.batches.length c2] 26)) 26 [.slice none 0 0, .slice none 0 0]).ext hE1
    have e : (w.alloc (.cells #[.slice a1 b.things.length c1, .slice a2 b.batches.length c2] 26)).heap.size = w.heap.size + 1 := by simp
    rw [e] at h; exact h
  have HP : Hid (PS w (w1.alloc (.cells #[.slice x1 b.things.length y1, .slice x2 rs.length y2] 26)) R q w1.heap.size b.things b.batches rs (.slice x1 b.things.length y1) (.slice x2 rs.length y2)) :=
    ⟨gb_ext (Ext.tr (Ext.tr (e2 _ _) hE1) (ext_alloc _ _)) _, ((h.ext (e2 _ _)).ext hE1).ext (ext_alloc _ _), HRR.out.ext (ext_alloc _ _), Rec.new w1 _ _, ho1.ext (ext_alloc _ _), row_ext hob (ext_alloc _ _), how.ext (ext_alloc _ _), hlt0, hz1, by simp; omega⟩
  have HD := hid hdis
  clear hE1 ho1 hob how hdis HRR ez
  go_upto_region 2 with fail
  generalize w1.alloc (.cells #[.slice x1 b.things.length y1, .slice x2 rs.length y2] 26) = w2 at HP ⊢
  have hX := HP.out.hX
  generalize w1.heap.size = X at HP hX ⊢
  clear hz1
  have hb5 := hsm.2.1
  have ht8 := hsm.1
  go_cut [19] (fun v wx => ∃ x : Bool, v = .bool x ∧ (x = false → 0 < rs.length) ∧ PS w wx R (q + 1) X b.things b.batches rs (.slice x1 b.things.length y1) (.slice x2 rs.length y2))
  case first =>
    have p1 := HP.out.rx.cell (i := 1) rfl
    by_cases hbt : 0 < rs.length
    · have hbi : ((rs.length : Int) == 0) = false := by rw [beq_eq_false_iff_ne]; omega
      go_wp2_with fail
      refine (pick_any R q 4 w2 HP.out.rd (by omega) (by omega) (by omega)).mono ?_
      rintro e w4 ⟨j', rfl, hj', hg4, hr4⟩
      have HP4 := hid (HP.out.read hg4 hr4)
      clear hg4 hr4 p1
      go_wp2_with fail
      go_meet
      exact ⟨_, rfl, fun _ => hbt, HP4.out⟩
    · have hbi : ((rs.length : Int) == 0) = true := by rw [beq_iff_eq]; omega
      go_wp2_with fail
      go_meet
      exact ⟨true, rfl, (fun h => by cases h), HP.out.mono (by omega)⟩
  case rest =>
    obtain ⟨x, rfl, hx, hps⟩ := hcut
    have HP1 := hid hps
    clear hps HP
    cases x
    · have hbt := hx rfl
      have p1 := HP1.out.rx.cell (i := 1) rfl
      go_wp2_with fail
      refine (pick_any R (q + 1) rs.length _ HP1.out.rd (by omega) hbt (by omega)).mono ?_
      rintro e w4 ⟨k, rfl, hk, hg4, hr4⟩
      have HP4 := hid (HP1.out.read hg4 hr4)
      clear hg4 hr4 p1 HP1
      go_wp2_with fail
      refine (pick_any R (q + 2) 5 _ HP4.out.rd (by omega) (by omega) (by omega)).mono ?_
      rintro e w5 ⟨j5, rfl, hj5, hg5, hr5⟩
      have HP5 := hid (HP4.out.read hg5 hr5)
      clear hg5 hr5 HP4
      go_upto_block 0 with fail
      go_cut [] (fun wx => FS w wx R (q + 8) X)
      case first =>
        have p1 := HP5.out.rx.cell (i := 1) rfl
        have hkr := List.getElem?_eq_getElem hk
        have hkb : k < b.batches.length := by have := HLEN.out; omega
        obtain ⟨g, rfl, hcap, hgb⟩ : ∃ g, x2 = some ⟨g, 0, none⟩ ∧ rs.length ≤ y2 ∧ w.heap.size + 2 ≤ g := by
          rcases (show OwnBs _ _ _ b.batches from ⟨rs, HP5.out.ob, HP5.out.ow⟩).shape with ⟨_, h0, _⟩ | ⟨g, e, hc, _, hb⟩
          · omega
          · exact ⟨g, e, hc, hb⟩
        by_cases hc0 : j5 = 0
        · subst hc0
          go_wp2_with fail
          refine wp_region_T (fun w' => w'.cell? ⟨X, 1, none⟩ = some (.slice (some ⟨g, 0, none⟩) rs.length y2)) 8 (by kernel_rfl) p1 (fun hS => ?_)
          refine wpT_take 0 (v := ?_) rfl rfl (by kernel_rfl) (by kernel_rfl) (by kernel_rfl) (by kernel_rfl) (fun _ _ _ h => h) hS rfl (by intro w0 hw0; (try dsimp only at hw0); go_simp; try rfl) ?_
          try simp only [List.set]
          refine wpT_take 1 (v := ?_) rfl rfl (by kernel_rfl) (by kernel_rfl) (by kernel_rfl) (by kernel_rfl) (fun _ _ _ h => h) hS rfl (by intro w0 hw0; (try dsimp only at hw0); go_simp; try rfl) ?_
          try simp only [List.set]
          refine wpT_take 2 (v := ?_) rfl rfl (by kernel_rfl) (by kernel_rfl) (by kernel_rfl) (by kernel_rfl) (fun _ _ _ h => h) hS rfl (by intro w0 hw0; (try dsimp only at hw0); go_simp; try rfl) ?_
          try simp only [List.set]
          refine wpT_take 3 (v := ?_) rfl rfl (by kernel_rfl) (by kernel_rfl) (by kernel_rfl) (by kernel_rfl) (fun _ _ _ h => h) hS rfl (by intro w0 hw0; (try dsimp only at hw0); go_simp; try rfl) ?_
          try simp only [List.set]
          refine wpT_one 4 rfl (by kernel_rfl) rfl rfl (fun K hK => ?_)
          go_simp
          refine hK.out _ _ ((ext_alloc _ _).keep hS) (fun hS1 => ?_)
          clear hK hS
          have hS := hS1
          clear hS1
          try clear K
          try simp only [put_some, List.set]
          have hEA : Ext w5 (w5.drew.alloc (.cells #[.string (S []), .string (S [66]), .string (S [122, 122]), .string (S [97])] 9)) := Ext.tr (ext_drewN w5 1) (ext_alloc _ _)
          have HPA := hid (HP5.out.ext hEA)
          have hfA : StrsAt (w5.drew.alloc (.cells #[.string (S []), .string (S [66]), .string (S [122, 122]), .string (S [97])] 9)) (some ⟨w5.heap.size, 0, none⟩) wordsB := rec_strs (Rec.new w5.drew _ _) wordsB_short
          refine wpT_one 5 rfl (by kernel_rfl) rfl rfl (fun K hK => ?_)
          go_simp
          have hof := of_any R (q + 2 + 1) _ 4 wordsB _ HPA.out.rd (by omega) hfA (by simp [wordsB]) (by simp [wordsB]) (fun b' o' e' => hfA.notR HPA.out.rd (by simp [wordsB]) b' o' e')
          have e4 : wordsB.length = 4 := rfl
          rw [e4] at hof
          refine hof.mono ?_
          clear hof
          rintro e wB ⟨jB, hjB, rfl, hgB, hrB⟩
          have HPB := hid (HPA.out.read hgB hrB)
          have hw4 : (nth wordsB jB).length ≤ 140737488355328 := wordsB_short.2 jB (by rw [e4]; exact hjB)
          go_wp2_with fail
          refine hK.out _ _ (HPB.out.rx.cell rfl) (fun hS1 => ?_)
          clear hK hS
          have hS := hS1
          clear hS1
          try clear K
          try simp only [put_some, List.set]
          refine wpT_one 6 rfl (by kernel_rfl) rfl rfl (fun K hK => ?_)
          go_simp
          refine hK.out _ _ hS (fun hS1 => ?_)
          clear hK hS
          have hS := hS1
          clear hS1
          try clear K
          try simp only [put_some, List.set]
          refine wpT_one 7 rfl (by kernel_rfl) rfl rfl (fun K hK => ?_)
          go_simp
          refine hK.out _ _ hS (fun hS1 => ?_)
          clear hK hS
          have hS := hS1
          clear hS1
          try clear K
          try simp only [put_some, List.set]
          obtain ⟨e1, e2', e3, e4', e5, e6⟩ := HPB.out.ow.2 k _ _ hkr (List.getElem?_eq_getElem hkb)
          have HPF := hid (HPB.out.cellsTurn (i := k * 3) (bs' := b.batches.set k ⟨nth wordsB jB, (b.batches[k]).has, (b.batches[k]).needs⟩) (cellsOf_nameD rs k _ (nth wordsB jB) hkr) (by simp) (RowsOwn.set HPB.out.ow k ⟨rfl, hw4, e3, e4', e5, e6⟩))
          have HFS := hid (HPF.out.fs hb.1.short.2 (by omega) (by simp; omega) (fun x hx => by
            rcases List.mem_or_eq_of_mem_set hx with hx | rfl
            · have := hsm.2.2 x hx; omega
            · have := hsm.2.2 _ (List.getElem_mem hkb); simp only; omega))
          obtain ⟨_, _, evk, _, hq0, hf0⟩ := own_cell HPB.out.ob (cellsOf_at rs k _ hkr).1
          simp only [Value.slice.injEq, Option.some.injEq, Addr.mk.injEq, and_true] at evk
          obtain ⟨rfl, _⟩ := evk
          clear hS HPB HPA hfA hgB hrB hEA HP5 HPF e1 e2' e3 e4' e5 e6
          refine wpT_last rfl (by kernel_rfl) (by kernel_rfl) rfl (fun K hK => ?_)
          go_simp
          refine hK.out _ _ ?_
          clear hK
          go_wp2_with fail
          go_meet
          exact ⟨HFS.out.on, HFS.out.rd.mono (by omega), HFS.out.rr, HFS.out.bk, HFS.out.hR⟩
        · by_cases hc1 : j5 = 1
          · subst hc1
            have hcl := (cellsOf_at rs k _ hkr).2.2
            obtain ⟨_, _, evk, _, hq0, hf0⟩ := own_cell HP5.out.ob hcl
            simp only [Value.slice.injEq, Option.some.injEq, Addr.mk.injEq, and_true] at evk
            obtain ⟨rfl, _⟩ := evk
            obtain ⟨e1, e2', e3, e4', e5, e6⟩ := HP5.out.ow.2 k _ _ hkr (List.getElem?_eq_getElem hkb)
            obtain ⟨al, cl, hal⟩ := own_sl e5
            rw [hal] at hq0
            go_wp2_with fail
            refine wp_region_T (fun w' => w'.cell? ⟨X, 1, none⟩ = some (.slice (some ⟨g, 0, none⟩) rs.length y2) ∧ w'.cell? ⟨g, k * 3 + 2, none⟩ = some (.slice al (b.batches[k]).needs.length cl)) 16 (by kernel_rfl) ⟨p1, hq0⟩ (fun hS => ?_)
            refine wpT_take 0 (v := ?_) rfl rfl (by kernel_rfl) (by kernel_rfl) (by kernel_rfl) (by kernel_rfl) (fun _ _ _ h => h) hS rfl (by intro w0 hw0; (try dsimp only at hw0); go_simp; try rfl) ?_
            try simp only [List.set]
            refine wpT_take 1 (v := ?_) rfl rfl (by kernel_rfl) (by kernel_rfl) (by kernel_rfl) (by kernel_rfl) (fun _ _ _ h => h) hS rfl (by intro w0 hw0; (try dsimp only at hw0); go_simp; try rfl) ?_
            try simp only [List.set]
            refine wpT_take 2 (v := ?_) rfl rfl (by kernel_rfl) (by kernel_rfl) (by kernel_rfl) (by kernel_rfl) (fun _ _ _ h => h) hS rfl (by intro w0 hw0; (try dsimp only at hw0); go_simp; try rfl) ?_
            try simp only [List.set]
            refine wpT_take 3 (v := ?_) rfl rfl (by kernel_rfl) (by kernel_rfl) (by kernel_rfl) (by kernel_rfl) (fun _ _ _ h => h) hS rfl (by intro w0 hw0; (try dsimp only at hw0); go_simp; try rfl) ?_
            try simp only [List.set]
            refine wpT_take 4 (v := ?_) rfl rfl (by kernel_rfl) (by kernel_rfl) (by kernel_rfl) (by kernel_rfl) (fun _ _ _ h => h) hS rfl (by intro w0 hw0; (try dsimp only at hw0); go_simp; try rfl) ?_
            try simp only [List.set]
            refine wpT_take 5 (v := ?_) rfl rfl (by kernel_rfl) (by kernel_rfl) (by kernel_rfl) (by kernel_rfl) (fun _ _ _ h => h) hS rfl (by intro w0 hw0; (try dsimp only at hw0); go_simp; try rfl) ?_
            try simp only [List.set]
            refine wpT_take 6 (v := ?_) rfl rfl (by kernel_rfl) (by kernel_rfl) (by kernel_rfl) (by kernel_rfl) (fun _ _ _ h => h) hS rfl (by intro w0 hw0; (try dsimp only at hw0); go_simp; try rfl) ?_
            try simp only [List.set]
            refine wpT_take 7 (v := ?_) rfl rfl (by kernel_rfl) (by kernel_rfl) (by kernel_rfl) (by kernel_rfl) (fun _ _ _ h => h) hS rfl (by intro w0 hw0; (try dsimp only at hw0); go_simp; try rfl) ?_
            try simp only [List.set]
            refine wpT_take 8 (v := ?_) rfl rfl (by kernel_rfl) (by kernel_rfl) (by kernel_rfl) (by kernel_rfl) (fun _ _ _ h => h) hS rfl (by intro w0 hw0; (try dsimp only at hw0); go_simp; try rfl) ?_
            try simp only [List.set]
            refine wpT_take 9 (v := ?_) rfl rfl (by kernel_rfl) (by kernel_rfl) (by kernel_rfl) (by kernel_rfl) (fun _ _ _ h => h) hS rfl (by intro w0 hw0; (try dsimp only at hw0); go_simp; try rfl) ?_
            try simp only [List.set]
            refine wpT_one 10 rfl (by kernel_rfl) rfl rfl (fun K hK => ?_)
            go_simp
            refine hK.out _ _ ⟨(ext_alloc _ _).keep hS.1, (ext_alloc _ _).keep hS.2⟩ (fun hS1 => ?_)
            clear hK hS
            have hS := hS1
            clear hS1
            try clear K
            try simp only [put_some, List.set]
            have hEA : Ext w5 (w5.drew.alloc (.cells #[.string (S []), .string (S [122, 122]), .string (S [107, 101, 103]), .string (S [119])] 9)) := Ext.tr (ext_drewN w5 1) (ext_alloc _ _)
            have HPA := hid (HP5.out.ext hEA)
            have hfA : StrsAt (w5.drew.alloc (.cells #[.string (S []), .string (S [122, 122]), .string (S [107, 101, 103]), .string (S [119])] 9)) (some ⟨w5.heap.size, 0, none⟩) wordsC := rec_strs (Rec.new w5.drew _ _) wordsC_short
            refine wpT_one 11 rfl (by kernel_rfl) rfl rfl (fun K hK => ?_)
            go_simp
            have hof := of_any R (q + 2 + 1) _ 4 wordsC _ HPA.out.rd (by omega) hfA (by simp [wordsC]) (by simp [wordsC]) (fun b' o' e' => hfA.notR HPA.out.rd (by simp [wordsC]) b' o' e')
            have e4 : wordsC.length = 4 := rfl
            rw [e4] at hof
            refine hof.mono ?_
            clear hof
            rintro e wB ⟨jB, hjB, rfl, hgB, hrB⟩
            have HPB := hid (HPA.out.read hgB hrB)
            have hw4 : (nth wordsC jB).length ≤ 140737488355328 := wordsC_short.2 jB (by rw [e4]; exact hjB)
            go_wp2_with fail
            obtain ⟨_, _, evB, _, hqB, hfB⟩ := own_cell HPB.out.ob hcl
            simp only [Value.slice.injEq, Option.some.injEq, Addr.mk.injEq, and_true] at evB
            obtain ⟨rfl, _⟩ := evB
            rw [hal] at hqB
            refine hK.out _ _ ⟨HPB.out.rx.cell rfl, hqB⟩ (fun hS1 => ?_)
            clear hK hS
            have hS := hS1
            clear hS1
            try clear K
            try simp only [put_some, List.set]
            refine wpT_one 12 rfl (by kernel_rfl) rfl rfl (fun K hK => ?_)
            go_simp
            refine hK.out _ _ ⟨(ext_alloc _ _).keep hS.1, (ext_alloc _ _).keep hS.2⟩ (fun hS1 => ?_)
            clear hK hS
            have hS := hS1
            clear hS1
            try clear K
            try simp only [put_some, List.set]
            have hST := one_str wB (nth wordsC jB) hw4
            have HPC := hid (HPB.out.ext (ext_alloc wB (.cells #[.string (S (nth wordsC jB))] 9)))
            obtain ⟨f1', f2', f3', f4', f5', f6'⟩ := HPC.out.ow.2 k _ _ hkr (List.getElem?_eq_getElem hkb)
            have hol : OwnL (wB.alloc (.cells #[.string (S (nth wordsC jB))] 9)) (w.heap.size + 2) (.slice al (b.batches[k]).needs.length cl) (b.batches[k]).needs := by rw [← hal]; exact f5'
            have hl8 : (b.batches[k]).needs.length ≤ 8 := by have := hsm.2.2 _ (List.getElem_mem hkb); omega
            refine wpT_one 13 rfl (by kernel_rfl) rfl rfl (fun K hK => ?_)
            refine wp_strs (L := (b.batches[k]).needs) (M := [nth wordsC jB]) _ _ rfl rfl hol rfl hST (by simp; omega) HPC.out.hz (fun v' wE h2 h3 h4 => ?_)
            obtain ⟨a', c', rfl⟩ := own_sl h2
            have hlT : ((b.batches[k]).needs ++ [nth wordsC jB]).length = (b.batches[k]).needs.length + 1 := by simp
            rw [hlT] at h2 ⊢
            have h3' : (wB.alloc (.cells #[.string (S (nth wordsC jB))] 9)).grownBy wE (rs[k]).needs.ownBlock := by rw [hal]; exact h3
            have hsn : ShortS ((b.batches[k]).needs ++ [nth wordsC jB]) := ⟨by rw [hlT]; omega, ShortL.snoc f6'.2 hw4⟩
            have HPF := hid (HPC.out.needs HD.out hkr h3' h2 hsn)
            have HFS := hid (HPF.out.fs hb.1.short.2 (by omega) (by simp; omega) (fun x hx => by
              rcases List.mem_or_eq_of_mem_set hx with hx | rfl
              · have := hsm.2.2 x hx; omega
              · have := hsm.2.2 _ (List.getElem_mem hkb)
                simp only [nthB_get hkb, hlT]; omega))
            obtain ⟨_, _, _, k4, _, k6⟩ := HPC.out.listTurn f5' h3' ((HD.out.2 _ (mem_allV (List.mem_of_getElem? hkr)).2).symm)
            obtain ⟨_, _, evE, _, hqE, hfE⟩ := own_cell k6 hcl
            simp only [Value.slice.injEq, Option.some.injEq, Addr.mk.injEq, and_true] at evE
            obtain ⟨rfl, _⟩ := evE
            rw [hal] at hqE
            refine hK.out _ _ ⟨k4.cell rfl, hqE⟩ (fun hS1 => ?_)
            clear hK hS
            have hS := hS1
            clear hS1
            try clear K
            try simp only [put_some, List.set]
            refine wpT_one 14 rfl (by kernel_rfl) rfl rfl (fun K hK => ?_)
            go_simp
            refine hK.out _ _ hS (fun hS1 => ?_)
            clear hK hS
            have hS := hS1
            clear hS1
            try clear K
            try simp only [put_some, List.set]
            refine wpT_one 15 rfl (by kernel_rfl) rfl rfl (fun K hK => ?_)
            go_simp
            refine hK.out _ _ hS (fun hS1 => ?_)
            clear hK hS
            have hS := hS1
            clear hS1
            try clear K
            try simp only [put_some, List.set]
            clear hS h2 h3 h3' h4 hST HPC HPB HPA hfA hgB hrB hEA HP5 HPF k4 k6 hol hq0 hf0 hqB hfB e1 e2' e3 e4' e5 e6 f1' f2' f3' f4' f5' f6' hcl
            refine wpT_last rfl (by kernel_rfl) (by kernel_rfl) rfl (fun K hK => ?_)
            go_simp
            refine hK.out _ _ ?_
            clear hK
            go_wp2_with fail
            go_meet
            exact ⟨HFS.out.on, HFS.out.rd.mono (by omega), HFS.out.rr, HFS.out.bk, HFS.out.hR⟩
          · by_cases hc2 : j5 = 2
            · subst hc2
              have hcl := (cellsOf_at rs k _ hkr).2.1
              obtain ⟨_, _, evk, _, hq0, hf0⟩ := own_cell HP5.out.ob hcl
              simp only [Value.slice.injEq, Option.some.injEq, Addr.mk.injEq, and_true] at evk
              obtain ⟨rfl, _⟩ := evk
              obtain ⟨e1, e2', e3, e4', e5, e6⟩ := HP5.out.ow.2 k _ _ hkr (List.getElem?_eq_getElem hkb)
              obtain ⟨al, cl, hal⟩ := own_sl e3
              rw [hal] at hq0
              go_wp2_with fail
              refine wp_region_T (fun w' => w'.cell? ⟨X, 1, none⟩ = some (.slice (some ⟨g, 0, none⟩) rs.length y2) ∧ w'.cell? ⟨g, k * 3 + 1, none⟩ = some (.slice al (b.batches[k]).has.length cl)) 16 (by kernel_rfl) ⟨p1, hq0⟩ (fun hS => ?_)
              refine wpT_take 0 (v := ?_) rfl rfl (by kernel_rfl) (by kernel_rfl) (by kernel_rfl) (by kernel_rfl) (fun _ _ _ h => h) hS rfl (by intro w0 hw0; (try dsimp only at hw0); go_simp; try rfl) ?_
              try simp only [List.set]
              refine wpT_take 1 (v := ?_) rfl rfl (by kernel_rfl) (by kernel_rfl) (by kernel_rfl) (by kernel_rfl) (fun _ _ _ h => h) hS rfl (by intro w0 hw0; (try dsimp only at hw0); go_simp; try rfl) ?_
              try simp only [List.set]
              refine wpT_take 2 (v := ?_) rfl rfl (by kernel_rfl) (by kernel_rfl) (by kernel_rfl) (by kernel_rfl) (fun _ _ _ h => h) hS rfl (by intro w0 hw0; (try dsimp only at hw0); go_simp; try rfl) ?_
              try simp only [List.set]
              refine wpT_take 3 (v := ?_) rfl rfl (by kernel_rfl) (by kernel_rfl) (by kernel_rfl) (by kernel_rfl) (fun _ _ _ h => h) hS rfl (by intro w0 hw0; (try dsimp only at hw0); go_simp; try rfl) ?_
              try simp only [List.set]
              refine wpT_take 4 (v := ?_) rfl rfl (by kernel_rfl) (by kernel_rfl) (by kernel_rfl) (by kernel_rfl) (fun _ _ _ h => h) hS rfl (by intro w0 hw0; (try dsimp only at hw0); go_simp; try rfl) ?_
              try simp only [List.set]
              refine wpT_take 5 (v := ?_) rfl rfl (by kernel_rfl) (by kernel_rfl) (by kernel_rfl) (by kernel_rfl) (fun _ _ _ h => h) hS rfl (by intro w0 hw0; (try dsimp only at hw0); go_simp; try rfl) ?_
              try simp only [List.set]
              refine wpT_take 6 (v := ?_) rfl rfl (by kernel_rfl) (by kernel_rfl) (by kernel_rfl) (by kernel_rfl) (fun _ _ _ h => h) hS rfl (by intro w0 hw0; (try dsimp only at hw0); go_simp; try rfl) ?_
              try simp only [List.set]
              refine wpT_take 7 (v := ?_) rfl rfl (by kernel_rfl) (by kernel_rfl) (by kernel_rfl) (by kernel_rfl) (fun _ _ _ h => h) hS rfl (by intro w0 hw0; (try dsimp only at hw0); go_simp; try rfl) ?_
              try simp only [List.set]
              refine wpT_take 8 (v := ?_) rfl rfl (by kernel_rfl) (by kernel_rfl) (by kernel_rfl) (by kernel_rfl) (fun _ _ _ h => h) hS rfl (by intro w0 hw0; (try dsimp only at hw0); go_simp; try rfl) ?_
              try simp only [List.set]
              refine wpT_take 9 (v := ?_) rfl rfl (by kernel_rfl) (by kernel_rfl) (by kernel_rfl) (by kernel_rfl) (fun _ _ _ h => h) hS rfl (by intro w0 hw0; (try dsimp only at hw0); go_simp; try rfl) ?_
              try simp only [List.set]
              refine wpT_one 10 rfl (by kernel_rfl) rfl rfl (fun K hK => ?_)
              go_simp
              refine hK.out _ _ ⟨(ext_alloc _ _).keep hS.1, (ext_alloc _ _).keep hS.2⟩ (fun hS1 => ?_)
              clear hK hS
              have hS := hS1
              clear hS1
              try clear K
              try simp only [put_some, List.set]
              have hEA : Ext w5 (w5.drew.alloc (.cells #[.string (S []), .string (S [122, 122]), .string (S [107, 101, 103]), .string (S [119])] 9)) := Ext.tr (ext_drewN w5 1) (ext_alloc _ _)
              have HPA := hid (HP5.out.ext hEA)
              have hfA : StrsAt (w5.drew.alloc (.cells #[.string (S []), .string (S [122, 122]), .string (S [107, 101, 103]), .string (S [119])] 9)) (some ⟨w5.heap.size, 0, none⟩) wordsC := rec_strs (Rec.new w5.drew _ _) wordsC_short
              refine wpT_one 11 rfl (by kernel_rfl) rfl rfl (fun K hK => ?_)
              go_simp
              have hof := of_any R (q + 2 + 1) _ 4 wordsC _ HPA.out.rd (by omega) hfA (by simp [wordsC]) (by simp [wordsC]) (fun b' o' e' => hfA.notR HPA.out.rd (by simp [wordsC]) b' o' e')
              have e4 : wordsC.length = 4 := rfl
              rw [e4] at hof
              refine hof.mono ?_
              clear hof
              rintro e wB ⟨jB, hjB, rfl, hgB, hrB⟩
              have HPB := hid (HPA.out.read hgB hrB)
              have hw4 : (nth wordsC jB).length ≤ 140737488355328 := wordsC_short.2 jB (by rw [e4]; exact hjB)
              go_wp2_with fail
              obtain ⟨_, _, evB, _, hqB, hfB⟩ := own_cell HPB.out.ob hcl
              simp only [Value.slice.injEq, Option.some.injEq, Addr.mk.injEq, and_true] at evB
              obtain ⟨rfl, _⟩ := evB
              rw [hal] at hqB
              refine hK.out _ _ ⟨HPB.out.rx.cell rfl, hqB⟩ (fun hS1 => ?_)
              clear hK hS
              have hS := hS1
              clear hS1
              try clear K
              try simp only [put_some, List.set]
              refine wpT_one 12 rfl (by kernel_rfl) rfl rfl (fun K hK => ?_)
              go_simp
              refine hK.out _ _ ⟨(ext_alloc _ _).keep hS.1, (ext_alloc _ _).keep hS.2⟩ (fun hS1 => ?_)
              clear hK hS
              have hS := hS1
              clear hS1
              try clear K
              try simp only [put_some, List.set]
              have hST := one_str wB (nth wordsC jB) hw4
              have HPC := hid (HPB.out.ext (ext_alloc wB (.cells #[.string (S (nth wordsC jB))] 9)))
              obtain ⟨f1', f2', f3', f4', f5', f6'⟩ := HPC.out.ow.2 k _ _ hkr (List.getElem?_eq_getElem hkb)
              have hol : OwnL (wB.alloc (.cells #[.string (S (nth wordsC jB))] 9)) (w.heap.size + 2) (.slice al (b.batches[k]).has.length cl) (b.batches[k]).has := by rw [← hal]; exact f3'
              have hl8 : (b.batches[k]).has.length ≤ 8 := by have := hsm.2.2 _ (List.getElem_mem hkb); omega
              refine wpT_one 13 rfl (by kernel_rfl) rfl rfl (fun K hK => ?_)
              refine wp_strs (L := (b.batches[k]).has) (M := [nth wordsC jB]) _ _ rfl rfl hol rfl hST (by simp; omega) HPC.out.hz (fun v' wE h2 h3 h4 => ?_)
              obtain ⟨a', c', rfl⟩ := own_sl h2
              have hlT : ((b.batches[k]).has ++ [nth wordsC jB]).length = (b.batches[k]).has.length + 1 := by simp
              rw [hlT] at h2 ⊢
              have h3' : (wB.alloc (.cells #[.string (S (nth wordsC jB))] 9)).grownBy wE (rs[k]).has.ownBlock := by rw [hal]; exact h3
              have hsn : ShortS ((b.batches[k]).has ++ [nth wordsC jB]) := ⟨by rw [hlT]; omega, ShortL.snoc f4'.2 hw4⟩
              have HPF := hid (HPC.out.hasGrow HD.out hkr h3' h2 hsn)
              have HFS := hid (HPF.out.fs hb.1.short.2 (by omega) (by simp; omega) (fun x hx => by
                rcases List.mem_or_eq_of_mem_set hx with hx | rfl
                · have := hsm.2.2 x hx; omega
                · have := hsm.2.2 _ (List.getElem_mem hkb)
                  simp only [nthB_get hkb, hlT]; omega))
              obtain ⟨_, _, _, k4, _, k6⟩ := HPC.out.listTurn f3' h3' ((HD.out.2 _ (mem_allV (List.mem_of_getElem? hkr)).1).symm)
              obtain ⟨_, _, evE, _, hqE, hfE⟩ := own_cell k6 hcl
              simp only [Value.slice.injEq, Option.some.injEq, Addr.mk.injEq, and_true] at evE
              obtain ⟨rfl, _⟩ := evE
              rw [hal] at hqE
              refine hK.out _ _ ⟨k4.cell rfl, hqE⟩ (fun hS1 => ?_)
              clear hK hS
              have hS := hS1
              clear hS1
              try clear K
              try simp only [put_some, List.set]
              refine wpT_one 14 rfl (by kernel_rfl) rfl rfl (fun K hK => ?_)
              go_simp
              refine hK.out _ _ hS (fun hS1 => ?_)
              clear hK hS
              have hS := hS1
              clear hS1
              try clear K
              try simp only [put_some, List.set]
              refine wpT_one 15 rfl (by kernel_rfl) rfl rfl (fun K hK => ?_)
              go_simp
              refine hK.out _ _ hS (fun hS1 => ?_)
              clear hK hS
              have hS := hS1
              clear hS1
              try clear K
              try simp only [put_some, List.set]
              clear hS h2 h3 h3' h4 hST HPC HPB HPA hfA hgB hrB hEA HP5 HPF k4 k6 hol hq0 hf0 hqB hfB e1 e2' e3 e4' e5 e6 f1' f2' f3' f4' f5' f6' hcl
              refine wpT_last rfl (by kernel_rfl) (by kernel_rfl) rfl (fun K hK => ?_)
              go_simp
              refine hK.out _ _ ?_
              clear hK
              go_wp2_with fail
              go_meet
              exact ⟨HFS.out.on, HFS.out.rd.mono (by omega), HFS.out.rr, HFS.out.bk, HFS.out.hR⟩
            · by_cases hc3 : j5 = 3
              · subst hc3
                obtain ⟨e1, e2', e3, e4', e5, e6⟩ := HP5.out.ow.2 k _ _ hkr (List.getElem?_eq_getElem hkb)
                obtain ⟨al1, cl1, hal1⟩ := own_sl e3
                obtain ⟨al2, cl2, hal2⟩ := own_sl e5
                have hcl := cellsOf_at rs k _ hkr
                obtain ⟨_, _, ev0, _, m0, _⟩ := own_cell HP5.out.ob hcl.1
                obtain ⟨_, _, ev1, _, m1, _⟩ := own_cell HP5.out.ob hcl.2.1
                obtain ⟨_, _, ev2, _, m2, _⟩ := own_cell HP5.out.ob hcl.2.2
                simp only [Value.slice.injEq, Option.some.injEq, Addr.mk.injEq, and_true] at ev0 ev1 ev2
                have eg0 := ev0.1
                have eg1 := ev1.1
                have eg2 := ev2.1
                clear ev0 ev1 ev2
                subst eg0
                subst eg1
                subst eg2
                rw [e1] at m0
                rw [hal1] at m1
                rw [hal2] at m2
                have hrk : rs[k] = ⟨(b.batches[k]).name, .slice al1 (b.batches[k]).has.length cl1, .slice al2 (b.batches[k]).needs.length cl2⟩ := by
                  rw [← hal1, ← hal2, ← e1]
                go_wp2_with fail
                refine wp_region_T (fun w' => w'.cell? ⟨X, 1, none⟩ = some (.slice (some ⟨g, 0, none⟩) rs.length y2) ) 10 (by kernel_rfl) p1 (fun hS => ?_)
                refine wpT_take 0 (v := ?_) rfl rfl (by kernel_rfl) (by kernel_rfl) (by kernel_rfl) (by kernel_rfl) (fun _ _ _ h => h) hS rfl (by intro w0 hw0; (try dsimp only at hw0); go_simp; try rfl) ?_
                try simp only [List.set]
                refine wpT_take 1 (v := ?_) rfl rfl (by kernel_rfl) (by kernel_rfl) (by kernel_rfl) (by kernel_rfl) (fun _ _ _ h => h) hS rfl (by intro w0 hw0; (try dsimp only at hw0); go_simp; try rfl) ?_
                try simp only [List.set]
                refine wpT_take 2 (v := ?_) rfl rfl (by kernel_rfl) (by kernel_rfl) (by kernel_rfl) (by kernel_rfl) (fun _ _ _ h => h) hS rfl (by intro w0 hw0; (try dsimp only at hw0); go_simp; try rfl) ?_
                try simp only [List.set]
                refine wpT_take 3 (v := ?_) rfl rfl (by kernel_rfl) (by kernel_rfl) (by kernel_rfl) (by kernel_rfl) (fun _ _ _ h => h) hS rfl (by intro w0 hw0; (try dsimp only at hw0); go_simp; try rfl) ?_
                try simp only [List.set]
                refine wpT_take 4 (v := ?_) rfl rfl (by kernel_rfl) (by kernel_rfl) (by kernel_rfl) (by kernel_rfl) (fun _ _ _ h => h) hS rfl (by intro w0 hw0; (try dsimp only at hw0); go_simp; try rfl) ?_
                try simp only [List.set]
                refine wpT_take 5 (v := ?_) rfl rfl (by kernel_rfl) (by kernel_rfl) (by kernel_rfl) (by kernel_rfl) (fun _ _ _ h => h) hS rfl (by intro w0 hw0; (try dsimp only at hw0); go_simp; try rfl) ?_
                try simp only [List.set]
                refine wpT_one 6 rfl (by kernel_rfl) rfl rfl (fun K hK => ?_)
                go_simp
                refine hK.out _ _ hS (fun hS1 => ?_)
                clear hK hS
                have hS := hS1
                clear hS1
                try clear K
                try simp only [put_some, List.set]
                refine wpT_one 7 rfl (by kernel_rfl) rfl rfl (fun K hK => ?_)
                go_simp
                refine hK.out _ _ ((ext_alloc _ _).keep hS) (fun hS1 => ?_)
                clear hK hS
                have hS := hS1
                clear hS1
                try clear K
                try simp only [put_some, List.set]
                have hEA : Ext w5 ((w5.alloc (.cells #[.string (S (b.batches[k]).name), .slice al1 (b.batches[k]).has.length cl1, .slice al2 (b.batches[k]).needs.length cl2] 41)).drew) := Ext.tr (ext_alloc _ _) (ext_drewN _ 1)
                have HPA := hid (HP5.out.ext hEA)
                have hRow : RowOwn w5 (w.heap.size + 2) ⟨(b.batches[k]).name, .slice al1 (b.batches[k]).has.length cl1, .slice al2 (b.batches[k]).needs.length cl2⟩ b.batches[k] := by rw [← hrk]; exact ⟨e1, e2', e3, e4', e5, e6⟩
                refine wpT_one 8 rfl (by kernel_rfl) rfl rfl (fun K hK => ?_)
                refine wp_row (rs := rs) (base := w.heap.size + 2) (r := ⟨(b.batches[k]).name, .slice al1 (b.batches[k]).has.length cl1, .slice al2 (b.batches[k]).needs.length cl2⟩) _ _ rfl rfl HPA.out.ob rfl (fun j u hj => by obtain ⟨ad, e, hc⟩ := one_cells w5 41 ⟨(b.batches[k]).name, .slice al1 (b.batches[k]).has.length cl1, .slice al2 (b.batches[k]).needs.length cl2⟩ j u hj; exact ⟨ad, e, (ext_drewN _ 1).keep hc⟩) (row_one hRow) (by omega) HPA.out.hz (fun v' wE h2 h3 h4 => ?_)
                obtain ⟨a', c', rfl⟩ := own_shape3 h2
                have hlT : (rs ++ [(⟨(b.batches[k]).name, .slice al1 (b.batches[k]).has.length cl1, .slice al2 (b.batches[k]).needs.length cl2⟩ : Row)]).length = rs.length + 1 := by simp
                rw [hlT] at h2 ⊢
                have HPF := hid (HPA.out.row (hRow.keep (gb_none hEA) (fun k' c' e' => by cases e')) h3 (by rw [hlT]; exact h2))
                have HFS := hid (HPF.out.fs hb.1.short.2 (by omega) (by simp; omega) (fun x hx => by
                  rw [List.mem_append, List.mem_singleton] at hx
                  rcases hx with hx | rfl
                  · have := hsm.2.2 x hx; omega
                  · have := hsm.2.2 _ (List.getElem_mem hkb); omega))
                have rxE := HPA.out.rx.kept h3 (HPA.out.rx.not_row rfl HPA.out.ob)
                have hqE := rxE.cell (i := 1) rfl
                have hfE := rxE.frozen 1
                refine hK.out _ _ hqE (fun hS1 => ?_)
                clear hK hS
                have hS := hS1
                clear hS1
                try clear K
                try simp only [put_some, List.set]
                refine wpT_take 9 (v := ?_) rfl rfl (by kernel_rfl) (by kernel_rfl) (by kernel_rfl) (by kernel_rfl) (fun _ _ _ h => h) hS rfl (by intro w0 hw0; (try dsimp only at hw0); go_simp; try rfl) ?_
                try simp only [List.set]
                clear hS h2 h3 h4 HPA hEA HP5 HPF hRow rxE e1 e2' e3 e4' e5 e6 hcl m0 m1 m2 hal1 hal2 hrk
                refine wpT_last rfl (by kernel_rfl) (by kernel_rfl) rfl (fun K hK => ?_)
                go_simp
                refine hK.out _ _ ?_
                clear hK
                go_wp2_with fail
                go_meet
                exact ⟨HFS.out.on, HFS.out.rd.mono (by omega), HFS.out.rr, HFS.out.bk, HFS.out.hR⟩
              · have n0 : ((j5 : Int) == 0) = false := by simp; omega
                have n1 : ((j5 : Int) == 1) = false := by simp; omega
                have n2 : ((j5 : Int) == 2) = false := by simp; omega
                have n3 : ((j5 : Int) == 3) = false := by simp; omega
                go_wp2_with fail
                refine (pick_any R (q + 2 + 1) 2 _ HP5.out.rd (by omega) (by omega) (by omega)).mono ?_
                rintro e w6 ⟨j2, rfl, hj2, hg6, hr6⟩
                have HP6 := hid (HP5.out.read hg6 hr6)
                clear hg6 hr6 HP5 p1
                go_wp2_with fail
                go_loopw [8] (fun i wr => ∃ (m : Nat) (bs' : List Batch) (rs' : List Row) (v2' : Value), m ≤ 7 ∧ i = .int .i64 m ∧ PS w wr R (q + 2 + 1 + 1) X b.things bs' rs' (.slice x1 b.things.length y1) v2' ∧ rs'.length = rs.length + m ∧ bs'.length ≤ 7 ∧ Small9 bs') (fun i _ => 7 - (intOf i).toNat)
                case atStart => exact ⟨0, b.batches, rs, _, by omega, rfl, HP6.out, by simp, by omega, fun x hx => by have := hsm.2.2 x hx; omega⟩
                case round =>
                  clear HP6
                  obtain ⟨m, bs', rs', v2', hm, rfl, hps, hrl, hbl, hsb⟩ := hrel
                  have HPm := hid hps
                  clear hps
                  obtain ⟨xa, xc, rfl⟩ := own_shape3 HPm.out.ob
                  have p1 := HPm.out.rx.cell (i := 1) rfl
                  have HRL := hid hrl
                  clear hrl
                  by_cases hlt : rs'.length < 5 + j2
                  · have hm6 : m ≤ 6 := by have := HRL.out; omega
                    have hlti : (rs'.length : Int) < 5 + (j2 : Int) := by omega
                    go_wp2_with fail
                    refine wp_region_T (fun w' => w'.cell? ⟨X, 1, none⟩ = some (.slice xa rs'.length xc)) 9 (by kernel_rfl) p1 (fun hS => ?_)
                    refine wpT_take 0 (v := ?_) rfl rfl (by kernel_rfl) (by kernel_rfl) (by kernel_rfl) (by kernel_rfl) (fun _ _ _ h => h) hS rfl (by intro w0 hw0; (try dsimp only at hw0); go_simp; try rfl) ?_
                    try simp only [List.set]
                    refine wpT_take 1 (v := ?_) rfl rfl (by kernel_rfl) (by kernel_rfl) (by kernel_rfl) (by kernel_rfl) (fun _ _ _ h => h) hS rfl (by intro w0 hw0; (try dsimp only at hw0); go_simp; try rfl) ?_
                    try simp only [List.set]
                    refine wpT_take 2 (v := ?_) rfl rfl (by kernel_rfl) (by kernel_rfl) (by kernel_rfl) (by kernel_rfl) (fun _ _ _ h => h) hS rfl (by intro w0 hw0; (try dsimp only at hw0); go_simp; try rfl) ?_
                    try simp only [List.set]
                    refine wpT_one 3 rfl (by kernel_rfl) rfl rfl (fun K hK => ?_)
                    go_simp
                    refine (l5Dec_any m (by omega) _).mono ?_
                    rintro e w7 ⟨cd, rfl, hE7⟩
                    go_wp2_with fail
                    refine hK.out _ _ (hE7.keep hS) (fun hS1 => ?_)
                    clear hK hS
                    have hS := hS1
                    clear hS1
                    try clear K
                    try simp only [put_some, List.set]
                    refine wpT_take 4 (v := .string (S [122, cd])) rfl rfl (by kernel_rfl) (by kernel_rfl) (by kernel_rfl) (by kernel_rfl) (fun _ _ _ h => h) hS rfl (by intro w0 hw0; (try dsimp only at hw0); go_simp; exact S_cons 122 [cd]) ?_
                    try simp only [List.set]
                    refine wpT_take 5 (v := ?_) rfl rfl (by kernel_rfl) (by kernel_rfl) (by kernel_rfl) (by kernel_rfl) (fun _ _ _ h => h) hS rfl (by intro w0 hw0; (try dsimp only at hw0); go_simp; try rfl) ?_
                    try simp only [List.set]
                    refine wpT_one 6 rfl (by kernel_rfl) rfl rfl (fun K hK => ?_)
                    go_simp
                    refine hK.out _ _ ((ext_alloc _ _).keep hS) (fun hS1 => ?_)
                    clear hK hS
                    have hS := hS1
                    clear hS1
                    try clear K
                    try simp only [put_some, List.set]
                    have hE8 : Ext wr (w7.alloc (.cells #[.string (S [122, cd]), .slice none 0 0, .slice none 0 0] 41)) := Ext.tr (Ext.tr (ext_drewN wr 1) hE7) (ext_alloc _ _)
                    have HP8 := hid (HPm.out.ext hE8)
                    have hRow : RowOwn (w7.alloc (.cells #[.string (S [122, cd]), .slice none 0 0, .slice none 0 0] 41)) (w.heap.size + 2) ⟨[122, cd], .slice none 0 0, .slice none 0 0⟩ ⟨[122, cd], [], []⟩ := ⟨rfl, by simp, World.ownsRow_nil _ _ _ _, ⟨by simp, ShortL.nil⟩, World.ownsRow_nil _ _ _ _, ⟨by simp, ShortL.nil⟩⟩
                    refine wpT_one 7 rfl (by kernel_rfl) rfl rfl (fun K hK => ?_)
                    refine wp_row (rs := rs') (base := w.heap.size + 2) (r := ⟨[122, cd], .slice none 0 0, .slice none 0 0⟩) _ _ rfl rfl HP8.out.ob rfl (one_cells w7 41 ⟨[122, cd], .slice none 0 0, .slice none 0 0⟩) (row_one hRow) (by omega) HP8.out.hz (fun v' wE h2 h3 h4 => ?_)
                    obtain ⟨a', c', rfl⟩ := own_shape3 h2
                    have hlT : (rs' ++ [(⟨[122, cd], .slice none 0 0, .slice none 0 0⟩ : Row)]).length = rs'.length + 1 := by simp
                    rw [hlT] at h2 ⊢
                    have HPF := hid (HP8.out.row hRow h3 (by rw [hlT]; exact h2))
                    have rxE := HP8.out.rx.kept h3 (HP8.out.rx.not_row rfl HP8.out.ob)
                    have hqE := rxE.cell (i := 1) rfl
                    have hfE := rxE.frozen 1
                    have hbr : bs'.length = rs'.length := HP8.out.ow.1.symm
                    refine hK.out _ _ hqE (fun hS1 => ?_)
                    clear hK hS
                    have hS := hS1
                    clear hS1
                    try clear K
                    try simp only [put_some, List.set]
                    refine wpT_take 8 (v := ?_) rfl rfl (by kernel_rfl) (by kernel_rfl) (by kernel_rfl) (by kernel_rfl) (fun _ _ _ h => h) hS rfl (by intro w0 hw0; (try dsimp only at hw0); go_simp; try rfl) ?_
                    try simp only [List.set]
                    have HBR := hid hbr
                    clear hS h2 h3 h4 HP8 hE8 HPm hRow rxE hE7 p1 hbr
                    refine wpT_last rfl (by kernel_rfl) (by kernel_rfl) rfl (fun K hK => ?_)
                    go_simp
                    refine hK.out _ _ ?_
                    clear hK
                    go_wp2
                    go_roundw
                    case rel => exact ⟨m + 1, bs' ++ [⟨[122, cd], [], []⟩], rs' ++ [⟨[122, cd], .slice none 0 0, .slice none 0 0⟩], _, by omega, by go_num, HPF.out, by rw [hlT, HRL.out]; omega, by rw [List.length_append, HBR.out]; simp; omega, fun x hx => by
                      rw [List.mem_append, List.mem_singleton] at hx
                      rcases hx with hx | rfl
                      · exact hsb x hx
                      · simp⟩
                    case measure => simp [intOf]; omega
                  · have hlti : ¬ ((rs'.length : Int) < 5 + (j2 : Int)) := by omega
                    go_wp2_with fail
                    go_meet
                    exact ((HPm.out.mono (by omega)).fs hb.1.short.2 (by omega) hbl hsb)
      case rest =>
        have HFS := hid hcut
        clear hcut HP5
        obtain ⟨bF, z1, z2, d1, d2, hrx, hbk, hsmF⟩ := HFS.out.bk
        have q0 := hrx.cell (i := 0) rfl
        have q1 := hrx.cell (i := 1) rfl
        have t0 := HFS.out.rr.cell (i := 0) rfl
        have t1 := HFS.out.rr.cell (i := 1) rfl
        have f0 := HFS.out.rr.frozen 0
        have f1 := HFS.out.rr.frozen 1
        have HBKF := hid hbk
        have HSMF := hid hsmF
        clear hbk hsmF
        go_wp2
        have r1 := HFS.out.rr.set 0 (.slice z1 bF.things.length d1)
        have hR := HFS.out.hR
        have HA : w.grownBy ((wc.setCell ⟨w.heap.size + 1, 0, none⟩ (.slice z1 bF.things.length d1)).setCell ⟨w.heap.size + 1, 1, none⟩ (.slice z2 bF.batches.length d2)) (some R) := on_grown (on_grown HFS.out.on (gb_store _ _ _ _) (fun g hg => by cases hg; omega)) (gb_store _ _ _ _) (fun g hg => by cases hg; omega)
        have HB : Rd ((wc.setCell ⟨w.heap.size + 1, 0, none⟩ (.slice z1 bF.things.length d1)).setCell ⟨w.heap.size + 1, 1, none⟩ (.slice z2 bF.batches.length d2)) R (q + 10) := ((HFS.out.rd.gb (gb_store _ _ _ _) (fun g hg => by cases hg; omega)).gb (gb_store _ _ _ _) (fun g hg => by cases hg; omega)).mono (by omega)
        have HC : BookAt ((wc.setCell ⟨w.heap.size + 1, 0, none⟩ (.slice z1 bF.things.length d1)).setCell ⟨w.heap.size + 1, 1, none⟩ (.slice z2 bF.batches.length d2)) z1 z2 bF := (HBKF.out.box HFS.out.rr noStr2).box r1 noStr2
        refine bodyPost_ret (v := .agg #[.slice z1 bF.things.length d1, .slice z2 bF.batches.length d2]) (by simp [results, Try.results63, go_sem, t0, t1]) rfl (by
          refine ⟨bF, z1, z2, ?_⟩
          first
            | exact ⟨d1, d2, rfl, HA, HB, HC, HSMF.out⟩
            | exact ⟨⟨d1, d2, rfl⟩, HA, HB, HC, HSMF.out⟩)
    · have p0 := HP1.out.rx.cell (i := 0) rfl
      go_wp2_with fail
      refine wp_region_T (fun w' => w'.cell? ⟨X, 0, none⟩ = some (.slice x1 b.things.length y1)) 8 (by kernel_rfl) p0 (fun hS => ?_)
      refine wpT_take 0 (v := ?_) rfl rfl (by kernel_rfl) (by kernel_rfl) (by kernel_rfl) (by kernel_rfl) (fun _ _ _ h => h) hS rfl (by intro w0 hw0; (try dsimp only at hw0); go_simp; try rfl) ?_
      try simp only [List.set]
      refine wpT_take 1 (v := ?_) rfl rfl (by kernel_rfl) (by kernel_rfl) (by kernel_rfl) (by kernel_rfl) (fun _ _ _ h => h) hS rfl (by intro w0 hw0; (try dsimp only at hw0); go_simp; try rfl) ?_
      try simp only [List.set]
      refine wpT_take 2 (v := ?_) rfl rfl (by kernel_rfl) (by kernel_rfl) (by kernel_rfl) (by kernel_rfl) (fun _ _ _ h => h) hS rfl (by intro w0 hw0; (try dsimp only at hw0); go_simp; try rfl) ?_
      try simp only [List.set]
      refine wpT_one 3 rfl (by kernel_rfl) rfl rfl (fun K hK => ?_)
      go_simp
      refine hK.out _ _ ((ext_alloc _ _).keep hS) (fun hS1 => ?_)
      clear hK hS
      have hS := hS1
      clear hS1
      try clear K
      try simp only [put_some, List.set]
      have hEA : Ext wc (wc.drew.alloc (.cells #[.string (S []), .string (S [65]), .string (S [97]), .string (S [122, 122])] 9)) := Ext.tr (ext_drewN wc 1) (ext_alloc _ _)
      have HPA := hid (HP1.out.ext hEA)
      have hfA : StrsAt (wc.drew.alloc (.cells #[.string (S []), .string (S [65]), .string (S [97]), .string (S [122, 122])] 9)) (some ⟨wc.heap.size, 0, none⟩) wordsA := rec_strs (Rec.new wc.drew _ _) wordsA_short
      refine wpT_one 4 rfl (by kernel_rfl) rfl rfl (fun K hK => ?_)
      go_simp
      have hof := of_any R (q + 1) _ 4 wordsA _ HPA.out.rd (by omega) hfA (by simp [wordsA]) (by simp [wordsA]) (fun b' o' e' => hfA.notR HPA.out.rd (by simp [wordsA]) b' o' e')
      have e4 : wordsA.length = 4 := rfl
      rw [e4] at hof
      refine hof.mono ?_
      clear hof
      rintro e wB ⟨jB, hjB, rfl, hgB, hrB⟩
      have HPB := hid (HPA.out.read hgB hrB)
      go_wp2_with fail
      refine hK.out _ _ (HPB.out.rx.cell rfl) (fun hS1 => ?_)
      clear hK hS
      have hS := hS1
      clear hS1
      try clear K
      try simp only [put_some, List.set]
      refine wpT_one 5 rfl (by kernel_rfl) rfl rfl (fun K hK => ?_)
      go_simp
      refine hK.out _ _ ((ext_alloc _ _).keep hS) (fun hS1 => ?_)
      clear hK hS
      have hS := hS1
      clear hS1
      try clear K
      try simp only [put_some, List.set]
      have hw4 : (nth wordsA jB).length ≤ 140737488355328 := wordsA_short.2 jB (by rw [e4]; exact hjB)
      have hST := one_str wB (nth wordsA jB) hw4
      have HPC := hid (HPB.out.ext (ext_alloc wB (.cells #[.string (S (nth wordsA jB))] 9)))
      refine wpT_one 6 rfl (by kernel_rfl) rfl rfl (fun K hK => ?_)
      refine wp_strs (L := b.things) (M := [nth wordsA jB]) _ _ rfl rfl HPC.out.o1 rfl hST (by simp; omega) HPC.out.hz (fun v' wE h2 h3 h4 => ?_)
      obtain ⟨a', c', rfl⟩ := own_sl h2
      have hlT : (b.things ++ [nth wordsA jB]).length = b.things.length + 1 := by simp
      rw [hlT] at h2 ⊢
      have rxE := HPC.out.rx.kept h3 (HPC.out.rx.not_row rfl HPC.out.o1)
      have hq0 := rxE.cell (i := 0) rfl
      have hf0 := rxE.frozen 0
      have HPF := hid (HPC.out.thing HD.out.2 h3 h2)
      have HFS := hid (HPF.out.fs (hb.1.short.2.snoc hw4) (by rw [hlT]; omega) (by omega) (fun x hx => by have := hsm.2.2 x hx; omega))
      refine hK.out _ _ hq0 (fun hS1 => ?_)
      clear hK hS
      have hS := hS1
      clear hS1
      try clear K
      try simp only [put_some, List.set]
      refine wpT_take 7 (v := ?_) rfl rfl (by kernel_rfl) (by kernel_rfl) (by kernel_rfl) (by kernel_rfl) (fun _ _ _ h => h) hS rfl (by intro w0 hw0; (try dsimp only at hw0); go_simp; try rfl) ?_
      try simp only [List.set]
      clear hS h2 h3 h4 hST HPC HPB HPA hfA hgB hrB hEA HP1 rxE HPF
      refine wpT_last rfl (by kernel_rfl) (by kernel_rfl) rfl (fun K hK => ?_)
      go_simp
      refine hK.out _ _ ?_
      clear hK hq0 hf0
      generalize wE.setCell ⟨X, 0, none⟩ (.slice a' (b.things.length + 1) c') = wF at HFS ⊢
      obtain ⟨bF, z1, z2, d1, d2, hrx, hbk, hsmF⟩ := HFS.out.bk
      have q0 := hrx.cell (i := 0) rfl
      have q1 := hrx.cell (i := 1) rfl
      have t0 := HFS.out.rr.cell (i := 0) rfl
      have t1 := HFS.out.rr.cell (i := 1) rfl
      have f0 := HFS.out.rr.frozen 0
      have f1 := HFS.out.rr.frozen 1
      have HBKF := hid hbk
      have HSMF := hid hsmF
      clear hbk hsmF
      go_wp2
      have r1 := HFS.out.rr.set 0 (.slice z1 bF.things.length d1)
      have hR := HFS.out.hR
      have HA : w.grownBy ((wF.setCell ⟨w.heap.size + 1, 0, none⟩ (.slice z1 bF.things.length d1)).setCell ⟨w.heap.size + 1, 1, none⟩ (.slice z2 bF.batches.length d2)) (some R) := on_grown (on_grown HFS.out.on (gb_store _ _ _ _) (fun g hg => by cases hg; omega)) (gb_store _ _ _ _) (fun g hg => by cases hg; omega)
      have HB : Rd ((wF.setCell ⟨w.heap.size + 1, 0, none⟩ (.slice z1 bF.things.length d1)).setCell ⟨w.heap.size + 1, 1, none⟩ (.slice z2 bF.batches.length d2)) R (q + 10) := ((HFS.out.rd.gb (gb_store _ _ _ _) (fun g hg => by cases hg; omega)).gb (gb_store _ _ _ _) (fun g hg => by cases hg; omega)).mono (by omega)
      have HC : BookAt ((wF.setCell ⟨w.heap.size + 1, 0, none⟩ (.slice z1 bF.things.length d1)).setCell ⟨w.heap.size + 1, 1, none⟩ (.slice z2 bF.batches.length d2)) z1 z2 bF := (HBKF.out.box HFS.out.rr noStr2).box r1 noStr2
      refine bodyPost_ret (v := .agg #[.slice z1 bF.things.length d1, .slice z2 bF.batches.length d2]) (by simp [results, Try.results63, go_sem, t0, t1]) rfl (by
        refine ⟨bF, z1, z2, ?_⟩
        first
          | exact ⟨d1, d2, rfl, HA, HB, HC, HSMF.out⟩
          | exact ⟨⟨d1, d2, rfl⟩, HA, HB, HC, HSMF.out⟩)
end Go.Proofs.Ytdafpnpfcmgfcaa
namespace Go.Proofs.Ytdafpnpfcmgfcaa
open Go.RowKit
attribute [local go_sem] S_toList S_size S_get

/-- Two stores into one box of slices. -/
theorem one_box {w wc : World} {RB R q : Nat} {r1 r2 : Value} {x1 x2 : Option Addr} {y1 y2 n1 n2 : Nat} {b : Book} (hE : w.grownBy wc (some R)) (hrd : Rd wc R q) (hR : Rec wc RB 26 [r1, r2]) (hr : NoStr [r1, r2]) (h2 : w.heap.size ≤ RB) (hlt : R < RB) (hb : BookAt wc x1 x2 b) :
    w.grownBy ((wc.setCell ⟨RB, 0, none⟩ (.slice x1 n1 y1)).setCell ⟨RB, 1, none⟩ (.slice x2 n2 y2)) (some R) ∧ Rd ((wc.setCell ⟨RB, 0, none⟩ (.slice x1 n1 y1)).setCell ⟨RB, 1, none⟩ (.slice x2 n2 y2)) R q ∧ BookAt ((wc.setCell ⟨RB, 0, none⟩ (.slice x1 n1 y1)).setCell ⟨RB, 1, none⟩ (.slice x2 n2 y2)) x1 x2 b := by
  refine ⟨on_grown (on_grown hE (gb_store _ _ _ _) (fun g hg => by cases hg; omega)) (gb_store _ _ _ _) (fun g hg => by cases hg; omega), (hrd.gb (gb_store _ _ _ _) (fun g hg => by cases hg; omega)).gb (gb_store _ _ _ _) (fun g hg => by cases hg; omega), ?_⟩
  have hr1 : NoStr [Value.slice x1 n1 y1, r2] := by
    intro v hv s e
    simp only [List.mem_cons, List.not_mem_nil, or_false] at hv
    rcases hv with rfl | rfl
    · cases e
    · exact hr _ (by simp) s e
  exact (hb.box hR hr).box (hR.set 0 _) hr1

set_option maxRecDepth 100000 in
set_option maxHeartbeats 1000000 in
theorem l5Any_any (R q : Nat) (w : World) (h : Rd w R q) (hq : q ≤ 600000) :
    Calls Try.prog 33 #[.pointer (some ⟨R, 0, none⟩)] w fun e w' =>
      ∃ (b : Book) (x1 x2 : Option Addr) (y1 y2 : Nat), e = .returned (.agg #[.slice x1 b.things.length y1, .slice x2 b.batches.length y2]) ∧ w.grownBy w' (some R) ∧ Rd w' R (q + 3100) ∧ BookAt w' x1 x2 b ∧ SmB9 b := by
  have hlt0 := h.lt
  go_enter Try.func33, Try.ntmps33
  go_wp2_with fail
  refine (l5Book_any R q _ (h.ext (ext_alloc _ _)) (by omega)).mono ?_
  rintro e w1 ⟨b, x1, x2, y1, y2, rfl, hg1, hr1, hb1, hsm⟩
  have hz1 := hg1.size
  simp at hz1
  have HG1 : Hid (w.grownBy (w1.alloc (.cells #[.slice x1 b.things.length y1, .slice x2 b.batches.length y2] 26)) (some R)) := gb_tr (gb_tr (gb_ext (ext_alloc _ _) _) hg1) (gb_ext (ext_alloc _ _) _)
  have HRd := hid (hr1.ext (ext_alloc w1 (.cells #[.slice x1 b.things.length y1, .slice x2 b.batches.length y2] 26)))
  have HRR : Hid (Rec (w1.alloc (.cells #[.slice x1 b.things.length y1, .slice x2 b.batches.length y2] 26)) w.heap.size 26 [.slice none 0 0, .slice none 0 0]) := ((Rec.new w _ _).kept hg1 (by simp; omega)).ext (ext_alloc _ _)
  have HRX : Hid (Rec (w1.alloc (.cells #[.slice x1 b.things.length y1, .slice x2 b.batches.length y2] 26)) w1.heap.size 26 [.slice x1 b.things.length y1, .slice x2 b.batches.length y2]) := Rec.new w1 _ _
  have HB := hid (hb1.ext (ext_alloc w1 (.cells #[.slice x1 b.things.length y1, .slice x2 b.batches.length y2] 26)))
  clear hg1 hr1 hb1
  go_wp2_with fail
  generalize w1.alloc (.cells #[.slice x1 b.things.length y1, .slice x2 b.batches.length y2] 26) = w2 at HG1 HRd HRR HRX HB ⊢
  generalize w1.heap.size = X at HRX hz1 ⊢
  refine (pick_any R (q + 3000) 20 w2 HRd.out (by omega) (by omega) (by omega)).mono ?_
  rintro e w3 ⟨j, rfl, hj, hg3, hr3⟩
  have HG3 := hid (gb_tr HG1.out hg3)
  have HRR3 := hid (HRR.out.kept hg3 (by simp; omega))
  have HRX3 := hid (HRX.out.kept hg3 (by simp; omega))
  have HB3 := hid (HB.out.on HRd.out hg3)
  have HRd3 := hid hr3
  clear HG1 HRR HRX HB HRd hg3 hr3
  have c0 := HRX3.out.cell (i := 0) rfl
  have c1 := HRX3.out.cell (i := 1) rfl
  by_cases hj0 : j = 0
  · subst hj0
    go_wp2_with fail
    refine (l5Spoil_any R (q + 3000 + 1) b x1 x2 y1 y2 w3 HRd3.out (by omega) HB3.out hsm).mono ?_
    rintro e w4 ⟨b', z1, z2, d1, d2, rfl, hg4, hr4, hb4, hsm4⟩
    have HG4 := hid (gb_tr HG3.out hg4)
    have HRR4 := hid (HRR3.out.kept hg4 (by simp; omega))
    have HBK := hid hb4
    have HRd4 := hid hr4
    have HSM := hid hsm4
    clear hg4 hr4 hb4 hsm4 HG3 HRR3 HRX3 HB3 HRd3 c0 c1
    have t0 := HRR4.out.cell (i := 0) rfl
    have t1 := HRR4.out.cell (i := 1) rfl
    have f0 := HRR4.out.frozen 0
    have f1 := HRR4.out.frozen 1
    go_wp2
    obtain ⟨k1, k2, k3⟩ := one_box (n1 := b'.things.length) (n2 := b'.batches.length) (y1 := d1) (y2 := d2) HG4.out HRd4.out HRR4.out noStr2 (Nat.le_refl _) hlt0 HBK.out
    refine bodyPost_ret (v := .agg #[.slice z1 b'.things.length d1, .slice z2 b'.batches.length d2]) (by simp [results, Try.results33, go_sem, t0, t1]) rfl (by
      refine ⟨b', z1, z2, ?_⟩
      first
        | exact ⟨d1, d2, rfl, k1, k2.mono (by omega), k3, HSM.out⟩
        | exact ⟨⟨d1, d2, rfl⟩, k1, k2.mono (by omega), k3, HSM.out⟩)
  · have hj1 : ((j : Int) == 0) = false := by simp; omega
    have t0 := HRR3.out.cell (i := 0) rfl
    have t1 := HRR3.out.cell (i := 1) rfl
    have f0 := HRR3.out.frozen 0
    have f1 := HRR3.out.frozen 1
    go_wp2
    obtain ⟨k1, k2, k3⟩ := one_box (n1 := b.things.length) (n2 := b.batches.length) (y1 := y1) (y2 := y2) HG3.out HRd3.out HRR3.out noStr2 (Nat.le_refl _) hlt0 HB3.out
    refine bodyPost_ret (v := .agg #[.slice x1 b.things.length y1, .slice x2 b.batches.length y2]) (by simp [results, Try.results33, go_sem, t0, t1]) rfl (by
      refine ⟨b, x1, x2, ?_⟩
      first
        | exact ⟨y1, y2, rfl, k1, k2.mono (by omega), k3, hsm.nine⟩
        | exact ⟨⟨y1, y2, rfl⟩, k1, k2.mono (by omega), k3, hsm.nine⟩)

def wordsT : List Str := [[], [122, 122], [107, 101, 103]]
theorem wordsT_short : ShortS wordsT := ⟨by simp [wordsT], fun i hi => by
  match i, hi with
  | 0, _ => simp [wordsT, nth]
  | 1, _ => simp [wordsT, nth]
  | 2, _ => simp [wordsT, nth]⟩

set_option maxRecDepth 100000 in
set_option maxHeartbeats 1000000 in
theorem l5Thing_any (R q : Nat) (b : Book) (a1 a2 : Option Addr) (c1 c2 : Nat) (w : World) (h : Rd w R q) (hq : q ≤ 700000) (hb : BookAt w a1 a2 b) (hsm : SmB9 b) :
    Calls Try.prog 56 #[.pointer (some ⟨R, 0, none⟩), .agg #[.slice a1 b.things.length c1, .slice a2 b.batches.length c2]] w fun e w' =>
      ∃ s : Str, e = .returned (.string (S s)) ∧ w.grownBy w' (some R) ∧ Rd w' R (q + 3) ∧ s.length ≤ 140737488355328 := by
  have hlt0 := h.lt
  have ht := hsm.1
  have HRX : Hid (Rec (w.alloc (.cells #[.slice a1 b.things.length c1, .slice a2 b.batches.length c2] 26)) w.heap.size 26 [.slice a1 b.things.length c1, .slice a2 b.batches.length c2]) := Rec.new w _ _
  have HE := hid (ext_alloc w (.cells #[.slice a1 b.things.length c1, .slice a2 b.batches.length c2] 26))
  go_enter Try.func56, Try.ntmps56
  go_upto_region 1 with fail
  generalize w.alloc (.cells #[.slice a1 b.things.length c1, .slice a2 b.batches.length c2] 26) = w1 at HRX HE ⊢
  go_cut [13] (fun v wx => ∃ x : Bool, v = .bool x ∧ (x = true → 0 < b.things.length) ∧ w.grownBy wx (some R) ∧ Rd wx R (q + 1) ∧ Rec wx w.heap.size 26 [.slice a1 b.things.length c1, .slice a2 b.batches.length c2])
  case first =>
    have p0 := HRX.out.cell (i := 0) rfl
    by_cases hbt : 0 < b.things.length
    · have hbi : (0 : Int) < (b.things.length : Int) := by omega
      go_wp2_with fail
      refine (pick_any R q 10 w1 (h.ext HE.out) (by omega) (by omega) (by omega)).mono ?_
      rintro e w4 ⟨j', rfl, hj', hg4, hr4⟩
      have HG4 := hid (gb_tr (gb_ext HE.out _) hg4)
      have HR4 := hid hr4
      have HX4 := hid (HRX.out.kept hg4 (by simp; omega))
      clear hg4 hr4 p0
      go_wp2_with fail
      go_meet
      exact ⟨_, rfl, fun _ => hbt, HG4.out, HR4.out, HX4.out⟩
    · have hbi : ¬ ((0 : Int) < (b.things.length : Int)) := by omega
      go_wp2_with fail
      go_meet
      exact ⟨false, rfl, (fun h => by cases h), gb_ext HE.out _, (h.ext HE.out).mono (by omega), HRX.out⟩
  case rest =>
    obtain ⟨x, rfl, hx, hg, hr, hrx⟩ := hcut
    have HG := hid hg
    have HR := hid hr
    have HX := hid hrx
    clear hg hr hrx
    cases x
    · go_wp2_with fail
      have hfA : StrsAt (wc.alloc (.cells #[.string (S []), .string (S [122, 122]), .string (S [107, 101, 103])] 9)) (some ⟨wc.heap.size, 0, none⟩) wordsT := rec_strs (Rec.new wc _ _) wordsT_short
      have hrA := HR.out.ext (ext_alloc wc (.cells #[.string (S []), .string (S [122, 122]), .string (S [107, 101, 103])] 9))
      have hof := of_any R (q + 1) _ 3 wordsT _ hrA (by omega) hfA (by simp [wordsT]) (by simp [wordsT]) (fun b' o' e' => hfA.notR hrA (by simp [wordsT]) b' o' e')
      have e3 : wordsT.length = 3 := rfl
      rw [e3] at hof
      refine hof.mono ?_
      clear hof
      rintro e wB ⟨jB, hjB, rfl, hgB, hrB⟩
      have HGB := hid (gb_tr (gb_tr HG.out (gb_ext (ext_alloc _ _) _)) hgB)
      have HRB := hid hrB
      clear hgB hrB hfA hrA
      go_wp2
      go_ret
      exact ⟨_, rfl, HGB.out, HRB.out.mono (by omega), wordsT_short.2 jB (by rw [e3]; exact hjB)⟩
    · have hbt := hx rfl
      have p0 := HX.out.cell (i := 0) rfl
      go_wp2_with fail
      refine wp_region_T (fun w' => w'.cell? ⟨w.heap.size, 0, none⟩ = some (.slice a1 b.things.length c1)) 9 (by kernel_rfl) p0 (fun hS => ?_)
      refine wpT_take 0 (v := ?_) rfl rfl (by kernel_rfl) (by kernel_rfl) (by kernel_rfl) (by kernel_rfl) (fun _ _ _ h => h) hS rfl (by intro w0 hw0; (try dsimp only at hw0); go_simp; try rfl) ?_
      try simp only [List.set]
      refine wpT_take 1 (v := ?_) rfl rfl (by kernel_rfl) (by kernel_rfl) (by kernel_rfl) (by kernel_rfl) (fun _ _ _ h => h) hS rfl (by intro w0 hw0; (try dsimp only at hw0); go_simp; try rfl) ?_
      try simp only [List.set]
      refine wpT_take 2 (v := ?_) rfl rfl (by kernel_rfl) (by kernel_rfl) (by kernel_rfl) (by kernel_rfl) (fun _ _ _ h => h) hS rfl (by intro w0 hw0; (try dsimp only at hw0); go_simp; try rfl) ?_
      try simp only [List.set]
      refine wpT_take 3 (v := ?_) rfl rfl (by kernel_rfl) (by kernel_rfl) (by kernel_rfl) (by kernel_rfl) (fun _ _ _ h => h) hS rfl (by intro w0 hw0; (try dsimp only at hw0); go_simp; try rfl) ?_
      try simp only [List.set]
      refine wpT_take 4 (v := ?_) rfl rfl (by kernel_rfl) (by kernel_rfl) (by kernel_rfl) (by kernel_rfl) (fun _ _ _ h => h) hS rfl (by intro w0 hw0; (try dsimp only at hw0); go_simp; try rfl) ?_
      try simp only [List.set]
      refine wpT_take 5 (v := ?_) rfl rfl (by kernel_rfl) (by kernel_rfl) (by kernel_rfl) (by kernel_rfl) (fun _ _ _ h => h) hS rfl (by intro w0 hw0; (try dsimp only at hw0); go_simp; try rfl) ?_
      try simp only [List.set]
      refine wpT_one 6 rfl (by kernel_rfl) rfl rfl (fun K hK => ?_)
      go_simp
      refine (pick_any R (q + 1) b.things.length _ (HR.out.ext (ext_drewN wc 1)) (by omega) hbt (by omega)).mono ?_
      rintro e w5 ⟨k, rfl, hk, hg5, hr5⟩
      have hth := hb.1.on h (gb_tr (gb_tr HG.out (gb_ext (ext_drewN wc 1) _)) hg5)
      obtain ⟨hkl, bb, oo, rfl, hc⟩ := hth.2 k hk
      have HG5 := hid (gb_tr (gb_tr HG.out (gb_ext (ext_drewN wc 1) _)) hg5)
      have HR5 := hid hr5
      have hx5 := ((HX.out.ext (ext_drewN wc 1)).kept hg5 (by simp; omega)).cell (i := 0) rfl
      go_wp2_with fail
      refine hK.out _ _ hx5 (fun hS1 => ?_)
      clear hK hS
      have hS := hS1
      clear hS1
      try clear K
      try simp only [put_some, List.set]
      refine wpT_one 7 rfl (by kernel_rfl) rfl rfl (fun K hK => ?_)
      go_simp
      refine hK.out _ _ hS (fun hS1 => ?_)
      clear hK hS
      have hS := hS1
      clear hS1
      try clear K
      try simp only [put_some, List.set]
      refine wpT_one 8 rfl (by kernel_rfl) rfl rfl (fun K hK => ?_)
      go_simp
      refine hK.out _ _ hS (fun hS1 => ?_)
      clear hK hS
      have hS := hS1
      clear hS1
      try clear K
      try simp only [put_some, List.set]
      clear hS hg5 hr5 hx5 hth hc p0 HX HG HR
      refine wpT_last rfl (by kernel_rfl) (by kernel_rfl) rfl (fun K hK => ?_)
      go_simp
      refine hK.out _ _ ?_
      clear hK
      go_wp2
      go_ret
      exact ⟨_, rfl, HG5.out, HR5.out.mono (by omega), hkl⟩

theorem on_new {w w1 w2 : World} {R : Nat} (h1 : Ext w w1) (hR : w.heap.size ≤ R) (g : w1.grownBy w2 (some R)) : Ext w w2 :=
  ⟨g.os.trans h1.os, g.tape.trans h1.tape, g.output.trans h1.output, Nat.le_trans h1.size g.size, fun k hk => by
    have := h1.size
    rw [g.block k (by omega) (by simp; omega)]
    exact h1.block k hk⟩

set_option maxRecDepth 100000 in
set_option maxHeartbeats 1000000 in
theorem drawOrder_any (a : Option Addr) (n c : Nat) (w : World) (h : BytesAt w a n) (hn : n ≤ c) (hc : c ≤ 140737488355328) :
    Calls Try.prog 9 #[.slice a n c] w fun e w' =>
      ∃ (b : Book) (x1 x2 : Option Addr) (y1 y2 : Nat), e = .returned (.agg #[.slice x1 b.things.length y1, .slice x2 b.batches.length y2]) ∧ Ext w w' ∧ BookAt w' x1 x2 b ∧ SmB9 b := by
  have hby : BytesAt (w.alloc (.cells #[.slice none 0 0, .slice none 0 0] 26)) a n := h.gb (gb_none (ext_alloc _ _)) (fun b o e hp => by simp)
  go_enter Try.func9, Try.ntmps9
  go_wp2_with fail
  refine (l1Open_any a n c _ hby hn hc).mono ?_
  rintro e w1 ⟨rfl, hE1, hr1⟩
  have hz1 := hr1.lt
  simp at hr1 hz1
  have HRR : Hid (Rec w1 w.heap.size 26 [.slice none 0 0, .slice none 0 0]) := (Rec.new w _ _).ext hE1
  have HE1 := hid (Ext.tr (ext_alloc _ _) hE1)
  clear hE1
  go_wp2_with fail
  refine (l5Any_any (w.heap.size + 1) 0 w1 hr1 (by omega)).mono ?_
  rintro e w2 ⟨b, x1, x2, y1, y2, rfl, hg2, hr2, hb2, hsm⟩
  have HE2 := hid (on_new HE1.out (by omega) hg2)
  have HRR2 := hid (HRR.out.kept hg2 (by simp))
  have HB2 := hid hb2
  clear hg2 hr2 hb2 HRR HE1 hr1
  have t0 := HRR2.out.cell (i := 0) rfl
  have t1 := HRR2.out.cell (i := 1) rfl
  have f0 := HRR2.out.frozen 0
  have f1 := HRR2.out.frozen 1
  go_wp2
  have hE3 : Ext w ((w2.setCell ⟨w.heap.size, 0, none⟩ (.slice x1 b.things.length y1)).setCell ⟨w.heap.size, 1, none⟩ (.slice x2 b.batches.length y2)) := (HE2.out.setCell (by simp) _).setCell (by simp) _
  have hB3 : BookAt ((w2.setCell ⟨w.heap.size, 0, none⟩ (.slice x1 b.things.length y1)).setCell ⟨w.heap.size, 1, none⟩ (.slice x2 b.batches.length y2)) x1 x2 b := (HB2.out.box HRR2.out noStr2).box (HRR2.out.set 0 _) noStr2
  refine bodyPost_ret (v := .agg #[.slice x1 b.things.length y1, .slice x2 b.batches.length y2]) (by simp [results, Try.results9, go_sem, t0, t1]) rfl (by
    refine ⟨b, x1, x2, ?_⟩
    first
      | exact ⟨y1, y2, rfl, hE3, hB3, hsm⟩
      | exact ⟨⟨y1, y2, rfl⟩, hE3, hB3, hsm⟩)

set_option maxRecDepth 100000 in
set_option maxHeartbeats 1000000 in
theorem drawWho_any (a : Option Addr) (n c : Nat) (w : World) (h : BytesAt w a n) (hn : n ≤ c) (hc : c ≤ 140737488355328) :
    Calls Try.prog 20 #[.slice a n c] w fun e w' =>
      ∃ (b : Book) (x1 x2 : Option Addr) (y1 y2 : Nat) (s : Str), e = .returned (.tuple #[.agg #[.slice x1 b.things.length y1, .slice x2 b.batches.length y2], .string (S s)]) ∧ Ext w w' ∧ BookAt w' x1 x2 b ∧ SmB9 b ∧ s.length ≤ 140737488355328 := by
  have hby : BytesAt (w.alloc (.cells #[.slice none 0 0, .slice none 0 0] 26)) a n := h.gb (gb_none (ext_alloc _ _)) (fun b o e hp => by simp)
  go_enter Try.func20, Try.ntmps20
  go_wp2_with fail
  refine (l1Open_any a n c _ hby hn hc).mono ?_
  rintro e w1 ⟨rfl, hE1, hr1⟩
  have hz1 := hr1.lt
  simp at hr1 hz1
  have HRR : Hid (Rec w1 w.heap.size 26 [.slice none 0 0, .slice none 0 0]) := (Rec.new w _ _).ext hE1
  have HE1 := hid (Ext.tr (ext_alloc _ _) hE1)
  clear hE1
  go_wp2_with fail
  refine (l5Any_any (w.heap.size + 1) 0 w1 hr1 (by omega)).mono ?_
  rintro e w2 ⟨b, x1, x2, y1, y2, rfl, hg2, hr2, hb2, hsm⟩
  have hz2 := hg2.size
  have HE2 := hid (Ext.tr (on_new HE1.out (by omega) hg2) (ext_alloc w2 (.cells #[.slice x1 b.things.length y1, .slice x2 b.batches.length y2] 26)))
  have HRR2 := hid ((HRR.out.kept hg2 (by simp)).ext (ext_alloc w2 (.cells #[.slice x1 b.things.length y1, .slice x2 b.batches.length y2] 26)))
  have HB2 := hid (hb2.ext (ext_alloc w2 (.cells #[.slice x1 b.things.length y1, .slice x2 b.batches.length y2] 26)))
  have HRd2 := hid (hr2.ext (ext_alloc w2 (.cells #[.slice x1 b.things.length y1, .slice x2 b.batches.length y2] 26)))
  have HRX2 : Hid (Rec (w2.alloc (.cells #[.slice x1 b.things.length y1, .slice x2 b.batches.length y2] 26)) w2.heap.size 26 [.slice x1 b.things.length y1, .slice x2 b.batches.length y2]) := Rec.new w2 _ _
  clear hg2 hr2 hb2 HRR HE1 hr1
  go_wp2_with fail
  generalize w2.alloc (.cells #[.slice x1 b.things.length y1, .slice x2 b.batches.length y2] 26) = w3 at HE2 HRR2 HB2 HRd2 HRX2 ⊢
  have hXw : w.heap.size + 1 + 1 ≤ w2.heap.size := by omega
  generalize w2.heap.size = X at HRX2 hXw ⊢
  have c0 := HRX2.out.cell (i := 0) rfl
  have c1 := HRX2.out.cell (i := 1) rfl
  refine wp_region_T (fun w' => w'.cell? ⟨X, 0, none⟩ = some (.slice x1 b.things.length y1) ∧ w'.cell? ⟨X, 1, none⟩ = some (.slice x2 b.batches.length y2)) 5 (by kernel_rfl) ⟨c0, c1⟩ (fun hS => ?_)
  refine wpT_take 0 (v := ?_) rfl rfl (by kernel_rfl) (by kernel_rfl) (by kernel_rfl) (by kernel_rfl) (fun _ _ _ h => h) hS rfl (by intro w0 hw0; (try dsimp only at hw0); go_simp; try rfl) ?_
  try simp only [List.set]
  refine wpT_take 1 (v := ?_) rfl rfl (by kernel_rfl) (by kernel_rfl) (by kernel_rfl) (by kernel_rfl) (fun _ _ _ h => h) hS rfl (by intro w0 hw0; (try dsimp only at hw0); go_simp; try rfl) ?_
  try simp only [List.set]
  refine wpT_take 2 (v := ?_) rfl rfl (by kernel_rfl) (by kernel_rfl) (by kernel_rfl) (by kernel_rfl) (fun _ _ _ h => h) hS rfl (by intro w0 hw0; (try dsimp only at hw0); go_simp; try rfl) ?_
  try simp only [List.set]
  refine wpT_one 3 rfl (by kernel_rfl) rfl rfl (fun K hK => ?_)
  go_simp
  refine (l5Thing_any (w.heap.size + 1) (0 + 3100) b _ _ _ _ _ (HRd2.out.ext (ext_drewN w3 1)) (by omega) (HB2.out.ext (ext_drewN w3 1)) hsm).mono ?_
  rintro e w4 ⟨s, rfl, hg4, hr4, hsl⟩
  have hrx4 := (HRX2.out.ext (ext_drewN w3 1)).kept hg4 (by simp; omega)
  have HRR4 := hid ((HRR2.out.ext (ext_drewN w3 1)).kept hg4 (by simp))
  have HE4 := hid (on_new (Ext.tr HE2.out (ext_drewN w3 1)) (by omega) hg4)
  have HB4 := hid ((HB2.out.ext (ext_drewN w3 1)).on (HRd2.out.ext (ext_drewN w3 1)) hg4)
  go_wp2_with fail
  refine hK.out _ _ ⟨hrx4.cell rfl, hrx4.cell rfl⟩ (fun hS1 => ?_)
  clear hK hS
  have hS := hS1
  clear hS1
  try clear K
  try simp only [put_some, List.set]
  have t0 := HRR4.out.cell (i := 0) rfl
  have t1 := HRR4.out.cell (i := 1) rfl
  have f0 := HRR4.out.frozen 0
  have f1 := HRR4.out.frozen 1
  have hS3 : Ext w ((w4.setCell ⟨w.heap.size, 0, none⟩ (.slice x1 b.things.length y1)).setCell ⟨w.heap.size, 1, none⟩ (.slice x2 b.batches.length y2)) := (HE4.out.setCell (by simp) _).setCell (by simp) _
  have hB3 : BookAt ((w4.setCell ⟨w.heap.size, 0, none⟩ (.slice x1 b.things.length y1)).setCell ⟨w.heap.size, 1, none⟩ (.slice x2 b.batches.length y2)) x1 x2 b := (HB4.out.box HRR4.out noStr2).box (HRR4.out.set 0 _) noStr2
  have hrx5 := (hrx4.kept (gb_store w4 w.heap.size 0 (.slice x1 b.things.length y1)) (by simp; omega)).kept (gb_store _ w.heap.size 1 (.slice x2 b.batches.length y2)) (by simp; omega)
  have HS3 := hid hS3
  have HB3 := hid hB3
  have HX5 := hid hrx5
  clear hS3 hB3 hrx5
  refine wpT_one 4 rfl (by kernel_rfl) rfl rfl (fun K hK => ?_)
  go_simp
  refine hK.out _ _ ⟨HX5.out.cell rfl, HX5.out.cell rfl⟩ (fun hS1 => ?_)
  clear hK hS
  have hS := hS1
  clear hS1
  try clear K
  try simp only [put_some, List.set]
  refine wpT_last rfl (by kernel_rfl) (by kernel_rfl) rfl (fun K hK => ?_)
  go_simp
  refine hK.out _ _ ?_
  clear hK hS
  go_wp2
  refine bodyPost_ret (v := .tuple #[.agg #[.slice x1 b.things.length y1, .slice x2 b.batches.length y2], .string (S s)]) (by simp [results, Try.results20, go_sem, t0, t1]) rfl (by
    refine ⟨b, x1, x2, ?_⟩
    first
      | exact ⟨y1, y2, s, rfl, HS3.out, HB3.out, hsm, hsl⟩
      | exact ⟨⟨y1, y2, s, rfl⟩, HS3.out, HB3.out, hsm, hsl⟩
      | (refine ⟨y1, y2, s, ?_⟩; simp; exact ⟨HS3.out, HB3.out, hsm, hsl⟩))
end Go.Proofs.Ytdafpnpfcmgfcaa
