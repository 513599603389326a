/- The walk over the law FnOrder. -/
import Derived.Test.YtdafpnpfcmgfcaaO3
import Derived.Test.YtdafpnpfcmgfcaaJV
import Derived.Test.YtdafpnpfcmgfcaaW14
import Derived.Test.YtdafpnpfcmgfcaaJE
namespace Go.Proofs.Ytdafpnpfcmgfcaa
open Go.RowKit
attribute [local go_sem] S_toList S_size S_get

theorem BytesAt.ext {w w' : World} {a : Option Addr} {n : Nat} (h : BytesAt w a n) (e : Ext w w') : BytesAt w' a n := h.gb (gb_none e) (fun b o e hp => by simp)

set_option maxRecDepth 100000 in
set_option maxHeartbeats 2000000 in
theorem fnOrder_any (a a' : Option Addr) (n c n' c' : Nat) (w : World) (h : BytesAt w a n) (hn : n ≤ c) (hc : c ≤ 140737488355328) (h' : BytesAt w a' n') (hn' : n' ≤ c') (hc' : c' ≤ 140737488355328) :
    Calls Try.prog 3 #[.slice a n c, .slice a' n' c'] w fun e w' => e = .returned (.bool true) ∧ Ext w w' := by
  go_enter Try.func3, Try.ntmps3
  by_cases hbig : 1048576 < n
  · have hb1 : (1048576 : Int) < (n : Int) := by omega
    go_wp2
    go_ret
    exact ⟨rfl, Ext.rfl' _⟩
  · have hb1 : ¬ ((1048576 : Int) < (n : Int)) := by omega
    by_cases hbig' : 1048576 < n'
    · have hb2 : (1048576 : Int) < (n' : Int) := by omega
      go_wp2
      go_ret
      exact ⟨rfl, Ext.rfl' _⟩
    · have hb2 : ¬ ((1048576 : Int) < (n' : Int)) := by omega
      go_wp2_with fail
      refine (drawOrder_any a n c w h hn hc).mono ?_
      rintro e w1 ⟨b, x1, x2, y1, y2, rfl, hE1, hb2, hsm⟩
      have hb7 := hsm.2.1
      have HE : Hid (Ext w (w1.alloc (.cells #[.slice x1 b.things.length y1, .slice x2 b.batches.length y2] 26))) := Ext.tr hE1 (ext_alloc _ _)
      have HRX : Hid (Rec (w1.alloc (.cells #[.slice x1 b.things.length y1, .slice x2 b.batches.length y2] 26)) w1.heap.size 26 [.slice x1 b.things.length y1, .slice x2 b.batches.length y2]) := Rec.new w1 _ _
      have HB := hid (hb2.ext (ext_alloc w1 (.cells #[.slice x1 b.things.length y1, .slice x2 b.batches.length y2] 26)))
      clear hE1 hb2
      have hx0 := HRX.out.cell (i := 0) rfl
      have hx1 := HRX.out.cell (i := 1) rfl
      go_wp2_with fail
      clear hx0 hx1
      generalize w1.alloc (.cells #[.slice x1 b.things.length y1, .slice x2 b.batches.length y2] 26) = w2 at HE HRX HB ⊢
      generalize w1.heap.size = X at HRX ⊢
      have hso : ShortL (orderL b) := orderL_short HB.out
      have hlo : (orderL b).length ≤ 7 := Nat.le_trans (orderL_le b) hb7
      refine (implOrder_any b _ _ _ _ _ HB.out).mono ?_
      rintro e w3 ⟨v3, rfl, hE3, ho3⟩
      obtain ⟨aI, cI, rfl, hatI⟩ := ho3.at (by omega) hso
      have HE3 := hid (Ext.tr HE.out hE3)
      have HRX3 := hid (HRX.out.ext hE3)
      have HB3 := hid (HB.out.ext hE3)
      have HI3 := hid hatI
      clear HE HRX HB hE3 ho3 hatI
      have c0 := HRX3.out.cell (i := 0) rfl
      have c1 := HRX3.out.cell (i := 1) rfl
      go_wp2_with fail
      refine (specOrder_any b _ _ _ _ _ HB3.out).mono ?_
      rintro e w4 ⟨aS, cS, rfl, hE4, hsp⟩
      have HE4 := hid (Ext.tr HE3.out hE4)
      have HRX4 := hid (HRX3.out.ext hE4)
      have HB4 := hid (HB3.out.ext hE4)
      have HI4 := hid (HI3.out.ext hE4)
      have HS4 := hid hsp
      clear HE3 HRX3 HB3 HI3 hE4 hsp c0 c1
      have c0 := HRX4.out.cell (i := 0) rfl
      have c1 := HRX4.out.cell (i := 1) rfl
      have HFI : Hid (safeB b = true → fitsB b (orderL b) = true) := fun hs => order_fits hs
      have HSS := hid (some_safe b)
      have HSO : Hid (safeB b = true → bookOk b = true) := fun hs => safe_ok hs
      have HES := hid (eqS_self (orderL b))
      generalize orderL b = L at hso hlo HI4 HS4 HFI HES ⊢
      generalize hsb : safeB b = sb at HFI HSS HSO ⊢
      have HSB := hid hsb
      generalize hok : bookOk b = ok at HSO
      have HOK := hid hok
      clear hsb hok
      go_upto_region 6 with fail
      go_cut [54] (fun q wx => q = .bool false ∧ Ext w4 wx)
      case first =>
        cases sb <;> cases ok
        · refine wp_region_T (fun w' => w'.cell? ⟨X, 0, none⟩ = some (.slice x1 b.things.length y1) ∧ w'.cell? ⟨X, 1, none⟩ = some (.slice x2 b.batches.length y2)) 22 (by kernel_rfl) ⟨c0, c1⟩ (fun hS => ?_)
          refine wpT_takeN 0 (v := ?_) rfl rfl (by kernel_rfl) (by kernel_rfl) (by kernel_rfl) (by kernel_rfl) (fun _ _ _ h => h) hS rfl (by intro w0 hw0; (try dsimp only at hw0); go_simp; try rfl) ?_
          try simp only [List.set]
          refine wpT_takeN 1 (v := ?_) rfl rfl (by kernel_rfl) (by kernel_rfl) (by kernel_rfl) (by kernel_rfl) (fun _ _ _ h => h) hS rfl (by intro w0 hw0; (try dsimp only at hw0); go_simp; try rfl) ?_
          try simp only [List.set]
          refine wpT_takeN 2 (v := ?_) rfl rfl (by kernel_rfl) (by kernel_rfl) (by kernel_rfl) (by kernel_rfl) (fun _ _ _ h => h) hS rfl (by intro w0 hw0; (try dsimp only at hw0); go_simp; try rfl) ?_
          try simp only [List.set]
          refine wpT_takeN 3 (v := ?_) rfl rfl (by kernel_rfl) (by kernel_rfl) (by kernel_rfl) (by kernel_rfl) (fun _ _ _ h => h) hS rfl (by intro w0 hw0; (try dsimp only at hw0); go_simp; try rfl) ?_
          try simp only [List.set]
          refine wpT_takeN 4 (v := ?_) rfl rfl (by kernel_rfl) (by kernel_rfl) (by kernel_rfl) (by kernel_rfl) (fun _ _ _ h => h) hS rfl (by intro w0 hw0; (try dsimp only at hw0); go_simp; try rfl) ?_
          try simp only [List.set]
          refine wpT_takeN 5 (v := ?_) rfl rfl (by kernel_rfl) (by kernel_rfl) (by kernel_rfl) (by kernel_rfl) (fun _ _ _ h => h) hS rfl (by intro w0 hw0; (try dsimp only at hw0); go_simp; try rfl) ?_
          try simp only [List.set]
          refine wpT_one 6 rfl (by kernel_rfl) rfl rfl (fun K hK => ?_)
          have hc1 := wTexts_any aI aS cI cS L L _ (HI4.out.ext (ext_drewN w4 1)) (HS4.out.ext (ext_drewN w4 1))
          rw [HES.out] at hc1
          go_simp
          refine hc1.mono ?_
          clear hc1
          rintro e w5 ⟨rfl, n5, hw5⟩
          have hE5 : Ext w4 w5 := by rw [hw5]; exact Ext.tr (ext_drewN w4 1) (ext_drewN _ _)
          clear hw5
          go_wp2_with fail
          refine hK.out _ _ ⟨hE5.keep c0, hE5.keep c1⟩ (fun hS1 => ?_)
          clear hK hS
          have hS := hS1
          clear hS1
          try clear K
          try simp only [put_some, List.set]
          refine wpT_takeN 7 (v := ?_) rfl rfl (by kernel_rfl) (by kernel_rfl) (by kernel_rfl) (by kernel_rfl) (fun _ _ _ h => h) hS rfl (by intro w0 hw0; (try dsimp only at hw0); go_simp; try rfl) ?_
          try simp only [List.set]
          refine wpT_takeN 8 (v := ?_) rfl rfl (by kernel_rfl) (by kernel_rfl) (by kernel_rfl) (by kernel_rfl) (fun _ _ _ h => h) hS rfl (by intro w0 hw0; (try dsimp only at hw0); go_simp; try rfl) ?_
          try simp only [List.set]
          refine wpT_takeN 9 (v := ?_) rfl rfl (by kernel_rfl) (by kernel_rfl) (by kernel_rfl) (by kernel_rfl) (fun _ _ _ h => h) hS rfl (by intro w0 hw0; (try dsimp only at hw0); go_simp; try rfl) ?_
          try simp only [List.set]
          refine wpT_takeN 10 (v := ?_) rfl rfl (by kernel_rfl) (by kernel_rfl) (by kernel_rfl) (by kernel_rfl) (fun _ _ _ h => h) hS rfl (by intro w0 hw0; (try dsimp only at hw0); go_simp; try rfl) ?_
          try simp only [List.set]
          refine wpT_takeN 11 (v := ?_) rfl rfl (by kernel_rfl) (by kernel_rfl) (by kernel_rfl) (by kernel_rfl) (fun _ _ _ h => h) hS rfl (by intro w0 hw0; (try dsimp only at hw0); go_simp; try rfl) ?_
          try simp only [List.set]
          refine wpT_one 12 rfl (by kernel_rfl) rfl rfl (fun K hK => ?_)
          have hc2 := implSafe_any b x1 x2 y1 y2 w5 (HB4.out.ext hE5)
          rw [HSB.out] at hc2
          go_simp
          refine hc2.mono ?_
          clear hc2
          rintro e w6 ⟨rfl, hE6'⟩
          have hE6 := Ext.tr hE5 hE6'
          clear hE6' hE5
          go_wp2_with fail
          refine hK.out _ _ ⟨hE6.keep c0, hE6.keep c1⟩ (fun hS1 => ?_)
          clear hK hS
          have hS := hS1
          clear hS1
          try clear K
          try simp only [put_some, List.set]
          refine wpT_takeN 13 (v := ?_) rfl rfl (by kernel_rfl) (by kernel_rfl) (by kernel_rfl) (by kernel_rfl) (fun _ _ _ h => h) hS rfl (by intro w0 hw0; (try dsimp only at hw0); go_simp; try rfl) ?_
          try simp only [List.set]
          refine wpT_takeN 14 (v := ?_) rfl rfl (by kernel_rfl) (by kernel_rfl) (by kernel_rfl) (by kernel_rfl) (fun _ _ _ h => h) hS rfl (by intro w0 hw0; (try dsimp only at hw0); go_simp; try rfl) ?_
          try simp only [List.set]
          refine wpT_takeN 15 (v := ?_) rfl rfl (by kernel_rfl) (by kernel_rfl) (by kernel_rfl) (by kernel_rfl) (fun _ _ _ h => h) hS rfl (by intro w0 hw0; (try dsimp only at hw0); go_simp; try rfl) ?_
          try simp only [List.set]
          refine wpT_takeN 16 (v := ?_) rfl rfl (by kernel_rfl) (by kernel_rfl) (by kernel_rfl) (by kernel_rfl) (fun _ _ _ h => h) hS rfl (by intro w0 hw0; (try dsimp only at hw0); go_simp; try rfl) ?_
          try simp only [List.set]
          refine wpT_takeN 18 (v := ?_) rfl rfl (by kernel_rfl) (by kernel_rfl) (by kernel_rfl) (by kernel_rfl) (fun _ _ _ h => h) hS rfl (by intro w0 hw0; (try dsimp only at hw0); go_simp; try rfl) ?_
          try simp only [List.set]
          refine wpT_one 17 rfl (by kernel_rfl) rfl rfl (fun K hK => ?_)
          have hc3 := implBookOk_any b x1 x2 y1 y2 w6 (HB4.out.ext hE6)
          rw [HOK.out] at hc3
          go_simp
          refine hc3.mono ?_
          clear hc3
          rintro e w7 ⟨rfl, hE7'⟩
          have hE7 := Ext.tr hE6 hE7'
          clear hE7' hE6
          go_wp2_with fail
          refine hK.out _ _ ⟨hE7.keep c0, hE7.keep c1⟩ (fun hS1 => ?_)
          clear hK hS
          have hS := hS1
          clear hS1
          try clear K
          try simp only [put_some, List.set]
          refine wpT_one 19 rfl (by kernel_rfl) rfl rfl (fun K hK => ?_)
          have hc4 := specBookOk_any b x1 x2 y1 y2 w7 (HB4.out.ext hE7)
          rw [HOK.out] at hc4
          go_simp
          refine hc4.mono ?_
          clear hc4
          rintro e w8 ⟨rfl, hE8'⟩
          have hE8 := Ext.tr hE7 hE8'
          clear hE8' hE7
          go_wp2_with fail
          refine hK.out _ _ ⟨hE8.keep c0, hE8.keep c1⟩ (fun hS1 => ?_)
          clear hK hS
          have hS := hS1
          clear hS1
          try clear K
          try simp only [put_some, List.set]
          refine wpT_takeN 20 (v := ?_) rfl rfl (by kernel_rfl) (by kernel_rfl) (by kernel_rfl) (by kernel_rfl) (fun _ _ _ h => h) hS rfl (by intro w0 hw0; (try dsimp only at hw0); go_simp; try rfl) ?_
          try simp only [List.set]
          refine wpT_takeN 21 (v := ?_) rfl rfl (by kernel_rfl) (by kernel_rfl) (by kernel_rfl) (by kernel_rfl) (fun _ _ _ h => h) hS rfl (by intro w0 hw0; (try dsimp only at hw0); go_simp; try rfl) ?_
          try simp only [List.set]
          refine wpT_done (by kernel_rfl) ?_ _
          clear hS
          go_wp2_with fail
          go_meet
          exact ⟨rfl, hE8⟩
        · refine wp_region_T (fun w' => w'.cell? ⟨X, 0, none⟩ = some (.slice x1 b.things.length y1) ∧ w'.cell? ⟨X, 1, none⟩ = some (.slice x2 b.batches.length y2)) 22 (by kernel_rfl) ⟨c0, c1⟩ (fun hS => ?_)
          refine wpT_takeN 0 (v := ?_) rfl rfl (by kernel_rfl) (by kernel_rfl) (by kernel_rfl) (by kernel_rfl) (fun _ _ _ h => h) hS rfl (by intro w0 hw0; (try dsimp only at hw0); go_simp; try rfl) ?_
          try simp only [List.set]
          refine wpT_takeN 1 (v := ?_) rfl rfl (by kernel_rfl) (by kernel_rfl) (by kernel_rfl) (by kernel_rfl) (fun _ _ _ h => h) hS rfl (by intro w0 hw0; (try dsimp only at hw0); go_simp; try rfl) ?_
          try simp only [List.set]
          refine wpT_takeN 2 (v := ?_) rfl rfl (by kernel_rfl) (by kernel_rfl) (by kernel_rfl) (by kernel_rfl) (fun _ _ _ h => h) hS rfl (by intro w0 hw0; (try dsimp only at hw0); go_simp; try rfl) ?_
          try simp only [List.set]
          refine wpT_takeN 3 (v := ?_) rfl rfl (by kernel_rfl) (by kernel_rfl) (by kernel_rfl) (by kernel_rfl) (fun _ _ _ h => h) hS rfl (by intro w0 hw0; (try dsimp only at hw0); go_simp; try rfl) ?_
          try simp only [List.set]
          refine wpT_takeN 4 (v := ?_) rfl rfl (by kernel_rfl) (by kernel_rfl) (by kernel_rfl) (by kernel_rfl) (fun _ _ _ h => h) hS rfl (by intro w0 hw0; (try dsimp only at hw0); go_simp; try rfl) ?_
          try simp only [List.set]
          refine wpT_takeN 5 (v := ?_) rfl rfl (by kernel_rfl) (by kernel_rfl) (by kernel_rfl) (by kernel_rfl) (fun _ _ _ h => h) hS rfl (by intro w0 hw0; (try dsimp only at hw0); go_simp; try rfl) ?_
          try simp only [List.set]
          refine wpT_one 6 rfl (by kernel_rfl) rfl rfl (fun K hK => ?_)
          have hc1 := wTexts_any aI aS cI cS L L _ (HI4.out.ext (ext_drewN w4 1)) (HS4.out.ext (ext_drewN w4 1))
          rw [HES.out] at hc1
          go_simp
          refine hc1.mono ?_
          clear hc1
          rintro e w5 ⟨rfl, n5, hw5⟩
          have hE5 : Ext w4 w5 := by rw [hw5]; exact Ext.tr (ext_drewN w4 1) (ext_drewN _ _)
          clear hw5
          go_wp2_with fail
          refine hK.out _ _ ⟨hE5.keep c0, hE5.keep c1⟩ (fun hS1 => ?_)
          clear hK hS
          have hS := hS1
          clear hS1
          try clear K
          try simp only [put_some, List.set]
          refine wpT_takeN 7 (v := ?_) rfl rfl (by kernel_rfl) (by kernel_rfl) (by kernel_rfl) (by kernel_rfl) (fun _ _ _ h => h) hS rfl (by intro w0 hw0; (try dsimp only at hw0); go_simp; try rfl) ?_
          try simp only [List.set]
          refine wpT_takeN 8 (v := ?_) rfl rfl (by kernel_rfl) (by kernel_rfl) (by kernel_rfl) (by kernel_rfl) (fun _ _ _ h => h) hS rfl (by intro w0 hw0; (try dsimp only at hw0); go_simp; try rfl) ?_
          try simp only [List.set]
          refine wpT_takeN 9 (v := ?_) rfl rfl (by kernel_rfl) (by kernel_rfl) (by kernel_rfl) (by kernel_rfl) (fun _ _ _ h => h) hS rfl (by intro w0 hw0; (try dsimp only at hw0); go_simp; try rfl) ?_
          try simp only [List.set]
          refine wpT_takeN 10 (v := ?_) rfl rfl (by kernel_rfl) (by kernel_rfl) (by kernel_rfl) (by kernel_rfl) (fun _ _ _ h => h) hS rfl (by intro w0 hw0; (try dsimp only at hw0); go_simp; try rfl) ?_
          try simp only [List.set]
          refine wpT_takeN 11 (v := ?_) rfl rfl (by kernel_rfl) (by kernel_rfl) (by kernel_rfl) (by kernel_rfl) (fun _ _ _ h => h) hS rfl (by intro w0 hw0; (try dsimp only at hw0); go_simp; try rfl) ?_
          try simp only [List.set]
          refine wpT_one 12 rfl (by kernel_rfl) rfl rfl (fun K hK => ?_)
          have hc2 := implSafe_any b x1 x2 y1 y2 w5 (HB4.out.ext hE5)
          rw [HSB.out] at hc2
          go_simp
          refine hc2.mono ?_
          clear hc2
          rintro e w6 ⟨rfl, hE6'⟩
          have hE6 := Ext.tr hE5 hE6'
          clear hE6' hE5
          go_wp2_with fail
          refine hK.out _ _ ⟨hE6.keep c0, hE6.keep c1⟩ (fun hS1 => ?_)
          clear hK hS
          have hS := hS1
          clear hS1
          try clear K
          try simp only [put_some, List.set]
          refine wpT_takeN 13 (v := ?_) rfl rfl (by kernel_rfl) (by kernel_rfl) (by kernel_rfl) (by kernel_rfl) (fun _ _ _ h => h) hS rfl (by intro w0 hw0; (try dsimp only at hw0); go_simp; try rfl) ?_
          try simp only [List.set]
          refine wpT_takeN 14 (v := ?_) rfl rfl (by kernel_rfl) (by kernel_rfl) (by kernel_rfl) (by kernel_rfl) (fun _ _ _ h => h) hS rfl (by intro w0 hw0; (try dsimp only at hw0); go_simp; try rfl) ?_
          try simp only [List.set]
          refine wpT_takeN 15 (v := ?_) rfl rfl (by kernel_rfl) (by kernel_rfl) (by kernel_rfl) (by kernel_rfl) (fun _ _ _ h => h) hS rfl (by intro w0 hw0; (try dsimp only at hw0); go_simp; try rfl) ?_
          try simp only [List.set]
          refine wpT_takeN 16 (v := ?_) rfl rfl (by kernel_rfl) (by kernel_rfl) (by kernel_rfl) (by kernel_rfl) (fun _ _ _ h => h) hS rfl (by intro w0 hw0; (try dsimp only at hw0); go_simp; try rfl) ?_
          try simp only [List.set]
          refine wpT_takeN 18 (v := ?_) rfl rfl (by kernel_rfl) (by kernel_rfl) (by kernel_rfl) (by kernel_rfl) (fun _ _ _ h => h) hS rfl (by intro w0 hw0; (try dsimp only at hw0); go_simp; try rfl) ?_
          try simp only [List.set]
          refine wpT_one 17 rfl (by kernel_rfl) rfl rfl (fun K hK => ?_)
          have hc3 := implBookOk_any b x1 x2 y1 y2 w6 (HB4.out.ext hE6)
          rw [HOK.out] at hc3
          go_simp
          refine hc3.mono ?_
          clear hc3
          rintro e w7 ⟨rfl, hE7'⟩
          have hE7 := Ext.tr hE6 hE7'
          clear hE7' hE6
          go_wp2_with fail
          refine hK.out _ _ ⟨hE7.keep c0, hE7.keep c1⟩ (fun hS1 => ?_)
          clear hK hS
          have hS := hS1
          clear hS1
          try clear K
          try simp only [put_some, List.set]
          refine wpT_one 19 rfl (by kernel_rfl) rfl rfl (fun K hK => ?_)
          have hc4 := specBookOk_any b x1 x2 y1 y2 w7 (HB4.out.ext hE7)
          rw [HOK.out] at hc4
          go_simp
          refine hc4.mono ?_
          clear hc4
          rintro e w8 ⟨rfl, hE8'⟩
          have hE8 := Ext.tr hE7 hE8'
          clear hE8' hE7
          go_wp2_with fail
          refine hK.out _ _ ⟨hE8.keep c0, hE8.keep c1⟩ (fun hS1 => ?_)
          clear hK hS
          have hS := hS1
          clear hS1
          try clear K
          try simp only [put_some, List.set]
          refine wpT_takeN 20 (v := ?_) rfl rfl (by kernel_rfl) (by kernel_rfl) (by kernel_rfl) (by kernel_rfl) (fun _ _ _ h => h) hS rfl (by intro w0 hw0; (try dsimp only at hw0); go_simp; try rfl) ?_
          try simp only [List.set]
          refine wpT_takeN 21 (v := ?_) rfl rfl (by kernel_rfl) (by kernel_rfl) (by kernel_rfl) (by kernel_rfl) (fun _ _ _ h => h) hS rfl (by intro w0 hw0; (try dsimp only at hw0); go_simp; try rfl) ?_
          try simp only [List.set]
          refine wpT_done (by kernel_rfl) ?_ _
          clear hS
          go_wp2_with fail
          go_meet
          exact ⟨rfl, hE8⟩
        · refine wp_region_T (fun w' => w'.cell? ⟨X, 0, none⟩ = some (.slice x1 b.things.length y1) ∧ w'.cell? ⟨X, 1, none⟩ = some (.slice x2 b.batches.length y2)) 22 (by kernel_rfl) ⟨c0, c1⟩ (fun hS => ?_)
          refine wpT_takeN 0 (v := ?_) rfl rfl (by kernel_rfl) (by kernel_rfl) (by kernel_rfl) (by kernel_rfl) (fun _ _ _ h => h) hS rfl (by intro w0 hw0; (try dsimp only at hw0); go_simp; try rfl) ?_
          try simp only [List.set]
          refine wpT_takeN 1 (v := ?_) rfl rfl (by kernel_rfl) (by kernel_rfl) (by kernel_rfl) (by kernel_rfl) (fun _ _ _ h => h) hS rfl (by intro w0 hw0; (try dsimp only at hw0); go_simp; try rfl) ?_
          try simp only [List.set]
          refine wpT_takeN 2 (v := ?_) rfl rfl (by kernel_rfl) (by kernel_rfl) (by kernel_rfl) (by kernel_rfl) (fun _ _ _ h => h) hS rfl (by intro w0 hw0; (try dsimp only at hw0); go_simp; try rfl) ?_
          try simp only [List.set]
          refine wpT_takeN 3 (v := ?_) rfl rfl (by kernel_rfl) (by kernel_rfl) (by kernel_rfl) (by kernel_rfl) (fun _ _ _ h => h) hS rfl (by intro w0 hw0; (try dsimp only at hw0); go_simp; try rfl) ?_
          try simp only [List.set]
          refine wpT_takeN 4 (v := ?_) rfl rfl (by kernel_rfl) (by kernel_rfl) (by kernel_rfl) (by kernel_rfl) (fun _ _ _ h => h) hS rfl (by intro w0 hw0; (try dsimp only at hw0); go_simp; try rfl) ?_
          try simp only [List.set]
          refine wpT_takeN 5 (v := ?_) rfl rfl (by kernel_rfl) (by kernel_rfl) (by kernel_rfl) (by kernel_rfl) (fun _ _ _ h => h) hS rfl (by intro w0 hw0; (try dsimp only at hw0); go_simp; try rfl) ?_
          try simp only [List.set]
          refine wpT_one 6 rfl (by kernel_rfl) rfl rfl (fun K hK => ?_)
          have hc1 := wTexts_any aI aS cI cS L L _ (HI4.out.ext (ext_drewN w4 1)) (HS4.out.ext (ext_drewN w4 1))
          rw [HES.out] at hc1
          go_simp
          refine hc1.mono ?_
          clear hc1
          rintro e w5 ⟨rfl, n5, hw5⟩
          have hE5 : Ext w4 w5 := by rw [hw5]; exact Ext.tr (ext_drewN w4 1) (ext_drewN _ _)
          clear hw5
          go_wp2_with fail
          refine hK.out _ _ ⟨hE5.keep c0, hE5.keep c1⟩ (fun hS1 => ?_)
          clear hK hS
          have hS := hS1
          clear hS1
          try clear K
          try simp only [put_some, List.set]
          refine wpT_takeN 7 (v := ?_) rfl rfl (by kernel_rfl) (by kernel_rfl) (by kernel_rfl) (by kernel_rfl) (fun _ _ _ h => h) hS rfl (by intro w0 hw0; (try dsimp only at hw0); go_simp; try rfl) ?_
          try simp only [List.set]
          refine wpT_takeN 8 (v := ?_) rfl rfl (by kernel_rfl) (by kernel_rfl) (by kernel_rfl) (by kernel_rfl) (fun _ _ _ h => h) hS rfl (by intro w0 hw0; (try dsimp only at hw0); go_simp; try rfl) ?_
          try simp only [List.set]
          refine wpT_takeN 9 (v := ?_) rfl rfl (by kernel_rfl) (by kernel_rfl) (by kernel_rfl) (by kernel_rfl) (fun _ _ _ h => h) hS rfl (by intro w0 hw0; (try dsimp only at hw0); go_simp; try rfl) ?_
          try simp only [List.set]
          refine wpT_takeN 10 (v := ?_) rfl rfl (by kernel_rfl) (by kernel_rfl) (by kernel_rfl) (by kernel_rfl) (fun _ _ _ h => h) hS rfl (by intro w0 hw0; (try dsimp only at hw0); go_simp; try rfl) ?_
          try simp only [List.set]
          refine wpT_takeN 11 (v := ?_) rfl rfl (by kernel_rfl) (by kernel_rfl) (by kernel_rfl) (by kernel_rfl) (fun _ _ _ h => h) hS rfl (by intro w0 hw0; (try dsimp only at hw0); go_simp; try rfl) ?_
          try simp only [List.set]
          refine wpT_one 12 rfl (by kernel_rfl) rfl rfl (fun K hK => ?_)
          have hc2 := implSafe_any b x1 x2 y1 y2 w5 (HB4.out.ext hE5)
          rw [HSB.out] at hc2
          go_simp
          refine hc2.mono ?_
          clear hc2
          rintro e w6 ⟨rfl, hE6'⟩
          have hE6 := Ext.tr hE5 hE6'
          clear hE6' hE5
          go_wp2_with fail
          refine hK.out _ _ ⟨hE6.keep c0, hE6.keep c1⟩ (fun hS1 => ?_)
          clear hK hS
          have hS := hS1
          clear hS1
          try clear K
          try simp only [put_some, List.set]
          refine wpT_takeN 13 (v := ?_) rfl rfl (by kernel_rfl) (by kernel_rfl) (by kernel_rfl) (by kernel_rfl) (fun _ _ _ h => h) hS rfl (by intro w0 hw0; (try dsimp only at hw0); go_simp; try rfl) ?_
          try simp only [List.set]
          refine wpT_takeN 14 (v := ?_) rfl rfl (by kernel_rfl) (by kernel_rfl) (by kernel_rfl) (by kernel_rfl) (fun _ _ _ h => h) hS rfl (by intro w0 hw0; (try dsimp only at hw0); go_simp; try rfl) ?_
          try simp only [List.set]
          refine wpT_takeN 15 (v := ?_) rfl rfl (by kernel_rfl) (by kernel_rfl) (by kernel_rfl) (by kernel_rfl) (fun _ _ _ h => h) hS rfl (by intro w0 hw0; (try dsimp only at hw0); go_simp; try rfl) ?_
          try simp only [List.set]
          refine wpT_takeN 16 (v := ?_) rfl rfl (by kernel_rfl) (by kernel_rfl) (by kernel_rfl) (by kernel_rfl) (fun _ _ _ h => h) hS rfl (by intro w0 hw0; (try dsimp only at hw0); go_simp; try rfl) ?_
          try simp only [List.set]
          refine wpT_takeN 18 (v := ?_) rfl rfl (by kernel_rfl) (by kernel_rfl) (by kernel_rfl) (by kernel_rfl) (fun _ _ _ h => h) hS rfl (by intro w0 hw0; (try dsimp only at hw0); go_simp; try rfl) ?_
          try simp only [List.set]
          refine wpT_one 17 rfl (by kernel_rfl) rfl rfl (fun K hK => ?_)
          have hc3 := implBookOk_any b x1 x2 y1 y2 w6 (HB4.out.ext hE6)
          rw [HOK.out] at hc3
          go_simp
          refine hc3.mono ?_
          clear hc3
          rintro e w7 ⟨rfl, hE7'⟩
          have hE7 := Ext.tr hE6 hE7'
          clear hE7' hE6
          go_wp2_with fail
          refine hK.out _ _ ⟨hE7.keep c0, hE7.keep c1⟩ (fun hS1 => ?_)
          clear hK hS
          have hS := hS1
          clear hS1
          try clear K
          try simp only [put_some, List.set]
          refine wpT_one 19 rfl (by kernel_rfl) rfl rfl (fun K hK => ?_)
          have hc4 := specBookOk_any b x1 x2 y1 y2 w7 (HB4.out.ext hE7)
          rw [HOK.out] at hc4
          go_simp
          refine hc4.mono ?_
          clear hc4
          rintro e w8 ⟨rfl, hE8'⟩
          have hE8 := Ext.tr hE7 hE8'
          clear hE8' hE7
          go_wp2_with fail
          refine hK.out _ _ ⟨hE8.keep c0, hE8.keep c1⟩ (fun hS1 => ?_)
          clear hK hS
          have hS := hS1
          clear hS1
          try clear K
          try simp only [put_some, List.set]
          refine wpT_takeN 20 (v := ?_) rfl rfl (by kernel_rfl) (by kernel_rfl) (by kernel_rfl) (by kernel_rfl) (fun _ _ _ h => h) hS rfl (by intro w0 hw0; (try dsimp only at hw0); go_simp; try rfl) ?_
          try simp only [List.set]
          refine wpT_takeN 21 (v := ?_) rfl rfl (by kernel_rfl) (by kernel_rfl) (by kernel_rfl) (by kernel_rfl) (fun _ _ _ h => h) hS rfl (by intro w0 hw0; (try dsimp only at hw0); go_simp; try rfl) ?_
          try simp only [List.set]
          refine wpT_done (by kernel_rfl) ?_ _
          clear hS
          go_wp2_with fail
          go_meet
          exact ⟨rfl, hE8⟩
        · refine wp_region_T (fun w' => w'.cell? ⟨X, 0, none⟩ = some (.slice x1 b.things.length y1) ∧ w'.cell? ⟨X, 1, none⟩ = some (.slice x2 b.batches.length y2)) 22 (by kernel_rfl) ⟨c0, c1⟩ (fun hS => ?_)
          refine wpT_takeN 0 (v := ?_) rfl rfl (by kernel_rfl) (by kernel_rfl) (by kernel_rfl) (by kernel_rfl) (fun _ _ _ h => h) hS rfl (by intro w0 hw0; (try dsimp only at hw0); go_simp; try rfl) ?_
          try simp only [List.set]
          refine wpT_takeN 1 (v := ?_) rfl rfl (by kernel_rfl) (by kernel_rfl) (by kernel_rfl) (by kernel_rfl) (fun _ _ _ h => h) hS rfl (by intro w0 hw0; (try dsimp only at hw0); go_simp; try rfl) ?_
          try simp only [List.set]
          refine wpT_takeN 2 (v := ?_) rfl rfl (by kernel_rfl) (by kernel_rfl) (by kernel_rfl) (by kernel_rfl) (fun _ _ _ h => h) hS rfl (by intro w0 hw0; (try dsimp only at hw0); go_simp; try rfl) ?_
          try simp only [List.set]
          refine wpT_takeN 3 (v := ?_) rfl rfl (by kernel_rfl) (by kernel_rfl) (by kernel_rfl) (by kernel_rfl) (fun _ _ _ h => h) hS rfl (by intro w0 hw0; (try dsimp only at hw0); go_simp; try rfl) ?_
          try simp only [List.set]
          refine wpT_takeN 4 (v := ?_) rfl rfl (by kernel_rfl) (by kernel_rfl) (by kernel_rfl) (by kernel_rfl) (fun _ _ _ h => h) hS rfl (by intro w0 hw0; (try dsimp only at hw0); go_simp; try rfl) ?_
          try simp only [List.set]
          refine wpT_takeN 5 (v := ?_) rfl rfl (by kernel_rfl) (by kernel_rfl) (by kernel_rfl) (by kernel_rfl) (fun _ _ _ h => h) hS rfl (by intro w0 hw0; (try dsimp only at hw0); go_simp; try rfl) ?_
          try simp only [List.set]
          refine wpT_one 6 rfl (by kernel_rfl) rfl rfl (fun K hK => ?_)
          have hc1 := wTexts_any aI aS cI cS L L _ (HI4.out.ext (ext_drewN w4 1)) (HS4.out.ext (ext_drewN w4 1))
          rw [HES.out] at hc1
          go_simp
          refine hc1.mono ?_
          clear hc1
          rintro e w5 ⟨rfl, n5, hw5⟩
          have hE5 : Ext w4 w5 := by rw [hw5]; exact Ext.tr (ext_drewN w4 1) (ext_drewN _ _)
          clear hw5
          go_wp2_with fail
          refine hK.out _ _ ⟨hE5.keep c0, hE5.keep c1⟩ (fun hS1 => ?_)
          clear hK hS
          have hS := hS1
          clear hS1
          try clear K
          try simp only [put_some, List.set]
          refine wpT_takeN 7 (v := ?_) rfl rfl (by kernel_rfl) (by kernel_rfl) (by kernel_rfl) (by kernel_rfl) (fun _ _ _ h => h) hS rfl (by intro w0 hw0; (try dsimp only at hw0); go_simp; try rfl) ?_
          try simp only [List.set]
          refine wpT_takeN 8 (v := ?_) rfl rfl (by kernel_rfl) (by kernel_rfl) (by kernel_rfl) (by kernel_rfl) (fun _ _ _ h => h) hS rfl (by intro w0 hw0; (try dsimp only at hw0); go_simp; try rfl) ?_
          try simp only [List.set]
          refine wpT_takeN 9 (v := ?_) rfl rfl (by kernel_rfl) (by kernel_rfl) (by kernel_rfl) (by kernel_rfl) (fun _ _ _ h => h) hS rfl (by intro w0 hw0; (try dsimp only at hw0); go_simp; try rfl) ?_
          try simp only [List.set]
          refine wpT_takeN 10 (v := ?_) rfl rfl (by kernel_rfl) (by kernel_rfl) (by kernel_rfl) (by kernel_rfl) (fun _ _ _ h => h) hS rfl (by intro w0 hw0; (try dsimp only at hw0); go_simp; try rfl) ?_
          try simp only [List.set]
          refine wpT_takeN 11 (v := ?_) rfl rfl (by kernel_rfl) (by kernel_rfl) (by kernel_rfl) (by kernel_rfl) (fun _ _ _ h => h) hS rfl (by intro w0 hw0; (try dsimp only at hw0); go_simp; try rfl) ?_
          try simp only [List.set]
          refine wpT_one 12 rfl (by kernel_rfl) rfl rfl (fun K hK => ?_)
          have hc2 := implSafe_any b x1 x2 y1 y2 w5 (HB4.out.ext hE5)
          rw [HSB.out] at hc2
          go_simp
          refine hc2.mono ?_
          clear hc2
          rintro e w6 ⟨rfl, hE6'⟩
          have hE6 := Ext.tr hE5 hE6'
          clear hE6' hE5
          go_wp2_with fail
          refine hK.out _ _ ⟨hE6.keep c0, hE6.keep c1⟩ (fun hS1 => ?_)
          clear hK hS
          have hS := hS1
          clear hS1
          try clear K
          try simp only [put_some, List.set]
          refine wpT_takeN 13 (v := ?_) rfl rfl (by kernel_rfl) (by kernel_rfl) (by kernel_rfl) (by kernel_rfl) (fun _ _ _ h => h) hS rfl (by intro w0 hw0; (try dsimp only at hw0); go_simp; try rfl) ?_
          try simp only [List.set]
          refine wpT_takeN 14 (v := ?_) rfl rfl (by kernel_rfl) (by kernel_rfl) (by kernel_rfl) (by kernel_rfl) (fun _ _ _ h => h) hS rfl (by intro w0 hw0; (try dsimp only at hw0); go_simp; try rfl) ?_
          try simp only [List.set]
          refine wpT_takeN 15 (v := ?_) rfl rfl (by kernel_rfl) (by kernel_rfl) (by kernel_rfl) (by kernel_rfl) (fun _ _ _ h => h) hS rfl (by intro w0 hw0; (try dsimp only at hw0); go_simp; try rfl) ?_
          try simp only [List.set]
          refine wpT_takeN 16 (v := ?_) rfl rfl (by kernel_rfl) (by kernel_rfl) (by kernel_rfl) (by kernel_rfl) (fun _ _ _ h => h) hS rfl (by intro w0 hw0; (try dsimp only at hw0); go_simp; try rfl) ?_
          try simp only [List.set]
          refine wpT_takeN 18 (v := ?_) rfl rfl (by kernel_rfl) (by kernel_rfl) (by kernel_rfl) (by kernel_rfl) (fun _ _ _ h => h) hS rfl (by intro w0 hw0; (try dsimp only at hw0); go_simp; try rfl) ?_
          try simp only [List.set]
          refine wpT_one 17 rfl (by kernel_rfl) rfl rfl (fun K hK => ?_)
          have hc3 := implBookOk_any b x1 x2 y1 y2 w6 (HB4.out.ext hE6)
          rw [HOK.out] at hc3
          go_simp
          refine hc3.mono ?_
          clear hc3
          rintro e w7 ⟨rfl, hE7'⟩
          have hE7 := Ext.tr hE6 hE7'
          clear hE7' hE6
          go_wp2_with fail
          refine hK.out _ _ ⟨hE7.keep c0, hE7.keep c1⟩ (fun hS1 => ?_)
          clear hK hS
          have hS := hS1
          clear hS1
          try clear K
          try simp only [put_some, List.set]
          refine wpT_one 19 rfl (by kernel_rfl) rfl rfl (fun K hK => ?_)
          have hc4 := specBookOk_any b x1 x2 y1 y2 w7 (HB4.out.ext hE7)
          rw [HOK.out] at hc4
          go_simp
          refine hc4.mono ?_
          clear hc4
          rintro e w8 ⟨rfl, hE8'⟩
          have hE8 := Ext.tr hE7 hE8'
          clear hE8' hE7
          go_wp2_with fail
          refine hK.out _ _ ⟨hE8.keep c0, hE8.keep c1⟩ (fun hS1 => ?_)
          clear hK hS
          have hS := hS1
          clear hS1
          try clear K
          try simp only [put_some, List.set]
          refine wpT_takeN 20 (v := ?_) rfl rfl (by kernel_rfl) (by kernel_rfl) (by kernel_rfl) (by kernel_rfl) (fun _ _ _ h => h) hS rfl (by intro w0 hw0; (try dsimp only at hw0); go_simp; try rfl) ?_
          try simp only [List.set]
          refine wpT_takeN 21 (v := ?_) rfl rfl (by kernel_rfl) (by kernel_rfl) (by kernel_rfl) (by kernel_rfl) (fun _ _ _ h => h) hS rfl (by intro w0 hw0; (try dsimp only at hw0); go_simp; try rfl) ?_
          try simp only [List.set]
          refine wpT_done (by kernel_rfl) ?_ _
          clear hS
          go_wp2_with fail
          go_meet
          exact ⟨rfl, hE8⟩
      case rest =>
        obtain ⟨rfl, hEx⟩ := hcut
        have HE5 := hid (Ext.tr HE4.out hEx)
        have HRX5 := hid (HRX4.out.ext hEx)
        have HB5 := hid (HB4.out.ext hEx)
        have HI5 := hid (HI4.out.ext hEx)
        clear HE4 HRX4 HB4 HI4 HS4 hEx c0 c1
        have c0 := HRX5.out.cell (i := 0) rfl
        have c1 := HRX5.out.cell (i := 1) rfl
        go_upto_region 8 with fail
        go_cut [72] (fun q wx => q = .bool false ∧ Ext w wx)
        case first =>
          have hc5 := specBookOk_any b x1 x2 y1 y2 wc HB5.out
          rw [HOK.out] at hc5
          go_wp2_with fail
          refine hc5.mono ?_
          clear hc5
          rintro e w6 ⟨rfl, hE6⟩
          have HE6 := hid (Ext.tr HE5.out hE6)
          have HB6 := hid (HB5.out.ext hE6)
          have HI6 := hid (HI5.out.ext hE6)
          replace c0 := hE6.keep c0
          replace c1 := hE6.keep c1
          clear hE6
          cases ok
          · cases sb
            · go_wp2_with fail
              go_meet
              exact ⟨rfl, HE6.out⟩
            · exact absurd (HSO.out rfl) (by simp)
          · go_wp2_with fail
            have hc6 := wSome_any b hb7 b.batches.length [] x1 x2 (some ⟨w6.heap.size, 0, none⟩) y1 y2 0 (w6.alloc (.cells #[] 9)) (HB6.out.ext (ext_alloc _ _)) (StrsAt.nil _ _) (by simp)
            rw [HSS.out] at hc6
            refine hc6.mono ?_
            clear hc6
            rintro e w7 ⟨rfl, hE7'⟩
            have hE7 := Ext.tr (ext_alloc w6 (.cells #[] 9)) hE7'
            have HE7 := hid (Ext.tr HE6.out hE7)
            have HB7 := hid (HB6.out.ext hE7)
            have HI7 := hid (HI6.out.ext hE7)
            replace c0 := hE7.keep c0
            replace c1 := hE7.keep c1
            clear hE7 hE7'
            cases sb
            · go_wp2_with fail
              go_meet
              exact ⟨rfl, HE7.out⟩
            · go_wp2_with fail
              have hc7 := implFits_any b L x1 x2 aI y1 y2 cI w7 HB7.out HI7.out
              rw [HFI.out (by first | rfl | trivial)] at hc7
              refine hc7.mono ?_
              clear hc7
              rintro e w8 ⟨rfl, hE8⟩
              have HE8 := hid (Ext.tr HE7.out hE8)
              clear hE8
              go_wp2_with fail
              go_meet
              exact ⟨rfl, HE8.out⟩
        case rest =>
          clear HE5 HRX5 HB5 HI5 c0 c1
          obtain ⟨rfl, hEx⟩ := hcut
          rename_i wq _
          have HEQ := hid hEx
          clear hEx
          go_wp2_with fail
          refine (drawFits_any a' n' c' _ (h'.ext HEQ.out) hn' hc').mono ?_
          rintro e w9 ⟨d, M, z1, z2, z3, r1, r2, r3, rfl, hE9, hd, hM, hMc, hsd⟩
          have HE9 : Hid (Ext w (w9.alloc (.cells #[.slice z1 d.things.length r1, .slice z2 d.batches.length r2] 26))) := Ext.tr (Ext.tr HEQ.out hE9) (ext_alloc _ _)
          have HRY : Hid (Rec (w9.alloc (.cells #[.slice z1 d.things.length r1, .slice z2 d.batches.length r2] 26)) w9.heap.size 26 [.slice z1 d.things.length r1, .slice z2 d.batches.length r2]) := Rec.new w9 _ _
          have HD9 := hid (hd.ext (ext_alloc w9 (.cells #[.slice z1 d.things.length r1, .slice z2 d.batches.length r2] 26)))
          have HM9 := hid (hM.ext (ext_alloc w9 (.cells #[.slice z1 d.things.length r1, .slice z2 d.batches.length r2] 26)))
          have HMC := hid hMc
          clear hE9 hd hM hMc
          have m0 := HRY.out.cell (i := 0) rfl
          have m1 := HRY.out.cell (i := 1) rfl
          go_wp2_with fail
          clear m0 m1
          generalize w9.alloc (.cells #[.slice z1 d.things.length r1, .slice z2 d.batches.length r2] 26) = w10 at HE9 HRY HD9 HM9 ⊢
          generalize w9.heap.size = Y at HRY ⊢
          have hf1 := implFits_any d M z1 z2 z3 r1 r2 r3 w10 HD9.out HM9.out
          have HFS : Hid (fitsB d M = true → safeB d = true) := fun hs => fits_safe hs
          generalize hft : fitsB d M = f at hf1 HFS
          have HFT := hid hft
          clear hft
          refine hf1.mono ?_
          clear hf1
          rintro e w11 ⟨rfl, hE11⟩
          have HE11 := hid (Ext.tr HE9.out hE11)
          have HRY11 := hid (HRY.out.ext hE11)
          have HD11 := hid (HD9.out.ext hE11)
          have HM11 := hid (HM9.out.ext hE11)
          clear HE9 HRY HD9 HM9 hE11
          have m0 := HRY11.out.cell (i := 0) rfl
          have m1 := HRY11.out.cell (i := 1) rfl
          go_wp2_with fail
          have hf2 := specFits_any d M z1 z2 z3 r1 r2 r3 w11 HD11.out HM11.out HMC.out
          rw [HFT.out] at hf2
          refine hf2.mono ?_
          clear hf2
          rintro e w12 ⟨rfl, hE12⟩
          have HE12 := hid (Ext.tr HE11.out hE12)
          have HD12 := hid (HD11.out.ext hE12)
          replace m0 := hE12.keep m0
          replace m1 := hE12.keep m1
          clear hE12
          cases f
          · go_wp2
            go_ret
            exact ⟨rfl, HE12.out⟩
          · go_wp2_with fail
            have hf3 := implSafe_any d z1 z2 r1 r2 w12 HD12.out
            rw [HFS.out (by first | rfl | trivial)] at hf3
            refine hf3.mono ?_
            clear hf3
            rintro e w13 ⟨rfl, hE13⟩
            have HE13 := hid (Ext.tr HE12.out hE13)
            clear hE13
            go_wp2
            go_ret
            exact ⟨rfl, HE13.out⟩
end Go.Proofs.Ytdafpnpfcmgfcaa
