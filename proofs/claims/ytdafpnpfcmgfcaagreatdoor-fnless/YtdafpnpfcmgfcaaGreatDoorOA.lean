/- The walk over the laws' wTexts. The laws' wBook where both books are the same. -/
import Derived.Test.YtdafpnpfcmgfcaaGreatDoorWB
import Derived.Test.YtdafpnpfcmgfcaaGreatDoorH2
import Derived.Deep.RegionHeld3
import Derived.Test.YtdafpnpfcmgfcaaGreatDoorS1
namespace Go.Proofs.YtdafpnpfcmgfcaaGreatDoor
open Go.RowKit
attribute [local go_sem] S_toList S_size S_get

set_option maxHeartbeats 400000 in
theorem wTexts_any (a b : Option Addr) (ca cb : Nat) (sa sb : List Str) (w : World) (ha : StrsAt w a sa) (hb : StrsAt w b sb) :
    Calls Tryz.prog 54 #[.slice a sa.length ca, .slice b sb.length cb] w fun e w' => e = .returned (.bool (eqS sa sb)) ∧ ∃ n, w' = w.drewN n := by
  have hn := ha.1
  have hn' := hb.1
  by_cases hl : sa.length = sb.length
  · have HL := hl
    have hl' : ((sa.length : Int) == (sb.length : Int)) = true := by simp; omega
    go_enter Tryz.func54, Tryz.ntmps54
    have HL : Hid (sa.length = sb.length) := hl
    have hle : sa.length ≤ sb.length := by omega
    clear hl
    go_wp2
    go_loopw [5] (fun i wr => ∃ k : Nat, k ≤ sa.length ∧ i = .int .i64 k ∧ (∃ m, wr = w.drewN m) ∧ ∀ j, j < k → (nth sa j == nth sb j) = true) (fun i _ => sa.length - (intOf i).toNat)
    case atStart => exact ⟨0, Nat.zero_le _, rfl, ⟨0, rfl⟩, fun j hj => by omega⟩
    case round =>
      obtain ⟨k, hk, rfl, hm, hx⟩ := hrel
      have HX : Hid (∀ j, j < k → (nth sa j == nth sb j) = true) := hx
      have ha' := ha.draws hm
      have hb' := hb.draws hm
      have HM : Hid (∃ m, wr = w.drewN m) := hm
      clear hx hm
      by_cases hlt : k < sa.length
      · have hltb : k < sb.length := by omega
        obtain ⟨_, ba, oa, rfl, hc⟩ := ha'.2 k hlt
        obtain ⟨_, bb, ob, rfl, hcb⟩ := hb'.2 k hltb
        cases hq : (nth sa k == nth sb k)
        · have HF : Hid (eqS sa sb = false) := eqS_no hq
          go_wp2
          go_quiet (fail)
          go_wp2
          go_ret
          exact ⟨ret_bool HF.out.symm, drewN_tr HM.out ⟨_, rfl⟩⟩
        · have HQ : Hid ((nth sa k == nth sb k) = true) := hq
          go_wp2
          go_quiet (fail)
          go_wp2
          go_roundw
          case rel => exact ⟨k + 1, by omega, by go_num, drewN_tr HM.out ⟨_, rfl⟩, fun j hj => by
            by_cases e : j = k
            · rw [e]; exact HQ.out
            · exact HX.out j (by omega)⟩
          case measure => simp [intOf]; omega
      · have HF : Hid (eqS sa sb = true) := eqS_yes HL.out (fun j hj => HX.out j (by omega))
        go_wp2
        go_ret
        exact ⟨ret_bool HF.out.symm, HM.out⟩
  · have hl' : ((sa.length : Int) == (sb.length : Int)) = false := by simp; omega
    have HF : Hid (eqS sa sb = false) := eqS_len hl
    go_enter Tryz.func54, Tryz.ntmps54
    go_wp2
    go_ret
    exact ⟨ret_bool HF.out.symm, 0, rfl⟩
end Go.Proofs.YtdafpnpfcmgfcaaGreatDoor
namespace Go.Proofs.YtdafpnpfcmgfcaaGreatDoor
open Go.RowKit
attribute [local go_sem] S_toList S_size S_get

set_option maxRecDepth 100000 in
set_option maxHeartbeats 2000000 in
theorem wBook_same (b : Book) (a1 a2 d1 d2 : Option Addr) (c1 c2 e1 e2 : Nat) (w : World) (ha : BookAt w a1 a2 b) (hd : BookAt w d1 d2 b) :
    Calls Tryz.prog 16 #[.agg #[.slice a1 b.things.length c1, .slice a2 b.batches.length c2], .agg #[.slice d1 b.things.length e1, .slice d2 b.batches.length e2]] w fun e w' => e = .returned (.bool true) ∧ Ext w w' := by
  have hbl := ha.2.1
  have es := eqS_self b.things
  have e2' : ∀ o1 o2, Ext w ((w.alloc o1).alloc o2) := fun o1 o2 => Ext.tr (ext_alloc _ _) (ext_alloc _ _)
  go_enter Tryz.func16, Tryz.ntmps16
  go_wp2_with fail
  refine (wTexts_any _ _ _ _ _ _ _ (ha.1.ext (e2' _ _)) (hd.1.ext (e2' _ _))).mono ?_
  rintro e w1 ⟨rfl, n1, hw1⟩
  have hE1 : Ext ((w.alloc (.cells #[.slice a1 b.things.length c1, .slice a2 b.batches.length c2] 26)).alloc (.cells #[.slice d1 b.things.length e1, .slice d2 b.batches.length e2] 26)) w1 := by rw [hw1]; exact ext_drewN _ _
  have HR1 : Hid (Rec w1 w.heap.size 26 [.slice a1 b.things.length c1, .slice a2 b.batches.length c2]) := (Rec.new w _ _).ext (Ext.tr (ext_alloc _ _) hE1)
  have HR2 : Hid (Rec w1 (w.heap.size + 1) 26 [.slice d1 b.things.length e1, .slice d2 b.batches.length e2]) := by
    have h' := (Rec.new (w.alloc (.cells #[.slice a1 b.things.length c1, .slice a2 b.batches.length c2] 26)) 26 [.slice d1 b.things.length e1, .slice d2 b.batches.length e2]).ext hE1
    have h2 : Rec w1 (w.heap.size + 1) 26 [.slice d1 b.things.length e1, .slice d2 b.batches.length e2] := by simpa using h'
    exact h2
  have HE1 := hid (Ext.tr (e2' _ _) hE1)
  clear hE1 hw1 e2'
  rw [es]
  have p1 := HR1.out.cell (i := 1) rfl
  have q1 := HR2.out.cell (i := 1) rfl
  go_wp2_with fail
  go_loopw [5] (fun i wr => ∃ k : Nat, k ≤ b.batches.length ∧ i = .int .i64 k ∧ Ext w1 wr) (fun i _ => b.batches.length - (intOf i).toNat)
  case atStart => exact ⟨0, Nat.zero_le _, rfl, Ext.rfl' _⟩
  case round =>
    obtain ⟨k, hk, rfl, hext⟩ := hrel
    have HE := hid hext
    have HRa := hid (HR1.out.ext hext)
    have HRb := hid (HR2.out.ext hext)
    have p1 := HRa.out.cell (i := 1) rfl
    have q1 := HRb.out.cell (i := 1) rfl
    have ha' := ha.ext (Ext.tr HE1.out hext)
    have hd' := hd.ext (Ext.tr HE1.out hext)
    clear hext
    by_cases hlt : k < b.batches.length
    · obtain ⟨ba, oa, rfl, _, xa1, ya1, xa2, ya2, ca0, ca1, ca2, sa1, sa2⟩ := ha'.2.2 k hlt
      obtain ⟨bd, od, rfl, _, xd1, yd1, xd2, yd2, cd0, cd1, cd2, sd1, sd2⟩ := hd'.2.2 k hlt
      have esn : ((nthB b.batches k).name == (nthB b.batches k).name) = true := by simp
      have es1 := eqS_self (nthB b.batches k).has
      have es2 := eqS_self (nthB b.batches k).needs
      go_wp2_with fail
      refine wp_region_T (fun w' => w'.cell? ⟨w.heap.size, 1, none⟩ = some (.slice (some ⟨ba, oa, none⟩) b.batches.length c2) ∧ w'.cell? ⟨w.heap.size + 1, 1, none⟩ = some (.slice (some ⟨bd, od, none⟩) b.batches.length e2) ∧
        w'.cell? ⟨ba, oa + k * 3, none⟩ = some (.string (S (nthB b.batches k).name)) ∧ w'.cell? ⟨bd, od + k * 3, none⟩ = some (.string (S (nthB b.batches k).name)) ∧
        w'.cell? ⟨ba, oa + k * 3 + 1, none⟩ = some (.slice xa1 (nthB b.batches k).has.length ya1) ∧ w'.cell? ⟨bd, od + k * 3 + 1, none⟩ = some (.slice xd1 (nthB b.batches k).has.length yd1) ∧
        w'.cell? ⟨ba, oa + k * 3 + 2, none⟩ = some (.slice xa2 (nthB b.batches k).needs.length ya2) ∧ w'.cell? ⟨bd, od + k * 3 + 2, none⟩ = some (.slice xd2 (nthB b.batches k).needs.length yd2)) 45 (by kernel_rfl) ⟨p1, q1, ca0, cd0, ca1, cd1, ca2, cd2⟩ (fun hS => ?_)
      refine wpT_takeN 0 (v := ?_) rfl rfl (by kernel_rfl) (by kernel_rfl) (by kernel_rfl) (by kernel_rfl) (fun _ _ _ h => h) hS rfl (by intro w0 hw0; (try dsimp only at hw0); go_simp; try rfl) ?_
      try simp only [List.set]
      refine wpT_takeN 1 (v := ?_) rfl rfl (by kernel_rfl) (by kernel_rfl) (by kernel_rfl) (by kernel_rfl) (fun _ _ _ h => h) hS rfl (by intro w0 hw0; (try dsimp only at hw0); go_simp; try rfl) ?_
      try simp only [List.set]
      refine wpT_takeN 2 (v := ?_) rfl rfl (by kernel_rfl) (by kernel_rfl) (by kernel_rfl) (by kernel_rfl) (fun _ _ _ h => h) hS rfl (by intro w0 hw0; (try dsimp only at hw0); go_simp; try rfl) ?_
      try simp only [List.set]
      refine wpT_takeN 3 (v := ?_) rfl rfl (by kernel_rfl) (by kernel_rfl) (by kernel_rfl) (by kernel_rfl) (fun _ _ _ h => h) hS rfl (by intro w0 hw0; (try dsimp only at hw0); go_simp; try rfl) ?_
      try simp only [List.set]
      refine wpT_takeN 4 (v := ?_) rfl rfl (by kernel_rfl) (by kernel_rfl) (by kernel_rfl) (by kernel_rfl) (fun _ _ _ h => h) hS rfl (by intro w0 hw0; (try dsimp only at hw0); go_simp; try rfl) ?_
      try simp only [List.set]
      refine wpT_takeN 5 (v := ?_) rfl rfl (by kernel_rfl) (by kernel_rfl) (by kernel_rfl) (by kernel_rfl) (fun _ _ _ h => h) hS rfl (by intro w0 hw0; (try dsimp only at hw0); go_simp; try rfl) ?_
      try simp only [List.set]
      refine wpT_takeN 6 (v := ?_) rfl rfl (by kernel_rfl) (by kernel_rfl) (by kernel_rfl) (by kernel_rfl) (fun _ _ _ h => h) hS rfl (by intro w0 hw0; (try dsimp only at hw0); go_simp; try rfl) ?_
      try simp only [List.set]
      refine wpT_takeN 7 (v := ?_) rfl rfl (by kernel_rfl) (by kernel_rfl) (by kernel_rfl) (by kernel_rfl) (fun _ _ _ h => h) hS rfl (by intro w0 hw0; (try dsimp only at hw0); go_simp; try rfl) ?_
      try simp only [List.set]
      refine wpT_takeN 8 (v := ?_) rfl rfl (by kernel_rfl) (by kernel_rfl) (by kernel_rfl) (by kernel_rfl) (fun _ _ _ h => h) hS rfl (by intro w0 hw0; (try dsimp only at hw0); go_simp; try rfl) ?_
      try simp only [List.set]
      refine wpT_takeN 9 (v := ?_) rfl rfl (by kernel_rfl) (by kernel_rfl) (by kernel_rfl) (by kernel_rfl) (fun _ _ _ h => h) hS rfl (by intro w0 hw0; (try dsimp only at hw0); go_simp; try rfl) ?_
      try simp only [List.set]
      refine wpT_takeN 10 (v := ?_) rfl rfl (by kernel_rfl) (by kernel_rfl) (by kernel_rfl) (by kernel_rfl) (fun _ _ _ h => h) hS rfl (by intro w0 hw0; (try dsimp only at hw0); go_simp; try rfl) ?_
      try simp only [List.set]
      refine wpT_takeN 11 (v := ?_) rfl rfl (by kernel_rfl) (by kernel_rfl) (by kernel_rfl) (by kernel_rfl) (fun _ _ _ h => h) hS rfl (by intro w0 hw0; (try dsimp only at hw0); go_simp; try rfl) ?_
      try simp only [List.set]
      refine wpT_takeN 12 (v := .bool false) rfl rfl (by kernel_rfl) (by kernel_rfl) (by kernel_rfl) (by kernel_rfl) (fun _ _ _ h => h) hS rfl (by intro w0 hw0; (try dsimp only at hw0); go_simp) ?_
      try simp only [List.set]
      refine wpT_takeN 13 (v := ?_) rfl rfl (by kernel_rfl) (by kernel_rfl) (by kernel_rfl) (by kernel_rfl) (fun _ _ _ h => h) hS rfl (by intro w0 hw0; (try dsimp only at hw0); go_simp; try rfl) ?_
      try simp only [List.set]
      refine wpT_takeN 14 (v := ?_) rfl rfl (by kernel_rfl) (by kernel_rfl) (by kernel_rfl) (by kernel_rfl) (fun _ _ _ h => h) hS rfl (by intro w0 hw0; (try dsimp only at hw0); go_simp; try rfl) ?_
      try simp only [List.set]
      refine wpT_takeN 15 (v := ?_) rfl rfl (by kernel_rfl) (by kernel_rfl) (by kernel_rfl) (by kernel_rfl) (fun _ _ _ h => h) hS rfl (by intro w0 hw0; (try dsimp only at hw0); go_simp; try rfl) ?_
      try simp only [List.set]
      refine wpT_takeN 16 (v := ?_) rfl rfl (by kernel_rfl) (by kernel_rfl) (by kernel_rfl) (by kernel_rfl) (fun _ _ _ h => h) hS rfl (by intro w0 hw0; (try dsimp only at hw0); go_simp; try rfl) ?_
      try simp only [List.set]
      refine wpT_takeN 17 (v := ?_) rfl rfl (by kernel_rfl) (by kernel_rfl) (by kernel_rfl) (by kernel_rfl) (fun _ _ _ h => h) hS rfl (by intro w0 hw0; (try dsimp only at hw0); go_simp; try rfl) ?_
      try simp only [List.set]
      refine wpT_takeN 18 (v := ?_) rfl rfl (by kernel_rfl) (by kernel_rfl) (by kernel_rfl) (by kernel_rfl) (fun _ _ _ h => h) hS rfl (by intro w0 hw0; (try dsimp only at hw0); go_simp; try rfl) ?_
      try simp only [List.set]
      refine wpT_takeN 19 (v := ?_) rfl rfl (by kernel_rfl) (by kernel_rfl) (by kernel_rfl) (by kernel_rfl) (fun _ _ _ h => h) hS rfl (by intro w0 hw0; (try dsimp only at hw0); go_simp; try rfl) ?_
      try simp only [List.set]
      refine wpT_takeN 20 (v := ?_) rfl rfl (by kernel_rfl) (by kernel_rfl) (by kernel_rfl) (by kernel_rfl) (fun _ _ _ h => h) hS rfl (by intro w0 hw0; (try dsimp only at hw0); go_simp; try rfl) ?_
      try simp only [List.set]
      refine wpT_takeN 21 (v := ?_) rfl rfl (by kernel_rfl) (by kernel_rfl) (by kernel_rfl) (by kernel_rfl) (fun _ _ _ h => h) hS rfl (by intro w0 hw0; (try dsimp only at hw0); go_simp; try rfl) ?_
      try simp only [List.set]
      refine wpT_takeN 22 (v := ?_) rfl rfl (by kernel_rfl) (by kernel_rfl) (by kernel_rfl) (by kernel_rfl) (fun _ _ _ h => h) hS rfl (by intro w0 hw0; (try dsimp only at hw0); go_simp; try rfl) ?_
      try simp only [List.set]
      refine wpT_takeN 23 (v := ?_) rfl rfl (by kernel_rfl) (by kernel_rfl) (by kernel_rfl) (by kernel_rfl) (fun _ _ _ h => h) hS rfl (by intro w0 hw0; (try dsimp only at hw0); go_simp; try rfl) ?_
      try simp only [List.set]
      refine wpT_takeN 24 (v := ?_) rfl rfl (by kernel_rfl) (by kernel_rfl) (by kernel_rfl) (by kernel_rfl) (fun _ _ _ h => h) hS rfl (by intro w0 hw0; (try dsimp only at hw0); go_simp; try rfl) ?_
      try simp only [List.set]
      refine wpT_takeN 25 (v := ?_) rfl rfl (by kernel_rfl) (by kernel_rfl) (by kernel_rfl) (by kernel_rfl) (fun _ _ _ h => h) hS rfl (by intro w0 hw0; (try dsimp only at hw0); go_simp; try rfl) ?_
      try simp only [List.set]
      refine wpT_one 26 rfl (by kernel_rfl) rfl rfl (fun K hK => ?_)
      go_simp
      refine (wTexts_any _ _ _ _ _ _ _ (sa1.drewN 1) (sd1.drewN 1)).mono ?_
      rintro e w3 ⟨rfl, j3, hw3⟩
      have hE3 : Ext wr w3 := by rw [hw3]; exact Ext.tr (ext_drewN _ 1) (ext_drewN _ _)
      clear hw3
      rw [es1]
      go_wp2_with fail
      refine hK.out _ _ ⟨hE3.keep p1, hE3.keep q1, hE3.keep ca0, hE3.keep cd0, hE3.keep ca1, hE3.keep cd1, hE3.keep ca2, hE3.keep cd2⟩ (fun hS1 => ?_)
      clear hK hS
      have hS := hS1
      clear hS1
      try clear K
      try simp only [put_some, List.set]
      refine wpT_takeN 27 (v := ?_) rfl rfl (by kernel_rfl) (by kernel_rfl) (by kernel_rfl) (by kernel_rfl) (fun _ _ _ h => h) hS rfl (by intro w0 hw0; (try dsimp only at hw0); go_simp; try rfl) ?_
      try simp only [List.set]
      refine wpT_takeN 28 (v := ?_) rfl rfl (by kernel_rfl) (by kernel_rfl) (by kernel_rfl) (by kernel_rfl) (fun _ _ _ h => h) hS rfl (by intro w0 hw0; (try dsimp only at hw0); go_simp; try rfl) ?_
      try simp only [List.set]
      refine wpT_takeN 29 (v := ?_) rfl rfl (by kernel_rfl) (by kernel_rfl) (by kernel_rfl) (by kernel_rfl) (fun _ _ _ h => h) hS rfl (by intro w0 hw0; (try dsimp only at hw0); go_simp; try rfl) ?_
      try simp only [List.set]
      refine wpT_takeN 30 (v := ?_) rfl rfl (by kernel_rfl) (by kernel_rfl) (by kernel_rfl) (by kernel_rfl) (fun _ _ _ h => h) hS rfl (by intro w0 hw0; (try dsimp only at hw0); go_simp; try rfl) ?_
      try simp only [List.set]
      refine wpT_takeN 31 (v := ?_) rfl rfl (by kernel_rfl) (by kernel_rfl) (by kernel_rfl) (by kernel_rfl) (fun _ _ _ h => h) hS rfl (by intro w0 hw0; (try dsimp only at hw0); go_simp; try rfl) ?_
      try simp only [List.set]
      refine wpT_takeN 32 (v := ?_) rfl rfl (by kernel_rfl) (by kernel_rfl) (by kernel_rfl) (by kernel_rfl) (fun _ _ _ h => h) hS rfl (by intro w0 hw0; (try dsimp only at hw0); go_simp; try rfl) ?_
      try simp only [List.set]
      refine wpT_takeN 33 (v := ?_) rfl rfl (by kernel_rfl) (by kernel_rfl) (by kernel_rfl) (by kernel_rfl) (fun _ _ _ h => h) hS rfl (by intro w0 hw0; (try dsimp only at hw0); go_simp; try rfl) ?_
      try simp only [List.set]
      refine wpT_takeN 34 (v := ?_) rfl rfl (by kernel_rfl) (by kernel_rfl) (by kernel_rfl) (by kernel_rfl) (fun _ _ _ h => h) hS rfl (by intro w0 hw0; (try dsimp only at hw0); go_simp; try rfl) ?_
      try simp only [List.set]
      refine wpT_takeN 35 (v := ?_) rfl rfl (by kernel_rfl) (by kernel_rfl) (by kernel_rfl) (by kernel_rfl) (fun _ _ _ h => h) hS rfl (by intro w0 hw0; (try dsimp only at hw0); go_simp; try rfl) ?_
      try simp only [List.set]
      refine wpT_takeN 36 (v := ?_) rfl rfl (by kernel_rfl) (by kernel_rfl) (by kernel_rfl) (by kernel_rfl) (fun _ _ _ h => h) hS rfl (by intro w0 hw0; (try dsimp only at hw0); go_simp; try rfl) ?_
      try simp only [List.set]
      refine wpT_takeN 37 (v := ?_) rfl rfl (by kernel_rfl) (by kernel_rfl) (by kernel_rfl) (by kernel_rfl) (fun _ _ _ h => h) hS rfl (by intro w0 hw0; (try dsimp only at hw0); go_simp; try rfl) ?_
      try simp only [List.set]
      refine wpT_takeN 38 (v := ?_) rfl rfl (by kernel_rfl) (by kernel_rfl) (by kernel_rfl) (by kernel_rfl) (fun _ _ _ h => h) hS rfl (by intro w0 hw0; (try dsimp only at hw0); go_simp; try rfl) ?_
      try simp only [List.set]
      refine wpT_takeN 39 (v := ?_) rfl rfl (by kernel_rfl) (by kernel_rfl) (by kernel_rfl) (by kernel_rfl) (fun _ _ _ h => h) hS rfl (by intro w0 hw0; (try dsimp only at hw0); go_simp; try rfl) ?_
      try simp only [List.set]
      refine wpT_takeN 40 (v := ?_) rfl rfl (by kernel_rfl) (by kernel_rfl) (by kernel_rfl) (by kernel_rfl) (fun _ _ _ h => h) hS rfl (by intro w0 hw0; (try dsimp only at hw0); go_simp; try rfl) ?_
      try simp only [List.set]
      refine wpT_takeN 41 (v := ?_) rfl rfl (by kernel_rfl) (by kernel_rfl) (by kernel_rfl) (by kernel_rfl) (fun _ _ _ h => h) hS rfl (by intro w0 hw0; (try dsimp only at hw0); go_simp; try rfl) ?_
      try simp only [List.set]
      refine wpT_one 42 rfl (by kernel_rfl) rfl rfl (fun K hK => ?_)
      go_simp
      refine (wTexts_any _ _ _ _ _ _ _ (sa2.ext hE3) (sd2.ext hE3)).mono ?_
      rintro e w4 ⟨rfl, j4, hw4⟩
      have hE4 : Ext wr w4 := by rw [hw4]; exact Ext.tr hE3 (ext_drewN _ _)
      clear hw4
      rw [es2]
      go_wp2_with fail
      refine hK.out _ _ ⟨hE4.keep p1, hE4.keep q1, hE4.keep ca0, hE4.keep cd0, hE4.keep ca1, hE4.keep cd1, hE4.keep ca2, hE4.keep cd2⟩ (fun hS1 => ?_)
      clear hK hS
      have hS := hS1
      clear hS1
      try clear K
      try simp only [put_some, List.set]
      refine wpT_takeN 43 (v := ?_) rfl rfl (by kernel_rfl) (by kernel_rfl) (by kernel_rfl) (by kernel_rfl) (fun _ _ _ h => h) hS rfl (by intro w0 hw0; (try dsimp only at hw0); go_simp; try rfl) ?_
      try simp only [List.set]
      refine wpT_takeN 44 (v := ?_) rfl rfl (by kernel_rfl) (by kernel_rfl) (by kernel_rfl) (by kernel_rfl) (fun _ _ _ h => h) hS rfl (by intro w0 hw0; (try dsimp only at hw0); go_simp; try rfl) ?_
      try simp only [List.set]
      refine wpT_done (by kernel_rfl) ?_ _
      have HE4 := hid (Ext.tr HE.out hE4)
      clear hE3 hE4 hS sa1 sa2 sd1 sd2 ca0 ca1 ca2 cd0 cd1 cd2 ha' hd'
      go_wp2_with fail
      go_roundw
      case rel => exact ⟨k + 1, by omega, by go_num, HE4.out⟩
      case measure => simp [intOf]; omega
    · have e : k = b.batches.length := by omega
      subst e
      go_wp2_with fail
      go_ret
      exact ⟨rfl, Ext.tr HE1.out HE.out⟩
end Go.Proofs.YtdafpnpfcmgfcaaGreatDoor
