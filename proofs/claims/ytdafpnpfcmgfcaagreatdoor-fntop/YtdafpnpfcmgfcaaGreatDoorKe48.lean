/- The walk over the law's wMissing: what somebody has not of what they need. The walk over the laws' wTexts. The laws' wBook where both books are the same. -/
import Derived.Test.YtdafpnpfcmgfcaaGreatDoorKe47
import Derived.Test.YtdafpnpfcmgfcaaGreatDoorKe18
import Derived.Test.YtdafpnpfcmgfcaaGreatDoorKe38
import Derived.Deep.RegionHeld3
import Derived.Test.YtdafpnpfcmgfcaaGreatDoorKe25
namespace Go.Proofs.YtdafpnpfcmgfcaaGreatDoor
section
open Go.RowKit
attribute [local go_sem] S_toList S_size S_get
theorem lackN_len (y : Batch) : (lackN y).length ≤ y.needs.length := List.length_filter_le _ _
theorem lackTo_len {b : Book} (hok : bookOk b = true) (n : Str) : ∀ i, i ≤ b.batches.length → (lackTo b.batches n i).length ≤ 8 * i
 | 0, _ => by simp [lackTo]
 | i + 1, hi => by
  have ih := lackTo_len hok n i (by omega)
  have h8 := (ok_lens hok (i := i) (by omega)).1
  have e : b.at i = nthB b.batches i := rfl
  rw [e] at h8
  have hl := lackN_len (nthB b.batches i)
  rw [lackTo, List.length_append]
  split
  ·omega
  ·simp; omega
set_option maxRecDepth 100000 in
set_option maxHeartbeats 2000000 in
theorem wMissing_any (b : Book) (n : Str) (a1 a2 : Option Addr) (c1 c2 : Nat) (w : World) (hb : BookAt w a1 a2 b) (hok : bookOk b = true) :
  Calls Qry.prog 21 #[.agg #[.slice a1 b.things.length c1, .slice a2 b.batches.length c2], .string (S n)] w fun e w' => ∃ v, e = .returned v ∧ Ext w w' ∧ OwnL w' w.heap.size v (lackB b n) := by
 have hbn := hb.2.1
 have h5 := ok_five hok
 have HOK := hid hok
 clear hok
 have HRB : Hid (Rec (w.alloc (.cells #[.slice a1 b.things.length c1, .slice a2 b.batches.length c2] 26)) w.heap.size 26 [.slice a1 b.things.length c1, .slice a2 b.batches.length c2]) := Rec.new w _ _
 have HE := hid (ext_alloc w (.cells #[.slice a1 b.things.length c1, .slice a2 b.batches.length c2] 26))
 have hz1 : (w.alloc (.cells #[.slice a1 b.things.length c1, .slice a2 b.batches.length c2] 26)).heap.size = w.heap.size + 1 := by simp
 go_enter Qry.func21, Tryz.ntmps21
 go_wp2_with fail
 generalize w.alloc (.cells #[.slice a1 b.things.length c1, .slice a2 b.batches.length c2] 26) = w1 at *
 have HO0 : Hid (OwnL (w1.alloc (.cells #[] 9)) (w.heap.size + 1) (.slice (some ⟨w.heap.size + 1, 0, none⟩) 0 0) []) := by
  have h := OwnL.made w1 (w.heap.size + 1) (by omega)
  rw [hz1] at h
  exact h
 have HB0 : Hid (Below (w.heap.size + 1) w1 (w1.alloc (.cells #[] 9))) := Below.mono (ext_alloc w1 (.cells #[] 9)) (by omega)
 go_loopw [5, 6] (fun o i wr => ∃ (k : Nat), k ≤ b.batches.length ∧ i = .int .i64 k ∧ Below (w.heap.size + 1) w1 wr ∧ OwnL wr (w.heap.size + 1) o (lackTo b.batches n k)) (fun _ i _ => b.batches.length - (intOf i).toNat)
 case atStart => exact ⟨0, Nat.zero_le _, rfl, HB0.out, HO0.out⟩
 case round =>
  clear HO0 HB0
  obtain ⟨k, hk, rfl, hbel, hown⟩ := hrel
  have hEk : Ext w1 wr := by
   show Below _ _ _
   rw [hz1]; exact hbel
  have HBK := hid hbel
  have HOK1 := hid hown
  have HEW := hid (Ext.tr HE.out hEk)
  have hy1 : wr.cell? ⟨w.heap.size, 1, none⟩ = some (.slice a2 b.batches.length c2) := (HRB.out.ext hEk).cell (i := 1) rfl
  have hb' := hb.ext HEW.out
  clear hbel hown hEk
  generalize wr = wo at *
  by_cases hlt : k < b.batches.length
  ·obtain ⟨ba, oa, rfl, hl, d1, g1, d2, g2, p0, p1, p2, s1, s2⟩ := hb'.2.2 k hlt
   have HLK := hid (lackTo_len HOK.out n k hk)
   have h8 : (nthB b.batches k).needs.length ≤ 8 := (ok_lens HOK.out hlt).1
   have HST : Hid (lackTo b.batches n (k + 1) = lackTo b.batches n k ++ (if ((nthB b.batches k).name == n) = true then lackN (nthB b.batches k) else [])) := rfl
   obtain ⟨ao, co, rfl⟩ := own_sl HOK1.out
   generalize lackTo b.batches n k = LL at *
   cases hq : ((nthB b.batches k).name == n)
   ·have HSF : Hid (lackTo b.batches n (k + 1) = LL) := by
     show _ = _
     have h := HST.out
     rw [hq] at h
     simpa using h
    clear HST
    go_wp2_with fail
    go_loopw [5, 7] (fun o i wk => o = .slice ao LL.length co ∧ i = .int .i64 ((0 : Nat) : Int) ∧ wk = wo) (fun _ _ _ => 0)
    case atStart => exact ⟨rfl, rfl, rfl⟩
    case round =>
     obtain ⟨rfl, rfl, rfl⟩ := hrel
     by_cases hn0 : 0 < (nthB b.batches k).needs.length
     ·go_wp2
      go_roundw
      case rel => exact ⟨k + 1, by omega, by go_num, HBK.out, by rw [HSF.out]; exact HOK1.out⟩
      case measure => simp [intOf]; omega
     ·go_wp2
      go_roundw
      case rel => exact ⟨k + 1, by omega, by go_num, HBK.out, by rw [HSF.out]; exact HOK1.out⟩
      case measure => simp [intOf]; omega
   ·have HSF : Hid (lackTo b.batches n (k + 1) = LL ++ lackN (nthB b.batches k)) := by
     show _ = _
     have h := HST.out
     rw [hq] at h
     simpa using h
    have HSN := hid s2.short
    have hzo : w.heap.size + 1 ≤ wo.heap.size := by
     have h := HBK.out.size
     omega
    clear HST
    go_wp2_with fail
    go_loopw [5, 7] (fun o i wk => ∃ (j : Nat), j ≤ (nthB b.batches k).needs.length ∧ i = .int .i64 j ∧ Below (w.heap.size + 1) wo wk ∧ OwnL wk (w.heap.size + 1) o (LL ++ ((nthB b.batches k).needs.take j).filter (fun t => !hasB (nthB b.batches k).has t))) (fun _ i _ => (nthB b.batches k).needs.length - (intOf i).toNat)
    case atStart => exact ⟨0, Nat.zero_le _, rfl, Below.refl _ _, by simpa using HOK1.out⟩
    case round =>
     obtain ⟨j, hj, rfl, hbj, hoj⟩ := hrel
     have HBJ := hid hbj
     have HOJ := hid hoj
     have hEj : Ext w1 wr := by
      show Below _ _ _
      rw [hz1]; exact HBK.out.trans hbj
     have hbk := hb.ext (Ext.tr HE.out hEj)
     obtain ⟨_, _, e', _, d1', g1', d2', g2', z0, z1, z2, t1, t2⟩ := hbk.2.2 k hlt
     cases e'
     have hyk : wr.cell? ⟨w.heap.size, 1, none⟩ = some (.slice (some ⟨ba, oa, none⟩) b.batches.length c2) := (HRB.out.ext hEj).cell (i := 1) rfl
     have hzk : w.heap.size + 1 ≤ wr.heap.size := by have := hbj.size; omega
     clear hbj hoj hEj hbk p0 p1 p2 s1 s2
     by_cases hltj : j < (nthB b.batches k).needs.length
     ·obtain ⟨hlj, bn, on, rfl, hcj⟩ := t2.2 j hltj
      have HLE : Hid ((((nthB b.batches k).needs.take j).filter (fun t => !hasB (nthB b.batches k).has t)).length ≤ j) := by
       show _ ≤ _
       refine Nat.le_trans (List.length_filter_le _ _) ?_
       rw [List.length_take]; omega
      cases hh : hasB (nthB b.batches k).has (nth (nthB b.batches k).needs j)
      ·have HK : Hid (((nthB b.batches k).needs.take (j + 1)).filter (fun t => !hasB (nthB b.batches k).has t) = ((nthB b.batches k).needs.take j).filter (fun t => !hasB (nthB b.batches k).has t) ++ [nth (nthB b.batches k).needs j]) := by
        show _ = _
        rw [take_filter hltj, hh]
        simp
       have HO1 := hid ((HOJ.out.ext (ext_drewN wr 1)).ext (ext_alloc (wr.drewN 1) (.cells #[.string (S (nth (nthB b.batches k).needs j))] 9)))
       have HS1 : Hid (StrsAt ((wr.drewN 1).alloc (.cells #[.string (S (nth (nthB b.batches k).needs j))] 9)) (some ⟨wr.heap.size, 0, none⟩) [nth (nthB b.batches k).needs j]) := one_str' (wr.drewN 1) _ hlj
       generalize ((nthB b.batches k).needs.take j).filter (fun t => !hasB (nthB b.batches k).has t) = FJ at *
       have HLJ : Hid ((LL ++ FJ).length ≤ 8 * k + j) := by
        show _ ≤ _
        have h1 := HLK.out
        have h2 := HLE.out
        rw [List.length_append]; omega
       generalize hGJ : LL ++ FJ = GJ at *
       have HGJ := hid hGJ
       clear hGJ
       go_wp2_with fail
       refine wp_region_T (fun w' => w'.cell? ⟨w.heap.size, 1, none⟩ = some (.slice (some ⟨ba, oa, none⟩) b.batches.length c2) ∧ w'.cell? ⟨ba, oa + k * 3 + 1, none⟩ = some (.slice d1' (nthB b.batches k).has.length g1') ∧ w'.cell? ⟨ba, oa + k * 3 + 2, none⟩ = some (.slice (some ⟨bn, on, none⟩) (nthB b.batches k).needs.length g2') ∧ w'.cell? ⟨bn, on + j, none⟩ = some (.string (S (nth (nthB b.batches k).needs j)))) 17 (by kernel_rfl) ⟨hyk, z1, z2, hcj⟩ (fun hS => ?_)
       refine tn 0 hS ?_
       try simp only [List.set]
       refine tn 1 hS ?_
       try simp only [List.set]
       refine tn 2 hS ?_
       try simp only [List.set]
       refine tn 3 hS ?_
       try simp only [List.set]
       refine tn 4 hS ?_
       try simp only [List.set]
       refine tn 5 hS ?_
       try simp only [List.set]
       refine tn 6 hS ?_
       try simp only [List.set]
       refine tn 7 hS ?_
       try simp only [List.set]
       refine tn 8 hS ?_
       try simp only [List.set]
       refine tn 9 hS ?_
       try simp only [List.set]
       refine tn 10 hS ?_
       try simp only [List.set]
       refine tn 11 hS ?_
       try simp only [List.set]
       refine tn 12 hS ?_
       try simp only [List.set]
       refine tn 13 hS ?_
       try simp only [List.set]
       refine tn 14 hS ?_
       try simp only [List.set]
       refine wpT_one 15 rfl (by kernel_rfl) rfl rfl (fun K hK => ?_)
       go_simp
       refine (wHas_v _ _ _ _ _ _ (t1.ext (ext_drewN wr 1)) hh).mono ?_
       rintro e w' ⟨rfl, rfl⟩
       go_wp2_with fail
       refine hK.out _ _ hS (fun hS1 => ?_)
       clear hK hS
       have hS := hS1
       clear hS1
       try clear K
       try simp only [put_some, List.set]
       refine tn 16 hS ?_
       try simp only [List.set]
       refine wpT_done (by kernel_rfl) ?_ _
       clear hS
       go_wp2_with (at_builtin; refine wpList_strs rfl _ _ rfl rfl HO1.out rfl HS1.out ?q1 ?q2 ?_)
       case q1 => have := HLJ.out; simp; omega
       case q2 => simp; omega
       intro v' w' ho' hg' _
       have HNN := hid ho'
       have HBB : Hid (Below (w.heap.size + 1) wo w') := (HBJ.out.trans (Below.mono (Ext.tr (ext_drewN wr 1) (ext_alloc _ _)) hzk)).grown hg' (by simp; omega) (fun g hg => (HOJ.out.lt g hg).1)
       clear ho' hg'
       go_wp2
       go_roundw
       case rel => exact ⟨j + 1, by omega, by go_num, HBB.out, by rw [HK.out, ← List.append_assoc, HGJ.out]; exact HNN.out⟩
       case measure => simp [intOf]; omega
      ·have HK : Hid (((nthB b.batches k).needs.take (j + 1)).filter (fun t => !hasB (nthB b.batches k).has t) = ((nthB b.batches k).needs.take j).filter (fun t => !hasB (nthB b.batches k).has t)) := by
        show _ = _
        rw [take_filter hltj, hh]
        simp
       go_wp2_with fail
       refine wp_region_T (fun w' => w'.cell? ⟨w.heap.size, 1, none⟩ = some (.slice (some ⟨ba, oa, none⟩) b.batches.length c2) ∧ w'.cell? ⟨ba, oa + k * 3 + 1, none⟩ = some (.slice d1' (nthB b.batches k).has.length g1') ∧ w'.cell? ⟨ba, oa + k * 3 + 2, none⟩ = some (.slice (some ⟨bn, on, none⟩) (nthB b.batches k).needs.length g2') ∧ w'.cell? ⟨bn, on + j, none⟩ = some (.string (S (nth (nthB b.batches k).needs j)))) 17 (by kernel_rfl) ⟨hyk, z1, z2, hcj⟩ (fun hS => ?_)
       refine tn 0 hS ?_
       try simp only [List.set]
       refine tn 1 hS ?_
       try simp only [List.set]
       refine tn 2 hS ?_
       try simp only [List.set]
       refine tn 3 hS ?_
       try simp only [List.set]
       refine tn 4 hS ?_
       try simp only [List.set]
       refine tn 5 hS ?_
       try simp only [List.set]
       refine tn 6 hS ?_
       try simp only [List.set]
       refine tn 7 hS ?_
       try simp only [List.set]
       refine tn 8 hS ?_
       try simp only [List.set]
       refine tn 9 hS ?_
       try simp only [List.set]
       refine tn 10 hS ?_
       try simp only [List.set]
       refine tn 11 hS ?_
       try simp only [List.set]
       refine tn 12 hS ?_
       try simp only [List.set]
       refine tn 13 hS ?_
       try simp only [List.set]
       refine tn 14 hS ?_
       try simp only [List.set]
       refine wpT_one 15 rfl (by kernel_rfl) rfl rfl (fun K hK => ?_)
       go_simp
       refine (wHas_v _ _ _ _ _ _ (t1.ext (ext_drewN wr 1)) hh).mono ?_
       rintro e w' ⟨rfl, rfl⟩
       go_wp2_with fail
       refine hK.out _ _ hS (fun hS1 => ?_)
       clear hK hS
       have hS := hS1
       clear hS1
       try clear K
       try simp only [put_some, List.set]
       refine tn 16 hS ?_
       try simp only [List.set]
       refine wpT_done (by kernel_rfl) ?_ _
       clear hS
       go_wp2
       go_roundw
       case rel => exact ⟨j + 1, by omega, by go_num, HBJ.out.trans (Below.mono (ext_drewN wr 1) hzk), by rw [HK.out]; exact HOJ.out.ext (ext_drewN wr 1)⟩
       case measure => simp [intOf]; omega
     ·have e : j = (nthB b.batches k).needs.length := by omega
      subst e
      rw [List.take_length] at HOJ
      go_wp2
      go_roundw
      case rel => exact ⟨k + 1, by omega, by go_num, HBK.out.trans HBJ.out, by rw [HSF.out]; exact HOJ.out⟩
      case measure => simp [intOf]; omega
  ·have e : k = b.batches.length := by omega
   subst e
   go_wp2
   go_ret
   exact ⟨_, rfl, HEW.out, HOK1.out.low (by omega)⟩
end
section
open Go.RowKit
attribute [local go_sem] S_toList S_size S_get
set_option maxHeartbeats 400000 in
theorem wTexts_any (a b : Option Addr) (ca cb : Nat) (sa sb : List Str) (w : World) (ha : StrsAt w a sa) (hb : StrsAt w b sb) :
  Calls Qry.prog 54 #[.slice a sa.length ca, .slice b sb.length cb] w fun e w' => e = .returned (.bool (eqS sa sb)) ∧ ∃ n, w' = w.drewN n := by
 have hn := ha.1
 have hn' := hb.1
 by_cases hl : sa.length = sb.length
 ·have HL := hl
  have hl' : ((sa.length : Int) == (sb.length : Int)) = true := by simp; omega
  go_enter Qry.func54, Tryz.ntmps54
  have HL : Hid (sa.length = sb.length) := hl
  have hle : sa.length ≤ sb.length := by omega
  clear hl
  go_wp2
  go_loopw [5] (fun i wr => ∃ k : Nat, k ≤ sa.length ∧ i = .int .i64 k ∧ (∃ m, wr = w.drewN m) ∧ ∀ j, j < k → (nth sa j == nth sb j) = true) (fun i _ => sa.length - (intOf i).toNat)
  case atStart => exact ⟨0, Nat.zero_le _, rfl, ⟨0, rfl⟩, fun j hj => by omega⟩
  case round =>
   obtain ⟨k, hk, rfl, hm, hx⟩ := hrel
   have HX : Hid (∀ j, j < k → (nth sa j == nth sb j) = true) := hx
   have ha' := ha.draws hm
   have hb' := hb.draws hm
   have HM : Hid (∃ m, wr = w.drewN m) := hm
   clear hx hm
   by_cases hlt : k < sa.length
   ·have hltb : k < sb.length := by omega
    obtain ⟨_, ba, oa, rfl, hc⟩ := ha'.2 k hlt
    obtain ⟨_, bb, ob, rfl, hcb⟩ := hb'.2 k hltb
    cases hq : (nth sa k == nth sb k)
    ·have HF : Hid (eqS sa sb = false) := eqS_no hq
     go_wp2
     go_quiet (fail)
     go_wp2
     go_ret
     exact ⟨ret_bool HF.out.symm, drewN_tr HM.out ⟨_, rfl⟩⟩
    ·have HQ : Hid ((nth sa k == nth sb k) = true) := hq
     go_wp2
     go_quiet (fail)
     go_wp2
     go_roundw
     case rel => exact ⟨k + 1, by omega, by go_num, drewN_tr HM.out ⟨_, rfl⟩, fun j hj => by
      by_cases e : j = k
      ·rw [e]; exact HQ.out
      ·exact HX.out j (by omega)⟩
     case measure => simp [intOf]; omega
   ·have HF : Hid (eqS sa sb = true) := eqS_yes HL.out (fun j hj => HX.out j (by omega))
    go_wp2
    go_ret
    exact ⟨ret_bool HF.out.symm, HM.out⟩
 ·have hl' : ((sa.length : Int) == (sb.length : Int)) = false := by simp; omega
  have HF : Hid (eqS sa sb = false) := eqS_len hl
  go_enter Qry.func54, Tryz.ntmps54
  go_wp2
  go_ret
  exact ⟨ret_bool HF.out.symm, 0, rfl⟩
end
section
open Go.RowKit
attribute [local go_sem] S_toList S_size S_get
set_option maxRecDepth 100000 in
set_option maxHeartbeats 2000000 in
theorem wBook_same (b : Book) (a1 a2 d1 d2 : Option Addr) (c1 c2 e1 e2 : Nat) (w : World) (ha : BookAt w a1 a2 b) (hd : BookAt w d1 d2 b) :
  Calls Qry.prog 16 #[.agg #[.slice a1 b.things.length c1, .slice a2 b.batches.length c2], .agg #[.slice d1 b.things.length e1, .slice d2 b.batches.length e2]] w fun e w' => e = .returned (.bool true) ∧ Ext w w' := by
 have hbl := ha.2.1
 have es := eqS_self b.things
 have e2' : ∀ o1 o2, Ext w ((w.alloc o1).alloc o2) := fun o1 o2 => Ext.tr (ext_alloc _ _) (ext_alloc _ _)
 go_enter Qry.func16, Tryz.ntmps16
 go_wp2_with fail
 refine (wTexts_any _ _ _ _ _ _ _ (ha.1.ext (e2' _ _)) (hd.1.ext (e2' _ _))).mono ?_
 rintro e w1 ⟨rfl, n1, hw1⟩
 have hE1 : Ext ((w.alloc (.cells #[.slice a1 b.things.length c1, .slice a2 b.batches.length c2] 26)).alloc (.cells #[.slice d1 b.things.length e1, .slice d2 b.batches.length e2] 26)) w1 := by rw [hw1]; exact ext_drewN _ _
 have HR1 : Hid (Rec w1 w.heap.size 26 [.slice a1 b.things.length c1, .slice a2 b.batches.length c2]) := (Rec.new w _ _).ext (Ext.tr (ext_alloc _ _) hE1)
 have HR2 : Hid (Rec w1 (w.heap.size + 1) 26 [.slice d1 b.things.length e1, .slice d2 b.batches.length e2]) := by
  have h' := (Rec.new (w.alloc (.cells #[.slice a1 b.things.length c1, .slice a2 b.batches.length c2] 26)) 26 [.slice d1 b.things.length e1, .slice d2 b.batches.length e2]).ext hE1
  have h2 : Rec w1 (w.heap.size + 1) 26 [.slice d1 b.things.length e1, .slice d2 b.batches.length e2] := by simpa using h'
  exact h2
 have HE1 := hid (Ext.tr (e2' _ _) hE1)
 clear hE1 hw1 e2'
 rw [es]
 have p1 := HR1.out.cell (i := 1) rfl
 have q1 := HR2.out.cell (i := 1) rfl
 go_wp2_with fail
 go_loopw [5] (fun i wr => ∃ k : Nat, k ≤ b.batches.length ∧ i = .int .i64 k ∧ Ext w1 wr) (fun i _ => b.batches.length - (intOf i).toNat)
 case atStart => exact ⟨0, Nat.zero_le _, rfl, Ext.rfl' _⟩
 case round =>
  obtain ⟨k, hk, rfl, hext⟩ := hrel
  have HE := hid hext
  have HRa := hid (HR1.out.ext hext)
  have HRb := hid (HR2.out.ext hext)
  have p1 := HRa.out.cell (i := 1) rfl
  have q1 := HRb.out.cell (i := 1) rfl
  have ha' := ha.ext (Ext.tr HE1.out hext)
  have hd' := hd.ext (Ext.tr HE1.out hext)
  clear hext
  by_cases hlt : k < b.batches.length
  ·obtain ⟨ba, oa, rfl, _, xa1, ya1, xa2, ya2, ca0, ca1, ca2, sa1, sa2⟩ := ha'.2.2 k hlt
   obtain ⟨bd, od, rfl, _, xd1, yd1, xd2, yd2, cd0, cd1, cd2, sd1, sd2⟩ := hd'.2.2 k hlt
   have esn : ((nthB b.batches k).name == (nthB b.batches k).name) = true := by simp
   have es1 := eqS_self (nthB b.batches k).has
   have es2 := eqS_self (nthB b.batches k).needs
   go_wp2_with fail
   refine wp_region_T (fun w' => w'.cell? ⟨w.heap.size, 1, none⟩ = some (.slice (some ⟨ba, oa, none⟩) b.batches.length c2) ∧ w'.cell? ⟨w.heap.size + 1, 1, none⟩ = some (.slice (some ⟨bd, od, none⟩) b.batches.length e2) ∧
    w'.cell? ⟨ba, oa + k * 3, none⟩ = some (.string (S (nthB b.batches k).name)) ∧ w'.cell? ⟨bd, od + k * 3, none⟩ = some (.string (S (nthB b.batches k).name)) ∧
    w'.cell? ⟨ba, oa + k * 3 + 1, none⟩ = some (.slice xa1 (nthB b.batches k).has.length ya1) ∧ w'.cell? ⟨bd, od + k * 3 + 1, none⟩ = some (.slice xd1 (nthB b.batches k).has.length yd1) ∧
    w'.cell? ⟨ba, oa + k * 3 + 2, none⟩ = some (.slice xa2 (nthB b.batches k).needs.length ya2) ∧ w'.cell? ⟨bd, od + k * 3 + 2, none⟩ = some (.slice xd2 (nthB b.batches k).needs.length yd2)) 45 (by kernel_rfl) ⟨p1, q1, ca0, cd0, ca1, cd1, ca2, cd2⟩ (fun hS => ?_)
   refine tn 0 hS ?_
   try simp only [List.set]
   refine tn 1 hS ?_
   try simp only [List.set]
   refine tn 2 hS ?_
   try simp only [List.set]
   refine tn 3 hS ?_
   try simp only [List.set]
   refine tn 4 hS ?_
   try simp only [List.set]
   refine tn 5 hS ?_
   try simp only [List.set]
   refine tn 6 hS ?_
   try simp only [List.set]
   refine tn 7 hS ?_
   try simp only [List.set]
   refine tn 8 hS ?_
   try simp only [List.set]
   refine tn 9 hS ?_
   try simp only [List.set]
   refine tn 10 hS ?_
   try simp only [List.set]
   refine tn 11 hS ?_
   try simp only [List.set]
   refine wpT_takeN 12 (v := .bool false) rfl rfl (by kernel_rfl) (by kernel_rfl) (by kernel_rfl) (by kernel_rfl) (fun _ _ _ h => h) hS rfl (by intro w0 hw0; (try dsimp only at hw0); go_simp) ?_
   try simp only [List.set]
   refine tn 13 hS ?_
   try simp only [List.set]
   refine tn 14 hS ?_
   try simp only [List.set]
   refine tn 15 hS ?_
   try simp only [List.set]
   refine tn 16 hS ?_
   try simp only [List.set]
   refine tn 17 hS ?_
   try simp only [List.set]
   refine tn 18 hS ?_
   try simp only [List.set]
   refine tn 19 hS ?_
   try simp only [List.set]
   refine tn 20 hS ?_
   try simp only [List.set]
   refine tn 21 hS ?_
   try simp only [List.set]
   refine tn 22 hS ?_
   try simp only [List.set]
   refine tn 23 hS ?_
   try simp only [List.set]
   refine tn 24 hS ?_
   try simp only [List.set]
   refine tn 25 hS ?_
   try simp only [List.set]
   refine wpT_one 26 rfl (by kernel_rfl) rfl rfl (fun K hK => ?_)
   go_simp
   refine (wTexts_any _ _ _ _ _ _ _ (sa1.drewN 1) (sd1.drewN 1)).mono ?_
   rintro e w3 ⟨rfl, j3, hw3⟩
   have hE3 : Ext wr w3 := by rw [hw3]; exact Ext.tr (ext_drewN _ 1) (ext_drewN _ _)
   clear hw3
   rw [es1]
   go_wp2_with fail
   refine hK.out _ _ ⟨hE3.keep p1, hE3.keep q1, hE3.keep ca0, hE3.keep cd0, hE3.keep ca1, hE3.keep cd1, hE3.keep ca2, hE3.keep cd2⟩ (fun hS1 => ?_)
   clear hK hS
   have hS := hS1
   clear hS1
   try clear K
   try simp only [put_some, List.set]
   refine tn 27 hS ?_
   try simp only [List.set]
   refine tn 28 hS ?_
   try simp only [List.set]
   refine tn 29 hS ?_
   try simp only [List.set]
   refine tn 30 hS ?_
   try simp only [List.set]
   refine tn 31 hS ?_
   try simp only [List.set]
   refine tn 32 hS ?_
   try simp only [List.set]
   refine tn 33 hS ?_
   try simp only [List.set]
   refine tn 34 hS ?_
   try simp only [List.set]
   refine tn 35 hS ?_
   try simp only [List.set]
   refine tn 36 hS ?_
   try simp only [List.set]
   refine tn 37 hS ?_
   try simp only [List.set]
   refine tn 38 hS ?_
   try simp only [List.set]
   refine tn 39 hS ?_
   try simp only [List.set]
   refine tn 40 hS ?_
   try simp only [List.set]
   refine tn 41 hS ?_
   try simp only [List.set]
   refine wpT_one 42 rfl (by kernel_rfl) rfl rfl (fun K hK => ?_)
   go_simp
   refine (wTexts_any _ _ _ _ _ _ _ (sa2.ext hE3) (sd2.ext hE3)).mono ?_
   rintro e w4 ⟨rfl, j4, hw4⟩
   have hE4 : Ext wr w4 := by rw [hw4]; exact Ext.tr hE3 (ext_drewN _ _)
   clear hw4
   rw [es2]
   go_wp2_with fail
   refine hK.out _ _ ⟨hE4.keep p1, hE4.keep q1, hE4.keep ca0, hE4.keep cd0, hE4.keep ca1, hE4.keep cd1, hE4.keep ca2, hE4.keep cd2⟩ (fun hS1 => ?_)
   clear hK hS
   have hS := hS1
   clear hS1
   try clear K
   try simp only [put_some, List.set]
   refine tn 43 hS ?_
   try simp only [List.set]
   refine tn 44 hS ?_
   try simp only [List.set]
   refine wpT_done (by kernel_rfl) ?_ _
   have HE4 := hid (Ext.tr HE.out hE4)
   clear hE3 hE4 hS sa1 sa2 sd1 sd2 ca0 ca1 ca2 cd0 cd1 cd2 ha' hd'
   go_wp2_with fail
   go_roundw
   case rel => exact ⟨k + 1, by omega, by go_num, HE4.out⟩
   case measure => simp [intOf]; omega
  ·have e : k = b.batches.length := by omega
   subst e
   go_wp2_with fail
   go_ret
   exact ⟨rfl, Ext.tr HE1.out HE.out⟩
end
end Go.Proofs.YtdafpnpfcmgfcaaGreatDoor
