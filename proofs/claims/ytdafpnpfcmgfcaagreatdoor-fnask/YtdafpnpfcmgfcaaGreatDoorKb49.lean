/- The walk over the laws' wTexts. The laws' wBook where both books are the same. The walks over l5Thing, DrawShareWho and DrawShareOrder. Who has a thing: the program's ShareWho. Who has a thing: the specification's ShareWho. The walk over the law FnWho. The program's ShareFits. -/
import Derived.Test.YtdafpnpfcmgfcaaGreatDoorKb33
import Derived.Test.YtdafpnpfcmgfcaaGreatDoorKb19
import Derived.Test.YtdafpnpfcmgfcaaGreatDoorKb26
import Derived.Deep.RegionHeld3
import Derived.Test.YtdafpnpfcmgfcaaGreatDoorKb25
import Derived.Test.YtdafpnpfcmgfcaaGreatDoorKb45
import Derived.Test.YtdafpnpfcmgfcaaGreatDoorKb20
import Derived.Test.YtdafpnpfcmgfcaaGreatDoorKb22
namespace Go.Proofs.YtdafpnpfcmgfcaaGreatDoor
section
open Go.RowKit
attribute [local go_sem] S_toList S_size S_get
set_option maxHeartbeats 400000 in
theorem wTexts_any (a b : Option Addr) (ca cb : Nat) (sa sb : List Str) (w : World) (ha : StrsAt w a sa) (hb : StrsAt w b sb) :
  Calls Qry.prog 54 #[.slice a sa.length ca, .slice b sb.length cb] w fun e w' => e = .returned (.bool (eqS sa sb)) ∧ ∃ n, w' = w.drewN n := by
 have hn := ha.1
 have hn' := hb.1
 by_cases hl : sa.length = sb.length
 ·have HL := hl
  have hl' : ((sa.length : Int) == (sb.length : Int)) = true := by simp; omega
  go_enter Qry.func54, Tryz.ntmps54
  have HL : Hid (sa.length = sb.length) := hl
  have hle : sa.length ≤ sb.length := by omega
  clear hl
  go_wp2
  go_loopw [5] (fun i wr => ∃ k : Nat, k ≤ sa.length ∧ i = .int .i64 k ∧ (∃ m, wr = w.drewN m) ∧ ∀ j, j < k → (nth sa j == nth sb j) = true) (fun i _ => sa.length - (intOf i).toNat)
  case atStart => exact ⟨0, Nat.zero_le _, rfl, ⟨0, rfl⟩, fun j hj => by omega⟩
  case round =>
   obtain ⟨k, hk, rfl, hm, hx⟩ := hrel
   have HX : Hid (∀ j, j < k → (nth sa j == nth sb j) = true) := hx
   have ha' := ha.draws hm
   have hb' := hb.draws hm
   have HM : Hid (∃ m, wr = w.drewN m) := hm
   clear hx hm
   by_cases hlt : k < sa.length
   ·have hltb : k < sb.length := by omega
    obtain ⟨_, ba, oa, rfl, hc⟩ := ha'.2 k hlt
    obtain ⟨_, bb, ob, rfl, hcb⟩ := hb'.2 k hltb
    cases hq : (nth sa k == nth sb k)
    ·have HF : Hid (eqS sa sb = false) := eqS_no hq
     go_wp2
     go_quiet (fail)
     go_wp2
     go_ret
     exact ⟨ret_bool HF.out.symm, drewN_tr HM.out ⟨_, rfl⟩⟩
    ·have HQ : Hid ((nth sa k == nth sb k) = true) := hq
     go_wp2
     go_quiet (fail)
     go_wp2
     go_roundw
     case rel => exact ⟨k + 1, by omega, by go_num, drewN_tr HM.out ⟨_, rfl⟩, fun j hj => by
      by_cases e : j = k
      ·rw [e]; exact HQ.out
      ·exact HX.out j (by omega)⟩
     case measure => simp [intOf]; omega
   ·have HF : Hid (eqS sa sb = true) := eqS_yes HL.out (fun j hj => HX.out j (by omega))
    go_wp2
    go_ret
    exact ⟨ret_bool HF.out.symm, HM.out⟩
 ·have hl' : ((sa.length : Int) == (sb.length : Int)) = false := by simp; omega
  have HF : Hid (eqS sa sb = false) := eqS_len hl
  go_enter Qry.func54, Tryz.ntmps54
  go_wp2
  go_ret
  exact ⟨ret_bool HF.out.symm, 0, rfl⟩
end
section
open Go.RowKit
attribute [local go_sem] S_toList S_size S_get
set_option maxRecDepth 100000 in
set_option maxHeartbeats 2000000 in
theorem wBook_same (b : Book) (a1 a2 d1 d2 : Option Addr) (c1 c2 e1 e2 : Nat) (w : World) (ha : BookAt w a1 a2 b) (hd : BookAt w d1 d2 b) :
  Calls Qry.prog 16 #[.agg #[.slice a1 b.things.length c1, .slice a2 b.batches.length c2], .agg #[.slice d1 b.things.length e1, .slice d2 b.batches.length e2]] w fun e w' => e = .returned (.bool true) ∧ Ext w w' := by
 have hbl := ha.2.1
 have es := eqS_self b.things
 have e2' : ∀ o1 o2, Ext w ((w.alloc o1).alloc o2) := fun o1 o2 => Ext.tr (ext_alloc _ _) (ext_alloc _ _)
 go_enter Qry.func16, Tryz.ntmps16
 go_wp2_with fail
 refine (wTexts_any _ _ _ _ _ _ _ (ha.1.ext (e2' _ _)) (hd.1.ext (e2' _ _))).mono ?_
 rintro e w1 ⟨rfl, n1, hw1⟩
 have hE1 : Ext ((w.alloc (.cells #[.slice a1 b.things.length c1, .slice a2 b.batches.length c2] 26)).alloc (.cells #[.slice d1 b.things.length e1, .slice d2 b.batches.length e2] 26)) w1 := by rw [hw1]; exact ext_drewN _ _
 have HR1 : Hid (Rec w1 w.heap.size 26 [.slice a1 b.things.length c1, .slice a2 b.batches.length c2]) := (Rec.new w _ _).ext (Ext.tr (ext_alloc _ _) hE1)
 have HR2 : Hid (Rec w1 (w.heap.size + 1) 26 [.slice d1 b.things.length e1, .slice d2 b.batches.length e2]) := by
  have h' := (Rec.new (w.alloc (.cells #[.slice a1 b.things.length c1, .slice a2 b.batches.length c2] 26)) 26 [.slice d1 b.things.length e1, .slice d2 b.batches.length e2]).ext hE1
  have h2 : Rec w1 (w.heap.size + 1) 26 [.slice d1 b.things.length e1, .slice d2 b.batches.length e2] := by simpa using h'
  exact h2
 have HE1 := hid (Ext.tr (e2' _ _) hE1)
 clear hE1 hw1 e2'
 rw [es]
 have p1 := HR1.out.cell (i := 1) rfl
 have q1 := HR2.out.cell (i := 1) rfl
 go_wp2_with fail
 go_loopw [5] (fun i wr => ∃ k : Nat, k ≤ b.batches.length ∧ i = .int .i64 k ∧ Ext w1 wr) (fun i _ => b.batches.length - (intOf i).toNat)
 case atStart => exact ⟨0, Nat.zero_le _, rfl, Ext.rfl' _⟩
 case round =>
  obtain ⟨k, hk, rfl, hext⟩ := hrel
  have HE := hid hext
  have HRa := hid (HR1.out.ext hext)
  have HRb := hid (HR2.out.ext hext)
  have p1 := HRa.out.cell (i := 1) rfl
  have q1 := HRb.out.cell (i := 1) rfl
  have ha' := ha.ext (Ext.tr HE1.out hext)
  have hd' := hd.ext (Ext.tr HE1.out hext)
  clear hext
  by_cases hlt : k < b.batches.length
  ·obtain ⟨ba, oa, rfl, _, xa1, ya1, xa2, ya2, ca0, ca1, ca2, sa1, sa2⟩ := ha'.2.2 k hlt
   obtain ⟨bd, od, rfl, _, xd1, yd1, xd2, yd2, cd0, cd1, cd2, sd1, sd2⟩ := hd'.2.2 k hlt
   have esn : ((nthB b.batches k).name == (nthB b.batches k).name) = true := by simp
   have es1 := eqS_self (nthB b.batches k).has
   have es2 := eqS_self (nthB b.batches k).needs
   go_wp2_with fail
   refine wp_region_T (fun w' => w'.cell? ⟨w.heap.size, 1, none⟩ = some (.slice (some ⟨ba, oa, none⟩) b.batches.length c2) ∧ w'.cell? ⟨w.heap.size + 1, 1, none⟩ = some (.slice (some ⟨bd, od, none⟩) b.batches.length e2) ∧
    w'.cell? ⟨ba, oa + k * 3, none⟩ = some (.string (S (nthB b.batches k).name)) ∧ w'.cell? ⟨bd, od + k * 3, none⟩ = some (.string (S (nthB b.batches k).name)) ∧
    w'.cell? ⟨ba, oa + k * 3 + 1, none⟩ = some (.slice xa1 (nthB b.batches k).has.length ya1) ∧ w'.cell? ⟨bd, od + k * 3 + 1, none⟩ = some (.slice xd1 (nthB b.batches k).has.length yd1) ∧
    w'.cell? ⟨ba, oa + k * 3 + 2, none⟩ = some (.slice xa2 (nthB b.batches k).needs.length ya2) ∧ w'.cell? ⟨bd, od + k * 3 + 2, none⟩ = some (.slice xd2 (nthB b.batches k).needs.length yd2)) 45 (by kernel_rfl) ⟨p1, q1, ca0, cd0, ca1, cd1, ca2, cd2⟩ (fun hS => ?_)
   refine tn 0 hS ?_
   try simp only [List.set]
   refine tn 1 hS ?_
   try simp only [List.set]
   refine tn 2 hS ?_
   try simp only [List.set]
   refine tn 3 hS ?_
   try simp only [List.set]
   refine tn 4 hS ?_
   try simp only [List.set]
   refine tn 5 hS ?_
   try simp only [List.set]
   refine tn 6 hS ?_
   try simp only [List.set]
   refine tn 7 hS ?_
   try simp only [List.set]
   refine tn 8 hS ?_
   try simp only [List.set]
   refine tn 9 hS ?_
   try simp only [List.set]
   refine tn 10 hS ?_
   try simp only [List.set]
   refine tn 11 hS ?_
   try simp only [List.set]
   refine wpT_takeN 12 (v := .bool false) rfl rfl (by kernel_rfl) (by kernel_rfl) (by kernel_rfl) (by kernel_rfl) (fun _ _ _ h => h) hS rfl (by intro w0 hw0; (try dsimp only at hw0); go_simp) ?_
   try simp only [List.set]
   refine tn 13 hS ?_
   try simp only [List.set]
   refine tn 14 hS ?_
   try simp only [List.set]
   refine tn 15 hS ?_
   try simp only [List.set]
   refine tn 16 hS ?_
   try simp only [List.set]
   refine tn 17 hS ?_
   try simp only [List.set]
   refine tn 18 hS ?_
   try simp only [List.set]
   refine tn 19 hS ?_
   try simp only [List.set]
   refine tn 20 hS ?_
   try simp only [List.set]
   refine tn 21 hS ?_
   try simp only [List.set]
   refine tn 22 hS ?_
   try simp only [List.set]
   refine tn 23 hS ?_
   try simp only [List.set]
   refine tn 24 hS ?_
   try simp only [List.set]
   refine tn 25 hS ?_
   try simp only [List.set]
   refine wpT_one 26 rfl (by kernel_rfl) rfl rfl (fun K hK => ?_)
   go_simp
   refine (wTexts_any _ _ _ _ _ _ _ (sa1.drewN 1) (sd1.drewN 1)).mono ?_
   rintro e w3 ⟨rfl, j3, hw3⟩
   have hE3 : Ext wr w3 := by rw [hw3]; exact Ext.tr (ext_drewN _ 1) (ext_drewN _ _)
   clear hw3
   rw [es1]
   go_wp2_with fail
   refine hK.out _ _ ⟨hE3.keep p1, hE3.keep q1, hE3.keep ca0, hE3.keep cd0, hE3.keep ca1, hE3.keep cd1, hE3.keep ca2, hE3.keep cd2⟩ (fun hS1 => ?_)
   clear hK hS
   have hS := hS1
   clear hS1
   try clear K
   try simp only [put_some, List.set]
   refine tn 27 hS ?_
   try simp only [List.set]
   refine tn 28 hS ?_
   try simp only [List.set]
   refine tn 29 hS ?_
   try simp only [List.set]
   refine tn 30 hS ?_
   try simp only [List.set]
   refine tn 31 hS ?_
   try simp only [List.set]
   refine tn 32 hS ?_
   try simp only [List.set]
   refine tn 33 hS ?_
   try simp only [List.set]
   refine tn 34 hS ?_
   try simp only [List.set]
   refine tn 35 hS ?_
   try simp only [List.set]
   refine tn 36 hS ?_
   try simp only [List.set]
   refine tn 37 hS ?_
   try simp only [List.set]
   refine tn 38 hS ?_
   try simp only [List.set]
   refine tn 39 hS ?_
   try simp only [List.set]
   refine tn 40 hS ?_
   try simp only [List.set]
   refine tn 41 hS ?_
   try simp only [List.set]
   refine wpT_one 42 rfl (by kernel_rfl) rfl rfl (fun K hK => ?_)
   go_simp
   refine (wTexts_any _ _ _ _ _ _ _ (sa2.ext hE3) (sd2.ext hE3)).mono ?_
   rintro e w4 ⟨rfl, j4, hw4⟩
   have hE4 : Ext wr w4 := by rw [hw4]; exact Ext.tr hE3 (ext_drewN _ _)
   clear hw4
   rw [es2]
   go_wp2_with fail
   refine hK.out _ _ ⟨hE4.keep p1, hE4.keep q1, hE4.keep ca0, hE4.keep cd0, hE4.keep ca1, hE4.keep cd1, hE4.keep ca2, hE4.keep cd2⟩ (fun hS1 => ?_)
   clear hK hS
   have hS := hS1
   clear hS1
   try clear K
   try simp only [put_some, List.set]
   refine tn 43 hS ?_
   try simp only [List.set]
   refine tn 44 hS ?_
   try simp only [List.set]
   refine wpT_done (by kernel_rfl) ?_ _
   have HE4 := hid (Ext.tr HE.out hE4)
   clear hE3 hE4 hS sa1 sa2 sd1 sd2 ca0 ca1 ca2 cd0 cd1 cd2 ha' hd'
   go_wp2_with fail
   go_roundw
   case rel => exact ⟨k + 1, by omega, by go_num, HE4.out⟩
   case measure => simp [intOf]; omega
  ·have e : k = b.batches.length := by omega
   subst e
   go_wp2_with fail
   go_ret
   exact ⟨rfl, Ext.tr HE1.out HE.out⟩
end
section
open Go.RowKit
attribute [local go_sem] S_toList S_size S_get
def wordsT : List Str := [[], [122, 122], [107, 101, 103]]
end
section
open Go.RowKit Go.Maps
attribute [local go_sem] S_toList S_size S_get
set_option maxHeartbeats 1000000 in
theorem implWho_any (b : Book) (t : Str) (a1 a2 : Option Addr) (c1 c2 : Nat) (w : World) (hb : BookAt w a1 a2 b) (htl : t.length ≤ 140737488355328) :
  Calls Qry.prog 23 #[.agg #[.slice a1 b.things.length c1, .slice a2 b.batches.length c2], .string (S t)] w fun e w' =>
   e = .returned (.string (S (whoOf b t))) ∧ Ext w w' := by
 have hal : ∀ o, Ext w (w.alloc o) := fun o => (Below.refl _ _).alloc (Nat.le_refl _) _
 have hn := hb.2.1
 cases hok : bookOk b
 ·have HF : Hid ([] = whoOf b t) := by show _ = _; simp [whoOf, hok]
  go_enter Qry.func23, Tryz.ntmps23
  go_wp2_with fail
  refine (implBookOk_any b _ _ _ _ _ (hb.ext (hal _))).mono ?_
  rintro e w1 ⟨rfl, hext1⟩
  have HE1 := hid (Ext.tr (hal _) hext1)
  clear hext1
  go_wp2_with fail
  go_ret
  exact ⟨ret_str HF.out, HE1.out⟩
 ·have HW : Hid (whoOf b t = whoFrom b.batches t) := by show _ = _; simp [whoOf, hok]
  go_enter Qry.func23, Tryz.ntmps23
  go_wp2_with fail
  refine (implBookOk_any b _ _ _ _ _ (hb.ext (hal _))).mono ?_
  rintro e w1 ⟨rfl, hext1⟩
  have HE1 := hid hext1
  have hb1 := hb.ext (Ext.tr (hal _) hext1)
  clear hext1
  have hx0 := box_cell HE1.out (i := 0) rfl
  have hx1 := box_cell HE1.out (i := 1) rfl
  go_wp2_with fail
  refine (holders_any _ _ _ _ hb1.2 (ok_five hok)).mono ?_
  rintro e w2 ⟨hext2, (⟨rfl, ho⟩ | ⟨B, rfl, _, m, D, hom, _, hmap⟩)⟩
  ·rw [ok_once hok] at ho; cases ho
  ·have HE2 := hid (Ext.tr HE1.out hext2)
   have hb2 := hb1.ext hext2
   clear hext2 hx0 hx1
   have hx0 := box_cell HE2.out (i := 0) rfl
   have hx1 := box_cell HE2.out (i := 1) rfl
   have hkey := keyStr htl
   cases hq : hasB (keys (pairsTo b.batches b.batches.length)) t
   ·have hhas : Maps.has D (.string t) = false := by rw [hmap.2.1, hq]
    have HF : Hid ([] = whoOf b t) := by
     show _ = _
     rw [HW.out]
     refine (whoFrom_no (fun j hj => ?_)).symm
     rw [← Bool.not_eq_true, hasB_true] at hq ⊢
     exact fun h => hq (mem_keys.2 ⟨j, hj, h⟩)
    clear hmap hb2
    go_wp2_with (at_lookup; refine wpList_lookup_own_ok_int _ rfl _ _ 85 rfl 9 3 .i64 lawStr (uQ Tryz.underlying85) (uQ Tryz.underlying3) (zeroInt _) B m D rfl hom _ _ rfl hkey ?_; intro c hat hwc; rw [hhas])
    go_ret
    exact ⟨ret_str HF.out, Ext.tr (hal _) HE2.out⟩
   ·have hhas : Maps.has D (.string t) = true := by rw [hmap.2.1, hq]
    obtain ⟨p, hp, hmem⟩ := mem_keys.1 (hasB_true.1 hq)
    have hin : ∀ {n : Nat}, p < n → (t, p) ∈ pairsTo b.batches n := by
     intro n
     induction n with
     | zero => intro h; omega
     | succ n ih =>
      intro h
      rw [pairsTo, List.mem_append]
      by_cases e : p = n
      ·subst e
       exact Or.inr (List.mem_map.2 ⟨t, hmem, rfl⟩)
      ·exact Or.inl (ih (by omega))
    have hat := hmap.2.2 t p (.lit (.int .i64 0)) (hin hp)
    have HF : Hid ((nthB b.batches p).name = whoOf b t) := by
     show _ = _
     rw [HW.out]; exact (who_unique hok hp hmem).symm
    obtain ⟨ba, oa, rfl, hl, d1, g1, d2, g2, p0, p1, p2, s1, s2⟩ := hb2.2.2 p hp
    have HAT := hid hat
    clear hmap hb2 hin hat hb1 hb
    go_wp2_with (at_lookup; refine wpList_lookup_own_ok_int _ rfl _ _ 85 rfl 9 3 .i64 lawStr (uQ Tryz.underlying85) (uQ Tryz.underlying3) (zeroInt _) B m D rfl hom _ _ rfl hkey ?_; intro c hat hwc; rw [hhas, lit_inj HAT.out hat])
    go_ret
    exact ⟨ret_str HF.out, Ext.tr (hal _) HE2.out⟩
end
section
open Go.RowKit Go.Maps
attribute [local go_sem] S_toList S_size S_get
end
section
open Go.RowKit
attribute [local go_sem] S_toList S_size S_get
def CntOk (b : Book) (t : Str) (k c : Nat) : Prop := (c = 0 ∧ ∀ j, j < k → hasB (nthB b.batches j).has t = false) ∨ (c = 1 ∧ ∃ j, j < k ∧ hasB (nthB b.batches j).has t = true)
end
section
open Go.RowKit
attribute [local go_sem] S_toList S_size S_get
set_option maxHeartbeats 1000000 in
theorem implFits_any (b : Book) (order : List Str) (a1 a2 a3 : Option Addr) (c1 c2 c3 : Nat) (w : World) (hb : BookAt w a1 a2 b) (ho : StrsAt w a3 order) :
  Calls Qry.prog 66 #[.agg #[.slice a1 b.things.length c1, .slice a2 b.batches.length c2], .slice a3 order.length c3] w fun e w' =>
   e = .returned (.bool (fitsB b order)) ∧ Ext w w' := by
 have hal : ∀ o, Ext w (w.alloc o) := fun o => (Below.refl _ _).alloc (Nat.le_refl _) _
 have hn := hb.2.1
 have hno := ho.1
 cases hok : bookOk b
 ·have HF : Hid (fitsB b order = false) := by show _ = false; simp [fitsB, hok]
  go_enter Qry.func66, Tryz.ntmps66
  go_wp2_with fail
  refine (implBookOk_any b _ _ _ _ _ (hb.ext (hal _))).mono ?_
  rintro e w1 ⟨rfl, hext1⟩
  have HE1 := hid (Ext.tr (hal _) hext1)
  clear hext1
  go_wp2_with fail
  go_ret
  exact ⟨ret_bool HF.out.symm, HE1.out⟩
 ·by_cases hlen : order.length = b.batches.length
  ·have hd : ((order.length : Int) != (b.batches.length : Int)) = false := by simp; omega
   have HL := hid hlen
   have HOK := hid hok
   clear hlen
   go_enter Qry.func66, Tryz.ntmps66
   go_wp2_with fail
   refine (implBookOk_any b _ _ _ _ _ (hb.ext (hal _))).mono ?_
   rintro e w1 ⟨rfl, hext1⟩
   have HE1 := hid hext1
   clear hext1
   have hx0 := box_cell HE1.out (i := 0) rfl
   have hx1 := box_cell HE1.out (i := 1) rfl
   go_wp2_with fail
   refine (batchNames_any _ _ _ _ (hb.2.ext (Ext.tr (hal _) HE1.out))).mono ?_
   rintro e w2 ⟨an, cn, rfl, hext2, hnames⟩
   have HE2 := hid (Ext.tr HE1.out hext2)
   have HN := hid hnames
   clear hx0 hx1 hext2 hnames
   have hx0 := box_cell HE2.out (i := 0) rfl
   have hx1 := box_cell HE2.out (i := 1) rfl
   go_wp2_with fail
   refine (startGoing_any b _ _ _ _ _ (hb.ext (Ext.tr (hal _) HE2.out)) HOK.out (ok_things HOK.out) (ok_five HOK.out)).mono ?_
   rintro e w3 ⟨base, g, bg, vh, vn, rfl, hext3, hg, hbg, hgo⟩
   have HE3 := hid hext3
   have HGO : Hid (GoneAt w3 base g bg vh vn b []) := ⟨List.replicate b.batches.length false, by simp, fun i hi => by simp [gnth, outOf, hasB, List.getD_eq_getElem?_getD, hi], by
    have e : freeN b (fun _ => false) = freeN b (outOf b []) := freeN_congr (fun i _ => by simp [outOf, hasB])
    rw [← e]; exact hgo⟩
   have HEW2 := hid (Ext.tr (hal _) HE2.out)
   clear hx0 hx1 hext3 hgo
   go_wp2_with fail
   go_loopw [28] (fun i wr => ∃ k : Nat, k ≤ order.length ∧ i = .int .i64 k ∧ Ext w2 wr ∧ GoneAt wr base g bg vh vn b (order.take k) ∧ ∀ j, j < k → stepB b order j = true) (fun i _ => order.length - (intOf i).toNat)
   case atStart => exact ⟨0, Nat.zero_le _, rfl, HE3.out, HGO.out, fun j hj => by omega⟩
   case round =>
    obtain ⟨k, hk, rfl, hext, hgone, hx⟩ := hrel
    have ho' := ho.ext (Ext.tr HEW2.out hext)
    have hN' := HN.out.ext hext
    have HX := hid hx
    have HE := hid hext
    have HGN := hid hgone
    clear hx hext hgone
    by_cases hlt : k < order.length
    ·obtain ⟨hol, bo, oo, rfl, hco⟩ := ho'.2 k hlt
     by_cases hp : place (namesOf b.batches) (nth order k) < b.batches.length
     ·obtain ⟨p, hpe⟩ : ∃ p, place (namesOf b.batches) (nth order k) = p := ⟨_, rfl⟩
      rw [hpe] at hp
      have HP := hid hpe
      clear hpe
      have HST : Hid (stepB b order k = (!hasB (order.take k) (nth order k) && canB b p (order.take k))) := by
       show _ = _
       unfold stepB; rw [HP.out]; simp [hp]
      cases hv : (!hasB (order.take k) (nth order k) && canB b p (order.take k))
      ·have HF : Hid (fitsB b order = false) := fitsB_no hlt (by rw [HST.out, hv])
       go_wp2_with fail
       refine (slicesIndex_yes _ _ _ _ p _ hN' HP.out (by rw [namesOf_length]; exact hp)).mono ?_
       rintro e w4 ⟨rfl, rfl⟩
       go_wp2_with fail
       refine (canGo_v false HGN.out HOK.out HP.out hp hv).mono ?_
       rintro e w5 ⟨rfl, n5, rfl⟩
       go_wp2_with fail
       go_ret
       exact ⟨ret_bool HF.out.symm, Ext.tr HEW2.out (Ext.tr HE.out (ext_drewN _ _))⟩
      ·have HQ := hid (HST.out.trans hv)
       have hx : hasB (order.take k) (nth order k) = false := by
        cases h : hasB (order.take k) (nth order k)
        ·rfl
        ·rw [h] at hv; simp at hv
       have HNX := hid hx
       clear hx
       go_wp2_with fail
       refine (slicesIndex_yes _ _ _ _ p _ hN' HP.out (by rw [namesOf_length]; exact hp)).mono ?_
       rintro e w4 ⟨rfl, rfl⟩
       go_wp2_with fail
       refine (canGo_v true HGN.out HOK.out HP.out hp hv).mono ?_
       rintro e w5 ⟨rfl, n5, rfl⟩
       go_wp2_with fail
       refine (leave_v (HGN.out.ext (ext_drewN _ _)) HOK.out HP.out hp HNX.out (Ext.tr HE.out (ext_drewN _ _)) hg hbg).mono ?_
       rintro e w6 ⟨rfl, hext6, hgo6⟩
       have HE6 := hid hext6
       have HG6 := hid hgo6
       clear hext6 hgo6
       go_wp2
       go_roundw
       case rel => exact ⟨k + 1, by omega, by go_num, HE6.out, by rw [take_snoc' hlt]; exact HG6.out, fun j hj => by
        by_cases e : j = k
        ·rw [e]; exact HQ.out
        ·exact HX.out j (by omega)⟩
       case measure => simp [intOf]; omega
     ·have HF : Hid (fitsB b order = false) := fitsB_no hlt (by simp [stepB, hp])
      go_wp2_with fail
      refine (slicesIndex_no _ _ _ _ _ hN' (by rw [namesOf_length]; exact hp)).mono ?_
      rintro e w4 ⟨rfl, rfl⟩
      go_wp2_with fail
      go_ret
      exact ⟨ret_bool HF.out.symm, Ext.tr HEW2.out HE.out⟩
    ·have HF : Hid (fitsB b order = true) := fitsB_yes HOK.out HL.out (fun j hj => HX.out j (by omega))
     go_wp2
     go_ret
     exact ⟨ret_bool HF.out.symm, Ext.tr HEW2.out HE.out⟩
  ·have hd : ((order.length : Int) != (b.batches.length : Int)) = true := by simp; omega
   have HF : Hid (fitsB b order = false) := by show _ = false; simp [fitsB, hlen]
   go_enter Qry.func66, Tryz.ntmps66
   go_wp2_with fail
   refine (implBookOk_any b _ _ _ _ _ (hb.ext (hal _))).mono ?_
   rintro e w1 ⟨rfl, hext1⟩
   have HE1 := hid hext1
   clear hext1
   have hx0 := box_cell HE1.out (i := 0) rfl
   have hx1 := box_cell HE1.out (i := 1) rfl
   go_wp2_with fail
   go_ret
   exact ⟨ret_bool HF.out.symm, Ext.tr (hal _) HE1.out⟩
end
end Go.Proofs.YtdafpnpfcmgfcaaGreatDoor
