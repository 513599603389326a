/- The walks over l5Dec and l5Spoil. -/
import Derived.Test.YtdafpnpfcmgfcaaGreatDoorKb43
import Derived.Test.YtdafpnpfcmgfcaaGreatDoorKb26
namespace Go.Proofs.YtdafpnpfcmgfcaaGreatDoor
open Go.RowKit
attribute [local go_sem] S_toList S_size S_get
theorem conv_dec (m : Nat) (hm : m ≤ 9) (wr : World) : (convert 22 9 (.slice (some ⟨wr.heap.size, 0, none⟩) 1 1)).run Qry.prog (wr.alloc (.cells #[.int .u8 (48 + (m : Int))] 5)) = .ok (.string (S [UInt8.ofNat (48 + m)])) (wr.alloc (.cells #[.int .u8 (48 + (m : Int))] 5)) := by
 have h := run_convert_bytes_arg (P := Qry.prog) (w := wr.alloc (.cells #[.int .u8 (48 + (m : Int))] 5)) 22 5 (uQ Tryz.underlying22) (uQ Tryz.underlying5) wr.heap.size 0 1 1 [48 + (m : Int)] rfl (fun i hi => by
  have e : i = 0 := by omega
  subst e
  simp) 9 (uQ Tryz.underlying9)
 have e : strOfNums [48 + (m : Int)] = S [UInt8.ofNat (48 + m)] := by
  apply ByteArray.ext
  apply Array.ext'
  rw [strOfNums_data, S_data]
  have e2 : (48 + (m : Int)).toNat = 48 + m := by omega
  simp [e2]
 rw [e] at h
 exact h
set_option maxHeartbeats 400000 in
theorem l5Dec_any (m : Nat) (hm : m ≤ 9) (w : World) : Calls Qry.prog 120 #[.int .i64 (m : Int)] w fun e w' => ∃ c, e = .returned (.string (S [c])) ∧ Ext w w' := by
 have hc := conv_dec m hm w
 go_enter Qry.func120, Tryz.ntmps120
 go_wp2
 go_ret
 exact ⟨_, rfl, ext_alloc _ _⟩
def wordsA : List Str := [[], [65], [97], [122, 122]]
theorem wordsA_short : ShortS wordsA := ⟨by simp [wordsA], fun i hi => by
 match i, hi with
 | 0, _ => simp [wordsA, nth]
 | 1, _ => simp [wordsA, nth]
 | 2, _ => simp [wordsA, nth]
 | 3, _ => simp [wordsA, nth]⟩
def wordsB : List Str := [[], [66], [122, 122], [97]]
theorem wordsB_short : ShortS wordsB := ⟨by simp [wordsB], fun i hi => by
 match i, hi with
 | 0, _ => simp [wordsB, nth]
 | 1, _ => simp [wordsB, nth]
 | 2, _ => simp [wordsB, nth]
 | 3, _ => simp [wordsB, nth]⟩
def wordsC : List Str := [[], [122, 122], [107, 101, 103], [119]]
theorem wordsC_short : ShortS wordsC := ⟨by simp [wordsC], fun i hi => by
 match i, hi with
 | 0, _ => simp [wordsC, nth]
 | 1, _ => simp [wordsC, nth]
 | 2, _ => simp [wordsC, nth]
 | 3, _ => simp [wordsC, nth]⟩
set_option maxRecDepth 100000 in
set_option maxHeartbeats 1000000 in
theorem l5Spoil_any (R q : Nat) (b : Book) (a1 a2 : Option Addr) (c1 c2 : Nat) (w : World) (h : Rd w R q) (hq : q ≤ 700000) (hb : BookAt w a1 a2 b) (hsm : SmB b) :
  Calls Qry.prog 94 #[.pointer (some ⟨R, 0, none⟩), .agg #[.slice a1 b.things.length c1, .slice a2 b.batches.length c2]] w fun e w' =>
   ∃ (b' : Book) (x1 x2 : Option Addr) (y1 y2 : Nat), e = .returned (.agg #[.slice x1 b'.things.length y1, .slice x2 b'.batches.length y2]) ∧ w.grownBy w' (some R) ∧ Rd w' R (q + 10) ∧ BookAt w' x1 x2 b' ∧ SmB9 b' := by
 have hlt0 := h.lt
 have e2 : ∀ o1 o2, Ext w ((w.alloc o1).alloc o2) := fun o1 o2 => ((Below.refl _ _).alloc (Nat.le_refl _) _).alloc (by simp) _
 go_enter Qry.func94, Tryz.ntmps94
 go_wp2_with fail
 refine (l1Copy_dis b _ _ _ _ _ (hb.ext (e2 _ _))).mono ?_
 rintro e w1 ⟨v1, v2, rs, rfl, hE1, ho1, hob, how, hdis⟩
 have ez : ((w.alloc (.cells #[.slice a1 b.things.length c1, .slice a2 b.batches.length c2] 26)).alloc (.cells #[.slice none 0 0, .slice none 0 0] 26)).heap.size = w.heap.size + 2 := by simp
 rw [ez] at ho1 hob how
 have hz1 := hE1.size
 rw [ez] at hz1
 obtain ⟨x1, y1, rfl⟩ := own_sl ho1
 obtain ⟨x2, y2, rfl⟩ := own_shape3 hob
 have HLEN : Hid (rs.length = b.batches.length) := how.1
 have hr5 : rs.length ≤ 5 := by rw [how.1]; exact hsm.2.1
 have HRR : Hid (Rec w1 (w.heap.size + 1) 26 [.slice none 0 0, .slice none 0 0]) := by
  have h := (Rec.new (w.alloc (.cells #[.slice a1 b.things.length c1, .slice a2 b.batches.length c2] 26)) 26 [.slice none 0 0, .slice none 0 0]).ext hE1
  have e : (w.alloc (.cells #[.slice a1 b.things.length c1, .slice a2 b.batches.length c2] 26)).heap.size = w.heap.size + 1 := by simp
  rw [e] at h; exact h
 have HP : Hid (PS w (w1.alloc (.cells #[.slice x1 b.things.length y1, .slice x2 rs.length y2] 26)) R q w1.heap.size b.things b.batches rs (.slice x1 b.things.length y1) (.slice x2 rs.length y2)) :=
  ⟨gb_ext (Ext.tr (Ext.tr (e2 _ _) hE1) (ext_alloc _ _)) _, ((h.ext (e2 _ _)).ext hE1).ext (ext_alloc _ _), HRR.out.ext (ext_alloc _ _), Rec.new w1 _ _, ho1.ext (ext_alloc _ _), row_ext hob (ext_alloc _ _), how.ext (ext_alloc _ _), hlt0, hz1, by simp; omega⟩
 have HD := hid hdis
 clear hE1 ho1 hob how hdis HRR ez
 go_upto_region 2 with fail
 generalize w1.alloc (.cells #[.slice x1 b.things.length y1, .slice x2 rs.length y2] 26) = w2 at HP ⊢
 have hX := HP.out.hX
 generalize w1.heap.size = X at HP hX ⊢
 clear hz1
 have hb5 := hsm.2.1
 have ht8 := hsm.1
 go_cut [19] (fun v wx => ∃ x : Bool, v = .bool x ∧ (x = false → 0 < rs.length) ∧ PS w wx R (q + 1) X b.things b.batches rs (.slice x1 b.things.length y1) (.slice x2 rs.length y2))
 case first =>
  have p1 := HP.out.rx.cell (i := 1) rfl
  by_cases hbt : 0 < rs.length
  ·have hbi : ((rs.length : Int) == 0) = false := by rw [beq_eq_false_iff_ne]; omega
   go_wp2_with fail
   refine (pick_any R q 4 w2 HP.out.rd (by omega) (by omega) (by omega)).mono ?_
   rintro e w4 ⟨j', rfl, hj', hg4, hr4⟩
   have HP4 := hid (HP.out.read hg4 hr4)
   clear hg4 hr4 p1
   go_wp2_with fail
   go_meet
   exact ⟨_, rfl, fun _ => hbt, HP4.out⟩
  ·have hbi : ((rs.length : Int) == 0) = true := by rw [beq_iff_eq]; omega
   go_wp2_with fail
   go_meet
   exact ⟨true, rfl, (fun h => by cases h), HP.out.mono (by omega)⟩
 case rest =>
  obtain ⟨x, rfl, hx, hps⟩ := hcut
  have HP1 := hid hps
  clear hps HP
  cases x
  ·have hbt := hx rfl
   have p1 := HP1.out.rx.cell (i := 1) rfl
   go_wp2_with fail
   refine (pick_any R (q + 1) rs.length _ HP1.out.rd (by omega) hbt (by omega)).mono ?_
   rintro e w4 ⟨k, rfl, hk, hg4, hr4⟩
   have HP4 := hid (HP1.out.read hg4 hr4)
   clear hg4 hr4 p1 HP1
   go_wp2_with fail
   refine (pick_any R (q + 2) 5 _ HP4.out.rd (by omega) (by omega) (by omega)).mono ?_
   rintro e w5 ⟨j5, rfl, hj5, hg5, hr5⟩
   have HP5 := hid (HP4.out.read hg5 hr5)
   clear hg5 hr5 HP4
   go_upto_block 0 with fail
   go_cut [] (fun wx => FS w wx R (q + 8) X)
   case first =>
    have p1 := HP5.out.rx.cell (i := 1) rfl
    have hkr := List.getElem?_eq_getElem hk
    have hkb : k < b.batches.length := by have := HLEN.out; omega
    obtain ⟨g, rfl, hcap, hgb⟩ : ∃ g, x2 = some ⟨g, 0, none⟩ ∧ rs.length ≤ y2 ∧ w.heap.size + 2 ≤ g := by
     rcases (show OwnBs _ _ _ b.batches from ⟨rs, HP5.out.ob, HP5.out.ow⟩).shape with ⟨_, h0, _⟩ | ⟨g, e, hc, _, hb⟩
     ·omega
     ·exact ⟨g, e, hc, hb⟩
    by_cases hc0 : j5 = 0
    ·subst hc0
     go_wp2_with fail
     refine wp_region_T (fun w' => w'.cell? ⟨X, 1, none⟩ = some (.slice (some ⟨g, 0, none⟩) rs.length y2)) 8 (by kernel_rfl) p1 (fun hS => ?_)
     refine tk 0 hS ?_
     try simp only [List.set]
     refine tk 1 hS ?_
     try simp only [List.set]
     refine tk 2 hS ?_
     try simp only [List.set]
     refine tk 3 hS ?_
     try simp only [List.set]
     refine wpT_one 4 rfl (by kernel_rfl) rfl rfl (fun K hK => ?_)
     go_simp
     refine hK.out _ _ ((ext_alloc _ _).keep hS) (fun hS1 => ?_)
     clear hK hS
     have hS := hS1
     clear hS1
     try clear K
     try simp only [put_some, List.set]
     have hEA : Ext w5 (w5.drew.alloc (.cells #[.string (S []), .string (S [66]), .string (S [122, 122]), .string (S [97])] 9)) := Ext.tr (ext_drewN w5 1) (ext_alloc _ _)
     have HPA := hid (HP5.out.ext hEA)
     have hfA : StrsAt (w5.drew.alloc (.cells #[.string (S []), .string (S [66]), .string (S [122, 122]), .string (S [97])] 9)) (some ⟨w5.heap.size, 0, none⟩) wordsB := rec_strs (Rec.new w5.drew _ _) wordsB_short
     refine wpT_one 5 rfl (by kernel_rfl) rfl rfl (fun K hK => ?_)
     go_simp
     have hof := of_any R (q + 2 + 1) _ 4 wordsB _ HPA.out.rd (by omega) hfA (by simp [wordsB]) (by simp [wordsB]) (fun b' o' e' => hfA.notR HPA.out.rd (by simp [wordsB]) b' o' e')
     have e4 : wordsB.length = 4 := rfl
     rw [e4] at hof
     refine hof.mono ?_
     clear hof
     rintro e wB ⟨jB, hjB, rfl, hgB, hrB⟩
     have HPB := hid (HPA.out.read hgB hrB)
     have hw4 : (nth wordsB jB).length ≤ 140737488355328 := wordsB_short.2 jB (by rw [e4]; exact hjB)
     go_wp2_with fail
     refine hK.out _ _ (HPB.out.rx.cell rfl) (fun hS1 => ?_)
     clear hK hS
     have hS := hS1
     clear hS1
     try clear K
     try simp only [put_some, List.set]
     refine wpT_one 6 rfl (by kernel_rfl) rfl rfl (fun K hK => ?_)
     go_simp
     refine hK.out _ _ hS (fun hS1 => ?_)
     clear hK hS
     have hS := hS1
     clear hS1
     try clear K
     try simp only [put_some, List.set]
     refine wpT_one 7 rfl (by kernel_rfl) rfl rfl (fun K hK => ?_)
     go_simp
     refine hK.out _ _ hS (fun hS1 => ?_)
     clear hK hS
     have hS := hS1
     clear hS1
     try clear K
     try simp only [put_some, List.set]
     obtain ⟨e1, e2', e3, e4', e5, e6⟩ := HPB.out.ow.2 k _ _ hkr (List.getElem?_eq_getElem hkb)
     have HPF := hid (HPB.out.cellsTurn (i := k * 3) (bs' := b.batches.set k ⟨nth wordsB jB, (b.batches[k]).has, (b.batches[k]).needs⟩) (cellsOf_nameD rs k _ (nth wordsB jB) hkr) (by simp) (RowsOwn.set HPB.out.ow k ⟨rfl, hw4, e3, e4', e5, e6⟩))
     have HFS := hid (HPF.out.fs hb.1.short.2 (by omega) (by simp; omega) (fun x hx => by
      rcases List.mem_or_eq_of_mem_set hx with hx | rfl
      ·have := hsm.2.2 x hx; omega
      ·have := hsm.2.2 _ (List.getElem_mem hkb); simp only; omega))
     obtain ⟨_, _, evk, _, hq0, hf0⟩ := own_cell HPB.out.ob (cellsOf_at rs k _ hkr).1
     simp only [Value.slice.injEq, Option.some.injEq, Addr.mk.injEq, and_true] at evk
     obtain ⟨rfl, _⟩ := evk
     clear hS HPB HPA hfA hgB hrB hEA HP5 HPF e1 e2' e3 e4' e5 e6
     refine wpT_last rfl (by kernel_rfl) (by kernel_rfl) rfl (fun K hK => ?_)
     go_simp
     refine hK.out _ _ ?_
     clear hK
     go_wp2_with fail
     go_meet
     exact ⟨HFS.out.on, HFS.out.rd.mono (by omega), HFS.out.rr, HFS.out.bk, HFS.out.hR⟩
    ·by_cases hc1 : j5 = 1
     ·subst hc1
      have hcl := (cellsOf_at rs k _ hkr).2.2
      obtain ⟨_, _, evk, _, hq0, hf0⟩ := own_cell HP5.out.ob hcl
      simp only [Value.slice.injEq, Option.some.injEq, Addr.mk.injEq, and_true] at evk
      obtain ⟨rfl, _⟩ := evk
      obtain ⟨e1, e2', e3, e4', e5, e6⟩ := HP5.out.ow.2 k _ _ hkr (List.getElem?_eq_getElem hkb)
      obtain ⟨al, cl, hal⟩ := own_sl e5
      rw [hal] at hq0
      go_wp2_with fail
      refine wp_region_T (fun w' => w'.cell? ⟨X, 1, none⟩ = some (.slice (some ⟨g, 0, none⟩) rs.length y2) ∧ w'.cell? ⟨g, k * 3 + 2, none⟩ = some (.slice al (b.batches[k]).needs.length cl)) 16 (by kernel_rfl) ⟨p1, hq0⟩ (fun hS => ?_)
      refine tk 0 hS ?_
      try simp only [List.set]
      refine tk 1 hS ?_
      try simp only [List.set]
      refine tk 2 hS ?_
      try simp only [List.set]
      refine tk 3 hS ?_
      try simp only [List.set]
      refine tk 4 hS ?_
      try simp only [List.set]
      refine tk 5 hS ?_
      try simp only [List.set]
      refine tk 6 hS ?_
      try simp only [List.set]
      refine tk 7 hS ?_
      try simp only [List.set]
      refine tk 8 hS ?_
      try simp only [List.set]
      refine tk 9 hS ?_
      try simp only [List.set]
      refine wpT_one 10 rfl (by kernel_rfl) rfl rfl (fun K hK => ?_)
      go_simp
      refine hK.out _ _ ⟨(ext_alloc _ _).keep hS.1, (ext_alloc _ _).keep hS.2⟩ (fun hS1 => ?_)
      clear hK hS
      have hS := hS1
      clear hS1
      try clear K
      try simp only [put_some, List.set]
      have hEA : Ext w5 (w5.drew.alloc (.cells #[.string (S []), .string (S [122, 122]), .string (S [107, 101, 103]), .string (S [119])] 9)) := Ext.tr (ext_drewN w5 1) (ext_alloc _ _)
      have HPA := hid (HP5.out.ext hEA)
      have hfA : StrsAt (w5.drew.alloc (.cells #[.string (S []), .string (S [122, 122]), .string (S [107, 101, 103]), .string (S [119])] 9)) (some ⟨w5.heap.size, 0, none⟩) wordsC := rec_strs (Rec.new w5.drew _ _) wordsC_short
      refine wpT_one 11 rfl (by kernel_rfl) rfl rfl (fun K hK => ?_)
      go_simp
      have hof := of_any R (q + 2 + 1) _ 4 wordsC _ HPA.out.rd (by omega) hfA (by simp [wordsC]) (by simp [wordsC]) (fun b' o' e' => hfA.notR HPA.out.rd (by simp [wordsC]) b' o' e')
      have e4 : wordsC.length = 4 := rfl
      rw [e4] at hof
      refine hof.mono ?_
      clear hof
      rintro e wB ⟨jB, hjB, rfl, hgB, hrB⟩
      have HPB := hid (HPA.out.read hgB hrB)
      have hw4 : (nth wordsC jB).length ≤ 140737488355328 := wordsC_short.2 jB (by rw [e4]; exact hjB)
      go_wp2_with fail
      obtain ⟨_, _, evB, _, hqB, hfB⟩ := own_cell HPB.out.ob hcl
      simp only [Value.slice.injEq, Option.some.injEq, Addr.mk.injEq, and_true] at evB
      obtain ⟨rfl, _⟩ := evB
      rw [hal] at hqB
      refine hK.out _ _ ⟨HPB.out.rx.cell rfl, hqB⟩ (fun hS1 => ?_)
      clear hK hS
      have hS := hS1
      clear hS1
      try clear K
      try simp only [put_some, List.set]
      refine wpT_one 12 rfl (by kernel_rfl) rfl rfl (fun K hK => ?_)
      go_simp
      refine hK.out _ _ ⟨(ext_alloc _ _).keep hS.1, (ext_alloc _ _).keep hS.2⟩ (fun hS1 => ?_)
      clear hK hS
      have hS := hS1
      clear hS1
      try clear K
      try simp only [put_some, List.set]
      have hST := one_str wB (nth wordsC jB) hw4
      have HPC := hid (HPB.out.ext (ext_alloc wB (.cells #[.string (S (nth wordsC jB))] 9)))
      obtain ⟨f1', f2', f3', f4', f5', f6'⟩ := HPC.out.ow.2 k _ _ hkr (List.getElem?_eq_getElem hkb)
      have hol : OwnL (wB.alloc (.cells #[.string (S (nth wordsC jB))] 9)) (w.heap.size + 2) (.slice al (b.batches[k]).needs.length cl) (b.batches[k]).needs := by rw [← hal]; exact f5'
      have hl8 : (b.batches[k]).needs.length ≤ 8 := by have := hsm.2.2 _ (List.getElem_mem hkb); omega
      refine wpT_one 13 rfl (by kernel_rfl) rfl rfl (fun K hK => ?_)
      refine wp_strs (L := (b.batches[k]).needs) (M := [nth wordsC jB]) _ _ rfl rfl hol rfl hST (by simp; omega) HPC.out.hz (fun v' wE h2 h3 h4 => ?_)
      obtain ⟨a', c', rfl⟩ := own_sl h2
      have hlT : ((b.batches[k]).needs ++ [nth wordsC jB]).length = (b.batches[k]).needs.length + 1 := by simp
      rw [hlT] at h2 ⊢
      have h3' : (wB.alloc (.cells #[.string (S (nth wordsC jB))] 9)).grownBy wE (rs[k]).needs.ownBlock := by rw [hal]; exact h3
      have hsn : ShortS ((b.batches[k]).needs ++ [nth wordsC jB]) := ⟨by rw [hlT]; omega, ShortL.snoc f6'.2 hw4⟩
      have HPF := hid (HPC.out.needs HD.out hkr h3' h2 hsn)
      have HFS := hid (HPF.out.fs hb.1.short.2 (by omega) (by simp; omega) (fun x hx => by
       rcases List.mem_or_eq_of_mem_set hx with hx | rfl
       ·have := hsm.2.2 x hx; omega
       ·have := hsm.2.2 _ (List.getElem_mem hkb)
        simp only [nthB_get hkb, hlT]; omega))
      obtain ⟨_, _, _, k4, _, k6⟩ := HPC.out.listTurn f5' h3' ((HD.out.2 _ (mem_allV (List.mem_of_getElem? hkr)).2).symm)
      obtain ⟨_, _, evE, _, hqE, hfE⟩ := own_cell k6 hcl
      simp only [Value.slice.injEq, Option.some.injEq, Addr.mk.injEq, and_true] at evE
      obtain ⟨rfl, _⟩ := evE
      rw [hal] at hqE
      refine hK.out _ _ ⟨k4.cell rfl, hqE⟩ (fun hS1 => ?_)
      clear hK hS
      have hS := hS1
      clear hS1
      try clear K
      try simp only [put_some, List.set]
      refine wpT_one 14 rfl (by kernel_rfl) rfl rfl (fun K hK => ?_)
      go_simp
      refine hK.out _ _ hS (fun hS1 => ?_)
      clear hK hS
      have hS := hS1
      clear hS1
      try clear K
      try simp only [put_some, List.set]
      refine wpT_one 15 rfl (by kernel_rfl) rfl rfl (fun K hK => ?_)
      go_simp
      refine hK.out _ _ hS (fun hS1 => ?_)
      clear hK hS
      have hS := hS1
      clear hS1
      try clear K
      try simp only [put_some, List.set]
      clear hS h2 h3 h3' h4 hST HPC HPB HPA hfA hgB hrB hEA HP5 HPF k4 k6 hol hq0 hf0 hqB hfB e1 e2' e3 e4' e5 e6 f1' f2' f3' f4' f5' f6' hcl
      refine wpT_last rfl (by kernel_rfl) (by kernel_rfl) rfl (fun K hK => ?_)
      go_simp
      refine hK.out _ _ ?_
      clear hK
      go_wp2_with fail
      go_meet
      exact ⟨HFS.out.on, HFS.out.rd.mono (by omega), HFS.out.rr, HFS.out.bk, HFS.out.hR⟩
     ·by_cases hc2 : j5 = 2
      ·subst hc2
       have hcl := (cellsOf_at rs k _ hkr).2.1
       obtain ⟨_, _, evk, _, hq0, hf0⟩ := own_cell HP5.out.ob hcl
       simp only [Value.slice.injEq, Option.some.injEq, Addr.mk.injEq, and_true] at evk
       obtain ⟨rfl, _⟩ := evk
       obtain ⟨e1, e2', e3, e4', e5, e6⟩ := HP5.out.ow.2 k _ _ hkr (List.getElem?_eq_getElem hkb)
       obtain ⟨al, cl, hal⟩ := own_sl e3
       rw [hal] at hq0
       go_wp2_with fail
       refine wp_region_T (fun w' => w'.cell? ⟨X, 1, none⟩ = some (.slice (some ⟨g, 0, none⟩) rs.length y2) ∧ w'.cell? ⟨g, k * 3 + 1, none⟩ = some (.slice al (b.batches[k]).has.length cl)) 16 (by kernel_rfl) ⟨p1, hq0⟩ (fun hS => ?_)
       refine tk 0 hS ?_
       try simp only [List.set]
       refine tk 1 hS ?_
       try simp only [List.set]
       refine tk 2 hS ?_
       try simp only [List.set]
       refine tk 3 hS ?_
       try simp only [List.set]
       refine tk 4 hS ?_
       try simp only [List.set]
       refine tk 5 hS ?_
       try simp only [List.set]
       refine tk 6 hS ?_
       try simp only [List.set]
       refine tk 7 hS ?_
       try simp only [List.set]
       refine tk 8 hS ?_
       try simp only [List.set]
       refine tk 9 hS ?_
       try simp only [List.set]
       refine wpT_one 10 rfl (by kernel_rfl) rfl rfl (fun K hK => ?_)
       go_simp
       refine hK.out _ _ ⟨(ext_alloc _ _).keep hS.1, (ext_alloc _ _).keep hS.2⟩ (fun hS1 => ?_)
       clear hK hS
       have hS := hS1
       clear hS1
       try clear K
       try simp only [put_some, List.set]
       have hEA : Ext w5 (w5.drew.alloc (.cells #[.string (S []), .string (S [122, 122]), .string (S [107, 101, 103]), .string (S [119])] 9)) := Ext.tr (ext_drewN w5 1) (ext_alloc _ _)
       have HPA := hid (HP5.out.ext hEA)
       have hfA : StrsAt (w5.drew.alloc (.cells #[.string (S []), .string (S [122, 122]), .string (S [107, 101, 103]), .string (S [119])] 9)) (some ⟨w5.heap.size, 0, none⟩) wordsC := rec_strs (Rec.new w5.drew _ _) wordsC_short
       refine wpT_one 11 rfl (by kernel_rfl) rfl rfl (fun K hK => ?_)
       go_simp
       have hof := of_any R (q + 2 + 1) _ 4 wordsC _ HPA.out.rd (by omega) hfA (by simp [wordsC]) (by simp [wordsC]) (fun b' o' e' => hfA.notR HPA.out.rd (by simp [wordsC]) b' o' e')
       have e4 : wordsC.length = 4 := rfl
       rw [e4] at hof
       refine hof.mono ?_
       clear hof
       rintro e wB ⟨jB, hjB, rfl, hgB, hrB⟩
       have HPB := hid (HPA.out.read hgB hrB)
       have hw4 : (nth wordsC jB).length ≤ 140737488355328 := wordsC_short.2 jB (by rw [e4]; exact hjB)
       go_wp2_with fail
       obtain ⟨_, _, evB, _, hqB, hfB⟩ := own_cell HPB.out.ob hcl
       simp only [Value.slice.injEq, Option.some.injEq, Addr.mk.injEq, and_true] at evB
       obtain ⟨rfl, _⟩ := evB
       rw [hal] at hqB
       refine hK.out _ _ ⟨HPB.out.rx.cell rfl, hqB⟩ (fun hS1 => ?_)
       clear hK hS
       have hS := hS1
       clear hS1
       try clear K
       try simp only [put_some, List.set]
       refine wpT_one 12 rfl (by kernel_rfl) rfl rfl (fun K hK => ?_)
       go_simp
       refine hK.out _ _ ⟨(ext_alloc _ _).keep hS.1, (ext_alloc _ _).keep hS.2⟩ (fun hS1 => ?_)
       clear hK hS
       have hS := hS1
       clear hS1
       try clear K
       try simp only [put_some, List.set]
       have hST := one_str wB (nth wordsC jB) hw4
       have HPC := hid (HPB.out.ext (ext_alloc wB (.cells #[.string (S (nth wordsC jB))] 9)))
       obtain ⟨f1', f2', f3', f4', f5', f6'⟩ := HPC.out.ow.2 k _ _ hkr (List.getElem?_eq_getElem hkb)
       have hol : OwnL (wB.alloc (.cells #[.string (S (nth wordsC jB))] 9)) (w.heap.size + 2) (.slice al (b.batches[k]).has.length cl) (b.batches[k]).has := by rw [← hal]; exact f3'
       have hl8 : (b.batches[k]).has.length ≤ 8 := by have := hsm.2.2 _ (List.getElem_mem hkb); omega
       refine wpT_one 13 rfl (by kernel_rfl) rfl rfl (fun K hK => ?_)
       refine wp_strs (L := (b.batches[k]).has) (M := [nth wordsC jB]) _ _ rfl rfl hol rfl hST (by simp; omega) HPC.out.hz (fun v' wE h2 h3 h4 => ?_)
       obtain ⟨a', c', rfl⟩ := own_sl h2
       have hlT : ((b.batches[k]).has ++ [nth wordsC jB]).length = (b.batches[k]).has.length + 1 := by simp
       rw [hlT] at h2 ⊢
       have h3' : (wB.alloc (.cells #[.string (S (nth wordsC jB))] 9)).grownBy wE (rs[k]).has.ownBlock := by rw [hal]; exact h3
       have hsn : ShortS ((b.batches[k]).has ++ [nth wordsC jB]) := ⟨by rw [hlT]; omega, ShortL.snoc f4'.2 hw4⟩
       have HPF := hid (HPC.out.hasGrow HD.out hkr h3' h2 hsn)
       have HFS := hid (HPF.out.fs hb.1.short.2 (by omega) (by simp; omega) (fun x hx => by
        rcases List.mem_or_eq_of_mem_set hx with hx | rfl
        ·have := hsm.2.2 x hx; omega
        ·have := hsm.2.2 _ (List.getElem_mem hkb)
         simp only [nthB_get hkb, hlT]; omega))
       obtain ⟨_, _, _, k4, _, k6⟩ := HPC.out.listTurn f3' h3' ((HD.out.2 _ (mem_allV (List.mem_of_getElem? hkr)).1).symm)
       obtain ⟨_, _, evE, _, hqE, hfE⟩ := own_cell k6 hcl
       simp only [Value.slice.injEq, Option.some.injEq, Addr.mk.injEq, and_true] at evE
       obtain ⟨rfl, _⟩ := evE
       rw [hal] at hqE
       refine hK.out _ _ ⟨k4.cell rfl, hqE⟩ (fun hS1 => ?_)
       clear hK hS
       have hS := hS1
       clear hS1
       try clear K
       try simp only [put_some, List.set]
       refine wpT_one 14 rfl (by kernel_rfl) rfl rfl (fun K hK => ?_)
       go_simp
       refine hK.out _ _ hS (fun hS1 => ?_)
       clear hK hS
       have hS := hS1
       clear hS1
       try clear K
       try simp only [put_some, List.set]
       refine wpT_one 15 rfl (by kernel_rfl) rfl rfl (fun K hK => ?_)
       go_simp
       refine hK.out _ _ hS (fun hS1 => ?_)
       clear hK hS
       have hS := hS1
       clear hS1
       try clear K
       try simp only [put_some, List.set]
       clear hS h2 h3 h3' h4 hST HPC HPB HPA hfA hgB hrB hEA HP5 HPF k4 k6 hol hq0 hf0 hqB hfB e1 e2' e3 e4' e5 e6 f1' f2' f3' f4' f5' f6' hcl
       refine wpT_last rfl (by kernel_rfl) (by kernel_rfl) rfl (fun K hK => ?_)
       go_simp
       refine hK.out _ _ ?_
       clear hK
       go_wp2_with fail
       go_meet
       exact ⟨HFS.out.on, HFS.out.rd.mono (by omega), HFS.out.rr, HFS.out.bk, HFS.out.hR⟩
      ·by_cases hc3 : j5 = 3
       ·subst hc3
        obtain ⟨e1, e2', e3, e4', e5, e6⟩ := HP5.out.ow.2 k _ _ hkr (List.getElem?_eq_getElem hkb)
        obtain ⟨al1, cl1, hal1⟩ := own_sl e3
        obtain ⟨al2, cl2, hal2⟩ := own_sl e5
        have hcl := cellsOf_at rs k _ hkr
        obtain ⟨_, _, ev0, _, m0, _⟩ := own_cell HP5.out.ob hcl.1
        obtain ⟨_, _, ev1, _, m1, _⟩ := own_cell HP5.out.ob hcl.2.1
        obtain ⟨_, _, ev2, _, m2, _⟩ := own_cell HP5.out.ob hcl.2.2
        simp only [Value.slice.injEq, Option.some.injEq, Addr.mk.injEq, and_true] at ev0 ev1 ev2
        have eg0 := ev0.1
        have eg1 := ev1.1
        have eg2 := ev2.1
        clear ev0 ev1 ev2
        subst eg0
        subst eg1
        subst eg2
        rw [e1] at m0
        rw [hal1] at m1
        rw [hal2] at m2
        have hrk : rs[k] = ⟨(b.batches[k]).name, .slice al1 (b.batches[k]).has.length cl1, .slice al2 (b.batches[k]).needs.length cl2⟩ := by
         rw [← hal1, ← hal2, ← e1]
        go_wp2_with fail
        refine wp_region_T (fun w' => w'.cell? ⟨X, 1, none⟩ = some (.slice (some ⟨g, 0, none⟩) rs.length y2) ) 10 (by kernel_rfl) p1 (fun hS => ?_)
        refine tk 0 hS ?_
        try simp only [List.set]
        refine tk 1 hS ?_
        try simp only [List.set]
        refine tk 2 hS ?_
        try simp only [List.set]
        refine tk 3 hS ?_
        try simp only [List.set]
        refine tk 4 hS ?_
        try simp only [List.set]
        refine tk 5 hS ?_
        try simp only [List.set]
        refine wpT_one 6 rfl (by kernel_rfl) rfl rfl (fun K hK => ?_)
        go_simp
        refine hK.out _ _ hS (fun hS1 => ?_)
        clear hK hS
        have hS := hS1
        clear hS1
        try clear K
        try simp only [put_some, List.set]
        refine wpT_one 7 rfl (by kernel_rfl) rfl rfl (fun K hK => ?_)
        go_simp
        refine hK.out _ _ ((ext_alloc _ _).keep hS) (fun hS1 => ?_)
        clear hK hS
        have hS := hS1
        clear hS1
        try clear K
        try simp only [put_some, List.set]
        have hEA : Ext w5 ((w5.alloc (.cells #[.string (S (b.batches[k]).name), .slice al1 (b.batches[k]).has.length cl1, .slice al2 (b.batches[k]).needs.length cl2] 73)).drew) := Ext.tr (ext_alloc _ _) (ext_drewN _ 1)
        have HPA := hid (HP5.out.ext hEA)
        have hRow : RowOwn w5 (w.heap.size + 2) ⟨(b.batches[k]).name, .slice al1 (b.batches[k]).has.length cl1, .slice al2 (b.batches[k]).needs.length cl2⟩ b.batches[k] := by rw [← hrk]; exact ⟨e1, e2', e3, e4', e5, e6⟩
        refine wpT_one 8 rfl (by kernel_rfl) rfl rfl (fun K hK => ?_)
        refine wp_row (rs := rs) (base := w.heap.size + 2) (r := ⟨(b.batches[k]).name, .slice al1 (b.batches[k]).has.length cl1, .slice al2 (b.batches[k]).needs.length cl2⟩) _ _ rfl rfl HPA.out.ob rfl (fun j u hj => by obtain ⟨ad, e, hc⟩ := one_cells w5 73 ⟨(b.batches[k]).name, .slice al1 (b.batches[k]).has.length cl1, .slice al2 (b.batches[k]).needs.length cl2⟩ j u hj; exact ⟨ad, e, (ext_drewN _ 1).keep hc⟩) (row_one hRow) (by omega) HPA.out.hz (fun v' wE h2 h3 h4 => ?_)
        obtain ⟨a', c', rfl⟩ := own_shape3 h2
        have hlT : (rs ++ [(⟨(b.batches[k]).name, .slice al1 (b.batches[k]).has.length cl1, .slice al2 (b.batches[k]).needs.length cl2⟩ : Row)]).length = rs.length + 1 := by simp
        rw [hlT] at h2 ⊢
        have HPF := hid (HPA.out.row (hRow.keep (gb_none hEA) (fun k' c' e' => by cases e')) h3 (by rw [hlT]; exact h2))
        have HFS := hid (HPF.out.fs hb.1.short.2 (by omega) (by simp; omega) (fun x hx => by
         rw [List.mem_append, List.mem_singleton] at hx
         rcases hx with hx | rfl
         ·have := hsm.2.2 x hx; omega
         ·have := hsm.2.2 _ (List.getElem_mem hkb); omega))
        have rxE := HPA.out.rx.kept h3 (HPA.out.rx.not_row rfl HPA.out.ob)
        have hqE := rxE.cell (i := 1) rfl
        have hfE := rxE.frozen 1
        refine hK.out _ _ hqE (fun hS1 => ?_)
        clear hK hS
        have hS := hS1
        clear hS1
        try clear K
        try simp only [put_some, List.set]
        refine tk 9 hS ?_
        try simp only [List.set]
        clear hS h2 h3 h4 HPA hEA HP5 HPF hRow rxE e1 e2' e3 e4' e5 e6 hcl m0 m1 m2 hal1 hal2 hrk
        refine wpT_last rfl (by kernel_rfl) (by kernel_rfl) rfl (fun K hK => ?_)
        go_simp
        refine hK.out _ _ ?_
        clear hK
        go_wp2_with fail
        go_meet
        exact ⟨HFS.out.on, HFS.out.rd.mono (by omega), HFS.out.rr, HFS.out.bk, HFS.out.hR⟩
       ·have n0 : ((j5 : Int) == 0) = false := by simp; omega
        have n1 : ((j5 : Int) == 1) = false := by simp; omega
        have n2 : ((j5 : Int) == 2) = false := by simp; omega
        have n3 : ((j5 : Int) == 3) = false := by simp; omega
        go_wp2_with fail
        refine (pick_any R (q + 2 + 1) 2 _ HP5.out.rd (by omega) (by omega) (by omega)).mono ?_
        rintro e w6 ⟨j2, rfl, hj2, hg6, hr6⟩
        have HP6 := hid (HP5.out.read hg6 hr6)
        clear hg6 hr6 HP5 p1
        go_wp2_with fail
        go_loopw [8] (fun i wr => ∃ (m : Nat) (bs' : List Batch) (rs' : List Row) (v2' : Value), m ≤ 7 ∧ i = .int .i64 m ∧ PS w wr R (q + 2 + 1 + 1) X b.things bs' rs' (.slice x1 b.things.length y1) v2' ∧ rs'.length = rs.length + m ∧ bs'.length ≤ 7 ∧ Small9 bs') (fun i _ => 7 - (intOf i).toNat)
        case atStart => exact ⟨0, b.batches, rs, _, by omega, rfl, HP6.out, by simp, by omega, fun x hx => by have := hsm.2.2 x hx; omega⟩
        case round =>
         clear HP6
         obtain ⟨m, bs', rs', v2', hm, rfl, hps, hrl, hbl, hsb⟩ := hrel
         have HPm := hid hps
         clear hps
         obtain ⟨xa, xc, rfl⟩ := own_shape3 HPm.out.ob
         have p1 := HPm.out.rx.cell (i := 1) rfl
         have HRL := hid hrl
         clear hrl
         by_cases hlt : rs'.length < 5 + j2
         ·have hm6 : m ≤ 6 := by have := HRL.out; omega
          have hlti : (rs'.length : Int) < 5 + (j2 : Int) := by omega
          go_wp2_with fail
          refine wp_region_T (fun w' => w'.cell? ⟨X, 1, none⟩ = some (.slice xa rs'.length xc)) 9 (by kernel_rfl) p1 (fun hS => ?_)
          refine tk 0 hS ?_
          try simp only [List.set]
          refine tk 1 hS ?_
          try simp only [List.set]
          refine tk 2 hS ?_
          try simp only [List.set]
          refine wpT_one 3 rfl (by kernel_rfl) rfl rfl (fun K hK => ?_)
          go_simp
          refine (l5Dec_any m (by omega) _).mono ?_
          rintro e w7 ⟨cd, rfl, hE7⟩
          go_wp2_with fail
          refine hK.out _ _ (hE7.keep hS) (fun hS1 => ?_)
          clear hK hS
          have hS := hS1
          clear hS1
          try clear K
          try simp only [put_some, List.set]
          refine wpT_take 4 (v := .string (S [122, cd])) rfl rfl (by kernel_rfl) (by kernel_rfl) (by kernel_rfl) (by kernel_rfl) (fun _ _ _ h => h) hS rfl (by intro w0 hw0; (try dsimp only at hw0); go_simp; exact S_cons 122 [cd]) ?_
          try simp only [List.set]
          refine tk 5 hS ?_
          try simp only [List.set]
          refine wpT_one 6 rfl (by kernel_rfl) rfl rfl (fun K hK => ?_)
          go_simp
          refine hK.out _ _ ((ext_alloc _ _).keep hS) (fun hS1 => ?_)
          clear hK hS
          have hS := hS1
          clear hS1
          try clear K
          try simp only [put_some, List.set]
          have hE8 : Ext wr (w7.alloc (.cells #[.string (S [122, cd]), .slice none 0 0, .slice none 0 0] 73)) := Ext.tr (Ext.tr (ext_drewN wr 1) hE7) (ext_alloc _ _)
          have HP8 := hid (HPm.out.ext hE8)
          have hRow : RowOwn (w7.alloc (.cells #[.string (S [122, cd]), .slice none 0 0, .slice none 0 0] 73)) (w.heap.size + 2) ⟨[122, cd], .slice none 0 0, .slice none 0 0⟩ ⟨[122, cd], [], []⟩ := ⟨rfl, by simp, World.ownsRow_nil _ _ _ _, ⟨by simp, ShortL.nil⟩, World.ownsRow_nil _ _ _ _, ⟨by simp, ShortL.nil⟩⟩
          refine wpT_one 7 rfl (by kernel_rfl) rfl rfl (fun K hK => ?_)
          refine wp_row (rs := rs') (base := w.heap.size + 2) (r := ⟨[122, cd], .slice none 0 0, .slice none 0 0⟩) _ _ rfl rfl HP8.out.ob rfl (one_cells w7 73 ⟨[122, cd], .slice none 0 0, .slice none 0 0⟩) (row_one hRow) (by omega) HP8.out.hz (fun v' wE h2 h3 h4 => ?_)
          obtain ⟨a', c', rfl⟩ := own_shape3 h2
          have hlT : (rs' ++ [(⟨[122, cd], .slice none 0 0, .slice none 0 0⟩ : Row)]).length = rs'.length + 1 := by simp
          rw [hlT] at h2 ⊢
          have HPF := hid (HP8.out.row hRow h3 (by rw [hlT]; exact h2))
          have rxE := HP8.out.rx.kept h3 (HP8.out.rx.not_row rfl HP8.out.ob)
          have hqE := rxE.cell (i := 1) rfl
          have hfE := rxE.frozen 1
          have hbr : bs'.length = rs'.length := HP8.out.ow.1.symm
          refine hK.out _ _ hqE (fun hS1 => ?_)
          clear hK hS
          have hS := hS1
          clear hS1
          try clear K
          try simp only [put_some, List.set]
          refine tk 8 hS ?_
          try simp only [List.set]
          have HBR := hid hbr
          clear hS h2 h3 h4 HP8 hE8 HPm hRow rxE hE7 p1 hbr
          refine wpT_last rfl (by kernel_rfl) (by kernel_rfl) rfl (fun K hK => ?_)
          go_simp
          refine hK.out _ _ ?_
          clear hK
          go_wp2
          go_roundw
          case rel => exact ⟨m + 1, bs' ++ [⟨[122, cd], [], []⟩], rs' ++ [⟨[122, cd], .slice none 0 0, .slice none 0 0⟩], _, by omega, by go_num, HPF.out, by rw [hlT, HRL.out]; omega, by rw [List.length_append, HBR.out]; simp; omega, fun x hx => by
           rw [List.mem_append, List.mem_singleton] at hx
           rcases hx with hx | rfl
           ·exact hsb x hx
           ·simp⟩
          case measure => simp [intOf]; omega
         ·have hlti : ¬ ((rs'.length : Int) < 5 + (j2 : Int)) := by omega
          go_wp2_with fail
          go_meet
          exact ((HPm.out.mono (by omega)).fs hb.1.short.2 (by omega) hbl hsb)
   case rest =>
    have HFS := hid hcut
    clear hcut HP5
    obtain ⟨bF, z1, z2, d1, d2, hrx, hbk, hsmF⟩ := HFS.out.bk
    have q0 := hrx.cell (i := 0) rfl
    have q1 := hrx.cell (i := 1) rfl
    have t0 := HFS.out.rr.cell (i := 0) rfl
    have t1 := HFS.out.rr.cell (i := 1) rfl
    have f0 := HFS.out.rr.frozen 0
    have f1 := HFS.out.rr.frozen 1
    have HBKF := hid hbk
    have HSMF := hid hsmF
    clear hbk hsmF
    go_wp2
    have r1 := HFS.out.rr.set 0 (.slice z1 bF.things.length d1)
    have hR := HFS.out.hR
    have HA : w.grownBy ((wc.setCell ⟨w.heap.size + 1, 0, none⟩ (.slice z1 bF.things.length d1)).setCell ⟨w.heap.size + 1, 1, none⟩ (.slice z2 bF.batches.length d2)) (some R) := on_grown (on_grown HFS.out.on (gb_store _ _ _ _) (fun g hg => by cases hg; omega)) (gb_store _ _ _ _) (fun g hg => by cases hg; omega)
    have HB : Rd ((wc.setCell ⟨w.heap.size + 1, 0, none⟩ (.slice z1 bF.things.length d1)).setCell ⟨w.heap.size + 1, 1, none⟩ (.slice z2 bF.batches.length d2)) R (q + 10) := ((HFS.out.rd.gb (gb_store _ _ _ _) (fun g hg => by cases hg; omega)).gb (gb_store _ _ _ _) (fun g hg => by cases hg; omega)).mono (by omega)
    have HC : BookAt ((wc.setCell ⟨w.heap.size + 1, 0, none⟩ (.slice z1 bF.things.length d1)).setCell ⟨w.heap.size + 1, 1, none⟩ (.slice z2 bF.batches.length d2)) z1 z2 bF := (HBKF.out.box HFS.out.rr noStr2).box r1 noStr2
    refine bodyPost_ret (v := .agg #[.slice z1 bF.things.length d1, .slice z2 bF.batches.length d2]) (by simp [results, Tryz.results94, go_sem, t0, t1]) rfl (by
     refine ⟨bF, z1, z2, ?_⟩
     first
      | exact ⟨d1, d2, rfl, HA, HB, HC, HSMF.out⟩
      | exact ⟨⟨d1, d2, rfl⟩, HA, HB, HC, HSMF.out⟩)
  ·have p0 := HP1.out.rx.cell (i := 0) rfl
   go_wp2_with fail
   refine wp_region_T (fun w' => w'.cell? ⟨X, 0, none⟩ = some (.slice x1 b.things.length y1)) 8 (by kernel_rfl) p0 (fun hS => ?_)
   refine tk 0 hS ?_
   try simp only [List.set]
   refine tk 1 hS ?_
   try simp only [List.set]
   refine tk 2 hS ?_
   try simp only [List.set]
   refine wpT_one 3 rfl (by kernel_rfl) rfl rfl (fun K hK => ?_)
   go_simp
   refine hK.out _ _ ((ext_alloc _ _).keep hS) (fun hS1 => ?_)
   clear hK hS
   have hS := hS1
   clear hS1
   try clear K
   try simp only [put_some, List.set]
   have hEA : Ext wc (wc.drew.alloc (.cells #[.string (S []), .string (S [65]), .string (S [97]), .string (S [122, 122])] 9)) := Ext.tr (ext_drewN wc 1) (ext_alloc _ _)
   have HPA := hid (HP1.out.ext hEA)
   have hfA : StrsAt (wc.drew.alloc (.cells #[.string (S []), .string (S [65]), .string (S [97]), .string (S [122, 122])] 9)) (some ⟨wc.heap.size, 0, none⟩) wordsA := rec_strs (Rec.new wc.drew _ _) wordsA_short
   refine wpT_one 4 rfl (by kernel_rfl) rfl rfl (fun K hK => ?_)
   go_simp
   have hof := of_any R (q + 1) _ 4 wordsA _ HPA.out.rd (by omega) hfA (by simp [wordsA]) (by simp [wordsA]) (fun b' o' e' => hfA.notR HPA.out.rd (by simp [wordsA]) b' o' e')
   have e4 : wordsA.length = 4 := rfl
   rw [e4] at hof
   refine hof.mono ?_
   clear hof
   rintro e wB ⟨jB, hjB, rfl, hgB, hrB⟩
   have HPB := hid (HPA.out.read hgB hrB)
   go_wp2_with fail
   refine hK.out _ _ (HPB.out.rx.cell rfl) (fun hS1 => ?_)
   clear hK hS
   have hS := hS1
   clear hS1
   try clear K
   try simp only [put_some, List.set]
   refine wpT_one 5 rfl (by kernel_rfl) rfl rfl (fun K hK => ?_)
   go_simp
   refine hK.out _ _ ((ext_alloc _ _).keep hS) (fun hS1 => ?_)
   clear hK hS
   have hS := hS1
   clear hS1
   try clear K
   try simp only [put_some, List.set]
   have hw4 : (nth wordsA jB).length ≤ 140737488355328 := wordsA_short.2 jB (by rw [e4]; exact hjB)
   have hST := one_str wB (nth wordsA jB) hw4
   have HPC := hid (HPB.out.ext (ext_alloc wB (.cells #[.string (S (nth wordsA jB))] 9)))
   refine wpT_one 6 rfl (by kernel_rfl) rfl rfl (fun K hK => ?_)
   refine wp_strs (L := b.things) (M := [nth wordsA jB]) _ _ rfl rfl HPC.out.o1 rfl hST (by simp; omega) HPC.out.hz (fun v' wE h2 h3 h4 => ?_)
   obtain ⟨a', c', rfl⟩ := own_sl h2
   have hlT : (b.things ++ [nth wordsA jB]).length = b.things.length + 1 := by simp
   rw [hlT] at h2 ⊢
   have rxE := HPC.out.rx.kept h3 (HPC.out.rx.not_row rfl HPC.out.o1)
   have hq0 := rxE.cell (i := 0) rfl
   have hf0 := rxE.frozen 0
   have HPF := hid (HPC.out.thing HD.out.2 h3 h2)
   have HFS := hid (HPF.out.fs (hb.1.short.2.snoc hw4) (by rw [hlT]; omega) (by omega) (fun x hx => by have := hsm.2.2 x hx; omega))
   refine hK.out _ _ hq0 (fun hS1 => ?_)
   clear hK hS
   have hS := hS1
   clear hS1
   try clear K
   try simp only [put_some, List.set]
   refine tk 7 hS ?_
   try simp only [List.set]
   clear hS h2 h3 h4 hST HPC HPB HPA hfA hgB hrB hEA HP1 rxE HPF
   refine wpT_last rfl (by kernel_rfl) (by kernel_rfl) rfl (fun K hK => ?_)
   go_simp
   refine hK.out _ _ ?_
   clear hK hq0 hf0
   generalize wE.setCell ⟨X, 0, none⟩ (.slice a' (b.things.length + 1) c') = wF at HFS ⊢
   obtain ⟨bF, z1, z2, d1, d2, hrx, hbk, hsmF⟩ := HFS.out.bk
   have q0 := hrx.cell (i := 0) rfl
   have q1 := hrx.cell (i := 1) rfl
   have t0 := HFS.out.rr.cell (i := 0) rfl
   have t1 := HFS.out.rr.cell (i := 1) rfl
   have f0 := HFS.out.rr.frozen 0
   have f1 := HFS.out.rr.frozen 1
   have HBKF := hid hbk
   have HSMF := hid hsmF
   clear hbk hsmF
   go_wp2
   have r1 := HFS.out.rr.set 0 (.slice z1 bF.things.length d1)
   have hR := HFS.out.hR
   have HA : w.grownBy ((wF.setCell ⟨w.heap.size + 1, 0, none⟩ (.slice z1 bF.things.length d1)).setCell ⟨w.heap.size + 1, 1, none⟩ (.slice z2 bF.batches.length d2)) (some R) := on_grown (on_grown HFS.out.on (gb_store _ _ _ _) (fun g hg => by cases hg; omega)) (gb_store _ _ _ _) (fun g hg => by cases hg; omega)
   have HB : Rd ((wF.setCell ⟨w.heap.size + 1, 0, none⟩ (.slice z1 bF.things.length d1)).setCell ⟨w.heap.size + 1, 1, none⟩ (.slice z2 bF.batches.length d2)) R (q + 10) := ((HFS.out.rd.gb (gb_store _ _ _ _) (fun g hg => by cases hg; omega)).gb (gb_store _ _ _ _) (fun g hg => by cases hg; omega)).mono (by omega)
   have HC : BookAt ((wF.setCell ⟨w.heap.size + 1, 0, none⟩ (.slice z1 bF.things.length d1)).setCell ⟨w.heap.size + 1, 1, none⟩ (.slice z2 bF.batches.length d2)) z1 z2 bF := (HBKF.out.box HFS.out.rr noStr2).box r1 noStr2
   refine bodyPost_ret (v := .agg #[.slice z1 bF.things.length d1, .slice z2 bF.batches.length d2]) (by simp [results, Tryz.results94, go_sem, t0, t1]) rfl (by
    refine ⟨bF, z1, z2, ?_⟩
    first
     | exact ⟨d1, d2, rfl, HA, HB, HC, HSMF.out⟩
     | exact ⟨⟨d1, d2, rfl⟩, HA, HB, HC, HSMF.out⟩)
end Go.Proofs.YtdafpnpfcmgfcaaGreatDoor
