/- Why asking is refused. -/
import Derived.Test.YtdafpnpfcmgfcabGreatDoorE14
import Derived.Test.YtdafpnpfcmgfcabGreatDoorRA
namespace Go.Proofs.YtdafpnpfcmgfcabGreatDoor
open Go.RowKit
attribute [local go_sem] S_toList S_size S_get

theorem askC_1 {b : Book} {n : Str} {things : List Str} (h : hereB b n = false) : askC b n things = 3 := by unfold askC; rw [if_pos h]
theorem askC_2 {b : Book} {n : Str} {things : List Str} {k : Nat} (h : hereB b n = true) (hk : whereB b n = k) (h2 : namesOk things (nthB b.batches k).needs = false) : askC b n things = 2 := by
  subst hk; unfold askC; rw [if_neg (by simp [h]), if_pos (show namesOk things (b.at (whereB b n)).needs = false from h2)]
theorem askC_3 {b : Book} {n : Str} {things : List Str} {k : Nat} (h : hereB b n = true) (hk : whereB b n = k) (h2 : namesOk things (nthB b.batches k).needs = true) (h3 : takenB b k things = true) : askC b n things = 5 := by
  subst hk; unfold askC; rw [if_neg (by simp [h]), if_neg (by rw [show (b.at (whereB b n)).needs = (nthB b.batches (whereB b n)).needs from rfl, h2]; simp), if_pos h3]
theorem askC_4 {b : Book} {n : Str} {things : List Str} {k : Nat} (h : hereB b n = true) (hk : whereB b n = k) (h2 : namesOk things (nthB b.batches k).needs = true) (h3 : takenB b k things = false) :
    askC b n things = if safeB b = true ∧ safeB (giveB b k things) = false then 6 else 0 := by
  subst hk; unfold askC; rw [if_neg (by simp [h]), if_neg (by rw [show (b.at (whereB b n)).needs = (nthB b.batches (whereB b n)).needs from rfl, h2]; simp), if_neg (by simp [h3])]

set_option maxRecDepth 100000 in
set_option maxHeartbeats 2000000 in
theorem askRef_any (b : Book) (n : Str) (things : List Str) (a1 a2 a3 : Option Addr) (c1 c2 c3 : Nat) (w : World) (hb : BookAt w a1 a2 b) (hn : StrsAt w a3 things) (hok : bookOk b = true) :
    Calls Tryz.prog 104 #[.agg #[.string (S n), .slice a3 things.length c3], .agg #[.slice a1 b.things.length c1, .slice a2 b.batches.length c2]] w fun e w' => e = .returned (whyV (askC b n things)) ∧ Ext w w' := by
  go_enter Tryz.func104, Tryz.ntmps104
  go_wp2_with fail
  refine (placeOf_any b n _ _ _ _ _ (hb.ext (ext_two _ _ _)) hok).mono ?_
  rintro e w1 ⟨rfl, hE1⟩
  have p0 := box1of2 hE1 (i := 0) rfl
  have p1 := box1of2 hE1 (i := 1) rfl
  have q0 := box2of2 hE1 (i := 0) rfl
  have q1 := box2of2 hE1 (i := 1) rfl
  have HE := hid (Ext.tr (ext_two _ _ _) hE1)
  clear hE1
  cases hh : hereB b n
  · have HC : Hid (askC b n things = 3) := askC_1 hh
    clear hh
    go_wp2_with fail
    go_ret
    exact ⟨ret_why (k := 3) HC.out (by omega), HE.out⟩
  · have hk := where_lt hh
    have hw := ok_where hok hh
    rw [hw]
    have HH := hid hh
    clear hh hw
    generalize hke : whereB b n = k at *
    have HKE := hid hke
    clear hke
    obtain ⟨bb, oo, rfl, h0, x1, y1, x2, y2, d0, d1, d2, s1, s2⟩ := (hb.ext HE.out).2.2 k hk
    have h5 := ok_five hok
    clear h0 d0 d1
    go_wp2_with fail
    refine wp_region_T (fun w' => w'.cell? ⟨w.heap.size, 1, none⟩ = some (.slice a3 things.length c3) ∧ w'.cell? ⟨w.heap.size + 1, 1, none⟩ = some (.slice (some ⟨bb, oo, none⟩) b.batches.length c2) ∧ w'.cell? ⟨bb, oo + k * 3 + 2, none⟩ = some (.slice x2 (nthB b.batches k).needs.length y2)) 11 (by kernel_rfl) ⟨p1, q1, d2⟩ (fun hS => ?_)
    refine wpT_takeN 0 (v := ?_) rfl rfl (by kernel_rfl) (by kernel_rfl) (by kernel_rfl) (by kernel_rfl) (fun _ _ _ h => h) hS rfl (by intro w0 hw0; (try dsimp only at hw0); go_simp; try rfl) ?_
    try simp only [List.set]
    refine wpT_takeN 1 (v := ?_) rfl rfl (by kernel_rfl) (by kernel_rfl) (by kernel_rfl) (by kernel_rfl) (fun _ _ _ h => h) hS rfl (by intro w0 hw0; (try dsimp only at hw0); go_simp; try rfl) ?_
    try simp only [List.set]
    refine wpT_takeN 2 (v := ?_) rfl rfl (by kernel_rfl) (by kernel_rfl) (by kernel_rfl) (by kernel_rfl) (fun _ _ _ h => h) hS rfl (by intro w0 hw0; (try dsimp only at hw0); go_simp; try rfl) ?_
    try simp only [List.set]
    refine wpT_takeN 3 (v := ?_) rfl rfl (by kernel_rfl) (by kernel_rfl) (by kernel_rfl) (by kernel_rfl) (fun _ _ _ h => h) hS rfl (by intro w0 hw0; (try dsimp only at hw0); go_simp; try rfl) ?_
    try simp only [List.set]
    refine wpT_takeN 4 (v := ?_) rfl rfl (by kernel_rfl) (by kernel_rfl) (by kernel_rfl) (by kernel_rfl) (fun _ _ _ h => h) hS rfl (by intro w0 hw0; (try dsimp only at hw0); go_simp; try rfl) ?_
    try simp only [List.set]
    refine wpT_takeN 5 (v := ?_) rfl rfl (by kernel_rfl) (by kernel_rfl) (by kernel_rfl) (by kernel_rfl) (fun _ _ _ h => h) hS rfl (by intro w0 hw0; (try dsimp only at hw0); go_simp; try rfl) ?_
    try simp only [List.set]
    refine wpT_takeN 6 (v := ?_) rfl rfl (by kernel_rfl) (by kernel_rfl) (by kernel_rfl) (by kernel_rfl) (fun _ _ _ h => h) hS rfl (by intro w0 hw0; (try dsimp only at hw0); go_simp; try rfl) ?_
    try simp only [List.set]
    refine wpT_takeN 7 (v := ?_) rfl rfl (by kernel_rfl) (by kernel_rfl) (by kernel_rfl) (by kernel_rfl) (fun _ _ _ h => h) hS rfl (by intro w0 hw0; (try dsimp only at hw0); go_simp; try rfl) ?_
    try simp only [List.set]
    refine wpT_one 8 rfl (by kernel_rfl) rfl rfl (fun K hK => ?_)
    go_simp
    cases hp : namesOk things (nthB b.batches k).needs
    · have HC : Hid (askC b n things = 2) := askC_2 HH.out HKE.out hp
      refine (picked_v _ _ _ _ _ _ _ _ ((hn.ext HE.out).drewN 1) (s2.drewN 1) hp).mono ?_
      rintro e w3 ⟨rfl, j, hw3⟩
      have hE3 : Ext w1 w3 := by rw [hw3]; exact Ext.tr (ext_drewN _ 1) (ext_drewN _ _)
      have HE3 := hid (Ext.tr HE.out hE3)
      clear hw3
      go_wp2_with fail
      refine hK.out _ _ ⟨hE3.keep p1, hE3.keep q1, hE3.keep d2⟩ (fun hS1 => ?_)
      clear hK hS
      have hS := hS1
      clear hS1
      try clear K
      try simp only [put_some, List.set]
      refine wpT_takeN 9 (v := ?_) rfl rfl (by kernel_rfl) (by kernel_rfl) (by kernel_rfl) (by kernel_rfl) (fun _ _ _ h => h) hS rfl (by intro w0 hw0; (try dsimp only at hw0); go_simp; try rfl) ?_
      try simp only [List.set]
      refine wpT_takeN 10 (v := ?_) rfl rfl (by kernel_rfl) (by kernel_rfl) (by kernel_rfl) (by kernel_rfl) (fun _ _ _ h => h) hS rfl (by intro w0 hw0; (try dsimp only at hw0); go_simp; try rfl) ?_
      try simp only [List.set]
      refine wpT_done (by kernel_rfl) ?_ _
      clear hE3 hp
      go_wp2_with fail
      go_ret
      exact ⟨ret_why (k := 2) HC.out (by omega), HE3.out⟩
    · have HP := hid hp
      refine (picked_v _ _ _ _ _ _ _ _ ((hn.ext HE.out).drewN 1) (s2.drewN 1) hp).mono ?_
      rintro e w3 ⟨rfl, j, hw3⟩
      have hE3 : Ext w1 w3 := by rw [hw3]; exact Ext.tr (ext_drewN _ 1) (ext_drewN _ _)
      have HE3 := hid (Ext.tr HE.out hE3)
      clear hw3
      go_wp2_with fail
      refine hK.out _ _ ⟨hE3.keep p1, hE3.keep q1, hE3.keep d2⟩ (fun hS1 => ?_)
      clear hK hS
      have hS := hS1
      clear hS1
      try clear K
      try simp only [put_some, List.set]
      refine wpT_takeN 9 (v := ?_) rfl rfl (by kernel_rfl) (by kernel_rfl) (by kernel_rfl) (by kernel_rfl) (fun _ _ _ h => h) hS rfl (by intro w0 hw0; (try dsimp only at hw0); go_simp; try rfl) ?_
      try simp only [List.set]
      refine wpT_takeN 10 (v := ?_) rfl rfl (by kernel_rfl) (by kernel_rfl) (by kernel_rfl) (by kernel_rfl) (fun _ _ _ h => h) hS rfl (by intro w0 hw0; (try dsimp only at hw0); go_simp; try rfl) ?_
      try simp only [List.set]
      refine wpT_done (by kernel_rfl) ?_ _
      replace p0 := hE3.keep p0
      replace p1 := hE3.keep p1
      replace q0 := hE3.keep q0
      replace q1 := hE3.keep q1
      clear hE3 hp hS d2 s1 s2 HE
      go_wp2_with fail
      cases ht : takenB b k things
      · refine (hadBy_v b k things false _ _ _ _ _ _ _ (hb.ext HE3.out) (hn.ext HE3.out) hok hk ht).mono ?_
        rintro e w4 ⟨rfl, hE4⟩
        have HU := hid (askC_4 HH.out HKE.out HP.out ht)
        have HE4 := hid (Ext.tr HE3.out hE4)
        replace p0 := hE4.keep p0
        replace p1 := hE4.keep p1
        replace q0 := hE4.keep q0
        replace q1 := hE4.keep q1
        clear hE4 ht HE3
        go_wp2_with fail
        refine (implSafe_any b _ _ _ _ _ (hb.ext HE4.out)).mono ?_
        rintro e w5 ⟨rfl, hE5⟩
        have HE5 := hid (Ext.tr HE4.out hE5)
        replace p0 := hE5.keep p0
        replace p1 := hE5.keep p1
        replace q0 := hE5.keep q0
        replace q1 := hE5.keep q1
        clear hE5 HE4
        cases hs : safeB b
        · have HC : Hid (askC b n things = 0) := by show _ = _; rw [HU.out, hs]; simp
          clear hs
          go_wp2_with fail
          go_ret
          exact ⟨ret_why0 HC.out, HE5.out⟩
        · have HS := hid hs
          clear hs
          go_wp2_with fail
          refine (doneA_any b n things _ _ _ _ _ _ _ (hb.ext HE5.out) (hn.ext HE5.out) hok HH.out (by rw [HKE.out]; exact HP.out)).mono ?_
          rintro e w6 ⟨v1, v2, rs, rfl, hE6, hO6⟩
          have hgl : (giveB b (whereB b n) things).batches.length ≤ 2199023255552 := by
            show (b.batches.set _ _).length ≤ _
            rw [List.length_set]; omega
          obtain ⟨g1, g2, g3, g4, rfl, rfl, hat6⟩ := hO6.at hgl
          rw [HKE.out] at hat6
          have HAT6 := hid hat6
          have HE6 := hid (Ext.tr HE5.out hE6)
          clear hE6 hO6 hat6 hgl HE5
          rw [HKE.out]
          go_wp2_with fail
          refine (implSafe_any (giveB b k things) _ _ _ _ _ HAT6.out).mono ?_
          rintro e w7 ⟨rfl, hE7⟩
          have HE7 := hid (Ext.tr HE6.out hE7)
          clear hE7 HE6
          cases hg : safeB (giveB b k things)
          · have HC : Hid (askC b n things = 6) := by show _ = _; rw [HU.out, HS.out, hg]; simp
            clear hg
            go_wp2_with fail
            go_ret
            exact ⟨ret_why (k := 6) HC.out (by omega), HE7.out⟩
          · have HC : Hid (askC b n things = 0) := by show _ = _; rw [HU.out, HS.out, hg]; simp
            clear hg
            go_wp2_with fail
            go_ret
            exact ⟨ret_why0 HC.out, HE7.out⟩
      · have HC : Hid (askC b n things = 5) := askC_3 HH.out HKE.out HP.out ht
        refine (hadBy_v b k things true _ _ _ _ _ _ _ (hb.ext HE3.out) (hn.ext HE3.out) hok hk ht).mono ?_
        rintro e w4 ⟨rfl, hE4⟩
        have HE4 := hid (Ext.tr HE3.out hE4)
        clear hE4 ht
        go_wp2_with fail
        go_ret
        exact ⟨ret_why (k := 5) HC.out (by omega), HE4.out⟩
end Go.Proofs.YtdafpnpfcmgfcabGreatDoor
