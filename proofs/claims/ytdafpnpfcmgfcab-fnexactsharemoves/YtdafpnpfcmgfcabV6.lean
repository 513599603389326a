/- The walk over the program's ShareBookOk. -/
import Derived.Test.YtdafpnpfcmgfcabV5
import Derived.Test.YtdafpnpfcmgfcabJF
import Derived.Test.YtdafpnpfcmgfcabW9
namespace Go.Proofs.Ytdafpnpfcmgfcab
open Go.RowKit
attribute [local go_sem] S_toList S_size S_get

theorem namesB_eq (b : Book) : namesB b = (allNames (namesOf b.batches) && ascB (namesOf b.batches)) := by
  unfold namesB allNames ascB
  rw [namesOf_length]
  congr 1
  · exact allLt_congr (fun i hi => by rw [nth_namesOf hi]; rfl)
  · refine allLt_congr (fun i hi => ?_)
    unfold upB up
    rw [nth_namesOf hi, nth_namesOf (by omega)]; rfl

theorem implOk_1 {b : Book} (h : thingsOk b.things = false) : bookOk b = false := by rw [bookOk_iff, h]; rfl
theorem implOk_3 {b : Book} (h : allNames (namesOf b.batches) = false) : bookOk b = false := by rw [bookOk_iff, namesB_eq, h]; simp
theorem implOk_4 {b : Book} (h : ascB (namesOf b.batches) = false) : bookOk b = false := by rw [bookOk_iff, namesB_eq, h]; simp
theorem implOk_5 {b : Book} {i : Nat} (hi : i < b.batches.length) (h : (namesOk (b.at i).needs b.things && namesOk (b.at i).has (b.at i).needs) = false) : bookOk b = false := by
  rw [bookOk_iff]; unfold restOk; rw [allLt_no (p := fun i => namesOk (b.at i).needs b.things && namesOk (b.at i).has (b.at i).needs) hi h]; simp
theorem implOk_6 {b : Book} (h1 : thingsOk b.things = true) (h2 : b.batches.length ≤ 5) (h3 : allNames (namesOf b.batches) = true) (h4 : ascB (namesOf b.batches) = true)
    (h5 : ∀ i, i < b.batches.length → (namesOk (b.at i).needs b.things && namesOk (b.at i).has (b.at i).needs) = true) : bookOk b = onceB b.batches := by
  rw [bookOk_iff, namesB_eq, h1, h3, h4]; unfold restOk; rw [allLt_of h5]; simp [h2]

set_option maxHeartbeats 1000000 in
theorem implBookOk_any (b : Book) (a1 a2 : Option Addr) (c1 c2 : Nat) (w : World) (hb : BookAt w a1 a2 b) :
    Calls Qry.prog 22 #[.agg #[.slice a1 b.things.length c1, .slice a2 b.batches.length c2]] w fun e w' =>
      e = .returned (.bool (bookOk b)) ∧ Ext w w' := by
  have hal : ∀ o, Ext w (w.alloc o) := fun o => (Below.refl _ _).alloc (Nat.le_refl _) _
  obtain ⟨ht, hbs⟩ := hb
  have hn := hbs.1
  cases hth : thingsOk b.things
  · have HF : Hid (bookOk b = false) := implOk_1 hth
    go_enter Qry.func22, Try.ntmps22
    go_wp2_with fail
    refine (implThingsOk_any _ _ _ _ (ht.ext (hal _))).mono ?_
    rintro e w1 ⟨rfl, hext⟩
    have HE := hid (Ext.tr (hal _) hext)
    clear hext
    go_wp2_with fail
    go_ret
    exact ⟨ret_bool HF.out.symm, HE.out⟩
  · by_cases h5 : b.batches.length ≤ 5
    · go_enter Qry.func22, Try.ntmps22
      go_wp2_with fail
      refine (implThingsOk_any _ _ _ _ (ht.ext (hal _))).mono ?_
      rintro e w1 ⟨rfl, hext⟩
      have hx0 := box_cell hext (i := 0) rfl
      have hx1 := box_cell hext (i := 1) rfl
      have HE0 := hid hext
      clear hext
      go_wp2_with fail
      refine (batchNames_any _ _ _ _ (hbs.ext (Ext.tr (hal _) HE0.out))).mono ?_
      rintro e w2 ⟨an, cn, rfl, hext2, hnames⟩
      have HE2 := hid (Ext.tr HE0.out hext2)
      clear hx0 hx1
      have hx0 := box_cell HE2.out (i := 0) rfl
      have hx1 := box_cell HE2.out (i := 1) rfl
      clear hext2
      cases hnm : allNames (namesOf b.batches)
      · have HF : Hid (bookOk b = false) := implOk_3 hnm
        go_wp2_with fail
        refine (areNames_any _ _ _ _ hnames).mono ?_
        rintro e w3 ⟨rfl, hext3⟩
        have HE3 := hid (Ext.tr HE2.out hext3)
        clear hext3
        go_wp2_with fail
        go_ret
        exact ⟨ret_bool HF.out.symm, Ext.tr (hal _) HE3.out⟩
      · go_wp2_with fail
        refine (areNames_any _ _ _ _ hnames).mono ?_
        rintro e w3 ⟨rfl, hext3⟩
        have HE3 := hid (Ext.tr HE2.out hext3)
        have hnames3 := hnames.ext hext3
        clear hext3 hx0 hx1 hnames
        have hx0 := box_cell HE3.out (i := 0) rfl
        have hx1 := box_cell HE3.out (i := 1) rfl
        cases has : ascB (namesOf b.batches)
        · have HF : Hid (bookOk b = false) := implOk_4 has
          go_wp2_with fail
          refine (ascending_any _ _ _ _ hnames3).mono ?_
          rintro e w4 ⟨rfl, n4, rfl⟩
          go_wp2_with fail
          go_ret
          exact ⟨ret_bool HF.out.symm, Ext.tr (hal _) (Ext.tr HE3.out (ext_drewN _ _))⟩
        · go_wp2_with fail
          refine (ascending_any _ _ _ _ hnames3).mono ?_
          rintro e w4 ⟨rfl, hd4⟩
          have HE4 := hid (Ext.tr HE3.out (draws_ext hd4))
          clear hd4 hx0 hx1 hnames3
          have hx0 := box_cell HE4.out (i := 0) rfl
          have hx1 := box_cell HE4.out (i := 1) rfl
          go_wp2_with fail
          go_loopw [32] (fun i wr => ∃ k : Nat, k ≤ b.batches.length ∧ i = .int .i64 k ∧ Ext (w.alloc (.cells #[.slice a1 b.things.length c1, .slice a2 b.batches.length c2] 30)) wr ∧ ∀ j, j < k → (namesOk (b.at j).needs b.things && namesOk (b.at j).has (b.at j).needs) = true) (fun i _ => b.batches.length - (intOf i).toNat)
          case atStart => exact ⟨0, Nat.zero_le _, rfl, HE4.out, fun j hj => by omega⟩
          case round =>
            obtain ⟨k, hk, rfl, hext, hx⟩ := hrel
            clear hx0 hx1
            have hx0 := box_cell hext (i := 0) rfl
            have hx1 := box_cell hext (i := 1) rfl
            have ht' := ht.ext (Ext.tr (hal _) hext)
            have hbs' := hbs.ext (Ext.tr (hal _) hext)
            have HX := hid hx
            have HE := hid hext
            clear hx hext
            by_cases hlt : k < b.batches.length
            · obtain ⟨ba, oa, rfl, hl, d1, g1, d2, g2, p0, p1, p2, s1, s2⟩ := hbs'.2 k hlt
              have hx0' : ∀ o, (wr.alloc o).cell? ⟨w.heap.size, 0, none⟩ = some (.slice a1 b.things.length c1) := fun o => (ext_alloc _ _).keep hx0
              cases hq : (namesOk (nthB b.batches k).needs b.things && namesOk (nthB b.batches k).has (nthB b.batches k).needs)
              · have HF : Hid (bookOk b = false) := implOk_5 hlt hq
                go_wp2_with fail
                refine (implBatchOk_any (nthB b.batches k) _ _ _ _ _ _ _ _ (s1.ext (ext_alloc _ _)) (s2.ext (ext_alloc _ _)) (ht'.ext (ext_alloc _ _))).mono ?_
                rintro e w5 ⟨rfl, hext5⟩
                have HE5 := hid (Ext.tr HE.out (Ext.tr (ext_alloc _ _) hext5))
                clear hext5
                rw [hq]
                go_wp2
                go_ret
                exact ⟨ret_bool HF.out.symm, Ext.tr (hal _) HE5.out⟩
              · have HQ := hid hq
                go_wp2_with fail
                refine (implBatchOk_any (nthB b.batches k) _ _ _ _ _ _ _ _ (s1.ext (ext_alloc _ _)) (s2.ext (ext_alloc _ _)) (ht'.ext (ext_alloc _ _))).mono ?_
                rintro e w5 ⟨rfl, hext5⟩
                have HE5 := hid (Ext.tr HE.out (Ext.tr (ext_alloc _ _) hext5))
                clear hext5
                rw [hq]
                clear hq
                go_wp2
                go_roundw
                case rel => exact ⟨k + 1, by omega, by go_num, HE5.out, fun j hj => by
                  by_cases e : j = k
                  · rw [e]; exact HQ.out
                  · exact HX.out j (by omega)⟩
                case measure => simp [intOf]; omega
            · have HF : Hid (bookOk b = onceB b.batches) := implOk_6 hth h5 hnm has (fun j hj => HX.out j (by omega))
              go_wp2_with fail
              refine (holders_any _ _ _ _ hbs' h5).mono ?_
              rintro e w5 ⟨hext5, (⟨rfl, ho⟩ | ⟨B, rfl, ho, _⟩)⟩
              · have HE5 := hid (Ext.tr HE.out hext5)
                have HO := hid ho
                clear hext5 ho
                go_wp2_with fail
                go_ret
                exact ⟨ret_bool (by rw [HF.out, HO.out]), Ext.tr (hal _) HE5.out⟩
              · have HE5 := hid (Ext.tr HE.out hext5)
                have HO := hid ho
                clear hext5 ho
                go_wp2_with fail
                go_ret
                exact ⟨ret_bool (by rw [HF.out, HO.out]), Ext.tr (hal _) HE5.out⟩
    · have HF : Hid (bookOk b = false) := bookOk_no2 h5
      go_enter Qry.func22, Try.ntmps22
      go_wp2_with fail
      refine (implThingsOk_any _ _ _ _ (ht.ext (hal _))).mono ?_
      rintro e w1 ⟨rfl, hext⟩
      have hx0 := box_cell hext (i := 0) rfl
      have hx1 := box_cell hext (i := 1) rfl
      have HE := hid (Ext.tr (hal _) hext)
      clear hext
      go_wp2_with fail
      go_ret
      exact ⟨ret_bool HF.out.symm, HE.out⟩
end Go.Proofs.Ytdafpnpfcmgfcab
