/- The walk over the specification's ShareFits. -/
import Derived.Test.YtdafpnpfcmgfcaaW11
namespace Go.Proofs.Ytdafpnpfcmgfcaa
open Go.RowKit
attribute [local go_sem] S_toList S_size S_get

set_option maxHeartbeats 1000000 in
theorem specFits_any (b : Book) (order : List Str) (a1 a2 a3 : Option Addr) (c1 c2 c3 : Nat) (w : World) (hb : BookAt w a1 a2 b) (ho : StrsAt w a3 order) (hc3 : order.length ≤ c3) :
    Calls Try.prog 19 #[.agg #[.slice a1 b.things.length c1, .slice a2 b.batches.length c2], .slice a3 order.length c3] w fun e w' =>
      e = .returned (.bool (fitsB b order)) ∧ Ext w w' := by
  have hal : ∀ o, Ext w (w.alloc o) := fun o => (Below.refl _ _).alloc (Nat.le_refl _) _
  have hn := hb.2.1
  have hno := ho.1
  cases hok : bookOk b
  · have HF : Hid (fitsB b order = false) := by show _ = false; simp [fitsB, hok]
    go_enter Try.func19, Try.ntmps19
    go_wp2_with fail
    refine (specBookOk_any b _ _ _ _ _ (hb.ext (hal _))).mono ?_
    rintro e w1 ⟨rfl, hext1⟩
    have HE1 := hid (Ext.tr (hal _) hext1)
    clear hext1
    go_wp2_with fail
    go_ret
    exact ⟨ret_bool HF.out.symm, HE1.out⟩
  · by_cases hlen : order.length = b.batches.length
    · have hd : ((order.length : Int) != (b.batches.length : Int)) = false := by simp; omega
      have HL := hid hlen
      clear hlen
      go_enter Try.func19, Try.ntmps19
      go_wp2_with fail
      refine (specBookOk_any b _ _ _ _ _ (hb.ext (hal _))).mono ?_
      rintro e w1 ⟨rfl, hext1⟩
      have HE1 := hid hext1
      clear hext1
      have hx0 := box_cell HE1.out (i := 0) rfl
      have hx1 := box_cell HE1.out (i := 1) rfl
      go_wp2_with fail
      go_loopw [5] (fun i wr => ∃ k : Nat, k ≤ order.length ∧ i = .int .i64 k ∧ Ext (w.alloc (.cells #[.slice a1 b.things.length c1, .slice a2 b.batches.length c2] 26)) wr ∧ ∀ j, j < k → stepB b order j = true) (fun i _ => order.length - (intOf i).toNat)
      case atStart => exact ⟨0, Nat.zero_le _, rfl, HE1.out, fun j hj => by omega⟩
      case round =>
        obtain ⟨k, hk, rfl, hext, hx⟩ := hrel
        clear hx0 hx1
        have hx0 := box_cell hext (i := 0) rfl
        have hx1 := box_cell hext (i := 1) rfl
        have hb' := hb.ext (Ext.tr (hal _) hext)
        have ho' := ho.ext (Ext.tr (hal _) hext)
        have HX := hid hx
        have HE := hid hext
        clear hx hext
        by_cases hlt : k < order.length
        · obtain ⟨hol, bo, oo, rfl, hco⟩ := ho'.2 k hlt
          by_cases hp : place (namesOf b.batches) (nth order k) < b.batches.length
          · obtain ⟨p, hpe⟩ : ∃ p, place (namesOf b.batches) (nth order k) = p := ⟨_, rfl⟩
            rw [hpe] at hp
            have HP := hid hpe
            clear hpe
            go_upto_region 6 with fail
            go_cut [6] (fun r wx => r = .int .i64 (p : Int) ∧ Ext wr wx)
            case first =>
              go_region_with (go_at_call 53; refine (l1At_yes b (nth order k) p _ _ _ _ _ (hb'.draws ⟨1, rfl⟩) HP.out hp).mono ?_; rintro e w2 ⟨rfl, hext2⟩)
              all_goals
                go_wp2_with fail
                go_meet
                exact ⟨rfl, Ext.tr (ext_drewN wr 1) hext2⟩
            case rest =>
              obtain ⟨rfl, hext2⟩ := hcut
              have HE2 := hid (Ext.tr HE.out hext2)
              have hneg : decide ((p : Int) < 0) = false := by simp
              have hb2 := hb'.ext hext2
              have ho2 := (ho'.ext hext2).take k
              have hco2 := hext2.keep hco
              have hkc : k ≤ c3 := by omega
              have hlk : (order.take k).length = k := by rw [List.length_take]; omega
              have HLK := hid hlk
              clear hext2 hb' ho' hx0 hx1 hco hlk
              have hx0 := box_cell HE2.out (i := 0) rfl
              have hx1 := box_cell HE2.out (i := 1) rfl
              cases hh : hasB (order.take k) (nth order k)
              · have hne : Nonempty (Grow wc) := ⟨⟨wc, Ext.rfl' wc⟩⟩
                have gx0 := fun x : Grow wc => x.cell hx0
                have gx1 := fun x : Grow wc => x.cell hx1
                have gco := fun x : Grow wc => x.cell hco2
                cases hcan : canB b p (order.take k)
                · have HF : Hid (fitsB b order = false) := fitsB_no hlt (by unfold stepB; rw [HP.out, hcan]; simp)
                  go_wp2_with fail
                  refine wp_region_grow (by kernel_rfl) (by kernel_rfl) ?_
                  repeat (go_big_quiet_step ((first | (go_at_call 54; exact grow_same (l1Has_n _ _ _ (order.take k) _ _ _ (ho2.ext (Grow.e _)) HLK.out hh)) | (go_at_call 55; exact grow_of (l2Can_n b p (order.take k) _ _ _ _ _ _ _ _ _ (hb2.ext (Grow.e _)) (ho2.ext (Grow.e _)) hp HLK.out hcan)))))
                  refine wpQuiet_nil ?_
                  intro _ hw'
                  obtain ⟨x3, hw''⟩ := hw'
                  subst hw''
                  go_wp2
                  go_ret
                  exact ⟨ret_bool HF.out.symm, Ext.tr (hal _) (Ext.tr HE2.out x3.e)⟩
                · have HQ : Hid (stepB b order k = true) := by
                    show _ = true
                    unfold stepB; rw [HP.out, hcan, hh]; simp [hp]
                  go_wp2_with fail
                  refine wp_region_grow (by kernel_rfl) (by kernel_rfl) ?_
                  repeat (go_big_quiet_step ((first | (go_at_call 54; exact grow_same (l1Has_n _ _ _ (order.take k) _ _ _ (ho2.ext (Grow.e _)) HLK.out hh)) | (go_at_call 55; exact grow_of (l2Can_n b p (order.take k) _ _ _ _ _ _ _ _ _ (hb2.ext (Grow.e _)) (ho2.ext (Grow.e _)) hp HLK.out hcan)))))
                  refine wpQuiet_nil ?_
                  intro _ hw'
                  obtain ⟨x3, hw''⟩ := hw'
                  subst hw''
                  go_wp2
                  go_roundw
                  case rel => exact ⟨k + 1, by omega, by go_num, Ext.tr HE2.out x3.e, fun j hj => by
                    by_cases e : j = k
                    · rw [e]; exact HQ.out
                    · exact HX.out j (by omega)⟩
                  case measure => simp [intOf]; omega
              · have HF : Hid (fitsB b order = false) := fitsB_no hlt (by unfold stepB; rw [hh]; simp)
                go_wp2_with fail
                go_quiet ((go_at_call 54; exact Calls.quiet_of_same (l1Has_n _ _ _ (order.take k) _ _ _ (ho2.drewN _) HLK.out hh)))
                go_wp2
                go_ret
                exact ⟨ret_bool HF.out.symm, Ext.tr (hal _) (Ext.tr HE2.out (ext_drewN _ _))⟩
          · have HF : Hid (fitsB b order = false) := fitsB_no hlt (by simp [stepB, hp])
            go_upto_region 6 with fail
            go_cut [6] (fun r wx => r = .int .i64 (-1) ∧ Ext wr wx)
            case first =>
              go_region_with (go_at_call 53; refine (l1At_no b (nth order k) _ _ _ _ _ (hb'.draws ⟨1, rfl⟩) hp).mono ?_; rintro e w2 ⟨rfl, hext2⟩)
              all_goals
                go_wp2_with fail
                go_meet
                exact ⟨rfl, Ext.tr (ext_drewN wr 1) hext2⟩
            case rest =>
              obtain ⟨rfl, hext2⟩ := hcut
              have HE2 := hid (Ext.tr HE.out hext2)
              have hneg : decide ((-1 : Int) < 0) = true := by decide
              clear hext2 hb' ho' hx0 hx1
              go_wp2_with fail
              go_quiet (fail)
              go_wp2
              go_ret
              exact ⟨ret_bool HF.out.symm, Ext.tr (hal _) (Ext.tr HE2.out (ext_drewN _ _))⟩
        · have HF : Hid (fitsB b order = true) := fitsB_yes hok HL.out (fun j hj => HX.out j (by omega))
          go_wp2
          go_ret
          exact ⟨ret_bool HF.out.symm, Ext.tr (hal _) HE.out⟩
    · have hd : ((order.length : Int) != (b.batches.length : Int)) = true := by simp; omega
      have HF : Hid (fitsB b order = false) := by show _ = false; simp [fitsB, hlen]
      go_enter Try.func19, Try.ntmps19
      go_wp2_with fail
      refine (specBookOk_any b _ _ _ _ _ (hb.ext (hal _))).mono ?_
      rintro e w1 ⟨rfl, hext1⟩
      have HE1 := hid hext1
      clear hext1
      have hx0 := box_cell HE1.out (i := 0) rfl
      have hx1 := box_cell HE1.out (i := 1) rfl
      go_wp2_with fail
      go_ret
      exact ⟨ret_bool HF.out.symm, Ext.tr (hal _) HE1.out⟩
end Go.Proofs.Ytdafpnpfcmgfcaa
