/- The walk over the exact law of ShareBookOk. -/
import Derived.Test.YtdafpnpfcmgfcaaV6
import Derived.Test.YtdafpnpfcmgfcaaW11
namespace Go.Proofs.Ytdafpnpfcmgfcaa
open Go.RowKit
attribute [local go_sem] S_toList S_size S_get



set_option maxHeartbeats 1000000 in
theorem fnExactShareBookOk_any (b : Book) (a1 a2 : Option Addr) (c1 c2 : Nat) (w : World) (hb : BookAt w a1 a2 b) :
    Calls Try.prog 5 #[.agg #[.slice a1 b.things.length c1, .slice a2 b.batches.length c2]] w fun e w' =>
      e = .returned (.bool true) ∧ Ext w w' := by
  have hal : ∀ o, Ext w (w.alloc o) := fun o => (Below.refl _ _).alloc (Nat.le_refl _) _
  go_enter Try.func5, Try.ntmps5
  go_wp2_with fail
  refine (szShareBook_any b _ _ _ _ _ _ (hb.ext (hal _)) (by omega) (by omega)).mono ?_
  rintro e w1 ⟨⟨r, rfl, hr1, hr2⟩, hext1⟩
  have HE1 := hid hext1
  clear hext1
  by_cases hr : r < 0
  · go_wp2_with fail
    go_ret
    exact ⟨rfl, Ext.tr (hal _) HE1.out⟩
  · have hx0 := box_cell HE1.out (i := 0) rfl
    have hx1 := box_cell HE1.out (i := 1) rfl
    go_wp2_with fail
    refine (toShareBook_any b _ _ _ _ _ (hb.ext (Ext.tr (hal _) HE1.out))).mono ?_
    rintro e w2 ⟨b1, b2, rfl, hext2, _, hown2⟩
    have HE2 := hid (Ext.tr HE1.out hext2)
    have hat2 := hown2.at
    clear hext2 hown2 hx0 hx1
    go_wp2_with fail
    refine (specBookOk_any b _ _ _ _ _ hat2).mono ?_
    rintro e w3 ⟨rfl, hext3⟩
    have HE3 := hid (Ext.tr HE2.out hext3)
    clear hext3 hat2
    have hx0 := box_cell HE3.out (i := 0) rfl
    have hx1 := box_cell HE3.out (i := 1) rfl
    go_wp2_with fail
    refine (toShareBook_any b _ _ _ _ _ (hb.ext (Ext.tr (hal _) HE3.out))).mono ?_
    rintro e w4 ⟨x1, x2, rfl, hext4, hx14, hown4⟩
    have HE4 := hid (Ext.tr HE3.out hext4)
    have hat4 := hid hown4.at
    clear hext4 hown4 hx0 hx1
    go_wp2_with fail
    refine (implBookOk_any b _ _ _ _ _ (hat4.out.ext (ext_alloc _ _))).mono ?_
    rintro e w5 ⟨rfl, hext5⟩
    have y0 := box_cell hext5 (i := 0) rfl
    have y1 := box_cell hext5 (i := 1) rfl
    have hat5 := hid (hat4.out.ext (Ext.tr (ext_alloc _ _) hext5))
    have HE5 := hid (Ext.tr HE4.out (Ext.tr (ext_alloc _ _) hext5))
    have hx0 := box_cell HE5.out (i := 0) rfl
    have hx1 := box_cell HE5.out (i := 1) rfl
    have hb5 := hb.ext (Ext.tr (hal _) HE5.out)
    have zw : w.heap.size < w5.heap.size := cell_lt hx0
    have zx : w4.heap.size < w5.heap.size := cell_lt y0
    clear hext5
    go_wp2
    go_region_with (first
      | (go_at_call 25; refine (toShareBook_any b _ _ _ _ _ (hb5.draws ⟨1, rfl⟩)).mono ?_; rintro e w6 ⟨e1, e2, rfl, hext6, _, hown6⟩; have hat6 := hown6.at; have y06 := hext6.keep (p := ⟨w4.heap.size, 0, none⟩) y0; have y16 := hext6.keep (p := ⟨w4.heap.size, 1, none⟩) y1)
      | (go_at_call 26; refine (eqShareBook_same b _ _ _ _ _ _ _ _ _ (by exact hat5.out.ext (Ext.tr (ext_drewN _ 1) hext6)) (by exact hat6)).mono ?_; rintro e w7 ⟨rfl, hext7⟩))
    all_goals
      have HE7 := hid (Ext.tr HE5.out (Ext.tr (ext_drewN _ 1) (Ext.tr hext6 hext7)))
      clear hext6 hext7 hat6 y06 y16 hown6
      go_wp2
      go_ret
      exact ⟨rfl, Ext.tr (hal _) HE7.out⟩
end Go.Proofs.Ytdafpnpfcmgfcaa
