/- The walk over the exact law of ShareFits. -/
import Derived.Test.YtdafpnpfcmgfcaaB6
import Derived.Test.YtdafpnpfcmgfcaaW14
namespace Go.Proofs.Ytdafpnpfcmgfcaa
open Go.RowKit
attribute [local go_sem] S_toList S_size S_get

set_option maxHeartbeats 1000000 in
theorem fnExactShareFits_any (b : Book) (order : List Str) (a1 a2 a3 : Option Addr) (c1 c2 c3 : Nat) (w : World) (hb : BookAt w a1 a2 b) (ho : StrsAt w a3 order) :
    Calls Try.prog 7 #[.agg #[.slice a1 b.things.length c1, .slice a2 b.batches.length c2], .slice a3 order.length c3] w fun e w' =>
      e = .returned (.bool true) ∧ Ext w w' := by
  have hal : ∀ o, Ext w (w.alloc o) := fun o => (Below.refl _ _).alloc (Nat.le_refl _) _
  have es := eqS_self order
  go_enter Try.func7, Try.ntmps7
  go_wp2_with fail
  refine (szShareBook_any b _ _ _ _ _ _ (hb.ext (hal _)) (by omega) (by omega)).mono ?_
  rintro e w1 ⟨⟨r, rfl, hr1, hr2⟩, hext1⟩
  have HE1 := hid hext1
  clear hext1
  by_cases hr : r < 0
  · go_wp2_with fail
    go_ret
    exact ⟨rfl, Ext.tr (hal _) HE1.out⟩
  · go_wp2_with fail
    refine (szStringS_any _ _ _ _ _ (ho.ext (Ext.tr (hal _) HE1.out)) (by omega) (by omega)).mono ?_
    rintro e w1' ⟨⟨r', rfl, hr1', hr2'⟩, rfl⟩
    by_cases hr' : r' < 0
    · go_wp2_with fail
      go_ret
      exact ⟨rfl, Ext.tr (hal _) HE1.out⟩
    · have hx0 := box_cell HE1.out (i := 0) rfl
      have hx1 := box_cell HE1.out (i := 1) rfl
      go_wp2_with fail
      refine (toShareBook_any b _ _ _ _ _ (hb.ext (Ext.tr (hal _) HE1.out))).mono ?_
      rintro e w2 ⟨b1, b2, rfl, hext2, _, hown2⟩
      have HE2 := hid (Ext.tr HE1.out hext2)
      have hat2 := hid hown2.at
      clear hext2 hown2 hx0 hx1
      go_wp2_with fail
      refine (toStringS_any _ _ _ _ (ho.ext (Ext.tr (hal _) HE2.out))).mono ?_
      rintro e w2' ⟨rfl, hext2', hown2'⟩
      have HE2' := hid (Ext.tr HE2.out hext2')
      have hat2' := hid (hat2.out.ext hext2')
      have hao2 := hid hown2'.at
      clear hext2' hown2'
      go_wp2_with fail
      refine (specFits_any b order _ _ _ _ _ _ _ hat2'.out hao2.out (Nat.le_refl _)).mono ?_
      rintro e w3 ⟨rfl, hext3⟩
      have HE3 := hid (Ext.tr HE2'.out hext3)
      clear hext3
      have hx0 := box_cell HE3.out (i := 0) rfl
      have hx1 := box_cell HE3.out (i := 1) rfl
      go_wp2_with fail
      refine (toShareBook_any b _ _ _ _ _ (hb.ext (Ext.tr (hal _) HE3.out))).mono ?_
      rintro e w4 ⟨x1, x2, rfl, hext4, hx14, hown4⟩
      have HE4 := hid (Ext.tr HE3.out hext4)
      have hat4 := hid hown4.at
      clear hext4 hown4 hx0 hx1
      go_wp2_with fail
      refine (toStringS_any _ _ _ _ (ho.ext (Ext.tr (hal _) (Ext.tr HE4.out (ext_alloc _ _))))).mono ?_
      rintro e w4' ⟨rfl, hext4', hown4'⟩
      have y0 := box_cell hext4' (i := 0) rfl
      have y1 := box_cell hext4' (i := 1) rfl
      have HE4' := hid (Ext.tr HE4.out (Ext.tr (ext_alloc _ _) hext4'))
      have hat4' := hid (hat4.out.ext (Ext.tr (ext_alloc _ _) hext4'))
      have hao4 : Hid (StrsAt w4' (some ⟨w4.heap.size + 1, 0, none⟩) order) := by
        have h := hown4'.at
        rw [show (w4.alloc (.cells #[.slice (some ⟨x1, 0, none⟩) b.things.length b.things.length, .slice (some ⟨x2, 0, none⟩) b.batches.length b.batches.length] 26)).heap.size = w4.heap.size + 1 by simp] at h
        exact h
      clear hext4' hown4'
      go_wp2_with fail
      refine (implFits_any b order _ _ _ _ _ _ _ hat4'.out hao4.out).mono ?_
      rintro e w5 ⟨rfl, hext5⟩
      replace y0 := hext5.keep y0
      replace y1 := hext5.keep y1
      have hat5 := hid (hat4'.out.ext hext5)
      have hao5 := hid (hao4.out.ext hext5)
      have HE5 := hid (Ext.tr HE4'.out hext5)
      have hx0 := box_cell HE5.out (i := 0) rfl
      have hx1 := box_cell HE5.out (i := 1) rfl
      have hb5 := hb.ext (Ext.tr (hal _) HE5.out)
      have zw : w.heap.size < w5.heap.size := cell_lt hx0
      have zx : w4.heap.size < w5.heap.size := cell_lt y0
      clear hext5
      go_wp2
      go_region_with (first
        | (go_at_call 25; refine (toShareBook_any b _ _ _ _ _ (hb5.draws ⟨1, rfl⟩)).mono ?_; rintro e w6 ⟨e1, e2, rfl, hext6, _, hown6⟩; have hat6 := hown6.at; have y06 := hext6.keep (p := ⟨w4.heap.size, 0, none⟩) y0; have y16 := hext6.keep (p := ⟨w4.heap.size, 1, none⟩) y1)
        | (go_at_call 26; refine (eqShareBook_same b _ _ _ _ _ _ _ _ _ (by exact hat5.out.ext (Ext.tr (ext_drewN _ 1) hext6)) (by exact hat6)).mono ?_; rintro e w7 ⟨rfl, hext7⟩))
      all_goals
        have hE57 := Ext.tr (ext_drewN w5 1) (Ext.tr hext6 hext7)
        have HE7 := hid (Ext.tr HE5.out hE57)
        have hao7 := hid (hao5.out.ext hE57)
        clear hext6 hext7 hat6 y06 y16 hown6 hE57
        go_wp2_with fail
        refine (toStringS_any _ _ _ _ (ho.ext (Ext.tr (hal _) HE7.out))).mono ?_
        rintro e w8 ⟨rfl, hext8, hown8⟩
        have HE8 := hid (Ext.tr HE7.out hext8)
        have hao8 := hid (hao7.out.ext hext8)
        have hat8 := hid hown8.at
        clear hext8 hown8
        go_wp2_with fail
        refine (eqStringS_any _ _ _ _ _ _ _ hao8.out hat8.out).mono ?_
        rintro e w9 ⟨rfl, n9, rfl⟩
        go_wp2_with fail
        go_ret
        exact ⟨rfl, Ext.tr (hal _) (Ext.tr HE8.out (ext_drewN _ _))⟩
end Go.Proofs.Ytdafpnpfcmgfcaa
