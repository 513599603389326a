/- The walk over the exact law of ShareLeave. -/
import Derived.Test.YtdafpnpfcmgfcabGreatDoorMath12
import Derived.Test.YtdafpnpfcmgfcabGreatDoorS6
import Derived.Test.YtdafpnpfcmgfcabGreatDoorKA
namespace Go.Proofs.YtdafpnpfcmgfcabGreatDoor
open Go.RowKit
attribute [local go_sem] S_toList S_size S_get

set_option maxHeartbeats 4000000 in
set_option maxRecDepth 100000 in
theorem fnExactShareLeave_any (b : Book) (n : Str) (a1 a2 : Option Addr) (c1 c2 : Nat) (w : World) (hb : BookAt w a1 a2 b)
    (hg : w.cell? ⟨0, 0, none⟩ = some (.iface 111 (.agg #[.pointer (some ⟨1, 76, none⟩)]))) :
    Calls Tryz.prog 5 #[.agg #[.slice a1 b.things.length c1, .slice a2 b.batches.length c2], .string (S n)] w fun e w' =>
      e = .returned (.bool true) ∧ Ext w w' := by
  have hal : ∀ o, Ext w (w.alloc o) := fun o => (Below.refl _ _).alloc (Nat.le_refl _) _
  go_enter Tryz.func5, Tryz.ntmps5
  by_cases hlong : 1048576 < n.length
  · go_wp2_with fail
    go_ret
    exact ⟨rfl, hal _⟩
  · go_wp2_with fail
    refine (szShareBook_n b _ _ _ _ _ _ (hb.ext (hal _)) (by omega) (by omega)).mono ?_
    rintro e w1 ⟨⟨r, rfl, hr1, hr2, hr3⟩, hext1⟩
    have HE1 := hid hext1
    clear hext1
    by_cases hr : r < 0
    · go_wp2_with fail
      go_ret
      exact ⟨rfl, Ext.tr (hal _) HE1.out⟩
    · have HNM : Hid (nMarks b ≤ 1048576) := by have := hr3 (by omega); show _ ≤ _; omega
      clear hr3
      · have hx0 := box_cell HE1.out (i := 0) rfl
        have hx1 := box_cell HE1.out (i := 1) rfl
        go_wp2_with fail
        refine (toShareBook_any b _ _ _ _ _ (hb.ext (Ext.tr (hal _) HE1.out))).mono ?_
        rintro e w2 ⟨b1, b2, rfl, hext2, _, hown2⟩
        have HE2' := hid (Ext.tr HE1.out hext2)
        have hat2' := hid hown2.at
        clear hext2 hown2 hx0 hx1
        go_wp2_with fail
        refine (specLeave_any b n _ _ _ _ _ hat2'.out).mono ?_
        rintro e w3 ⟨s1, t1, s2, t2, rfl, hext3, hsp3⟩
        have HE3 := hid (Ext.tr HE2'.out hext3)
        have HMK := hid (leave_marks (n := n) (by omega) HNM.out)
        have HIM : Hid (∀ (y1 y2 : Option Addr) (d1 d2 : Nat) (w' : World), BookAt w' y1 y2 b → w'.cell? ⟨0, 0, none⟩ = some (.iface 111 (.agg #[.pointer (some ⟨1, 76, none⟩)])) →
            Calls Tryz.prog 20 #[.agg #[.slice y1 b.things.length d1, .slice y2 b.batches.length d2], .string (S n)] w' fun e w2 => OutA w' (leaveB b n).1 (leaveB b n).2 e w2) :=
          fun y1 y2 d1 d2 w' h1 h3 => implLeave_any b n y1 y2 d1 d2 w' h1 h3
        generalize (leaveB b n).1 = B at *
        generalize (leaveB b n).2 = c at *
        have HBL : Hid (B.batches.length ≤ 2199023255552) := hsp3.2.1
        have HSP := hid hsp3
        clear hext3 hsp3 HE2' hat2'
        have hx0 := box_cell HE3.out (i := 0) rfl
        have hx1 := box_cell HE3.out (i := 1) rfl
        have hx0b := (ext_alloc w3 (.cells #[.slice s1 B.things.length t1, .slice s2 B.batches.length t2] 30)).keep hx0
        have hx1b := (ext_alloc w3 (.cells #[.slice s1 B.things.length t1, .slice s2 B.batches.length t2] 30)).keep hx1
        go_wp2_with fail
        clear hx0 hx1 hx0b hx1b
        have HR0 : Hid (Rec (w3.alloc (.cells #[.slice s1 B.things.length t1, .slice s2 B.batches.length t2] 30)) w3.heap.size 30 [.slice s1 B.things.length t1, .slice s2 B.batches.length t2]) := Rec.new w3 _ _
        replace HSP := hid (HSP.out.ext (ext_alloc w3 (.cells #[.slice s1 B.things.length t1, .slice s2 B.batches.length t2] 30)))
        replace HE3 := hid (Ext.tr HE3.out (ext_alloc w3 (.cells #[.slice s1 B.things.length t1, .slice s2 B.batches.length t2] 30)))
        have hz3 : w3.heap.size < (w3.alloc (.cells #[.slice s1 B.things.length t1, .slice s2 B.batches.length t2] 30)).heap.size := by simp
        generalize w3.alloc (.cells #[.slice s1 B.things.length t1, .slice s2 B.batches.length t2] 30) = wb at *
        refine (toShareBook_any b _ _ _ _ _ (hb.ext (Ext.tr (hal _) HE3.out))).mono ?_
        rintro e w4 ⟨x1, x2, rfl, hext4, hx14, hown4⟩
        have HX4 := hid hext4
        have HLO := hid hx14
        have HOW4 := hid hown4
        have hz4 : wb.heap.size ≤ w4.heap.size := hext4.size
        clear hext4 hown4 hx14
        go_wp2_with fail
        have HRx : Hid (Rec (w4.alloc (.cells #[.slice (some ⟨x1, 0, none⟩) b.things.length b.things.length, .slice (some ⟨x2, 0, none⟩) b.batches.length b.batches.length] 30)) w4.heap.size 30 [.slice (some ⟨x1, 0, none⟩) b.things.length b.things.length, .slice (some ⟨x2, 0, none⟩) b.batches.length b.batches.length]) := Rec.new w4 _ _
        have HX4b := hid (ext_alloc w4 (.cells #[.slice (some ⟨x1, 0, none⟩) b.things.length b.things.length, .slice (some ⟨x2, 0, none⟩) b.batches.length b.batches.length] 30))
        have hz4b : (w4.alloc (.cells #[.slice (some ⟨x1, 0, none⟩) b.things.length b.things.length, .slice (some ⟨x2, 0, none⟩) b.batches.length b.batches.length] 30)).heap.size = w4.heap.size + 1 := by simp
        have HX5 := HX4b
        have HRx5 := HRx
        generalize w4.alloc (.cells #[.slice (some ⟨x1, 0, none⟩) b.things.length b.things.length, .slice (some ⟨x2, 0, none⟩) b.batches.length b.batches.length] 30) = w5 at *
        clear HX4b HRx
        refine (HIM.out _ _ _ _ _ (HOW4.out.at.ext HX5.out) ((Ext.tr (hal _) (Ext.tr HE3.out (Ext.tr HX4.out HX5.out))).keep hg)).mono ?_
        rintro e w6 ⟨v1, v2, rs, rfl, hE6, hO6⟩
        obtain ⟨g1, e1, g2, e2, rfl, rfl, hat6⟩ := hO6.at HBL.out
        have HX6 : Hid (Ext wb w6) := Ext.tr HX4.out (Ext.tr HX5.out hE6)
        have p0 := (ext_alloc w6 (.cells #[.slice g1 B.things.length e1, .slice g2 B.batches.length e2] 30)).keep ((HR0.out.ext HX6.out).cell (i := 0) rfl)
        have p1 := (ext_alloc w6 (.cells #[.slice g1 B.things.length e1, .slice g2 B.batches.length e2] 30)).keep ((HR0.out.ext HX6.out).cell (i := 1) rfl)
        clear hat6
        go_wp2_with fail
        have L6 : Hid (LSt w3.heap.size w4.heap.size w5.heap.size w6.heap.size x1 x2 b B s1 s2 g1 g2 t1 t2 e1 e2 rs wb (w6.alloc (.cells #[.slice g1 B.things.length e1, .slice g2 B.batches.length e2] 30))) :=
          ⟨Ext.tr HX6.out (ext_alloc _ _), (HR0.out.ext HX6.out).ext (ext_alloc _ _), (HRx5.out.ext hE6).ext (ext_alloc _ _), Rec.new w6 _ _, hO6.ext (ext_alloc _ _)⟩
        have HX46 : Hid (Ext w4 (w6.alloc (.cells #[.slice g1 B.things.length e1, .slice g2 B.batches.length e2] 30))) := Ext.tr HX5.out (Ext.tr hE6 (ext_alloc _ _))
        have hz6 : w5.heap.size ≤ w6.heap.size := hE6.size
        clear p0 p1 hE6 hO6 HX6 HR0 HRx5 HX5 HX4
        generalize w6.alloc (.cells #[.slice g1 B.things.length e1, .slice g2 B.batches.length e2] 30) = w7 at *
        refine (eqShareBook_same B _ _ _ _ _ _ _ _ _ (L6.out.at HBL.out) (HSP.out.ext L6.out.ext)).mono ?_
        rintro e w8 ⟨rfl, hE8⟩
        have L8 := hid (L6.out.next hE8)
        have HX48 := hid (Ext.tr HX46.out hE8)
        have hcc : ((c : Int) != (c : Int)) = false := by simp
        clear L6 HX46 hE8
        have y0 := L8.out.rx.cell (i := 0) rfl
        have y1 := L8.out.rx.cell (i := 1) rfl
        have hx0 := box_cell (Ext.tr HE3.out L8.out.ext) (i := 0) rfl
        have hx1 := box_cell (Ext.tr HE3.out L8.out.ext) (i := 1) rfl
        have hb8 := hb.ext (Ext.tr (hal _) (Ext.tr HE3.out L8.out.ext))
        have hat8 : Hid (BookAt w8 (some ⟨x1, 0, none⟩) (some ⟨x2, 0, none⟩) b) := HOW4.out.at.ext HX48.out
        have zw : w.heap.size < w8.heap.size := cell_lt hx0
        have zx : w4.heap.size < w8.heap.size := cell_lt y0
        go_upto_region 12 with fail
        go_cut [52] (fun q wx => q = .bool false ∧ Ext w8 wx)
        case first =>
          go_region_with (first
            | (go_at_call 9; refine (toShareBook_any b _ _ _ _ _ (hb8.draws ⟨1, rfl⟩)).mono ?_; rintro e w9 ⟨f1, f2, rfl, hext9, _, hown9⟩; have hat9 := hown9.at; have y09 := hext9.keep (p := ⟨w4.heap.size, 0, none⟩) y0; have y19 := hext9.keep (p := ⟨w4.heap.size, 1, none⟩) y1)
            | (go_at_call 12; refine (eqShareBook_same b _ _ _ _ _ _ _ _ _ (by exact hat8.out.ext (Ext.tr (ext_drewN _ 1) hext9)) (by exact hat9)).mono ?_; rintro e w10 ⟨rfl, hext10⟩))
          all_goals
            have hE := Ext.tr (ext_drewN w8 1) (Ext.tr hext9 hext10)
            clear hext9 hext10 hat9 y09 y19 hown9
            go_wp2_with fail
            go_meet
            exact ⟨rfl, hE⟩
        case rest =>
          obtain ⟨rfl, hE9⟩ := hcut
          have L9 := hid (L8.out.next hE9)
          have HX49 := hid (Ext.tr HX48.out hE9)
          clear L8 HX48 hE9 y0 y1 hx0 hx1 hb8 hat8
          have L11 := L9
          have HX411 := HX49
          clear L9 HX49
          have y0 := L11.out.rx.cell (i := 0) rfl
          have y1 := L11.out.rx.cell (i := 1) rfl
          go_wp2_with fail
          refine (markShareBook_n wb.heap.size b x1 x2 _ _ 1 w4 _ HOW4.out HLO.out HX411.out (by omega) (by have := HNM.out; omega)).mono ?_
          rintro e w12 ⟨rfl, hmid⟩
          have hz11 := L11.out.ext.size
          have L13 := hid (L11.out.mid hmid (Nat.le_refl _) hz3 (Nat.le_refl _) (by omega) (by omega) hz11)
          clear y0 y1 hmid L11 HX411 hz11
          have hnm := HNM.out
          generalize nMarks b = nb at *
          have hng : ¬ ((1 : Int) + (nb : Int) < 0) := by omega
          have g0 := L13.out.rg.cell (i := 0) rfl
          have g1' := L13.out.rg.cell (i := 1) rfl
          have p0 := L13.out.r0.cell (i := 0) rfl
          have p1 := L13.out.r0.cell (i := 1) rfl
          go_wp2_with fail
          refine (eqShareBook_same B _ _ _ _ _ _ _ _ _ (L13.out.at HBL.out) (HSP.out.ext L13.out.ext)).mono ?_
          rintro e w14 ⟨rfl, hE14⟩
          have L14 := hid (L13.out.next hE14)
          clear hE14 L13 g0 g1' p0 p1
          have g0 := L14.out.rg.cell (i := 0) rfl
          have g1' := L14.out.rg.cell (i := 1) rfl
          have hmk := HMK.out
          go_wp2_with fail
          refine (markBook_own w5.heap.size 1 B g1 g2 e1 e2 rs _ L14.out.ob (by have := L14.out.rg.lt; omega) (by omega) (by omega)).mono ?_
          rintro e w15 ⟨rfl, hbk, rs', hO15⟩
          have HM15 := hid (hO15.marked HBL.out)
          have HX15 : Hid (Ext wb w15) := Below.trans L14.out.ext (hbk.below.mono (by omega))
          have HG15 := hid (hbk.keep _ _ L14.out.rg)
          have HR15 := hid (hbk.keep _ _ L14.out.r0)
          clear hbk hO15 L14 g0 g1'
          have g0 := HG15.out.cell (i := 0) rfl
          have g1' := HG15.out.cell (i := 1) rfl
          have HML := hid (markBook_lens B 1)
          generalize hnB : nMarks B = nB at *
          go_wp2_with fail
          refine (heldBook_any 1 B _ _ _ _ _ HM15.out (by omega) (by omega)).mono ?_
          rintro e w16 ⟨rfl, hE16⟩
          rw [hnB]
          have HM16 := hid (HM15.out.ext hE16)
          have HX16 := hid (Ext.tr HX15.out hE16)
          have HG16 := hid (HG15.out.ext hE16)
          have HR16 := hid (HR15.out.ext hE16)
          clear hE16 HM15 HX15 HG15 HR15 g0 g1'
          have hng2 : ¬ ((1 : Int) + (nB : Int) < 0) := by omega
          have hq : ((1 : Int) + (nB : Int) != (1 : Int) + (nB : Int)) = false := by simp
          have hx0 := box_cell (Ext.tr HE3.out HX16.out) (i := 0) rfl
          have hx1 := box_cell (Ext.tr HE3.out HX16.out) (i := 1) rfl
          go_wp2_with fail
          refine (toShareBook_any b _ _ _ _ _ (hb.ext (Ext.tr (hal _) (Ext.tr HE3.out HX16.out)))).mono ?_
          rintro e w17 ⟨z1, z2, rfl, hE17, _, hown17⟩
          have HX17 := hid (Ext.tr HX16.out hE17)
          have HM17 := hid (HM16.out.ext hE17)
          have HG17 := hid (HG16.out.ext hE17)
          have HR17 := hid (HR16.out.ext hE17)
          have HA17 := hid hown17.at
          clear hE17 hown17 HX16 HM16 HG16 HR16 hx0 hx1
          go_wp2_with fail
          refine (HIM.out _ _ _ _ _ HA17.out ((Ext.tr (hal _) (Ext.tr HE3.out HX17.out)).keep hg)).mono ?_
          rintro e w19 ⟨v1, v2, rs2, rfl, hE19, hO19⟩
          obtain ⟨k1, m1, k2, m2, rfl, rfl, hat19⟩ := hO19.at HBL.out
          have HX19 := hid (Ext.tr HX17.out (Ext.tr hE19 (ext_alloc w19 (.cells #[.slice k1 B.things.length m1, .slice k2 B.batches.length m2] 30))))
          have HM19 := hid (HM17.out.ext (Ext.tr hE19 (ext_alloc w19 (.cells #[.slice k1 B.things.length m1, .slice k2 B.batches.length m2] 30))))
          have HG19 := hid (HG17.out.ext (Ext.tr hE19 (ext_alloc w19 (.cells #[.slice k1 B.things.length m1, .slice k2 B.batches.length m2] 30))))
          have HR19 := hid (HR17.out.ext (Ext.tr hE19 (ext_alloc w19 (.cells #[.slice k1 B.things.length m1, .slice k2 B.batches.length m2] 30))))
          have HA19 := hid (hat19.ext (ext_alloc w19 (.cells #[.slice k1 B.things.length m1, .slice k2 B.batches.length m2] 30)))
          have p0 := HR19.out.cell (i := 0) rfl
          have p1 := HR19.out.cell (i := 1) rfl
          clear hE19 hO19 hat19 HX17 HM17 HG17 HR17 HA17
          go_wp2_with fail
          refine (eqShareBook_same B _ _ _ _ _ _ _ _ _ HA19.out (HSP.out.ext HX19.out)).mono ?_
          rintro e w20 ⟨rfl, hE20⟩
          have HX20 := hid (Ext.tr HX19.out hE20)
          have HM20 := hid (HM19.out.ext hE20)
          have hgg := HG19.out.ext hE20
          have g0 := hgg.cell (i := 0) rfl
          have g1' := hgg.cell (i := 1) rfl
          clear hE20 HX19 HM19 HG19 HR19 HA19 p0 p1 hgg
          go_wp2_with fail
          refine (heldBook_any 1 B _ _ _ _ _ HM20.out (by omega) (by omega)).mono ?_
          rintro e w21 ⟨rfl, hE21⟩
          rw [hnB]
          have HX21 := hid (Ext.tr HX20.out hE21)
          clear hE21 HX20 HM20 g0 g1'
          go_wp2_with fail
          go_ret
          exact ⟨rfl, Ext.tr (hal _) (Ext.tr HE3.out HX21.out)⟩
end Go.Proofs.YtdafpnpfcmgfcabGreatDoor
