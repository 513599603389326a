/- The walk over the exact law of ShareAsk. -/
import Derived.Test.YtdafpnpfcmgfcabGreatDoorMath12
import Derived.Test.YtdafpnpfcmgfcabGreatDoorS10
import Derived.Test.YtdafpnpfcmgfcabGreatDoorKA
namespace Go.Proofs.YtdafpnpfcmgfcabGreatDoor
open Go.RowKit
attribute [local go_sem] S_toList S_size S_get

set_option maxHeartbeats 4000000 in
set_option maxRecDepth 100000 in
theorem fnExactShareAsk_any (b : Book) (n : Str) (things : List Str) (a1 a2 a3 : Option Addr) (c1 c2 c3 : Nat) (w : World) (hb : BookAt w a1 a2 b) (hn : StrsAt w a3 things)
    (hg : w.cell? ⟨0, 0, none⟩ = some (.iface 111 (.agg #[.pointer (some ⟨1, 76, none⟩)]))) :
    Calls Tryz.prog 3 #[.agg #[.slice a1 b.things.length c1, .slice a2 b.batches.length c2], .string (S n), .slice a3 things.length c3] w fun e w' =>
      e = .returned (.bool true) ∧ Ext w w' := by
  have hal : ∀ o, Ext w (w.alloc o) := fun o => (Below.refl _ _).alloc (Nat.le_refl _) _
  have es := eqS_self things
  go_enter Tryz.func3, Tryz.ntmps3
  by_cases hlong : 1048576 < n.length
  · go_wp2_with fail
    go_ret
    exact ⟨rfl, hal _⟩
  · go_wp2_with fail
    refine (szShareBook_n b _ _ _ _ _ _ (hb.ext (hal _)) (by omega) (by omega)).mono ?_
    rintro e w1 ⟨⟨r, rfl, hr1, hr2, hr3⟩, hext1⟩
    have HE1 := hid hext1
    clear hext1
    by_cases hr : r < 0
    · go_wp2_with fail
      go_ret
      exact ⟨rfl, Ext.tr (hal _) HE1.out⟩
    · have HNM : Hid (nMarks b ≤ 1048576) := by have := hr3 (by omega); show _ ≤ _; omega
      clear hr3
      go_wp2_with fail
      refine (szStringS_n _ _ _ _ _ (hn.ext (Ext.tr (hal _) HE1.out)) (by omega) (by omega)).mono ?_
      rintro e w1' ⟨⟨r', rfl, hr1', hr2', hr3'⟩, rfl⟩
      by_cases hr' : r' < 0
      · go_wp2_with fail
        go_ret
        exact ⟨rfl, Ext.tr (hal _) HE1.out⟩
      · have HNL : Hid (things.length ≤ 1048576) := by have := hr3' (by omega); show _ ≤ _; omega
        clear hr3'
        have hx0 := box_cell HE1.out (i := 0) rfl
        have hx1 := box_cell HE1.out (i := 1) rfl
        go_wp2_with fail
        refine (toShareBook_any b _ _ _ _ _ (hb.ext (Ext.tr (hal _) HE1.out))).mono ?_
        rintro e w2 ⟨b1, b2, rfl, hext2, _, hown2⟩
        have HE2 := hid (Ext.tr HE1.out hext2)
        have hat2 := hid hown2.at
        clear hext2 hown2 hx0 hx1
        go_wp2_with fail
        refine (toStringS_any _ _ _ _ (hn.ext (Ext.tr (hal _) HE2.out))).mono ?_
        rintro e w2' ⟨rfl, hext2', hown2'⟩
        have HE2' := hid (Ext.tr HE2.out hext2')
        have hat2' := hid (hat2.out.ext hext2')
        have hao2 := hid hown2'.at
        clear hext2' hown2' hat2 HE2
        go_wp2_with fail
        refine (specAsk_any b n things _ _ _ _ _ _ _ hat2'.out hao2.out).mono ?_
        rintro e w3 ⟨s1, t1, s2, t2, rfl, hext3, hsp3⟩
        have HE3 := hid (Ext.tr HE2'.out hext3)
        have HMK := hid (ask_marks (n := n) (l := things) (by omega) HNM.out)
        have HIM : Hid (∀ (y1 y2 y3 : Option Addr) (d1 d2 d3 : Nat) (w' : World), BookAt w' y1 y2 b → StrsAt w' y3 things → w'.cell? ⟨0, 0, none⟩ = some (.iface 111 (.agg #[.pointer (some ⟨1, 76, none⟩)])) →
            Calls Tryz.prog 11 #[.agg #[.slice y1 b.things.length d1, .slice y2 b.batches.length d2], .string (S n), .slice y3 things.length d3] w' fun e w2 => OutA w' (askB b n things).1 (askB b n things).2 e w2) :=
          fun y1 y2 y3 d1 d2 d3 w' h1 h2 h3 => implAsk_any b n things y1 y2 y3 d1 d2 d3 w' h1 h2 h3
        generalize (askB b n things).1 = B at *
        generalize (askB b n things).2 = c at *
        have HBL : Hid (B.batches.length ≤ 2199023255552) := hsp3.2.1
        have HSP := hid hsp3
        clear hext3 hsp3 HE2' hat2' hao2
        have hx0 := box_cell HE3.out (i := 0) rfl
        have hx1 := box_cell HE3.out (i := 1) rfl
        have hx0b := (ext_alloc w3 (.cells #[.slice s1 B.things.length t1, .slice s2 B.batches.length t2] 30)).keep hx0
        have hx1b := (ext_alloc w3 (.cells #[.slice s1 B.things.length t1, .slice s2 B.batches.length t2] 30)).keep hx1
        go_wp2_with fail
        clear hx0 hx1 hx0b hx1b
        have HR0 : Hid (Rec (w3.alloc (.cells #[.slice s1 B.things.length t1, .slice s2 B.batches.length t2] 30)) w3.heap.size 30 [.slice s1 B.things.length t1, .slice s2 B.batches.length t2]) := Rec.new w3 _ _
        replace HSP := hid (HSP.out.ext (ext_alloc w3 (.cells #[.slice s1 B.things.length t1, .slice s2 B.batches.length t2] 30)))
        replace HE3 := hid (Ext.tr HE3.out (ext_alloc w3 (.cells #[.slice s1 B.things.length t1, .slice s2 B.batches.length t2] 30)))
        have hz3 : w3.heap.size < (w3.alloc (.cells #[.slice s1 B.things.length t1, .slice s2 B.batches.length t2] 30)).heap.size := by simp
        generalize w3.alloc (.cells #[.slice s1 B.things.length t1, .slice s2 B.batches.length t2] 30) = wb at *
        refine (toShareBook_any b _ _ _ _ _ (hb.ext (Ext.tr (hal _) HE3.out))).mono ?_
        rintro e w4 ⟨x1, x2, rfl, hext4, hx14, hown4⟩
        have HX4 := hid hext4
        have HLO := hid hx14
        have HOW4 := hid hown4
        have hz4 : wb.heap.size ≤ w4.heap.size := hext4.size
        clear hext4 hown4 hx14
        go_wp2_with fail
        have HRx : Hid (Rec (w4.alloc (.cells #[.slice (some ⟨x1, 0, none⟩) b.things.length b.things.length, .slice (some ⟨x2, 0, none⟩) b.batches.length b.batches.length] 30)) w4.heap.size 30 [.slice (some ⟨x1, 0, none⟩) b.things.length b.things.length, .slice (some ⟨x2, 0, none⟩) b.batches.length b.batches.length]) := Rec.new w4 _ _
        have HX4b := hid (ext_alloc w4 (.cells #[.slice (some ⟨x1, 0, none⟩) b.things.length b.things.length, .slice (some ⟨x2, 0, none⟩) b.batches.length b.batches.length] 30))
        have hz4b : (w4.alloc (.cells #[.slice (some ⟨x1, 0, none⟩) b.things.length b.things.length, .slice (some ⟨x2, 0, none⟩) b.batches.length b.batches.length] 30)).heap.size = w4.heap.size + 1 := by simp
        refine (toStringS_any _ _ _ _ (hn.ext (Ext.tr (hal _) (Ext.tr HE3.out (Ext.tr HX4.out (ext_alloc _ _)))))).mono ?_
        rintro e w5 ⟨rfl, hext5, hown5⟩
        rw [hz4b] at hown5
        have HX5 := hid (Ext.tr HX4b.out hext5)
        have hrx5 := HRx.out.ext hext5
        have HRx5 := hid hrx5
        have HO5 := hid hown5
        have hz5 : w4.heap.size + 1 ≤ w5.heap.size := by have := hext5.size; omega
        have hzl : w4.heap.size + 1 < w5.heap.size := hown5.2.2.lt
        have y0 := hrx5.cell (i := 0) rfl
        have y1 := hrx5.cell (i := 1) rfl
        clear hext5 hown5 hrx5 HRx HX4b
        go_wp2_with fail
        refine (HIM.out _ _ _ _ _ _ _ (HOW4.out.at.ext HX5.out) (by first | exact HO5.out.at | (simp at *; exact HO5.out.at)) ((Ext.tr (hal _) (Ext.tr HE3.out (Ext.tr HX4.out HX5.out))).keep hg)).mono ?_
        rintro e w6 ⟨v1, v2, rs, rfl, hE6, hO6⟩
        obtain ⟨g1, e1, g2, e2, rfl, rfl, hat6⟩ := hO6.at HBL.out
        have HX6 : Hid (Ext wb w6) := Ext.tr HX4.out (Ext.tr HX5.out hE6)
        have p0 := (ext_alloc w6 (.cells #[.slice g1 B.things.length e1, .slice g2 B.batches.length e2] 30)).keep ((HR0.out.ext HX6.out).cell (i := 0) rfl)
        have p1 := (ext_alloc w6 (.cells #[.slice g1 B.things.length e1, .slice g2 B.batches.length e2] 30)).keep ((HR0.out.ext HX6.out).cell (i := 1) rfl)
        clear y0 y1 hat6
        go_wp2_with fail
        have L6 : Hid (LSt w3.heap.size w4.heap.size w5.heap.size w6.heap.size x1 x2 b B s1 s2 g1 g2 t1 t2 e1 e2 rs wb (w6.alloc (.cells #[.slice g1 B.things.length e1, .slice g2 B.batches.length e2] 30))) :=
          ⟨Ext.tr HX6.out (ext_alloc _ _), (HR0.out.ext HX6.out).ext (ext_alloc _ _), (HRx5.out.ext hE6).ext (ext_alloc _ _), Rec.new w6 _ _, hO6.ext (ext_alloc _ _)⟩
        have HS6 : Hid (OwnStrs (w6.alloc (.cells #[.slice g1 B.things.length e1, .slice g2 B.batches.length e2] 30)) (w4.heap.size + 1) things) := (HO5.out.ext hE6).ext (ext_alloc _ _)
        have HX46 : Hid (Ext w4 (w6.alloc (.cells #[.slice g1 B.things.length e1, .slice g2 B.batches.length e2] 30))) := Ext.tr HX5.out (Ext.tr hE6 (ext_alloc _ _))
        have hz6 : w5.heap.size ≤ w6.heap.size := hE6.size
        clear p0 p1 hE6 hO6 HX6 HR0 HRx5 HO5 HX5 HX4 hz4b
        generalize w6.alloc (.cells #[.slice g1 B.things.length e1, .slice g2 B.batches.length e2] 30) = w7 at *
        refine (eqShareBook_same B _ _ _ _ _ _ _ _ _ (L6.out.at HBL.out) (HSP.out.ext L6.out.ext)).mono ?_
        rintro e w8 ⟨rfl, hE8⟩
        have L8 := hid (L6.out.next hE8)
        have HS8 := hid (HS6.out.ext hE8)
        have HX48 := hid (Ext.tr HX46.out hE8)
        have hcc : ((c : Int) != (c : Int)) = false := by simp
        clear L6 HS6 HX46 hE8
        have y0 := L8.out.rx.cell (i := 0) rfl
        have y1 := L8.out.rx.cell (i := 1) rfl
        have hx0 := box_cell (Ext.tr HE3.out L8.out.ext) (i := 0) rfl
        have hx1 := box_cell (Ext.tr HE3.out L8.out.ext) (i := 1) rfl
        have hb8 := hb.ext (Ext.tr (hal _) (Ext.tr HE3.out L8.out.ext))
        have hat8 : Hid (BookAt w8 (some ⟨x1, 0, none⟩) (some ⟨x2, 0, none⟩) b) := HOW4.out.at.ext HX48.out
        have zw : w.heap.size < w8.heap.size := cell_lt hx0
        have zx : w4.heap.size < w8.heap.size := cell_lt y0
        go_upto_region 16 with fail
        go_cut [65] (fun q wx => q = .bool false ∧ Ext w8 wx)
        case first =>
          go_region_with (first
            | (go_at_call 9; refine (toShareBook_any b _ _ _ _ _ (hb8.draws ⟨1, rfl⟩)).mono ?_; rintro e w9 ⟨f1, f2, rfl, hext9, _, hown9⟩; have hat9 := hown9.at; have y09 := hext9.keep (p := ⟨w4.heap.size, 0, none⟩) y0; have y19 := hext9.keep (p := ⟨w4.heap.size, 1, none⟩) y1)
            | (go_at_call 12; refine (eqShareBook_same b _ _ _ _ _ _ _ _ _ (by exact hat8.out.ext (Ext.tr (ext_drewN _ 1) hext9)) (by exact hat9)).mono ?_; rintro e w10 ⟨rfl, hext10⟩))
          all_goals
            have hE := Ext.tr (ext_drewN w8 1) (Ext.tr hext9 hext10)
            clear hext9 hext10 hat9 y09 y19 hown9
            go_wp2_with fail
            go_meet
            exact ⟨rfl, hE⟩
        case rest =>
          obtain ⟨rfl, hE9⟩ := hcut
          have L9 := hid (L8.out.next hE9)
          have HS9 := hid (HS8.out.ext hE9)
          have HX49 := hid (Ext.tr HX48.out hE9)
          clear L8 HS8 HX48 hE9 y0 y1 hx0 hx1 hb8 hat8
          go_wp2_with fail
          refine (toStringS_any _ _ _ _ (hn.ext (Ext.tr (hal _) (Ext.tr HE3.out L9.out.ext)))).mono ?_
          rintro e w10 ⟨rfl, hE10, hown10⟩
          have L10 := hid (L9.out.next hE10)
          have HS10 := hid (HS9.out.ext hE10)
          have HX410 := hid (Ext.tr HX49.out hE10)
          have HC10 := hid hown10.at
          clear L9 HS9 HX49 hE10 hown10
          go_wp2_with fail
          refine (eqStringS_any _ _ _ _ _ _ _ HS10.out.at HC10.out).mono ?_
          rintro e w11 ⟨rfl, n11, hw11⟩
          have hE11 : Ext w10 w11 := by rw [hw11]; exact ext_drewN _ _
          have L11 := hid (L10.out.next hE11)
          have HS11 := hid (HS10.out.ext hE11)
          have HX411 := hid (Ext.tr HX410.out hE11)
          clear hw11 hE11 L10 HS10 HX410 HC10
          have y0 := L11.out.rx.cell (i := 0) rfl
          have y1 := L11.out.rx.cell (i := 1) rfl
          go_wp2_with fail
          refine (markShareBook_n wb.heap.size b x1 x2 _ _ 1 w4 _ HOW4.out HLO.out HX411.out (by omega) (by have := HNM.out; omega)).mono ?_
          rintro e w12 ⟨rfl, hmid⟩
          have hz11 : wb.heap.size ≤ w11.heap.size := L11.out.ext.size
          have L12 := hid (L11.out.mid hmid (Nat.le_refl _) hz3 (Nat.le_refl _) (by omega) (by omega) hz11)
          have HRN : Hid (RowN w12 (w4.heap.size + 1) things.length) := RowN.mid ⟨_, HS11.out.2.2⟩ hmid (Or.inr (by omega))
          clear y0 y1 hmid L11 HS11 HX411 hz11
          have hnm := HNM.out
          have hnl2 := HNL.out
          generalize nMarks b = nb at *
          go_wp2_with fail
          refine (markStringS_n (w4.heap.size + 1) things.length _ (1 + nb) _ HRN.out (by omega) (by omega)).mono ?_
          rintro e w13 ⟨rfl, hg13, -⟩
          have L13 := hid (L12.out.gb hg13 (by omega) (by omega) (by omega) (by omega) (by omega))
          clear hg13 L12 HRN
          have hng : ¬ ((1 : Int) + (nb : Int) + (things.length : Int) < 0) := by omega
          have g0 := L13.out.rg.cell (i := 0) rfl
          have g1' := L13.out.rg.cell (i := 1) rfl
          have p0 := L13.out.r0.cell (i := 0) rfl
          have p1 := L13.out.r0.cell (i := 1) rfl
          go_wp2_with fail
          refine (eqShareBook_same B _ _ _ _ _ _ _ _ _ (L13.out.at HBL.out) (HSP.out.ext L13.out.ext)).mono ?_
          rintro e w14 ⟨rfl, hE14⟩
          have L14 := hid (L13.out.next hE14)
          clear hE14 L13 g0 g1' p0 p1
          have g0 := L14.out.rg.cell (i := 0) rfl
          have g1' := L14.out.rg.cell (i := 1) rfl
          have hmk := HMK.out
          go_wp2_with fail
          refine (markBook_own w5.heap.size 1 B g1 g2 e1 e2 rs _ L14.out.ob (by have := L14.out.rg.lt; omega) (by omega) (by omega)).mono ?_
          rintro e w15 ⟨rfl, hbk, rs', hO15⟩
          have HM15 := hid (hO15.marked HBL.out)
          have HX15 : Hid (Ext wb w15) := Below.trans L14.out.ext (hbk.below.mono (by omega))
          have HG15 := hid (hbk.keep _ _ L14.out.rg)
          have HR15 := hid (hbk.keep _ _ L14.out.r0)
          clear hbk hO15 L14 g0 g1'
          have g0 := HG15.out.cell (i := 0) rfl
          have g1' := HG15.out.cell (i := 1) rfl
          have HML := hid (markBook_lens B 1)
          generalize hnB : nMarks B = nB at *
          go_wp2_with fail
          refine (heldBook_any 1 B _ _ _ _ _ HM15.out (by omega) (by omega)).mono ?_
          rintro e w16 ⟨rfl, hE16⟩
          rw [hnB]
          have HM16 := hid (HM15.out.ext hE16)
          have HX16 := hid (Ext.tr HX15.out hE16)
          have HG16 := hid (HG15.out.ext hE16)
          have HR16 := hid (HR15.out.ext hE16)
          clear hE16 HM15 HX15 HG15 HR15 g0 g1'
          have hng2 : ¬ ((1 : Int) + (nB : Int) < 0) := by omega
          have hq : ((1 : Int) + (nB : Int) != (1 : Int) + (nB : Int)) = false := by simp
          have hx0 := box_cell (Ext.tr HE3.out HX16.out) (i := 0) rfl
          have hx1 := box_cell (Ext.tr HE3.out HX16.out) (i := 1) rfl
          go_wp2_with fail
          refine (toShareBook_any b _ _ _ _ _ (hb.ext (Ext.tr (hal _) (Ext.tr HE3.out HX16.out)))).mono ?_
          rintro e w17 ⟨z1, z2, rfl, hE17, _, hown17⟩
          have HX17 := hid (Ext.tr HX16.out hE17)
          have HM17 := hid (HM16.out.ext hE17)
          have HG17 := hid (HG16.out.ext hE17)
          have HR17 := hid (HR16.out.ext hE17)
          have HA17 := hid hown17.at
          clear hE17 hown17 HX16 HM16 HG16 HR16 hx0 hx1
          go_wp2_with fail
          refine (toStringS_any _ _ _ _ (hn.ext (Ext.tr (hal _) (Ext.tr HE3.out HX17.out)))).mono ?_
          rintro e w18 ⟨rfl, hE18, hown18⟩
          have HX18 := hid (Ext.tr HX17.out hE18)
          have HM18 := hid (HM17.out.ext hE18)
          have HG18 := hid (HG17.out.ext hE18)
          have HR18 := hid (HR17.out.ext hE18)
          have HA18 := hid (HA17.out.ext hE18)
          have HC18 := hid hown18.at
          clear hE18 hown18 HX17 HM17 HG17 HR17 HA17
          go_wp2_with fail
          refine (HIM.out _ _ _ _ _ _ _ HA18.out HC18.out ((Ext.tr (hal _) (Ext.tr HE3.out HX18.out)).keep hg)).mono ?_
          rintro e w19 ⟨v1, v2, rs2, rfl, hE19, hO19⟩
          obtain ⟨k1, m1, k2, m2, rfl, rfl, hat19⟩ := hO19.at HBL.out
          have HX19 := hid (Ext.tr HX18.out (Ext.tr hE19 (ext_alloc w19 (.cells #[.slice k1 B.things.length m1, .slice k2 B.batches.length m2] 30))))
          have HM19 := hid (HM18.out.ext (Ext.tr hE19 (ext_alloc w19 (.cells #[.slice k1 B.things.length m1, .slice k2 B.batches.length m2] 30))))
          have HG19 := hid (HG18.out.ext (Ext.tr hE19 (ext_alloc w19 (.cells #[.slice k1 B.things.length m1, .slice k2 B.batches.length m2] 30))))
          have HR19 := hid (HR18.out.ext (Ext.tr hE19 (ext_alloc w19 (.cells #[.slice k1 B.things.length m1, .slice k2 B.batches.length m2] 30))))
          have HA19 := hid (hat19.ext (ext_alloc w19 (.cells #[.slice k1 B.things.length m1, .slice k2 B.batches.length m2] 30)))
          have p0 := HR19.out.cell (i := 0) rfl
          have p1 := HR19.out.cell (i := 1) rfl
          clear hE19 hO19 hat19 HX18 HM18 HG18 HR18 HA18 HC18
          go_wp2_with fail
          refine (eqShareBook_same B _ _ _ _ _ _ _ _ _ HA19.out (HSP.out.ext HX19.out)).mono ?_
          rintro e w20 ⟨rfl, hE20⟩
          have HX20 := hid (Ext.tr HX19.out hE20)
          have HM20 := hid (HM19.out.ext hE20)
          have hgg := HG19.out.ext hE20
          have g0 := hgg.cell (i := 0) rfl
          have g1' := hgg.cell (i := 1) rfl
          clear hE20 HX19 HM19 HG19 HR19 HA19 p0 p1 hgg
          go_wp2_with fail
          refine (heldBook_any 1 B _ _ _ _ _ HM20.out (by omega) (by omega)).mono ?_
          rintro e w21 ⟨rfl, hE21⟩
          rw [hnB]
          have HX21 := hid (Ext.tr HX20.out hE21)
          clear hE21 HX20 HM20 g0 g1'
          go_wp2_with fail
          go_ret
          exact ⟨rfl, Ext.tr (hal _) (Ext.tr HE3.out HX21.out)⟩
end Go.Proofs.YtdafpnpfcmgfcabGreatDoor
