/- The walk over the exact law of ShareMoves, beside those that are only leaving. -/
import Derived.Test.YtdafpnpfcmgfcabSk4
import Derived.Test.YtdafpnpfcmgfcabSk5
import Derived.Test.YtdafpnpfcmgfcabK5
namespace Go.Proofs.Ytdafpnpfcmgfcab
open Go Go.Conc Go.ConcN Go.RowKit
attribute [local go_sem] S_toList S_size S_get

theorem movesL_len (b : Book) (n : Nat) (hb : nMarks b ≤ n) : (movesL b).length ≤ n := by
  have hbl : b.batches.length ≤ nMarks b := by unfold nMarks; omega
  unfold movesL
  split
  · have := pickL_len (fun i => canB b i []) b.batches b.batches.length
    omega
  · simp
/-- The book's box. -/
abbrev boxB (a1 a2 : Option Addr) (c1 c2 : Nat) (b : Book) (T : TypeId) : Obj := .cells #[.slice a1 b.things.length c1, .slice a2 b.batches.length c2] T

set_option maxHeartbeats 4000000 in
set_option maxRecDepth 100000 in
theorem lawMoves_m [Floor] (b : Book) (a1 a2 : Option Addr) (c1 c2 : Nat) (v : World) (hb : BookAt v a1 a2 b) (hfl : Floor.low ≤ v.heap.size) :
    BodyM Try.prog Try.f3 #[.agg #[.slice a1 b.things.length c1, .slice a2 b.batches.length c2]] v (fun r v' => r = .bool true ∧ Grew v v') := by
  refine ⟨_, rfl, ?_⟩
  simp only [Try.ntmps3, List.size_toArray, List.length_cons, List.length_nil, Nat.reduceAdd, Nat.reduceSub, Array.replicate_succ, Array.replicate_zero, List.push_toArray, List.append_toArray, List.nil_append, List.cons_append]
  refine mw_front tamed 6 rfl (by kernel_rfl) (by kernel_rfl) (fun T => ?_)
  generalize hv1 : World.re v 0 T = w
  have HG0 : Hid (Grew v w) := by subst hv1; exact Grew.re v 0 T
  replace hb : BookAt w a1 a2 b := by subst hv1; exact hb
  replace hfl : Floor.low ≤ w.heap.size := by subst hv1; exact hfl
  clear hv1
  have HFL := hid hfl
  have hal : ∀ o, Ext w (w.alloc o) := fun o => (Below.refl _ _).alloc (Nat.le_refl _) _
  have es := eqS_self (movesL b)
  refine wpF_k (fun K hK => ?_)
  go_wp2_with fail
  refine wpF_k (fun K hK => ?_)
  go_wp2_with fail
  refine wpF_k (fun K hK => ?_)
  go_wp2_with fail
  refine (szShareBook_n b _ _ _ _ _ _ (hb.ext (hal _)) (by omega) (by omega)).mono ?_
  rintro e w1 ⟨⟨r, rfl, hr1, hr2, hr3⟩, hext1⟩
  have HE1 := hid hext1
  clear hext1
  go_wp2_with fail
  refine wpF_k (fun K hK => ?_)
  by_cases hr : r < 0
  · go_wp2_with fail
    exact ⟨rfl, _, resultsC_tmp (t := 2) rfl _, rfl, HG0.out.tr (Grew.of (Ext.tr (hal _) HE1.out))⟩
  · have HNM : Hid (nMarks b ≤ 1048576) := by have := hr3 (by omega); show _ ≤ _; omega
    have HOL := hid (movesL_len b _ HNM.out)
    clear hr3
    have hx0 := box_cell HE1.out (i := 0) rfl
    have hx1 := box_cell HE1.out (i := 1) rfl
    go_wp2_with fail
    refine wpF_k (fun K hK => ?_)
    go_wp2_with fail
    refine (toShareBook_any b _ _ _ _ _ (hb.ext (Ext.tr (hal _) HE1.out))).mono ?_
    rintro e w2 ⟨b1, b2, rfl, hext2, _, hown2⟩
    have HE2 := hid (Ext.tr HE1.out hext2)
    have hat2 := hid hown2.at
    clear hext2 hown2 hx0 hx1
    go_wp2_with fail
    refine (specMoves_any b _ _ _ _ _ hat2.out).mono ?_
    rintro e w3 ⟨aS, cS, rfl, hext3, hsp3⟩
    have HE3 := hid (Ext.tr HE2.out hext3)
    have HSP3 := hid hsp3
    clear hext3 hsp3
    have hx0 := box_cell HE3.out (i := 0) rfl
    have hx1 := box_cell HE3.out (i := 1) rfl
    go_wp2_with fail
    refine wpF_k (fun K hK => ?_)
    go_wp2_with fail
    refine (toShareBook_any b _ _ _ _ _ (hb.ext (Ext.tr (hal _) HE3.out))).mono ?_
    rintro e w4 ⟨x1, x2, rfl, hext4, hx14, hown4⟩
    have HE4 := hid (Ext.tr HE3.out hext4)
    have HSP4 := hid (HSP3.out.ext hext4)
    have HLO := hid hx14
    have HOW4 := hid hown4
    have hat4 := hid hown4.at
    clear hext4 hown4 hx0 hx1 hx14
    go_wp2_with fail
    refine wpF_0 (mw_seq (by kernel_rfl) (fun why h => by cases h) (mw_region ?_))
    refine mo_list tamed [0] [1, 2] rfl (by kernel_rfl) (by kernel_rfl) (fun T2 => ?_)
    simp only [List.filterMap, List.getElem?_toArray, List.getElem?_cons_zero]
    generalize hz : World.re (w4.alloc (boxB (some ⟨x1, 0, none⟩) (some ⟨x2, 0, none⟩) b.things.length b.batches.length b 30)) 0 T2 = z
    have HB4 : Hid (Grew (w4.alloc (boxB (some ⟨x1, 0, none⟩) (some ⟨x2, 0, none⟩) b.things.length b.batches.length b 30)) z) := by subst hz; exact Grew.re _ _ _
    clear hz T2
    have hG4z : Grew w4 z := (Grew.of (ext_alloc _ _)).tr HB4.out
    have hG0z : Grew (w.alloc (boxB a1 a2 c1 c2 b 25)) z := (Grew.of HE4.out).tr hG4z
    have y0 := box_cell (w := World.re w4 w4.drawn z.tape) HB4.out.ext (i := 0) rfl
    have y1 := box_cell (w := World.re w4 w4.drawn z.tape) HB4.out.ext (i := 1) rfl
    have e4 : (World.re w4 w4.drawn z.tape).heap.size = w4.heap.size := rfl
    rw [e4] at y0 y1
    clear e4
    go_wp2
    have hflz : Floor.low ≤ z.heap.size := by
      have := hG0z.size
      have := HFL.out
      simp at *
      omega
    refine mo_call (by kernel_rfl) rfl rfl rfl rfl (by simp [Act.eval]) (moves_m b (some ⟨x1, 0, none⟩) (some ⟨x2, 0, none⟩) b.things.length b.batches.length z (hG4z.book hat4.out) hflz) (fun r v5 hr => ?_)
    obtain ⟨hG5, ho5⟩ := hr
    have HO5 := hid ho5
    have HGz5 := hid hG5
    have HG0z := hid hG0z
    have HG4z := hid hG4z
    clear hG5 ho5 hG0z hG4z y0 y1 hflz
    walk_nrm
    refine mo_list tamed [2] [] rfl (by kernel_rfl) (by kernel_rfl) (fun T3 => ?_)
    simp only [List.filterMap, List.getElem?_toArray, List.getElem?_cons_zero, List.getElem?_cons_succ]
    go_wp2
    refine mo_nil ?_
    change MW _ _ _ _ _
    refine mw_front tamed 11 rfl (by kernel_rfl) (by kernel_rfl) (fun T4 => ?_)
    generalize hz5 : World.re (World.re v5 0 T3) 0 T4 = w5
    have hG55 : Grew v5 w5 := by subst hz5; exact (Grew.re _ _ _).tr (Grew.re _ _ _)
    have hO55 : OwnL w5 z.heap.size r (movesL b) := by subst hz5; exact HO5.out
    clear hz5 T3 T4
    -- the elder worlds, with this one's tape
    have hGz5 := HGz5.out.tr hG55
    obtain ⟨w0, HG00, hb0, e0, HE5⟩ : ∃ w0 : World, Hid (Grew v w0 ∧ Floor.low ≤ w0.heap.size) ∧ BookAt w0 a1 a2 b ∧ w0.heap.size = w.heap.size ∧ Hid (Ext (w0.alloc (boxB a1 a2 c1 c2 b 25)) w5) :=
      ⟨World.re w w.drawn w5.tape, ⟨HG0.out.tr (Grew.re _ _ _), HFL.out⟩, hb, rfl, (HG0z.out.tr hGz5).ext⟩
    obtain ⟨w4', HOW4', HE45, e4⟩ : ∃ w4' : World, Hid (OwnBook w4' x1 x2 b) ∧ Hid (Ext w4' w5) ∧ w4'.heap.size = w4.heap.size :=
      ⟨World.re w4 w4.drawn w5.tape, HOW4.out, (HG4z.out.tr hGz5).ext, rfl⟩
    have y0 := box_cell (w := World.re w4 w4.drawn w5.tape) (HB4.out.tr hGz5).ext (i := 0) rfl
    have y1 := box_cell (w := World.re w4 w4.drawn w5.tape) (HB4.out.tr hGz5).ext (i := 1) rfl
    have e4' : (World.re w4 w4.drawn w5.tape).heap.size = w4'.heap.size := e4.symm
    rw [e4'] at y0 y1
    have HSP5 : Hid (StrsAt w5 aS (movesL b)) := StrsAt.ext (w := World.re w4 w4.drawn w5.tape) HSP4.out (HG4z.out.tr hGz5).ext
    have H4Z : Hid (w4'.heap.size ≤ z.heap.size) := by rw [e4]; exact HG4z.out.size
    have HS3 := hid HSP3.out.2
    have HL3 : Hid (∀ (hp : 0 < (movesL b).length) b o, aS = some ⟨b, o, none⟩ → b < w3.heap.size) := HSP3.out.lt
    have HZ3 : Hid (w0.heap.size + 1 ≤ w3.heap.size ∧ w3.heap.size ≤ w4'.heap.size) := by
      have h1 := HE3.out.size
      have h2 := HLO.out
      have h3 := HOW4'.out.2.1.2.2.lt
      simp at h1
      exact ⟨by omega, by omega⟩
    rw [← e0, ← e4]
    generalize hn3 : w3.heap.size = n3 at *
    generalize hnz : z.heap.size = nz at *
    clear hn3 hnz e0 e4 e4' HOW4 hat4 HSP4 HSP3 HE4 HE3 HE2 HE1 hat2 HB4 HG4z HG0z HGz5 HO5 hGz5 hG55 hal hb HG0 HFL hfl
    have hal : ∀ o, Ext w0 (w0.alloc o) := fun o => (Below.refl _ _).alloc (Nat.le_refl _) _
    have hshort : ∀ i, i < (movesL b).length → (nth (movesL b) i).length ≤ 140737488355328 := fun i hi => (HS3.out i hi).1
    obtain ⟨aI, cI, rfl, hatI⟩ := hO55.at (by have := HOL.out; omega) hshort
    have HSH := hid hshort
    have hat5 := hid (HOW4'.out.at.ext HE45.out)
    have HOW5 := hid hO55
    have HAT5 := hid hatI
    clear hshort hO55 hatI HS3
    refine wpF_k (fun K hK => ?_)
    go_wp2_with fail
    refine (eqStringS_any _ _ _ _ _ _ _ HAT5.out HSP5.out).mono ?_
    rintro e w6 ⟨rfl, n6, hw6⟩
    have hE56 : Ext w5 w6 := by rw [hw6]; exact ext_drewN _ _
    clear hw6
    replace y0 := hE56.keep y0
    replace y1 := hE56.keep y1
    have hat6 := hid (hat5.out.ext hE56)
    have HSP6 := hid (HSP5.out.ext hE56)
    have HE6 := hid (Ext.tr HE5.out hE56)
    have HOW6 := hid (HOW5.out.kp hE56)
    have HE46 := hid (Ext.tr HE45.out hE56)
    have hx0 := box_cell HE6.out (i := 0) rfl
    have hx1 := box_cell HE6.out (i := 1) rfl
    have hb6 := hb0.ext (Ext.tr (hal _) HE6.out)
    have zw : w0.heap.size < w6.heap.size := cell_lt hx0
    have zx : w4'.heap.size < w6.heap.size := cell_lt y0
    clear hE56
    go_wp2_with fail
    refine wpF_k (fun K hK => ?_)
    go_upto_region 10 with fail
    go_cut [31] from 27 to 31 (fun q wx => q = .bool false ∧ Ext w6 wx)
    case first =>
      go_region_with (first
        | (go_at_call 7; refine (toShareBook_any b _ _ _ _ _ (hb6.draws ⟨1, rfl⟩)).mono ?_; rintro e w7 ⟨e1, e2, rfl, hext7, _, hown7⟩; have hat7 := hown7.at; have y07 := hext7.keep (p := ⟨w4'.heap.size, 0, none⟩) y0; have y17 := hext7.keep (p := ⟨w4'.heap.size, 1, none⟩) y1)
        | (go_at_call 10; refine (eqShareBook_same b _ _ _ _ _ _ _ _ _ (by exact hat6.out.ext (Ext.tr (ext_drewN _ 1) hext7)) (by exact hat7)).mono ?_; rintro e w8 ⟨rfl, hext8⟩))
      all_goals
        have hE := Ext.tr (ext_drewN w6 1) (Ext.tr hext7 hext8)
        clear hext7 hext8 hat7 y07 y17 hown7
        go_wp2_with fail
        go_meet
        exact ⟨rfl, hE⟩
    case rest =>
      obtain ⟨rfl, hext7⟩ := hcut
      replace y0 := hext7.keep y0
      replace y1 := hext7.keep y1
      have HSP7 := hid (HSP6.out.ext hext7)
      have HE7 := hid (Ext.tr HE6.out hext7)
      have HOW7 := hid (HOW6.out.kp hext7)
      have HE47 := hid (Ext.tr HE46.out hext7)
      clear hext7 hx0 hx1 hb6 zw zx
      go_wp2_with fail
      refine wpF_k (fun K hK => ?_)
      go_wp2_with fail
      refine wpF_k (fun K hK => ?_)
      go_wp2_with fail
      refine (markShareBook_n n3 b x1 x2 _ _ 1 w4' _ HOW4'.out HLO.out HE47.out (by omega) (by have := HNM.out; omega)).mono ?_
      rintro e w8 ⟨rfl, hmid8⟩
      have HSP8 := hid (HSP7.out.mid hmid8 (fun hp b o e => Or.inl (HL3.out hp b o e)))
      have HOW8 := hid (HOW7.out.mid hmid8 H4Z.out)
      have HE8 : Hid (Ext (w0.alloc (boxB a1 a2 c1 c2 b 25)) w8) :=
        Below.trans HE7.out ((hmid8.below (by have := HZ3.out.2; have := HE47.out.size; omega)).mono (by have := HZ3.out.1; simpa using this))
      obtain ⟨aJ, cJ, eJ, hat8⟩ := HOW8.out.at (by have := HOL.out; omega) HSH.out
      cases eJ
      have HAT8 := hid hat8
      clear hmid8 hat8 y0 y1
      generalize nMarks b = nm at *
      have hng : ¬ ((1 : Int) + (nm : Int) < 0) := by omega
      go_wp2_with fail
      refine wpF_k (fun K hK => ?_)
      go_wp2_with fail
      refine (eqStringS_any _ _ _ _ _ _ _ HAT8.out HSP8.out).mono ?_
      rintro e w9 ⟨rfl, n9, hw9⟩
      have hE9 : Ext w8 w9 := by rw [hw9]; exact ext_drewN _ _
      have HE9 := hid (Ext.tr HE8.out hE9)
      have HSP9 := hid (HSP8.out.ext hE9)
      have HOW9 := hid (HOW8.out.kp hE9)
      clear hw9 hE9
      go_wp2_with fail
      refine wpF_k (fun K hK => ?_)
      go_wp2_with fail
      refine wpF_k (fun K hK => ?_)
      go_wp2_with fail
      have hol := HOL.out
      refine (markOwn nz _ (movesL b) 1 _ HOW9.out (by omega) (by omega)).mono ?_
      rintro e w10 ⟨rfl, hgb, how10⟩
      have hne : ∀ k, k < nz → some k ≠ (Value.slice aI (movesL b).length cI).ownBlock := fun k hk e => by
        have := (HOW9.out.lt k e.symm).1
        omega
      have HSP10 := hid (HSP9.out.gb hgb (fun hp b o e => hne b (by have := HL3.out hp b o e; have := HZ3.out.2; have := H4Z.out; omega)))
      have HE10 : Hid (Ext (w0.alloc (boxB a1 a2 c1 c2 b 25)) w10) :=
        Below.trans HE9.out ⟨hgb.os, hgb.tape, hgb.output, hgb.size, fun k hk => hgb.block k (by have := HE9.out.size; omega) (hne k (by have h1 := HZ3.out.1; have h2 := HZ3.out.2; have h3 := H4Z.out; simp at hk; omega))⟩
      have HOW10 := hid how10
      clear hgb how10 hne HSP9 HOW9 HE9 HSP8 HOW8 HAT8
      generalize hn : (movesL b).length = n at *
      go_wp2_with fail
      refine wpF_k (fun K hK => ?_)
      go_wp2_with fail
      refine wpF_k (fun K hK => ?_)
      go_wp2_with fail
      refine (heldOwn nz _ n 1 _ HOW10.out (by omega) (by omega)).mono ?_
      rintro e w11 ⟨rfl, hE11⟩
      have HE11 := hid (Ext.tr HE10.out hE11)
      have HSP11 := hid (HSP10.out.ext hE11)
      have HOW11 := hid (HOW10.out.kp hE11)
      clear hE11
      have hng2 : ¬ ((1 : Int) + (n : Int) < 0) := by omega
      go_wp2_with fail
      refine wpF_k (fun K hK => ?_)
      go_wp2_with fail
      refine wpF_k (fun K hK => ?_)
      go_wp2_with fail
      subst hn
      refine wpF_0 (mw_seq (by kernel_rfl) (fun why h => by cases h) (mw_region ?_))
      refine mo_list tamed [0, 1] [2, 3] rfl (by kernel_rfl) (by kernel_rfl) (fun T5 => ?_)
      simp only [List.filterMap, List.getElem?_toArray, List.getElem?_cons_zero, List.getElem?_cons_succ]
      generalize hz : World.re w11 0 T5 = u1
      have hG11 : Grew w11 u1 := by subst hz; exact Grew.re _ _ _
      obtain ⟨wa, HGa, hba, ea, HEa⟩ : ∃ wa : World, Hid (Grew v wa ∧ Floor.low ≤ wa.heap.size) ∧ BookAt wa a1 a2 b ∧ wa.heap.size = w0.heap.size ∧ Hid (Ext (wa.alloc (boxB a1 a2 c1 c2 b 25)) u1) :=
        ⟨World.re w0 w0.drawn u1.tape, ⟨HG00.out.1.tr (Grew.re _ _ _), HG00.out.2⟩, hb0, rfl, ((Grew.of HE11.out).tr hG11).ext⟩
      have HSP12 : Hid (StrsAt u1 aS (movesL b)) := by subst hz; exact HSP11.out
      have HOW12 : Hid (OwnL u1 nz (.slice aI (movesL b).length cI) (marksOf 1 (movesL b).length)) := by subst hz; exact HOW11.out
      clear hz hG11
      rw [← ea]
      clear ea HE11 HSP11 HOW11 HE10 HSP10 HOW10 HE8 HE7 HE47 HSP7 HOW7 HE6 HE46 HSP6 HOW6 hat6 hat5 HAT5 HOW5 HSP5 HE5 HE45 HOW4' hb0 HG00
      have hx0 := box_cell HEa.out (i := 0) rfl
      have hx1 := box_cell HEa.out (i := 1) rfl
      go_wp2_with (go_at_call 7; refine (toShareBook_any b _ _ _ _ _ (hba.ext (Ext.tr (ext_alloc _ _) HEa.out))).mono ?_; rintro e u2 ⟨z1, z2, rfl, hE12, _, hown12⟩)
      have hG12 : Grew wa u2 := (Grew.of (ext_alloc _ _)).tr ((Grew.of HEa.out).tr (Grew.of hE12))
      refine mo_call (by kernel_rfl) rfl rfl rfl rfl (by simp [Act.eval]) (moves_m b (some ⟨z1, 0, none⟩) (some ⟨z2, 0, none⟩) b.things.length b.batches.length u2 hown12.at (Nat.le_trans HGa.out.2 hG12.size)) (fun r2 u3 hr => ?_)
      obtain ⟨hG13, ho13⟩ := hr
      have HO3 := hid ho13
      have HG13 := hid hG13
      have HG12 := hid hG12
      have HE12 := hid hE12
      clear hG13 ho13 hG12 hE12 hown12 hx0 hx1
      walk_nrm
      refine mo_list tamed [3] [] rfl (by kernel_rfl) (by kernel_rfl) (fun T6 => ?_)
      simp only [List.filterMap, List.getElem?_toArray, List.getElem?_cons_zero, List.getElem?_cons_succ]
      go_wp2
      refine mo_nil ?_
      change MW _ _ _ _ _
      refine mw_wp tamed rfl (by kernel_rfl) (fun T7 => ?_)
      generalize hz : World.re (World.re u3 0 T6) 0 T7 = u4
      have hG4 : Grew u2 u4 := by subst hz; exact HG13.out.tr ((Grew.re _ _ _).tr (Grew.re _ _ _))
      have hO4 : OwnL u4 u2.heap.size r2 (movesL b) := by subst hz; exact HO3.out
      clear hz T6 T7
      have hG14 : Grew u1 u4 := (Grew.of HE12.out).tr hG4
      have HGf : Hid (Grew v u4) := HGa.out.1.tr (HG12.out.tr hG4)
      have HSP13 : Hid (StrsAt u4 aS (movesL b)) := StrsAt.ext (w := World.re u1 u1.drawn u4.tape) HSP12.out hG14.ext
      have HOW13 : Hid (OwnL u4 nz (.slice aI (movesL b).length cI) (marksOf 1 (movesL b).length)) := OwnL.kp (w := World.re u1 u1.drawn u4.tape) HOW12.out hG14.ext
      obtain ⟨aH, cH, rfl, hatH⟩ := hO4.at (by omega) HSH.out
      have HATH := hid hatH
      clear hatH hO4 hG4 hG14 HO3 HG13 HG12 HE12
      go_wp2_with fail
      refine (eqStringS_any _ _ _ _ _ _ _ HATH.out HSP13.out).mono ?_
      rintro e w14 ⟨rfl, n14, hw14⟩
      have hE14 : Ext u4 w14 := by rw [hw14]; exact ext_drewN _ _
      have HGf2 := hid (HGf.out.tr (Grew.of hE14))
      have HOW14 := hid (HOW13.out.kp hE14)
      clear hw14 hE14
      go_wp2_with fail
      refine (heldOwn nz _ (movesL b).length 1 _ HOW14.out (by omega) (by omega)).mono ?_
      rintro e w15 ⟨rfl, hE15⟩
      have HGf3 := hid (HGf2.out.tr (Grew.of hE15))
      clear hE15
      go_wp2_with fail
      exact ⟨rfl, _, resultsC_tmp (t := 2) rfl _, rfl, HGf3.out⟩
end Go.Proofs.Ytdafpnpfcmgfcab
