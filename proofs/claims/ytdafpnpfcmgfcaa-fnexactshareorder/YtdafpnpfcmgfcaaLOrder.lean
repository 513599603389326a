/- The walk over the exact law of ShareOrder. -/
import Derived.Test.YtdafpnpfcmgfcaaR4
import Derived.Test.YtdafpnpfcmgfcaaK5
namespace Go.Proofs.Ytdafpnpfcmgfcaa
open Go.RowKit
attribute [local go_sem] S_toList S_size S_get

theorem OwnL.lift {w : World} {base base' : Nat} {v : Value} {ss : List Str} (h : OwnL w base v ss) (hb : base' ≤ base) : OwnL w base' v ss := own_base h hb

theorem orderL_len (b : Book) (n : Nat) (hb : nMarks b ≤ n) : (orderL b).length ≤ n := by
  have hg : ∀ (m : Nat) (gone r : List Str), greedy b m gone = some r → r.length = gone.length + m := by
    intro m
    induction m with
    | zero => intro gone r h; simp [greedy] at h; rw [← h]; rfl
    | succ m ih =>
      intro gone r h
      cases hn : nextOf b gone with
      | none => rw [greedy_none hn] at h; cases h
      | some i =>
        rw [greedy_some hn] at h
        have := ih _ _ h
        rw [List.length_append, List.length_singleton] at this
        omega
  have hbl : b.batches.length ≤ nMarks b := by unfold nMarks; omega
  unfold orderL orderOf
  split
  · cases h : greedy b b.batches.length [] with
    | none => simp
    | some r =>
      have := hg _ _ _ h
      simp at this ⊢
      omega
  · simp

set_option maxHeartbeats 2000000 in
set_option maxRecDepth 100000 in
theorem fnExactShareOrder_any (b : Book) (a1 a2 : Option Addr) (c1 c2 : Nat) (w : World) (hb : BookAt w a1 a2 b) :
    Calls Try.prog 8 #[.agg #[.slice a1 b.things.length c1, .slice a2 b.batches.length c2]] w fun e w' =>
      e = .returned (.bool true) ∧ Ext w w' := by
  have hal : ∀ o, Ext w (w.alloc o) := fun o => (Below.refl _ _).alloc (Nat.le_refl _) _
  have es := eqS_self (orderL b)
  go_enter Try.func8, Try.ntmps8
  go_wp2_with fail
  refine (szShareBook_n b _ _ _ _ _ _ (hb.ext (hal _)) (by omega) (by omega)).mono ?_
  rintro e w1 ⟨⟨r, rfl, hr1, hr2, hr3⟩, hext1⟩
  have HE1 := hid hext1
  clear hext1
  by_cases hr : r < 0
  · go_wp2_with fail
    go_ret
    exact ⟨rfl, Ext.tr (hal _) HE1.out⟩
  · have HNM : Hid (nMarks b ≤ 1048576) := by have := hr3 (by omega); show _ ≤ _; omega
    have HOL := hid (orderL_len b _ HNM.out)
    clear hr3
    have hx0 := box_cell HE1.out (i := 0) rfl
    have hx1 := box_cell HE1.out (i := 1) rfl
    go_wp2_with fail
    refine (toShareBook_any b _ _ _ _ _ (hb.ext (Ext.tr (hal _) HE1.out))).mono ?_
    rintro e w2 ⟨b1, b2, rfl, hext2, _, hown2⟩
    have HE2 := hid (Ext.tr HE1.out hext2)
    have hat2 := hid hown2.at
    clear hext2 hown2 hx0 hx1
    go_wp2_with fail
    refine (specOrder_any b _ _ _ _ _ hat2.out).mono ?_
    rintro e w3 ⟨aS, cS, rfl, hext3, hsp3⟩
    have HE3 := hid (Ext.tr HE2.out hext3)
    have HSP3 := hid hsp3
    clear hext3 hsp3
    have hx0 := box_cell HE3.out (i := 0) rfl
    have hx1 := box_cell HE3.out (i := 1) rfl
    go_wp2_with fail
    refine (toShareBook_any b _ _ _ _ _ (hb.ext (Ext.tr (hal _) HE3.out))).mono ?_
    rintro e w4 ⟨x1, x2, rfl, hext4, hx14, hown4⟩
    have HE4 := hid (Ext.tr HE3.out hext4)
    have HSP4 := hid (HSP3.out.ext hext4)
    have HLO := hid hx14
    have HOW4 := hid hown4
    have hat4 := hid hown4.at
    clear hext4 hown4 hx0 hx1 hx14
    go_wp2_with fail
    refine (implOrder_any b _ _ _ _ _ (hat4.out.ext (ext_alloc _ _))).mono ?_
    rintro e w5 ⟨v, rfl, hext5, how5⟩
    have hshort : ∀ i, i < (orderL b).length → (nth (orderL b) i).length ≤ 140737488355328 := fun i hi => (HSP3.out.2 i hi).1
    obtain ⟨aI, cI, rfl, hatI⟩ := how5.at (by have := HOL.out; omega) hshort
    have HSH := hid hshort
    have y0 := box_cell hext5 (i := 0) rfl
    have y1 := box_cell hext5 (i := 1) rfl
    have hE45 := Ext.tr (ext_alloc _ _) hext5
    have HOB5 := hid (HOW4.out.ext hE45)
    have hat5 := hid (hat4.out.ext hE45)
    have HSP5 := hid (HSP4.out.ext hE45)
    have HE5 := hid (Ext.tr HE4.out hE45)
    have HOW5 : Hid (OwnL w5 (w4.heap.size + 1) (.slice aI (orderL b).length cI) (orderL b)) := by
      have e : (w4.alloc (.cells #[.slice (some ⟨x1, 0, none⟩) b.things.length b.things.length, .slice (some ⟨x2, 0, none⟩) b.batches.length b.batches.length] 26)).heap.size = w4.heap.size + 1 := by simp
      rw [e] at how5; exact how5
    have HAT5 := hid hatI
    have HE45 := hid hE45
    clear hshort hext5 how5 hatI hE45
    have hsb : (safeB b != safeB b) = false := by simp
    generalize hsbe : safeB b = sb at hsb ⊢
    have HSB := hid hsbe
    clear hsbe
    go_wp2_with fail
    refine (eqStringS_any _ _ _ _ _ _ _ HAT5.out HSP5.out).mono ?_
    rintro e w6 ⟨rfl, n6, hw6⟩
    have hE56 : Ext w5 w6 := by rw [hw6]; exact ext_drewN _ _
    clear hw6
    replace y0 := hE56.keep y0
    replace y1 := hE56.keep y1
    have HOB6 := hid (HOB5.out.ext hE56)
    have hat6 := hid (hat5.out.ext hE56)
    have HSP6 := hid (HSP5.out.ext hE56)
    have HE6 := hid (Ext.tr HE5.out hE56)
    have HOW6 := hid (HOW5.out.ext hE56)
    have HE46 := hid (Ext.tr HE45.out hE56)
    have hx0 := box_cell HE6.out (i := 0) rfl
    have hx1 := box_cell HE6.out (i := 1) rfl
    have hb6 := hb.ext (Ext.tr (hal _) HE6.out)
    have zw : w.heap.size < w6.heap.size := cell_lt hx0
    have zx : w4.heap.size < w6.heap.size := cell_lt y0
    clear hE56
    go_upto_region 10 with fail
    go_cut [45] (fun q wx => q = .bool false ∧ Ext w6 wx)
    case first =>
      go_region_with (first
        | (go_at_call 25; refine (toShareBook_any b _ _ _ _ _ (hb6.draws ⟨1, rfl⟩)).mono ?_; rintro e w7 ⟨e1, e2, rfl, hext7, _, hown7⟩; have hat7 := hown7.at; have y07 := hext7.keep (p := ⟨w4.heap.size, 0, none⟩) y0; have y17 := hext7.keep (p := ⟨w4.heap.size, 1, none⟩) y1)
        | (go_at_call 26; refine (eqShareBook_same b _ _ _ _ _ _ _ _ _ (by exact hat6.out.ext (Ext.tr (ext_drewN _ 1) hext7)) (by exact hat7)).mono ?_; rintro e w8 ⟨rfl, hext8⟩))
      all_goals
        have hE := Ext.tr (ext_drewN w6 1) (Ext.tr hext7 hext8)
        clear hext7 hext8 hat7 y07 y17 hown7
        go_wp2_with fail
        go_meet
        exact ⟨rfl, hE⟩
    case rest =>
      obtain ⟨rfl, hext7⟩ := hcut
      replace y0 := hext7.keep y0
      replace y1 := hext7.keep y1
      have HOB7 := hid (HOB6.out.ext hext7)
      have HSP7 := hid (HSP6.out.ext hext7)
      have HE7 := hid (Ext.tr HE6.out hext7)
      have HOW7 := hid (HOW6.out.ext hext7)
      have HE47 := hid (Ext.tr HE46.out hext7)
      clear hext7 hx0 hx1 hb6
      go_wp2_with fail
      refine (markShareBook_n w3.heap.size b x1 x2 _ _ 1 w4 _ HOW4.out HLO.out HE47.out (by omega) (by have := HNM.out; omega)).mono ?_
      rintro e w8 ⟨rfl, hmid8⟩
      have hz3 := HE3.out.size
      have hz34 := HE47.out.size
      have HSP8 := hid (HSP7.out.mid hmid8 (fun hp b o e => Or.inl (HSP3.out.lt hp b o e)))
      have HOW8 := hid (HOW7.out.mid hmid8 (by omega))
      have HE8 : Hid (Ext (w.alloc (.cells #[.slice a1 b.things.length c1, .slice a2 b.batches.length c2] 45)) w8) :=
        Below.trans HE7.out ((hmid8.below (by have := HE4.out.size; have := HOW4.out.2.1.2.2.lt; have := HLO.out; omega)).mono hz3)
      obtain ⟨aJ, cJ, eJ, hat8⟩ := HOW8.out.at (by have := HOL.out; omega) HSH.out
      cases eJ
      have HAT8 := hid hat8
      clear hmid8 hat8 hz3 hz34 y0 y1
      generalize nMarks b = nm at *
      have hng : ¬ ((1 : Int) + (nm : Int) < 0) := by omega
      go_wp2_with fail
      refine (eqStringS_any _ _ _ _ _ _ _ HAT8.out HSP8.out).mono ?_
      rintro e w9 ⟨rfl, n9, hw9⟩
      have hE9 : Ext w8 w9 := by rw [hw9]; exact ext_drewN _ _
      have HE9 := hid (Ext.tr HE8.out hE9)
      have HSP9 := hid (HSP8.out.ext hE9)
      have HOW9 := hid (HOW8.out.ext hE9)
      clear hw9 hE9
      go_wp2_with fail
      have hol := HOL.out
      refine (markOwn (w4.heap.size + 1) _ (orderL b) 1 _ HOW9.out (by omega) (by omega)).mono ?_
      rintro e w10 ⟨rfl, hgb, how10⟩
      have hne : ∀ k, k < w4.heap.size + 1 → some k ≠ (Value.slice aI (orderL b).length cI).ownBlock := fun k hk e => by
        have := (HOW9.out.lt k e.symm).1
        omega
      have h34 : w3.heap.size ≤ w4.heap.size := by have := HLO.out; have := HOW4.out.2.1.2.2.lt; omega
      have HSP10 := hid (HSP9.out.gb hgb (fun hp b o e => hne b (by have := HSP3.out.lt hp b o e; omega)))
      have HE10 : Hid (Ext (w.alloc (.cells #[.slice a1 b.things.length c1, .slice a2 b.batches.length c2] 45)) w10) :=
        Below.trans HE9.out ⟨hgb.os, hgb.tape, hgb.output, hgb.size, fun k hk => hgb.block k (by have := HE9.out.size; omega) (hne k (by have := HE3.out.size; omega))⟩
      have HOW10 := hid how10
      clear hgb how10 hne h34 HSP9 HOW9 HE9 HSP8 HOW8 HAT8
      generalize hn : (orderL b).length = n at *
      go_wp2_with fail
      refine (heldOwn (w4.heap.size + 1) _ n 1 _ HOW10.out (by omega) (by omega)).mono ?_
      rintro e w11 ⟨rfl, hE11⟩
      have HE11 := hid (Ext.tr HE10.out hE11)
      have HSP11 := hid (HSP10.out.ext hE11)
      have HOW11 := hid (HOW10.out.ext hE11)
      clear hE11
      have hng2 : ¬ ((1 : Int) + (n : Int) < 0) := by omega
      have hx0 := box_cell HE11.out (i := 0) rfl
      have hx1 := box_cell HE11.out (i := 1) rfl
      go_wp2_with fail
      subst hn
      refine (toShareBook_any b _ _ _ _ _ (hb.ext (Ext.tr (hal _) HE11.out))).mono ?_
      rintro e w12 ⟨z1, z2, rfl, hE12, _, hown12⟩
      have HE12 := hid (Ext.tr HE11.out hE12)
      have HSP12 := hid (HSP11.out.ext hE12)
      have HOW12 := hid (HOW11.out.ext hE12)
      have hat12 := hid hown12.at
      clear hE12 hown12 hx0 hx1
      go_wp2_with fail
      refine (implOrder_any b _ _ _ _ _ hat12.out).mono ?_
      rintro e w13 ⟨v, rfl, hE13, how13⟩
      obtain ⟨aH, cH, rfl, hatH⟩ := how13.at (by omega) HSH.out
      have HE13 := hid (Ext.tr HE12.out hE13)
      have HSP13 := hid (HSP12.out.ext hE13)
      have HOW13 := hid (HOW12.out.ext hE13)
      have HATH := hid hatH
      clear hE13 how13 hatH
      rw [HSB.out]
      go_wp2_with fail
      refine (eqStringS_any _ _ _ _ _ _ _ HATH.out HSP13.out).mono ?_
      rintro e w14 ⟨rfl, n14, hw14⟩
      have hE14 : Ext w13 w14 := by rw [hw14]; exact ext_drewN _ _
      have HE14 := hid (Ext.tr HE13.out hE14)
      have HOW14 := hid (HOW13.out.ext hE14)
      clear hw14 hE14
      go_wp2_with fail
      refine (heldOwn (w4.heap.size + 1) _ (orderL b).length 1 _ HOW14.out (by omega) (by omega)).mono ?_
      rintro e w15 ⟨rfl, hE15⟩
      have HE15 := hid (Ext.tr HE14.out hE15)
      clear hE15
      go_wp2_with fail
      go_ret
      exact ⟨rfl, Ext.tr (hal _) HE15.out⟩
end Go.Proofs.Ytdafpnpfcmgfcaa
