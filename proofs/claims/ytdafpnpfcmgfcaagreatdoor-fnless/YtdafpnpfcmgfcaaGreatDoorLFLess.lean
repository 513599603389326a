/- The walk over the law FnLess. -/
import Derived.Test.YtdafpnpfcmgfcaaGreatDoorMC
import Derived.Test.YtdafpnpfcmgfcaaGreatDoorD12
import Derived.Test.YtdafpnpfcmgfcaaGreatDoorOA
import Derived.Test.YtdafpnpfcmgfcaaGreatDoorE18
import Derived.Test.YtdafpnpfcmgfcaaGreatDoorSA
import Derived.Test.YtdafpnpfcmgfcaaGreatDoorH3
namespace Go.Proofs.YtdafpnpfcmgfcaaGreatDoor
open Go.RowKit
attribute [local go_sem] S_toList S_size S_get

theorem less_same {b : Book} {n : Str} {l : List Str} (h0 : (lessB b n l).2 ≠ 0) (h1 : (lessB b n l).2 ≠ 1) : (lessB b n l).1 = b := by
  have h := less_book b n l
  rw [if_neg h0, if_neg h1] at h
  exact h.symm
theorem enter_same {b : Book} {n : Str} {l : List Str} (h0 : (enterB b n l).2 ≠ 0) (h1 : (enterB b n l).2 ≠ 1) : (enterB b n l).1 = b := by
  have h := enter_book b n l
  rw [if_neg h0, if_neg h1] at h
  exact h.symm
theorem out_blen {b B b0 : Book} {c : Nat} (h : (if c = 0 then b0 else if c = 1 then emptyBook else b) = B) (hb : b.batches.length ≤ 7) (h0 : c = 0 → b0.batches.length ≤ 8) : B.batches.length ≤ 2199023255552 := by
  rw [← h]
  by_cases hc : c = 0
  · rw [if_pos hc]; have := h0 hc; omega
  · rw [if_neg hc]
    by_cases h1 : c = 1
    · rw [if_pos h1]; simp [emptyBook]
    · rw [if_neg h1]; omega
/-- The specification's answer. -/
def BookR (w : World) (B : Book) (c : Nat) (e : Ending) (w' : World) : Prop :=
  ∃ a1 c1 a2 c2, e = .returned (.tuple #[.agg #[.slice a1 B.things.length c1, .slice a2 B.batches.length c2], .int .i64 ((c : Nat) : Int)]) ∧ Ext w w' ∧ BookAt w' a1 a2 B
theorem BytesAt.ext {w w' : World} {a : Option Addr} {n : Nat} (h : BytesAt w a n) (e : Ext w w') : BytesAt w' a n := h.gb (gb_none e) (fun b o e' hp => by simp)
abbrev ETy (w : World) : Prop := w.cell? ⟨0, 0, none⟩ = some (.iface 176 (.agg #[.pointer (some ⟨1, 110, none⟩)]))

set_option maxHeartbeats 40000000 in
set_option maxRecDepth 100000 in
theorem fnLess_any (a1 a2 : Option Addr) (n1 c1 n2 c2 : Nat) (w : World) (h1 : BytesAt w a1 n1) (hn1 : n1 ≤ c1) (hc1 : c1 ≤ 140737488355328) (h2 : BytesAt w a2 n2) (hn2 : n2 ≤ c2) (hc2 : c2 ≤ 140737488355328) (hg : ETy w) :
    Calls Tryz.prog 5 #[.slice a1 n1 c1, .slice a2 n2 c2] w fun e w' => e = .returned (.bool true) ∧ Ext w w' := by
  have HG : Hid (ETy w) := hg
  clear hg
  go_enter Tryz.func5, Tryz.ntmps5
  by_cases hl1 : 1048576 < n1
  · go_wp2_with fail
    go_ret
    exact ⟨rfl, Ext.rfl' _⟩
  by_cases hl2 : 1048576 < n2
  · go_wp2_with fail
    go_ret
    exact ⟨rfl, Ext.rfl' _⟩
  go_wp2_with fail
  refine (drawLess_any a1 n1 c1 w h1 hn1 hc1).mono ?_
  rintro e w1 ⟨b, x1, x2, x3, y1, y2, y3, s, L, rfl, hE1, hb1, hL1, hsm, hsl⟩
  have HB := hid (hb1.ext (ext_alloc w1 (.cells #[.slice x1 b.things.length y1, .slice x2 b.batches.length y2] 26)))
  have HL := hid (hL1.ext (ext_alloc w1 (.cells #[.slice x1 b.things.length y1, .slice x2 b.batches.length y2] 26)))
  have HE := hid (Ext.tr hE1 (ext_alloc w1 (.cells #[.slice x1 b.things.length y1, .slice x2 b.batches.length y2] 26)))
  have HRb : Hid (Rec (w1.alloc (.cells #[.slice x1 b.things.length y1, .slice x2 b.batches.length y2] 26)) w1.heap.size 26 [.slice x1 b.things.length y1, .slice x2 b.batches.length y2]) := Rec.new w1 _ _
  have hb7 := hsm.2.1
  clear hE1 hb1 hL1
  go_wp2_with fail
  generalize w1.alloc (.cells #[.slice x1 b.things.length y1, .slice x2 b.batches.length y2] 26) = wa at *
  have HF0 : Hid ((lessB b s L).2 = 0 → safeB b = true → safeB (lessB b s L).1 = true) := fun h0 hs => less_safe h0 hs
  have HF2 : Hid ((lessB b s L).2 ≠ 0 → (lessB b s L).2 ≠ 1 → (lessB b s L).1 = b) := fun h0 h1 => less_same h0 h1
  have HBL : Hid ((lessB b s L).1.batches.length ≤ 2199023255552) := out_blen (less_book b s L) hb7 (fun _ => by
    show (b.batches.set _ _).length ≤ 8
    rw [List.length_set]; omega)
  have HSP : Hid (∀ w', BookAt w' x1 x2 b → StrsAt w' x3 L → Calls Tryz.prog 13 #[.agg #[.slice x1 b.things.length y1, .slice x2 b.batches.length y2], .string (S s), .slice x3 L.length y3] w' fun e w2 => BookR w' (lessB b s L).1 (lessB b s L).2 e w2) :=
    fun w' h1 h2 => specLess_any b s L x1 x2 x3 y1 y2 y3 w' h1 h2
  refine (implLess_any b s L _ _ _ _ _ _ _ HB.out HL.out (HE.out.keep HG.out)).mono ?_
  rintro e w2 ⟨v1, v2, rs, rfl, hE2, hO2⟩
  generalize (lessB b s L).1 = B at *
  generalize (lessB b s L).2 = c at *
  obtain ⟨g1, e1, g2, e2, rfl, rfl, hat2⟩ := hO2.at HBL.out
  have hEx := Ext.tr hE2 (ext_alloc w2 (.cells #[.slice g1 B.things.length e1, .slice g2 B.batches.length e2] 26))
  have HX := hid (hat2.ext (ext_alloc w2 (.cells #[.slice g1 B.things.length e1, .slice g2 B.batches.length e2] 26)))
  have HRx : Hid (Rec (w2.alloc (.cells #[.slice g1 B.things.length e1, .slice g2 B.batches.length e2] 26)) w2.heap.size 26 [.slice g1 B.things.length e1, .slice g2 B.batches.length e2]) := Rec.new w2 _ _
  replace HB := hid (HB.out.ext hEx)
  replace HL := hid (HL.out.ext hEx)
  replace HE := hid (Ext.tr HE.out hEx)
  replace HRb := hid (HRb.out.ext hEx)
  have p0 := HRb.out.cell (i := 0) rfl
  have p1 := HRb.out.cell (i := 1) rfl
  clear hEx hat2 hE2 hO2
  go_wp2_with fail
  clear p0 p1
  generalize w2.alloc (.cells #[.slice g1 B.things.length e1, .slice g2 B.batches.length e2] 26) = wb at *
  refine (HSP.out _ HB.out HL.out).mono ?_
  rintro e w3 ⟨s1, t1, s2, t2, rfl, hE3, hsp3⟩
  have hEx := Ext.tr hE3 (ext_alloc w3 (.cells #[.slice s1 B.things.length t1, .slice s2 B.batches.length t2] 26))
  have HW := hid (hsp3.ext (ext_alloc w3 (.cells #[.slice s1 B.things.length t1, .slice s2 B.batches.length t2] 26)))
  have HRw : Hid (Rec (w3.alloc (.cells #[.slice s1 B.things.length t1, .slice s2 B.batches.length t2] 26)) w3.heap.size 26 [.slice s1 B.things.length t1, .slice s2 B.batches.length t2]) := Rec.new w3 _ _
  replace HX := hid (HX.out.ext hEx)
  replace HRx := hid (HRx.out.ext hEx)
  replace HB := hid (HB.out.ext hEx)
  replace HL := hid (HL.out.ext hEx)
  replace HE := hid (Ext.tr HE.out hEx)
  replace HRb := hid (HRb.out.ext hEx)
  clear hEx hE3 hsp3 HSP
  go_upto_region 6 with fail
  generalize w3.alloc (.cells #[.slice s1 B.things.length t1, .slice s2 B.batches.length t2] 26) = wd at *
  have hcc : ((c : Int) != (c : Int)) = false := by simp
  go_cut [82] (fun v wx => v = .bool false ∧ Ext wd wx)
  case first =>
    have x0 := HRx.out.cell (i := 0) rfl
    have x1' := HRx.out.cell (i := 1) rfl
    have m0 := HRw.out.cell (i := 0) rfl
    have m1 := HRw.out.cell (i := 1) rfl
    have b0 := HRb.out.cell (i := 0) rfl
    have b1 := HRb.out.cell (i := 1) rfl
    by_cases hc0 : c = 0
    · have HS0 := hid (HF0.out hc0)
      clear HF0 HF2
      subst hc0
      go_wp2_with fail
      refine (wBook_same B _ _ _ _ _ _ _ _ _ HX.out HW.out).mono ?_
      rintro e w4 ⟨rfl, hE4⟩
      have b0' := hE4.keep b0
      have b1' := hE4.keep b1
      go_wp2_with fail
      refine (implSafe_any b _ _ _ _ _ (HB.out.ext hE4)).mono ?_
      rintro e w5 ⟨rfl, hE5'⟩
      have hE5 := Ext.tr hE4 hE5'
      cases hs : safeB b
      · go_wp2_with fail
        go_meet
        exact ⟨rfl, hE5⟩
      · have x0' := hE5.keep x0
        have x1'' := hE5.keep x1'
        have HSB := hid (HS0.out hs)
        clear hs HS0
        go_wp2_with fail
        refine (implSafe_any B _ _ _ _ _ (HX.out.ext hE5)).mono ?_
        rintro e w6 ⟨rfl, hE6⟩
        rw [HSB.out]
        have hE6' := Ext.tr hE5 hE6
        clear hE6
        go_wp2_with fail
        go_meet
        exact ⟨rfl, hE6'⟩
    · by_cases hc1' : c = 1
      · subst hc1'
        clear HF0 HF2
        go_wp2_with fail
        refine (wBook_same B _ _ _ _ _ _ _ _ _ HX.out HW.out).mono ?_
        rintro e w4 ⟨rfl, hE4⟩
        go_wp2_with fail
        go_meet
        exact ⟨rfl, hE4⟩
      · have hBb := HF2.out hc0 hc1'
        clear HF0 HF2
        subst hBb
        have q0 : ((c : Int) == 0) = false := by simp; omega
        have q1 : (1 : Int) < (c : Int) := by omega
        go_wp2_with fail
        refine (wBook_same B _ _ _ _ _ _ _ _ _ HX.out HW.out).mono ?_
        rintro e w4 ⟨rfl, hE4⟩
        have b0' := hE4.keep b0
        have b1' := hE4.keep b1
        have x0' := hE4.keep x0
        have x1'' := hE4.keep x1'
        go_wp2_with fail
        refine (wBook_same B _ _ _ _ _ _ _ _ _ (HX.out.ext hE4) (HB.out.ext hE4)).mono ?_
        rintro e w5 ⟨rfl, hE5⟩
        have hE5' := Ext.tr hE4 hE5
        clear hE5
        go_wp2_with fail
        go_meet
        exact ⟨rfl, hE5'⟩
  case rest =>
    obtain ⟨rfl, hE7⟩ := hcut
    replace HB := hid (HB.out.ext hE7)
    replace HE := hid (Ext.tr HE.out hE7)
    replace HRb := hid (HRb.out.ext hE7)
    clear hE7 HX HRx HW HRw HL HF0 HF2 HBL hcc
    have p0 := HRb.out.cell (i := 0) rfl
    have p1 := HRb.out.cell (i := 1) rfl
    go_wp2_with fail
    have HF0 : Hid ((leaveB b s).2 = 0 → safeB b = true → safeB (leaveB b s).1 = true) := fun h0 hs => leave_safe h0 hs
    have HF1 : Hid ((leaveB b s).2 = 0 → (leaveB b s).1.batches.length + 1 = b.batches.length) := fun h0 => leave_len h0
    have HBL : Hid ((leaveB b s).1.batches.length ≤ 2199023255552) := out_blen (leave_book b s) hb7 (fun _ => by
      show (b.batches.take _ ++ b.batches.drop _).length ≤ 8
      rw [List.length_append, List.length_take, List.length_drop]; omega)
    have HSP : Hid (∀ w', BookAt w' x1 x2 b → Calls Tryz.prog 15 #[.agg #[.slice x1 b.things.length y1, .slice x2 b.batches.length y2], .string (S s)] w' fun e w2 => BookR w' (leaveB b s).1 (leaveB b s).2 e w2) :=
      fun w' h1 => specLeave_any b s x1 x2 y1 y2 w' h1
    refine (implLeave_any b s _ _ _ _ _ HB.out (HE.out.keep HG.out)).mono ?_
    rintro e w8 ⟨v1', v2', rs', rfl, hE8, hO8⟩
    generalize (leaveB b s).1 = D at *
    generalize (leaveB b s).2 = d at *
    obtain ⟨k1, m1, k2, m2, rfl, rfl, hat8⟩ := hO8.at HBL.out
    have hEx := Ext.tr hE8 (ext_alloc w8 (.cells #[.slice k1 D.things.length m1, .slice k2 D.batches.length m2] 26))
    have HX := hid (hat8.ext (ext_alloc w8 (.cells #[.slice k1 D.things.length m1, .slice k2 D.batches.length m2] 26)))
    have HRx : Hid (Rec (w8.alloc (.cells #[.slice k1 D.things.length m1, .slice k2 D.batches.length m2] 26)) w8.heap.size 26 [.slice k1 D.things.length m1, .slice k2 D.batches.length m2]) := Rec.new w8 _ _
    replace HB := hid (HB.out.ext hEx)
    replace HE := hid (Ext.tr HE.out hEx)
    replace HRb := hid (HRb.out.ext hEx)
    clear p0 p1
    have p0 := HRb.out.cell (i := 0) rfl
    have p1 := HRb.out.cell (i := 1) rfl
    clear hEx hat8 hE8 hO8
    go_wp2_with fail
    clear p0 p1
    generalize w8.alloc (.cells #[.slice k1 D.things.length m1, .slice k2 D.batches.length m2] 26) = we at *
    refine (HSP.out _ HB.out).mono ?_
    rintro e w9 ⟨r1, u1, r2, u2, rfl, hE9, hsp9⟩
    have hEx := Ext.tr hE9 (ext_alloc w9 (.cells #[.slice r1 D.things.length u1, .slice r2 D.batches.length u2] 26))
    have HW := hid (hsp9.ext (ext_alloc w9 (.cells #[.slice r1 D.things.length u1, .slice r2 D.batches.length u2] 26)))
    have HRw : Hid (Rec (w9.alloc (.cells #[.slice r1 D.things.length u1, .slice r2 D.batches.length u2] 26)) w9.heap.size 26 [.slice r1 D.things.length u1, .slice r2 D.batches.length u2]) := Rec.new w9 _ _
    replace HX := hid (HX.out.ext hEx)
    replace HRx := hid (HRx.out.ext hEx)
    replace HB := hid (HB.out.ext hEx)
    replace HE := hid (Ext.tr HE.out hEx)
    replace HRb := hid (HRb.out.ext hEx)
    clear hEx hE9 hsp9 HSP
    go_upto_region 10 with fail
    generalize w9.alloc (.cells #[.slice r1 D.things.length u1, .slice r2 D.batches.length u2] 26) = wf at *
    have hcc : ((d : Int) != (d : Int)) = false := by simp
    go_cut [126] (fun v wx => v = .bool false ∧ Ext wf wx)
    case first =>
      have x0 := HRx.out.cell (i := 0) rfl
      have x1' := HRx.out.cell (i := 1) rfl
      have m0 := HRw.out.cell (i := 0) rfl
      have m1' := HRw.out.cell (i := 1) rfl
      have b0 := HRb.out.cell (i := 0) rfl
      have b1 := HRb.out.cell (i := 1) rfl
      by_cases hc0 : d = 0
      · have HS0 := hid (HF0.out hc0)
        have hlen := HF1.out hc0
        clear HF0 HF1
        subst hc0
        have hq : ((D.batches.length : Int) != (b.batches.length : Int) - 1) = false := by simp; omega
        go_wp2_with fail
        refine (wBook_same D _ _ _ _ _ _ _ _ _ HX.out HW.out).mono ?_
        rintro e w4 ⟨rfl, hE4⟩
        have b0' := hE4.keep b0
        have b1' := hE4.keep b1
        have x1'' := hE4.keep x1'
        go_wp2_with fail
        refine (implSafe_any b _ _ _ _ _ (HB.out.ext hE4)).mono ?_
        rintro e w5 ⟨rfl, hE5'⟩
        have hE5 := Ext.tr hE4 hE5'
        clear x1''
        cases hs : safeB b
        · go_wp2_with fail
          go_meet
          exact ⟨rfl, hE5⟩
        · have x0' := hE5.keep x0
          have x1'' := hE5.keep x1'
          have HSB := hid (HS0.out hs)
          clear hs HS0
          go_wp2_with fail
          refine (implSafe_any D _ _ _ _ _ (HX.out.ext hE5)).mono ?_
          rintro e w6 ⟨rfl, hE6⟩
          rw [HSB.out]
          have hE6' := Ext.tr hE5 hE6
          clear hE6
          go_wp2_with fail
          go_meet
          exact ⟨rfl, hE6'⟩
      · have q0 : ((d : Int) == 0) = false := by simp; omega
        clear HF0 HF1
        go_wp2_with fail
        refine (wBook_same D _ _ _ _ _ _ _ _ _ HX.out HW.out).mono ?_
        rintro e w4 ⟨rfl, hE4⟩
        go_wp2_with fail
        go_meet
        exact ⟨rfl, hE4⟩
    case rest =>
      obtain ⟨rfl, hE7⟩ := hcut
      replace HE := hid (Ext.tr HE.out hE7)
      clear hE7 HX HRx HW HRw HB HRb HF0 HF1 HBL hcc hsm hsl hb7
      go_wp2_with fail
      refine (drawEnter_any a2 n2 c2 _ (h2.ext HE.out) hn2 hc2).mono ?_
      rintro e w11 ⟨p, X1, X2, X3, Y1, Y2, Y3, n, M, rfl, hE11, hb11, hL11, hsm, hnl⟩
      have HB := hid (hb11.ext (ext_alloc w11 (.cells #[.slice X1 p.things.length Y1, .slice X2 p.batches.length Y2] 26)))
      have HL := hid (hL11.ext (ext_alloc w11 (.cells #[.slice X1 p.things.length Y1, .slice X2 p.batches.length Y2] 26)))
      replace HE := hid (Ext.tr HE.out (Ext.tr hE11 (ext_alloc w11 (.cells #[.slice X1 p.things.length Y1, .slice X2 p.batches.length Y2] 26))))
      have HRb : Hid (Rec (w11.alloc (.cells #[.slice X1 p.things.length Y1, .slice X2 p.batches.length Y2] 26)) w11.heap.size 26 [.slice X1 p.things.length Y1, .slice X2 p.batches.length Y2]) := Rec.new w11 _ _
      have hb7 := hsm.2.1
      clear hE11 hb11 hL11
      go_wp2_with fail
      generalize w11.alloc (.cells #[.slice X1 p.things.length Y1, .slice X2 p.batches.length Y2] 26) = wg at *
      have HF0 : Hid ((enterB p n M).2 = 0 → safeB (enterB p n M).1 = safeB p) := fun h0 => enter_safe h0
      have HF1 : Hid ((enterB p n M).2 = 0 → (enterB p n M).1.batches.length = p.batches.length + 1) := fun h0 => enter_len h0
      have HF2 : Hid ((enterB p n M).2 ≠ 0 → (enterB p n M).2 ≠ 1 → (enterB p n M).1 = p) := fun h0 h1 => enter_same h0 h1
      have HBL : Hid ((enterB p n M).1.batches.length ≤ 2199023255552) := out_blen (enter_book p n M) hb7 (fun h0 => by
        have h3 := enter_len h0
        have h4 := enter_book p n M
        rw [if_pos h0] at h4
        rw [h4]; omega)
      have HSP : Hid (∀ w', BookAt w' X1 X2 p → StrsAt w' X3 M → Calls Tryz.prog 9 #[.agg #[.slice X1 p.things.length Y1, .slice X2 p.batches.length Y2], .string (S n), .slice X3 M.length Y3] w' fun e w2 => BookR w' (enterB p n M).1 (enterB p n M).2 e w2) :=
        fun w' h1 h2 => specEnter_any p n M X1 X2 X3 Y1 Y2 Y3 w' h1 hnl h2
      refine (implEnter_any p n M _ _ _ _ _ _ _ HB.out HL.out hnl (HE.out.keep HG.out)).mono ?_
      rintro e w12 ⟨v1'', v2'', rs'', rfl, hE12, hO12⟩
      generalize (enterB p n M).1 = Z at *
      generalize (enterB p n M).2 = f at *
      obtain ⟨k1, m1, k2, m2, rfl, rfl, hat12⟩ := hO12.at HBL.out
      have hEx := Ext.tr hE12 (ext_alloc w12 (.cells #[.slice k1 Z.things.length m1, .slice k2 Z.batches.length m2] 26))
      have HX := hid (hat12.ext (ext_alloc w12 (.cells #[.slice k1 Z.things.length m1, .slice k2 Z.batches.length m2] 26)))
      have HRx : Hid (Rec (w12.alloc (.cells #[.slice k1 Z.things.length m1, .slice k2 Z.batches.length m2] 26)) w12.heap.size 26 [.slice k1 Z.things.length m1, .slice k2 Z.batches.length m2]) := Rec.new w12 _ _
      replace HB := hid (HB.out.ext hEx)
      replace HL := hid (HL.out.ext hEx)
      replace HE := hid (Ext.tr HE.out hEx)
      replace HRb := hid (HRb.out.ext hEx)
      have p0 := HRb.out.cell (i := 0) rfl
      have p1 := HRb.out.cell (i := 1) rfl
      clear hEx hat12 hE12 hO12
      go_wp2_with fail
      clear p0 p1
      generalize w12.alloc (.cells #[.slice k1 Z.things.length m1, .slice k2 Z.batches.length m2] 26) = wh at *
      refine (HSP.out _ HB.out HL.out).mono ?_
      rintro e w13 ⟨r1, u1, r2, u2, rfl, hE13, hsp13⟩
      have hEx := Ext.tr hE13 (ext_alloc w13 (.cells #[.slice r1 Z.things.length u1, .slice r2 Z.batches.length u2] 26))
      have HW := hid (hsp13.ext (ext_alloc w13 (.cells #[.slice r1 Z.things.length u1, .slice r2 Z.batches.length u2] 26)))
      have HRw : Hid (Rec (w13.alloc (.cells #[.slice r1 Z.things.length u1, .slice r2 Z.batches.length u2] 26)) w13.heap.size 26 [.slice r1 Z.things.length u1, .slice r2 Z.batches.length u2]) := Rec.new w13 _ _
      replace HX := hid (HX.out.ext hEx)
      replace HRx := hid (HRx.out.ext hEx)
      replace HB := hid (HB.out.ext hEx)
      replace HE := hid (Ext.tr HE.out hEx)
      replace HRb := hid (HRb.out.ext hEx)
      clear hEx hE13 hsp13 HSP HL
      go_wp2_with fail
      generalize w13.alloc (.cells #[.slice r1 Z.things.length u1, .slice r2 Z.batches.length u2] 26) = wi at *
      have x0 := HRx.out.cell (i := 0) rfl
      have x1' := HRx.out.cell (i := 1) rfl
      have m0 := HRw.out.cell (i := 0) rfl
      have m1' := HRw.out.cell (i := 1) rfl
      have b0 := HRb.out.cell (i := 0) rfl
      have b1 := HRb.out.cell (i := 1) rfl
      by_cases hf0 : f = 0
      · have HS0 := hid (HF0.out hf0)
        have hlen := hid (HF1.out hf0)
        clear HF0 HF1 HF2
        subst hf0
        refine wp_region_T (fun w' => w'.cell? ⟨w12.heap.size, 0, none⟩ = some (.slice k1 Z.things.length m1) ∧ w'.cell? ⟨w12.heap.size, 1, none⟩ = some (.slice k2 Z.batches.length m2) ∧ w'.cell? ⟨w13.heap.size, 0, none⟩ = some (.slice r1 Z.things.length u1) ∧ w'.cell? ⟨w13.heap.size, 1, none⟩ = some (.slice r2 Z.batches.length u2) ∧ w'.cell? ⟨w11.heap.size, 0, none⟩ = some (.slice X1 p.things.length Y1) ∧ w'.cell? ⟨w11.heap.size, 1, none⟩ = some (.slice X2 p.batches.length Y2)) 38 (by kernel_rfl) ⟨x0, x1', m0, m1', b0, b1⟩ (fun hS => ?_)
        refine wpT_take 0 (v := ?_) rfl rfl (by kernel_rfl) (by kernel_rfl) (by kernel_rfl) (by kernel_rfl) (fun _ _ _ h => h) hS rfl (by intro w0 hw0; (try dsimp only at hw0); go_simp; try rfl) ?_
        try simp only [List.set]
        refine wpT_take 1 (v := ?_) rfl rfl (by kernel_rfl) (by kernel_rfl) (by kernel_rfl) (by kernel_rfl) (fun _ _ _ h => h) hS rfl (by intro w0 hw0; (try dsimp only at hw0); go_simp; try rfl) ?_
        try simp only [List.set]
        refine wpT_take 2 (v := .bool true) rfl rfl (by kernel_rfl) (by kernel_rfl) (by kernel_rfl) (by kernel_rfl) (fun _ _ _ h => h) hS rfl (by intro w0 hw0; (try dsimp only at hw0); go_simp) ?_
        try simp only [List.set]
        refine wpT_take 3 (v := ?_) rfl rfl (by kernel_rfl) (by kernel_rfl) (by kernel_rfl) (by kernel_rfl) (fun _ _ _ h => h) hS rfl (by intro w0 hw0; (try dsimp only at hw0); go_simp; try rfl) ?_
        try simp only [List.set]
        refine wpT_take 4 (v := ?_) rfl rfl (by kernel_rfl) (by kernel_rfl) (by kernel_rfl) (by kernel_rfl) (fun _ _ _ h => h) hS rfl (by intro w0 hw0; (try dsimp only at hw0); go_simp; try rfl) ?_
        try simp only [List.set]
        refine wpT_take 5 (v := ?_) rfl rfl (by kernel_rfl) (by kernel_rfl) (by kernel_rfl) (by kernel_rfl) (fun _ _ _ h => h) hS rfl (by intro w0 hw0; (try dsimp only at hw0); go_simp; try rfl) ?_
        try simp only [List.set]
        refine wpT_one 6 rfl (by kernel_rfl) rfl rfl (fun K hK => ?_)
        go_simp
        refine (wBook_same Z _ _ _ _ _ _ _ _ _ (HX.out.ext (ext_drewN _ 1)) (HW.out.ext (ext_drewN _ 1))).mono ?_
        rintro e w14 ⟨rfl, hE14'⟩
        have hE14 := Ext.tr (ext_drewN wi 1) hE14'
        go_wp2_with fail
        refine hK.out _ _ ⟨hE14.keep x0, hE14.keep x1', hE14.keep m0, hE14.keep m1', hE14.keep b0, hE14.keep b1⟩ (fun hS1 => ?_)
        clear hK hS
        have hS := hS1
        clear hS1
        try clear K
        try simp only [put_some, List.set]
        refine wpT_take 7 (v := ?_) rfl rfl (by kernel_rfl) (by kernel_rfl) (by kernel_rfl) (by kernel_rfl) (fun _ _ _ h => h) hS rfl (by intro w0 hw0; (try dsimp only at hw0); go_simp; try rfl) ?_
        try simp only [List.set]
        refine wpT_take 8 (v := ?_) rfl rfl (by kernel_rfl) (by kernel_rfl) (by kernel_rfl) (by kernel_rfl) (fun _ _ _ h => h) hS rfl (by intro w0 hw0; (try dsimp only at hw0); go_simp; try rfl) ?_
        try simp only [List.set]
        refine wpT_take 9 (v := ?_) rfl rfl (by kernel_rfl) (by kernel_rfl) (by kernel_rfl) (by kernel_rfl) (fun _ _ _ h => h) hS rfl (by intro w0 hw0; (try dsimp only at hw0); go_simp; try rfl) ?_
        try simp only [List.set]
        refine wpT_take 10 (v := .bool false) rfl rfl (by kernel_rfl) (by kernel_rfl) (by kernel_rfl) (by kernel_rfl) (fun _ _ _ h => h) hS rfl (by intro w0 hw0; (try dsimp only at hw0); go_simp) ?_
        try simp only [List.set]
        refine wpT_take 11 (v := ?_) rfl rfl (by kernel_rfl) (by kernel_rfl) (by kernel_rfl) (by kernel_rfl) (fun _ _ _ h => h) hS rfl (by intro w0 hw0; (try dsimp only at hw0); go_simp; try rfl) ?_
        try simp only [List.set]
        refine wpT_take 12 (v := ?_) rfl rfl (by kernel_rfl) (by kernel_rfl) (by kernel_rfl) (by kernel_rfl) (fun _ _ _ h => h) hS rfl (by intro w0 hw0; (try dsimp only at hw0); go_simp; try rfl) ?_
        try simp only [List.set]
        refine wpT_take 14 (v := ?_) rfl rfl (by kernel_rfl) (by kernel_rfl) (by kernel_rfl) (by kernel_rfl) (fun _ _ _ h => h) hS rfl (by intro w0 hw0; (try dsimp only at hw0); go_simp; try rfl) ?_
        try simp only [List.set]
        refine wpT_one 13 rfl (by kernel_rfl) rfl rfl (fun K hK => ?_)
        go_simp
        refine (implSafe_any Z _ _ _ _ _ (HX.out.ext hE14)).mono ?_
        rintro e w15 ⟨rfl, hE15'⟩
        have hE15 := Ext.tr hE14 hE15'
        rw [HS0.out]
        go_wp2_with fail
        refine hK.out _ _ ⟨hE15.keep x0, hE15.keep x1', hE15.keep m0, hE15.keep m1', hE15.keep b0, hE15.keep b1⟩ (fun hS1 => ?_)
        clear hK hS
        have hS := hS1
        clear hS1
        try clear K
        try simp only [put_some, List.set]
        refine wpT_one 15 rfl (by kernel_rfl) rfl rfl (fun K hK => ?_)
        go_simp
        refine (implSafe_any p _ _ _ _ _ (HB.out.ext hE15)).mono ?_
        rintro e w16 ⟨rfl, hE16'⟩
        have hE16 := Ext.tr hE15 hE16'
        go_wp2_with fail
        refine hK.out _ _ ⟨hE16.keep x0, hE16.keep x1', hE16.keep m0, hE16.keep m1', hE16.keep b0, hE16.keep b1⟩ (fun hS1 => ?_)
        clear hK hS
        have hS := hS1
        clear hS1
        try clear K
        try simp only [put_some, List.set]
        generalize safeB p = sp
        refine wpT_take 16 (v := .bool true) rfl rfl (by kernel_rfl) (by kernel_rfl) (by kernel_rfl) (by kernel_rfl) (fun _ _ _ h => h) hS rfl (by intro w0 hw0; (try dsimp only at hw0); go_simp) ?_
        try simp only [List.set]
        refine wpT_take 17 (v := ?_) rfl rfl (by kernel_rfl) (by kernel_rfl) (by kernel_rfl) (by kernel_rfl) (fun _ _ _ h => h) hS rfl (by intro w0 hw0; (try dsimp only at hw0); go_simp; try rfl) ?_
        try simp only [List.set]
        refine wpT_take 18 (v := ?_) rfl rfl (by kernel_rfl) (by kernel_rfl) (by kernel_rfl) (by kernel_rfl) (fun _ _ _ h => h) hS rfl (by intro w0 hw0; (try dsimp only at hw0); go_simp; try rfl) ?_
        try simp only [List.set]
        refine wpT_take 19 (v := ?_) rfl rfl (by kernel_rfl) (by kernel_rfl) (by kernel_rfl) (by kernel_rfl) (fun _ _ _ h => h) hS rfl (by intro w0 hw0; (try dsimp only at hw0); go_simp; try rfl) ?_
        try simp only [List.set]
        refine wpT_take 20 (v := ?_) rfl rfl (by kernel_rfl) (by kernel_rfl) (by kernel_rfl) (by kernel_rfl) (fun _ _ _ h => h) hS rfl (by intro w0 hw0; (try dsimp only at hw0); go_simp; try rfl) ?_
        try simp only [List.set]
        refine wpT_take 21 (v := ?_) rfl rfl (by kernel_rfl) (by kernel_rfl) (by kernel_rfl) (by kernel_rfl) (fun _ _ _ h => h) hS rfl (by intro w0 hw0; (try dsimp only at hw0); go_simp; try rfl) ?_
        try simp only [List.set]
        refine wpT_take 22 (v := ?_) rfl rfl (by kernel_rfl) (by kernel_rfl) (by kernel_rfl) (by kernel_rfl) (fun _ _ _ h => h) hS rfl (by intro w0 hw0; (try dsimp only at hw0); go_simp; try rfl) ?_
        try simp only [List.set]
        refine wpT_take 23 (v := ?_) rfl rfl (by kernel_rfl) (by kernel_rfl) (by kernel_rfl) (by kernel_rfl) (fun _ _ _ h => h) hS rfl (by intro w0 hw0; (try dsimp only at hw0); go_simp; try rfl) ?_
        try simp only [List.set]
        refine wpT_take 24 (v := .int .i64 ((p.batches.length : Int) + 1)) rfl rfl (by kernel_rfl) (by kernel_rfl) (by kernel_rfl) (by kernel_rfl) (fun _ _ _ h => h) hS rfl (by intro w0 hw0; (try dsimp only at hw0); go_simp; exact wrapS (by omega) (by omega)) ?_
        try simp only [List.set]
        refine wpT_take 25 (v := .bool true) rfl rfl (by kernel_rfl) (by kernel_rfl) (by kernel_rfl) (by kernel_rfl) (fun _ _ _ h => h) hS rfl (by intro w0 hw0; (try dsimp only at hw0); go_simp; have := hlen.out; omega) ?_
        try simp only [List.set]
        refine wpT_take 26 (v := ?_) rfl rfl (by kernel_rfl) (by kernel_rfl) (by kernel_rfl) (by kernel_rfl) (fun _ _ _ h => h) hS rfl (by intro w0 hw0; (try dsimp only at hw0); go_simp; try rfl) ?_
        try simp only [List.set]
        refine wpT_take 27 (v := ?_) rfl rfl (by kernel_rfl) (by kernel_rfl) (by kernel_rfl) (by kernel_rfl) (fun _ _ _ h => h) hS rfl (by intro w0 hw0; (try dsimp only at hw0); go_simp; try rfl) ?_
        try simp only [List.set]
        refine wpT_take 28 (v := ?_) rfl rfl (by kernel_rfl) (by kernel_rfl) (by kernel_rfl) (by kernel_rfl) (fun _ _ _ h => h) hS rfl (by intro w0 hw0; (try dsimp only at hw0); go_simp; try rfl) ?_
        try simp only [List.set]
        refine wpT_take 29 (v := ?_) rfl rfl (by kernel_rfl) (by kernel_rfl) (by kernel_rfl) (by kernel_rfl) (fun _ _ _ h => h) hS rfl (by intro w0 hw0; (try dsimp only at hw0); go_simp; try rfl) ?_
        try simp only [List.set]
        refine wpT_take 30 (v := ?_) rfl rfl (by kernel_rfl) (by kernel_rfl) (by kernel_rfl) (by kernel_rfl) (fun _ _ _ h => h) hS rfl (by intro w0 hw0; (try dsimp only at hw0); go_simp; try rfl) ?_
        try simp only [List.set]
        refine wpT_take 31 (v := .bool true) rfl rfl (by kernel_rfl) (by kernel_rfl) (by kernel_rfl) (by kernel_rfl) (fun _ _ _ h => h) hS rfl (by intro w0 hw0; (try dsimp only at hw0); go_simp) ?_
        try simp only [List.set]
        refine wpT_take 32 (v := ?_) rfl rfl (by kernel_rfl) (by kernel_rfl) (by kernel_rfl) (by kernel_rfl) (fun _ _ _ h => h) hS rfl (by intro w0 hw0; (try dsimp only at hw0); go_simp; try rfl) ?_
        try simp only [List.set]
        refine wpT_skip 33 rfl rfl (by kernel_rfl) (by kernel_rfl) (by kernel_rfl) (by kernel_rfl) (fun _ _ _ h => h) hS rfl ?_
        try simp only [List.set]
        refine wpT_skip 34 rfl rfl (by kernel_rfl) (by kernel_rfl) (by kernel_rfl) (by kernel_rfl) (fun _ _ _ h => h) hS rfl ?_
        try simp only [List.set]
        refine wpT_skip 35 rfl rfl (by kernel_rfl) (by kernel_rfl) (by kernel_rfl) (by kernel_rfl) (fun _ _ _ h => h) hS rfl ?_
        try simp only [List.set]
        refine wpT_take 36 (v := ?_) rfl rfl (by kernel_rfl) (by kernel_rfl) (by kernel_rfl) (by kernel_rfl) (fun _ _ _ h => h) hS rfl (by intro w0 hw0; (try dsimp only at hw0); go_simp; try rfl) ?_
        try simp only [List.set]
        refine wpT_take 37 (v := ?_) rfl rfl (by kernel_rfl) (by kernel_rfl) (by kernel_rfl) (by kernel_rfl) (fun _ _ _ h => h) hS rfl (by intro w0 hw0; (try dsimp only at hw0); go_simp; try rfl) ?_
        try simp only [List.set]
        refine wpT_last rfl (by kernel_rfl) (by kernel_rfl) rfl (fun K hK => ?_)
        go_simp
        refine hK.out _ _ ?_
        clear hK hS
        go_wp2
        go_ret
        exact ⟨rfl, Ext.tr HE.out hE16⟩
      · by_cases hf1 : f = 1
        · clear HF0 HF1 HF2
          subst hf1
          refine wp_region_T (fun w' => w'.cell? ⟨w12.heap.size, 0, none⟩ = some (.slice k1 Z.things.length m1) ∧ w'.cell? ⟨w12.heap.size, 1, none⟩ = some (.slice k2 Z.batches.length m2) ∧ w'.cell? ⟨w13.heap.size, 0, none⟩ = some (.slice r1 Z.things.length u1) ∧ w'.cell? ⟨w13.heap.size, 1, none⟩ = some (.slice r2 Z.batches.length u2) ∧ w'.cell? ⟨w11.heap.size, 0, none⟩ = some (.slice X1 p.things.length Y1) ∧ w'.cell? ⟨w11.heap.size, 1, none⟩ = some (.slice X2 p.batches.length Y2)) 38 (by kernel_rfl) ⟨x0, x1', m0, m1', b0, b1⟩ (fun hS => ?_)
          refine wpT_take 0 (v := ?_) rfl rfl (by kernel_rfl) (by kernel_rfl) (by kernel_rfl) (by kernel_rfl) (fun _ _ _ h => h) hS rfl (by intro w0 hw0; (try dsimp only at hw0); go_simp; try rfl) ?_
          try simp only [List.set]
          refine wpT_take 1 (v := ?_) rfl rfl (by kernel_rfl) (by kernel_rfl) (by kernel_rfl) (by kernel_rfl) (fun _ _ _ h => h) hS rfl (by intro w0 hw0; (try dsimp only at hw0); go_simp; try rfl) ?_
          try simp only [List.set]
          refine wpT_take 2 (v := .bool true) rfl rfl (by kernel_rfl) (by kernel_rfl) (by kernel_rfl) (by kernel_rfl) (fun _ _ _ h => h) hS rfl (by intro w0 hw0; (try dsimp only at hw0); go_simp) ?_
          try simp only [List.set]
          refine wpT_take 3 (v := ?_) rfl rfl (by kernel_rfl) (by kernel_rfl) (by kernel_rfl) (by kernel_rfl) (fun _ _ _ h => h) hS rfl (by intro w0 hw0; (try dsimp only at hw0); go_simp; try rfl) ?_
          try simp only [List.set]
          refine wpT_take 4 (v := ?_) rfl rfl (by kernel_rfl) (by kernel_rfl) (by kernel_rfl) (by kernel_rfl) (fun _ _ _ h => h) hS rfl (by intro w0 hw0; (try dsimp only at hw0); go_simp; try rfl) ?_
          try simp only [List.set]
          refine wpT_take 5 (v := ?_) rfl rfl (by kernel_rfl) (by kernel_rfl) (by kernel_rfl) (by kernel_rfl) (fun _ _ _ h => h) hS rfl (by intro w0 hw0; (try dsimp only at hw0); go_simp; try rfl) ?_
          try simp only [List.set]
          refine wpT_one 6 rfl (by kernel_rfl) rfl rfl (fun K hK => ?_)
          go_simp
          refine (wBook_same Z _ _ _ _ _ _ _ _ _ (HX.out.ext (ext_drewN _ 1)) (HW.out.ext (ext_drewN _ 1))).mono ?_
          rintro e w14 ⟨rfl, hE14'⟩
          have hE14 := Ext.tr (ext_drewN wi 1) hE14'
          go_wp2_with fail
          refine hK.out _ _ ⟨hE14.keep x0, hE14.keep x1', hE14.keep m0, hE14.keep m1', hE14.keep b0, hE14.keep b1⟩ (fun hS1 => ?_)
          clear hK hS
          have hS := hS1
          clear hS1
          try clear K
          try simp only [put_some, List.set]
          refine wpT_take 7 (v := ?_) rfl rfl (by kernel_rfl) (by kernel_rfl) (by kernel_rfl) (by kernel_rfl) (fun _ _ _ h => h) hS rfl (by intro w0 hw0; (try dsimp only at hw0); go_simp; try rfl) ?_
          try simp only [List.set]
          refine wpT_take 8 (v := ?_) rfl rfl (by kernel_rfl) (by kernel_rfl) (by kernel_rfl) (by kernel_rfl) (fun _ _ _ h => h) hS rfl (by intro w0 hw0; (try dsimp only at hw0); go_simp; try rfl) ?_
          try simp only [List.set]
          refine wpT_take 9 (v := ?_) rfl rfl (by kernel_rfl) (by kernel_rfl) (by kernel_rfl) (by kernel_rfl) (fun _ _ _ h => h) hS rfl (by intro w0 hw0; (try dsimp only at hw0); go_simp; try rfl) ?_
          try simp only [List.set]
          refine wpT_take 10 (v := .bool true) rfl rfl (by kernel_rfl) (by kernel_rfl) (by kernel_rfl) (by kernel_rfl) (fun _ _ _ h => h) hS rfl (by intro w0 hw0; (try dsimp only at hw0); go_simp) ?_
          try simp only [List.set]
          refine wpT_take 11 (v := ?_) rfl rfl (by kernel_rfl) (by kernel_rfl) (by kernel_rfl) (by kernel_rfl) (fun _ _ _ h => h) hS rfl (by intro w0 hw0; (try dsimp only at hw0); go_simp; try rfl) ?_
          try simp only [List.set]
          refine wpT_skip 12 rfl rfl (by kernel_rfl) (by kernel_rfl) (by kernel_rfl) (by kernel_rfl) (fun _ _ _ h => h) hS rfl ?_
          try simp only [List.set]
          refine wpT_skip 13 rfl rfl (by kernel_rfl) (by kernel_rfl) (by kernel_rfl) (by kernel_rfl) (fun _ _ _ h => h) hS rfl ?_
          try simp only [List.set]
          refine wpT_skip 14 rfl rfl (by kernel_rfl) (by kernel_rfl) (by kernel_rfl) (by kernel_rfl) (fun _ _ _ h => h) hS rfl ?_
          try simp only [List.set]
          refine wpT_skip 15 rfl rfl (by kernel_rfl) (by kernel_rfl) (by kernel_rfl) (by kernel_rfl) (fun _ _ _ h => h) hS rfl ?_
          try simp only [List.set]
          refine wpT_skip 16 rfl rfl (by kernel_rfl) (by kernel_rfl) (by kernel_rfl) (by kernel_rfl) (fun _ _ _ h => h) hS rfl ?_
          try simp only [List.set]
          refine wpT_skip 17 rfl rfl (by kernel_rfl) (by kernel_rfl) (by kernel_rfl) (by kernel_rfl) (fun _ _ _ h => h) hS rfl ?_
          try simp only [List.set]
          refine wpT_skip 18 rfl rfl (by kernel_rfl) (by kernel_rfl) (by kernel_rfl) (by kernel_rfl) (fun _ _ _ h => h) hS rfl ?_
          try simp only [List.set]
          refine wpT_skip 19 rfl rfl (by kernel_rfl) (by kernel_rfl) (by kernel_rfl) (by kernel_rfl) (fun _ _ _ h => h) hS rfl ?_
          try simp only [List.set]
          refine wpT_skip 20 rfl rfl (by kernel_rfl) (by kernel_rfl) (by kernel_rfl) (by kernel_rfl) (fun _ _ _ h => h) hS rfl ?_
          try simp only [List.set]
          refine wpT_skip 21 rfl rfl (by kernel_rfl) (by kernel_rfl) (by kernel_rfl) (by kernel_rfl) (fun _ _ _ h => h) hS rfl ?_
          try simp only [List.set]
          refine wpT_skip 22 rfl rfl (by kernel_rfl) (by kernel_rfl) (by kernel_rfl) (by kernel_rfl) (fun _ _ _ h => h) hS rfl ?_
          try simp only [List.set]
          refine wpT_skip 23 rfl rfl (by kernel_rfl) (by kernel_rfl) (by kernel_rfl) (by kernel_rfl) (fun _ _ _ h => h) hS rfl ?_
          try simp only [List.set]
          refine wpT_skip 24 rfl rfl (by kernel_rfl) (by kernel_rfl) (by kernel_rfl) (by kernel_rfl) (fun _ _ _ h => h) hS rfl ?_
          try simp only [List.set]
          refine wpT_skip 25 rfl rfl (by kernel_rfl) (by kernel_rfl) (by kernel_rfl) (by kernel_rfl) (fun _ _ _ h => h) hS rfl ?_
          try simp only [List.set]
          refine wpT_skip 26 rfl rfl (by kernel_rfl) (by kernel_rfl) (by kernel_rfl) (by kernel_rfl) (fun _ _ _ h => h) hS rfl ?_
          try simp only [List.set]
          refine wpT_take 27 (v := ?_) rfl rfl (by kernel_rfl) (by kernel_rfl) (by kernel_rfl) (by kernel_rfl) (fun _ _ _ h => h) hS rfl (by intro w0 hw0; (try dsimp only at hw0); go_simp; try rfl) ?_
          try simp only [List.set]
          refine wpT_take 28 (v := ?_) rfl rfl (by kernel_rfl) (by kernel_rfl) (by kernel_rfl) (by kernel_rfl) (fun _ _ _ h => h) hS rfl (by intro w0 hw0; (try dsimp only at hw0); go_simp; try rfl) ?_
          try simp only [List.set]
          refine wpT_take 29 (v := ?_) rfl rfl (by kernel_rfl) (by kernel_rfl) (by kernel_rfl) (by kernel_rfl) (fun _ _ _ h => h) hS rfl (by intro w0 hw0; (try dsimp only at hw0); go_simp; try rfl) ?_
          try simp only [List.set]
          refine wpT_take 30 (v := ?_) rfl rfl (by kernel_rfl) (by kernel_rfl) (by kernel_rfl) (by kernel_rfl) (fun _ _ _ h => h) hS rfl (by intro w0 hw0; (try dsimp only at hw0); go_simp; try rfl) ?_
          try simp only [List.set]
          refine wpT_take 31 (v := .bool true) rfl rfl (by kernel_rfl) (by kernel_rfl) (by kernel_rfl) (by kernel_rfl) (fun _ _ _ h => h) hS rfl (by intro w0 hw0; (try dsimp only at hw0); go_simp) ?_
          try simp only [List.set]
          refine wpT_take 32 (v := ?_) rfl rfl (by kernel_rfl) (by kernel_rfl) (by kernel_rfl) (by kernel_rfl) (fun _ _ _ h => h) hS rfl (by intro w0 hw0; (try dsimp only at hw0); go_simp; try rfl) ?_
          try simp only [List.set]
          refine wpT_skip 33 rfl rfl (by kernel_rfl) (by kernel_rfl) (by kernel_rfl) (by kernel_rfl) (fun _ _ _ h => h) hS rfl ?_
          try simp only [List.set]
          refine wpT_skip 34 rfl rfl (by kernel_rfl) (by kernel_rfl) (by kernel_rfl) (by kernel_rfl) (fun _ _ _ h => h) hS rfl ?_
          try simp only [List.set]
          refine wpT_skip 35 rfl rfl (by kernel_rfl) (by kernel_rfl) (by kernel_rfl) (by kernel_rfl) (fun _ _ _ h => h) hS rfl ?_
          try simp only [List.set]
          refine wpT_take 36 (v := ?_) rfl rfl (by kernel_rfl) (by kernel_rfl) (by kernel_rfl) (by kernel_rfl) (fun _ _ _ h => h) hS rfl (by intro w0 hw0; (try dsimp only at hw0); go_simp; try rfl) ?_
          try simp only [List.set]
          refine wpT_take 37 (v := ?_) rfl rfl (by kernel_rfl) (by kernel_rfl) (by kernel_rfl) (by kernel_rfl) (fun _ _ _ h => h) hS rfl (by intro w0 hw0; (try dsimp only at hw0); go_simp; try rfl) ?_
          try simp only [List.set]
          refine wpT_last rfl (by kernel_rfl) (by kernel_rfl) rfl (fun K hK => ?_)
          go_simp
          refine hK.out _ _ ?_
          clear hK hS
          go_wp2
          go_ret
          exact ⟨rfl, Ext.tr HE.out hE14⟩
        · have hZp := HF2.out hf0 hf1
          clear HF0 HF1 HF2
          subst hZp
          have q0 : ¬ ((f : Int) = 0) := by omega
          have q0' : ((f : Int) != 0) = true := by simp; omega
          have q2 : ¬ ((f : Int) < 2) := by omega
          refine wp_region_T (fun w' => w'.cell? ⟨w12.heap.size, 0, none⟩ = some (.slice k1 Z.things.length m1) ∧ w'.cell? ⟨w12.heap.size, 1, none⟩ = some (.slice k2 Z.batches.length m2) ∧ w'.cell? ⟨w13.heap.size, 0, none⟩ = some (.slice r1 Z.things.length u1) ∧ w'.cell? ⟨w13.heap.size, 1, none⟩ = some (.slice r2 Z.batches.length u2) ∧ w'.cell? ⟨w11.heap.size, 0, none⟩ = some (.slice X1 Z.things.length Y1) ∧ w'.cell? ⟨w11.heap.size, 1, none⟩ = some (.slice X2 Z.batches.length Y2)) 38 (by kernel_rfl) ⟨x0, x1', m0, m1', b0, b1⟩ (fun hS => ?_)
          refine wpT_take 0 (v := ?_) rfl rfl (by kernel_rfl) (by kernel_rfl) (by kernel_rfl) (by kernel_rfl) (fun _ _ _ h => h) hS rfl (by intro w0 hw0; (try dsimp only at hw0); go_simp; try rfl) ?_
          try simp only [List.set]
          refine wpT_take 1 (v := ?_) rfl rfl (by kernel_rfl) (by kernel_rfl) (by kernel_rfl) (by kernel_rfl) (fun _ _ _ h => h) hS rfl (by intro w0 hw0; (try dsimp only at hw0); go_simp; try rfl) ?_
          try simp only [List.set]
          refine wpT_take 2 (v := .bool true) rfl rfl (by kernel_rfl) (by kernel_rfl) (by kernel_rfl) (by kernel_rfl) (fun _ _ _ h => h) hS rfl (by intro w0 hw0; (try dsimp only at hw0); go_simp) ?_
          try simp only [List.set]
          refine wpT_take 3 (v := ?_) rfl rfl (by kernel_rfl) (by kernel_rfl) (by kernel_rfl) (by kernel_rfl) (fun _ _ _ h => h) hS rfl (by intro w0 hw0; (try dsimp only at hw0); go_simp; try rfl) ?_
          try simp only [List.set]
          refine wpT_take 4 (v := ?_) rfl rfl (by kernel_rfl) (by kernel_rfl) (by kernel_rfl) (by kernel_rfl) (fun _ _ _ h => h) hS rfl (by intro w0 hw0; (try dsimp only at hw0); go_simp; try rfl) ?_
          try simp only [List.set]
          refine wpT_take 5 (v := ?_) rfl rfl (by kernel_rfl) (by kernel_rfl) (by kernel_rfl) (by kernel_rfl) (fun _ _ _ h => h) hS rfl (by intro w0 hw0; (try dsimp only at hw0); go_simp; try rfl) ?_
          try simp only [List.set]
          refine wpT_one 6 rfl (by kernel_rfl) rfl rfl (fun K hK => ?_)
          go_simp
          refine (wBook_same Z _ _ _ _ _ _ _ _ _ (HX.out.ext (ext_drewN _ 1)) (HW.out.ext (ext_drewN _ 1))).mono ?_
          rintro e w14 ⟨rfl, hE14'⟩
          have hE14 := Ext.tr (ext_drewN wi 1) hE14'
          go_wp2_with fail
          refine hK.out _ _ ⟨hE14.keep x0, hE14.keep x1', hE14.keep m0, hE14.keep m1', hE14.keep b0, hE14.keep b1⟩ (fun hS1 => ?_)
          clear hK hS
          have hS := hS1
          clear hS1
          try clear K
          try simp only [put_some, List.set]
          refine wpT_take 7 (v := ?_) rfl rfl (by kernel_rfl) (by kernel_rfl) (by kernel_rfl) (by kernel_rfl) (fun _ _ _ h => h) hS rfl (by intro w0 hw0; (try dsimp only at hw0); go_simp; try rfl) ?_
          try simp only [List.set]
          refine wpT_take 8 (v := ?_) rfl rfl (by kernel_rfl) (by kernel_rfl) (by kernel_rfl) (by kernel_rfl) (fun _ _ _ h => h) hS rfl (by intro w0 hw0; (try dsimp only at hw0); go_simp; try rfl) ?_
          try simp only [List.set]
          refine wpT_take 9 (v := ?_) rfl rfl (by kernel_rfl) (by kernel_rfl) (by kernel_rfl) (by kernel_rfl) (fun _ _ _ h => h) hS rfl (by intro w0 hw0; (try dsimp only at hw0); go_simp; try rfl) ?_
          try simp only [List.set]
          refine wpT_take 10 (v := .bool true) rfl rfl (by kernel_rfl) (by kernel_rfl) (by kernel_rfl) (by kernel_rfl) (fun _ _ _ h => h) hS rfl (by intro w0 hw0; (try dsimp only at hw0); go_simp; (try omega)) ?_
          try simp only [List.set]
          refine wpT_take 11 (v := ?_) rfl rfl (by kernel_rfl) (by kernel_rfl) (by kernel_rfl) (by kernel_rfl) (fun _ _ _ h => h) hS rfl (by intro w0 hw0; (try dsimp only at hw0); go_simp; try rfl) ?_
          try simp only [List.set]
          refine wpT_skip 12 rfl rfl (by kernel_rfl) (by kernel_rfl) (by kernel_rfl) (by kernel_rfl) (fun _ _ _ h => h) hS rfl ?_
          try simp only [List.set]
          refine wpT_skip 13 rfl rfl (by kernel_rfl) (by kernel_rfl) (by kernel_rfl) (by kernel_rfl) (fun _ _ _ h => h) hS rfl ?_
          try simp only [List.set]
          refine wpT_skip 14 rfl rfl (by kernel_rfl) (by kernel_rfl) (by kernel_rfl) (by kernel_rfl) (fun _ _ _ h => h) hS rfl ?_
          try simp only [List.set]
          refine wpT_skip 15 rfl rfl (by kernel_rfl) (by kernel_rfl) (by kernel_rfl) (by kernel_rfl) (fun _ _ _ h => h) hS rfl ?_
          try simp only [List.set]
          refine wpT_skip 16 rfl rfl (by kernel_rfl) (by kernel_rfl) (by kernel_rfl) (by kernel_rfl) (fun _ _ _ h => h) hS rfl ?_
          try simp only [List.set]
          refine wpT_skip 17 rfl rfl (by kernel_rfl) (by kernel_rfl) (by kernel_rfl) (by kernel_rfl) (fun _ _ _ h => h) hS rfl ?_
          try simp only [List.set]
          refine wpT_skip 18 rfl rfl (by kernel_rfl) (by kernel_rfl) (by kernel_rfl) (by kernel_rfl) (fun _ _ _ h => h) hS rfl ?_
          try simp only [List.set]
          refine wpT_skip 19 rfl rfl (by kernel_rfl) (by kernel_rfl) (by kernel_rfl) (by kernel_rfl) (fun _ _ _ h => h) hS rfl ?_
          try simp only [List.set]
          refine wpT_skip 20 rfl rfl (by kernel_rfl) (by kernel_rfl) (by kernel_rfl) (by kernel_rfl) (fun _ _ _ h => h) hS rfl ?_
          try simp only [List.set]
          refine wpT_skip 21 rfl rfl (by kernel_rfl) (by kernel_rfl) (by kernel_rfl) (by kernel_rfl) (fun _ _ _ h => h) hS rfl ?_
          try simp only [List.set]
          refine wpT_skip 22 rfl rfl (by kernel_rfl) (by kernel_rfl) (by kernel_rfl) (by kernel_rfl) (fun _ _ _ h => h) hS rfl ?_
          try simp only [List.set]
          refine wpT_skip 23 rfl rfl (by kernel_rfl) (by kernel_rfl) (by kernel_rfl) (by kernel_rfl) (fun _ _ _ h => h) hS rfl ?_
          try simp only [List.set]
          refine wpT_skip 24 rfl rfl (by kernel_rfl) (by kernel_rfl) (by kernel_rfl) (by kernel_rfl) (fun _ _ _ h => h) hS rfl ?_
          try simp only [List.set]
          refine wpT_skip 25 rfl rfl (by kernel_rfl) (by kernel_rfl) (by kernel_rfl) (by kernel_rfl) (fun _ _ _ h => h) hS rfl ?_
          try simp only [List.set]
          refine wpT_skip 26 rfl rfl (by kernel_rfl) (by kernel_rfl) (by kernel_rfl) (by kernel_rfl) (fun _ _ _ h => h) hS rfl ?_
          try simp only [List.set]
          refine wpT_take 27 (v := ?_) rfl rfl (by kernel_rfl) (by kernel_rfl) (by kernel_rfl) (by kernel_rfl) (fun _ _ _ h => h) hS rfl (by intro w0 hw0; (try dsimp only at hw0); go_simp; try rfl) ?_
          try simp only [List.set]
          refine wpT_take 28 (v := ?_) rfl rfl (by kernel_rfl) (by kernel_rfl) (by kernel_rfl) (by kernel_rfl) (fun _ _ _ h => h) hS rfl (by intro w0 hw0; (try dsimp only at hw0); go_simp; try rfl) ?_
          try simp only [List.set]
          refine wpT_take 29 (v := ?_) rfl rfl (by kernel_rfl) (by kernel_rfl) (by kernel_rfl) (by kernel_rfl) (fun _ _ _ h => h) hS rfl (by intro w0 hw0; (try dsimp only at hw0); go_simp; try rfl) ?_
          try simp only [List.set]
          refine wpT_take 30 (v := ?_) rfl rfl (by kernel_rfl) (by kernel_rfl) (by kernel_rfl) (by kernel_rfl) (fun _ _ _ h => h) hS rfl (by intro w0 hw0; (try dsimp only at hw0); go_simp; try rfl) ?_
          try simp only [List.set]
          refine wpT_take 31 (v := .bool false) rfl rfl (by kernel_rfl) (by kernel_rfl) (by kernel_rfl) (by kernel_rfl) (fun _ _ _ h => h) hS rfl (by intro w0 hw0; (try dsimp only at hw0); go_simp; (try omega)) ?_
          try simp only [List.set]
          refine wpT_take 32 (v := ?_) rfl rfl (by kernel_rfl) (by kernel_rfl) (by kernel_rfl) (by kernel_rfl) (fun _ _ _ h => h) hS rfl (by intro w0 hw0; (try dsimp only at hw0); go_simp; try rfl) ?_
          try simp only [List.set]
          refine wpT_take 33 (v := ?_) rfl rfl (by kernel_rfl) (by kernel_rfl) (by kernel_rfl) (by kernel_rfl) (fun _ _ _ h => h) hS rfl (by intro w0 hw0; (try dsimp only at hw0); go_simp; try rfl) ?_
          try simp only [List.set]
          refine wpT_take 34 (v := ?_) rfl rfl (by kernel_rfl) (by kernel_rfl) (by kernel_rfl) (by kernel_rfl) (fun _ _ _ h => h) hS rfl (by intro w0 hw0; (try dsimp only at hw0); go_simp; try rfl) ?_
          try simp only [List.set]
          refine wpT_one 35 rfl (by kernel_rfl) rfl rfl (fun K hK => ?_)
          go_simp
          refine (wBook_same Z _ _ _ _ _ _ _ _ _ (HX.out.ext hE14) (HB.out.ext hE14)).mono ?_
          rintro e w15 ⟨rfl, hE15'⟩
          have hE15 := Ext.tr hE14 hE15'
          go_wp2_with fail
          refine hK.out _ _ ⟨hE15.keep x0, hE15.keep x1', hE15.keep m0, hE15.keep m1', hE15.keep b0, hE15.keep b1⟩ (fun hS1 => ?_)
          clear hK hS
          have hS := hS1
          clear hS1
          try clear K
          try simp only [put_some, List.set]
          refine wpT_take 36 (v := ?_) rfl rfl (by kernel_rfl) (by kernel_rfl) (by kernel_rfl) (by kernel_rfl) (fun _ _ _ h => h) hS rfl (by intro w0 hw0; (try dsimp only at hw0); go_simp; try rfl) ?_
          try simp only [List.set]
          refine wpT_take 37 (v := ?_) rfl rfl (by kernel_rfl) (by kernel_rfl) (by kernel_rfl) (by kernel_rfl) (fun _ _ _ h => h) hS rfl (by intro w0 hw0; (try dsimp only at hw0); go_simp; try rfl) ?_
          try simp only [List.set]
          refine wpT_last rfl (by kernel_rfl) (by kernel_rfl) rfl (fun K hK => ?_)
          go_simp
          refine hK.out _ _ ?_
          clear hK hS
          go_wp2
          go_ret
          exact ⟨rfl, Ext.tr HE.out hE15⟩
end Go.Proofs.YtdafpnpfcmgfcaaGreatDoor
