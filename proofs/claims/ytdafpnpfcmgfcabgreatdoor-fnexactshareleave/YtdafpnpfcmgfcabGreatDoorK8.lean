/- What is held of the marks of a book. -/
import Derived.Test.YtdafpnpfcmgfcabGreatDoorK7
namespace Go.Proofs.YtdafpnpfcmgfcabGreatDoor
open Go.RowKit
attribute [local go_sem] S_toList S_size S_get

set_option maxRecDepth 100000 in
set_option maxHeartbeats 1000000 in
theorem heldBs_any (a : Option Addr) (ca k : Nat) (bs : List Batch) (w : World) (h : BatchesAt w a (markTo bs k bs.length)) (hk : 1 ≤ k) (hb : k + bs.length + cntTo bs bs.length ≤ 1000000000) :
    Calls Tryz.prog 35 #[.slice a bs.length ca, .int .i64 (k : Int)] w fun e w' =>
      e = .returned (.int .i64 ((k + bs.length + cntTo bs bs.length : Nat) : Int)) ∧ Ext w w' := by
  have hmono : ∀ n m, n ≤ m → cntTo bs n ≤ cntTo bs m := by
    intro n m hnm
    induction hnm with
    | refl => exact Nat.le_refl _
    | step _ ih => exact Nat.le_trans ih (Nat.le_add_right _ _)
  have HMO := hid hmono
  have HH := hid h
  clear hmono h
  go_enter Tryz.func35, Tryz.ntmps35
  go_wp2_with fail
  go_loopw [1, 5] (fun ki i wr => ∃ m : Nat, m ≤ bs.length ∧ i = .int .i64 m ∧ ki = .int .i64 ((k + m + cntTo bs m : Nat) : Int) ∧ Ext w wr) (fun _ i _ => bs.length - (intOf i).toNat)
  case atStart => exact ⟨0, Nat.zero_le _, rfl, by simp [cntTo], Ext.rfl' _⟩
  case round =>
    obtain ⟨m, hm, rfl, rfl, hext⟩ := hrel
    have HE := hid hext
    clear hext
    by_cases hlt : m < bs.length
    · have hle := HMO.out (m + 1) bs.length hlt
      have hst : cntTo bs (m + 1) = cntTo bs m + ((nthB bs m).has.length + (nthB bs m).needs.length) := rfl
      have HST := hid hst
      rw [hst] at hle
      clear hst
      have h' := HH.out.ext HE.out
      obtain ⟨bo, oo, rfl, hl, a1, c1, a2, c2, p0, p1, p2, s1, s2⟩ := h'.2 m (by rw [markTo_length]; exact hlt)
      rw [nthB_markTo hlt, if_pos hlt] at p0 p1 p2 s1 s2
      unfold markB at p0 p1 p2 s1 s2
      simp only [marksOf_length] at p0 p1 p2 s1 s2
      generalize nthB bs m = x at *
      generalize cntTo bs m = cm at *
      have h1k : 1 ≤ k + m + cm := by omega
      have hsum : (k + m + cm) + 1 + x.has.length + x.needs.length ≤ 1000000000 := by omega
      have HK : Hid (k + (m + 1) + cntTo bs (m + 1) = (k + m + cm) + 1 + x.has.length + x.needs.length) := by
        show _ = _
        rw [HST.out]; omega
      generalize k + m + cm = kk at *
      have HS1 := hid s1
      have HS2 := hid s2
      clear HST hle h' hl s1 s2
      have HMT : Hid (∀ w, Calls Tryz.prog 33 #[.int .i64 (kk : Int)] w fun e w' => e = .returned (.string (S (markT kk))) ∧ Ext w w') := fun w => markText_any kk w (by omega) (by omega)
      have hne : Nonempty (Grow wr) := ⟨⟨wr, Ext.rfl' wr⟩⟩
      have gc := fun x : Grow wr => x.cell p0
      generalize markT kk = t at p0 gc HMT
      have hq : (t == t) = true := by simp
      go_wp2_with fail
      refine wp_region_grow (by kernel_rfl) (by kernel_rfl) ?_
      repeat (go_big_quiet_step ((go_at_call 33; exact grow_of (HMT.out _))))
      refine wpQuiet_nil ?_
      intro _ hw'
      obtain ⟨x3, hw''⟩ := hw'
      subst hw''
      have q1 := x3.e.keep p1
      have q2 := x3.e.keep p2
      have HS1' := hid (HS1.out.ext x3.e)
      have HS2' := hid (HS2.out.ext x3.e)
      have HE1 := hid (Ext.tr HE.out x3.e)
      clear gc p0 p1 p2 hne
      generalize x3.w = w3 at *
      go_wp2_with fail
      have hs1 : (marksOf (kk + 1) x.has.length).length = x.has.length := marksOf_length _ _
      have hc1 := heldStringS_any a1 c1 (kk + 1) (marksOf (kk + 1) x.has.length) w3 HS1'.out (fun i hi => nth_marksOf (by rw [hs1] at hi; exact hi)) (by omega) (by rw [hs1]; omega)
      rw [hs1] at hc1
      refine hc1.mono ?_
      rintro e w4 ⟨rfl, hE4⟩
      replace q2 := hE4.keep q2
      have HS2'' := hid (HS2'.out.ext hE4)
      have HE2 := hid (Ext.tr HE1.out hE4)
      have hng : ¬ (((kk + 1 + x.has.length : Nat) : Int) < 0) := by omega
      clear hc1 hE4 q1 hs1
      go_wp2_with fail
      have hs2 : (marksOf (kk + 1 + x.has.length) x.needs.length).length = x.needs.length := marksOf_length _ _
      have hc2 := heldStringS_any a2 c2 (kk + 1 + x.has.length) (marksOf (kk + 1 + x.has.length) x.needs.length) w4 HS2''.out (fun i hi => nth_marksOf (by rw [hs2] at hi; exact hi)) (by omega) (by rw [hs2]; omega)
      rw [hs2] at hc2
      refine hc2.mono ?_
      rintro e w5 ⟨rfl, hE5⟩
      have HE3 := hid (Ext.tr HE2.out hE5)
      have hng2 : ¬ (((kk + 1 + x.has.length + x.needs.length : Nat) : Int) < 0) := by omega
      clear hc2 hE5 q2 hs2
      go_wp2_with fail
      go_roundw
      case rel => exact ⟨m + 1, by omega, by go_num, by rw [HK.out]; go_num, HE3.out⟩
      case measure => simp [intOf]; omega
    · have e : m = bs.length := by omega
      rw [e]
      go_wp2_with fail
      go_ret
      exact ⟨rfl, HE.out⟩

set_option maxHeartbeats 1000000 in
theorem heldBook_any (k : Nat) (b : Book) (a1 a2 : Option Addr) (c1 c2 : Nat) (w : World) (h : BookAt w a1 a2 (markBook b k)) (hk : 1 ≤ k) (hb : k + nMarks b ≤ 1000000000) :
    Calls Tryz.prog 16 #[.agg #[.slice a1 b.things.length c1, .slice a2 b.batches.length c2], .int .i64 (k : Int)] w fun e w' =>
      e = .returned (.int .i64 ((k + nMarks b : Nat) : Int)) ∧ Ext w w' := by
  have HK : Hid (nMarks b = b.things.length + (b.batches.length + cntTo b.batches b.batches.length)) := rfl
  rw [HK.out] at hb
  generalize nMarks b = nm at *
  have h1 : StrsAt w a1 (marksOf k b.things.length) := h.1
  have h2 : BatchesAt w a2 (markTo b.batches (k + b.things.length) b.batches.length) := h.2
  clear h
  obtain ⟨T, bs⟩ := b
  simp only at *
  have HS1 := hid (h1.ext (ext_alloc w (.cells #[.slice a1 T.length c1, .slice a2 bs.length c2] 30)))
  have HS2 := hid (h2.ext (ext_alloc w (.cells #[.slice a1 T.length c1, .slice a2 bs.length c2] 30)))
  clear h1 h2
  go_enter Tryz.func16, Tryz.ntmps16
  go_wp2_with fail
  have hs1 : (marksOf k T.length).length = T.length := marksOf_length _ _
  have hc1 := heldStringS_any a1 c1 k (marksOf k T.length) _ HS1.out (fun i hi => nth_marksOf (by rw [hs1] at hi; exact hi)) (by omega) (by rw [hs1]; omega)
  rw [hs1] at hc1
  refine hc1.mono ?_
  rintro e w1 ⟨rfl, hE1⟩
  have HS3 := hid (HS2.out.ext hE1)
  have HE1 : Hid (Ext w w1) := Ext.tr (ext_alloc _ _) hE1
  have x0 := box_cell hE1 (i := 0) rfl
  have x1 := box_cell hE1 (i := 1) rfl
  have hng : ¬ (((k + T.length : Nat) : Int) < 0) := by omega
  clear hc1 hE1 hs1
  go_wp2_with fail
  refine (heldBs_any a2 c2 (k + T.length) bs _ HS3.out (by omega) (by omega)).mono ?_
  rintro e w2 ⟨rfl, hE2⟩
  have HE2 := hid (Ext.tr HE1.out hE2)
  have hng2 : ¬ (((k + T.length + bs.length + cntTo bs bs.length : Nat) : Int) < 0) := by omega
  clear hE2
  generalize cntTo bs bs.length = cm at *
  go_wp2_with fail
  go_ret
  refine ⟨?_, HE2.out⟩
  rw [HK.out]
  show Ending.returned (.int .i64 ((k : Int) + T.length + bs.length + (cm : Nat))) = _
  have e : ((k : Int) + T.length + bs.length + (cm : Nat)) = ((k + (T.length + (bs.length + cm)) : Nat) : Int) := by omega
  rw [e]
end Go.Proofs.YtdafpnpfcmgfcabGreatDoor
