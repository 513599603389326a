/- The four of chapter 3, whole. -/
import Derived.Test.YtdafpnpfcmgfcabGreatDoorE16
namespace Go.Proofs.YtdafpnpfcmgfcabGreatDoor
open Go.RowKit
attribute [local go_sem] S_toList S_size S_get

theorem enter_code (b : Book) (n : Str) (needs : List Str) : (if bookOk b = false then 1 else enterC b n needs) = (enterB b n needs).2 := by
  unfold enterB enterC
  by_cases h : bookOk b = false
  · rw [if_pos h, if_pos h]
  · rw [if_neg h, if_neg h]
    by_cases h2 : nameOk n = false ∨ namesOk needs b.things = false
    · rw [if_pos h2, if_pos h2]
    · rw [if_neg h2, if_neg h2]
      by_cases h3 : hereB b n = true
      · rw [if_pos h3, if_pos h3]
      · rw [if_neg h3, if_neg h3]
        by_cases h4 : 5 ≤ b.batches.length
        · rw [if_pos h4, if_pos h4]
        · rw [if_neg h4, if_neg h4]
theorem enter_book (b : Book) (n : Str) (needs : List Str) : (if (enterB b n needs).2 = 0 then ⟨b.things, insB b.batches ⟨n, [], needs⟩⟩ else if (enterB b n needs).2 = 1 then emptyBook else b) = (enterB b n needs).1 := by
  unfold enterB
  by_cases h : bookOk b = false
  · rw [if_pos h]; rfl
  · rw [if_neg h]
    by_cases h2 : nameOk n = false ∨ namesOk needs b.things = false
    · rw [if_pos h2]; rfl
    · rw [if_neg h2]
      by_cases h3 : hereB b n = true
      · rw [if_pos h3]; rfl
      · rw [if_neg h3]
        by_cases h4 : 5 ≤ b.batches.length
        · rw [if_pos h4]; rfl
        · rw [if_neg h4]; rfl
theorem enter_zero {b : Book} {n : Str} {needs : List Str} (h : (enterB b n needs).2 = 0) : bookOk b = true := by
  cases hq : bookOk b
  · unfold enterB at h; rw [if_pos hq] at h; cases h
  · rfl
theorem less_code (b : Book) (n : Str) (needs : List Str) : (if bookOk b = false then 1 else lessC b n needs) = (lessB b n needs).2 := by
  unfold lessB lessC
  by_cases h : bookOk b = false
  · rw [if_pos h, if_pos h]
  · rw [if_neg h, if_neg h]
    by_cases h2 : hereB b n = false
    · rw [if_pos h2, if_pos h2]
    · rw [if_neg h2, if_neg h2]
      by_cases h3 : namesOk needs (b.at (whereB b n)).needs = false
      · rw [if_pos h3, if_pos h3]
      · rw [if_neg h3, if_neg h3]
theorem less_book (b : Book) (n : Str) (needs : List Str) : (if (lessB b n needs).2 = 0 then fewerB b (whereB b n) needs else if (lessB b n needs).2 = 1 then emptyBook else b) = (lessB b n needs).1 := by
  unfold lessB
  by_cases h : bookOk b = false
  · rw [if_pos h]; rfl
  · rw [if_neg h]
    by_cases h2 : hereB b n = false
    · rw [if_pos h2]; rfl
    · rw [if_neg h2]
      by_cases h3 : namesOk needs (b.at (whereB b n)).needs = false
      · rw [if_pos h3]; rfl
      · rw [if_neg h3]; rfl
theorem less_zero {b : Book} {n : Str} {needs : List Str} (h : (lessB b n needs).2 = 0) : bookOk b = true ∧ hereB b n = true := by
  cases hq : bookOk b
  · unfold lessB at h; rw [if_pos hq] at h; cases h
  · cases hh : hereB b n
    · unfold lessB at h; rw [if_neg (by simp [hq]), if_pos hh] at h; cases h
    · exact ⟨rfl, rfl⟩
theorem leave_code (b : Book) (n : Str) : (if bookOk b = false then 1 else leaveC b n) = (leaveB b n).2 := by
  unfold leaveB leaveC
  by_cases h : bookOk b = false
  · rw [if_pos h, if_pos h]
  · rw [if_neg h, if_neg h]
    by_cases h2 : hereB b n = false
    · rw [if_pos h2, if_pos h2]
    · rw [if_neg h2, if_neg h2]
theorem leave_book (b : Book) (n : Str) : (if (leaveB b n).2 = 0 then ⟨b.things, b.batches.take (whereB b n) ++ b.batches.drop (whereB b n + 1)⟩ else if (leaveB b n).2 = 1 then emptyBook else b) = (leaveB b n).1 := by
  unfold leaveB
  by_cases h : bookOk b = false
  · rw [if_pos h]; rfl
  · rw [if_neg h]
    by_cases h2 : hereB b n = false
    · rw [if_pos h2]; rfl
    · rw [if_neg h2]; rfl
theorem leave_zero {b : Book} {n : Str} (h : (leaveB b n).2 = 0) : bookOk b = true ∧ hereB b n = true := by
  cases hq : bookOk b
  · unfold leaveB at h; rw [if_pos hq] at h; cases h
  · cases hh : hereB b n
    · unfold leaveB at h; rw [if_neg (by simp [hq]), if_pos hh] at h; cases h
    · exact ⟨rfl, rfl⟩
theorem ask_code (b : Book) (n : Str) (things : List Str) : (if bookOk b = false then 1 else askC b n things) = (askB b n things).2 := by
  unfold askB askC
  by_cases h : bookOk b = false
  · rw [if_pos h, if_pos h]
  · rw [if_neg h, if_neg h]
    by_cases h2 : hereB b n = false
    · rw [if_pos h2, if_pos h2]
    · rw [if_neg h2, if_neg h2]
      by_cases h3 : namesOk things (b.at (whereB b n)).needs = false
      · rw [if_pos h3, if_pos h3]
      · rw [if_neg h3, if_neg h3]
        by_cases h4 : takenB b (whereB b n) things = true
        · rw [if_pos h4, if_pos h4]
        · rw [if_neg h4, if_neg h4]
          by_cases h5 : safeB b = true ∧ safeB (giveB b (whereB b n) things) = false
          · rw [if_pos h5, if_pos h5]
          · rw [if_neg h5, if_neg h5]
theorem ask_book (b : Book) (n : Str) (things : List Str) : (if (askB b n things).2 = 0 then giveB b (whereB b n) things else if (askB b n things).2 = 1 then emptyBook else b) = (askB b n things).1 := by
  unfold askB
  by_cases h : bookOk b = false
  · rw [if_pos h]; rfl
  · rw [if_neg h]
    by_cases h2 : hereB b n = false
    · rw [if_pos h2]; rfl
    · rw [if_neg h2]
      by_cases h3 : namesOk things (b.at (whereB b n)).needs = false
      · rw [if_pos h3]; rfl
      · rw [if_neg h3]
        by_cases h4 : takenB b (whereB b n) things = true
        · rw [if_pos h4]; rfl
        · rw [if_neg h4]
          by_cases h5 : safeB b = true ∧ safeB (giveB b (whereB b n) things) = false
          · rw [if_pos h5]; rfl
          · rw [if_neg h5]; rfl
theorem ask_zero {b : Book} {n : Str} {things : List Str} (h : (askB b n things).2 = 0) : bookOk b = true ∧ hereB b n = true ∧ namesOk things (b.at (whereB b n)).needs = true := by
  cases hq : bookOk b
  · unfold askB at h; rw [if_pos hq] at h; cases h
  · cases hh : hereB b n
    · unfold askB at h; rw [if_neg (by simp [hq]), if_pos hh] at h; cases h
    · cases hn : namesOk things (b.at (whereB b n)).needs
      · unfold askB at h; rw [if_neg (by simp [hq]), if_neg (by simp [hh]), if_pos hn] at h; cases h
      · exact ⟨rfl, rfl, rfl⟩

set_option maxRecDepth 100000 in
set_option maxHeartbeats 1000000 in
theorem implAsk_any (b : Book) (n : Str) (things : List Str) (a1 a2 a3 : Option Addr) (c1 c2 c3 : Nat) (w : World) (hb : BookAt w a1 a2 b) (hn : StrsAt w a3 things)
    (hg : w.cell? ⟨0, 0, none⟩ = some (.iface 111 (.agg #[.pointer (some ⟨1, 76, none⟩)]))) :
    Calls Tryz.prog 11 #[.agg #[.slice a1 b.things.length c1, .slice a2 b.batches.length c2], .string (S n), .slice a3 things.length c3] w fun e w' => OutA w (askB b n things).1 (askB b n things).2 e w' := by
  have hA : ∀ w', Ext w w' → Calls Tryz.prog 30 #[.agg #[.slice a1 b.things.length c1, .slice a2 b.batches.length c2], .iface 55 (.agg #[.string (S n), .slice a3 things.length c3])] w' fun e w2 => OutA w' (askB b n things).1 (askB b n things).2 e w2 := fun w' hE =>
    answered_any _ b _ _ n _ a1 a2 c1 c2 w' (hb.ext hE) (ask_book b n things) (hE.keep hg)
      (fun w2 hE2 => refusalOfA _ b n _ _ a1 a2 c1 c2 w2 (hb.ext (Ext.tr hE hE2)) (ask_code b n things) (fun w => mWhoA _ _ w) (fun w => mRefA _ w) (fun hok w3 hE3 => askRef_any b n things a1 a2 a3 c1 c2 c3 w3 (hb.ext (Ext.tr hE (Ext.tr hE2 hE3))) (hn.ext (Ext.tr hE (Ext.tr hE2 hE3))) hok))
      (fun hz w2 hE2 => doneA_any b n things a1 a2 a3 c1 c2 c3 w2 (hb.ext (Ext.tr hE hE2)) (hn.ext (Ext.tr hE hE2)) (ask_zero hz).1 (ask_zero hz).2.1 (ask_zero hz).2.2)
  generalize (askB b n things).1 = B at *
  generalize (askB b n things).2 = c at *
  have HA := hid hA
  clear hA
  go_enter Tryz.func11, Tryz.ntmps11
  go_wp2_with fail
  refine (HA.out _ (ext_two _ _ _)).mono ?_
  rintro e w1 ⟨v1, v2, rs, rfl, hE1, hO1⟩
  have rr := rec_second (l := [.slice none 0 0, .slice none 0 0]) hE1
  have HRR := hid rr
  have HO1 : Hid (OB w1 w.heap.size v1 v2 rs B) := hO1.low (by simp; omega)
  have HE1 := hid (Ext.tr (ext_two _ _ _) hE1)
  have t0 := rr.cell (i := 0) rfl
  have t1 := rr.cell (i := 1) rfl
  have g0 := rr.frozen 0
  have g1 := rr.frozen 1
  obtain ⟨x1, y1, rfl⟩ := own_sl hO1.ot
  obtain ⟨x2, y2, rfl⟩ := own_shape3 hO1.ob
  clear hE1 hO1 rr
  go_wp2_with fail
  refine bodyPost_ret (v := .tuple #[.agg #[.slice x1 B.things.length y1, .slice x2 rs.length y2], .int .i64 (c : Int)]) (by simp [results, Tryz.results11, go_sem, t0, t1]) rfl ⟨_, _, rs, rfl, ?_, ?_⟩
  · exact (HE1.out.setCell (by simp) _).setCell (by simp) _
  · exact (HO1.out.stored HRR.out rfl rfl _ _).stored (HRR.out.set _ _) rfl rfl _ _

set_option maxRecDepth 100000 in
set_option maxHeartbeats 1000000 in
theorem implLess_any (b : Book) (n : Str) (needs : List Str) (a1 a2 a3 : Option Addr) (c1 c2 c3 : Nat) (w : World) (hb : BookAt w a1 a2 b) (hn : StrsAt w a3 needs)
    (hg : w.cell? ⟨0, 0, none⟩ = some (.iface 111 (.agg #[.pointer (some ⟨1, 76, none⟩)]))) :
    Calls Tryz.prog 18 #[.agg #[.slice a1 b.things.length c1, .slice a2 b.batches.length c2], .string (S n), .slice a3 needs.length c3] w fun e w' => OutA w (lessB b n needs).1 (lessB b n needs).2 e w' := by
  have hA : ∀ w', Ext w w' → Calls Tryz.prog 30 #[.agg #[.slice a1 b.things.length c1, .slice a2 b.batches.length c2], .iface 61 (.agg #[.string (S n), .slice a3 needs.length c3])] w' fun e w2 => OutA w' (lessB b n needs).1 (lessB b n needs).2 e w2 := fun w' hE =>
    answered_any _ b _ _ n _ a1 a2 c1 c2 w' (hb.ext hE) (less_book b n needs) (hE.keep hg)
      (fun w2 hE2 => refusalOfL _ b n _ _ a1 a2 c1 c2 w2 (hb.ext (Ext.tr hE hE2)) (less_code b n needs) (fun w => mWhoL _ _ w) (fun w => mRefL _ w) (fun hok w3 hE3 => lessRef_any b n needs a1 a2 a3 c1 c2 c3 w3 (hb.ext (Ext.tr hE (Ext.tr hE2 hE3))) (hn.ext (Ext.tr hE (Ext.tr hE2 hE3))) hok))
      (fun hz w2 hE2 => doneL_any b n needs a1 a2 a3 c1 c2 c3 w2 (hb.ext (Ext.tr hE hE2)) (hn.ext (Ext.tr hE hE2)) (less_zero hz).1 (less_zero hz).2)
  generalize (lessB b n needs).1 = B at *
  generalize (lessB b n needs).2 = c at *
  have HA := hid hA
  clear hA
  go_enter Tryz.func18, Tryz.ntmps18
  go_wp2_with fail
  refine (HA.out _ (ext_two _ _ _)).mono ?_
  rintro e w1 ⟨v1, v2, rs, rfl, hE1, hO1⟩
  have rr := rec_second (l := [.slice none 0 0, .slice none 0 0]) hE1
  have HRR := hid rr
  have HO1 : Hid (OB w1 w.heap.size v1 v2 rs B) := hO1.low (by simp; omega)
  have HE1 := hid (Ext.tr (ext_two _ _ _) hE1)
  have t0 := rr.cell (i := 0) rfl
  have t1 := rr.cell (i := 1) rfl
  have g0 := rr.frozen 0
  have g1 := rr.frozen 1
  obtain ⟨x1, y1, rfl⟩ := own_sl hO1.ot
  obtain ⟨x2, y2, rfl⟩ := own_shape3 hO1.ob
  clear hE1 hO1 rr
  go_wp2_with fail
  refine bodyPost_ret (v := .tuple #[.agg #[.slice x1 B.things.length y1, .slice x2 rs.length y2], .int .i64 (c : Int)]) (by simp [results, Tryz.results18, go_sem, t0, t1]) rfl ⟨_, _, rs, rfl, ?_, ?_⟩
  · exact (HE1.out.setCell (by simp) _).setCell (by simp) _
  · exact (HO1.out.stored HRR.out rfl rfl _ _).stored (HRR.out.set _ _) rfl rfl _ _

set_option maxRecDepth 100000 in
set_option maxHeartbeats 1000000 in
theorem implLeave_any (b : Book) (n : Str)  (a1 a2 : Option Addr) (c1 c2 : Nat) (w : World) (hb : BookAt w a1 a2 b)
    (hg : w.cell? ⟨0, 0, none⟩ = some (.iface 111 (.agg #[.pointer (some ⟨1, 76, none⟩)]))) :
    Calls Tryz.prog 20 #[.agg #[.slice a1 b.things.length c1, .slice a2 b.batches.length c2], .string (S n)] w fun e w' => OutA w (leaveB b n).1 (leaveB b n).2 e w' := by
  have hA : ∀ w', Ext w w' → Calls Tryz.prog 30 #[.agg #[.slice a1 b.things.length c1, .slice a2 b.batches.length c2], .iface 63 (.agg #[.string (S n)])] w' fun e w2 => OutA w' (leaveB b n).1 (leaveB b n).2 e w2 := fun w' hE =>
    answered_any _ b _ _ n _ a1 a2 c1 c2 w' (hb.ext hE) (leave_book b n) (hE.keep hg)
      (fun w2 hE2 => refusalOfG _ b n _ _ a1 a2 c1 c2 w2 (hb.ext (Ext.tr hE hE2)) (leave_code b n) (fun w => mWhoG _ w) (fun w => mRefG _ w) (fun hok w3 hE3 => leaveRef_any b n a1 a2 c1 c2 w3 (hb.ext (Ext.tr hE (Ext.tr hE2 hE3))) hok))
      (fun hz w2 hE2 => doneG_any b n a1 a2 c1 c2 w2 (hb.ext (Ext.tr hE hE2)) (leave_zero hz).1 (leave_zero hz).2)
  generalize (leaveB b n).1 = B at *
  generalize (leaveB b n).2 = c at *
  have HA := hid hA
  clear hA
  go_enter Tryz.func20, Tryz.ntmps20
  go_wp2_with fail
  refine (HA.out _ (ext_two _ _ _)).mono ?_
  rintro e w1 ⟨v1, v2, rs, rfl, hE1, hO1⟩
  have rr := rec_second (l := [.slice none 0 0, .slice none 0 0]) hE1
  have HRR := hid rr
  have HO1 : Hid (OB w1 w.heap.size v1 v2 rs B) := hO1.low (by simp; omega)
  have HE1 := hid (Ext.tr (ext_two _ _ _) hE1)
  have t0 := rr.cell (i := 0) rfl
  have t1 := rr.cell (i := 1) rfl
  have g0 := rr.frozen 0
  have g1 := rr.frozen 1
  obtain ⟨x1, y1, rfl⟩ := own_sl hO1.ot
  obtain ⟨x2, y2, rfl⟩ := own_shape3 hO1.ob
  clear hE1 hO1 rr
  go_wp2_with fail
  refine bodyPost_ret (v := .tuple #[.agg #[.slice x1 B.things.length y1, .slice x2 rs.length y2], .int .i64 (c : Int)]) (by simp [results, Tryz.results20, go_sem, t0, t1]) rfl ⟨_, _, rs, rfl, ?_, ?_⟩
  · exact (HE1.out.setCell (by simp) _).setCell (by simp) _
  · exact (HO1.out.stored HRR.out rfl rfl _ _).stored (HRR.out.set _ _) rfl rfl _ _

end Go.Proofs.YtdafpnpfcmgfcabGreatDoor
