/- Walks over the specification's l1At and l2Can. -/
import Derived.Test.YtdafpnpfcmgfcabW9
import Derived.Test.YtdafpnpfcmgfcabJF
namespace Go.Proofs.Ytdafpnpfcmgfcab
open Go.RowKit
attribute [local go_sem] S_toList S_size S_get

theorem hasB_names {bs : List Batch} {x : Str} (h : ∀ j, j < bs.length → ((nthB bs j).name == x) = false) : hasB (namesOf bs) x = false :=
  hasB_no (fun j hj => by rw [namesOf_length] at hj; rw [nth_namesOf hj]; exact h j hj)
theorem firstAt_names {bs : List Batch} {x : Str} {k : Nat} (hk : k < bs.length) (h1 : ((nthB bs k).name == x) = true) (h2 : ∀ j, j < k → ((nthB bs j).name == x) = false) : firstAt (namesOf bs) x k :=
  ⟨by rw [namesOf_length]; exact hk, by rw [nth_namesOf hk]; exact h1, fun j hj => by rw [nth_namesOf (by omega)]; exact h2 j hj⟩

set_option maxHeartbeats 400000 in
theorem l1At_any (b : Book) (x : Str) (a1 a2 : Option Addr) (c1 c2 : Nat) (w : World) (hb : BookAt w a1 a2 b) :
    Calls Qry.prog 29 #[.agg #[.slice a1 b.things.length c1, .slice a2 b.batches.length c2], .string (S x)] w fun e w' =>
      ((∃ k, e = .returned (.int .i64 (k : Nat)) ∧ firstAt (namesOf b.batches) x k) ∨ (e = .returned (.int .i64 (-1)) ∧ hasB (namesOf b.batches) x = false)) ∧ Ext w w' := by
  have hal : ∀ o, Ext w (w.alloc o) := fun o => (Below.refl _ _).alloc (Nat.le_refl _) _
  have hn := hb.2.1
  have hx0 := box_cell (Ext.rfl' (w.alloc (.cells #[.slice a1 b.things.length c1, .slice a2 b.batches.length c2] 30))) (i := 0) rfl
  have hx1 := box_cell (Ext.rfl' (w.alloc (.cells #[.slice a1 b.things.length c1, .slice a2 b.batches.length c2] 30))) (i := 1) rfl
  go_enter Qry.func29, Try.ntmps29
  go_wp2
  go_loop [5] (fun i => ∃ k : Nat, k ≤ b.batches.length ∧ i = .int .i64 k ∧ ∀ j, j < k → ((nthB b.batches j).name == x) = false) (fun i => b.batches.length - (intOf i).toNat)
  case atStart => exact ⟨0, Nat.zero_le _, rfl, fun j hj => by omega⟩
  case round =>
    obtain ⟨k, hk, rfl, hx⟩ := hrel
    have HX := hid hx
    clear hx
    by_cases hlt : k < b.batches.length
    · obtain ⟨ba, oa, rfl, hl, d1, g1, d2, g2, p0, p1, p2, s1, s2⟩ := (hb.ext (hal (.cells #[.slice a1 b.things.length c1, .slice a2 b.batches.length c2] 30))).2.2 k hlt
      cases hq : ((nthB b.batches k).name == x)
      · have HQ := hid hq
        go_wp2
        go_round
        case rel => exact ⟨k + 1, by omega, by go_num, fun j hj => by
          by_cases e : j = k
          · rw [e]; exact HQ.out
          · exact HX.out j (by omega)⟩
        case measure => simp [intOf]; omega
      · have HF := hid (firstAt_names hlt hq HX.out)
        go_wp2
        go_ret
        exact ⟨Or.inl ⟨k, rfl, HF.out⟩, hal _⟩
    · have HF := hid (hasB_names (fun j hj => HX.out j (by omega)))
      go_wp2
      go_ret
      exact ⟨Or.inr ⟨rfl, HF.out⟩, hal _⟩

theorem l1Has_v (a : Option Addr) (cap : Nat) (ss : List Str) (x : Str) (v : Bool) (w : World) (hs : StrsAt w a ss) (hv : hasB ss x = v) :
    Calls Qry.prog 37 #[.slice a ss.length cap, .string (S x)] w fun e w' => e = .returned (.bool v) ∧ w' = w := by
  rw [← hv]; exact l1Has_any a cap ss x w hs

set_option maxHeartbeats 1000000 in
theorem l2Can_any (b : Book) (at_ : Nat) (gone : List Str) (a1 a2 a3 : Option Addr) (c1 c2 c3 : Nat) (w : World) (hb : BookAt w a1 a2 b) (hg : StrsAt w a3 gone) (hat : at_ < b.batches.length) :
    Calls Qry.prog 19 #[.agg #[.slice a1 b.things.length c1, .slice a2 b.batches.length c2], .int .i64 (at_ : Int), .slice a3 gone.length c3] w fun e w' =>
      e = .returned (.bool (canB b at_ gone)) ∧ Ext w w' := by
  have hal : ∀ o, Ext w (w.alloc o) := fun o => (Below.refl _ _).alloc (Nat.le_refl _) _
  have hn := hb.2.1
  go_enter Qry.func19, Try.ntmps19
  go_wp2
  go_loopw [7] (fun i wr => ∃ k : Nat, k ≤ b.batches.length ∧ i = .int .i64 k ∧ (∃ n, wr = (w.alloc (.cells #[.slice a1 b.things.length c1, .slice a2 b.batches.length c2] 30)).drewN n) ∧ ∀ j, j < k → clash b at_ gone j = false) (fun i _ => b.batches.length - (intOf i).toNat)
  case atStart => exact ⟨0, Nat.zero_le _, rfl, ⟨0, rfl⟩, fun j hj => by omega⟩
  case round =>
    obtain ⟨k, hk, rfl, hm, hx⟩ := hrel
    have HX := hid hx
    have HM := hid hm
    have HE := hid (draws_ext hm)
    have hx0 := box_cell HE.out (i := 0) rfl
    have hx1 := box_cell HE.out (i := 1) rfl
    have hb' := hb.ext (Ext.tr (hal _) HE.out)
    have hg' := hg.ext (Ext.tr (hal _) HE.out)
    clear hx hm
    by_cases hlt : k < b.batches.length
    · obtain ⟨ba, oa, rfl, hl, d1, g1, d2, g2, p0, p1, p2, s1, s2⟩ := hb'.2.2 k hlt
      obtain ⟨ba', oa', e', _, f1, h1, f2, h2, r0, r1, r2, u1, u2⟩ := hb'.2.2 at_ hat
      injection e' with e'; injection e' with e1 e2; subst e1 e2
      by_cases hka : k = at_
      · have HQ : Hid (clash b at_ gone k = false) := by show _ = false; simp [clash, hka]
        have hd : ((k : Int) != (at_ : Int)) = false := by simp; omega
        clear hka
        go_wp2
        go_quiet (fail)
        go_wp2
        go_roundw
        case rel => exact ⟨k + 1, by omega, by go_num, drewN_tr HM.out ⟨_, rfl⟩, fun j hj => by
          by_cases e : j = k
          · rw [e]; exact HQ.out
          · exact HX.out j (by omega)⟩
        case measure => simp [intOf]; omega
      · have hd : ((k : Int) != (at_ : Int)) = true := by simp; omega
        have HK := hid hka
        clear hka
        cases hq : hasB gone (nthB b.batches k).name
        · cases hs : shareB (nthB b.batches k).has (nthB b.batches at_).needs
          · have HQ : Hid (clash b at_ gone k = false) := by show _ = false; unfold clash Book.at; rw [hs]; simp
            go_wp2
            go_quiet ((first | (go_at_call 37; exact Calls.quiet_of_same (l1Has_v _ _ _ _ _ _ (hg'.drewN _) hq)) | (go_at_call 30; exact Calls.quiet_of_same (l1Share_v _ _ _ _ _ _ _ _ (s1.drewN _) (u2.drewN _) hs))))
            go_wp2
            go_roundw
            case rel => exact ⟨k + 1, by omega, by go_num, drewN_tr HM.out ⟨_, rfl⟩, fun j hj => by
              by_cases e : j = k
              · rw [e]; exact HQ.out
              · exact HX.out j (by omega)⟩
            case measure => simp [intOf]; omega
          · have HF : Hid (canB b at_ gone = false) := canB_no hlt (by unfold clash Book.at; rw [hs, hq]; simp [HK.out])
            go_wp2
            go_quiet ((first | (go_at_call 37; exact Calls.quiet_of_same (l1Has_v _ _ _ _ _ _ (hg'.drewN _) hq)) | (go_at_call 30; exact Calls.quiet_of_same (l1Share_v _ _ _ _ _ _ _ _ (s1.drewN _) (u2.drewN _) hs))))
            go_wp2
            go_ret
            exact ⟨ret_bool HF.out.symm, Ext.tr (hal _) (Ext.tr HE.out (ext_drewN _ _))⟩
        · have HQ : Hid (clash b at_ gone k = false) := by show _ = false; unfold clash Book.at; rw [hq]; simp
          go_wp2
          go_quiet ((go_at_call 37; exact Calls.quiet_of_same (l1Has_v _ _ _ _ _ _ (hg'.drewN _) hq)))
          go_wp2
          go_roundw
          case rel => exact ⟨k + 1, by omega, by go_num, drewN_tr HM.out ⟨_, rfl⟩, fun j hj => by
            by_cases e : j = k
            · rw [e]; exact HQ.out
            · exact HX.out j (by omega)⟩
          case measure => simp [intOf]; omega
    · have HF : Hid (canB b at_ gone = true) := canB_yes (fun j hj => HX.out j (by omega))
      go_wp2
      go_ret
      exact ⟨ret_bool HF.out.symm, Ext.tr (hal _) HE.out⟩
end Go.Proofs.Ytdafpnpfcmgfcab
