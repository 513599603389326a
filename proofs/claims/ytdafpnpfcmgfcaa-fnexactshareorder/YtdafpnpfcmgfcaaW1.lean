/- Walks over the small functions that read lists of names. -/
import Derived.Test.YtdafpnpfcmgfcaaChecked
import Derived.Test.YtdafpnpfcmgfcaaMem
import Derived.WalkSpells
import Derived.WalkLawsBesides
import Derived.Deep.QuietTactic
import Derived.BigQuiet
namespace Go.Proofs.Ytdafpnpfcmgfcaa
open Go.RowKit
attribute [local go_sem] S_toList S_size

theorem ret_bool {a b : Bool} (h : a = b) : Ending.returned (.bool a) = .returned (.bool b) := by rw [h]
theorem ret_int {k : IntKind} {a b : Int} (h : a = b) : Ending.returned (.int k a) = .returned (.int k b) := by rw [h]

set_option maxHeartbeats 400000 in
theorem l1Has_any (a : Option Addr) (cap : Nat) (ss : List Str) (x : Str) (w : World) (hs : StrsAt w a ss) :
    Calls Try.prog 54 #[.slice a ss.length cap, .string (S x)] w fun e w' => e = .returned (.bool (hasB ss x)) ∧ w' = w := by
  have hn := hs.1
  go_enter Try.func54, Try.ntmps54
  go_wp2
  go_loop [5] (fun i => ∃ k : Nat, k ≤ ss.length ∧ i = .int .i64 k ∧ ∀ j, j < k → (nth ss j == x) = false) (fun i => ss.length - (intOf i).toNat)
  case atStart => exact ⟨0, Nat.zero_le _, rfl, fun j hj => by omega⟩
  case round =>
    obtain ⟨k, hk, rfl, hx⟩ := hrel
    have HX : Hid (∀ j, j < k → (nth ss j == x) = false) := hx
    clear hx
    by_cases hlt : k < ss.length
    · obtain ⟨_, b, o, rfl, hc⟩ := hs.2 k hlt
      cases hq : (nth ss k == x)
      · go_wp2
        go_round
        case rel => exact ⟨k + 1, by omega, by go_num, fun j hj => by
          by_cases e : j = k
          · rw [e]; exact hq
          · exact HX.out j (by omega)⟩
        case measure => simp [intOf]; omega
      · have HF : Hid (hasB ss x = true) := hasB_of hlt hq
        go_wp2
        go_ret
        exact ⟨ret_bool HF.out.symm, rfl⟩
    · have HF : Hid (hasB ss x = false) := hasB_no (fun j hj => HX.out j (by omega))
      go_wp2
      go_ret
      exact ⟨ret_bool HF.out.symm, rfl⟩

set_option maxHeartbeats 400000 in
theorem l1Share_any (a b : Option Addr) (ca cb : Nat) (sa sb : List Str) (w : World) (ha : StrsAt w a sa) (hb : StrsAt w b sb) :
    Calls Try.prog 46 #[.slice a sa.length ca, .slice b sb.length cb] w fun e w' => e = .returned (.bool (shareB sa sb)) ∧ w' = w := by
  have hn := ha.1
  go_enter Try.func46, Try.ntmps46
  go_wp2
  go_loop [5] (fun i => ∃ k : Nat, k ≤ sa.length ∧ i = .int .i64 k ∧ ∀ j, j < k → hasB sb (nth sa j) = false) (fun i => sa.length - (intOf i).toNat)
  case atStart => exact ⟨0, Nat.zero_le _, rfl, fun j hj => by omega⟩
  case round =>
    obtain ⟨k, hk, rfl, hx⟩ := hrel
    have HX : Hid (∀ j, j < k → hasB sb (nth sa j) = false) := hx
    clear hx
    by_cases hlt : k < sa.length
    · obtain ⟨_, ba, oa, rfl, hc⟩ := ha.2 k hlt
      cases hq : hasB sb (nth sa k)
      · have HQ : Hid (hasB sb (nth sa k) = false) := hq
        go_wp2_with (go_at_call 54; refine (l1Has_any _ _ _ _ _ hb).mono ?_; rintro e w' ⟨rfl, rfl⟩)
        go_round
        case rel => exact ⟨k + 1, by omega, by go_num, fun j hj => by
          by_cases e : j = k
          · rw [e]; exact HQ.out
          · exact HX.out j (by omega)⟩
        case measure => simp [intOf]; omega
      · have HF : Hid (shareB sa sb = true) := anyLt_of hlt hq
        go_wp2_with (go_at_call 54; refine (l1Has_any _ _ _ _ _ hb).mono ?_; rintro e w' ⟨rfl, rfl⟩)
        go_ret
        exact ⟨ret_bool HF.out.symm, rfl⟩
    · have HF : Hid (shareB sa sb = false) := anyLt_no (fun j hj => HX.out j (by omega))
      go_wp2
      go_ret
      exact ⟨ret_bool HF.out.symm, rfl⟩

theorem drewN_tr {w wr wz : World} (h : ∃ m, wr = w.drewN m) (k : ∃ m, wz = wr.drewN m) : ∃ m, wz = w.drewN m := by
  obtain ⟨m, rfl⟩ := h; obtain ⟨n, rfl⟩ := k; exact ⟨m + n, by simp⟩
theorem StrsAt.draws {w wr : World} {a : Option Addr} {ss : List Str} (h : StrsAt w a ss) (e : ∃ m, wr = w.drewN m) : StrsAt wr a ss := by
  obtain ⟨m, rfl⟩ := e; exact h.drewN m

set_option maxHeartbeats 400000 in
theorem l1NamesOk_any (a b : Option Addr) (ca cb : Nat) (sa sb : List Str) (w : World) (ha : StrsAt w a sa) (hb : StrsAt w b sb) :
    Calls Try.prog 45 #[.slice a sa.length ca, .slice b sb.length cb] w fun e w' => e = .returned (.bool (namesOk sa sb)) ∧ ∃ n, w' = w.drewN n := by
  have hn := ha.1
  go_enter Try.func45, Try.ntmps45
  go_wp2
  go_loopw [5] (fun i wr => ∃ k : Nat, k ≤ sa.length ∧ i = .int .i64 k ∧ (∃ m, wr = w.drewN m) ∧ ∀ j, j < k → (hasB sb (nth sa j) && up sa j) = true) (fun i _ => sa.length - (intOf i).toNat)
  case atStart => exact ⟨0, Nat.zero_le _, rfl, ⟨0, rfl⟩, fun j hj => by omega⟩
  case round =>
    obtain ⟨k, hk, rfl, hm, hx⟩ := hrel
    have HX : Hid (∀ j, j < k → (hasB sb (nth sa j) && up sa j) = true) := hx
    have ha' := ha.draws hm
    have hb' := hb.draws hm
    have HM : Hid (∃ m, wr = w.drewN m) := hm
    clear hx hm
    by_cases hlt : k < sa.length
    · obtain ⟨_, ba, oa, rfl, hc⟩ := ha'.2 k hlt
      cases hq : hasB sb (nth sa k)
      · have HF : Hid (namesOk sa sb = false) := allLt_no hlt (by rw [hq]; rfl)
        go_wp2
        go_quiet ((go_at_call 54; refine Calls.quiet_of_same (l1Has_any _ _ _ _ _ ?_); exact hb'.drewN _))
        go_wp2
        go_ret
        exact ⟨ret_bool HF.out.symm, drewN_tr HM.out ⟨_, rfl⟩⟩
      · by_cases h0 : k = 0
        · subst h0
          have HQ : Hid ((hasB sb (nth sa 0) && up sa 0) = true) := by rw [hq]; rfl
          simp only [Nat.add_zero] at hc
          go_wp2
          go_quiet ((go_at_call 54; refine Calls.quiet_of_same (l1Has_any _ _ _ _ _ ?_); exact hb'.drewN _))
          go_wp2
          go_roundw
          case rel => exact ⟨1, by omega, rfl, drewN_tr HM.out ⟨_, rfl⟩, fun j hj => by
            have e : j = 0 := by omega
            rw [e]; exact HQ.out⟩
          case measure => simp [intOf]; omega
        · obtain ⟨p, rfl⟩ : ∃ p, k = p + 1 := ⟨k - 1, by omega⟩
          obtain ⟨_, ba', oa', e', hc'⟩ := ha'.2 p (by omega)
          injection e' with e'; injection e' with e1 e2; subst e1 e2
          have hd : decide ((0 : Int) < (p : Int) + 1) = true := by simp
          cases hu : Op.bytesLess (nth sa p) (nth sa (p + 1))
          · have HF : Hid (namesOk sa sb = false) := allLt_no hlt (by simp [up, hu])
            go_wp2
            go_quiet ((go_at_call 54; refine Calls.quiet_of_same (l1Has_any _ _ _ _ _ ?_); exact hb'.drewN _))
            go_wp2
            go_ret
            exact ⟨ret_bool HF.out.symm, drewN_tr HM.out ⟨_, rfl⟩⟩
          · have HQ : Hid ((hasB sb (nth sa (p + 1)) && up sa (p + 1)) = true) := by show _ = true; simp [up, hu, hq]
            go_wp2
            go_quiet ((go_at_call 54; refine Calls.quiet_of_same (l1Has_any _ _ _ _ _ ?_); exact hb'.drewN _))
            go_wp2
            go_roundw
            case rel => exact ⟨p + 1 + 1, by omega, by go_num, drewN_tr HM.out ⟨_, rfl⟩, fun j hj => by
              by_cases e : j = p + 1
              · rw [e]; exact HQ.out
              · exact HX.out j (by omega)⟩
            case measure => simp [intOf]; omega
    · have HF : Hid (namesOk sa sb = true) := allLt_of (fun j hj => HX.out j (by omega))
      go_wp2
      go_ret
      exact ⟨ret_bool HF.out.symm, HM.out⟩

end Go.Proofs.Ytdafpnpfcmgfcaa
