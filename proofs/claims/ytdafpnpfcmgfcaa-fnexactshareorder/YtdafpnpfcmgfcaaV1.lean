/- Walks over the program's small functions on lists of names. -/
import Derived.Test.YtdafpnpfcmgfcaaW4
import Derived.Test.YtdafpnpfcmgfcaaMath4
namespace Go.Proofs.Ytdafpnpfcmgfcaa
open Go.RowKit
attribute [local go_sem] S_toList S_size S_get

theorem beq_comm' (a b : Str) : (a == b) = (b == a) := by
  rw [Bool.eq_iff_iff, beq_iff_eq, beq_iff_eq]; exact eq_comm

set_option maxHeartbeats 400000 in
theorem slicesIndex_any (a : Option Addr) (cap : Nat) (ss : List Str) (x : Str) (w : World) (hs : StrsAt w a ss) :
    Calls Try.prog 48 #[.slice a ss.length cap, .string (S x)] w fun e w' =>
      ((∃ k, e = .returned (.int .i64 (k : Nat)) ∧ firstAt ss x k) ∨ (e = .returned (.int .i64 (-1)) ∧ hasB ss x = false)) ∧ w' = w := by
  have hn := hs.1
  go_enter Try.func48, Try.ntmps48
  go_wp2
  go_loop [8] (fun i => ∃ k : Nat, k ≤ ss.length ∧ i = .int .i64 k ∧ ∀ j, j < k → (nth ss j == x) = false) (fun i => ss.length - (intOf i).toNat)
  case atStart => exact ⟨0, Nat.zero_le _, rfl, fun j hj => by omega⟩
  case round =>
    obtain ⟨k, hk, rfl, hx⟩ := hrel
    have HX : Hid (∀ j, j < k → (nth ss j == x) = false) := hx
    clear hx
    by_cases hlt : k < ss.length
    · obtain ⟨_, b, o, rfl, hc⟩ := hs.2 k hlt
      cases hq : (nth ss k == x)
      · have HQ : Hid ((nth ss k == x) = false) := hq
        rw [beq_comm'] at hq
        go_wp2
        go_round
        case rel => exact ⟨k + 1, by omega, by go_num, fun j hj => by
          by_cases e : j = k
          · rw [e]; exact HQ.out
          · exact HX.out j (by omega)⟩
        case measure => simp [intOf]; omega
      · have HQ : Hid ((nth ss k == x) = true) := hq
        rw [beq_comm'] at hq
        go_wp2
        go_ret
        exact ⟨Or.inl ⟨k, rfl, hlt, HQ.out, HX.out⟩, rfl⟩
    · have HF : Hid (hasB ss x = false) := hasB_no (fun j hj => HX.out j (by omega))
      go_wp2
      go_ret
      exact ⟨Or.inr ⟨rfl, HF.out⟩, rfl⟩

set_option maxHeartbeats 400000 in
theorem slicesContains_any (a : Option Addr) (cap : Nat) (ss : List Str) (x : Str) (w : World) (hs : StrsAt w a ss) :
    Calls Try.prog 80 #[.slice a ss.length cap, .string (S x)] w fun e w' => e = .returned (.bool (hasB ss x)) ∧ w' = w := by
  go_enter Try.func80, Try.ntmps80
  go_wp2_with fail
  refine (slicesIndex_any _ _ _ _ _ hs).mono ?_
  rintro e w' ⟨(⟨k, rfl, hk, hq, _⟩ | ⟨rfl, hno⟩), rfl⟩
  · have HF : Hid (hasB ss x = true) := hasB_of hk hq
    clear hk hq
    go_wp2
    go_ret
    exact ⟨ret_bool (by rw [HF.out]), rfl⟩
  · have HF := hno
    have HF : Hid (hasB ss x = false) := hno
    clear hno
    go_wp2
    go_ret
    exact ⟨ret_bool HF.out.symm, rfl⟩

def partB (a b : List Str) : Bool := allLt a.length (fun i => hasB b (nth a i))

set_option maxHeartbeats 400000 in
theorem isPartOf_any (a b : Option Addr) (ca cb : Nat) (sa sb : List Str) (w : World) (ha : StrsAt w a sa) (hb : StrsAt w b sb) :
    Calls Try.prog 67 #[.slice a sa.length ca, .slice b sb.length cb] w fun e w' => e = .returned (.bool (partB sa sb)) ∧ w' = w := by
  have hn := ha.1
  go_enter Try.func67, Try.ntmps67
  go_wp2
  go_loop [9] (fun i => ∃ k : Nat, k ≤ sa.length ∧ i = .int .i64 k ∧ ∀ j, j < k → hasB sb (nth sa j) = true) (fun i => sa.length - (intOf i).toNat)
  case atStart => exact ⟨0, Nat.zero_le _, rfl, fun j hj => by omega⟩
  case round =>
    obtain ⟨k, hk, rfl, hx⟩ := hrel
    have HX : Hid (∀ j, j < k → hasB sb (nth sa j) = true) := hx
    clear hx
    by_cases hlt : k < sa.length
    · obtain ⟨_, ba, oa, rfl, hc⟩ := ha.2 k hlt
      cases hq : hasB sb (nth sa k)
      · have HF : Hid (partB sa sb = false) := allLt_no hlt hq
        go_wp2_with (go_at_call 80; refine (slicesContains_any _ _ _ _ _ hb).mono ?_; rintro e w' ⟨rfl, rfl⟩)
        go_ret
        exact ⟨ret_bool HF.out.symm, rfl⟩
      · have HQ : Hid (hasB sb (nth sa k) = true) := hq
        go_wp2_with (go_at_call 80; refine (slicesContains_any _ _ _ _ _ hb).mono ?_; rintro e w' ⟨rfl, rfl⟩)
        go_round
        case rel => exact ⟨k + 1, by omega, by go_num, fun j hj => by
          by_cases e : j = k
          · rw [e]; exact HQ.out
          · exact HX.out j (by omega)⟩
        case measure => simp [intOf]; omega
    · have HF : Hid (partB sa sb = true) := allLt_of (fun j hj => HX.out j (by omega))
      go_wp2
      go_ret
      exact ⟨ret_bool HF.out.symm, rfl⟩

set_option maxHeartbeats 400000 in
theorem ascending_any (a : Option Addr) (ca : Nat) (sa : List Str) (w : World) (ha : StrsAt w a sa) :
    Calls Try.prog 40 #[.slice a sa.length ca] w fun e w' => e = .returned (.bool (ascB sa)) ∧ ∃ n, w' = w.drewN n := by
  have hn := ha.1
  go_enter Try.func40, Try.ntmps40
  go_wp2
  go_loopw [3] (fun i wr => ∃ k : Nat, k ≤ sa.length ∧ i = .int .i64 ((k : Int) + 1) ∧ (∃ m, wr = w.drewN m) ∧ ∀ j, j < k + 1 → up sa j = true) (fun i _ => sa.length + 1 - (intOf i).toNat)
  case atStart => exact ⟨0, Nat.zero_le _, rfl, ⟨0, rfl⟩, fun j hj => by
    have e : j = 0 := by omega
    rw [e]; rfl⟩
  case round =>
    obtain ⟨k, hk, rfl, hm, hx⟩ := hrel
    have HX : Hid (∀ j, j < k + 1 → up sa j = true) := hx
    have ha' := ha.draws hm
    have HM : Hid (∃ m, wr = w.drewN m) := hm
    clear hx hm
    by_cases hlt : k + 1 < sa.length
    · obtain ⟨_, ba, oa, rfl, hc⟩ := ha'.2 (k + 1) hlt
      obtain ⟨_, ba', oa', e', hc'⟩ := ha'.2 k (by omega)
      injection e' with e'; injection e' with e1 e2; subst e1 e2
      cases hu : Op.bytesLess (nth sa k) (nth sa (k + 1))
      · have HF : Hid (ascB sa = false) := allLt_no hlt (by simp [up, hu])
        go_wp2
        go_quiet (fail)
        go_wp2
        go_ret
        exact ⟨ret_bool HF.out.symm, drewN_tr HM.out ⟨_, rfl⟩⟩
      · have HQ : Hid (up sa (k + 1) = true) := by show _ = true; simp [up, hu]
        go_wp2
        go_quiet (fail)
        go_wp2
        go_roundw
        case rel => exact ⟨k + 1, by omega, by go_num, drewN_tr HM.out ⟨_, rfl⟩, fun j hj => by
          by_cases e : j = k + 1
          · rw [e]; exact HQ.out
          · exact HX.out j (by omega)⟩
        case measure => simp [intOf]; omega
    · have HF : Hid (ascB sa = true) := allLt_of (fun j hj => HX.out j (by omega))
      go_wp2
      go_ret
      exact ⟨ret_bool HF.out.symm, HM.out⟩

end Go.Proofs.Ytdafpnpfcmgfcaa
