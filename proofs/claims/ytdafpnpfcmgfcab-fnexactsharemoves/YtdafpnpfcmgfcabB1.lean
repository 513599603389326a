/- Walks over the program's bits of things. -/
import Derived.Test.YtdafpnpfcmgfcabV7
import Derived.Test.YtdafpnpfcmgfcabMath5
namespace Go.Proofs.Ytdafpnpfcmgfcab
open Go.RowKit
attribute [local go_sem] S_toList S_size S_get

theorem wrapU {x : Int} (h0 : 0 ≤ x) (h1 : x < 65536) : IntKind.u64.wrap x = x := by rw [IntKind.wrap_u64]; omega
theorem pow_small {k : Nat} (h : k ≤ 8) : (2 : Nat) ^ k ≤ 256 := Nat.pow_le_pow_right (n := 2) (by omega) h
theorem sum_wrap {x k : Nat} (h : k ≤ 8) (hx : x < 2 ^ k) : IntKind.u64.wrap ((x : Int) + IntKind.u64.wrap (2 ^ k)) = ((x + 2 ^ k : Nat) : Int) := by
  have hp := pow_small h
  have e : ((2 : Int) ^ k) = ((2 ^ k : Nat) : Int) := by simp
  have h1 : IntKind.u64.wrap ((2 ^ k : Nat) : Int) = ((2 ^ k : Nat) : Int) := wrapU (by omega) (by omega)
  rw [e, h1, wrapU (by omega) (by omega)]
  omega

set_option maxHeartbeats 400000 in
theorem bitsOf_any (a b : Option Addr) (ca cb : Nat) (sa sb : List Str) (w : World) (ha : StrsAt w a sa) (hb : StrsAt w b sb) (h8 : sb.length ≤ 8) :
    Calls Qry.prog 46 #[.slice a sa.length ca, .slice b sb.length cb] w fun e w' => e = .returned (.int .u64 (bitsN sa sb : Nat)) ∧ w' = w := by
  go_enter Qry.func46, Try.ntmps46
  go_wp2
  go_loop [5, 10] (fun s i => ∃ k : Nat, k ≤ sb.length ∧ i = .int .i64 k ∧ s = .int .u64 (bitsTo sa sb k : Nat)) (fun _ i => sb.length - (intOf i).toNat)
  case atStart => exact ⟨0, Nat.zero_le _, rfl, rfl⟩
  case round =>
    obtain ⟨k, hk, rfl, rfl⟩ := hrel
    by_cases hlt : k < sb.length
    · obtain ⟨_, bb, ob, rfl, hc⟩ := hb.2 k hlt
      have hlo := bitsTo_lt sa sb k
      cases hq : hasB sa (nth sb k)
      · have HQ : Hid (bitsTo sa sb (k + 1) = bitsTo sa sb k) := by show _ = _; rw [bitsTo, hq]; simp
        go_wp2_with (go_at_call 58; refine (slicesContains_any _ _ _ _ _ ha).mono ?_; rintro e w' ⟨rfl, rfl⟩)
        go_round
        case rel => exact ⟨k + 1, by omega, by go_num, by rw [HQ.out]⟩
        case measure => simp [intOf]; omega
      · have HQ : Hid (bitsTo sa sb (k + 1) = bitsTo sa sb k + 2 ^ k) := by show _ = _; rw [bitsTo, hq]; simp
        go_wp2_with (go_at_call 58; refine (slicesContains_any _ _ _ _ _ ha).mono ?_; rintro e w' ⟨rfl, rfl⟩)
        go_round
        case rel => exact ⟨k + 1, by omega, by go_num, by rw [HQ.out, sum_wrap (by omega) hlo]⟩
        case measure => simp [intOf]; omega
    · have e : Hid (bitsTo sa sb k = bitsN sa sb) := by
        have : k = sb.length := by omega
        show _ = _; rw [this]; rfl
      go_wp2
      go_ret
      exact ⟨by rw [← e.out]; rfl, rfl⟩
end Go.Proofs.Ytdafpnpfcmgfcab
