/- Walks over names and sizes. -/
import Derived.Test.YtdafpnpfcmgfcaaW1
namespace Go.Proofs.Ytdafpnpfcmgfcaa
open Go.RowKit
attribute [local go_sem] S_toList S_size S_get

set_option maxHeartbeats 400000 in
theorem l1In_any (a b c : Int) (w : World) :
    Calls Try.prog 68 #[.int .i64 a, .int .i64 b, .int .i64 c] w fun e w' => e = .returned (.bool (decide (b ≤ a ∧ a ≤ c))) ∧ w' = w := by
  by_cases h1 : b ≤ a
  · by_cases h2 : a ≤ c
    all_goals
      go_enter Try.func68, Try.ntmps68
      go_wp2
      go_ret
      exact ⟨ret_bool (by simp [h1, h2]), rfl⟩
  · go_enter Try.func68, Try.ntmps68
    go_wp2
    go_ret
    exact ⟨ret_bool (by simp; omega), rfl⟩

set_option maxHeartbeats 400000 in
theorem l1NameOk_any (s : Str) (w : World) (hs : s.length ≤ 140737488355328) :
    Calls Try.prog 44 #[.string (S s)] w fun e w' => e = .returned (.bool (nameOk s)) ∧ w' = w := by
  by_cases h : 1 ≤ s.length ∧ s.length ≤ 8
  · have hd : decide ((1 : Int) ≤ (s.length : Int) ∧ (s.length : Int) ≤ 8) = true := by simp; omega
    go_enter Try.func44, Try.ntmps44
    go_wp2_with (go_at_call 68; refine (l1In_any _ _ _ _).mono ?_; rintro e w' ⟨rfl, rfl⟩)
    go_loop [3, 4] (fun i _ => ∃ k : Nat, k ≤ s.length ∧ i = .int .i64 k ∧ ∀ j, j < k → nameByte (bat s j) = true) (fun i _ => s.length - (intOf i).toNat)
    case atStart => exact ⟨0, Nat.zero_le _, rfl, fun j hj => by omega⟩
    case round =>
      obtain ⟨k, hk, rfl, hx⟩ := hrel
      have HX : Hid (∀ j, j < k → nameByte (bat s j) = true) := hx
      clear hx
      by_cases hlt : k < s.length
      · rcases nameByte_cases (bat s k) with hy | hno
        · have HY : Hid (nameByte (bat s k) = true) := nameByte_yes hy
          rcases hy with hy | hy | hy
          rotate_right
          have h45 : (((bat s k).toNat : Int) == 45) = true := by simp; omega
          rotate_left
          all_goals
            obtain ⟨hy1, hy2⟩ := hy
            go_wp2
            go_round
            case rel => exact ⟨k + 1, by omega, by go_num, fun j hj => by
              by_cases e : j = k
              · rw [e]; exact HY.out
              · exact HX.out j (by omega)⟩
            case measure => simp [intOf]; omega
        · have HF : Hid (nameOk s = false) := nameOk_no hlt (nameByte_no hno)
          have h45 : (((bat s k).toNat : Int) == 45) = false := by simp; omega
          rcases hno with hy | hy | hy | hy
          · go_wp2
            go_ret
            exact ⟨ret_bool HF.out.symm, rfl⟩
          · obtain ⟨hy1, hy2⟩ := hy
            go_wp2
            go_ret
            exact ⟨ret_bool HF.out.symm, rfl⟩
          · obtain ⟨hy1, hy2⟩ := hy
            have hd5 : decide (((bat s k).toNat : Int) ≤ 57) = false := by simp; omega
            go_wp2
            go_ret
            exact ⟨ret_bool HF.out.symm, rfl⟩
          · have hd5 : decide (((bat s k).toNat : Int) ≤ 57) = false := by simp; omega
            have hd6 : decide (((bat s k).toNat : Int) ≤ 122) = false := by simp; omega
            go_wp2
            go_ret
            exact ⟨ret_bool HF.out.symm, rfl⟩
      · have HF : Hid (nameOk s = true) := by
          show _ = true
          simp only [nameOk, h, and_self, decide_true, Bool.true_and]
          exact allLt_of (fun j hj => HX.out j (by omega))
        go_wp2
        go_ret
        exact ⟨ret_bool HF.out.symm, rfl⟩
  · have hd : decide ((1 : Int) ≤ (s.length : Int) ∧ (s.length : Int) ≤ 8) = false := by simp; omega
    have HF : Hid (nameOk s = false) := by show _ = false; simp [nameOk, h]
    go_enter Try.func44, Try.ntmps44
    go_wp2_with (go_at_call 68; refine (l1In_any _ _ _ _).mono ?_; rintro e w' ⟨rfl, rfl⟩)
    go_ret
    exact ⟨ret_bool HF.out.symm, rfl⟩

set_option maxHeartbeats 400000 in
theorem l1ThingsOk_any (a : Option Addr) (ca : Nat) (sa : List Str) (w : World) (ha : StrsAt w a sa) :
    Calls Try.prog 43 #[.slice a sa.length ca] w fun e w' => e = .returned (.bool (thingsOk sa)) ∧ ∃ n, w' = w.drewN n := by
  have hn := ha.1
  by_cases h8 : sa.length ≤ 8
  · go_enter Try.func43, Try.ntmps43
    go_wp2
    go_loopw [3] (fun i wr => ∃ k : Nat, k ≤ sa.length ∧ i = .int .i64 k ∧ (∃ m, wr = w.drewN m) ∧ ∀ j, j < k → (nameOk (nth sa j) && up sa j) = true) (fun i _ => sa.length - (intOf i).toNat)
    case atStart => exact ⟨0, Nat.zero_le _, rfl, ⟨0, rfl⟩, fun j hj => by omega⟩
    case round =>
      obtain ⟨k, hk, rfl, hm, hx⟩ := hrel
      have HX : Hid (∀ j, j < k → (nameOk (nth sa j) && up sa j) = true) := hx
      have ha' := ha.draws hm
      have HM : Hid (∃ m, wr = w.drewN m) := hm
      clear hx hm
      by_cases hlt : k < sa.length
      · obtain ⟨hl, ba, oa, rfl, hc⟩ := ha'.2 k hlt
        cases hq : nameOk (nth sa k)
        · have HF : Hid (thingsOk sa = false) := thingsOk_no hlt (by rw [hq]; rfl)
          go_wp2
          go_quiet ((go_at_call 44; exact Calls.quiet_of_same (l1NameOk_any _ _ hl)))
          go_wp2
          go_ret
          exact ⟨ret_bool HF.out.symm, drewN_tr HM.out ⟨_, rfl⟩⟩
        · by_cases h0 : k = 0
          · subst h0
            have HQ : Hid ((nameOk (nth sa 0) && up sa 0) = true) := by rw [hq]; rfl
            simp only [Nat.add_zero] at hc
            go_wp2
            go_quiet ((go_at_call 44; exact Calls.quiet_of_same (l1NameOk_any _ _ hl)))
            go_wp2
            go_roundw
            case rel => exact ⟨1, by omega, rfl, drewN_tr HM.out ⟨_, rfl⟩, fun j hj => by
              have e : j = 0 := by omega
              rw [e]; exact HQ.out⟩
            case measure => simp [intOf]; omega
          · obtain ⟨p, rfl⟩ : ∃ p, k = p + 1 := ⟨k - 1, by omega⟩
            obtain ⟨_, ba', oa', e', hc'⟩ := ha'.2 p (by omega)
            injection e' with e'; injection e' with e1 e2; subst e1 e2
            have hd : decide ((0 : Int) < (p : Int) + 1) = true := by simp
            cases hu : Op.bytesLess (nth sa p) (nth sa (p + 1))
            · have HF : Hid (thingsOk sa = false) := thingsOk_no hlt (by simp [up, hu])
              go_wp2
              go_quiet ((go_at_call 44; exact Calls.quiet_of_same (l1NameOk_any _ _ hl)))
              go_wp2
              go_ret
              exact ⟨ret_bool HF.out.symm, drewN_tr HM.out ⟨_, rfl⟩⟩
            · have HQ : Hid ((nameOk (nth sa (p + 1)) && up sa (p + 1)) = true) := by show _ = true; simp [up, hu, hq]
              go_wp2
              go_quiet ((go_at_call 44; exact Calls.quiet_of_same (l1NameOk_any _ _ hl)))
              go_wp2
              go_roundw
              case rel => exact ⟨p + 1 + 1, by omega, by go_num, drewN_tr HM.out ⟨_, rfl⟩, fun j hj => by
                by_cases e : j = p + 1
                · rw [e]; exact HQ.out
                · exact HX.out j (by omega)⟩
              case measure => simp [intOf]; omega
      · have HF : Hid (thingsOk sa = true) := by
          show _ = true
          simp only [thingsOk, h8, decide_true, Bool.true_and]
          exact allLt_of (fun j hj => HX.out j (by omega))
        go_wp2
        go_ret
        exact ⟨ret_bool HF.out.symm, HM.out⟩
  · have HF : Hid (thingsOk sa = false) := by show _ = false; simp [thingsOk, h8]
    go_enter Try.func43, Try.ntmps43
    go_wp2
    go_ret
    exact ⟨ret_bool HF.out.symm, 0, rfl⟩

set_option maxHeartbeats 400000 in
theorem szStringS_any (a : Option Addr) (ca : Nat) (sa : List Str) (left : Int) (w : World) (ha : StrsAt w a sa) (h0 : 0 ≤ left) (h1 : left ≤ 1048576) :
    Calls Try.prog 27 #[.slice a sa.length ca, .int .i64 left] w fun e w' => (∃ r : Int, e = .returned (.int .i64 r) ∧ -1 ≤ r ∧ r ≤ 1048576) ∧ w' = w := by
  have hn := ha.1
  by_cases hneg : left - sa.length < 0
  · go_enter Try.func27, Try.ntmps27
    go_wp2
    go_ret
    exact ⟨⟨-1, rfl, by omega, by omega⟩, rfl⟩
  · go_enter Try.func27, Try.ntmps27
    go_wp2
    go_loop [1, 5] (fun l i => ∃ (k : Nat) (x : Int), k ≤ sa.length ∧ i = .int .i64 k ∧ l = .int .i64 x ∧ 0 ≤ x ∧ x ≤ 1048576) (fun _ i => sa.length - (intOf i).toNat)
    case atStart => exact ⟨0, _, Nat.zero_le _, rfl, rfl, by omega, by omega⟩
    case round =>
      obtain ⟨k, x, hk, rfl, rfl, hx0, hx1⟩ := hrel
      by_cases hlt : k < sa.length
      · obtain ⟨hl, ba, oa, rfl, hc⟩ := ha.2 k hlt
        by_cases hq : x - (nth sa k).length < 0
        · go_wp2
          go_ret
          exact ⟨⟨-1, rfl, by omega, by omega⟩, rfl⟩
        · go_wp2
          go_round
          case rel => exact ⟨k + 1, _, by omega, by go_num, rfl, by omega, by omega⟩
          case measure => simp [intOf]; omega
      · go_wp2
        go_ret
        exact ⟨⟨_, rfl, by omega, by omega⟩, rfl⟩

end Go.Proofs.Ytdafpnpfcmgfcaa
