/- Walks over the small functions that read lists of names. Walks over names and sizes. Walks over equality of lists, and over sizes of batches and books. Walks over the copies of lists of names. -/
import Derived.Test.YtdafpnpfcmgfcabGreatDoorChecked
import Derived.Test.YtdafpnpfcmgfcabGreatDoorMem
import Derived.WalkSpells
import Derived.WalkLawsBesides
import Derived.Deep.QuietTactic
import Derived.BigQuiet
import Derived.Deep.OwnRows
namespace Go.Proofs.YtdafpnpfcmgfcabGreatDoor
open Go.RowKit
attribute [local go_sem] S_toList S_size

theorem ret_bool {a b : Bool} (h : a = b) : Ending.returned (.bool a) = .returned (.bool b) := by rw [h]
theorem ret_int {k : IntKind} {a b : Int} (h : a = b) : Ending.returned (.int k a) = .returned (.int k b) := by rw [h]

set_option maxHeartbeats 400000 in
theorem l1Has_any (a : Option Addr) (cap : Nat) (ss : List Str) (x : Str) (w : World) (hs : StrsAt w a ss) :
    Calls Tryz.prog 36 #[.slice a ss.length cap, .string (S x)] w fun e w' => e = .returned (.bool (hasB ss x)) ∧ w' = w := by
  have hn := hs.1
  go_enter Tryz.func36, Tryz.ntmps36
  go_wp2
  go_loop [5] (fun i => ∃ k : Nat, k ≤ ss.length ∧ i = .int .i64 k ∧ ∀ j, j < k → (nth ss j == x) = false) (fun i => ss.length - (intOf i).toNat)
  case atStart => exact ⟨0, Nat.zero_le _, rfl, fun j hj => by omega⟩
  case round =>
    obtain ⟨k, hk, rfl, hx⟩ := hrel
    have HX : Hid (∀ j, j < k → (nth ss j == x) = false) := hx
    clear hx
    by_cases hlt : k < ss.length
    · obtain ⟨_, b, o, rfl, hc⟩ := hs.2 k hlt
      cases hq : (nth ss k == x)
      · go_wp2
        go_round
        case rel => exact ⟨k + 1, by omega, by go_num, fun j hj => by
          by_cases e : j = k
          · rw [e]; exact hq
          · exact HX.out j (by omega)⟩
        case measure => simp [intOf]; omega
      · have HF : Hid (hasB ss x = true) := hasB_of hlt hq
        go_wp2
        go_ret
        exact ⟨ret_bool HF.out.symm, rfl⟩
    · have HF : Hid (hasB ss x = false) := hasB_no (fun j hj => HX.out j (by omega))
      go_wp2
      go_ret
      exact ⟨ret_bool HF.out.symm, rfl⟩

set_option maxHeartbeats 400000 in
theorem l1Share_any (a b : Option Addr) (ca cb : Nat) (sa sb : List Str) (w : World) (ha : StrsAt w a sa) (hb : StrsAt w b sb) :
    Calls Tryz.prog 41 #[.slice a sa.length ca, .slice b sb.length cb] w fun e w' => e = .returned (.bool (shareB sa sb)) ∧ w' = w := by
  have hn := ha.1
  go_enter Tryz.func41, Tryz.ntmps41
  go_wp2
  go_loop [5] (fun i => ∃ k : Nat, k ≤ sa.length ∧ i = .int .i64 k ∧ ∀ j, j < k → hasB sb (nth sa j) = false) (fun i => sa.length - (intOf i).toNat)
  case atStart => exact ⟨0, Nat.zero_le _, rfl, fun j hj => by omega⟩
  case round =>
    obtain ⟨k, hk, rfl, hx⟩ := hrel
    have HX : Hid (∀ j, j < k → hasB sb (nth sa j) = false) := hx
    clear hx
    by_cases hlt : k < sa.length
    · obtain ⟨_, ba, oa, rfl, hc⟩ := ha.2 k hlt
      cases hq : hasB sb (nth sa k)
      · have HQ : Hid (hasB sb (nth sa k) = false) := hq
        go_wp2_with (go_at_call 36; refine (l1Has_any _ _ _ _ _ hb).mono ?_; rintro e w' ⟨rfl, rfl⟩)
        go_round
        case rel => exact ⟨k + 1, by omega, by go_num, fun j hj => by
          by_cases e : j = k
          · rw [e]; exact HQ.out
          · exact HX.out j (by omega)⟩
        case measure => simp [intOf]; omega
      · have HF : Hid (shareB sa sb = true) := anyLt_of hlt hq
        go_wp2_with (go_at_call 36; refine (l1Has_any _ _ _ _ _ hb).mono ?_; rintro e w' ⟨rfl, rfl⟩)
        go_ret
        exact ⟨ret_bool HF.out.symm, rfl⟩
    · have HF : Hid (shareB sa sb = false) := anyLt_no (fun j hj => HX.out j (by omega))
      go_wp2
      go_ret
      exact ⟨ret_bool HF.out.symm, rfl⟩

theorem drewN_tr {w wr wz : World} (h : ∃ m, wr = w.drewN m) (k : ∃ m, wz = wr.drewN m) : ∃ m, wz = w.drewN m := by
  obtain ⟨m, rfl⟩ := h; obtain ⟨n, rfl⟩ := k; exact ⟨m + n, by simp⟩
theorem StrsAt.draws {w wr : World} {a : Option Addr} {ss : List Str} (h : StrsAt w a ss) (e : ∃ m, wr = w.drewN m) : StrsAt wr a ss := by
  obtain ⟨m, rfl⟩ := e; exact h.drewN m

set_option maxHeartbeats 400000 in
theorem l1NamesOk_any (a b : Option Addr) (ca cb : Nat) (sa sb : List Str) (w : World) (ha : StrsAt w a sa) (hb : StrsAt w b sb) :
    Calls Tryz.prog 25 #[.slice a sa.length ca, .slice b sb.length cb] w fun e w' => e = .returned (.bool (namesOk sa sb)) ∧ ∃ n, w' = w.drewN n := by
  have hn := ha.1
  go_enter Tryz.func25, Tryz.ntmps25
  go_wp2
  go_loopw [5] (fun i wr => ∃ k : Nat, k ≤ sa.length ∧ i = .int .i64 k ∧ (∃ m, wr = w.drewN m) ∧ ∀ j, j < k → (hasB sb (nth sa j) && up sa j) = true) (fun i _ => sa.length - (intOf i).toNat)
  case atStart => exact ⟨0, Nat.zero_le _, rfl, ⟨0, rfl⟩, fun j hj => by omega⟩
  case round =>
    obtain ⟨k, hk, rfl, hm, hx⟩ := hrel
    have HX : Hid (∀ j, j < k → (hasB sb (nth sa j) && up sa j) = true) := hx
    have ha' := ha.draws hm
    have hb' := hb.draws hm
    have HM : Hid (∃ m, wr = w.drewN m) := hm
    clear hx hm
    by_cases hlt : k < sa.length
    · obtain ⟨_, ba, oa, rfl, hc⟩ := ha'.2 k hlt
      cases hq : hasB sb (nth sa k)
      · have HF : Hid (namesOk sa sb = false) := allLt_no hlt (by rw [hq]; rfl)
        go_wp2
        go_quiet ((go_at_call 36; refine Calls.quiet_of_same (l1Has_any _ _ _ _ _ ?_); exact hb'.drewN _))
        go_wp2
        go_ret
        exact ⟨ret_bool HF.out.symm, drewN_tr HM.out ⟨_, rfl⟩⟩
      · by_cases h0 : k = 0
        · subst h0
          have HQ : Hid ((hasB sb (nth sa 0) && up sa 0) = true) := by rw [hq]; rfl
          simp only [Nat.add_zero] at hc
          go_wp2
          go_quiet ((go_at_call 36; refine Calls.quiet_of_same (l1Has_any _ _ _ _ _ ?_); exact hb'.drewN _))
          go_wp2
          go_roundw
          case rel => exact ⟨1, by omega, rfl, drewN_tr HM.out ⟨_, rfl⟩, fun j hj => by
            have e : j = 0 := by omega
            rw [e]; exact HQ.out⟩
          case measure => simp [intOf]; omega
        · obtain ⟨p, rfl⟩ : ∃ p, k = p + 1 := ⟨k - 1, by omega⟩
          obtain ⟨_, ba', oa', e', hc'⟩ := ha'.2 p (by omega)
          injection e' with e'; injection e' with e1 e2; subst e1 e2
          have hd : decide ((0 : Int) < (p : Int) + 1) = true := by simp
          cases hu : Op.bytesLess (nth sa p) (nth sa (p + 1))
          · have HF : Hid (namesOk sa sb = false) := allLt_no hlt (by simp [up, hu])
            go_wp2
            go_quiet ((go_at_call 36; refine Calls.quiet_of_same (l1Has_any _ _ _ _ _ ?_); exact hb'.drewN _))
            go_wp2
            go_ret
            exact ⟨ret_bool HF.out.symm, drewN_tr HM.out ⟨_, rfl⟩⟩
          · have HQ : Hid ((hasB sb (nth sa (p + 1)) && up sa (p + 1)) = true) := by show _ = true; simp [up, hu, hq]
            go_wp2
            go_quiet ((go_at_call 36; refine Calls.quiet_of_same (l1Has_any _ _ _ _ _ ?_); exact hb'.drewN _))
            go_wp2
            go_roundw
            case rel => exact ⟨p + 1 + 1, by omega, by go_num, drewN_tr HM.out ⟨_, rfl⟩, fun j hj => by
              by_cases e : j = p + 1
              · rw [e]; exact HQ.out
              · exact HX.out j (by omega)⟩
            case measure => simp [intOf]; omega
    · have HF : Hid (namesOk sa sb = true) := allLt_of (fun j hj => HX.out j (by omega))
      go_wp2
      go_ret
      exact ⟨ret_bool HF.out.symm, HM.out⟩

end Go.Proofs.YtdafpnpfcmgfcabGreatDoor
namespace Go.Proofs.YtdafpnpfcmgfcabGreatDoor
open Go.RowKit
attribute [local go_sem] S_toList S_size S_get

set_option maxHeartbeats 400000 in
theorem l1In_any (a b c : Int) (w : World) :
    Calls Tryz.prog 49 #[.int .i64 a, .int .i64 b, .int .i64 c] w fun e w' => e = .returned (.bool (decide (b ≤ a ∧ a ≤ c))) ∧ w' = w := by
  by_cases h1 : b ≤ a
  · by_cases h2 : a ≤ c
    all_goals
      go_enter Tryz.func49, Tryz.ntmps49
      go_wp2
      go_ret
      exact ⟨ret_bool (by simp [h1, h2]), rfl⟩
  · go_enter Tryz.func49, Tryz.ntmps49
    go_wp2
    go_ret
    exact ⟨ret_bool (by simp; omega), rfl⟩

set_option maxHeartbeats 400000 in
theorem l1NameOk_any (s : Str) (w : World) (hs : s.length ≤ 140737488355328) :
    Calls Tryz.prog 40 #[.string (S s)] w fun e w' => e = .returned (.bool (nameOk s)) ∧ w' = w := by
  by_cases h : 1 ≤ s.length ∧ s.length ≤ 8
  · have hd : decide ((1 : Int) ≤ (s.length : Int) ∧ (s.length : Int) ≤ 8) = true := by simp; omega
    go_enter Tryz.func40, Tryz.ntmps40
    go_wp2_with (go_at_call 49; refine (l1In_any _ _ _ _).mono ?_; rintro e w' ⟨rfl, rfl⟩)
    go_loop [3, 4] (fun i _ => ∃ k : Nat, k ≤ s.length ∧ i = .int .i64 k ∧ ∀ j, j < k → nameByte (bat s j) = true) (fun i _ => s.length - (intOf i).toNat)
    case atStart => exact ⟨0, Nat.zero_le _, rfl, fun j hj => by omega⟩
    case round =>
      obtain ⟨k, hk, rfl, hx⟩ := hrel
      have HX : Hid (∀ j, j < k → nameByte (bat s j) = true) := hx
      clear hx
      by_cases hlt : k < s.length
      · rcases nameByte_cases (bat s k) with hy | hno
        · have HY : Hid (nameByte (bat s k) = true) := nameByte_yes hy
          rcases hy with hy | hy | hy
          rotate_right
          have h45 : (((bat s k).toNat : Int) == 45) = true := by simp; omega
          rotate_left
          all_goals
            obtain ⟨hy1, hy2⟩ := hy
            go_wp2
            go_round
            case rel => exact ⟨k + 1, by omega, by go_num, fun j hj => by
              by_cases e : j = k
              · rw [e]; exact HY.out
              · exact HX.out j (by omega)⟩
            case measure => simp [intOf]; omega
        · have HF : Hid (nameOk s = false) := nameOk_no hlt (nameByte_no hno)
          have h45 : (((bat s k).toNat : Int) == 45) = false := by simp; omega
          rcases hno with hy | hy | hy | hy
          · go_wp2
            go_ret
            exact ⟨ret_bool HF.out.symm, rfl⟩
          · obtain ⟨hy1, hy2⟩ := hy
            go_wp2
            go_ret
            exact ⟨ret_bool HF.out.symm, rfl⟩
          · obtain ⟨hy1, hy2⟩ := hy
            have hd5 : decide (((bat s k).toNat : Int) ≤ 57) = false := by simp; omega
            go_wp2
            go_ret
            exact ⟨ret_bool HF.out.symm, rfl⟩
          · have hd5 : decide (((bat s k).toNat : Int) ≤ 57) = false := by simp; omega
            have hd6 : decide (((bat s k).toNat : Int) ≤ 122) = false := by simp; omega
            go_wp2
            go_ret
            exact ⟨ret_bool HF.out.symm, rfl⟩
      · have HF : Hid (nameOk s = true) := by
          show _ = true
          simp only [nameOk, h, and_self, decide_true, Bool.true_and]
          exact allLt_of (fun j hj => HX.out j (by omega))
        go_wp2
        go_ret
        exact ⟨ret_bool HF.out.symm, rfl⟩
  · have hd : decide ((1 : Int) ≤ (s.length : Int) ∧ (s.length : Int) ≤ 8) = false := by simp; omega
    have HF : Hid (nameOk s = false) := by show _ = false; simp [nameOk, h]
    go_enter Tryz.func40, Tryz.ntmps40
    go_wp2_with (go_at_call 49; refine (l1In_any _ _ _ _).mono ?_; rintro e w' ⟨rfl, rfl⟩)
    go_ret
    exact ⟨ret_bool HF.out.symm, rfl⟩

set_option maxHeartbeats 400000 in
theorem l1ThingsOk_any (a : Option Addr) (ca : Nat) (sa : List Str) (w : World) (ha : StrsAt w a sa) :
    Calls Tryz.prog 39 #[.slice a sa.length ca] w fun e w' => e = .returned (.bool (thingsOk sa)) ∧ ∃ n, w' = w.drewN n := by
  have hn := ha.1
  by_cases h8 : sa.length ≤ 8
  · go_enter Tryz.func39, Tryz.ntmps39
    go_wp2
    go_loopw [3] (fun i wr => ∃ k : Nat, k ≤ sa.length ∧ i = .int .i64 k ∧ (∃ m, wr = w.drewN m) ∧ ∀ j, j < k → (nameOk (nth sa j) && up sa j) = true) (fun i _ => sa.length - (intOf i).toNat)
    case atStart => exact ⟨0, Nat.zero_le _, rfl, ⟨0, rfl⟩, fun j hj => by omega⟩
    case round =>
      obtain ⟨k, hk, rfl, hm, hx⟩ := hrel
      have HX : Hid (∀ j, j < k → (nameOk (nth sa j) && up sa j) = true) := hx
      have ha' := ha.draws hm
      have HM : Hid (∃ m, wr = w.drewN m) := hm
      clear hx hm
      by_cases hlt : k < sa.length
      · obtain ⟨hl, ba, oa, rfl, hc⟩ := ha'.2 k hlt
        cases hq : nameOk (nth sa k)
        · have HF : Hid (thingsOk sa = false) := thingsOk_no hlt (by rw [hq]; rfl)
          go_wp2
          go_quiet ((go_at_call 40; exact Calls.quiet_of_same (l1NameOk_any _ _ hl)))
          go_wp2
          go_ret
          exact ⟨ret_bool HF.out.symm, drewN_tr HM.out ⟨_, rfl⟩⟩
        · by_cases h0 : k = 0
          · subst h0
            have HQ : Hid ((nameOk (nth sa 0) && up sa 0) = true) := by rw [hq]; rfl
            simp only [Nat.add_zero] at hc
            go_wp2
            go_quiet ((go_at_call 40; exact Calls.quiet_of_same (l1NameOk_any _ _ hl)))
            go_wp2
            go_roundw
            case rel => exact ⟨1, by omega, rfl, drewN_tr HM.out ⟨_, rfl⟩, fun j hj => by
              have e : j = 0 := by omega
              rw [e]; exact HQ.out⟩
            case measure => simp [intOf]; omega
          · obtain ⟨p, rfl⟩ : ∃ p, k = p + 1 := ⟨k - 1, by omega⟩
            obtain ⟨_, ba', oa', e', hc'⟩ := ha'.2 p (by omega)
            injection e' with e'; injection e' with e1 e2; subst e1 e2
            have hd : decide ((0 : Int) < (p : Int) + 1) = true := by simp
            cases hu : Op.bytesLess (nth sa p) (nth sa (p + 1))
            · have HF : Hid (thingsOk sa = false) := thingsOk_no hlt (by simp [up, hu])
              go_wp2
              go_quiet ((go_at_call 40; exact Calls.quiet_of_same (l1NameOk_any _ _ hl)))
              go_wp2
              go_ret
              exact ⟨ret_bool HF.out.symm, drewN_tr HM.out ⟨_, rfl⟩⟩
            · have HQ : Hid ((nameOk (nth sa (p + 1)) && up sa (p + 1)) = true) := by show _ = true; simp [up, hu, hq]
              go_wp2
              go_quiet ((go_at_call 40; exact Calls.quiet_of_same (l1NameOk_any _ _ hl)))
              go_wp2
              go_roundw
              case rel => exact ⟨p + 1 + 1, by omega, by go_num, drewN_tr HM.out ⟨_, rfl⟩, fun j hj => by
                by_cases e : j = p + 1
                · rw [e]; exact HQ.out
                · exact HX.out j (by omega)⟩
              case measure => simp [intOf]; omega
      · have HF : Hid (thingsOk sa = true) := by
          show _ = true
          simp only [thingsOk, h8, decide_true, Bool.true_and]
          exact allLt_of (fun j hj => HX.out j (by omega))
        go_wp2
        go_ret
        exact ⟨ret_bool HF.out.symm, HM.out⟩
  · have HF : Hid (thingsOk sa = false) := by show _ = false; simp [thingsOk, h8]
    go_enter Tryz.func39, Tryz.ntmps39
    go_wp2
    go_ret
    exact ⟨ret_bool HF.out.symm, 0, rfl⟩

set_option maxHeartbeats 400000 in
theorem szStringS_any (a : Option Addr) (ca : Nat) (sa : List Str) (left : Int) (w : World) (ha : StrsAt w a sa) (h0 : 0 ≤ left) (h1 : left ≤ 1048576) :
    Calls Tryz.prog 7 #[.slice a sa.length ca, .int .i64 left] w fun e w' => (∃ r : Int, e = .returned (.int .i64 r) ∧ -1 ≤ r ∧ r ≤ 1048576) ∧ w' = w := by
  have hn := ha.1
  by_cases hneg : left - sa.length < 0
  · go_enter Tryz.func7, Tryz.ntmps7
    go_wp2
    go_ret
    exact ⟨⟨-1, rfl, by omega, by omega⟩, rfl⟩
  · go_enter Tryz.func7, Tryz.ntmps7
    go_wp2
    go_loop [1, 5] (fun l i => ∃ (k : Nat) (x : Int), k ≤ sa.length ∧ i = .int .i64 k ∧ l = .int .i64 x ∧ 0 ≤ x ∧ x ≤ 1048576) (fun _ i => sa.length - (intOf i).toNat)
    case atStart => exact ⟨0, _, Nat.zero_le _, rfl, rfl, by omega, by omega⟩
    case round =>
      obtain ⟨k, x, hk, rfl, rfl, hx0, hx1⟩ := hrel
      by_cases hlt : k < sa.length
      · obtain ⟨hl, ba, oa, rfl, hc⟩ := ha.2 k hlt
        by_cases hq : x - (nth sa k).length < 0
        · go_wp2
          go_ret
          exact ⟨⟨-1, rfl, by omega, by omega⟩, rfl⟩
        · go_wp2
          go_round
          case rel => exact ⟨k + 1, _, by omega, by go_num, rfl, by omega, by omega⟩
          case measure => simp [intOf]; omega
      · go_wp2
        go_ret
        exact ⟨⟨_, rfl, by omega, by omega⟩, rfl⟩

end Go.Proofs.YtdafpnpfcmgfcabGreatDoor
namespace Go.Proofs.YtdafpnpfcmgfcabGreatDoor
open Go.RowKit
attribute [local go_sem] S_toList S_size S_get

def eqS (a b : List Str) : Bool := decide (a = b)
theorem eqS_len {a b : List Str} (h : a.length ≠ b.length) : eqS a b = false := by
  simp only [eqS, decide_eq_false_iff_not]; exact fun e => h (by rw [e])
theorem eqS_no {a b : List Str} {k : Nat} (h : (nth a k == nth b k) = false) : eqS a b = false := by
  simp only [eqS, decide_eq_false_iff_not]; intro e; rw [e] at h; simp at h
theorem eqS_yes {a b : List Str} (hl : a.length = b.length) (h : ∀ k, k < a.length → (nth a k == nth b k) = true) : eqS a b = true := by
  simp only [eqS, decide_eq_true_eq]
  refine List.ext_getElem hl (fun i h1 h2 => ?_)
  have := eq_of_beq (h i h1)
  rwa [nth_get h1, nth_get h2] at this

set_option maxHeartbeats 400000 in
theorem eqStringS_any (a b : Option Addr) (ca cb : Nat) (sa sb : List Str) (w : World) (ha : StrsAt w a sa) (hb : StrsAt w b sb) :
    Calls Tryz.prog 13 #[.slice a sa.length ca, .slice b sb.length cb] w fun e w' => e = .returned (.bool (eqS sa sb)) ∧ ∃ n, w' = w.drewN n := by
  have hn := ha.1
  have hn' := hb.1
  by_cases hl : sa.length = sb.length
  · have HL := hl
    have hl' : ((sa.length : Int) == (sb.length : Int)) = true := by simp; omega
    go_enter Tryz.func13, Tryz.ntmps13
    have HL : Hid (sa.length = sb.length) := hl
    have hle : sa.length ≤ sb.length := by omega
    clear hl
    go_wp2
    go_loopw [5] (fun i wr => ∃ k : Nat, k ≤ sa.length ∧ i = .int .i64 k ∧ (∃ m, wr = w.drewN m) ∧ ∀ j, j < k → (nth sa j == nth sb j) = true) (fun i _ => sa.length - (intOf i).toNat)
    case atStart => exact ⟨0, Nat.zero_le _, rfl, ⟨0, rfl⟩, fun j hj => by omega⟩
    case round =>
      obtain ⟨k, hk, rfl, hm, hx⟩ := hrel
      have HX : Hid (∀ j, j < k → (nth sa j == nth sb j) = true) := hx
      have ha' := ha.draws hm
      have hb' := hb.draws hm
      have HM : Hid (∃ m, wr = w.drewN m) := hm
      clear hx hm
      by_cases hlt : k < sa.length
      · have hltb : k < sb.length := by omega
        obtain ⟨_, ba, oa, rfl, hc⟩ := ha'.2 k hlt
        obtain ⟨_, bb, ob, rfl, hcb⟩ := hb'.2 k hltb
        cases hq : (nth sa k == nth sb k)
        · have HF : Hid (eqS sa sb = false) := eqS_no hq
          go_wp2
          go_quiet (fail)
          go_wp2
          go_ret
          exact ⟨ret_bool HF.out.symm, drewN_tr HM.out ⟨_, rfl⟩⟩
        · have HQ : Hid ((nth sa k == nth sb k) = true) := hq
          go_wp2
          go_quiet (fail)
          go_wp2
          go_roundw
          case rel => exact ⟨k + 1, by omega, by go_num, drewN_tr HM.out ⟨_, rfl⟩, fun j hj => by
            by_cases e : j = k
            · rw [e]; exact HQ.out
            · exact HX.out j (by omega)⟩
          case measure => simp [intOf]; omega
      · have HF : Hid (eqS sa sb = true) := eqS_yes HL.out (fun j hj => HX.out j (by omega))
        go_wp2
        go_ret
        exact ⟨ret_bool HF.out.symm, HM.out⟩
  · have hl' : ((sa.length : Int) == (sb.length : Int)) = false := by simp; omega
    have HF : Hid (eqS sa sb = false) := eqS_len hl
    go_enter Tryz.func13, Tryz.ntmps13
    go_wp2
    go_ret
    exact ⟨ret_bool HF.out.symm, 0, rfl⟩

set_option maxHeartbeats 400000 in
theorem szShareBatch_any (x : Batch) (a1 a2 : Option Addr) (c1 c2 : Nat) (left : Int) (w : World) (hl : x.name.length ≤ 140737488355328)
    (h1 : StrsAt w a1 x.has) (h2 : StrsAt w a2 x.needs) (g0 : 0 ≤ left) (g1 : left ≤ 1048576) :
    Calls Tryz.prog 38 #[.agg #[.string (S x.name), .slice a1 x.has.length c1, .slice a2 x.needs.length c2], .int .i64 left] w fun e w' =>
      (∃ r : Int, e = .returned (.int .i64 r) ∧ -1 ≤ r ∧ r ≤ 1048576) ∧ Ext w w' := by
  have hal : ∀ o, Ext w (w.alloc o) := fun o => (Below.refl _ _).alloc (Nat.le_refl _) _
  by_cases hneg : left - x.name.length < 0
  · go_enter Tryz.func38, Tryz.ntmps38
    go_wp2
    go_ret
    exact ⟨⟨-1, rfl, by omega, by omega⟩, hal _⟩
  · go_enter Tryz.func38, Tryz.ntmps38
    go_wp2_with fail
    refine (szStringS_any _ _ _ _ _ (h1.ext (hal _)) (by omega) (by omega)).mono ?_
    rintro e w' ⟨⟨r, rfl, hr1, hr2⟩, rfl⟩
    by_cases hr : r < 0
    · go_wp2_with fail
      go_ret
      exact ⟨⟨-1, rfl, by omega, by omega⟩, hal _⟩
    · go_wp2_with fail
      refine (szStringS_any _ _ _ _ _ (h2.ext (hal _)) (by omega) (by omega)).mono ?_
      rintro e w' ⟨⟨r', rfl, hr1', hr2'⟩, rfl⟩
      by_cases hr' : r' < 0
      · go_wp2_with fail
        go_ret
        exact ⟨⟨-1, rfl, by omega, by omega⟩, hal _⟩
      · go_wp2_with fail
        go_ret
        exact ⟨⟨_, rfl, by omega, by omega⟩, hal _⟩

end Go.Proofs.YtdafpnpfcmgfcabGreatDoor
namespace Go.Proofs.YtdafpnpfcmgfcabGreatDoor
open Go.RowKit
attribute [local go_sem] S_toList S_size S_get

theorem Tryz.infoStr : (Tryz.prog.info? 9).map (fun i => (i.zero, i.size, i.bytes)) = some (some (.string (S [])), 1, 16) := by kernel_rfl

/-- A new row of names. -/
def OwnStrs (w : World) (b : Nat) (ss : List Str) : Prop :=
  ss.length ≤ 8796093022208 ∧ (∀ i, i < ss.length → (nth ss i).length ≤ 140737488355328) ∧ w.rowIs b 9 ss.length (fun j => .string (S (nth ss j)))

theorem OwnStrs.at {w : World} {b : Nat} {ss : List Str} (h : OwnStrs w b ss) : StrsAt w (some ⟨b, 0, none⟩) ss :=
  ⟨h.1, fun i hi => ⟨h.2.1 i hi, b, 0, rfl, by rw [Nat.zero_add]; exact h.2.2.cell hi⟩⟩
theorem OwnStrs.ext {w w' : World} {b : Nat} {ss : List Str} (h : OwnStrs w b ss) (e : Ext w w') : OwnStrs w' b ss :=
  ⟨h.1, h.2.1, h.2.2.of_block (e.block b h.2.2.lt)⟩
theorem OwnStrs.setOther {w : World} {b : Nat} {ss : List Str} (h : OwnStrs w b ss) {a : Addr} (ha : b ≠ a.block) (v : Value) : OwnStrs (w.setCell a v) b ss :=
  ⟨h.1, h.2.1, h.2.2.setOther ha v⟩

def halfS (ss : List Str) (k : Nat) : Nat → Value := fun j => if j < k then .string (S (nth ss j)) else .string (S [])

set_option maxHeartbeats 400000 in
theorem toStringS_any (a : Option Addr) (ca : Nat) (sa : List Str) (w : World) (ha : StrsAt w a sa) :
    Calls Tryz.prog 10 #[.slice a sa.length ca] w fun e w' =>
      e = .returned (.slice (some ⟨w.heap.size, 0, none⟩) sa.length sa.length) ∧ Ext w w' ∧ OwnStrs w' w.heap.size sa := by
  have hn := ha.1
  have hmk := run_make_row' (P := Tryz.prog) 22 9 (.string (S [])) 16 Tryz.underlying22 Tryz.infoStr rfl .i64 .i64 sa.length (by omega) (by omega)
  go_enter Tryz.func10, Tryz.ntmps10
  go_wp2
  clear hmk
  go_loopw [4] (fun i wr => ∃ k : Nat, k ≤ sa.length ∧ i = .int .i64 k ∧ Below w.heap.size w wr ∧ wr.rowIs w.heap.size 9 sa.length (halfS sa k)) (fun i _ => sa.length - (intOf i).toNat)
  case atStart => exact ⟨0, Nat.zero_le _, rfl, (Below.refl _ _).alloc (Nat.le_refl _) _, (World.rowIs_made w (.string (S [])) sa.length 9).congr (fun i _ => by simp [halfS])⟩
  case round =>
    obtain ⟨k, hk, rfl, hbel, hrow⟩ := hrel
    have HB : Hid (Below w.heap.size w wr) := hbel
    have ha' : StrsAt wr a sa := ha.ext hbel
    by_cases hlt : k < sa.length
    · obtain ⟨hl, ba, oa, rfl, hc⟩ := ha'.2 k hlt
      have hcell := hrow.cell hlt
      have hfr := hrow.frozen k
      have HR : Hid (wr.rowIs w.heap.size 9 sa.length (halfS sa k)) := hrow
      clear hrow hbel
      go_wp2
      go_roundw
      case rel => exact ⟨k + 1, by omega, by go_num, HB.out.setCell (Nat.le_refl _) _, (HR.out.set k _).congr (fun j hj => by
        by_cases e : j = k
        · simp [e, halfS]
        · have : (j < k + 1) = (j < k) := by simp; omega
          simp [e, halfS, this])⟩
      case measure => simp [intOf]; omega
    · have HR : Hid (wr.rowIs w.heap.size 9 sa.length (halfS sa k)) := hrow
      clear hrow hbel
      go_wp2
      go_ret
      exact ⟨rfl, HB.out, ⟨hn, fun i hi => (ha.2 i hi).1, HR.out.congr (fun j hj => by simp [halfS]; omega)⟩⟩
end Go.Proofs.YtdafpnpfcmgfcabGreatDoor
