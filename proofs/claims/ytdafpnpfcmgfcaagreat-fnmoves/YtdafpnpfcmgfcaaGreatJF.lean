/- Walks over the small functions that read lists of names. Walks over names and sizes. Walks over equality of lists, and over sizes of batches and books. Walks over the copies of lists of names. Walks over the copies of batches and books. Walks over the copies of lists of batches, and of books. Walks over whole books: their copies, their sizes. Walks over equality of batches and books, where both are the same. -/
import Derived.Test.YtdafpnpfcmgfcaaGreatQp
import Derived.Test.YtdafpnpfcmgfcaaGreatKB
import Derived.WalkSpells
import Derived.WalkLawsBesides
import Derived.Deep.QuietTactic
import Derived.BigQuiet
import Derived.Deep.OwnRows
import Derived.Deep.RegionWith
import Derived.Deep.DeepCutAuto
namespace Go.Proofs.YtdafpnpfcmgfcaaGreat
open Go.RowKit
attribute [local go_sem] S_toList S_size

theorem ret_bool {a b : Bool} (h : a = b) : Ending.returned (.bool a) = .returned (.bool b) := by rw [h]
theorem ret_int {k : IntKind} {a b : Int} (h : a = b) : Ending.returned (.int k a) = .returned (.int k b) := by rw [h]

set_option maxHeartbeats 400000 in
theorem l1Has_any (a : Option Addr) (cap : Nat) (ss : List Str) (x : Str) (w : World) (hs : StrsAt w a ss) :
    Calls Qry.prog 43 #[.slice a ss.length cap, .string (S x)] w fun e w' => e = .returned (.bool (hasB ss x)) ∧ w' = w := by
  have hn := hs.1
  go_enter Qry.func43, Tryz.ntmps43
  go_wp2
  go_loop [5] (fun i => ∃ k : Nat, k ≤ ss.length ∧ i = .int .i64 k ∧ ∀ j, j < k → (nth ss j == x) = false) (fun i => ss.length - (intOf i).toNat)
  case atStart => exact ⟨0, Nat.zero_le _, rfl, fun j hj => by omega⟩
  case round =>
    obtain ⟨k, hk, rfl, hx⟩ := hrel
    have HX : Hid (∀ j, j < k → (nth ss j == x) = false) := hx
    clear hx
    by_cases hlt : k < ss.length
    · obtain ⟨_, b, o, rfl, hc⟩ := hs.2 k hlt
      cases hq : (nth ss k == x)
      · go_wp2
        go_round
        case rel => exact ⟨k + 1, by omega, by go_num, fun j hj => by
          by_cases e : j = k
          · rw [e]; exact hq
          · exact HX.out j (by omega)⟩
        case measure => simp [intOf]; omega
      · have HF : Hid (hasB ss x = true) := hasB_of hlt hq
        go_wp2
        go_ret
        exact ⟨ret_bool HF.out.symm, rfl⟩
    · have HF : Hid (hasB ss x = false) := hasB_no (fun j hj => HX.out j (by omega))
      go_wp2
      go_ret
      exact ⟨ret_bool HF.out.symm, rfl⟩

set_option maxHeartbeats 400000 in
theorem l1Share_any (a b : Option Addr) (ca cb : Nat) (sa sb : List Str) (w : World) (ha : StrsAt w a sa) (hb : StrsAt w b sb) :
    Calls Qry.prog 27 #[.slice a sa.length ca, .slice b sb.length cb] w fun e w' => e = .returned (.bool (shareB sa sb)) ∧ w' = w := by
  have hn := ha.1
  go_enter Qry.func27, Tryz.ntmps27
  go_wp2
  go_loop [5] (fun i => ∃ k : Nat, k ≤ sa.length ∧ i = .int .i64 k ∧ ∀ j, j < k → hasB sb (nth sa j) = false) (fun i => sa.length - (intOf i).toNat)
  case atStart => exact ⟨0, Nat.zero_le _, rfl, fun j hj => by omega⟩
  case round =>
    obtain ⟨k, hk, rfl, hx⟩ := hrel
    have HX : Hid (∀ j, j < k → hasB sb (nth sa j) = false) := hx
    clear hx
    by_cases hlt : k < sa.length
    · obtain ⟨_, ba, oa, rfl, hc⟩ := ha.2 k hlt
      cases hq : hasB sb (nth sa k)
      · have HQ : Hid (hasB sb (nth sa k) = false) := hq
        go_wp2_with (go_at_call 43; refine (l1Has_any _ _ _ _ _ hb).mono ?_; rintro e w' ⟨rfl, rfl⟩)
        go_round
        case rel => exact ⟨k + 1, by omega, by go_num, fun j hj => by
          by_cases e : j = k
          · rw [e]; exact HQ.out
          · exact HX.out j (by omega)⟩
        case measure => simp [intOf]; omega
      · have HF : Hid (shareB sa sb = true) := anyLt_of hlt hq
        go_wp2_with (go_at_call 43; refine (l1Has_any _ _ _ _ _ hb).mono ?_; rintro e w' ⟨rfl, rfl⟩)
        go_ret
        exact ⟨ret_bool HF.out.symm, rfl⟩
    · have HF : Hid (shareB sa sb = false) := anyLt_no (fun j hj => HX.out j (by omega))
      go_wp2
      go_ret
      exact ⟨ret_bool HF.out.symm, rfl⟩

theorem drewN_tr {w wr wz : World} (h : ∃ m, wr = w.drewN m) (k : ∃ m, wz = wr.drewN m) : ∃ m, wz = w.drewN m := by
  obtain ⟨m, rfl⟩ := h; obtain ⟨n, rfl⟩ := k; exact ⟨m + n, by simp⟩
theorem StrsAt.draws {w wr : World} {a : Option Addr} {ss : List Str} (h : StrsAt w a ss) (e : ∃ m, wr = w.drewN m) : StrsAt wr a ss := by
  obtain ⟨m, rfl⟩ := e; exact h.drewN m

set_option maxHeartbeats 400000 in
theorem l1NamesOk_any (a b : Option Addr) (ca cb : Nat) (sa sb : List Str) (w : World) (ha : StrsAt w a sa) (hb : StrsAt w b sb) :
    Calls Qry.prog 26 #[.slice a sa.length ca, .slice b sb.length cb] w fun e w' => e = .returned (.bool (namesOk sa sb)) ∧ ∃ n, w' = w.drewN n := by
  have hn := ha.1
  go_enter Qry.func26, Tryz.ntmps26
  go_wp2
  go_loopw [5] (fun i wr => ∃ k : Nat, k ≤ sa.length ∧ i = .int .i64 k ∧ (∃ m, wr = w.drewN m) ∧ ∀ j, j < k → (hasB sb (nth sa j) && up sa j) = true) (fun i _ => sa.length - (intOf i).toNat)
  case atStart => exact ⟨0, Nat.zero_le _, rfl, ⟨0, rfl⟩, fun j hj => by omega⟩
  case round =>
    obtain ⟨k, hk, rfl, hm, hx⟩ := hrel
    have HX : Hid (∀ j, j < k → (hasB sb (nth sa j) && up sa j) = true) := hx
    have ha' := ha.draws hm
    have hb' := hb.draws hm
    have HM : Hid (∃ m, wr = w.drewN m) := hm
    clear hx hm
    by_cases hlt : k < sa.length
    · obtain ⟨_, ba, oa, rfl, hc⟩ := ha'.2 k hlt
      cases hq : hasB sb (nth sa k)
      · have HF : Hid (namesOk sa sb = false) := allLt_no hlt (by rw [hq]; rfl)
        go_wp2
        go_quiet ((go_at_call 43; refine Calls.quiet_of_same (l1Has_any _ _ _ _ _ ?_); exact hb'.drewN _))
        go_wp2
        go_ret
        exact ⟨ret_bool HF.out.symm, drewN_tr HM.out ⟨_, rfl⟩⟩
      · by_cases h0 : k = 0
        · subst h0
          have HQ : Hid ((hasB sb (nth sa 0) && up sa 0) = true) := by rw [hq]; rfl
          simp only [Nat.add_zero] at hc
          go_wp2
          go_quiet ((go_at_call 43; refine Calls.quiet_of_same (l1Has_any _ _ _ _ _ ?_); exact hb'.drewN _))
          go_wp2
          go_roundw
          case rel => exact ⟨1, by omega, rfl, drewN_tr HM.out ⟨_, rfl⟩, fun j hj => by
            have e : j = 0 := by omega
            rw [e]; exact HQ.out⟩
          case measure => simp [intOf]; omega
        · obtain ⟨p, rfl⟩ : ∃ p, k = p + 1 := ⟨k - 1, by omega⟩
          obtain ⟨_, ba', oa', e', hc'⟩ := ha'.2 p (by omega)
          injection e' with e'; injection e' with e1 e2; subst e1 e2
          have hd : decide ((0 : Int) < (p : Int) + 1) = true := by simp
          cases hu : Op.bytesLess (nth sa p) (nth sa (p + 1))
          · have HF : Hid (namesOk sa sb = false) := allLt_no hlt (by simp [up, hu])
            go_wp2
            go_quiet ((go_at_call 43; refine Calls.quiet_of_same (l1Has_any _ _ _ _ _ ?_); exact hb'.drewN _))
            go_wp2
            go_ret
            exact ⟨ret_bool HF.out.symm, drewN_tr HM.out ⟨_, rfl⟩⟩
          · have HQ : Hid ((hasB sb (nth sa (p + 1)) && up sa (p + 1)) = true) := by show _ = true; simp [up, hu, hq]
            go_wp2
            go_quiet ((go_at_call 43; refine Calls.quiet_of_same (l1Has_any _ _ _ _ _ ?_); exact hb'.drewN _))
            go_wp2
            go_roundw
            case rel => exact ⟨p + 1 + 1, by omega, by go_num, drewN_tr HM.out ⟨_, rfl⟩, fun j hj => by
              by_cases e : j = p + 1
              · rw [e]; exact HQ.out
              · exact HX.out j (by omega)⟩
            case measure => simp [intOf]; omega
    · have HF : Hid (namesOk sa sb = true) := allLt_of (fun j hj => HX.out j (by omega))
      go_wp2
      go_ret
      exact ⟨ret_bool HF.out.symm, HM.out⟩

end Go.Proofs.YtdafpnpfcmgfcaaGreat
namespace Go.Proofs.YtdafpnpfcmgfcaaGreat
open Go.RowKit
attribute [local go_sem] S_toList S_size S_get

set_option maxHeartbeats 400000 in
theorem l1In_any (a b c : Int) (w : World) :
    Calls Qry.prog 45 #[.int .i64 a, .int .i64 b, .int .i64 c] w fun e w' => e = .returned (.bool (decide (b ≤ a ∧ a ≤ c))) ∧ w' = w := by
  by_cases h1 : b ≤ a
  · by_cases h2 : a ≤ c
    all_goals
      go_enter Qry.func45, Tryz.ntmps45
      go_wp2
      go_ret
      exact ⟨ret_bool (by simp [h1, h2]), rfl⟩
  · go_enter Qry.func45, Tryz.ntmps45
    go_wp2
    go_ret
    exact ⟨ret_bool (by simp; omega), rfl⟩

set_option maxHeartbeats 400000 in
theorem l1NameOk_any (s : Str) (w : World) (hs : s.length ≤ 140737488355328) :
    Calls Qry.prog 25 #[.string (S s)] w fun e w' => e = .returned (.bool (nameOk s)) ∧ w' = w := by
  by_cases h : 1 ≤ s.length ∧ s.length ≤ 8
  · have hd : decide ((1 : Int) ≤ (s.length : Int) ∧ (s.length : Int) ≤ 8) = true := by simp; omega
    go_enter Qry.func25, Tryz.ntmps25
    go_wp2_with (go_at_call 45; refine (l1In_any _ _ _ _).mono ?_; rintro e w' ⟨rfl, rfl⟩)
    go_loop [3, 4] (fun i _ => ∃ k : Nat, k ≤ s.length ∧ i = .int .i64 k ∧ ∀ j, j < k → nameByte (bat s j) = true) (fun i _ => s.length - (intOf i).toNat)
    case atStart => exact ⟨0, Nat.zero_le _, rfl, fun j hj => by omega⟩
    case round =>
      obtain ⟨k, hk, rfl, hx⟩ := hrel
      have HX : Hid (∀ j, j < k → nameByte (bat s j) = true) := hx
      clear hx
      by_cases hlt : k < s.length
      · rcases nameByte_cases (bat s k) with hy | hno
        · have HY : Hid (nameByte (bat s k) = true) := nameByte_yes hy
          rcases hy with hy | hy | hy
          rotate_right
          have h45 : (((bat s k).toNat : Int) == 45) = true := by simp; omega
          rotate_left
          all_goals
            obtain ⟨hy1, hy2⟩ := hy
            go_wp2
            go_round
            case rel => exact ⟨k + 1, by omega, by go_num, fun j hj => by
              by_cases e : j = k
              · rw [e]; exact HY.out
              · exact HX.out j (by omega)⟩
            case measure => simp [intOf]; omega
        · have HF : Hid (nameOk s = false) := nameOk_no hlt (nameByte_no hno)
          have h45 : (((bat s k).toNat : Int) == 45) = false := by simp; omega
          rcases hno with hy | hy | hy | hy
          · go_wp2
            go_ret
            exact ⟨ret_bool HF.out.symm, rfl⟩
          · obtain ⟨hy1, hy2⟩ := hy
            go_wp2
            go_ret
            exact ⟨ret_bool HF.out.symm, rfl⟩
          · obtain ⟨hy1, hy2⟩ := hy
            have hd5 : decide (((bat s k).toNat : Int) ≤ 57) = false := by simp; omega
            go_wp2
            go_ret
            exact ⟨ret_bool HF.out.symm, rfl⟩
          · have hd5 : decide (((bat s k).toNat : Int) ≤ 57) = false := by simp; omega
            have hd6 : decide (((bat s k).toNat : Int) ≤ 122) = false := by simp; omega
            go_wp2
            go_ret
            exact ⟨ret_bool HF.out.symm, rfl⟩
      · have HF : Hid (nameOk s = true) := by
          show _ = true
          simp only [nameOk, h, and_self, decide_true, Bool.true_and]
          exact allLt_of (fun j hj => HX.out j (by omega))
        go_wp2
        go_ret
        exact ⟨ret_bool HF.out.symm, rfl⟩
  · have hd : decide ((1 : Int) ≤ (s.length : Int) ∧ (s.length : Int) ≤ 8) = false := by simp; omega
    have HF : Hid (nameOk s = false) := by show _ = false; simp [nameOk, h]
    go_enter Qry.func25, Tryz.ntmps25
    go_wp2_with (go_at_call 45; refine (l1In_any _ _ _ _).mono ?_; rintro e w' ⟨rfl, rfl⟩)
    go_ret
    exact ⟨ret_bool HF.out.symm, rfl⟩

set_option maxHeartbeats 400000 in
theorem l1ThingsOk_any (a : Option Addr) (ca : Nat) (sa : List Str) (w : World) (ha : StrsAt w a sa) :
    Calls Qry.prog 24 #[.slice a sa.length ca] w fun e w' => e = .returned (.bool (thingsOk sa)) ∧ ∃ n, w' = w.drewN n := by
  have hn := ha.1
  by_cases h8 : sa.length ≤ 8
  · go_enter Qry.func24, Tryz.ntmps24
    go_wp2
    go_loopw [3] (fun i wr => ∃ k : Nat, k ≤ sa.length ∧ i = .int .i64 k ∧ (∃ m, wr = w.drewN m) ∧ ∀ j, j < k → (nameOk (nth sa j) && up sa j) = true) (fun i _ => sa.length - (intOf i).toNat)
    case atStart => exact ⟨0, Nat.zero_le _, rfl, ⟨0, rfl⟩, fun j hj => by omega⟩
    case round =>
      obtain ⟨k, hk, rfl, hm, hx⟩ := hrel
      have HX : Hid (∀ j, j < k → (nameOk (nth sa j) && up sa j) = true) := hx
      have ha' := ha.draws hm
      have HM : Hid (∃ m, wr = w.drewN m) := hm
      clear hx hm
      by_cases hlt : k < sa.length
      · obtain ⟨hl, ba, oa, rfl, hc⟩ := ha'.2 k hlt
        cases hq : nameOk (nth sa k)
        · have HF : Hid (thingsOk sa = false) := thingsOk_no hlt (by rw [hq]; rfl)
          go_wp2
          go_quiet ((go_at_call 25; exact Calls.quiet_of_same (l1NameOk_any _ _ hl)))
          go_wp2
          go_ret
          exact ⟨ret_bool HF.out.symm, drewN_tr HM.out ⟨_, rfl⟩⟩
        · by_cases h0 : k = 0
          · subst h0
            have HQ : Hid ((nameOk (nth sa 0) && up sa 0) = true) := by rw [hq]; rfl
            simp only [Nat.add_zero] at hc
            go_wp2
            go_quiet ((go_at_call 25; exact Calls.quiet_of_same (l1NameOk_any _ _ hl)))
            go_wp2
            go_roundw
            case rel => exact ⟨1, by omega, rfl, drewN_tr HM.out ⟨_, rfl⟩, fun j hj => by
              have e : j = 0 := by omega
              rw [e]; exact HQ.out⟩
            case measure => simp [intOf]; omega
          · obtain ⟨p, rfl⟩ : ∃ p, k = p + 1 := ⟨k - 1, by omega⟩
            obtain ⟨_, ba', oa', e', hc'⟩ := ha'.2 p (by omega)
            injection e' with e'; injection e' with e1 e2; subst e1 e2
            have hd : decide ((0 : Int) < (p : Int) + 1) = true := by simp
            cases hu : Op.bytesLess (nth sa p) (nth sa (p + 1))
            · have HF : Hid (thingsOk sa = false) := thingsOk_no hlt (by simp [up, hu])
              go_wp2
              go_quiet ((go_at_call 25; exact Calls.quiet_of_same (l1NameOk_any _ _ hl)))
              go_wp2
              go_ret
              exact ⟨ret_bool HF.out.symm, drewN_tr HM.out ⟨_, rfl⟩⟩
            · have HQ : Hid ((nameOk (nth sa (p + 1)) && up sa (p + 1)) = true) := by show _ = true; simp [up, hu, hq]
              go_wp2
              go_quiet ((go_at_call 25; exact Calls.quiet_of_same (l1NameOk_any _ _ hl)))
              go_wp2
              go_roundw
              case rel => exact ⟨p + 1 + 1, by omega, by go_num, drewN_tr HM.out ⟨_, rfl⟩, fun j hj => by
                by_cases e : j = p + 1
                · rw [e]; exact HQ.out
                · exact HX.out j (by omega)⟩
              case measure => simp [intOf]; omega
      · have HF : Hid (thingsOk sa = true) := by
          show _ = true
          simp only [thingsOk, h8, decide_true, Bool.true_and]
          exact allLt_of (fun j hj => HX.out j (by omega))
        go_wp2
        go_ret
        exact ⟨ret_bool HF.out.symm, HM.out⟩
  · have HF : Hid (thingsOk sa = false) := by show _ = false; simp [thingsOk, h8]
    go_enter Qry.func24, Tryz.ntmps24
    go_wp2
    go_ret
    exact ⟨ret_bool HF.out.symm, 0, rfl⟩

end Go.Proofs.YtdafpnpfcmgfcaaGreat
namespace Go.Proofs.YtdafpnpfcmgfcaaGreat
open Go.RowKit
attribute [local go_sem] S_toList S_size S_get

def eqS (a b : List Str) : Bool := decide (a = b)
theorem eqS_len {a b : List Str} (h : a.length ≠ b.length) : eqS a b = false := by
  simp only [eqS, decide_eq_false_iff_not]; exact fun e => h (by rw [e])
theorem eqS_no {a b : List Str} {k : Nat} (h : (nth a k == nth b k) = false) : eqS a b = false := by
  simp only [eqS, decide_eq_false_iff_not]; intro e; rw [e] at h; simp at h
theorem eqS_yes {a b : List Str} (hl : a.length = b.length) (h : ∀ k, k < a.length → (nth a k == nth b k) = true) : eqS a b = true := by
  simp only [eqS, decide_eq_true_eq]
  refine List.ext_getElem hl (fun i h1 h2 => ?_)
  have := eq_of_beq (h i h1)
  rwa [nth_get h1, nth_get h2] at this

end Go.Proofs.YtdafpnpfcmgfcaaGreat
namespace Go.Proofs.YtdafpnpfcmgfcaaGreat
open Go.RowKit
attribute [local go_sem] S_toList S_size S_get

theorem Qry.infoStr : (Qry.prog.info? 9).map (fun i => (i.zero, i.size, i.bytes)) = some (some (.string (S [])), 1, 16) := by kernel_rfl

/-- A new row of names. -/
def OwnStrs (w : World) (b : Nat) (ss : List Str) : Prop :=
  ss.length ≤ 8796093022208 ∧ (∀ i, i < ss.length → (nth ss i).length ≤ 140737488355328) ∧ w.rowIs b 9 ss.length (fun j => .string (S (nth ss j)))

theorem OwnStrs.at {w : World} {b : Nat} {ss : List Str} (h : OwnStrs w b ss) : StrsAt w (some ⟨b, 0, none⟩) ss :=
  ⟨h.1, fun i hi => ⟨h.2.1 i hi, b, 0, rfl, by rw [Nat.zero_add]; exact h.2.2.cell hi⟩⟩
theorem OwnStrs.ext {w w' : World} {b : Nat} {ss : List Str} (h : OwnStrs w b ss) (e : Ext w w') : OwnStrs w' b ss :=
  ⟨h.1, h.2.1, h.2.2.of_block (e.block b h.2.2.lt)⟩
theorem OwnStrs.setOther {w : World} {b : Nat} {ss : List Str} (h : OwnStrs w b ss) {a : Addr} (ha : b ≠ a.block) (v : Value) : OwnStrs (w.setCell a v) b ss :=
  ⟨h.1, h.2.1, h.2.2.setOther ha v⟩

def halfS (ss : List Str) (k : Nat) : Nat → Value := fun j => if j < k then .string (S (nth ss j)) else .string (S [])

end Go.Proofs.YtdafpnpfcmgfcaaGreat
namespace Go.Proofs.YtdafpnpfcmgfcaaGreat
open Go.RowKit
attribute [local go_sem] S_toList S_size S_get
end Go.Proofs.YtdafpnpfcmgfcaaGreat
namespace Go.Proofs.YtdafpnpfcmgfcaaGreat
open Go.RowKit
attribute [local go_sem] S_toList S_size S_get

theorem Qry.infoBatch : (Qry.prog.info? 32).map (fun i => (i.zero, i.size, i.bytes)) = some (some (.agg #[.string (S []), .slice none 0 0, .slice none 0 0]), 3, 64) := by kernel_rfl

def zero3 (n : Nat) : Array Value := madeCells #[.string (S []), .slice none 0 0, .slice none 0 0] (n * 3)

theorem make_batches (n : Nat) (hn : n ≤ 2199023255552) (w : World) :
    (Instr.makeSlice 24 (.int .i64 (n : Int)) (.int .i64 (n : Int))).run Qry.prog w = .ok (.slice (some ⟨w.heap.size, 0, none⟩) n n) (w.alloc (.cells (zero3 n) 32)) := by
  obtain ⟨i, hi, hzz⟩ := Option.map_eq_some_iff.1 Qry.infoBatch
  simp only [Prod.mk.injEq] at hzz
  obtain ⟨hz, hs, hb⟩ := hzz
  have hr := run_make (P := Qry.prog) w 24 32 i _ (uQ Tryz.underlying24) hi hz .i64 .i64 n n (by omega) (Int.le_refl _) (by rw [hb]; omega) (by omega)
  simp only [Int.toNat_natCast, hs] at hr
  exact hr

theorem row_zero3 (w : World) (n : Nat) : (w.alloc (.cells (zero3 n) 32)).rowIs w.heap.size 32 (n * 3) (fun j => (zero3 n)[j]?.getD undef) := by
  have hz : (zero3 n).size = n * 3 := size_madeCells _ _
  have h := World.rowIs_alloc w (zero3 n) 32 (fun j => (zero3 n)[j]?.getD undef) (fun j hj => by simp [hj])
  rw [hz] at h
  exact h

/-- The cells of new batches, as far as they are filled. -/
def HalfB (w : World) (B n k : Nat) (bs : List Batch) : Prop :=
  ∃ f, w.rowIs B 32 (n * 3) f ∧ ∀ i, i < k → f (i * 3) = .string (S (nthB bs i).name) ∧ (nthB bs i).name.length ≤ 140737488355328 ∧
    ∃ b1 b2, f (i * 3 + 1) = .slice (some ⟨b1, 0, none⟩) (nthB bs i).has.length (nthB bs i).has.length ∧ f (i * 3 + 2) = .slice (some ⟨b2, 0, none⟩) (nthB bs i).needs.length (nthB bs i).needs.length ∧
      B < b1 ∧ B < b2 ∧ OwnStrs w b1 (nthB bs i).has ∧ OwnStrs w b2 (nthB bs i).needs

theorem HalfB.ext {w w' : World} {B n k : Nat} {bs : List Batch} (h : HalfB w B n k bs) (e : Ext w w') : HalfB w' B n k bs := by
  obtain ⟨f, hr, hi⟩ := h
  refine ⟨f, hr.of_block (e.block B hr.lt), fun i hik => ?_⟩
  obtain ⟨g0, g1, b1, b2, g2, g3, g4, g5, g6, g7⟩ := hi i hik
  exact ⟨g0, g1, b1, b2, g2, g3, g4, g5, g6.ext e, g7.ext e⟩

theorem HalfB.store {w : World} {B n k : Nat} {bs : List Batch} (h : HalfB w B n k bs) (x : Batch) (hx : nthB bs k = x) (hl : x.name.length ≤ 140737488355328) {b1 b2 : Nat} (h1 : B < b1) (h2 : B < b2)
    (o1 : OwnStrs w b1 x.has) (o2 : OwnStrs w b2 x.needs) :
    HalfB (((w.setCell ⟨B, k * 3, none⟩ (.string (S x.name))).setCell ⟨B, k * 3 + 1, none⟩ (.slice (some ⟨b1, 0, none⟩) x.has.length x.has.length)).setCell ⟨B, k * 3 + 2, none⟩ (.slice (some ⟨b2, 0, none⟩) x.needs.length x.needs.length)) B n (k + 1) bs := by
  obtain ⟨f, hr, hi⟩ := h
  refine ⟨_, (((hr.set (k * 3) _).set (k * 3 + 1) _).set (k * 3 + 2) _), fun i hik => ?_⟩
  by_cases e : i = k
  · subst e
    rw [hx]
    refine ⟨by simp, hl, b1, b2, by simp, by simp, h1, h2, ?_, ?_⟩
    · exact ((o1.setOther (by simp; omega) _).setOther (by simp; omega) _).setOther (by simp; omega) _
    · exact ((o2.setOther (by simp; omega) _).setOther (by simp; omega) _).setOther (by simp; omega) _
  · obtain ⟨g0, g1, c1, c2, g2, g3, g4, g5, g6, g7⟩ := hi i (by omega)
    have n0 : ∀ j, j < 3 → i * 3 + j ≠ k * 3 ∧ i * 3 + j ≠ k * 3 + 1 ∧ i * 3 + j ≠ k * 3 + 2 := fun j hj => by omega
    have m0 := n0 0 (by omega)
    have m1 := n0 1 (by omega)
    have m2 := n0 2 (by omega)
    refine ⟨?_, g1, c1, c2, ?_, ?_, g4, g5, ?_, ?_⟩
    · have e0 : i * 3 + 0 = i * 3 := rfl
      rw [e0] at m0
      simp only [m0, if_false]; exact g0
    · simp only [m1, if_false]; exact g2
    · simp only [m2, if_false]; exact g3
    · exact ((g6.setOther (by simp; omega) _).setOther (by simp; omega) _).setOther (by simp; omega) _
    · exact ((g7.setOther (by simp; omega) _).setOther (by simp; omega) _).setOther (by simp; omega) _

end Go.Proofs.YtdafpnpfcmgfcaaGreat
namespace Go.Proofs.YtdafpnpfcmgfcaaGreat
open Go.RowKit
attribute [local go_sem] S_toList S_size S_get

theorem HalfB.at {w : World} {B : Nat} {bs : List Batch} (h : HalfB w B bs.length bs.length bs) (hn : bs.length ≤ 2199023255552) : BatchesAt w (some ⟨B, 0, none⟩) bs := by
  obtain ⟨f, hr, hi⟩ := h
  refine ⟨hn, fun i hik => ⟨B, 0, rfl, ?_⟩⟩
  obtain ⟨g0, g1, b1, b2, g2, g3, _, _, g6, g7⟩ := hi i hik
  refine ⟨g1, some ⟨b1, 0, none⟩, (nthB bs i).has.length, some ⟨b2, 0, none⟩, (nthB bs i).needs.length, ?_, ?_, ?_, g6.at, g7.at⟩
  · rw [Nat.zero_add, ← g0]; exact hr.cell (by omega)
  · rw [Nat.zero_add, ← g2]; exact hr.cell (by omega)
  · rw [Nat.zero_add, ← g3]; exact hr.cell (by omega)

theorem HalfB.setOther {w : World} {B n k : Nat} {bs : List Batch} (h : HalfB w B n k bs) {a : Addr} (ha : a.block < B) (v : Value) : HalfB (w.setCell a v) B n k bs := by
  obtain ⟨f, hr, hi⟩ := h
  refine ⟨f, hr.setOther (by omega) v, fun i hik => ?_⟩
  obtain ⟨g0, g1, b1, b2, g2, g3, g4, g5, g6, g7⟩ := hi i hik
  exact ⟨g0, g1, b1, b2, g2, g3, g4, g5, g6.setOther (by omega) v, g7.setOther (by omega) v⟩

/-- A book in new memory: its things at block b1, its batches from block b2 on. -/
def OwnBook (w : World) (b1 b2 : Nat) (b : Book) : Prop :=
  b1 < b2 ∧ OwnStrs w b1 b.things ∧ b.batches.length ≤ 2199023255552 ∧ HalfB w b2 b.batches.length b.batches.length b.batches
theorem OwnBook.at {w : World} {b1 b2 : Nat} {b : Book} (h : OwnBook w b1 b2 b) : BookAt w (some ⟨b1, 0, none⟩) (some ⟨b2, 0, none⟩) b := ⟨h.2.1.at, h.2.2.2.at h.2.2.1⟩
theorem OwnBook.ext {w w' : World} {b1 b2 : Nat} {b : Book} (h : OwnBook w b1 b2 b) (e : Ext w w') : OwnBook w' b1 b2 b := ⟨h.1, h.2.1.ext e, h.2.2.1, h.2.2.2.ext e⟩

/-- A book as a value. -/
def bookV (a1 a2 : Option Addr) (c1 c2 : Nat) (b : Book) : Value := .agg #[.slice a1 b.things.length c1, .slice a2 b.batches.length c2]

end Go.Proofs.YtdafpnpfcmgfcaaGreat
namespace Go.Proofs.YtdafpnpfcmgfcaaGreat
open Go.RowKit
attribute [local go_sem] S_toList S_size S_get

theorem eqS_self (l : List Str) : eqS l l = true := by simp [eqS]

end Go.Proofs.YtdafpnpfcmgfcaaGreat
