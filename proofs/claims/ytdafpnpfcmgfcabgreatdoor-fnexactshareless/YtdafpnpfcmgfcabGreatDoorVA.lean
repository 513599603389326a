/- Walks over the program's small functions on lists of names. Walks over the program's names. Lists of names that a call builds by append; the names of batches. Walks over the program's batchOk and holders. The walk over the program's holders: who has what, in a map. -/
import Derived.Test.YtdafpnpfcmgfcabGreatDoorWA
import Derived.Test.YtdafpnpfcmgfcabGreatDoorMA
import Derived.Laws.RangeAny
namespace Go.Proofs.YtdafpnpfcmgfcabGreatDoor
open Go.RowKit
attribute [local go_sem] S_toList S_size S_get

theorem beq_comm' (a b : Str) : (a == b) = (b == a) := by
  rw [Bool.eq_iff_iff, beq_iff_eq, beq_iff_eq]; exact eq_comm

set_option maxHeartbeats 400000 in
theorem slicesIndex_any (a : Option Addr) (cap : Nat) (ss : List Str) (x : Str) (w : World) (hs : StrsAt w a ss) :
    Calls Tryz.prog 82 #[.slice a ss.length cap, .string (S x)] w fun e w' =>
      ((∃ k, e = .returned (.int .i64 (k : Nat)) ∧ firstAt ss x k) ∨ (e = .returned (.int .i64 (-1)) ∧ hasB ss x = false)) ∧ w' = w := by
  have hn := hs.1
  go_enter Tryz.func82, Tryz.ntmps82
  go_wp2
  go_loop [8] (fun i => ∃ k : Nat, k ≤ ss.length ∧ i = .int .i64 k ∧ ∀ j, j < k → (nth ss j == x) = false) (fun i => ss.length - (intOf i).toNat)
  case atStart => exact ⟨0, Nat.zero_le _, rfl, fun j hj => by omega⟩
  case round =>
    obtain ⟨k, hk, rfl, hx⟩ := hrel
    have HX : Hid (∀ j, j < k → (nth ss j == x) = false) := hx
    clear hx
    by_cases hlt : k < ss.length
    · obtain ⟨_, b, o, rfl, hc⟩ := hs.2 k hlt
      cases hq : (nth ss k == x)
      · have HQ : Hid ((nth ss k == x) = false) := hq
        rw [beq_comm'] at hq
        go_wp2
        go_round
        case rel => exact ⟨k + 1, by omega, by go_num, fun j hj => by
          by_cases e : j = k
          · rw [e]; exact HQ.out
          · exact HX.out j (by omega)⟩
        case measure => simp [intOf]; omega
      · have HQ : Hid ((nth ss k == x) = true) := hq
        rw [beq_comm'] at hq
        go_wp2
        go_ret
        exact ⟨Or.inl ⟨k, rfl, hlt, HQ.out, HX.out⟩, rfl⟩
    · have HF : Hid (hasB ss x = false) := hasB_no (fun j hj => HX.out j (by omega))
      go_wp2
      go_ret
      exact ⟨Or.inr ⟨rfl, HF.out⟩, rfl⟩

set_option maxHeartbeats 400000 in
theorem slicesContains_any (a : Option Addr) (cap : Nat) (ss : List Str) (x : Str) (w : World) (hs : StrsAt w a ss) :
    Calls Tryz.prog 75 #[.slice a ss.length cap, .string (S x)] w fun e w' => e = .returned (.bool (hasB ss x)) ∧ w' = w := by
  go_enter Tryz.func75, Tryz.ntmps75
  go_wp2_with fail
  refine (slicesIndex_any _ _ _ _ _ hs).mono ?_
  rintro e w' ⟨(⟨k, rfl, hk, hq, _⟩ | ⟨rfl, hno⟩), rfl⟩
  · have HF : Hid (hasB ss x = true) := hasB_of hk hq
    clear hk hq
    go_wp2
    go_ret
    exact ⟨ret_bool (by rw [HF.out]), rfl⟩
  · have HF := hno
    have HF : Hid (hasB ss x = false) := hno
    clear hno
    go_wp2
    go_ret
    exact ⟨ret_bool HF.out.symm, rfl⟩

def partB (a b : List Str) : Bool := allLt a.length (fun i => hasB b (nth a i))

set_option maxHeartbeats 400000 in
theorem isPartOf_any (a b : Option Addr) (ca cb : Nat) (sa sb : List Str) (w : World) (ha : StrsAt w a sa) (hb : StrsAt w b sb) :
    Calls Tryz.prog 78 #[.slice a sa.length ca, .slice b sb.length cb] w fun e w' => e = .returned (.bool (partB sa sb)) ∧ w' = w := by
  have hn := ha.1
  go_enter Tryz.func78, Tryz.ntmps78
  go_wp2
  go_loop [9] (fun i => ∃ k : Nat, k ≤ sa.length ∧ i = .int .i64 k ∧ ∀ j, j < k → hasB sb (nth sa j) = true) (fun i => sa.length - (intOf i).toNat)
  case atStart => exact ⟨0, Nat.zero_le _, rfl, fun j hj => by omega⟩
  case round =>
    obtain ⟨k, hk, rfl, hx⟩ := hrel
    have HX : Hid (∀ j, j < k → hasB sb (nth sa j) = true) := hx
    clear hx
    by_cases hlt : k < sa.length
    · obtain ⟨_, ba, oa, rfl, hc⟩ := ha.2 k hlt
      cases hq : hasB sb (nth sa k)
      · have HF : Hid (partB sa sb = false) := allLt_no hlt hq
        go_wp2_with (go_at_call 75; refine (slicesContains_any _ _ _ _ _ hb).mono ?_; rintro e w' ⟨rfl, rfl⟩)
        go_ret
        exact ⟨ret_bool HF.out.symm, rfl⟩
      · have HQ : Hid (hasB sb (nth sa k) = true) := hq
        go_wp2_with (go_at_call 75; refine (slicesContains_any _ _ _ _ _ hb).mono ?_; rintro e w' ⟨rfl, rfl⟩)
        go_round
        case rel => exact ⟨k + 1, by omega, by go_num, fun j hj => by
          by_cases e : j = k
          · rw [e]; exact HQ.out
          · exact HX.out j (by omega)⟩
        case measure => simp [intOf]; omega
    · have HF : Hid (partB sa sb = true) := allLt_of (fun j hj => HX.out j (by omega))
      go_wp2
      go_ret
      exact ⟨ret_bool HF.out.symm, rfl⟩

set_option maxHeartbeats 400000 in
theorem ascending_any (a : Option Addr) (ca : Nat) (sa : List Str) (w : World) (ha : StrsAt w a sa) :
    Calls Tryz.prog 69 #[.slice a sa.length ca] w fun e w' => e = .returned (.bool (ascB sa)) ∧ ∃ n, w' = w.drewN n := by
  have hn := ha.1
  go_enter Tryz.func69, Tryz.ntmps69
  go_wp2
  go_loopw [3] (fun i wr => ∃ k : Nat, k ≤ sa.length ∧ i = .int .i64 ((k : Int) + 1) ∧ (∃ m, wr = w.drewN m) ∧ ∀ j, j < k + 1 → up sa j = true) (fun i _ => sa.length + 1 - (intOf i).toNat)
  case atStart => exact ⟨0, Nat.zero_le _, rfl, ⟨0, rfl⟩, fun j hj => by
    have e : j = 0 := by omega
    rw [e]; rfl⟩
  case round =>
    obtain ⟨k, hk, rfl, hm, hx⟩ := hrel
    have HX : Hid (∀ j, j < k + 1 → up sa j = true) := hx
    have ha' := ha.draws hm
    have HM : Hid (∃ m, wr = w.drewN m) := hm
    clear hx hm
    by_cases hlt : k + 1 < sa.length
    · obtain ⟨_, ba, oa, rfl, hc⟩ := ha'.2 (k + 1) hlt
      obtain ⟨_, ba', oa', e', hc'⟩ := ha'.2 k (by omega)
      injection e' with e'; injection e' with e1 e2; subst e1 e2
      cases hu : Op.bytesLess (nth sa k) (nth sa (k + 1))
      · have HF : Hid (ascB sa = false) := allLt_no hlt (by simp [up, hu])
        go_wp2
        go_quiet (fail)
        go_wp2
        go_ret
        exact ⟨ret_bool HF.out.symm, drewN_tr HM.out ⟨_, rfl⟩⟩
      · have HQ : Hid (up sa (k + 1) = true) := by show _ = true; simp [up, hu]
        go_wp2
        go_quiet (fail)
        go_wp2
        go_roundw
        case rel => exact ⟨k + 1, by omega, by go_num, drewN_tr HM.out ⟨_, rfl⟩, fun j hj => by
          by_cases e : j = k + 1
          · rw [e]; exact HQ.out
          · exact HX.out j (by omega)⟩
        case measure => simp [intOf]; omega
    · have HF : Hid (ascB sa = true) := allLt_of (fun j hj => HX.out j (by omega))
      go_wp2
      go_ret
      exact ⟨ret_bool HF.out.symm, HM.out⟩

end Go.Proofs.YtdafpnpfcmgfcabGreatDoor
namespace Go.Proofs.YtdafpnpfcmgfcabGreatDoor
open Go.RowKit
attribute [local go_sem] S_toList S_size S_get

def runeB (r : Int) : Bool := decide (97 ≤ r ∧ r ≤ 122) || decide (48 ≤ r ∧ r ≤ 57) || decide (r = 45)
theorem runeB_cases (r : Int) : (((97 ≤ r ∧ r ≤ 122) ∨ (48 ≤ r ∧ r ≤ 57) ∨ (45 ≤ r ∧ r ≤ 45)) ∧ runeB r = true) ∨ ((r < 45 ∨ (45 < r ∧ r < 48) ∨ (57 < r ∧ r < 97) ∨ 122 < r) ∧ runeB r = false) := by
  unfold runeB
  by_cases h : ((97 ≤ r ∧ r ≤ 122) ∨ (48 ≤ r ∧ r ≤ 57) ∨ (45 ≤ r ∧ r ≤ 45))
  · exact Or.inl ⟨h, by simp; omega⟩
  · exact Or.inr ⟨by omega, by simp; omega⟩

set_option maxHeartbeats 400000 in
theorem isNameRune_any (r : Int) (w : World) :
    Calls Tryz.prog 83 #[.int .i32 r] w fun e w' => e = .returned (.bool (runeB r)) ∧ w' = w := by
  rcases runeB_cases r with ⟨h, hb⟩ | ⟨h, hb⟩
  · have HB : Hid (runeB r = true) := hb
    clear hb
    rcases h with h | h | h
    · obtain ⟨h1, h2⟩ := h
      go_enter Tryz.func83, Tryz.ntmps83
      go_wp2
      go_ret
      exact ⟨ret_bool (by first | exact HB.out.symm | (rw [HB.out]; simp; omega)), rfl⟩
    · obtain ⟨h1, h2⟩ := h
      go_enter Tryz.func83, Tryz.ntmps83
      go_wp2
      go_ret
      exact ⟨ret_bool (by first | exact HB.out.symm | (rw [HB.out]; simp; omega)), rfl⟩
    · obtain ⟨h1, h2⟩ := h
      have h45 : (r == 45) = true := by simp; omega
      go_enter Tryz.func83, Tryz.ntmps83
      go_wp2
      go_ret
      exact ⟨ret_bool (by first | exact HB.out.symm | (rw [HB.out]; simp; omega)), rfl⟩
  · have HB : Hid (runeB r = false) := hb
    have h45 : (r == 45) = false := by simp; omega
    clear hb
    rcases h with h | h | h | h
    all_goals
      go_enter Tryz.func83, Tryz.ntmps83
      go_wp2
      all_goals
        go_ret
        exact ⟨ret_bool (by first | exact HB.out.symm | (rw [HB.out]; simp; omega)), rfl⟩

theorem runeB_byte (c : UInt8) : runeB (c.toNat : Int) = nameByte c := by
  unfold runeB nameByte
  rw [Bool.eq_iff_iff]; simp; omega
theorem runeB_high {r : Int} (h : 128 ≤ r) : runeB r = false := by
  unfold runeB; simp; omega

set_option maxHeartbeats 400000 in
theorem isName_any (s : Str) (w : World) (hs : s.length ≤ 140737488355328) :
    Calls Tryz.prog 77 #[.string (S s)] w fun e w' => e = .returned (.bool (nameOk s)) ∧ Ext w w' := by
  by_cases h1 : s.length < 1
  · have HF : Hid (nameOk s = false) := by
      have h : ¬ (1 ≤ s.length ∧ s.length ≤ 8) := by omega
      show _ = false; simp [nameOk, h]
    go_enter Tryz.func77, Tryz.ntmps77
    go_wp2
    go_ret
    exact ⟨ret_bool HF.out.symm, Ext.rfl' _⟩
  · by_cases h8 : 8 < s.length
    · have HF : Hid (nameOk s = false) := by
        have h : ¬ (1 ≤ s.length ∧ s.length ≤ 8) := by omega
        show _ = false; simp [nameOk, h]
      go_enter Tryz.func77, Tryz.ntmps77
      go_wp2
      go_ret
      exact ⟨ret_bool HF.out.symm, Ext.rfl' _⟩
    · go_enter Tryz.func77, Tryz.ntmps77
      go_wp2
      go_loopw [15] (fun _ wr => ∃ k : Nat, k ≤ s.length ∧ wr = w.iter (S s) k ∧ ∀ j, j < k → nameByte (bat s j) = true) (fun _ wr => s.length - wr.iterPos w.heap.size)
      case atStart => exact ⟨0, Nat.zero_le _, rfl, fun j hj => by omega⟩
      case round =>
        obtain ⟨k, hk, rfl, hx⟩ := hrel
        have HX : Hid (∀ j, j < k → nameByte (bat s j) = true) := hx
        clear hx
        have HE : ∀ p, Ext w (w.iter (S s) p) := fun p => (Below.refl _ _).alloc (Nat.le_refl _) _
        by_cases hlt : k < s.length
        · have hsz : k < (S s).size := by rw [S_size]; exact hlt
          by_cases ha : (bat s k).toNat < 128
          · have hnx := fun ty => run_next_ascii (P := Tryz.prog) w (S s) k ty hsz (by rw [S_get]; exact ha)
            rw [S_get] at hnx
            cases hq : nameByte (bat s k)
            · have HF : Hid (nameOk s = false) := nameOk_no hlt hq
              rw [← runeB_byte] at hq
              go_wp2_with (go_at_call 83; refine (isNameRune_any _ _).mono ?_; rintro e w' ⟨rfl, rfl⟩)
              go_ret
              exact ⟨ret_bool HF.out.symm, HE _⟩
            · have HQ : Hid (nameByte (bat s k) = true) := hq
              rw [← runeB_byte] at hq
              go_wp2_with (go_at_call 83; refine (isNameRune_any _ _).mono ?_; rintro e w' ⟨rfl, rfl⟩)
              go_roundw
              case rel => exact ⟨k + 1, by omega, rfl, fun j hj => by
                by_cases e : j = k
                · rw [e]; exact HQ.out
                · exact HX.out j (by omega)⟩
              case measure => simp; omega
          · have hnx := fun ty => run_next_any (P := Tryz.prog) w (S s) k ty hsz
            obtain ⟨hd1, hd2⟩ := decode_high (S s) k hsz (by rw [S_get]; omega)
            generalize Utf8.decode (S s) k = dd at hnx hd1 hd2
            obtain ⟨r, wd⟩ := dd
            simp only at hnx hd1 hd2
            have hq : runeB (r : Int) = false := runeB_high (by omega)
            have HF : Hid (nameOk s = false) := nameOk_no hlt (by rw [← runeB_byte]; exact runeB_high (by omega))
            go_wp2_with (go_at_call 83; refine (isNameRune_any _ _).mono ?_; rintro e w' ⟨rfl, rfl⟩)
            go_ret
            exact ⟨ret_bool HF.out.symm, HE _⟩
        · have HF : Hid (nameOk s = true) := by
            have h : 1 ≤ s.length ∧ s.length ≤ 8 := by omega
            show _ = true
            simp only [nameOk, h, and_self, decide_true, Bool.true_and]
            exact allLt_of (fun j hj => HX.out j (by omega))
          have hnx := fun ty => run_next_end (P := Tryz.prog) w (S s) k ty (by rw [S_size]; exact hlt)
          go_wp2
          go_ret
          exact ⟨ret_bool HF.out.symm, HE _⟩

def allNames (l : List Str) : Bool := allLt l.length (fun i => nameOk (nth l i))

set_option maxHeartbeats 400000 in
theorem areNames_any (a : Option Addr) (ca : Nat) (sa : List Str) (w : World) (ha : StrsAt w a sa) :
    Calls Tryz.prog 68 #[.slice a sa.length ca] w fun e w' => e = .returned (.bool (allNames sa)) ∧ Ext w w' := by
  have hn := ha.1
  go_enter Tryz.func68, Tryz.ntmps68
  go_wp2
  go_loopw [7] (fun i wr => ∃ k : Nat, k ≤ sa.length ∧ i = .int .i64 k ∧ Ext w wr ∧ ∀ j, j < k → nameOk (nth sa j) = true) (fun i _ => sa.length - (intOf i).toNat)
  case atStart => exact ⟨0, Nat.zero_le _, rfl, Ext.rfl' _, fun j hj => by omega⟩
  case round =>
    obtain ⟨k, hk, rfl, hext, hx⟩ := hrel
    have HX : Hid (∀ j, j < k → nameOk (nth sa j) = true) := hx
    have HE : Hid (Ext w wr) := hext
    have ha' := ha.ext hext
    clear hx hext
    by_cases hlt : k < sa.length
    · obtain ⟨hl, ba, oa, rfl, hc⟩ := ha'.2 k hlt
      cases hq : nameOk (nth sa k)
      · have HF : Hid (allNames sa = false) := allLt_no hlt hq
        go_wp2_with fail
        refine (isName_any _ _ hl).mono ?_
        rintro e w1 ⟨rfl, hext⟩
        have HE1 : Hid (Ext w w1) := Ext.tr HE.out hext
        clear hext
        go_wp2
        go_ret
        exact ⟨ret_bool HF.out.symm, HE1.out⟩
      · have HQ : Hid (nameOk (nth sa k) = true) := hq
        go_wp2_with fail
        refine (isName_any _ _ hl).mono ?_
        rintro e w1 ⟨rfl, hext⟩
        have HE1 : Hid (Ext w w1) := Ext.tr HE.out hext
        clear hext
        go_wp2
        go_roundw
        case rel => exact ⟨k + 1, by omega, by go_num, HE1.out, fun j hj => by
          by_cases e : j = k
          · rw [e]; exact HQ.out
          · exact HX.out j (by omega)⟩
        case measure => simp [intOf]; omega
    · have HF : Hid (allNames sa = true) := allLt_of (fun j hj => HX.out j (by omega))
      go_wp2
      go_ret
      exact ⟨ret_bool HF.out.symm, HE.out⟩

theorem thingsOk_eq (l : List Str) : thingsOk l = (decide (l.length ≤ 8) && allNames l && ascB l) := by
  unfold thingsOk allNames ascB
  rw [Bool.eq_iff_iff]
  simp only [Bool.and_eq_true, allLt_true]
  constructor
  · rintro ⟨h, k⟩; exact ⟨⟨h, fun i hi => (k i hi).1⟩, fun i hi => (k i hi).2⟩
  · rintro ⟨⟨h, k⟩, m⟩; exact ⟨h, fun i hi => ⟨k i hi, m i hi⟩⟩

set_option maxHeartbeats 400000 in
theorem implThingsOk_any (a : Option Addr) (ca : Nat) (sa : List Str) (w : World) (ha : StrsAt w a sa) :
    Calls Tryz.prog 66 #[.slice a sa.length ca] w fun e w' => e = .returned (.bool (thingsOk sa)) ∧ Ext w w' := by
  have hn := ha.1
  by_cases h8 : sa.length ≤ 8
  · cases hnm : allNames sa
    · have HF : Hid (thingsOk sa = false) := by show _ = false; rw [thingsOk_eq, hnm]; simp
      go_enter Tryz.func66, Tryz.ntmps66
      go_wp2_with fail
      refine (areNames_any _ _ _ _ ha).mono ?_
      rintro e w1 ⟨rfl, hext⟩
      have HE1 : Hid (Ext w w1) := hext
      clear hext
      go_wp2_with fail
      go_ret
      exact ⟨ret_bool HF.out.symm, HE1.out⟩
    · have HF : Hid (thingsOk sa = ascB sa) := by show _ = _; rw [thingsOk_eq, hnm]; simp [h8]
      go_enter Tryz.func66, Tryz.ntmps66
      go_wp2_with fail
      refine (areNames_any _ _ _ _ ha).mono ?_
      rintro e w1 ⟨rfl, hext⟩
      have HE1 : Hid (Ext w w1) := hext
      have ha1 := ha.ext hext
      clear hext
      go_wp2_with fail
      refine (ascending_any _ _ _ _ ha1).mono ?_
      rintro e w2 ⟨rfl, n, rfl⟩
      go_wp2_with fail
      go_ret
      exact ⟨ret_bool HF.out.symm, Ext.tr HE1.out (ext_drewN _ _)⟩
  · have HF : Hid (thingsOk sa = false) := by show _ = false; simp [thingsOk, h8]
    have hd : decide ((sa.length : Int) ≤ 8) = false := by simp; omega
    go_enter Tryz.func66, Tryz.ntmps66
    go_wp2_with fail
    go_ret
    exact ⟨ret_bool (by first | exact HF.out.symm | (rw [HF.out]; simp; omega)), Ext.rfl' _⟩

end Go.Proofs.YtdafpnpfcmgfcabGreatDoor
namespace Go.Proofs.YtdafpnpfcmgfcabGreatDoor
open Go.RowKit
attribute [local go_sem] S_toList S_size S_get

/-- A list of names that the call itself builds, from block 'base' on. -/
def OwnL (w : World) (base : Nat) (v : Value) (ss : List Str) : Prop := w.ownsRow base 9 1 v ss.length (ss.map fun s => .string (S s))

theorem OwnL.at {w : World} {base : Nat} {v : Value} {ss : List Str} (h : OwnL w base v ss) (hn : ss.length ≤ 8796093022208) (hl : ∀ i, i < ss.length → (nth ss i).length ≤ 140737488355328) :
    ∃ a cap, v = .slice a ss.length cap ∧ StrsAt w a ss := by
  rcases h.2 with ⟨rfl, h0⟩ | ⟨g, cap, cur, rfl, hb, hg, hc, hm, hs, ht⟩
  · have e : ss = [] := List.eq_nil_of_length_eq_zero h0
    subst e
    exact ⟨none, 0, rfl, StrsAt.nil _ _⟩
  · refine ⟨_, cap, rfl, hn, fun i hi => ⟨hl i hi, g, 0, rfl, ?_⟩⟩
    have hx : (ss.map fun s => Value.string (S s))[i]? = some (.string (S (nth ss i))) := by
      rw [List.getElem?_map, List.getElem?_eq_getElem hi, nth_get hi]; rfl
    rw [← ht] at hx
    have hi2 : cur.toList[i]? = some (.string (S (nth ss i))) := by
      rw [List.getElem?_take] at hx
      split at hx
      · exact hx
      · simp at hx
    have hi3 : cur[i]? = some (.string (S (nth ss i))) := by rw [← Array.getElem?_toList]; exact hi2
    unfold World.cell?
    simp only [hg, Nat.zero_add]
    exact hi3

theorem OwnL.step {w' : World} {base : Nat} {v : Value} {ss : List Str} {x : Str} (h : w'.ownsRow base 9 1 v (ss.length + 1) (ss.map (fun s => Value.string (S s)) ++ [.string (S x)])) : OwnL w' base v (ss ++ [x]) := by
  unfold OwnL
  rw [List.map_append, List.length_append]
  exact h

theorem info_str : ∃ i, Tryz.prog.info? 9 = some i ∧ i.zero = some (.string (S [])) ∧ i.size = 1 ∧ i.bytes = 16 := by
  obtain ⟨i, hi, hzz⟩ := Option.map_eq_some_iff.1 Tryz.infoStr
  simp only [Prod.mk.injEq] at hzz
  exact ⟨i, hi, hzz.1, hzz.2.1, hzz.2.2⟩

theorem make_names (n : Nat) (hn : n ≤ 8796093022208) (w : World) :
    (Instr.makeSlice 53 (.int .i64 0) (.int .i64 (n : Int))).run Tryz.prog w = .ok (.slice (some ⟨w.heap.size, 0, none⟩) 0 n) (w.alloc (.cells (madeCells #[.string (S [])] n) 9)) := by
  obtain ⟨i, hi, hz, hs, hb⟩ := info_str
  have hr := run_make (P := Tryz.prog) w 53 9 i _ Tryz.underlying53 hi hz .i64 .i64 0 n (by omega) (by omega) (by rw [hb]; omega) (by omega)
  simp only [Int.toNat_natCast, hs, Nat.mul_one] at hr
  exact hr

theorem take_names {bs : List Batch} {k : Nat} (h : k < bs.length) : (namesOf bs).take (k + 1) = (namesOf bs).take k ++ [(nthB bs k).name] := by
  rw [List.take_succ_eq_append_getElem (by rw [namesOf_length]; exact h), nthB_get h]; simp [namesOf]

set_option maxHeartbeats 400000 in
theorem batchNames_any (a : Option Addr) (ca : Nat) (bs : List Batch) (w : World) (ha : BatchesAt w a bs) :
    Calls Tryz.prog 67 #[.slice a bs.length ca] w fun e w' =>
      ∃ a' cap', e = .returned (.slice a' (namesOf bs).length cap') ∧ Ext w w' ∧ StrsAt w' a' (namesOf bs) := by
  have hn := ha.1
  have hmk := make_names bs.length (by omega)
  obtain ⟨i0, hi, hz0, hz1, hz2⟩ := info_str
  go_enter Tryz.func67, Tryz.ntmps67
  go_wp2
  clear hmk
  go_loopw [3, 11] (fun v i wr => ∃ k : Nat, k ≤ bs.length ∧ i = .int .i64 k ∧ Below w.heap.size w wr ∧ OwnL wr w.heap.size v ((namesOf bs).take k)) (fun _ i _ => bs.length - (intOf i).toNat)
  case atStart => exact ⟨0, Nat.zero_le _, rfl, (Below.refl _ _).alloc (Nat.le_refl _) _, World.ownsRow_made w _ bs.length (Nat.le_refl _) (by unfold maxLen; omega) (by rw [size_madeCells]; omega)⟩
  case round =>
    obtain ⟨k, hk, rfl, hbel, hown⟩ := hrel
    have hz := hbel.size
    have HB : Hid (Below w.heap.size w wr) := hbel
    have ha' : BatchesAt wr a bs := ha.ext hbel
    by_cases hlt : k < bs.length
    · obtain ⟨ba, oa, rfl, hl, d1, g1, d2, g2, p0, p1, p2, s1, s2⟩ := ha'.2 k hlt
      clear hbel
      have hlen : ((namesOf bs).take k).length = k := by rw [List.length_take, namesOf_length]; omega
      have HO := hid hown
      clear hown
      go_wp2_with (at_builtin; refine wpList_append_own _ rfl _ _ 53 rfl w.heap.size 9 i0 (.string (S [])) 1 16 Tryz.underlying53 hi hz0 hz1 hz2 rfl (by decide) _ _ _ rfl ((HO.out.alloc _).alloc _) ⟨wr.heap.size + 1, 0, none⟩ 1 1 [.string (S (nthB bs k).name)] rfl rfl ?c1 ?c2 ?c3 ?c4 ?c5 ?_)
      case c1 =>
        intro j u hj
        match j, hj with
        | 0, hj => simp at hj; subst hj; simp [Addr.add]
      case c2 => intro u hu; simp at hu; subst hu; rfl
      case c3 => unfold maxLen; omega
      case c4 => omega
      case c5 => simp; omega
      · intro v' w1 hown' hgrow _
        have HN : Hid (OwnL w1 w.heap.size v' ((namesOf bs).take (k + 1))) := by
          rw [take_names hlt]; refine OwnL.step ?_; rw [hlen, List.map_take]; exact hown'
        have HB1 : Hid (Below w.heap.size w w1) := ((HB.out.alloc hz _).alloc (by simp; omega) _).grown hgrow (by simp; omega) (fun g hg => (HO.out.lt g hg).1)
        clear hown' hgrow
        go_wp2
        go_roundw
        case rel => exact ⟨k + 1, by omega, by go_num, HB1.out, HN.out⟩
        case measure => simp [intOf]; omega
    · have e : (namesOf bs).take k = namesOf bs := List.take_of_length_le (by rw [namesOf_length]; omega)
      rw [e] at hown
      obtain ⟨a', cap', rfl, hat⟩ := hown.at (by rw [namesOf_length]; omega) (fun i hi => by
        rw [namesOf_length] at hi
        rw [nth_namesOf hi]
        obtain ⟨_, _, _, h, _⟩ := ha'.2 i hi
        exact h)
      have HA := hid hat
      clear hown hat hbel e
      go_wp2
      go_ret
      exact ⟨a', cap', rfl, HB.out, HA.out⟩
end Go.Proofs.YtdafpnpfcmgfcabGreatDoor
namespace Go.Proofs.YtdafpnpfcmgfcabGreatDoor
open Go.RowKit
attribute [local go_sem] S_toList S_size S_get

theorem namesOk_eq (l all : List Str) : namesOk l all = (partB l all && ascB l) := by
  unfold namesOk partB ascB
  rw [Bool.eq_iff_iff]
  simp only [Bool.and_eq_true, allLt_true]
  exact ⟨fun k => ⟨fun i hi => (k i hi).1, fun i hi => (k i hi).2⟩, fun ⟨h, m⟩ i hi => ⟨h i hi, m i hi⟩⟩

theorem ext_alloc' (w : World) (o : Obj) : Ext w (w.alloc o) := (Below.refl _ _).alloc (Nat.le_refl _) _

theorem isPartOf_v (a b : Option Addr) (ca cb : Nat) (sa sb : List Str) (v : Bool) (w : World) (ha : StrsAt w a sa) (hb : StrsAt w b sb) (hv : partB sa sb = v) :
    Calls Tryz.prog 78 #[.slice a sa.length ca, .slice b sb.length cb] w fun e w' => e = .returned (.bool v) ∧ w' = w := by
  rw [← hv]; exact isPartOf_any a b ca cb sa sb w ha hb
theorem ascending_v (a : Option Addr) (ca : Nat) (sa : List Str) (v : Bool) (w : World) (ha : StrsAt w a sa) (hv : ascB sa = v) :
    Calls Tryz.prog 69 #[.slice a sa.length ca] w fun e w' => e = .returned (.bool v) ∧ ∃ n, w' = w.drewN n := by
  rw [← hv]; exact ascending_any a ca sa w ha

set_option maxHeartbeats 400000 in
theorem implBatchOk_any (x : Batch) (a1 a2 a3 : Option Addr) (c1 c2 c3 : Nat) (things : List Str) (w : World) (h1 : StrsAt w a1 x.has) (h2 : StrsAt w a2 x.needs) (h3 : StrsAt w a3 things) :
    Calls Tryz.prog 70 #[.agg #[.string (S x.name), .slice a1 x.has.length c1, .slice a2 x.needs.length c2], .slice a3 things.length c3] w fun e w' =>
      e = .returned (.bool (namesOk x.needs things && namesOk x.has x.needs)) ∧ Ext w w' := by
  have hal : ∀ o n, Ext w ((w.alloc o).drewN n) := fun o n => Ext.tr ((Below.refl _ _).alloc (Nat.le_refl _) _) (ext_drewN _ _)
  have HV : Hid ((namesOk x.needs things && namesOk x.has x.needs) = (partB x.needs things && ascB x.needs && partB x.has x.needs && ascB x.has)) := by
    show _ = _
    rw [namesOk_eq, namesOk_eq, Bool.and_assoc, Bool.and_assoc, Bool.and_assoc]
  cases g1 : partB x.needs things
  · have HF := hid g1
    go_enter Tryz.func70, Tryz.ntmps70
    go_wp2
    go_quiet (fail)
    go_wp2_with fail
    refine (isPartOf_v _ _ _ _ _ _ _ _ (h2.ext (hal _ _)) (h3.ext (hal _ _)) g1).mono ?_
    rintro e w1 ⟨rfl, rfl⟩
    go_wp2_with fail
    go_ret
    exact ⟨ret_bool (by rw [HV.out, HF.out]; rfl), hal _ _⟩
  · cases g2 : ascB x.needs
    · have HF := hid (And.intro g1 g2)
      go_enter Tryz.func70, Tryz.ntmps70
      go_wp2
      go_quiet (fail)
      go_wp2_with fail
      refine (isPartOf_v _ _ _ _ _ _ _ _ (h2.ext (hal _ _)) (h3.ext (hal _ _)) g1).mono ?_
      rintro e w1 ⟨rfl, rfl⟩
      go_wp2_with fail
      refine (ascending_v _ _ _ _ _ (h2.ext (hal _ _)) g2).mono ?_
      rintro e w1 ⟨rfl, n1, rfl⟩
      go_wp2_with fail
      go_ret
      exact ⟨ret_bool (by rw [HV.out, HF.out.1, HF.out.2]; rfl), Ext.tr (ext_alloc' _ _) (ext_drewN _ _)⟩
    · cases g3 : partB x.has x.needs
      · have HF := hid (And.intro g1 (And.intro g2 g3))
        go_enter Tryz.func70, Tryz.ntmps70
        go_wp2
        go_quiet (fail)
        go_wp2_with fail
        refine (isPartOf_v _ _ _ _ _ _ _ _ (h2.ext (hal _ _)) (h3.ext (hal _ _)) g1).mono ?_
        rintro e w1 ⟨rfl, rfl⟩
        go_wp2_with fail
        refine (ascending_v _ _ _ _ _ (h2.ext (hal _ _)) g2).mono ?_
        rintro e w1 ⟨rfl, n1, rfl⟩
        go_wp2_with fail
        refine (isPartOf_v _ _ _ _ _ _ _ _ (h1.ext (hal _ _)) (h2.ext (hal _ _)) g3).mono ?_
        rintro e w1 ⟨rfl, rfl⟩
        go_wp2_with fail
        go_ret
        exact ⟨ret_bool (by rw [HV.out, HF.out.1, HF.out.2.1, HF.out.2.2]; rfl), Ext.tr (ext_alloc' _ _) (ext_drewN _ _)⟩
      · have HF := hid (And.intro g1 (And.intro g2 g3))
        go_enter Tryz.func70, Tryz.ntmps70
        go_wp2
        go_quiet (fail)
        go_wp2_with fail
        refine (isPartOf_v _ _ _ _ _ _ _ _ (h2.ext (hal _ _)) (h3.ext (hal _ _)) g1).mono ?_
        rintro e w1 ⟨rfl, rfl⟩
        go_wp2_with fail
        refine (ascending_v _ _ _ _ _ (h2.ext (hal _ _)) g2).mono ?_
        rintro e w1 ⟨rfl, n1, rfl⟩
        go_wp2_with fail
        refine (isPartOf_v _ _ _ _ _ _ _ _ (h1.ext (hal _ _)) (h2.ext (hal _ _)) g3).mono ?_
        rintro e w1 ⟨rfl, rfl⟩
        go_wp2_with fail
        refine (ascending_any _ _ _ _ (h1.ext (hal _ _))).mono ?_
        rintro e w1 ⟨rfl, n2, rfl⟩
        go_wp2_with fail
        go_ret
        exact ⟨ret_bool (by rw [HV.out, HF.out.1, HF.out.2.1, HF.out.2.2]; rfl), Ext.tr (ext_alloc' _ _) (ext_drewN _ _)⟩

end Go.Proofs.YtdafpnpfcmgfcabGreatDoor
namespace Go.Proofs.YtdafpnpfcmgfcabGreatDoor
open Go.RowKit Go.Maps
attribute [local go_sem] S_toList S_size S_get

theorem lawStr : Keyed Tryz.prog 9 := string_keyed Tryz.underlying9
theorem zeroInt (w : World) : (zeroValue 3).run Tryz.prog w = .ok (.int .i64 0) w := by kernel_rfl
theorem keyStr {x : Str} (h : x.length ≤ 140737488355328) : keyOf Tryz.prog 9 (.string (S x)) = some (.string x) := by
  have h1 := WideMaps.keyOf_string_mk (P := Tryz.prog) Tryz.underlying9 (s := S x) (by rw [S_size]; unfold maxLen; omega)
  rw [S_data] at h1; exact h1

/-- The map in block B reads as these pairs. -/
def OwnM (w : World) (B : Nat) (L : List (Str × Nat)) : Prop :=
  ∃ n D, w.ownsMap Tryz.prog 9 (plainElem (H := Unit) Tryz.prog 3) B n D ∧ n ≤ L.length ∧ MapIs D L

theorem OwnM.alloc {w : World} {B : Nat} {L : List (Str × Nat)} (h : OwnM w B L) (o : Obj) : OwnM (w.alloc o) B L := by
  obtain ⟨n, D, h1, h2, h3⟩ := h
  exact ⟨n, D, h1.alloc o, h2, h3⟩
theorem OwnM.ext {w w' : World} {B : Nat} {L : List (Str × Nat)} (h : OwnM w B L) (e : Ext w w') : OwnM w' B L := by
  obtain ⟨n, D, h1, h2, h3⟩ := h
  exact ⟨n, D, h1.kept (row := none) ⟨e.os, e.tape, e.output, e.size, fun k hk _ => e.block k hk⟩ (by simp), h2, h3⟩

theorem has_le {w : World} {a : Option Addr} {bs : List Batch} (ha : BatchesAt w a bs) : ∀ i, (nthB bs i).has.length ≤ 8796093022208 := by
  intro i
  by_cases h : i < bs.length
  · obtain ⟨_, _, _, _, _, _, _, _, _, _, _, s1, _⟩ := ha.2 i h
    exact s1.1
  · have e : nthB bs i = nob := by unfold nthB; rw [List.getD_eq_getElem?_getD, List.getElem?_eq_none (by omega)]; rfl
    rw [e]; simp [nob]

set_option maxHeartbeats 1000000 in
theorem holders_any (a : Option Addr) (ca : Nat) (bs : List Batch) (w : World) (ha : BatchesAt w a bs) (h5 : bs.length ≤ 5) :
    Calls Tryz.prog 71 #[.slice a bs.length ca] w fun e w' => Ext w w' ∧
      ((e = .returned (.tuple #[.map none, .bool false]) ∧ onceB bs = false) ∨
       (∃ B, e = .returned (.tuple #[.map (some B), .bool true]) ∧ onceB bs = true ∧ OwnM w' B (pairsTo bs bs.length))) := by
  have hle := has_le ha
  have HLE := hid hle
  clear hle
  have hmm := @run_makeMap Tryz.prog
  go_enter Tryz.func71, Tryz.ntmps71
  go_wp2
  clear hmm
  go_loopw [14] (fun ii wr => ∃ i : Nat, i ≤ bs.length ∧ ii = .int .i64 i ∧ Below w.heap.size w wr ∧ OwnM wr w.heap.size (pairsTo bs i) ∧ (keys (pairsTo bs i)).Nodup) (fun ii _ => bs.length - (intOf ii).toNat)
  case atStart => exact ⟨0, Nat.zero_le _, rfl, (Below.refl _ _).alloc (Nat.le_refl _) _, ⟨0, _, World.ownsMap_made _ _ _ _, Nat.zero_le _, mapIs_nil⟩, by simp [keys, pairsTo]⟩
  case round =>
    obtain ⟨i, hi, rfl, hbel, hown, hnd⟩ := hrel
    have HB := hid hbel
    have HO := hid hown
    have HN := hid hnd
    have ha' : BatchesAt wr a bs := ha.ext hbel
    have hz := hbel.size
    by_cases hlt : i < bs.length
    · obtain ⟨ba, oa, rfl, hl, a1, c1, a2, c2, p0, p1, p2, s1, s2⟩ := ha.2 i hlt
      have q0 := Ext.keep hbel p0
      have q1 := Ext.keep hbel p1
      have q2 := Ext.keep hbel p2
      clear hbel hown hnd ha' p0 p1 p2
      have hnh := s1.1
      go_wp2
      go_loopw [22] (fun jj wq => ∃ j : Nat, j ≤ (nthB bs i).has.length ∧ jj = .int .i64 j ∧ Below w.heap.size w wq ∧ OwnM wq w.heap.size (halfP bs i j) ∧ (keys (halfP bs i j)).Nodup) (fun jj _ => (nthB bs i).has.length - (intOf jj).toNat)
      case atStart => exact ⟨0, Nat.zero_le _, rfl, HB.out.alloc hz _, by rw [halfP_zero]; exact HO.out.alloc _, by rw [halfP_zero]; exact HN.out⟩
      case round =>
        obtain ⟨j, hj, rfl, hbel, hown, hnd⟩ := hrel
        have HB1 := hid hbel
        have HN1 := hid hnd
        have hs' := s1.ext hbel
        have hz1 := hbel.size
        clear hnd hbel
        by_cases hjt : j < (nthB bs i).has.length
        · obtain ⟨hxl, bx, ox, rfl, hcx⟩ := hs'.2 j hjt
          have hkey := keyStr hxl
          obtain ⟨m, D, hom, hmn, hmap⟩ := hown
          have hbd := halfP_len HLE.out i j
          cases hq : hasB (keys (halfP bs i j)) (nth (nthB bs i).has j)
          · have hhas : Maps.has D (.string (nth (nthB bs i).has j)) = false := by rw [hmap.2.1, hq]
            have hnot : nth (nthB bs i).has j ∉ keys (halfP bs i j) := fun h => by rw [hasB_true.2 h] at hq; cases hq
            have HM := hid hmap
            have HK := hid (keys_snoc hjt HN1.out hnot)
            have HNOT := hid hnot
            clear hnot hmap
            go_wp2_with (first
              | (at_lookup; refine wpList_lookup_own_ok_int _ rfl _ _ 127 rfl 9 3 .i64 lawStr Tryz.underlying127 Tryz.underlying3 (zeroInt _) w.heap.size m D rfl hom _ _ rfl hkey ?_; intro c hat hwc; rw [hhas])
              | (at_mapUpdate; refine wpList_mapUpdate_own _ rfl _ _ _ 127 rfl 9 3 lawStr Tryz.underlying127 _ w.heap.size m D rfl hom (by unfold maxLen; omega) _ _ _ rfl rfl hkey _ [] (plainElem_int Tryz.underlying3 (WalkArith.wf_i64 (by omega))) ?_; intro w1 hown1 hgrow1))
            have HB2 : Hid (Below w.heap.size w w1) := HB1.out.grown hgrow1 hz1 (fun g hg => by cases hg; exact Nat.le_refl _)
            have HO2 : Hid (OwnM w1 w.heap.size (halfP bs i (j + 1))) := by
              refine ⟨m + 1, _, hown1, ?_, ?_⟩
              · rw [halfP_succ hjt]; simp; omega
              · rw [halfP_succ hjt]; exact HM.out.put HNOT.out i
            clear hown1 hgrow1 hom
            go_wp2
            go_roundw
            case rel => exact ⟨j + 1, by omega, by go_num, HB2.out, HO2.out, HK.out⟩
            case measure => simp [intOf]; omega
          · have hhas : Maps.has D (.string (nth (nthB bs i).has j)) = true := by rw [hmap.2.1, hq]
            have HF : Hid (onceB bs = false) := onceB_no hlt hjt (hasB_true.1 hq)
            clear hmap
            go_wp2_with (at_lookup; refine wpList_lookup_own_ok_int _ rfl _ _ 127 rfl 9 3 .i64 lawStr Tryz.underlying127 Tryz.underlying3 (zeroInt _) w.heap.size m D rfl hom _ _ rfl hkey ?_; intro c hat hwc; rw [hhas])
            go_ret2
            exact ⟨HB1.out, Or.inl ⟨rfl, HF.out⟩⟩
        · have e : j = (nthB bs i).has.length := by omega
          have HO2 : Hid (OwnM wr w.heap.size (pairsTo bs (i + 1))) := by rw [← halfP_full, ← e]; exact hown
          have HN2 : Hid (keys (pairsTo bs (i + 1))).Nodup := by rw [← halfP_full, ← e]; exact HN1.out
          clear hown e
          go_wp2
          go_roundw
          case rel => exact ⟨i + 1, by omega, by go_num, HB1.out, HO2.out, HN2.out⟩
          case measure => simp [intOf]; omega
    · have e : i = bs.length := by omega
      have HO2 : Hid (OwnM wr w.heap.size (pairsTo bs bs.length)) := by rw [← e]; exact hown
      have HF : Hid (onceB bs = true) := by
        show _ = true
        unfold onceB; rw [← e]; simpa using hnd
      clear hbel hown hnd e
      go_wp2
      go_ret2
      exact ⟨HB.out, Or.inr ⟨_, rfl, HF.out, HO2.out⟩⟩
end Go.Proofs.YtdafpnpfcmgfcabGreatDoor
