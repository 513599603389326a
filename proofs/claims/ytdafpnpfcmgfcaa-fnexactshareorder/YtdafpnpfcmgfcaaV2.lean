/- Walks over the program's names. -/
import Derived.Test.YtdafpnpfcmgfcaaV1
import Derived.Laws.RangeAny
namespace Go.Proofs.Ytdafpnpfcmgfcaa
open Go.RowKit
attribute [local go_sem] S_toList S_size S_get

def runeB (r : Int) : Bool := decide (97 ≤ r ∧ r ≤ 122) || decide (48 ≤ r ∧ r ≤ 57) || decide (r = 45)
theorem runeB_cases (r : Int) : (((97 ≤ r ∧ r ≤ 122) ∨ (48 ≤ r ∧ r ≤ 57) ∨ (45 ≤ r ∧ r ≤ 45)) ∧ runeB r = true) ∨ ((r < 45 ∨ (45 < r ∧ r < 48) ∨ (57 < r ∧ r < 97) ∨ 122 < r) ∧ runeB r = false) := by
  unfold runeB
  by_cases h : ((97 ≤ r ∧ r ≤ 122) ∨ (48 ≤ r ∧ r ≤ 57) ∨ (45 ≤ r ∧ r ≤ 45))
  · exact Or.inl ⟨h, by simp; omega⟩
  · exact Or.inr ⟨by omega, by simp; omega⟩

set_option maxHeartbeats 400000 in
theorem isNameRune_any (r : Int) (w : World) :
    Calls Try.prog 79 #[.int .i32 r] w fun e w' => e = .returned (.bool (runeB r)) ∧ w' = w := by
  rcases runeB_cases r with ⟨h, hb⟩ | ⟨h, hb⟩
  · have HB : Hid (runeB r = true) := hb
    clear hb
    rcases h with h | h | h
    · obtain ⟨h1, h2⟩ := h
      go_enter Try.func79, Try.ntmps79
      go_wp2
      go_ret
      exact ⟨ret_bool (by first | exact HB.out.symm | (rw [HB.out]; simp; omega)), rfl⟩
    · obtain ⟨h1, h2⟩ := h
      go_enter Try.func79, Try.ntmps79
      go_wp2
      go_ret
      exact ⟨ret_bool (by first | exact HB.out.symm | (rw [HB.out]; simp; omega)), rfl⟩
    · obtain ⟨h1, h2⟩ := h
      have h45 : (r == 45) = true := by simp; omega
      go_enter Try.func79, Try.ntmps79
      go_wp2
      go_ret
      exact ⟨ret_bool (by first | exact HB.out.symm | (rw [HB.out]; simp; omega)), rfl⟩
  · have HB : Hid (runeB r = false) := hb
    have h45 : (r == 45) = false := by simp; omega
    clear hb
    rcases h with h | h | h | h
    all_goals
      go_enter Try.func79, Try.ntmps79
      go_wp2
      all_goals
        go_ret
        exact ⟨ret_bool (by first | exact HB.out.symm | (rw [HB.out]; simp; omega)), rfl⟩

theorem runeB_byte (c : UInt8) : runeB (c.toNat : Int) = nameByte c := by
  unfold runeB nameByte
  rw [Bool.eq_iff_iff]; simp; omega
theorem runeB_high {r : Int} (h : 128 ≤ r) : runeB r = false := by
  unfold runeB; simp; omega

set_option maxHeartbeats 400000 in
theorem isName_any (s : Str) (w : World) (hs : s.length ≤ 140737488355328) :
    Calls Try.prog 66 #[.string (S s)] w fun e w' => e = .returned (.bool (nameOk s)) ∧ Ext w w' := by
  by_cases h1 : s.length < 1
  · have HF : Hid (nameOk s = false) := by
      have h : ¬ (1 ≤ s.length ∧ s.length ≤ 8) := by omega
      show _ = false; simp [nameOk, h]
    go_enter Try.func66, Try.ntmps66
    go_wp2
    go_ret
    exact ⟨ret_bool HF.out.symm, Ext.rfl' _⟩
  · by_cases h8 : 8 < s.length
    · have HF : Hid (nameOk s = false) := by
        have h : ¬ (1 ≤ s.length ∧ s.length ≤ 8) := by omega
        show _ = false; simp [nameOk, h]
      go_enter Try.func66, Try.ntmps66
      go_wp2
      go_ret
      exact ⟨ret_bool HF.out.symm, Ext.rfl' _⟩
    · go_enter Try.func66, Try.ntmps66
      go_wp2
      go_loopw [15] (fun _ wr => ∃ k : Nat, k ≤ s.length ∧ wr = w.iter (S s) k ∧ ∀ j, j < k → nameByte (bat s j) = true) (fun _ wr => s.length - wr.iterPos w.heap.size)
      case atStart => exact ⟨0, Nat.zero_le _, rfl, fun j hj => by omega⟩
      case round =>
        obtain ⟨k, hk, rfl, hx⟩ := hrel
        have HX : Hid (∀ j, j < k → nameByte (bat s j) = true) := hx
        clear hx
        have HE : ∀ p, Ext w (w.iter (S s) p) := fun p => (Below.refl _ _).alloc (Nat.le_refl _) _
        by_cases hlt : k < s.length
        · have hsz : k < (S s).size := by rw [S_size]; exact hlt
          by_cases ha : (bat s k).toNat < 128
          · have hnx := fun ty => run_next_ascii (P := Try.prog) w (S s) k ty hsz (by rw [S_get]; exact ha)
            rw [S_get] at hnx
            cases hq : nameByte (bat s k)
            · have HF : Hid (nameOk s = false) := nameOk_no hlt hq
              rw [← runeB_byte] at hq
              go_wp2_with (go_at_call 79; refine (isNameRune_any _ _).mono ?_; rintro e w' ⟨rfl, rfl⟩)
              go_ret
              exact ⟨ret_bool HF.out.symm, HE _⟩
            · have HQ : Hid (nameByte (bat s k) = true) := hq
              rw [← runeB_byte] at hq
              go_wp2_with (go_at_call 79; refine (isNameRune_any _ _).mono ?_; rintro e w' ⟨rfl, rfl⟩)
              go_roundw
              case rel => exact ⟨k + 1, by omega, rfl, fun j hj => by
                by_cases e : j = k
                · rw [e]; exact HQ.out
                · exact HX.out j (by omega)⟩
              case measure => simp; omega
          · have hnx := fun ty => run_next_any (P := Try.prog) w (S s) k ty hsz
            obtain ⟨hd1, hd2⟩ := decode_high (S s) k hsz (by rw [S_get]; omega)
            generalize Utf8.decode (S s) k = dd at hnx hd1 hd2
            obtain ⟨r, wd⟩ := dd
            simp only at hnx hd1 hd2
            have hq : runeB (r : Int) = false := runeB_high (by omega)
            have HF : Hid (nameOk s = false) := nameOk_no hlt (by rw [← runeB_byte]; exact runeB_high (by omega))
            go_wp2_with (go_at_call 79; refine (isNameRune_any _ _).mono ?_; rintro e w' ⟨rfl, rfl⟩)
            go_ret
            exact ⟨ret_bool HF.out.symm, HE _⟩
        · have HF : Hid (nameOk s = true) := by
            have h : 1 ≤ s.length ∧ s.length ≤ 8 := by omega
            show _ = true
            simp only [nameOk, h, and_self, decide_true, Bool.true_and]
            exact allLt_of (fun j hj => HX.out j (by omega))
          have hnx := fun ty => run_next_end (P := Try.prog) w (S s) k ty (by rw [S_size]; exact hlt)
          go_wp2
          go_ret
          exact ⟨ret_bool HF.out.symm, HE _⟩

def allNames (l : List Str) : Bool := allLt l.length (fun i => nameOk (nth l i))

set_option maxHeartbeats 400000 in
theorem areNames_any (a : Option Addr) (ca : Nat) (sa : List Str) (w : World) (ha : StrsAt w a sa) :
    Calls Try.prog 39 #[.slice a sa.length ca] w fun e w' => e = .returned (.bool (allNames sa)) ∧ Ext w w' := by
  have hn := ha.1
  go_enter Try.func39, Try.ntmps39
  go_wp2
  go_loopw [7] (fun i wr => ∃ k : Nat, k ≤ sa.length ∧ i = .int .i64 k ∧ Ext w wr ∧ ∀ j, j < k → nameOk (nth sa j) = true) (fun i _ => sa.length - (intOf i).toNat)
  case atStart => exact ⟨0, Nat.zero_le _, rfl, Ext.rfl' _, fun j hj => by omega⟩
  case round =>
    obtain ⟨k, hk, rfl, hext, hx⟩ := hrel
    have HX : Hid (∀ j, j < k → nameOk (nth sa j) = true) := hx
    have HE : Hid (Ext w wr) := hext
    have ha' := ha.ext hext
    clear hx hext
    by_cases hlt : k < sa.length
    · obtain ⟨hl, ba, oa, rfl, hc⟩ := ha'.2 k hlt
      cases hq : nameOk (nth sa k)
      · have HF : Hid (allNames sa = false) := allLt_no hlt hq
        go_wp2_with fail
        refine (isName_any _ _ hl).mono ?_
        rintro e w1 ⟨rfl, hext⟩
        have HE1 : Hid (Ext w w1) := Ext.tr HE.out hext
        clear hext
        go_wp2
        go_ret
        exact ⟨ret_bool HF.out.symm, HE1.out⟩
      · have HQ : Hid (nameOk (nth sa k) = true) := hq
        go_wp2_with fail
        refine (isName_any _ _ hl).mono ?_
        rintro e w1 ⟨rfl, hext⟩
        have HE1 : Hid (Ext w w1) := Ext.tr HE.out hext
        clear hext
        go_wp2
        go_roundw
        case rel => exact ⟨k + 1, by omega, by go_num, HE1.out, fun j hj => by
          by_cases e : j = k
          · rw [e]; exact HQ.out
          · exact HX.out j (by omega)⟩
        case measure => simp [intOf]; omega
    · have HF : Hid (allNames sa = true) := allLt_of (fun j hj => HX.out j (by omega))
      go_wp2
      go_ret
      exact ⟨ret_bool HF.out.symm, HE.out⟩

theorem thingsOk_eq (l : List Str) : thingsOk l = (decide (l.length ≤ 8) && allNames l && ascB l) := by
  unfold thingsOk allNames ascB
  rw [Bool.eq_iff_iff]
  simp only [Bool.and_eq_true, allLt_true]
  constructor
  · rintro ⟨h, k⟩; exact ⟨⟨h, fun i hi => (k i hi).1⟩, fun i hi => (k i hi).2⟩
  · rintro ⟨⟨h, k⟩, m⟩; exact ⟨h, fun i hi => ⟨k i hi, m i hi⟩⟩

set_option maxHeartbeats 400000 in
theorem implThingsOk_any (a : Option Addr) (ca : Nat) (sa : List Str) (w : World) (ha : StrsAt w a sa) :
    Calls Try.prog 37 #[.slice a sa.length ca] w fun e w' => e = .returned (.bool (thingsOk sa)) ∧ Ext w w' := by
  have hn := ha.1
  by_cases h8 : sa.length ≤ 8
  · cases hnm : allNames sa
    · have HF : Hid (thingsOk sa = false) := by show _ = false; rw [thingsOk_eq, hnm]; simp
      go_enter Try.func37, Try.ntmps37
      go_wp2_with fail
      refine (areNames_any _ _ _ _ ha).mono ?_
      rintro e w1 ⟨rfl, hext⟩
      have HE1 : Hid (Ext w w1) := hext
      clear hext
      go_wp2_with fail
      go_ret
      exact ⟨ret_bool HF.out.symm, HE1.out⟩
    · have HF : Hid (thingsOk sa = ascB sa) := by show _ = _; rw [thingsOk_eq, hnm]; simp [h8]
      go_enter Try.func37, Try.ntmps37
      go_wp2_with fail
      refine (areNames_any _ _ _ _ ha).mono ?_
      rintro e w1 ⟨rfl, hext⟩
      have HE1 : Hid (Ext w w1) := hext
      have ha1 := ha.ext hext
      clear hext
      go_wp2_with fail
      refine (ascending_any _ _ _ _ ha1).mono ?_
      rintro e w2 ⟨rfl, n, rfl⟩
      go_wp2_with fail
      go_ret
      exact ⟨ret_bool HF.out.symm, Ext.tr HE1.out (ext_drewN _ _)⟩
  · have HF : Hid (thingsOk sa = false) := by show _ = false; simp [thingsOk, h8]
    have hd : decide ((sa.length : Int) ≤ 8) = false := by simp; omega
    go_enter Try.func37, Try.ntmps37
    go_wp2_with fail
    go_ret
    exact ⟨ret_bool (by first | exact HF.out.symm | (rw [HF.out]; simp; omega)), Ext.rfl' _⟩

end Go.Proofs.Ytdafpnpfcmgfcaa
