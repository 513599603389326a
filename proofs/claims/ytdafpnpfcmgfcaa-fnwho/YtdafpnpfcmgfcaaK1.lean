/- Walks over the laws' marks. -/
import Derived.Test.YtdafpnpfcmgfcaaWB
import Derived.Deep.RegionHeld3
namespace Go.Proofs.Ytdafpnpfcmgfcaa
open Go.RowKit
attribute [local go_sem] S_toList S_size S_get

theorem S_cons (c : UInt8) (l : Str) : ({ data := #[c] } : ByteArray) ++ S l = S (c :: l) := by
  apply ByteArray.ext
  simp [S]

def digit (m : Nat) : UInt8 := UInt8.ofNat (48 + m % 10)
/-- The decimal digits of a number, ahead of what is there. -/
def decF : Nat → Nat → Str → Str
  | 0, _, acc => acc
  | f + 1, m, acc => if m = 0 then acc else decF f (m / 10) (digit m :: acc)
theorem decF_more : ∀ (f g m : Nat) (acc : Str), m ≤ f → m ≤ g → decF f m acc = decF g m acc
  | 0, 0, _, _, _, _ => rfl
  | 0, g + 1, m, acc, h, _ => by
    have : m = 0 := by omega
    subst this; simp [decF]
  | f + 1, 0, m, acc, _, h => by
    have : m = 0 := by omega
    subst this; simp [decF]
  | f + 1, g + 1, m, acc, h1, h2 => by
    by_cases e : m = 0
    · simp [decF, e]
    · simp only [decF, e, if_false]
      exact decF_more f g _ _ (by omega) (by omega)
def markT (k : Nat) : Str := 109 :: decF k k []
theorem decF_step {m : Nat} (h : 0 < m) (acc : Str) : decF m m acc = decF (m / 10) (m / 10) (digit m :: acc) := by
  obtain ⟨f, rfl⟩ : ∃ f, m = f + 1 := ⟨m - 1, by omega⟩
  have e : ¬ f + 1 = 0 := by omega
  rw [decF, if_neg e]
  exact decF_more _ _ _ _ (by omega) (by omega)

theorem conv_digit (m : Nat) (wr : World) : (convert 22 9 (.slice (some ⟨wr.heap.size, 0, none⟩) 1 1)).run Try.prog (wr.alloc (.cells #[.int .u8 (48 + (m : Int) % 10)] 5)) = .ok (.string (S [digit m])) (wr.alloc (.cells #[.int .u8 (48 + (m : Int) % 10)] 5)) := by
  have h := run_convert_bytes_arg (P := Try.prog) (w := wr.alloc (.cells #[.int .u8 (48 + (m : Int) % 10)] 5)) 22 5 Try.underlying22 Try.underlying5 wr.heap.size 0 1 1 [48 + (m : Int) % 10] rfl (fun i hi => by
    have e : i = 0 := by omega
    subst e
    simp) 9 Try.underlying9
  have e : strOfNums [48 + (m : Int) % 10] = S [digit m] := by
    apply ByteArray.ext
    apply Array.ext'
    rw [strOfNums_data, S_data]
    have e2 : (48 + (m : Int) % 10).toNat = 48 + m % 10 := by omega
    simp [digit, e2]
  rw [e] at h
  exact h
theorem S_app (x : UInt8) (l : Str) : S [x] ++ S l = S (x :: l) := by
  apply ByteArray.ext
  simp [S]

set_option maxHeartbeats 400000 in
set_option maxRecDepth 100000 in
theorem markText_any (k : Nat) (w : World) (hk : 1 ≤ k) (hb : k ≤ 1000000000) :
    Calls Try.prog 61 #[.int .i64 (k : Int)] w fun e w' => e = .returned (.string (S (markT k))) ∧ Ext w w' := by
  have hcv := conv_digit
  have hdk : decide (k = 0) = false := by simp; omega
  go_enter Try.func61, Try.ntmps61
  go_wp2
  go_loopw [0, 3] (fun ki o wr => ∃ (m : Nat) (acc : Str), acc.length + m ≤ 1000000000 ∧ ki = .int .i64 (m : Int) ∧ o = .string (S acc) ∧ decF m m acc = decF k k [] ∧ Ext w wr) (fun ki _ _ => (intOf ki).toNat)
  case atStart => exact ⟨k, [], by simp; omega, rfl, rfl, rfl, Ext.rfl' _⟩
  case round =>
    obtain ⟨m, acc, hm, rfl, rfl, hdec, hext⟩ := hrel
    have HE := hid hext
    have HD := hid hdec
    clear hext hdec
    by_cases hpos : 0 < m
    · have HD2 := hid ((decF_step hpos acc).symm.trans HD.out)
      go_wp2
      go_roundw
      case rel => exact ⟨m / 10, digit m :: acc, by simp; omega, by go_num, by rw [S_app], HD2.out, Ext.tr HE.out ((Below.refl _ _).alloc (Nat.le_refl _) _)⟩
      case measure => simp [intOf]; omega
    · have HF : Hid (acc = decF k k []) := by
        have e : m = 0 := by omega
        rw [← HD.out, e]; rfl
      go_wp2
      go_ret
      exact ⟨by rw [show markT k = 109 :: acc by rw [HF.out]; rfl, ← S_cons]; rfl, HE.out⟩
end Go.Proofs.Ytdafpnpfcmgfcaa
