/- Things as bits of a word. -/
import Derived.Test.YtdafpnpfcmgfcabJF
namespace Go.Proofs.Ytdafpnpfcmgfcab

def bitsTo (list things : List Str) : Nat → Nat
  | 0 => 0
  | k + 1 => bitsTo list things k + (if hasB list (nth things k) then 2 ^ k else 0)
def bitsN (list things : List Str) : Nat := bitsTo list things things.length
theorem bitsTo_lt (list things : List Str) : ∀ k, bitsTo list things k < 2 ^ k
  | 0 => by simp [bitsTo]
  | k + 1 => by
    have ih := bitsTo_lt list things k
    rw [bitsTo, Nat.pow_succ]; split <;> omega
theorem bitsTo_bit (list things : List Str) : ∀ k j, (bitsTo list things k).testBit j = (decide (j < k) && hasB list (nth things j))
  | 0, j => by simp [bitsTo]
  | k + 1, j => by
    have ih := bitsTo_bit list things k j
    have hlt := bitsTo_lt list things k
    rw [bitsTo]
    by_cases hb : hasB list (nth things k) = true
    · rw [if_pos hb, Nat.add_comm]
      by_cases e : j = k
      · subst e
        rw [Nat.testBit_two_pow_add_eq, ih]
        simp [hb]
      · by_cases h : j < k
        · rw [Nat.testBit_two_pow_add_gt h, ih]
          have : j < k + 1 := by omega
          simp [h, this]
        · have h2 : 2 ^ k + bitsTo list things k < 2 ^ j := by
            have : 2 ^ (k + 1) ≤ 2 ^ j := Nat.pow_le_pow_right (by omega) (by omega)
            rw [Nat.pow_succ] at this; omega
          rw [Nat.testBit_lt_two_pow h2]
          have : ¬ j < k + 1 := by omega
          simp [this]
    · rw [if_neg hb, Nat.add_zero, ih]
      by_cases e : j = k
      · subst e
        simp at hb
        simp [hb]
      · have : decide (j < k + 1) = decide (j < k) := by rw [Bool.eq_iff_iff]; simp; omega
        rw [this]
theorem bitsN_bit (list things : List Str) (j : Nat) : (bitsN list things).testBit j = (decide (j < things.length) && hasB list (nth things j)) := bitsTo_bit list things things.length j

end Go.Proofs.Ytdafpnpfcmgfcab
