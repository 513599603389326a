/- Marks of a list that the program has made. -/
import Derived.Test.YtdafpnpfcmgfcabK4
namespace Go.Proofs.Ytdafpnpfcmgfcab
open Go.RowKit
attribute [local go_sem] S_toList S_size S_get

def marksOf (k n : Nat) : List Str := (List.range n).map fun i => markT (k + i)
theorem marksOf_length (k n : Nat) : (marksOf k n).length = n := by simp [marksOf]
theorem nth_marksOf {k n i : Nat} (h : i < n) : nth (marksOf k n) i = markT (k + i) := by
  rw [nth_get (by rw [marksOf_length]; exact h)]; simp [marksOf]
theorem decF_length : ∀ (f m : Nat) (acc : Str), (decF f m acc).length ≤ m + acc.length
  | 0, m, acc => by simp [decF]
  | f + 1, m, acc => by
    by_cases e : m = 0
    · simp [decF, e]
    · simp only [decF, e, if_false]
      have h := decF_length f (m / 10) (digit m :: acc)
      simp only [List.length_cons] at h
      omega
theorem markT_length (k : Nat) : (markT k).length ≤ k + 1 := by
  unfold markT
  have h := decF_length k k []
  simp only [List.length_cons, List.length_nil] at *
  omega
theorem OwnL.shape {w : World} {base : Nat} {v : Value} {ss : List Str} (h : OwnL w base v ss) : (v = .slice none 0 0 ∧ ss.length = 0) ∨ ∃ g cap, v = .slice (some ⟨g, 0, none⟩) ss.length cap ∧ base ≤ g ∧ ss.length ≤ cap ∧ cap ≤ maxLen ∧ RowN w g cap := by
  rcases h.2 with h2 | ⟨g, cap, cur, hv, hg, hc, h1, h2, h3, h4⟩
  · exact Or.inl h2
  · refine Or.inr ⟨g, cap, hv, hg, h1, h2, fun j => (cur[j]?).getD undef, cur, hc, by omega, fun i hi => ?_⟩
    have hi' : i < cur.size := by omega
    simp [hi']

theorem markOwn (base : Nat) (v : Value) (ss : List Str) (k : Nat) (w : World) (h : OwnL w base v ss) (hk : 1 ≤ k) (hb : k + ss.length ≤ 1000000000) :
    Calls Qry.prog 12 #[v, .int .i64 (k : Int)] w fun e w' =>
      e = .returned (.int .i64 ((k + ss.length : Nat) : Int)) ∧ w.grownBy w' v.ownBlock ∧ OwnL w' base v (marksOf k ss.length) := by
  rcases h.shape with ⟨rfl, h0⟩ | ⟨g, cap, rfl, hg, hle, hmax, f, hrow⟩
  · refine (markStringS_nil none 0 k w).mono ?_
    rintro e w' ⟨rfl, rfl⟩
    rw [h0]
    exact ⟨rfl, gb_rfl _ _, World.ownsRow_nil _ _ _ _⟩
  · refine (markStringS_row g cap f ss.length cap k w hrow hle hk hb).mono ?_
    rintro e w' ⟨rfl, hgb, c, hc, hs, hrow'⟩
    refine ⟨rfl, hgb, ?_, Or.inr ⟨g, cap, c, by rw [marksOf_length], hg, hc, by rw [marksOf_length]; exact hle, hmax, by omega, ?_⟩⟩
    · simp
    · apply List.ext_getElem?
      intro i
      rw [List.getElem?_take, List.getElem?_map, marksOf_length, Nat.mul_one]
      by_cases hi : i < ss.length
      · have e := hrow' i (by omega)
        have hl : (marksOf k ss.length)[i]? = some (markT (k + i)) := by
          rw [List.getElem?_eq_getElem (by rw [marksOf_length]; exact hi), ← nth_get (by rw [marksOf_length]; exact hi), nth_marksOf hi]
        rw [if_pos hi, hl, Array.getElem?_toList, e]
        simp [marked, hi]
      · have hl : (marksOf k ss.length)[i]? = none := by
          rw [List.getElem?_eq_none_iff, marksOf_length]; omega
        rw [if_neg hi, hl]; rfl
theorem heldOwn (base : Nat) (v : Value) (n k : Nat) (w : World) (h : OwnL w base v (marksOf k n)) (hk : 1 ≤ k) (hb : k + n ≤ 1000000000) :
    Calls Qry.prog 13 #[v, .int .i64 (k : Int)] w fun e w' => e = .returned (.int .i64 ((k + n : Nat) : Int)) ∧ Ext w w' := by
  obtain ⟨a, cap, rfl, hat⟩ := h.at (by rw [marksOf_length]; omega) (fun i hi => by
    rw [marksOf_length] at hi
    rw [nth_marksOf hi]
    have := markT_length (k + i)
    omega)
  have hh := heldStringS_any a cap k (marksOf k n) w hat (fun i hi => nth_marksOf (by rw [marksOf_length] at hi; exact hi)) hk (by rw [marksOf_length]; exact hb)
  refine hh.mono ?_
  rintro e w' ⟨rfl, hx⟩
  rw [marksOf_length]
  exact ⟨rfl, hx⟩
end Go.Proofs.Ytdafpnpfcmgfcab
