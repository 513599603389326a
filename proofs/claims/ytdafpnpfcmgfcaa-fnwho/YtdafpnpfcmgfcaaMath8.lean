/- What an ok book's lists are like. -/
import Derived.Test.YtdafpnpfcmgfcaaMath7
namespace Go.Proofs.Ytdafpnpfcmgfcaa

theorem namesOk_sub {l all : List Str} (h : namesOk l all = true) : ∀ x ∈ l, x ∈ all := by
  intro x hx
  obtain ⟨i, hi, e⟩ := List.getElem_of_mem hx
  have h1 := allLt_true.1 h i hi
  rw [Bool.and_eq_true] at h1
  rw [← e, ← nth_get hi]
  exact hasB_true.1 h1.1
theorem namesOk_len {l all : List Str} (h : namesOk l all = true) : l.length ≤ all.length :=
  (asc_nodup (namesOk_asc h)).length_le_of_subset (fun x hx => namesOk_sub h x hx)
theorem ok_parts {b : Book} (h : bookOk b = true) : thingsOk b.things = true ∧ b.batches.length ≤ 5 ∧ ∀ i, i < b.batches.length → batchOk b i = true ∧ ∀ j, j < i → shareB (b.at i).has (b.at j).has = false := by
  unfold bookOk at h
  simp only [Bool.and_eq_true, decide_eq_true_eq] at h
  refine ⟨h.1.1, h.1.2, fun i hi => ?_⟩
  have h1 := allLt_true.1 h.2 i hi
  rw [Bool.and_eq_true] at h1
  refine ⟨h1.1, fun j hj => ?_⟩
  have h2 := allLt_true.1 h1.2 j hj
  simpa using h2
theorem ok_batch {b : Book} (h : bookOk b = true) {i : Nat} (hi : i < b.batches.length) : nameOk (b.at i).name = true ∧ upB b i = true ∧ namesOk (b.at i).needs b.things = true ∧ namesOk (b.at i).has (b.at i).needs = true := by
  have h1 := ((ok_parts h).2.2 i hi).1
  unfold batchOk at h1
  simp only [Bool.and_eq_true] at h1
  exact ⟨h1.1.1.1, h1.1.1.2, h1.1.2, h1.2⟩
theorem nameOk_len {s : Str} (h : nameOk s = true) : s.length ≤ 8 := by
  unfold nameOk at h
  simp only [Bool.and_eq_true, decide_eq_true_eq] at h
  exact h.1.2
theorem things_eight {b : Book} (h : bookOk b = true) : b.things.length ≤ 8 := by
  have h1 := (ok_parts h).1
  unfold thingsOk at h1
  simp only [Bool.and_eq_true, decide_eq_true_eq] at h1
  exact h1.1
theorem ok_lens {b : Book} (h : bookOk b = true) {i : Nat} (hi : i < b.batches.length) : (b.at i).needs.length ≤ 8 ∧ (b.at i).has.length ≤ 8 ∧ (b.at i).name.length ≤ 8 := by
  obtain ⟨h1, h2, h3, h4⟩ := ok_batch h hi
  have k1 := namesOk_len h3
  have k2 := namesOk_len h4
  have k3 := things_eight h
  exact ⟨by omega, by omega, nameOk_len h1⟩
end Go.Proofs.Ytdafpnpfcmgfcaa
