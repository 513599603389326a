/- Safe is: some order fits. -/
import Derived.Test.YtdafpnpfcmgfcaaR1
namespace Go.Proofs.Ytdafpnpfcmgfcaa

/-- So far each could go. -/
def Valid (b : Book) (l : List Str) : Prop := ∀ i, i < l.length → stepB b l i = true
theorem nth_left {l m : List Str} {i : Nat} (h : i < l.length) : nth (l ++ m) i = nth l i := by
  rw [nth_get (by rw [List.length_append]; omega), nth_get h, List.getElem_append_left h]
theorem stepB_left {b : Book} {l m : List Str} {i : Nat} (h : i < l.length) : stepB b (l ++ m) i = stepB b l i := by
  unfold stepB
  rw [nth_left h, List.take_append_of_le_length (by omega)]
theorem next_good {b : Book} {gone : List Str} {p : Nat} (h : nextOf b gone = some p) : p < b.batches.length ∧ hasB gone (b.at p).name = false ∧ canB b p gone = true := by
  have h1 := nextOf_lt h
  have h2 := List.find?_some h
  simp only [goodN, Bool.and_eq_true, Bool.not_eq_true'] at h2
  exact ⟨h1, h2.1, h2.2⟩
theorem valid_snoc {b : Book} {gone : List Str} {p : Nat} (hok : bookOk b = true) (hv : Valid b gone) (h : nextOf b gone = some p) : Valid b (gone ++ [(b.at p).name]) := by
  obtain ⟨h1, h2, h3⟩ := next_good h
  intro i hi
  rw [List.length_append, List.length_singleton] at hi
  by_cases e : i < gone.length
  · rw [stepB_left e]; exact hv i e
  · have e' : i = gone.length := by omega
    subst e'
    have hn : nth (gone ++ [(b.at p).name]) gone.length = (b.at p).name := by rw [nth_get (by simp)]; simp
    have ht : (gone ++ [(b.at p).name]).take gone.length = gone := by simp
    unfold stepB
    rw [hn, ht, place_self hok h1, h2, h3]
    simp [h1]
theorem greedy_fits {b : Book} (hok : bookOk b = true) : ∀ (m : Nat) (gone L : List Str), greedy b m gone = some L → Valid b gone → Valid b L ∧ L.length = gone.length + m
  | 0, gone, L, h, hv => by
    simp [greedy] at h; subst h
    exact ⟨hv, rfl⟩
  | m + 1, gone, L, h, hv => by
    cases hn : nextOf b gone with
    | none => rw [greedy_none hn] at h; cases h
    | some p =>
      rw [greedy_some hn] at h
      obtain ⟨k1, k2⟩ := greedy_fits hok m _ L h (valid_snoc hok hv hn)
      refine ⟨k1, ?_⟩
      rw [k2, List.length_append, List.length_singleton]; omega
theorem safe_ok {b : Book} (h : safeB b = true) : bookOk b = true := by
  cases hok : bookOk b
  · simp [safeB, orderOf, hok] at h
  · rfl
/-- The order told is one that fits. -/
theorem order_fits {b : Book} (h : safeB b = true) : fitsB b (orderL b) = true := by
  have hok := safe_ok h
  cases hg : orderOf b with
  | none => simp [safeB, hg] at h
  | some L =>
    have hg' : greedy b b.batches.length [] = some L := by simpa [orderOf, hok] using hg
    obtain ⟨k1, k2⟩ := greedy_fits hok _ _ L hg' (fun i hi => by simp at hi)
    have e : orderL b = L := by simp [orderL, hg]
    rw [e]
    exact fitsB_yes hok (by simpa using k2) k1

theorem can_more {b : Book} {p : Nat} {l m : List Str} (h : canB b p l = true) (hs : ∀ x ∈ l, x ∈ m) : canB b p m = true := by
  refine canB_yes (fun i hi => ?_)
  have h1 := allLt_true.1 h i hi
  simp only [Bool.not_eq_true'] at h1
  cases hc : clash b p m i
  · rfl
  · unfold clash at hc h1
    simp only [Bool.and_eq_true, Bool.not_eq_true', decide_eq_false_iff_not] at hc
    have hn : hasB l (b.at i).name = false := by
      rw [← Bool.not_eq_true, hasB_true]
      intro hx
      have := hasB_true.2 (hs _ hx)
      rw [hc.1.2] at this; cases this
    rw [hn, hc.2] at h1
    simp [hc.1.1] at h1
theorem step_parts {b : Book} {l : List Str} {i : Nat} (h : stepB b l i = true) : place (namesOf b.batches) (nth l i) < b.batches.length ∧ hasB (l.take i) (nth l i) = false ∧ canB b (place (namesOf b.batches) (nth l i)) (l.take i) = true := by
  unfold stepB at h
  simp only [Bool.and_eq_true, decide_eq_true_eq, Bool.not_eq_true'] at h
  exact ⟨h.1.1, h.1.2, h.2⟩
theorem valid_nodup {b : Book} {l : List Str} (h : Valid b l) : l.Nodup := by
  unfold List.Nodup
  rw [List.pairwise_iff_getElem]
  intro i j hi hj hij e
  have h1 := (step_parts (h j hj)).2.1
  rw [← Bool.not_eq_true, hasB_true, nth_get hj] at h1
  exact h1 (by rw [← e]; exact List.mem_take_iff_getElem.2 ⟨i, by omega, rfl⟩)
/-- If some order fits, then whoever is gone, somebody can go. -/
theorem next_some {b : Book} {order gone : List Str} (hv : Valid b order) (hlt : gone.length < order.length) : ∃ p, nextOf b gone = some p := by
  cases hn : nextOf b gone with
  | some p => exact ⟨p, rfl⟩
  | none =>
    exfalso
    have hno : ∀ j, j < b.batches.length → goodN b gone j = false := by
      intro j hj
      unfold nextOf at hn
      rw [List.find?_eq_none] at hn
      have := hn j (by simpa using hj)
      simpa using this
    have hall : ∀ k i, i < k → i < order.length → nth order i ∈ gone := by
      intro k
      induction k with
      | zero => intro i hi; omega
      | succ k ih =>
        intro i hi hio
        by_cases e : i < k
        · exact ih i e hio
        · have e' : i = k := by omega
          subst e'
          obtain ⟨h1, h2, h3⟩ := step_parts (hv i hio)
          have hsub : ∀ x ∈ order.take i, x ∈ gone := by
            intro x hx
            obtain ⟨j, hj, ej⟩ := List.mem_take_iff_getElem.1 hx
            have hj2 : j < i ∧ j < order.length := by omega
            have := ih j hj2.1 hj2.2
            rw [nth_get hj2.2, ej] at this
            exact this
          have hg := hno _ h1
          unfold goodN at hg
          rw [can_more h3 hsub] at hg
          have hnm : (b.at (place (namesOf b.batches) (nth order i))).name = nth order i := by
            have hm : nth order i ∈ namesOf b.batches := place_lt.1 (by rw [namesOf_length]; exact h1)
            have := place_nth hm
            rw [nth_namesOf h1] at this
            exact this
          rw [hnm] at hg
          cases hh : hasB gone (nth order i)
          · rw [hh] at hg; simp at hg
          · exact hasB_true.1 hh
    have hsub : order ⊆ gone := by
      intro x hx
      obtain ⟨i, hi, e⟩ := List.getElem_of_mem hx
      have := hall (i + 1) i (by omega) hi
      rw [nth_get hi, e] at this
      exact this
    have := (valid_nodup hv).length_le_of_subset hsub
    omega
theorem greedy_all {b : Book} {order : List Str} (hv : Valid b order) (hl : order.length = b.batches.length) : ∀ (m : Nat) (gone : List Str), gone.length + m = b.batches.length → ∃ L, greedy b m gone = some L
  | 0, gone, _ => ⟨gone, rfl⟩
  | m + 1, gone, h => by
    obtain ⟨p, hp⟩ := next_some (gone := gone) hv (by omega)
    rw [greedy_some hp]
    exact greedy_all hv hl m _ (by rw [List.length_append, List.length_singleton]; omega)
theorem fits_parts {b : Book} {order : List Str} (h : fitsB b order = true) : bookOk b = true ∧ order.length = b.batches.length ∧ Valid b order := by
  unfold fitsB at h
  simp only [Bool.and_eq_true, decide_eq_true_eq] at h
  exact ⟨h.1.1, h.1.2, fun i hi => allLt_true.1 h.2 i hi⟩
/-- If some order fits, the book is safe. -/
theorem fits_safe {b : Book} {order : List Str} (h : fitsB b order = true) : safeB b = true := by
  obtain ⟨h1, h2, h3⟩ := fits_parts h
  obtain ⟨L, hL⟩ := greedy_all h3 h2 b.batches.length [] (by simp)
  simp [safeB, orderOf, h1, hL]

/-- By all orders: those who are gone, and then the others in some order. -/
def someB (b : Book) : Nat → List Str → Bool
  | 0, gone => fitsB b gone
  | m + 1, gone => anyLt b.batches.length (fun i => !hasB gone (b.at i).name && someB b m (gone ++ [(b.at i).name]))
theorem some_fits {b : Book} : ∀ (m : Nat) (gone : List Str), someB b m gone = true → ∃ order, fitsB b order = true
  | 0, gone, h => ⟨gone, h⟩
  | m + 1, gone, h => by
    obtain ⟨i, hi, h1⟩ := anyLt_true.1 h
    rw [Bool.and_eq_true] at h1
    exact some_fits m _ h1.2
theorem some_of {b : Book} {order : List Str} (h : fitsB b order = true) : ∀ (m : Nat), m ≤ order.length → someB b m (order.take (order.length - m)) = true
  | 0, _ => by
    rw [Nat.sub_zero, List.take_length]; exact h
  | m + 1, hm => by
    obtain ⟨h1, h2, h3⟩ := fits_parts h
    have hk : order.length - (m + 1) < order.length := by omega
    obtain ⟨k1, k2, k3⟩ := step_parts (h3 _ hk)
    refine anyLt_of k1 ?_
    have hnm : (b.at (place (namesOf b.batches) (nth order (order.length - (m + 1))))).name = nth order (order.length - (m + 1)) := by
      have hmm : nth order (order.length - (m + 1)) ∈ namesOf b.batches := place_lt.1 (by rw [namesOf_length]; exact k1)
      have := place_nth hmm
      rw [nth_namesOf k1] at this
      exact this
    rw [hnm, k2]
    have ih := some_of h m (by omega)
    have e : order.length - m = (order.length - (m + 1)) + 1 := by omega
    rw [e, List.take_succ_eq_append_getElem hk, ← nth_get hk] at ih
    rw [ih]; rfl
theorem some_safe (b : Book) : someB b b.batches.length [] = safeB b := by
  rw [Bool.eq_iff_iff]
  constructor
  · intro h
    obtain ⟨order, ho⟩ := some_fits _ _ h
    exact fits_safe ho
  · intro h
    have hf := order_fits h
    have hl := (fits_parts hf).2.1
    have := some_of hf (orderL b).length (Nat.le_refl _)
    rw [Nat.sub_self, List.take_zero, hl] at this
    exact this
end Go.Proofs.Ytdafpnpfcmgfcaa
