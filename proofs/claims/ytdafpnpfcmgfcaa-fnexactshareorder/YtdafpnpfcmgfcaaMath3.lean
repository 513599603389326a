/- What makes a book ok, told in the program's way and in the document's. -/
import Derived.Test.YtdafpnpfcmgfcaaMath2
namespace Go.Proofs.Ytdafpnpfcmgfcaa

theorem less_irrefl : ∀ a : Str, Op.bytesLess a a = false
  | [] => rfl
  | c :: r => by
    have h := less_irrefl r
    simp [Op.bytesLess, h]
theorem less_trans : ∀ {a b c : Str}, Op.bytesLess a b = true → Op.bytesLess b c = true → Op.bytesLess a c = true
  | [], [], _, h, _ => by simp [Op.bytesLess] at h
  | [], _ :: _, [], _, h => by simp [Op.bytesLess] at h
  | [], _ :: _, _ :: _, _, _ => by simp [Op.bytesLess]
  | _ :: _, [], _, h, _ => by simp [Op.bytesLess] at h
  | _ :: _, _ :: _, [], _, h => by simp [Op.bytesLess] at h
  | x :: a, y :: b, z :: c, h, k => by
    have ih := @less_trans a b c
    simp only [Op.bytesLess, Bool.or_eq_true, Bool.and_eq_true, decide_eq_true_eq, beq_iff_eq] at *
    rcases h with h | ⟨rfl, h⟩
    · rcases k with k | ⟨rfl, _⟩
      · exact Or.inl (UInt8.lt_trans h k)
      · exact Or.inl h
    · rcases k with k | ⟨rfl, k⟩
      · exact Or.inl k
      · exact Or.inr ⟨rfl, ih h k⟩

theorem asc_less {l : List Str} (h : ascB l = true) {i j : Nat} (hij : i < j) (hj : j < l.length) : Op.bytesLess (nth l i) (nth l j) = true := by
  induction j with
  | zero => omega
  | succ j ih =>
    have hu := allLt_true.1 h (j + 1) hj
    simp only [up, Nat.add_one_ne_zero, decide_false, Bool.false_or, Nat.add_sub_cancel] at hu
    by_cases e : i = j
    · rw [e]; exact hu
    · exact less_trans (ih (by omega) (by omega)) hu
theorem asc_nodup {l : List Str} (h : ascB l = true) : l.Nodup := by
  unfold List.Nodup
  rw [List.pairwise_iff_getElem]
  intro i j hi hj hij e
  have := asc_less h hij hj
  rw [nth_get hi, nth_get hj, e, less_irrefl] at this
  cases this

theorem keys_succ (bs : List Batch) (i : Nat) : keys (pairsTo bs (i + 1)) = keys (pairsTo bs i) ++ (nthB bs i).has := by
  have e : (Prod.fst ∘ fun x : Str => (x, i)) = id := rfl
  simp only [keys, pairsTo, pairsOf, List.map_append, List.map_map, e, List.map_id]
theorem mem_keys {bs : List Batch} {x : Str} : ∀ {i : Nat}, x ∈ keys (pairsTo bs i) ↔ ∃ p, p < i ∧ x ∈ (nthB bs p).has
  | 0 => by simp [keys, pairsTo]
  | i + 1 => by
    have ih := @mem_keys bs x i
    have e : keys (pairsTo bs (i + 1)) = keys (pairsTo bs i) ++ (nthB bs i).has := keys_succ bs i
    rw [e, List.mem_append, ih]
    constructor
    · rintro (⟨p, hp, h⟩ | h)
      · exact ⟨p, by omega, h⟩
      · exact ⟨i, by omega, h⟩
    · rintro ⟨p, hp, h⟩
      by_cases e : p = i
      · exact Or.inr (e ▸ h)
      · exact Or.inl ⟨p, by omega, h⟩
theorem shareB_true {a b : List Str} : shareB a b = true ↔ ∃ x, x ∈ a ∧ x ∈ b := by
  unfold shareB
  rw [anyLt_true]
  constructor
  · rintro ⟨i, hi, h⟩
    exact ⟨nth a i, by rw [nth_get hi]; exact List.getElem_mem hi, hasB_true.1 h⟩
  · rintro ⟨x, h1, h2⟩
    obtain ⟨i, hi, e⟩ := List.getElem_of_mem h1
    exact ⟨i, hi, by rw [nth_get hi, e]; exact hasB_true.2 h2⟩
theorem shareB_false {a b : List Str} : shareB a b = false ↔ ∀ x, x ∈ a → x ∉ b := by
  rw [← Bool.not_eq_true, shareB_true]
  exact ⟨fun h x h1 h2 => h ⟨x, h1, h2⟩, fun h ⟨x, h1, h2⟩ => h x h1 h2⟩

theorem nodup_pairs {bs : List Batch} (hn : ∀ i, i < bs.length → (nthB bs i).has.Nodup) : ∀ {i : Nat}, i ≤ bs.length → ((keys (pairsTo bs i)).Nodup ↔ ∀ p, p < i → ∀ q, q < p → shareB (nthB bs p).has (nthB bs q).has = false)
  | 0, _ => by simp [keys, pairsTo]
  | i + 1, hi => by
    have ih := @nodup_pairs bs hn i (by omega)
    have e : keys (pairsTo bs (i + 1)) = keys (pairsTo bs i) ++ (nthB bs i).has := keys_succ bs i
    rw [e, List.nodup_append, ih]
    constructor
    · rintro ⟨h1, _, h3⟩ p hp q hq
      by_cases e : p = i
      · subst e
        rw [shareB_false]
        exact fun x hx hy => h3 x (mem_keys.2 ⟨q, hq, hy⟩) x hx rfl
      · exact h1 p (by omega) q hq
    · intro h
      refine ⟨fun p hp q hq => h p (by omega) q hq, hn i (by omega), ?_⟩
      intro x hx y hy e
      subst e
      obtain ⟨q, hq, hy'⟩ := mem_keys.1 hx
      exact (shareB_false.1 (h i (by omega) q hq)) x hy hy'

def restOk (b : Book) : Bool := allLt b.batches.length (fun i => namesOk (b.at i).needs b.things && namesOk (b.at i).has (b.at i).needs)
def namesB (b : Book) : Bool := allLt b.batches.length (fun i => nameOk (b.at i).name) && allLt b.batches.length (fun i => upB b i)

theorem namesOk_asc {l all : List Str} (h : namesOk l all = true) : ascB l = true := by
  unfold namesOk at h
  rw [allLt_true] at h
  exact allLt_of (fun i hi => by have := h i hi; rw [Bool.and_eq_true] at this; exact this.2)

theorem bookOk_iff (b : Book) : bookOk b = (thingsOk b.things && decide (b.batches.length ≤ 5) && namesB b && restOk b && onceB b.batches) := by
  rw [Bool.eq_iff_iff]
  unfold bookOk namesB restOk
  simp only [Bool.and_eq_true, allLt_true, batchOk]
  constructor
  · rintro ⟨⟨h1, h2⟩, h3⟩
    refine ⟨⟨⟨⟨h1, h2⟩, fun i hi => (h3 i hi).1.1.1.1, fun i hi => (h3 i hi).1.1.1.2⟩, fun i hi => ⟨(h3 i hi).1.1.2, (h3 i hi).1.2⟩⟩, ?_⟩
    unfold onceB
    rw [decide_eq_true_eq, nodup_pairs (fun i hi => asc_nodup (namesOk_asc (h3 i hi).1.2)) (Nat.le_refl _)]
    intro p hp q hq
    have := (h3 p hp).2 q hq
    simpa [Book.at] using this
  · rintro ⟨⟨⟨⟨h1, h2⟩, h3, h4⟩, h5⟩, h6⟩
    refine ⟨⟨h1, h2⟩, fun i hi => ⟨⟨⟨⟨h3 i hi, h4 i hi⟩, (h5 i hi).1⟩, (h5 i hi).2⟩, fun k hk => ?_⟩⟩
    unfold onceB at h6
    rw [decide_eq_true_eq, nodup_pairs (fun i hi => asc_nodup (namesOk_asc (h5 i hi).2)) (Nat.le_refl _)] at h6
    have := h6 i hi k hk
    simpa [Book.at] using this

end Go.Proofs.Ytdafpnpfcmgfcaa
