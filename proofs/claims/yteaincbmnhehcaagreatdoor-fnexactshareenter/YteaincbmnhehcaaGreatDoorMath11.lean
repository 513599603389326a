/- Chapter 3 the program's way: places by search, lists by what is kept of another. -/
import Derived.Test.YteaincbmnhehcaaGreatDoorMath9
namespace Go.Proofs.YteaincbmnhehcaaGreatDoor

theorem sorted_eq : ∀ {l m : List Str}, l.Pairwise LtS → m.Pairwise LtS → (∀ x, x ∈ l ↔ x ∈ m) → l = m
  | [], [], _, _, _ => rfl
  | [], y :: m, _, _, h => by have := (h y).2 (by simp); simp at this
  | x :: l, [], _, _, h => by have := (h x).1 (by simp); simp at this
  | x :: l, y :: m, hl, hm, h => by
    rw [List.pairwise_cons] at hl hm
    have hxy : x = y := by
      have h1 := (h x).1 (by simp)
      have h2 := (h y).2 (by simp)
      rw [List.mem_cons] at h1 h2
      rcases h1 with h1 | h1
      · exact h1
      · rcases h2 with h2 | h2
        · exact h2.symm
        · have := less_trans (hm.1 x h1) (hl.1 y h2)
          rw [less_irrefl] at this; cases this
    subst hxy
    have : l = m := by
      refine sorted_eq hl.2 hm.2 (fun z => ?_)
      constructor
      · intro hz
        have h1 := (h z).1 (by simp [hz])
        rw [List.mem_cons] at h1
        rcases h1 with rfl | h1
        · have := hl.1 z hz
          rw [LtS, less_irrefl] at this; cases this
        · exact h1
      · intro hz
        have h1 := (h z).2 (by simp [hz])
        rw [List.mem_cons] at h1
        rcases h1 with rfl | h1
        · have := hm.1 z hz
          rw [LtS, less_irrefl] at this; cases this
        · exact h1
    rw [this]

theorem mem_insS {l : List Str} {n x : Str} (h : x ∈ l ∨ x = n) : x ∈ insS l n := by
  unfold insS
  split
  · rename_i hc
    rcases h with h | rfl
    · exact h
    · simp only [Bool.and_eq_true, decide_eq_true_eq, beq_iff_eq] at hc
      rw [nth_get hc.1] at hc
      rw [← hc.2]; exact List.getElem_mem hc.1
  · rw [List.mem_append, List.mem_append, List.mem_singleton]
    rcases h with h | rfl
    · rw [← List.take_append_drop (leadS l n) l, List.mem_append] at h
      rcases h with h | h
      · exact Or.inl (Or.inl h)
      · exact Or.inr h
    · exact Or.inl (Or.inr rfl)
theorem mem_fold : ∀ (t : List Str) {l : List Str} {x : Str}, x ∈ l ∨ x ∈ t → x ∈ t.foldl insS l
  | [], l, x, h => by simpa using h
  | y :: t, l, x, h => by
    rw [List.foldl_cons]
    refine mem_fold t ?_
    rcases h with h | h
    · exact Or.inl (mem_insS (Or.inl h))
    · rw [List.mem_cons] at h
      rcases h with rfl | h
      · exact Or.inl (mem_insS (Or.inr rfl))
      · exact Or.inr h
/-- What of a list is also of another. -/
def keptL (l o : List Str) : List Str := l.filter (hasB o)
theorem kept_give {needs has things : List Str} (h1 : needs.Pairwise LtS) (h2 : namesOk has needs = true) (h3 : namesOk things needs = true) : keptL needs (has ++ things) = things.foldl insS has := by
  obtain ⟨a1, a2⟩ := namesOk_iff.1 h2
  obtain ⟨b1, b2⟩ := namesOk_iff.1 h3
  refine sorted_eq (h1.filter _) (fold_sorted things a1) (fun x => ?_)
  unfold keptL
  rw [List.mem_filter, hasB_true, List.mem_append]
  constructor
  · exact fun h => mem_fold things h.2
  · intro h
    have h' := fold_mem' things h
    refine ⟨?_, h'⟩
    rcases h' with h' | h'
    · exact a2 x h'
    · exact b2 x h'

/-- The search's answer. -/
theorem search_lead {l : List Str} {n : Str} {i : Nat} (h1 : ∀ j, j < i → Op.bytesLess (nth l j) n = true) (hi : i ≤ l.length) (h2 : i < l.length → Op.bytesLess (nth l i) n = false) : leadS l n = i := leadS_of h1 hi h2
theorem lead_bound (l : List Str) (n : Str) : leadS l n ≤ l.length := lead_le _ _
theorem lead_less {l : List Str} {n : Str} {j : Nat} (h : j < leadS l n) : Op.bytesLess (nth l j) n = true := by
  have hle := lead_bound l n
  have hj : j < l.length := by omega
  refine lead_all (fun y => Op.bytesLess y n) l (nth l j) ?_
  rw [nth_get hj]
  exact List.mem_take_iff_getElem.2 ⟨j, by simp only [Nat.lt_min]; exact ⟨h, hj⟩, rfl⟩
theorem lead_stop {l : List Str} {n : Str} (h : leadS l n < l.length) : Op.bytesLess (nth l (leadS l n)) n = false := by
  refine lead_next (fun y => Op.bytesLess y n) l (nth l (leadS l n)) ?_
  rw [nth_get h]
  exact List.getElem?_eq_getElem h
/-- In an ascending list a name is there just if it stands where it would stand. -/
theorem found_iff {l : List Str} {n : Str} (h : l.Pairwise LtS) : hasB l n = (decide (leadS l n < l.length) && (nth l (leadS l n) == n)) := by
  rw [Bool.eq_iff_iff, hasB_true, Bool.and_eq_true, decide_eq_true_eq, beq_iff_eq]
  constructor
  · intro hm
    obtain ⟨k, hk, e⟩ := List.getElem_of_mem hm
    have hle : leadS l n ≤ k := by
      rcases Nat.lt_or_ge k (leadS l n) with hlt | hge
      · have := lead_less hlt
        rw [nth_get hk, e, less_irrefl] at this; cases this
      · exact hge
    have hlt : leadS l n < l.length := by omega
    refine ⟨hlt, ?_⟩
    rcases Nat.lt_or_ge (leadS l n) k with h3 | h3
    · rw [List.pairwise_iff_getElem] at h
      have := h (leadS l n) k hlt hk h3
      have h4 := lead_stop hlt
      rw [nth_get hlt] at h4
      rw [LtS, e, h4] at this; cases this
    · have e' : leadS l n = k := by omega
      rw [e', nth_get hk]; exact e
  · rintro ⟨h1, h2⟩
    rw [nth_get h1] at h2
    rw [← h2]; exact List.getElem_mem h1
theorem lead_place {l : List Str} {n : Str} (h : l.Pairwise LtS) (hm : hasB l n = true) : leadS l n = place l n := by
  rw [found_iff h, Bool.and_eq_true, decide_eq_true_eq] at hm
  refine (place_of ⟨hm.1, hm.2, fun j hj => ?_⟩).symm
  have := lead_less hj
  cases hq : nth l j == n
  · rfl
  · rw [eq_of_beq hq, less_irrefl] at this; cases this
theorem lead_names {bs : List Batch} {n : Str} : leadB bs n = leadS (namesOf bs) n := by
  have hle := lead_bound (namesOf bs) n
  rw [namesOf_length] at hle
  refine leadB_of (fun j hj => ?_) hle (fun hlt => ?_)
  · have := lead_less hj
    rwa [nth_namesOf (by omega)] at this
  · have := lead_stop (l := namesOf bs) (n := n) (by rw [namesOf_length]; exact hlt)
    rwa [nth_namesOf hlt] at this
theorem ok_names {b : Book} (h : bookOk b = true) : (namesOf b.batches).Pairwise LtS := asc_iff.1 (names_asc (fun _ hi => (ok_batch h hi).2.1))
theorem ok_where {b : Book} {n : Str} (h : bookOk b = true) (hh : hereB b n = true) : leadS (namesOf b.batches) n = whereB b n := lead_place (ok_names h) hh

/-- Somebody else than k has a thing. -/
def hadAt (b : Book) (k : Nat) (t : Str) : Bool := anyLt b.batches.length (fun i => !(i == k) && hasB (b.at i).has t)
def otherB (b : Book) (k : Nat) (ts : List Str) : Bool := anyLt ts.length (fun j => hadAt b k (nth ts j))
theorem other_taken (b : Book) (k : Nat) (ts : List Str) : otherB b k ts = takenB b k ts := by
  rw [Bool.eq_iff_iff]
  unfold otherB takenB hadAt
  simp only [anyLt_true, Bool.and_eq_true, hasB_true, shareB_true]
  constructor
  · rintro ⟨j, hj, i, hi, hne, hm⟩
    exact ⟨i, hi, hne, nth ts j, hm, by rw [nth_get hj]; exact List.getElem_mem hj⟩
  · rintro ⟨i, hi, hne, x, hx, hm⟩
    obtain ⟨j, hj, e⟩ := List.getElem_of_mem hm
    exact ⟨j, hj, i, hi, hne, by rw [nth_get hj, e]; exact hx⟩
theorem had_none {b : Book} {k : Nat} {t : Str} (h : ∀ i, i < b.batches.length → t ∉ (nthB b.batches i).has) : hadAt b k t = false :=
  anyLt_no (fun i hi => by
    have : hasB (b.at i).has t = false := by rw [← Bool.not_eq_true, hasB_true]; exact h i hi
    rw [this]; simp)
theorem had_own {b : Book} {k : Nat} {t : Str} (hok : bookOk b = true) (hk : k < b.batches.length) (h : t ∈ (nthB b.batches k).has) : hadAt b k t = false :=
  anyLt_no (fun i hi => by
    by_cases e : i = k
    · simp [e]
    · have : hasB (b.at i).has t = false := by rw [← Bool.not_eq_true, hasB_true]; exact apart_at (ok_iff.1 hok) hi hk e h
      rw [this]; simp)
theorem had_other {b : Book} {k p : Nat} {t : Str} (hp : p < b.batches.length) (hne : p ≠ k) (h : t ∈ (nthB b.batches p).has) : hadAt b k t = true :=
  anyLt_of hp (by
    have : hasB (b.at p).has t = true := hasB_true.2 h
    rw [this]; simp [hne])
end Go.Proofs.YteaincbmnhehcaaGreatDoor
