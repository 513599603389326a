/- Entering, asking, needing less, leaving: as the specification says them. What an ok book's lists are like. A book stays ok. Chapter 3 the program's way: places by search, lists by what is kept of another. -/
import Derived.Test.YtdafpnpfcmgfcabGreatDoorWC
namespace Go.Proofs.YtdafpnpfcmgfcabGreatDoor

/-- How many stand ahead. -/
def leadP {α : Type} (p : α → Bool) (l : List α) : Nat := (l.takeWhile p).length
theorem lead_of {α : Type} {p : α → Bool} : ∀ {l : List α} {k : Nat}, (∀ (j : Nat) x, j < k → l[j]? = some x → p x = true) → k ≤ l.length → (∀ x, l[k]? = some x → p x = false) → leadP p l = k
  | [], k, _, hk, _ => by simp at hk; subst hk; rfl
  | y :: l, 0, _, _, h => by
    have := h y rfl
    simp [leadP, this]
  | y :: l, k + 1, h1, hk, h2 => by
    have hy := h1 0 y (by omega) rfl
    have := lead_of (p := p) (l := l) (k := k) (fun j x hj hx => h1 (j + 1) x (by omega) (by simpa using hx)) (by simpa using hk) (fun x hx => h2 x (by simpa using hx))
    unfold leadP at *
    rw [List.takeWhile_cons]
    simp [hy, this]

def leadB (bs : List Batch) (n : Str) : Nat := leadP (fun y => Op.bytesLess y.name n) bs
def insB (bs : List Batch) (x : Batch) : List Batch := bs.take (leadB bs x.name) ++ [x] ++ bs.drop (leadB bs x.name)
def leadS (l : List Str) (n : Str) : Nat := leadP (fun y => Op.bytesLess y n) l
/-- A name put into an ascending list, if it is not there. -/
def insS (l : List Str) (n : Str) : List Str :=
  if leadS l n < l.length && nth l (leadS l n) == n then l else l.take (leadS l n) ++ [n] ++ l.drop (leadS l n)
theorem leadB_of {bs : List Batch} {n : Str} {k : Nat} (h1 : ∀ j, j < k → Op.bytesLess (nthB bs j).name n = true) (hk : k ≤ bs.length) (h2 : k < bs.length → Op.bytesLess (nthB bs k).name n = false) : leadB bs n = k := by
  refine lead_of (fun j x hj hx => ?_) hk (fun x hx => ?_)
  · have := h1 j hj
    rw [nthB_get (by omega)] at this
    rw [List.getElem?_eq_getElem (by omega)] at hx
    cases hx; exact this
  · have hlt : k < bs.length := by
      rcases Nat.lt_or_ge k bs.length with h | h
      · exact h
      · simp [List.getElem?_eq_none h] at hx
    have := h2 hlt
    rw [nthB_get hlt] at this
    rw [List.getElem?_eq_getElem hlt] at hx
    cases hx; exact this
theorem leadS_of {l : List Str} {n : Str} {k : Nat} (h1 : ∀ j, j < k → Op.bytesLess (nth l j) n = true) (hk : k ≤ l.length) (h2 : k < l.length → Op.bytesLess (nth l k) n = false) : leadS l n = k := by
  refine lead_of (fun j x hj hx => ?_) hk (fun x hx => ?_)
  · have := h1 j hj
    rw [nth_get (by omega)] at this
    rw [List.getElem?_eq_getElem (by omega)] at hx
    cases hx; exact this
  · have hlt : k < l.length := by
      rcases Nat.lt_or_ge k l.length with h | h
      · exact h
      · simp [List.getElem?_eq_none h] at hx
    have := h2 hlt
    rw [nth_get hlt] at this
    rw [List.getElem?_eq_getElem hlt] at hx
    cases hx; exact this

def emptyBook : Book := ⟨[], []⟩
def hereB (b : Book) (n : Str) : Bool := hasB (namesOf b.batches) n
def whereB (b : Book) (n : Str) : Nat := place (namesOf b.batches) n
def enterB (b : Book) (n : Str) (needs : List Str) : Book × Nat :=
  if bookOk b = false then (emptyBook, 1) else if nameOk n = false ∨ namesOk needs b.things = false then (b, 2)
  else if hereB b n = true then (b, 3) else if 5 ≤ b.batches.length then (b, 4)
  else (⟨b.things, insB b.batches ⟨n, [], needs⟩⟩, 0)
def takenB (b : Book) (k : Nat) (things : List Str) : Bool := anyLt b.batches.length (fun i => !(i == k) && shareB (b.at i).has things)
def giveB (b : Book) (k : Nat) (things : List Str) : Book := ⟨b.things, b.batches.set k ⟨(b.at k).name, things.foldl insS (b.at k).has, (b.at k).needs⟩⟩
def askB (b : Book) (n : Str) (things : List Str) : Book × Nat :=
  if bookOk b = false then (emptyBook, 1) else if hereB b n = false then (b, 3)
  else if namesOk things (b.at (whereB b n)).needs = false then (b, 2)
  else if takenB b (whereB b n) things = true then (b, 5)
  else if safeB b = true ∧ safeB (giveB b (whereB b n) things) = false then (b, 6)
  else (giveB b (whereB b n) things, 0)
def fewerB (b : Book) (k : Nat) (needs : List Str) : Book := ⟨b.things, b.batches.set k ⟨(b.at k).name, (b.at k).has.filter (hasB needs), needs⟩⟩
def lessB (b : Book) (n : Str) (needs : List Str) : Book × Nat :=
  if bookOk b = false then (emptyBook, 1) else if hereB b n = false then (b, 3)
  else if namesOk needs (b.at (whereB b n)).needs = false then (b, 2)
  else (fewerB b (whereB b n) needs, 0)
def leaveB (b : Book) (n : Str) : Book × Nat :=
  if bookOk b = false then (emptyBook, 1) else if hereB b n = false then (b, 3)
  else (⟨b.things, b.batches.take (whereB b n) ++ b.batches.drop (whereB b n + 1)⟩, 0)
end Go.Proofs.YtdafpnpfcmgfcabGreatDoor
namespace Go.Proofs.YtdafpnpfcmgfcabGreatDoor

theorem namesOk_sub {l all : List Str} (h : namesOk l all = true) : ∀ x ∈ l, x ∈ all := by
  intro x hx
  obtain ⟨i, hi, e⟩ := List.getElem_of_mem hx
  have h1 := allLt_true.1 h i hi
  rw [Bool.and_eq_true] at h1
  rw [← e, ← nth_get hi]
  exact hasB_true.1 h1.1
theorem namesOk_len {l all : List Str} (h : namesOk l all = true) : l.length ≤ all.length :=
  (asc_nodup (namesOk_asc h)).length_le_of_subset (fun x hx => namesOk_sub h x hx)
theorem ok_parts {b : Book} (h : bookOk b = true) : thingsOk b.things = true ∧ b.batches.length ≤ 5 ∧ ∀ i, i < b.batches.length → batchOk b i = true ∧ ∀ j, j < i → shareB (b.at i).has (b.at j).has = false := by
  unfold bookOk at h
  simp only [Bool.and_eq_true, decide_eq_true_eq] at h
  refine ⟨h.1.1, h.1.2, fun i hi => ?_⟩
  have h1 := allLt_true.1 h.2 i hi
  rw [Bool.and_eq_true] at h1
  refine ⟨h1.1, fun j hj => ?_⟩
  have h2 := allLt_true.1 h1.2 j hj
  simpa using h2
theorem ok_batch {b : Book} (h : bookOk b = true) {i : Nat} (hi : i < b.batches.length) : nameOk (b.at i).name = true ∧ upB b i = true ∧ namesOk (b.at i).needs b.things = true ∧ namesOk (b.at i).has (b.at i).needs = true := by
  have h1 := ((ok_parts h).2.2 i hi).1
  unfold batchOk at h1
  simp only [Bool.and_eq_true] at h1
  exact ⟨h1.1.1.1, h1.1.1.2, h1.1.2, h1.2⟩
theorem nameOk_len {s : Str} (h : nameOk s = true) : s.length ≤ 8 := by
  unfold nameOk at h
  simp only [Bool.and_eq_true, decide_eq_true_eq] at h
  exact h.1.2
theorem things_eight {b : Book} (h : bookOk b = true) : b.things.length ≤ 8 := by
  have h1 := (ok_parts h).1
  unfold thingsOk at h1
  simp only [Bool.and_eq_true, decide_eq_true_eq] at h1
  exact h1.1
theorem ok_lens {b : Book} (h : bookOk b = true) {i : Nat} (hi : i < b.batches.length) : (b.at i).needs.length ≤ 8 ∧ (b.at i).has.length ≤ 8 ∧ (b.at i).name.length ≤ 8 := by
  obtain ⟨h1, h2, h3, h4⟩ := ok_batch h hi
  have k1 := namesOk_len h3
  have k2 := namesOk_len h4
  have k3 := things_eight h
  exact ⟨by omega, by omega, nameOk_len h1⟩
end Go.Proofs.YtdafpnpfcmgfcabGreatDoor
namespace Go.Proofs.YtdafpnpfcmgfcabGreatDoor

abbrev LtS (a b : Str) : Prop := Op.bytesLess a b = true
theorem less_tri : ∀ {a b : Str}, a ≠ b → Op.bytesLess a b = false → LtS b a
  | [], [], h, _ => absurd rfl h
  | [], _ :: _, _, h => by simp [Op.bytesLess] at h
  | _ :: _, [], _, _ => by simp [LtS, Op.bytesLess]
  | x :: a, y :: b, hne, h => by
    have ih := @less_tri a b
    simp only [LtS, Op.bytesLess, Bool.or_eq_true, Bool.and_eq_true, decide_eq_true_eq, beq_iff_eq, Bool.or_eq_false_iff, decide_eq_false_iff_not] at *
    obtain ⟨h1, h2⟩ := h
    by_cases e : x = y
    · subst e
      refine Or.inr ⟨rfl, ih (fun e => hne (by rw [e])) ?_⟩
      simpa using h2
    · refine Or.inl ?_
      rw [UInt8.lt_iff_toNat_lt] at *
      have hx : x.toNat ≠ y.toNat := fun h => e (UInt8.toNat_inj.1 h)
      omega

theorem asc_iff {l : List Str} : ascB l = true ↔ l.Pairwise LtS := by
  rw [List.pairwise_iff_getElem]
  constructor
  · intro h i j hi hj hij
    have := asc_less h hij hj
    rwa [nth_get hi, nth_get hj] at this
  · intro h
    refine allLt_of (fun i hi => ?_)
    unfold up
    by_cases e : i = 0
    · simp [e]
    · have := h (i - 1) i (by omega) hi (by omega)
      rw [nth_get (by omega : i - 1 < l.length), nth_get hi]
      simp [this]
theorem namesOk_iff {l all : List Str} : namesOk l all = true ↔ l.Pairwise LtS ∧ ∀ x ∈ l, x ∈ all := by
  constructor
  · exact fun h => ⟨asc_iff.1 (namesOk_asc h), namesOk_sub h⟩
  · rintro ⟨h1, h2⟩
    have h1' := asc_iff.2 h1
    refine allLt_of (fun i hi => ?_)
    rw [Bool.and_eq_true]
    exact ⟨hasB_true.2 (h2 _ (by rw [nth_get hi]; exact List.getElem_mem hi)), allLt_true.1 h1' i hi⟩

abbrev NameLt (x y : Batch) : Prop := LtS x.name y.name
abbrev Apart (x y : Batch) : Prop := ∀ t ∈ x.has, t ∉ y.has
structure OkP (b : Book) : Prop where
  things : thingsOk b.things = true
  five : b.batches.length ≤ 5
  each : ∀ x ∈ b.batches, nameOk x.name = true ∧ namesOk x.needs b.things = true ∧ namesOk x.has x.needs = true
  names : b.batches.Pairwise NameLt
  apart : b.batches.Pairwise Apart

theorem names_asc {b : Book} (h : ∀ i, i < b.batches.length → upB b i = true) : ascB (namesOf b.batches) = true := by
  refine allLt_of (fun i hi => ?_)
  rw [namesOf_length] at hi
  have h1 := h i hi
  unfold upB at h1
  unfold up
  have e1 : ∀ j, j < b.batches.length → nth (namesOf b.batches) j = (b.at j).name := fun j hj => by
    rw [nth_get (by rw [namesOf_length]; exact hj), Book.at, nthB_get hj]; simp [namesOf]
  by_cases e : i = 0
  · simp [e]
  · rw [e1 (i - 1) (by omega), e1 i hi]; exact h1

theorem ok_iff {b : Book} : bookOk b = true ↔ OkP b := by
  constructor
  · intro h
    have hp := ok_parts h
    refine ⟨hp.1, hp.2.1, fun x hx => ?_, ?_, ?_⟩
    · obtain ⟨i, hi, e⟩ := List.getElem_of_mem hx
      obtain ⟨h1, _, h3, h4⟩ := ok_batch h hi
      rw [Book.at, nthB_get hi, e] at h1 h3 h4
      exact ⟨h1, h3, h4⟩
    · have ha := asc_iff.1 (names_asc (fun i hi => (ok_batch h hi).2.1))
      rw [namesOf, List.pairwise_map] at ha
      exact ha
    · rw [List.pairwise_iff_getElem]
      intro i j hi hj hij t h1 h2
      have hs := (hp.2.2 j hj).2 i hij
      rw [shareB_false] at hs
      simp only [Book.at] at hs
      rw [nthB_get hi, nthB_get hj] at hs
      exact hs t h2 h1
  · intro h
    unfold bookOk
    simp only [Bool.and_eq_true, decide_eq_true_eq]
    refine ⟨⟨h.things, h.five⟩, allLt_of (fun i hi => ?_)⟩
    have he := h.each _ (List.getElem_mem hi)
    rw [Bool.and_eq_true]
    constructor
    · unfold batchOk
      simp only [Bool.and_eq_true, Book.at, nthB_get hi]
      refine ⟨⟨⟨he.1, ?_⟩, he.2.1⟩, he.2.2⟩
      unfold upB
      by_cases e : i = 0
      · simp [e]
      · have := (List.pairwise_iff_getElem.1 h.names) (i - 1) i (by omega) hi (by omega)
        simp only [Book.at]
        rw [nthB_get (by omega : i - 1 < b.batches.length), nthB_get hi]
        simp [this]
    · refine allLt_of (fun j hj => ?_)
      rw [Bool.not_eq_true', shareB_false]
      simp only [Book.at]
      rw [nthB_get hi, nthB_get (by omega : j < b.batches.length)]
      intro t h1 h2
      exact (List.pairwise_iff_getElem.1 h.apart) j i (by omega) hi hj t h2 h1

/-! ### Insertion -/
theorem lead_le {α : Type} (p : α → Bool) (l : List α) : leadP p l ≤ l.length := (List.takeWhile_prefix p).length_le
theorem lead_all {α : Type} (p : α → Bool) : ∀ (l : List α) (x : α), x ∈ l.take (leadP p l) → p x = true
  | [], x, h => by simp at h
  | y :: l, x, h => by
    unfold leadP at h
    rw [List.takeWhile_cons] at h
    split at h
    · rename_i hy
      rw [List.length_cons, List.take_succ_cons, List.mem_cons] at h
      rcases h with rfl | h
      · exact hy
      · exact lead_all p l x h
    · simp at h
theorem lead_next {α : Type} (p : α → Bool) : ∀ (l : List α) (x : α), l[leadP p l]? = some x → p x = false
  | [], x, h => by simp at h
  | y :: l, x, h => by
    unfold leadP at h
    rw [List.takeWhile_cons] at h
    split at h
    · rw [List.length_cons, List.getElem?_cons_succ] at h
      exact lead_next p l x h
    · rename_i hy
      simp at h; subst h
      simpa using hy
/-- Put in where it belongs. -/
theorem ins_sorted {α : Type} (key : α → Str) {l : List α} {x : α} (h : l.Pairwise fun a b => LtS (key a) (key b)) (hne : ∀ y, l[leadP (fun y => Op.bytesLess (key y) (key x)) l]? = some y → key y ≠ key x) :
    (l.take (leadP (fun y => Op.bytesLess (key y) (key x)) l) ++ [x] ++ l.drop (leadP (fun y => Op.bytesLess (key y) (key x)) l)).Pairwise fun a b => LtS (key a) (key b) := by
  have hk := lead_le (fun y => Op.bytesLess (key y) (key x)) l
  have h1 := lead_all (fun y => Op.bytesLess (key y) (key x)) l
  have h2 := lead_next (fun y => Op.bytesLess (key y) (key x)) l
  generalize leadP (fun y => Op.bytesLess (key y) (key x)) l = k at *
  have hpa : (l.take k ++ l.drop k).Pairwise fun a b => LtS (key a) (key b) := by rw [List.take_append_drop]; exact h
  rw [List.pairwise_append] at hpa
  have hd : ∀ y ∈ l.drop k, LtS (key x) (key y) := by
    intro y hy
    obtain ⟨i, hi, e⟩ := List.getElem_of_mem hy
    rw [List.length_drop] at hi
    have hkl : k < l.length := by omega
    have hx0 := h2 _ (List.getElem?_eq_getElem hkl)
    have hlt := less_tri (hne _ (List.getElem?_eq_getElem hkl)) hx0
    rw [List.getElem_drop] at e
    by_cases e0 : i = 0
    · subst e0
      rw [← e]; exact hlt
    · rw [← e]
      exact less_trans hlt ((List.pairwise_iff_getElem.1 h) k (k + i) hkl (by omega) (by omega))
  rw [List.append_assoc, List.pairwise_append]
  refine ⟨hpa.1, ?_, fun a ha b hb => ?_⟩
  · rw [List.singleton_append, List.pairwise_cons]
    exact ⟨hd, hpa.2.1⟩
  · rw [List.singleton_append, List.mem_cons] at hb
    rcases hb with rfl | hb
    · exact h1 a ha
    · exact hpa.2.2 a ha b hb

theorem insS_sorted {l : List Str} {n : Str} (h : l.Pairwise LtS) : (insS l n).Pairwise LtS := by
  unfold insS
  split
  · exact h
  · rename_i hc
    refine ins_sorted (fun s => s) h (fun y hy e => hc ?_)
    have hlt : leadS l n < l.length := by
      rcases Nat.lt_or_ge (leadS l n) l.length with h' | h'
      · exact h'
      · have : l[leadP (fun y => Op.bytesLess y n) l]? = none := List.getElem?_eq_none h'
        rw [this] at hy; cases hy
    have hg : l[leadS l n]? = some y := hy
    rw [List.getElem?_eq_getElem hlt] at hg
    cases hg
    simp [hlt, nth_get hlt, e]
theorem fold_sorted : ∀ (t : List Str) {l : List Str}, l.Pairwise LtS → (t.foldl insS l).Pairwise LtS
  | [], _, h => h
  | _ :: t, _, h => fold_sorted t (insS_sorted h)

theorem mem_names {b : Book} {n : Str} : hereB b n = true ↔ ∃ x ∈ b.batches, x.name = n := by
  unfold hereB
  rw [hasB_true, namesOf]; simp

theorem enter_ok {b : Book} {n : Str} {needs : List Str} (h : bookOk b = true) : bookOk (enterB b n needs).1 = true := by
  unfold enterB
  simp only [h, Bool.true_eq_false, if_false]
  split
  · exact h
  · rename_i h1
    split
    · exact h
    · rename_i h2
      split
      · exact h
      · rename_i h3
        have hn1 : nameOk n = true := by
          cases e : nameOk n
          · exact absurd (Or.inl e) h1
          · rfl
        have hn2 : namesOk needs b.things = true := by
          cases e : namesOk needs b.things
          · exact absurd (Or.inr e) h1
          · rfl
        have hno : ∀ x ∈ b.batches, x.name ≠ n := fun x hx e => h2 (mem_names.2 ⟨x, hx, e⟩)
        rw [ok_iff] at h ⊢
        have hsub : ∀ x, x ∈ insB b.batches ⟨n, [], needs⟩ → x ∈ b.batches ∨ x = ⟨n, [], needs⟩ := fun x hx => by
          unfold insB at hx
          rw [List.mem_append, List.mem_append] at hx
          rcases hx with (hx | hx) | hx
          · exact Or.inl (List.mem_of_mem_take hx)
          · simp at hx; exact Or.inr hx
          · exact Or.inl (List.mem_of_mem_drop hx)
        refine ⟨h.things, ?_, fun x hx => ?_, ?_, ?_⟩
        · show (insB b.batches ⟨n, [], needs⟩).length ≤ 5
          unfold insB
          rw [List.length_append, List.length_append, List.length_take, List.length_drop, List.length_singleton]; omega
        · rcases hsub x hx with hx | rfl
          · exact h.each x hx
          · exact ⟨hn1, hn2, rfl⟩
        · show (insB b.batches ⟨n, [], needs⟩).Pairwise NameLt
          exact ins_sorted (fun y : Batch => y.name) h.names (fun y hy => hno y (List.mem_of_getElem? hy))
        · show (insB b.batches ⟨n, [], needs⟩).Pairwise Apart
          have hpa : (b.batches.take (leadB b.batches n) ++ b.batches.drop (leadB b.batches n)).Pairwise Apart := by rw [List.take_append_drop]; exact h.apart
          rw [List.pairwise_append] at hpa
          unfold insB
          rw [List.append_assoc, List.pairwise_append]
          refine ⟨hpa.1, ?_, fun x hx y hy => ?_⟩
          · rw [List.singleton_append, List.pairwise_cons]
            exact ⟨fun y _ t ht => by simp at ht, hpa.2.1⟩
          · rw [List.singleton_append, List.mem_cons] at hy
            rcases hy with rfl | hy
            · intro t _; simp
            · exact hpa.2.2 x hx y hy

/-- One batch exchanged for another of its name, whose things nobody else has. -/
theorem set_ok {b : Book} {k : Nat} {x : Batch} (h : OkP b) (hk : k < b.batches.length) (hn : x.name = (b.at k).name) (h1 : namesOk x.needs b.things = true) (h2 : namesOk x.has x.needs = true)
    (h3 : ∀ i, i < b.batches.length → i ≠ k → ∀ t ∈ x.has, t ∉ (b.at i).has) : OkP ⟨b.things, b.batches.set k x⟩ := by
  have hbk : b.at k = b.batches[k] := by rw [Book.at, nthB_get hk]
  refine ⟨h.things, by simpa using h.five, fun y hy => ?_, ?_, ?_⟩
  · rcases List.mem_or_eq_of_mem_set hy with hy | rfl
    · exact h.each y hy
    · refine ⟨?_, h1, h2⟩
      rw [hn, hbk]; exact (h.each _ (List.getElem_mem hk)).1
  · show (b.batches.set k x).Pairwise NameLt
    rw [List.pairwise_iff_getElem]
    intro i j hi hj hij
    rw [List.length_set] at hi hj
    have hh := (List.pairwise_iff_getElem.1 h.names) i j hi hj hij
    have hnm : ∀ m (hm : m < b.batches.length) (hm' : m < (b.batches.set k x).length), ((b.batches.set k x)[m]).name = (b.batches[m]).name := fun m hm hm' => by
      rw [List.getElem_set]
      split
      · rename_i e; subst e; rw [hn, hbk]
      · rfl
    show LtS _ _
    rw [hnm i hi, hnm j hj]; exact hh
  · show (b.batches.set k x).Pairwise Apart
    rw [List.pairwise_iff_getElem]
    intro i j hi hj hij
    rw [List.length_set] at hi hj
    have hh := (List.pairwise_iff_getElem.1 h.apart) i j hi hj hij
    rw [List.getElem_set, List.getElem_set]
    by_cases ei : k = i
    · rw [if_pos ei, if_neg (by omega)]
      intro t ht
      have := h3 j hj (by omega) t ht
      rwa [Book.at, nthB_get hj] at this
    · rw [if_neg ei]
      by_cases ej : k = j
      · rw [if_pos ej]
        intro t ht hx
        have := h3 i hi (by omega) t hx
        rw [Book.at, nthB_get hi] at this
        exact this ht
      · rw [if_neg ej]; exact hh

theorem where_lt {b : Book} {n : Str} (h : hereB b n = true) : whereB b n < b.batches.length := by
  unfold whereB
  have := place_lt.2 (hasB_true.1 h)
  rwa [namesOf_length] at this
theorem apart_at {b : Book} (h : OkP b) {i k : Nat} (hi : i < b.batches.length) (hk : k < b.batches.length) (hne : i ≠ k) {t : Str} (ht : t ∈ (b.at k).has) : t ∉ (b.at i).has := by
  rw [Book.at, nthB_get hk] at ht
  rw [Book.at, nthB_get hi]
  rcases Nat.lt_or_gt_of_ne hne with h' | h'
  · exact fun hx => (List.pairwise_iff_getElem.1 h.apart) i k hi hk h' t hx ht
  · exact (List.pairwise_iff_getElem.1 h.apart) k i hk hi h' t ht
theorem each_at {b : Book} (h : OkP b) {k : Nat} (hk : k < b.batches.length) : namesOk (b.at k).needs b.things = true ∧ namesOk (b.at k).has (b.at k).needs = true := by
  have := h.each _ (List.getElem_mem hk)
  rw [Book.at, nthB_get hk]; exact this.2
theorem sub_names {l m all : List Str} (h : namesOk l m = true) (h2 : namesOk m all = true) : namesOk l all = true :=
  namesOk_iff.2 ⟨(namesOk_iff.1 h).1, fun x hx => namesOk_sub h2 x (namesOk_sub h x hx)⟩
theorem taken_no {b : Book} {k : Nat} {things : List Str} (h : takenB b k things = false) {i : Nat} (hi : i < b.batches.length) (hne : i ≠ k) : ∀ t ∈ things, t ∉ (b.at i).has := by
  intro t ht hx
  have : takenB b k things = true := anyLt_of hi (by
    rw [Bool.and_eq_true]
    exact ⟨by simp [hne], shareB_true.2 ⟨t, hx, ht⟩⟩)
  rw [this] at h; cases h

theorem insS_mem' {l : List Str} {n x : Str} (h : x ∈ insS l n) : x ∈ l ∨ x = n := by
  unfold insS at h
  split at h
  · exact Or.inl h
  · rw [List.mem_append, List.mem_append] at h
    rcases h with (h | h) | h
    · exact Or.inl (List.mem_of_mem_take h)
    · simp at h; exact Or.inr h
    · exact Or.inl (List.mem_of_mem_drop h)
theorem fold_mem' : ∀ (t : List Str) {l : List Str} {x : Str}, x ∈ t.foldl insS l → x ∈ l ∨ x ∈ t
  | [], _, _, h => Or.inl h
  | y :: t, _, _, h => by
    rw [List.foldl_cons] at h
    rcases fold_mem' t h with h1 | h1
    · rcases insS_mem' h1 with h2 | h2
      · exact Or.inl h2
      · exact Or.inr (by rw [h2]; exact List.mem_cons_self)
    · exact Or.inr (List.mem_cons_of_mem _ h1)

theorem give_ok {b : Book} {k : Nat} {things : List Str} (h : OkP b) (hk : k < b.batches.length) (hn : namesOk things (b.at k).needs = true) (ht : takenB b k things = false) : OkP (giveB b k things) := by
  obtain ⟨e1, e2⟩ := each_at h hk
  refine set_ok h hk rfl e1 (namesOk_iff.2 ⟨fold_sorted things (namesOk_iff.1 e2).1, fun x hx => ?_⟩) (fun i hi hne t hx => ?_)
  · rcases fold_mem' things hx with hx | hx
    · exact namesOk_sub e2 x hx
    · exact namesOk_sub hn x hx
  · rcases fold_mem' things hx with hx | hx
    · exact apart_at h hi hk hne hx
    · exact taken_no ht hi hne t hx
theorem ask_ok {b : Book} {n : Str} {things : List Str} (h : bookOk b = true) : bookOk (askB b n things).1 = true := by
  unfold askB
  simp only [h, Bool.true_eq_false, if_false]
  split
  · exact h
  · rename_i h1
    split
    · exact h
    · rename_i h2
      split
      · exact h
      · rename_i h3
        split
        · exact h
        · have hh : hereB b n = true := by simpa using h1
          exact ok_iff.2 (give_ok (ok_iff.1 h) (where_lt hh) (by simpa using h2) (by simpa using h3))
theorem fewer_ok {b : Book} {k : Nat} {needs : List Str} (h : OkP b) (hk : k < b.batches.length) (hn : namesOk needs (b.at k).needs = true) : OkP (fewerB b k needs) := by
  obtain ⟨e1, e2⟩ := each_at h hk
  refine set_ok h hk rfl (sub_names hn e1) (namesOk_iff.2 ⟨(namesOk_iff.1 e2).1.sublist List.filter_sublist, fun x hx => ?_⟩) (fun i hi hne t hx => ?_)
  · exact hasB_true.1 (List.mem_filter.1 hx).2
  · exact apart_at h hi hk hne (List.mem_filter.1 hx).1
theorem less_ok {b : Book} {n : Str} {needs : List Str} (h : bookOk b = true) : bookOk (lessB b n needs).1 = true := by
  unfold lessB
  simp only [h, Bool.true_eq_false, if_false]
  split
  · exact h
  · rename_i h1
    split
    · exact h
    · rename_i h2
      have hh : hereB b n = true := by simpa using h1
      exact ok_iff.2 (fewer_ok (ok_iff.1 h) (where_lt hh) (by simpa using h2))
theorem out_ok {b : Book} {bs : List Batch} (h : OkP b) (hs : bs.Sublist b.batches) : OkP ⟨b.things, bs⟩ :=
  ⟨h.things, Nat.le_trans hs.length_le h.five, fun x hx => h.each x (hs.subset hx), h.names.sublist hs, h.apart.sublist hs⟩
theorem cut_sub {α : Type} (l : List α) (k : Nat) : (l.take k ++ l.drop (k + 1)).Sublist l := by
  have e : l.take k ++ l.drop k = l := List.take_append_drop k l
  have hd : (l.drop (k + 1)).Sublist (l.drop k) := List.drop_sublist_drop_left l (by omega)
  have h := List.Sublist.append (List.Sublist.refl (l.take k)) hd
  rw [e] at h
  exact h
theorem leave_ok {b : Book} {n : Str} (h : bookOk b = true) : bookOk (leaveB b n).1 = true := by
  unfold leaveB
  simp only [h, Bool.true_eq_false, if_false]
  split
  · exact h
  · exact ok_iff.2 (out_ok (ok_iff.1 h) (cut_sub _ _))
end Go.Proofs.YtdafpnpfcmgfcabGreatDoor
namespace Go.Proofs.YtdafpnpfcmgfcabGreatDoor

theorem sorted_eq : ∀ {l m : List Str}, l.Pairwise LtS → m.Pairwise LtS → (∀ x, x ∈ l ↔ x ∈ m) → l = m
  | [], [], _, _, _ => rfl
  | [], y :: m, _, _, h => by have := (h y).2 (by simp); simp at this
  | x :: l, [], _, _, h => by have := (h x).1 (by simp); simp at this
  | x :: l, y :: m, hl, hm, h => by
    rw [List.pairwise_cons] at hl hm
    have hxy : x = y := by
      have h1 := (h x).1 (by simp)
      have h2 := (h y).2 (by simp)
      rw [List.mem_cons] at h1 h2
      rcases h1 with h1 | h1
      · exact h1
      · rcases h2 with h2 | h2
        · exact h2.symm
        · have := less_trans (hm.1 x h1) (hl.1 y h2)
          rw [less_irrefl] at this; cases this
    subst hxy
    have : l = m := by
      refine sorted_eq hl.2 hm.2 (fun z => ?_)
      constructor
      · intro hz
        have h1 := (h z).1 (by simp [hz])
        rw [List.mem_cons] at h1
        rcases h1 with rfl | h1
        · have := hl.1 z hz
          rw [LtS, less_irrefl] at this; cases this
        · exact h1
      · intro hz
        have h1 := (h z).2 (by simp [hz])
        rw [List.mem_cons] at h1
        rcases h1 with rfl | h1
        · have := hm.1 z hz
          rw [LtS, less_irrefl] at this; cases this
        · exact h1
    rw [this]

theorem mem_insS {l : List Str} {n x : Str} (h : x ∈ l ∨ x = n) : x ∈ insS l n := by
  unfold insS
  split
  · rename_i hc
    rcases h with h | rfl
    · exact h
    · simp only [Bool.and_eq_true, decide_eq_true_eq, beq_iff_eq] at hc
      rw [nth_get hc.1] at hc
      rw [← hc.2]; exact List.getElem_mem hc.1
  · rw [List.mem_append, List.mem_append, List.mem_singleton]
    rcases h with h | rfl
    · rw [← List.take_append_drop (leadS l n) l, List.mem_append] at h
      rcases h with h | h
      · exact Or.inl (Or.inl h)
      · exact Or.inr h
    · exact Or.inl (Or.inr rfl)
theorem mem_fold : ∀ (t : List Str) {l : List Str} {x : Str}, x ∈ l ∨ x ∈ t → x ∈ t.foldl insS l
  | [], l, x, h => by simpa using h
  | y :: t, l, x, h => by
    rw [List.foldl_cons]
    refine mem_fold t ?_
    rcases h with h | h
    · exact Or.inl (mem_insS (Or.inl h))
    · rw [List.mem_cons] at h
      rcases h with rfl | h
      · exact Or.inl (mem_insS (Or.inr rfl))
      · exact Or.inr h
/-- What of a list is also of another. -/
def keptL (l o : List Str) : List Str := l.filter (hasB o)
theorem kept_give {needs has things : List Str} (h1 : needs.Pairwise LtS) (h2 : namesOk has needs = true) (h3 : namesOk things needs = true) : keptL needs (has ++ things) = things.foldl insS has := by
  obtain ⟨a1, a2⟩ := namesOk_iff.1 h2
  obtain ⟨b1, b2⟩ := namesOk_iff.1 h3
  refine sorted_eq (h1.filter _) (fold_sorted things a1) (fun x => ?_)
  unfold keptL
  rw [List.mem_filter, hasB_true, List.mem_append]
  constructor
  · exact fun h => mem_fold things h.2
  · intro h
    have h' := fold_mem' things h
    refine ⟨?_, h'⟩
    rcases h' with h' | h'
    · exact a2 x h'
    · exact b2 x h'

/-- The search's answer. -/
theorem search_lead {l : List Str} {n : Str} {i : Nat} (h1 : ∀ j, j < i → Op.bytesLess (nth l j) n = true) (hi : i ≤ l.length) (h2 : i < l.length → Op.bytesLess (nth l i) n = false) : leadS l n = i := leadS_of h1 hi h2
theorem lead_bound (l : List Str) (n : Str) : leadS l n ≤ l.length := lead_le _ _
theorem lead_less {l : List Str} {n : Str} {j : Nat} (h : j < leadS l n) : Op.bytesLess (nth l j) n = true := by
  have hle := lead_bound l n
  have hj : j < l.length := by omega
  refine lead_all (fun y => Op.bytesLess y n) l (nth l j) ?_
  rw [nth_get hj]
  exact List.mem_take_iff_getElem.2 ⟨j, by simp only [Nat.lt_min]; exact ⟨h, hj⟩, rfl⟩
theorem lead_stop {l : List Str} {n : Str} (h : leadS l n < l.length) : Op.bytesLess (nth l (leadS l n)) n = false := by
  refine lead_next (fun y => Op.bytesLess y n) l (nth l (leadS l n)) ?_
  rw [nth_get h]
  exact List.getElem?_eq_getElem h
/-- In an ascending list a name is there just if it stands where it would stand. -/
theorem found_iff {l : List Str} {n : Str} (h : l.Pairwise LtS) : hasB l n = (decide (leadS l n < l.length) && (nth l (leadS l n) == n)) := by
  rw [Bool.eq_iff_iff, hasB_true, Bool.and_eq_true, decide_eq_true_eq, beq_iff_eq]
  constructor
  · intro hm
    obtain ⟨k, hk, e⟩ := List.getElem_of_mem hm
    have hle : leadS l n ≤ k := by
      rcases Nat.lt_or_ge k (leadS l n) with hlt | hge
      · have := lead_less hlt
        rw [nth_get hk, e, less_irrefl] at this; cases this
      · exact hge
    have hlt : leadS l n < l.length := by omega
    refine ⟨hlt, ?_⟩
    rcases Nat.lt_or_ge (leadS l n) k with h3 | h3
    · rw [List.pairwise_iff_getElem] at h
      have := h (leadS l n) k hlt hk h3
      have h4 := lead_stop hlt
      rw [nth_get hlt] at h4
      rw [LtS, e, h4] at this; cases this
    · have e' : leadS l n = k := by omega
      rw [e', nth_get hk]; exact e
  · rintro ⟨h1, h2⟩
    rw [nth_get h1] at h2
    rw [← h2]; exact List.getElem_mem h1
theorem lead_place {l : List Str} {n : Str} (h : l.Pairwise LtS) (hm : hasB l n = true) : leadS l n = place l n := by
  rw [found_iff h, Bool.and_eq_true, decide_eq_true_eq] at hm
  refine (place_of ⟨hm.1, hm.2, fun j hj => ?_⟩).symm
  have := lead_less hj
  cases hq : nth l j == n
  · rfl
  · rw [eq_of_beq hq, less_irrefl] at this; cases this
theorem lead_names {bs : List Batch} {n : Str} : leadB bs n = leadS (namesOf bs) n := by
  have hle := lead_bound (namesOf bs) n
  rw [namesOf_length] at hle
  refine leadB_of (fun j hj => ?_) hle (fun hlt => ?_)
  · have := lead_less hj
    rwa [nth_namesOf (by omega)] at this
  · have := lead_stop (l := namesOf bs) (n := n) (by rw [namesOf_length]; exact hlt)
    rwa [nth_namesOf hlt] at this
theorem ok_names {b : Book} (h : bookOk b = true) : (namesOf b.batches).Pairwise LtS := asc_iff.1 (names_asc (fun _ hi => (ok_batch h hi).2.1))
theorem ok_where {b : Book} {n : Str} (h : bookOk b = true) (hh : hereB b n = true) : leadS (namesOf b.batches) n = whereB b n := lead_place (ok_names h) hh

/-- Somebody else than k has a thing. -/
def hadAt (b : Book) (k : Nat) (t : Str) : Bool := anyLt b.batches.length (fun i => !(i == k) && hasB (b.at i).has t)
def otherB (b : Book) (k : Nat) (ts : List Str) : Bool := anyLt ts.length (fun j => hadAt b k (nth ts j))
theorem other_taken (b : Book) (k : Nat) (ts : List Str) : otherB b k ts = takenB b k ts := by
  rw [Bool.eq_iff_iff]
  unfold otherB takenB hadAt
  simp only [anyLt_true, Bool.and_eq_true, hasB_true, shareB_true]
  constructor
  · rintro ⟨j, hj, i, hi, hne, hm⟩
    exact ⟨i, hi, hne, nth ts j, hm, by rw [nth_get hj]; exact List.getElem_mem hj⟩
  · rintro ⟨i, hi, hne, x, hx, hm⟩
    obtain ⟨j, hj, e⟩ := List.getElem_of_mem hm
    exact ⟨j, hj, i, hi, hne, by rw [nth_get hj, e]; exact hx⟩
theorem had_none {b : Book} {k : Nat} {t : Str} (h : ∀ i, i < b.batches.length → t ∉ (nthB b.batches i).has) : hadAt b k t = false :=
  anyLt_no (fun i hi => by
    have : hasB (b.at i).has t = false := by rw [← Bool.not_eq_true, hasB_true]; exact h i hi
    rw [this]; simp)
theorem had_own {b : Book} {k : Nat} {t : Str} (hok : bookOk b = true) (hk : k < b.batches.length) (h : t ∈ (nthB b.batches k).has) : hadAt b k t = false :=
  anyLt_no (fun i hi => by
    by_cases e : i = k
    · simp [e]
    · have : hasB (b.at i).has t = false := by rw [← Bool.not_eq_true, hasB_true]; exact apart_at (ok_iff.1 hok) hi hk e h
      rw [this]; simp)
theorem had_other {b : Book} {k p : Nat} {t : Str} (hp : p < b.batches.length) (hne : p ≠ k) (h : t ∈ (nthB b.batches p).has) : hadAt b k t = true :=
  anyLt_of hp (by
    have : hasB (b.at p).has t = true := hasB_true.2 h
    rw [this]; simp [hne])
end Go.Proofs.YtdafpnpfcmgfcabGreatDoor
