/- Who has what: the things of batches with their places, and the map that holds them. What makes a book ok, told in the program's way and in the document's. Orders: who can go, which orders fit, and the order that always takes the first who can. -/
import Derived.Test.YtdafpnpfcmgfcabGreatDoorMath
import Derived.Maps.OwnSet
namespace Go.Proofs.YtdafpnpfcmgfcabGreatDoor

def pairsOf (bs : List Batch) (p : Nat) : List (Str × Nat) := (nthB bs p).has.map (fun x => (x, p))
def pairsTo (bs : List Batch) : Nat → List (Str × Nat)
  | 0 => []
  | i + 1 => pairsTo bs i ++ pairsOf bs i
def halfP (bs : List Batch) (i j : Nat) : List (Str × Nat) := pairsTo bs i ++ ((nthB bs i).has.take j).map (fun x => (x, i))
def keys (l : List (Str × Nat)) : List Str := l.map Prod.fst
def onceB (bs : List Batch) : Bool := decide (keys (pairsTo bs bs.length)).Nodup

theorem halfP_zero (bs : List Batch) (i : Nat) : halfP bs i 0 = pairsTo bs i := by simp [halfP]
theorem halfP_full (bs : List Batch) (i : Nat) : halfP bs i (nthB bs i).has.length = pairsTo bs (i + 1) := by simp [halfP, pairsTo, pairsOf]
theorem halfP_succ {bs : List Batch} {i j : Nat} (h : j < (nthB bs i).has.length) : halfP bs i (j + 1) = halfP bs i j ++ [(nth (nthB bs i).has j, i)] := by
  unfold halfP
  rw [List.take_succ_eq_append_getElem h, nth_get h, List.map_append, List.append_assoc]; rfl
theorem pairsTo_prefix (bs : List Batch) : ∀ {i n : Nat}, i ≤ n → ∃ t, pairsTo bs n = pairsTo bs i ++ t := by
  intro i n h
  induction n with
  | zero => exact ⟨[], by have : i = 0 := by omega
                          subst this; simp⟩
  | succ n ih =>
    by_cases e : i = n + 1
    · subst e; exact ⟨[], by simp⟩
    · obtain ⟨t, ht⟩ := ih (by omega)
      exact ⟨t ++ pairsOf bs n, by simp [pairsTo, ht]⟩
theorem halfP_prefix {bs : List Batch} {i j n : Nat} (hi : i < n) : ∃ t, pairsTo bs n = halfP bs i j ++ t := by
  obtain ⟨t, ht⟩ := pairsTo_prefix bs (i := i + 1) (n := n) hi
  refine ⟨((nthB bs i).has.drop j).map (fun x => (x, i)) ++ t, ?_⟩
  rw [ht]
  have e : pairsTo bs (i + 1) = halfP bs i j ++ ((nthB bs i).has.drop j).map (fun x => (x, i)) := by
    unfold halfP
    rw [List.append_assoc, ← List.map_append, List.take_append_drop]; rfl
  rw [e, List.append_assoc]
theorem onceB_no {bs : List Batch} {i j : Nat} (hi : i < bs.length) (hj : j < (nthB bs i).has.length) (h : nth (nthB bs i).has j ∈ keys (halfP bs i j)) : onceB bs = false := by
  unfold onceB
  rw [decide_eq_false_iff_not]
  intro hn
  obtain ⟨t, ht⟩ := halfP_prefix (bs := bs) (i := i) (j := j + 1) (n := bs.length) hi
  rw [ht, halfP_succ hj] at hn
  simp only [keys, List.map_append, List.map_cons, List.map_nil] at hn h
  have hn' := (List.nodup_append.1 hn).1
  have := (List.nodup_append.1 hn').2.2
  exact this _ h _ (by simp) rfl
theorem keys_snoc {bs : List Batch} {i j : Nat} (hj : j < (nthB bs i).has.length) (hn : (keys (halfP bs i j)).Nodup) (h : nth (nthB bs i).has j ∉ keys (halfP bs i j)) : (keys (halfP bs i (j + 1))).Nodup := by
  rw [halfP_succ hj]
  simp only [keys, List.map_append, List.map_cons, List.map_nil] at *
  rw [List.nodup_append]
  refine ⟨hn, by simp, ?_⟩
  intro a ha b hb e
  simp at hb
  subst hb; subst e; exact h ha
theorem pairsTo_len {bs : List Batch} {M : Nat} (h : ∀ i, (nthB bs i).has.length ≤ M) : ∀ i, (pairsTo bs i).length ≤ i * M := by
  intro i
  induction i with
  | zero => simp [pairsTo]
  | succ i ih =>
    have := h i
    simp only [pairsTo, pairsOf, List.length_append, List.length_map, Nat.succ_mul]; omega
theorem halfP_len {bs : List Batch} {M : Nat} (h : ∀ i, (nthB bs i).has.length ≤ M) (i j : Nat) : (halfP bs i j).length ≤ i * M + M := by
  have h1 := pairsTo_len h i
  have h2 := h i
  simp only [halfP, List.length_append, List.length_map, List.length_take]; omega

/-- The map reads as these pairs. -/
def MapIs (D : DataW Unit) (L : List (Str × Nat)) : Prop :=
  Maps.IsMap D ∧ (∀ x, Maps.has D (.string x) = hasB (keys L) x) ∧ ∀ x (p : Nat) z, (x, p) ∈ L → D.atKey (.string x) z = .lit (.int .i64 (p : Int))
theorem mapIs_nil : MapIs (.map []) [] := ⟨Maps.isMap_empty, fun x => by simp [Maps.has, hasB, keys], fun x p z h => by simp at h⟩
theorem lit_ne {x y : Str} (h : y ≠ x) : (Lit.string y) ≠ .string x := fun e => by injection e with e; exact h e
theorem MapIs.put {D : DataW Unit} {L : List (Str × Nat)} (h : MapIs D L) {x : Str} (hx : x ∉ keys L) (i : Nat) : MapIs (D.put (.string x) (.lit (.int .i64 (i : Int)))) (L ++ [(x, i)]) := by
  obtain ⟨h0, h1, h2⟩ := h
  have hk : WideAt.IsKeyLit (.string x) := by simp [WideAt.IsKeyLit]
  refine ⟨h0.put _ _, fun y => ?_, fun y p z hm => ?_⟩
  · by_cases e : y = x
    · subst e
      rw [Maps.has_put_same h0 hk]
      simp [hasB, keys]
    · rw [Maps.has_put_other (lit_ne e), h1, Bool.eq_iff_iff, hasB_true, hasB_true]
      simp only [keys, List.map_append, List.mem_append, List.map_cons, List.map_nil, List.mem_singleton, e, or_false]
  · rw [List.mem_append] at hm
    rcases hm with hm | hm
    · have e : y ≠ x := fun e => hx (by rw [← e]; exact List.mem_map.2 ⟨_, hm, rfl⟩)
      rw [Maps.atKey_put_other (lit_ne e)]
      exact h2 y p z hm
    · simp at hm
      obtain ⟨rfl, rfl⟩ := hm
      rw [Maps.atKey_put_same h0 hk]

end Go.Proofs.YtdafpnpfcmgfcabGreatDoor
namespace Go.Proofs.YtdafpnpfcmgfcabGreatDoor

theorem less_irrefl : ∀ a : Str, Op.bytesLess a a = false
  | [] => rfl
  | c :: r => by
    have h := less_irrefl r
    simp [Op.bytesLess, h]
theorem less_trans : ∀ {a b c : Str}, Op.bytesLess a b = true → Op.bytesLess b c = true → Op.bytesLess a c = true
  | [], [], _, h, _ => by simp [Op.bytesLess] at h
  | [], _ :: _, [], _, h => by simp [Op.bytesLess] at h
  | [], _ :: _, _ :: _, _, _ => by simp [Op.bytesLess]
  | _ :: _, [], _, h, _ => by simp [Op.bytesLess] at h
  | _ :: _, _ :: _, [], _, h => by simp [Op.bytesLess] at h
  | x :: a, y :: b, z :: c, h, k => by
    have ih := @less_trans a b c
    simp only [Op.bytesLess, Bool.or_eq_true, Bool.and_eq_true, decide_eq_true_eq, beq_iff_eq] at *
    rcases h with h | ⟨rfl, h⟩
    · rcases k with k | ⟨rfl, _⟩
      · exact Or.inl (UInt8.lt_trans h k)
      · exact Or.inl h
    · rcases k with k | ⟨rfl, k⟩
      · exact Or.inl k
      · exact Or.inr ⟨rfl, ih h k⟩

theorem asc_less {l : List Str} (h : ascB l = true) {i j : Nat} (hij : i < j) (hj : j < l.length) : Op.bytesLess (nth l i) (nth l j) = true := by
  induction j with
  | zero => omega
  | succ j ih =>
    have hu := allLt_true.1 h (j + 1) hj
    simp only [up, Nat.add_one_ne_zero, decide_false, Bool.false_or, Nat.add_sub_cancel] at hu
    by_cases e : i = j
    · rw [e]; exact hu
    · exact less_trans (ih (by omega) (by omega)) hu
theorem asc_nodup {l : List Str} (h : ascB l = true) : l.Nodup := by
  unfold List.Nodup
  rw [List.pairwise_iff_getElem]
  intro i j hi hj hij e
  have := asc_less h hij hj
  rw [nth_get hi, nth_get hj, e, less_irrefl] at this
  cases this

theorem keys_succ (bs : List Batch) (i : Nat) : keys (pairsTo bs (i + 1)) = keys (pairsTo bs i) ++ (nthB bs i).has := by
  have e : (Prod.fst ∘ fun x : Str => (x, i)) = id := rfl
  simp only [keys, pairsTo, pairsOf, List.map_append, List.map_map, e, List.map_id]
theorem mem_keys {bs : List Batch} {x : Str} : ∀ {i : Nat}, x ∈ keys (pairsTo bs i) ↔ ∃ p, p < i ∧ x ∈ (nthB bs p).has
  | 0 => by simp [keys, pairsTo]
  | i + 1 => by
    have ih := @mem_keys bs x i
    have e : keys (pairsTo bs (i + 1)) = keys (pairsTo bs i) ++ (nthB bs i).has := keys_succ bs i
    rw [e, List.mem_append, ih]
    constructor
    · rintro (⟨p, hp, h⟩ | h)
      · exact ⟨p, by omega, h⟩
      · exact ⟨i, by omega, h⟩
    · rintro ⟨p, hp, h⟩
      by_cases e : p = i
      · exact Or.inr (e ▸ h)
      · exact Or.inl ⟨p, by omega, h⟩
theorem shareB_true {a b : List Str} : shareB a b = true ↔ ∃ x, x ∈ a ∧ x ∈ b := by
  unfold shareB
  rw [anyLt_true]
  constructor
  · rintro ⟨i, hi, h⟩
    exact ⟨nth a i, by rw [nth_get hi]; exact List.getElem_mem hi, hasB_true.1 h⟩
  · rintro ⟨x, h1, h2⟩
    obtain ⟨i, hi, e⟩ := List.getElem_of_mem h1
    exact ⟨i, hi, by rw [nth_get hi, e]; exact hasB_true.2 h2⟩
theorem shareB_false {a b : List Str} : shareB a b = false ↔ ∀ x, x ∈ a → x ∉ b := by
  rw [← Bool.not_eq_true, shareB_true]
  exact ⟨fun h x h1 h2 => h ⟨x, h1, h2⟩, fun h ⟨x, h1, h2⟩ => h x h1 h2⟩

theorem nodup_pairs {bs : List Batch} (hn : ∀ i, i < bs.length → (nthB bs i).has.Nodup) : ∀ {i : Nat}, i ≤ bs.length → ((keys (pairsTo bs i)).Nodup ↔ ∀ p, p < i → ∀ q, q < p → shareB (nthB bs p).has (nthB bs q).has = false)
  | 0, _ => by simp [keys, pairsTo]
  | i + 1, hi => by
    have ih := @nodup_pairs bs hn i (by omega)
    have e : keys (pairsTo bs (i + 1)) = keys (pairsTo bs i) ++ (nthB bs i).has := keys_succ bs i
    rw [e, List.nodup_append, ih]
    constructor
    · rintro ⟨h1, _, h3⟩ p hp q hq
      by_cases e : p = i
      · subst e
        rw [shareB_false]
        exact fun x hx hy => h3 x (mem_keys.2 ⟨q, hq, hy⟩) x hx rfl
      · exact h1 p (by omega) q hq
    · intro h
      refine ⟨fun p hp q hq => h p (by omega) q hq, hn i (by omega), ?_⟩
      intro x hx y hy e
      subst e
      obtain ⟨q, hq, hy'⟩ := mem_keys.1 hx
      exact (shareB_false.1 (h i (by omega) q hq)) x hy hy'

def restOk (b : Book) : Bool := allLt b.batches.length (fun i => namesOk (b.at i).needs b.things && namesOk (b.at i).has (b.at i).needs)
def namesB (b : Book) : Bool := allLt b.batches.length (fun i => nameOk (b.at i).name) && allLt b.batches.length (fun i => upB b i)

theorem namesOk_asc {l all : List Str} (h : namesOk l all = true) : ascB l = true := by
  unfold namesOk at h
  rw [allLt_true] at h
  exact allLt_of (fun i hi => by have := h i hi; rw [Bool.and_eq_true] at this; exact this.2)

theorem bookOk_iff (b : Book) : bookOk b = (thingsOk b.things && decide (b.batches.length ≤ 5) && namesB b && restOk b && onceB b.batches) := by
  rw [Bool.eq_iff_iff]
  unfold bookOk namesB restOk
  simp only [Bool.and_eq_true, allLt_true, batchOk]
  constructor
  · rintro ⟨⟨h1, h2⟩, h3⟩
    refine ⟨⟨⟨⟨h1, h2⟩, fun i hi => (h3 i hi).1.1.1.1, fun i hi => (h3 i hi).1.1.1.2⟩, fun i hi => ⟨(h3 i hi).1.1.2, (h3 i hi).1.2⟩⟩, ?_⟩
    unfold onceB
    rw [decide_eq_true_eq, nodup_pairs (fun i hi => asc_nodup (namesOk_asc (h3 i hi).1.2)) (Nat.le_refl _)]
    intro p hp q hq
    have := (h3 p hp).2 q hq
    simpa [Book.at] using this
  · rintro ⟨⟨⟨⟨h1, h2⟩, h3, h4⟩, h5⟩, h6⟩
    refine ⟨⟨h1, h2⟩, fun i hi => ⟨⟨⟨⟨h3 i hi, h4 i hi⟩, (h5 i hi).1⟩, (h5 i hi).2⟩, fun k hk => ?_⟩⟩
    unfold onceB at h6
    rw [decide_eq_true_eq, nodup_pairs (fun i hi => asc_nodup (namesOk_asc (h5 i hi).2)) (Nat.le_refl _)] at h6
    have := h6 i hi k hk
    simpa [Book.at] using this

end Go.Proofs.YtdafpnpfcmgfcabGreatDoor
namespace Go.Proofs.YtdafpnpfcmgfcabGreatDoor

/-- Where a name first stands; the length, if it is not there. -/
def place : List Str → Str → Nat
  | [], _ => 0
  | y :: r, x => if y == x then 0 else place r x + 1

theorem nth_cons (y : Str) (r : List Str) (k : Nat) : nth (y :: r) (k + 1) = nth r k := by simp [nth]
theorem nth_zero (y : Str) (r : List Str) : nth (y :: r) 0 = y := by simp [nth]
def firstAt (l : List Str) (x : Str) (k : Nat) : Prop := k < l.length ∧ (nth l k == x) = true ∧ ∀ j, j < k → (nth l j == x) = false
theorem place_of : ∀ {l : List Str} {x : Str} {k : Nat}, firstAt l x k → place l x = k
  | [], _, _, ⟨h, _, _⟩ => by simp at h
  | y :: r, x, 0, ⟨_, h, _⟩ => by rw [nth_zero] at h; simp only [place, h, if_true]
  | y :: r, x, k + 1, ⟨h1, h2, h3⟩ => by
    have h0 := h3 0 (by omega)
    rw [nth_zero] at h0
    rw [nth_cons] at h2
    simp only [place, h0, Bool.false_eq_true, if_false]
    rw [place_of ⟨by simpa using h1, h2, fun j hj => by have := h3 (j + 1) (by omega); rwa [nth_cons] at this⟩]
theorem place_no : ∀ {l : List Str} {x : Str}, hasB l x = false → place l x = l.length
  | [], _, _ => rfl
  | y :: r, x, h => by
    rw [← Bool.not_eq_true, hasB_true, List.mem_cons, not_or] at h
    have e : (y == x) = false := by rw [beq_eq_false_iff_ne]; exact fun e => h.1 e.symm
    simp only [place, e, Bool.false_eq_true, if_false, List.length_cons]
    rw [place_no (by rw [← Bool.not_eq_true, hasB_true]; exact h.2)]
theorem place_lt {l : List Str} {x : Str} : place l x < l.length ↔ x ∈ l := by
  induction l with
  | nil => simp [place]
  | cons y r ih =>
    by_cases e : y = x
    · subst e; simp [place]
    · have e' : (y == x) = false := by rw [beq_eq_false_iff_ne]; exact e
      simp only [place, e', Bool.false_eq_true, if_false, List.length_cons, List.mem_cons]
      rw [Nat.succ_lt_succ_iff, ih]
      exact ⟨Or.inr, fun h => h.resolve_left (fun k => e k.symm)⟩
theorem place_nth {l : List Str} {x : Str} (h : x ∈ l) : nth l (place l x) = x := by
  induction l with
  | nil => simp at h
  | cons y r ih =>
    by_cases e : y = x
    · subst e; simp [place, nth_zero]
    · have e' : (y == x) = false := by rw [beq_eq_false_iff_ne]; exact e
      simp only [place, e', Bool.false_eq_true, if_false]
      rw [nth_cons]
      exact ih ((List.mem_cons.1 h).resolve_left (fun k => e k.symm))

def namesOf (bs : List Batch) : List Str := bs.map (·.name)
theorem namesOf_length (bs : List Batch) : (namesOf bs).length = bs.length := by simp [namesOf]
theorem nth_namesOf {bs : List Batch} {i : Nat} (h : i < bs.length) : nth (namesOf bs) i = (nthB bs i).name := by
  rw [nth_get (by rw [namesOf_length]; exact h), nthB_get h]; simp [namesOf]

/-- A batch can have all it needs when some are gone. -/
def clash (b : Book) (at_ : Nat) (gone : List Str) (i : Nat) : Bool := !decide (i = at_) && !hasB gone (b.at i).name && shareB (b.at i).has (b.at at_).needs
def canB (b : Book) (at_ : Nat) (gone : List Str) : Bool := allLt b.batches.length (fun i => !clash b at_ gone i)
theorem canB_no {b : Book} {at_ : Nat} {gone : List Str} {i : Nat} (hi : i < b.batches.length) (h : clash b at_ gone i = true) : canB b at_ gone = false :=
  allLt_no hi (by rw [h]; rfl)
theorem canB_yes {b : Book} {at_ : Nat} {gone : List Str} (h : ∀ i, i < b.batches.length → clash b at_ gone i = false) : canB b at_ gone = true :=
  allLt_of (fun i hi => by rw [h i hi]; rfl)

def stepB (b : Book) (order : List Str) (i : Nat) : Bool :=
  decide (place (namesOf b.batches) (nth order i) < b.batches.length) && !hasB (order.take i) (nth order i) && canB b (place (namesOf b.batches) (nth order i)) (order.take i)
def fitsB (b : Book) (order : List Str) : Bool := bookOk b && decide (order.length = b.batches.length) && allLt order.length (stepB b order)
theorem fitsB_no {b : Book} {order : List Str} {i : Nat} (hi : i < order.length) (h : stepB b order i = false) : fitsB b order = false := by
  unfold fitsB; rw [allLt_no hi h]; simp
theorem fitsB_yes {b : Book} {order : List Str} (h1 : bookOk b = true) (h2 : order.length = b.batches.length) (h : ∀ i, i < order.length → stepB b order i = true) : fitsB b order = true := by
  unfold fitsB; rw [allLt_of h, h1]; simp [h2]

end Go.Proofs.YtdafpnpfcmgfcabGreatDoor
