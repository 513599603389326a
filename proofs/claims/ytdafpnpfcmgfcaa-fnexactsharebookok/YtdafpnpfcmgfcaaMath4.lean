/- Orders: who can go, which orders fit, and the order that always takes the first who can. -/
import Derived.Test.YtdafpnpfcmgfcaaMath3
namespace Go.Proofs.Ytdafpnpfcmgfcaa

/-- Where a name first stands; the length, if it is not there. -/
def place : List Str → Str → Nat
  | [], _ => 0
  | y :: r, x => if y == x then 0 else place r x + 1

theorem nth_cons (y : Str) (r : List Str) (k : Nat) : nth (y :: r) (k + 1) = nth r k := by simp [nth]
theorem nth_zero (y : Str) (r : List Str) : nth (y :: r) 0 = y := by simp [nth]
def firstAt (l : List Str) (x : Str) (k : Nat) : Prop := k < l.length ∧ (nth l k == x) = true ∧ ∀ j, j < k → (nth l j == x) = false
theorem place_of : ∀ {l : List Str} {x : Str} {k : Nat}, firstAt l x k → place l x = k
  | [], _, _, ⟨h, _, _⟩ => by simp at h
  | y :: r, x, 0, ⟨_, h, _⟩ => by rw [nth_zero] at h; simp only [place, h, if_true]
  | y :: r, x, k + 1, ⟨h1, h2, h3⟩ => by
    have h0 := h3 0 (by omega)
    rw [nth_zero] at h0
    rw [nth_cons] at h2
    simp only [place, h0, Bool.false_eq_true, if_false]
    rw [place_of ⟨by simpa using h1, h2, fun j hj => by have := h3 (j + 1) (by omega); rwa [nth_cons] at this⟩]
theorem place_no : ∀ {l : List Str} {x : Str}, hasB l x = false → place l x = l.length
  | [], _, _ => rfl
  | y :: r, x, h => by
    rw [← Bool.not_eq_true, hasB_true, List.mem_cons, not_or] at h
    have e : (y == x) = false := by rw [beq_eq_false_iff_ne]; exact fun e => h.1 e.symm
    simp only [place, e, Bool.false_eq_true, if_false, List.length_cons]
    rw [place_no (by rw [← Bool.not_eq_true, hasB_true]; exact h.2)]
theorem place_lt {l : List Str} {x : Str} : place l x < l.length ↔ x ∈ l := by
  induction l with
  | nil => simp [place]
  | cons y r ih =>
    by_cases e : y = x
    · subst e; simp [place]
    · have e' : (y == x) = false := by rw [beq_eq_false_iff_ne]; exact e
      simp only [place, e', Bool.false_eq_true, if_false, List.length_cons, List.mem_cons]
      rw [Nat.succ_lt_succ_iff, ih]
      exact ⟨Or.inr, fun h => h.resolve_left (fun k => e k.symm)⟩
theorem place_nth {l : List Str} {x : Str} (h : x ∈ l) : nth l (place l x) = x := by
  induction l with
  | nil => simp at h
  | cons y r ih =>
    by_cases e : y = x
    · subst e; simp [place, nth_zero]
    · have e' : (y == x) = false := by rw [beq_eq_false_iff_ne]; exact e
      simp only [place, e', Bool.false_eq_true, if_false]
      rw [nth_cons]
      exact ih ((List.mem_cons.1 h).resolve_left (fun k => e k.symm))

def namesOf (bs : List Batch) : List Str := bs.map (·.name)
theorem namesOf_length (bs : List Batch) : (namesOf bs).length = bs.length := by simp [namesOf]
theorem nth_namesOf {bs : List Batch} {i : Nat} (h : i < bs.length) : nth (namesOf bs) i = (nthB bs i).name := by
  rw [nth_get (by rw [namesOf_length]; exact h), nthB_get h]; simp [namesOf]

/-- A batch can have all it needs when some are gone. -/
def clash (b : Book) (at_ : Nat) (gone : List Str) (i : Nat) : Bool := !decide (i = at_) && !hasB gone (b.at i).name && shareB (b.at i).has (b.at at_).needs
def canB (b : Book) (at_ : Nat) (gone : List Str) : Bool := allLt b.batches.length (fun i => !clash b at_ gone i)
theorem canB_no {b : Book} {at_ : Nat} {gone : List Str} {i : Nat} (hi : i < b.batches.length) (h : clash b at_ gone i = true) : canB b at_ gone = false :=
  allLt_no hi (by rw [h]; rfl)
theorem canB_yes {b : Book} {at_ : Nat} {gone : List Str} (h : ∀ i, i < b.batches.length → clash b at_ gone i = false) : canB b at_ gone = true :=
  allLt_of (fun i hi => by rw [h i hi]; rfl)

def stepB (b : Book) (order : List Str) (i : Nat) : Bool :=
  decide (place (namesOf b.batches) (nth order i) < b.batches.length) && !hasB (order.take i) (nth order i) && canB b (place (namesOf b.batches) (nth order i)) (order.take i)
def fitsB (b : Book) (order : List Str) : Bool := bookOk b && decide (order.length = b.batches.length) && allLt order.length (stepB b order)
theorem fitsB_no {b : Book} {order : List Str} {i : Nat} (hi : i < order.length) (h : stepB b order i = false) : fitsB b order = false := by
  unfold fitsB; rw [allLt_no hi h]; simp
theorem fitsB_yes {b : Book} {order : List Str} (h1 : bookOk b = true) (h2 : order.length = b.batches.length) (h : ∀ i, i < order.length → stepB b order i = true) : fitsB b order = true := by
  unfold fitsB; rw [allLt_of h, h1]; simp [h2]

end Go.Proofs.Ytdafpnpfcmgfcaa
