/- Plain mathematics of names, lists and books: nothing of the program is in it. -/
import GoSem.Op.String
import Derived.Laws.Strings
namespace Go.Proofs.YtdafpnpfcmgfcabGreatDoor

abbrev Str := List UInt8

/-- A text as the model holds it. -/
def S (l : Str) : ByteArray := ByteArray.mk l.toArray
theorem S_toList (l : Str) : (S l).toList = l := by simp [S]
theorem S_size (l : Str) : (S l).size = l.length := by simp [S, ByteArray.size]
theorem S_data (l : Str) : (S l).data.toList = l := by simp [S]
theorem S_ex (s : ByteArray) : s = S s.toList := by
  rw [ByteArray.toList_eq]; simp [S]
theorem S_inj {a b : Str} (h : S a = S b) : a = b := by
  have := congrArg ByteArray.toList h; rwa [S_toList, S_toList] at this
def bat (l : Str) (k : Nat) : UInt8 := l.getD k 0
theorem S_get (l : Str) (k : Nat) (h : k < (S l).size) : (S l)[k] = bat l k := by
  have h' : k < l.length := by rwa [S_size] at h
  unfold bat
  rw [List.getD_eq_getElem?_getD, List.getElem?_eq_getElem h']
  simp only [Option.getD_some]
  show (S l).data[k] = _
  simp [S]

/-- The name at a place. -/
def nth (l : List Str) (i : Nat) : Str := l.getD i []
theorem nth_get {l : List Str} {k : Nat} (h : k < l.length) : nth l k = l[k] := by simp [nth, List.getD_eq_getElem?_getD, h]

def allLt (n : Nat) (p : Nat → Bool) : Bool := (List.range n).all p
def anyLt (n : Nat) (p : Nat → Bool) : Bool := (List.range n).any p
theorem allLt_true {n : Nat} {p : Nat → Bool} : allLt n p = true ↔ ∀ i, i < n → p i = true := by simp [allLt]
theorem allLt_of {n : Nat} {p : Nat → Bool} (h : ∀ i, i < n → p i = true) : allLt n p = true := allLt_true.2 h
theorem allLt_no {n : Nat} {p : Nat → Bool} {i : Nat} (hi : i < n) (h : p i = false) : allLt n p = false := by
  cases hb : allLt n p
  · rfl
  · have := allLt_true.1 hb i hi; simp [h] at this
theorem anyLt_true {n : Nat} {p : Nat → Bool} : anyLt n p = true ↔ ∃ i, i < n ∧ p i = true := by simp [anyLt]
theorem anyLt_of {n : Nat} {p : Nat → Bool} {i : Nat} (hi : i < n) (h : p i = true) : anyLt n p = true := anyLt_true.2 ⟨i, hi, h⟩
theorem anyLt_no {n : Nat} {p : Nat → Bool} (h : ∀ i, i < n → p i = false) : anyLt n p = false := by
  cases hb : anyLt n p
  · rfl
  · obtain ⟨i, hi, hp⟩ := anyLt_true.1 hb; simp [h i hi] at hp
theorem allLt_congr {n : Nat} {p q : Nat → Bool} (h : ∀ i, i < n → p i = q i) : allLt n p = allLt n q := by
  rw [Bool.eq_iff_iff, allLt_true, allLt_true]
  exact ⟨fun k i hi => by rw [← h i hi]; exact k i hi, fun k i hi => by rw [h i hi]; exact k i hi⟩

def hasB (l : List Str) (x : Str) : Bool := decide (x ∈ l)
theorem hasB_true {l : List Str} {x : Str} : hasB l x = true ↔ x ∈ l := by simp [hasB]
theorem hasB_of {l : List Str} {x : Str} {k : Nat} (hk : k < l.length) (h : (nth l k == x) = true) : hasB l x = true := by
  rw [nth_get hk] at h
  rw [hasB_true, ← eq_of_beq h]; exact List.getElem_mem hk
theorem hasB_no {l : List Str} {x : Str} (h : ∀ k, k < l.length → (nth l k == x) = false) : hasB l x = false := by
  cases hb : hasB l x
  · rfl
  · rw [hasB_true] at hb
    obtain ⟨k, hk, e⟩ := List.getElem_of_mem hb
    have := h k hk
    simp [nth_get hk, e] at this

def up (l : List Str) (i : Nat) : Bool := decide (i = 0) || Op.bytesLess (nth l (i - 1)) (nth l i)
def ascB (l : List Str) : Bool := allLt l.length (up l)
def nameByte (c : UInt8) : Bool := decide (97 ≤ c.toNat ∧ c.toNat ≤ 122) || decide (48 ≤ c.toNat ∧ c.toNat ≤ 57) || decide (c.toNat = 45)
theorem nameByte_yes {c : UInt8} (h : (97 ≤ (c.toNat : Int) ∧ (c.toNat : Int) ≤ 122) ∨ (48 ≤ (c.toNat : Int) ∧ (c.toNat : Int) ≤ 57) ∨ (45 ≤ (c.toNat : Int) ∧ (c.toNat : Int) ≤ 45)) : nameByte c = true := by
  unfold nameByte; simp; omega
theorem nameByte_no {c : UInt8} (h : ((c.toNat : Int) < 45) ∨ (45 < (c.toNat : Int) ∧ (c.toNat : Int) < 48) ∨ (57 < (c.toNat : Int) ∧ (c.toNat : Int) < 97) ∨ (122 < (c.toNat : Int))) : nameByte c = false := by
  unfold nameByte; simp; omega
theorem nameByte_cases (c : UInt8) : ((97 ≤ (c.toNat : Int) ∧ (c.toNat : Int) ≤ 122) ∨ (48 ≤ (c.toNat : Int) ∧ (c.toNat : Int) ≤ 57) ∨ (45 ≤ (c.toNat : Int) ∧ (c.toNat : Int) ≤ 45)) ∨
    (((c.toNat : Int) < 45) ∨ (45 < (c.toNat : Int) ∧ (c.toNat : Int) < 48) ∨ (57 < (c.toNat : Int) ∧ (c.toNat : Int) < 97) ∨ (122 < (c.toNat : Int))) := by omega
def nameOk (s : Str) : Bool := decide (1 ≤ s.length ∧ s.length ≤ 8) && allLt s.length (fun i => nameByte (bat s i))
theorem nameOk_no {s : Str} {k : Nat} (hk : k < s.length) (h : nameByte (bat s k) = false) : nameOk s = false := by
  unfold nameOk; rw [allLt_no (p := fun i => nameByte (bat s i)) hk h]; simp
def namesOk (l all : List Str) : Bool := allLt l.length (fun i => hasB all (nth l i) && up l i)
def shareB (a b : List Str) : Bool := anyLt a.length (fun i => hasB b (nth a i))
def thingsOk (l : List Str) : Bool := decide (l.length ≤ 8) && allLt l.length (fun i => nameOk (nth l i) && up l i)

theorem thingsOk_no {l : List Str} {k : Nat} (hk : k < l.length) (h : (nameOk (nth l k) && up l k) = false) : thingsOk l = false := by
  unfold thingsOk; rw [allLt_no (p := fun i => nameOk (nth l i) && up l i) hk h]; simp

structure Batch where
  name : Str
  has : List Str
  needs : List Str

def nob : Batch := { name := [], has := [], needs := [] }

structure Book where
  things : List Str
  batches : List Batch

def nthB (l : List Batch) (i : Nat) : Batch := l.getD i nob
theorem nthB_get {l : List Batch} {k : Nat} (h : k < l.length) : nthB l k = l[k] := by simp [nthB, List.getD_eq_getElem?_getD, h]
def Book.at (b : Book) (i : Nat) : Batch := nthB b.batches i
def upB (b : Book) (i : Nat) : Bool := decide (i = 0) || Op.bytesLess (b.at (i - 1)).name (b.at i).name
def batchOk (b : Book) (i : Nat) : Bool :=
  nameOk (b.at i).name && upB b i && namesOk (b.at i).needs b.things && namesOk (b.at i).has (b.at i).needs
def bookOk (b : Book) : Bool :=
  thingsOk b.things && decide (b.batches.length ≤ 5) && allLt b.batches.length (fun i => batchOk b i && allLt i (fun k => !shareB (b.at i).has (b.at k).has))

end Go.Proofs.YtdafpnpfcmgfcabGreatDoor
