/- Plain mathematics of names, lists and books: nothing of the program is in it. How lists of names, batches and books lie in memory. -/
import GoSem.Op.String
import Derived.Laws.Strings
import Derived.WalkKit
import Derived.Deep.QuietTactic
import Derived.BigQuiet
namespace Go.Proofs.YtdafpnpfcmgfcaaGreat

abbrev Str := List UInt8

/-- A text as the model holds it. -/
def S (l : Str) : ByteArray := ByteArray.mk l.toArray
theorem S_toList (l : Str) : (S l).toList = l := by simp [S]
theorem S_size (l : Str) : (S l).size = l.length := by simp [S, ByteArray.size]
theorem S_data (l : Str) : (S l).data.toList = l := by simp [S]
theorem S_ex (s : ByteArray) : s = S s.toList := by
  rw [ByteArray.toList_eq]; simp [S]
theorem S_inj {a b : Str} (h : S a = S b) : a = b := by
  have := congrArg ByteArray.toList h; rwa [S_toList, S_toList] at this
def bat (l : Str) (k : Nat) : UInt8 := l.getD k 0
theorem S_get (l : Str) (k : Nat) (h : k < (S l).size) : (S l)[k] = bat l k := by
  have h' : k < l.length := by rwa [S_size] at h
  unfold bat
  rw [List.getD_eq_getElem?_getD, List.getElem?_eq_getElem h']
  simp only [Option.getD_some]
  show (S l).data[k] = _
  simp [S]

/-- The name at a place. -/
def nth (l : List Str) (i : Nat) : Str := l.getD i []
theorem nth_get {l : List Str} {k : Nat} (h : k < l.length) : nth l k = l[k] := by simp [nth, List.getD_eq_getElem?_getD, h]

def allLt (n : Nat) (p : Nat → Bool) : Bool := (List.range n).all p
def anyLt (n : Nat) (p : Nat → Bool) : Bool := (List.range n).any p
theorem allLt_true {n : Nat} {p : Nat → Bool} : allLt n p = true ↔ ∀ i, i < n → p i = true := by simp [allLt]
theorem allLt_of {n : Nat} {p : Nat → Bool} (h : ∀ i, i < n → p i = true) : allLt n p = true := allLt_true.2 h
theorem allLt_no {n : Nat} {p : Nat → Bool} {i : Nat} (hi : i < n) (h : p i = false) : allLt n p = false := by
  cases hb : allLt n p
  · rfl
  · have := allLt_true.1 hb i hi; simp [h] at this
theorem anyLt_true {n : Nat} {p : Nat → Bool} : anyLt n p = true ↔ ∃ i, i < n ∧ p i = true := by simp [anyLt]
theorem anyLt_of {n : Nat} {p : Nat → Bool} {i : Nat} (hi : i < n) (h : p i = true) : anyLt n p = true := anyLt_true.2 ⟨i, hi, h⟩
theorem anyLt_no {n : Nat} {p : Nat → Bool} (h : ∀ i, i < n → p i = false) : anyLt n p = false := by
  cases hb : anyLt n p
  · rfl
  · obtain ⟨i, hi, hp⟩ := anyLt_true.1 hb; simp [h i hi] at hp
theorem allLt_congr {n : Nat} {p q : Nat → Bool} (h : ∀ i, i < n → p i = q i) : allLt n p = allLt n q := by
  rw [Bool.eq_iff_iff, allLt_true, allLt_true]
  exact ⟨fun k i hi => by rw [← h i hi]; exact k i hi, fun k i hi => by rw [h i hi]; exact k i hi⟩

def hasB (l : List Str) (x : Str) : Bool := decide (x ∈ l)
theorem hasB_true {l : List Str} {x : Str} : hasB l x = true ↔ x ∈ l := by simp [hasB]
theorem hasB_of {l : List Str} {x : Str} {k : Nat} (hk : k < l.length) (h : (nth l k == x) = true) : hasB l x = true := by
  rw [nth_get hk] at h
  rw [hasB_true, ← eq_of_beq h]; exact List.getElem_mem hk
theorem hasB_no {l : List Str} {x : Str} (h : ∀ k, k < l.length → (nth l k == x) = false) : hasB l x = false := by
  cases hb : hasB l x
  · rfl
  · rw [hasB_true] at hb
    obtain ⟨k, hk, e⟩ := List.getElem_of_mem hb
    have := h k hk
    simp [nth_get hk, e] at this

def up (l : List Str) (i : Nat) : Bool := decide (i = 0) || Op.bytesLess (nth l (i - 1)) (nth l i)
def ascB (l : List Str) : Bool := allLt l.length (up l)
def nameByte (c : UInt8) : Bool := decide (97 ≤ c.toNat ∧ c.toNat ≤ 122) || decide (48 ≤ c.toNat ∧ c.toNat ≤ 57) || decide (c.toNat = 45)
theorem nameByte_yes {c : UInt8} (h : (97 ≤ (c.toNat : Int) ∧ (c.toNat : Int) ≤ 122) ∨ (48 ≤ (c.toNat : Int) ∧ (c.toNat : Int) ≤ 57) ∨ (45 ≤ (c.toNat : Int) ∧ (c.toNat : Int) ≤ 45)) : nameByte c = true := by
  unfold nameByte; simp; omega
theorem nameByte_no {c : UInt8} (h : ((c.toNat : Int) < 45) ∨ (45 < (c.toNat : Int) ∧ (c.toNat : Int) < 48) ∨ (57 < (c.toNat : Int) ∧ (c.toNat : Int) < 97) ∨ (122 < (c.toNat : Int))) : nameByte c = false := by
  unfold nameByte; simp; omega
theorem nameByte_cases (c : UInt8) : ((97 ≤ (c.toNat : Int) ∧ (c.toNat : Int) ≤ 122) ∨ (48 ≤ (c.toNat : Int) ∧ (c.toNat : Int) ≤ 57) ∨ (45 ≤ (c.toNat : Int) ∧ (c.toNat : Int) ≤ 45)) ∨
    (((c.toNat : Int) < 45) ∨ (45 < (c.toNat : Int) ∧ (c.toNat : Int) < 48) ∨ (57 < (c.toNat : Int) ∧ (c.toNat : Int) < 97) ∨ (122 < (c.toNat : Int))) := by omega
def nameOk (s : Str) : Bool := decide (1 ≤ s.length ∧ s.length ≤ 8) && allLt s.length (fun i => nameByte (bat s i))
theorem nameOk_no {s : Str} {k : Nat} (hk : k < s.length) (h : nameByte (bat s k) = false) : nameOk s = false := by
  unfold nameOk; rw [allLt_no (p := fun i => nameByte (bat s i)) hk h]; simp
def namesOk (l all : List Str) : Bool := allLt l.length (fun i => hasB all (nth l i) && up l i)
def shareB (a b : List Str) : Bool := anyLt a.length (fun i => hasB b (nth a i))
def thingsOk (l : List Str) : Bool := decide (l.length ≤ 8) && allLt l.length (fun i => nameOk (nth l i) && up l i)

theorem thingsOk_no {l : List Str} {k : Nat} (hk : k < l.length) (h : (nameOk (nth l k) && up l k) = false) : thingsOk l = false := by
  unfold thingsOk; rw [allLt_no (p := fun i => nameOk (nth l i) && up l i) hk h]; simp

structure Batch where
  name : Str
  has : List Str
  needs : List Str

def nob : Batch := { name := [], has := [], needs := [] }

structure Book where
  things : List Str
  batches : List Batch

def nthB (l : List Batch) (i : Nat) : Batch := l.getD i nob
theorem nthB_get {l : List Batch} {k : Nat} (h : k < l.length) : nthB l k = l[k] := by simp [nthB, List.getD_eq_getElem?_getD, h]
def Book.at (b : Book) (i : Nat) : Batch := nthB b.batches i
def upB (b : Book) (i : Nat) : Bool := decide (i = 0) || Op.bytesLess (b.at (i - 1)).name (b.at i).name
def batchOk (b : Book) (i : Nat) : Bool :=
  nameOk (b.at i).name && upB b i && namesOk (b.at i).needs b.things && namesOk (b.at i).has (b.at i).needs
def bookOk (b : Book) : Bool :=
  thingsOk b.things && decide (b.batches.length ≤ 5) && allLt b.batches.length (fun i => batchOk b i && allLt i (fun k => !shareB (b.at i).has (b.at k).has))

end Go.Proofs.YtdafpnpfcmgfcaaGreat
namespace Go.Proofs.YtdafpnpfcmgfcaaGreat
open Go.RowKit

/-- The world has grown: all that was there is as it was. -/
abbrev Ext (w w' : World) : Prop := Below w.heap.size w w'

theorem hid {p : Prop} (h : p) : Hid p := h

theorem cell_lt {w : World} {p : Addr} {v : Value} (h : w.cell? p = some v) : p.block < w.heap.size := by
  unfold World.cell? at h
  cases hb : w.heap[p.block]? with
  | none => simp [hb] at h
  | some o => exact (Array.getElem?_eq_some_iff.1 hb).1

theorem Ext.keep {w w' : World} (h : Ext w w') {p : Addr} {v : Value} (hc : w.cell? p = some v) : w'.cell? p = some v := by
  rw [Below.cell h (cell_lt hc)]; exact hc

theorem Ext.tr {a b c : World} (h : Ext a b) (k : Ext b c) : Ext a c := Below.trans h (Below.mono k h.size)
theorem Ext.rfl' (w : World) : Ext w w := Below.refl _ _

theorem ext_drewN (w : World) (n : Nat) : Ext w (w.drewN n) := ⟨rfl, rfl, rfl, Nat.le_refl _, fun _ _ => rfl⟩

/-- A list of names, told from a slice's address on. -/
def StrsAt (w : World) (a : Option Addr) (ss : List Str) : Prop :=
  ss.length ≤ 8796093022208 ∧ ∀ i, i < ss.length → (nth ss i).length ≤ 140737488355328 ∧ ∃ b o, a = some ⟨b, o, none⟩ ∧ w.cell? ⟨b, o + i, none⟩ = some (.string (S (nth ss i)))

theorem StrsAt.ext {w w' : World} {a : Option Addr} {ss : List Str} (h : StrsAt w a ss) (e : Ext w w') : StrsAt w' a ss :=
  ⟨h.1, fun i hi => ⟨(h.2 i hi).1, by obtain ⟨b, o, ha, hc⟩ := (h.2 i hi).2; exact ⟨b, o, ha, e.keep hc⟩⟩⟩

theorem StrsAt.drewN {w : World} {a : Option Addr} {ss : List Str} (h : StrsAt w a ss) (n : Nat) : StrsAt (w.drewN n) a ss := h.ext (ext_drewN w n)

theorem StrsAt.nil (w : World) (a : Option Addr) : StrsAt w a [] := ⟨by simp, fun i hi => by simp at hi⟩

/-- One batch, in three cells from an address on. -/
def BatchCells (w : World) (b o : Nat) (x : Batch) : Prop :=
  x.name.length ≤ 140737488355328 ∧ ∃ a1 c1 a2 c2, w.cell? ⟨b, o, none⟩ = some (.string (S x.name)) ∧ w.cell? ⟨b, o + 1, none⟩ = some (.slice a1 x.has.length c1) ∧
    w.cell? ⟨b, o + 2, none⟩ = some (.slice a2 x.needs.length c2) ∧ StrsAt w a1 x.has ∧ StrsAt w a2 x.needs

theorem BatchCells.ext {w w' : World} {b o : Nat} {x : Batch} (h : BatchCells w b o x) (e : Ext w w') : BatchCells w' b o x := by
  obtain ⟨h0, a1, c1, a2, c2, h1, h2, h3, h4, h5⟩ := h
  exact ⟨h0, a1, c1, a2, c2, e.keep h1, e.keep h2, e.keep h3, h4.ext e, h5.ext e⟩

/-- A list of batches, told from a slice's address on. -/
def BatchesAt (w : World) (a : Option Addr) (bs : List Batch) : Prop :=
  bs.length ≤ 2199023255552 ∧ ∀ i, i < bs.length → ∃ b o, a = some ⟨b, o, none⟩ ∧ BatchCells w b (o + i * 3) (nthB bs i)

theorem BatchesAt.ext {w w' : World} {a : Option Addr} {bs : List Batch} (h : BatchesAt w a bs) (e : Ext w w') : BatchesAt w' a bs :=
  ⟨h.1, fun i hi => by obtain ⟨b, o, ha, hc⟩ := h.2 i hi; exact ⟨b, o, ha, hc.ext e⟩⟩

def BookAt (w : World) (a1 a2 : Option Addr) (b : Book) : Prop := StrsAt w a1 b.things ∧ BatchesAt w a2 b.batches

theorem BookAt.ext {w w' : World} {a1 a2 : Option Addr} {b : Book} (h : BookAt w a1 a2 b) (e : Ext w w') : BookAt w' a1 a2 b := ⟨h.1.ext e, h.2.ext e⟩

theorem bcell {W w1 : World} (hb : Below W.heap.size W w1) : (∀ b o, b < W.heap.size → w1.cell? ⟨b, o, none⟩ = W.cell? ⟨b, o, none⟩) ∧ (∀ b o, b < W.heap.size → w1.frozen? ⟨b, o, none⟩ = W.frozen? ⟨b, o, none⟩) :=
  ⟨fun b o h => hb.cell (p := ⟨b, o, none⟩) h, fun b o h => hb.frozen (p := ⟨b, o, none⟩) h⟩

end Go.Proofs.YtdafpnpfcmgfcaaGreat
