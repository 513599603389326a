/- Entering, asking, needing less, leaving: as the specification says them. -/
import Derived.Test.YtdafpnpfcmgfcaaW13
namespace Go.Proofs.Ytdafpnpfcmgfcaa

/-- How many stand ahead. -/
def leadP {α : Type} (p : α → Bool) (l : List α) : Nat := (l.takeWhile p).length
theorem lead_of {α : Type} {p : α → Bool} : ∀ {l : List α} {k : Nat}, (∀ (j : Nat) x, j < k → l[j]? = some x → p x = true) → k ≤ l.length → (∀ x, l[k]? = some x → p x = false) → leadP p l = k
  | [], k, _, hk, _ => by simp at hk; subst hk; rfl
  | y :: l, 0, _, _, h => by
    have := h y rfl
    simp [leadP, this]
  | y :: l, k + 1, h1, hk, h2 => by
    have hy := h1 0 y (by omega) rfl
    have := lead_of (p := p) (l := l) (k := k) (fun j x hj hx => h1 (j + 1) x (by omega) (by simpa using hx)) (by simpa using hk) (fun x hx => h2 x (by simpa using hx))
    unfold leadP at *
    rw [List.takeWhile_cons]
    simp [hy, this]

def leadB (bs : List Batch) (n : Str) : Nat := leadP (fun y => Op.bytesLess y.name n) bs
def insB (bs : List Batch) (x : Batch) : List Batch := bs.take (leadB bs x.name) ++ [x] ++ bs.drop (leadB bs x.name)
def leadS (l : List Str) (n : Str) : Nat := leadP (fun y => Op.bytesLess y n) l
/-- A name put into an ascending list, if it is not there. -/
def insS (l : List Str) (n : Str) : List Str :=
  if leadS l n < l.length && nth l (leadS l n) == n then l else l.take (leadS l n) ++ [n] ++ l.drop (leadS l n)
theorem leadB_of {bs : List Batch} {n : Str} {k : Nat} (h1 : ∀ j, j < k → Op.bytesLess (nthB bs j).name n = true) (hk : k ≤ bs.length) (h2 : k < bs.length → Op.bytesLess (nthB bs k).name n = false) : leadB bs n = k := by
  refine lead_of (fun j x hj hx => ?_) hk (fun x hx => ?_)
  · have := h1 j hj
    rw [nthB_get (by omega)] at this
    rw [List.getElem?_eq_getElem (by omega)] at hx
    cases hx; exact this
  · have hlt : k < bs.length := by
      rcases Nat.lt_or_ge k bs.length with h | h
      · exact h
      · simp [List.getElem?_eq_none h] at hx
    have := h2 hlt
    rw [nthB_get hlt] at this
    rw [List.getElem?_eq_getElem hlt] at hx
    cases hx; exact this
theorem leadS_of {l : List Str} {n : Str} {k : Nat} (h1 : ∀ j, j < k → Op.bytesLess (nth l j) n = true) (hk : k ≤ l.length) (h2 : k < l.length → Op.bytesLess (nth l k) n = false) : leadS l n = k := by
  refine lead_of (fun j x hj hx => ?_) hk (fun x hx => ?_)
  · have := h1 j hj
    rw [nth_get (by omega)] at this
    rw [List.getElem?_eq_getElem (by omega)] at hx
    cases hx; exact this
  · have hlt : k < l.length := by
      rcases Nat.lt_or_ge k l.length with h | h
      · exact h
      · simp [List.getElem?_eq_none h] at hx
    have := h2 hlt
    rw [nth_get hlt] at this
    rw [List.getElem?_eq_getElem hlt] at hx
    cases hx; exact this

def emptyBook : Book := ⟨[], []⟩
def hereB (b : Book) (n : Str) : Bool := hasB (namesOf b.batches) n
def whereB (b : Book) (n : Str) : Nat := place (namesOf b.batches) n
def enterB (b : Book) (n : Str) (needs : List Str) : Book × Nat :=
  if bookOk b = false then (emptyBook, 1) else if nameOk n = false ∨ namesOk needs b.things = false then (b, 2)
  else if hereB b n = true then (b, 3) else if 5 ≤ b.batches.length then (b, 4)
  else (⟨b.things, insB b.batches ⟨n, [], needs⟩⟩, 0)
def takenB (b : Book) (k : Nat) (things : List Str) : Bool := anyLt b.batches.length (fun i => !(i == k) && shareB (b.at i).has things)
def giveB (b : Book) (k : Nat) (things : List Str) : Book := ⟨b.things, b.batches.set k ⟨(b.at k).name, things.foldl insS (b.at k).has, (b.at k).needs⟩⟩
def askB (b : Book) (n : Str) (things : List Str) : Book × Nat :=
  if bookOk b = false then (emptyBook, 1) else if hereB b n = false then (b, 3)
  else if namesOk things (b.at (whereB b n)).needs = false then (b, 2)
  else if takenB b (whereB b n) things = true then (b, 5)
  else if safeB b = true ∧ safeB (giveB b (whereB b n) things) = false then (b, 6)
  else (giveB b (whereB b n) things, 0)
def fewerB (b : Book) (k : Nat) (needs : List Str) : Book := ⟨b.things, b.batches.set k ⟨(b.at k).name, (b.at k).has.filter (hasB needs), needs⟩⟩
def lessB (b : Book) (n : Str) (needs : List Str) : Book × Nat :=
  if bookOk b = false then (emptyBook, 1) else if hereB b n = false then (b, 3)
  else if namesOk needs (b.at (whereB b n)).needs = false then (b, 2)
  else (fewerB b (whereB b n) needs, 0)
def leaveB (b : Book) (n : Str) : Book × Nat :=
  if bookOk b = false then (emptyBook, 1) else if hereB b n = false then (b, 3)
  else (⟨b.things, b.batches.take (whereB b n) ++ b.batches.drop (whereB b n + 1)⟩, 0)
end Go.Proofs.Ytdafpnpfcmgfcaa
