/- Who has a thing: the specification's ShareWho and the program's. -/
import Derived.Test.YtdafpnpfcmgfcabGreatDoorV6
namespace Go.Proofs.YtdafpnpfcmgfcabGreatDoor
open Go.RowKit Go.Maps
attribute [local go_sem] S_toList S_size S_get

def whoFrom : List Batch → Str → Str
  | [], _ => []
  | x :: r, t => if hasB x.has t then x.name else whoFrom r t
def whoOf (b : Book) (t : Str) : Str := if bookOk b then whoFrom b.batches t else []

theorem nthB_cons (x : Batch) (r : List Batch) (k : Nat) : nthB (x :: r) (k + 1) = nthB r k := by simp [nthB]
theorem nthB_zero (x : Batch) (r : List Batch) : nthB (x :: r) 0 = x := by simp [nthB]
theorem whoFrom_at : ∀ {bs : List Batch} {t : Str} {k : Nat}, k < bs.length → hasB (nthB bs k).has t = true → (∀ j, j < k → hasB (nthB bs j).has t = false) → whoFrom bs t = (nthB bs k).name
  | [], _, _, h, _, _ => by simp at h
  | x :: r, t, 0, _, h, _ => by
    rw [nthB_zero] at *
    simp [whoFrom, h]
  | x :: r, t, k + 1, hk, h, hn => by
    have h0 := hn 0 (by omega)
    rw [nthB_zero] at h0
    rw [nthB_cons] at *
    simp only [whoFrom, h0, Bool.false_eq_true, if_false]
    exact whoFrom_at (by simpa using hk) h (fun j hj => by have := hn (j + 1) (by omega); rwa [nthB_cons] at this)
theorem whoFrom_no : ∀ {bs : List Batch} {t : Str}, (∀ j, j < bs.length → hasB (nthB bs j).has t = false) → whoFrom bs t = []
  | [], _, _ => rfl
  | x :: r, t, hn => by
    have h0 := hn 0 (by simp)
    rw [nthB_zero] at h0
    simp only [whoFrom, h0, Bool.false_eq_true, if_false]
    exact whoFrom_no (fun j hj => by have := hn (j + 1) (by simpa using hj); rwa [nthB_cons] at this)

theorem ok_apart {b : Book} (h : bookOk b = true) {p q : Nat} (hp : p < b.batches.length) (hq : q < p) {t : Str} (h1 : t ∈ (nthB b.batches p).has) (h2 : t ∈ (nthB b.batches q).has) : False := by
  unfold bookOk at h
  simp only [Bool.and_eq_true, allLt_true] at h
  have h3 := (h.2 p hp).2 q hq
  simp only [Bool.not_eq_true'] at h3
  exact shareB_false.1 h3 t h1 h2
theorem ok_five {b : Book} (h : bookOk b = true) : b.batches.length ≤ 5 := by
  unfold bookOk at h
  simp only [Bool.and_eq_true, decide_eq_true_eq] at h
  exact h.1.2
theorem ok_once {b : Book} (h : bookOk b = true) : onceB b.batches = true := by
  rw [bookOk_iff] at h
  simp only [Bool.and_eq_true] at h
  exact h.2
theorem who_unique {b : Book} (h : bookOk b = true) {p : Nat} (hp : p < b.batches.length) {t : Str} (h1 : t ∈ (nthB b.batches p).has) : whoFrom b.batches t = (nthB b.batches p).name := by
  refine whoFrom_at hp (hasB_true.2 h1) (fun j hj => ?_)
  rw [← Bool.not_eq_true, hasB_true]
  exact fun h2 => ok_apart h hp hj h1 h2

theorem lit_inj {D : DataW Unit} {p c : Int} (h : D = .lit (.int .i64 p)) (k : D = .lit (.int .i64 c)) : c = p := by
  rw [h] at k
  injection k with k
  injection k with _ k
  exact k.symm
theorem ret_str {a b : Str} (h : a = b) : Ending.returned (.string (S a)) = .returned (.string (S b)) := by rw [h]
end Go.Proofs.YtdafpnpfcmgfcabGreatDoor
