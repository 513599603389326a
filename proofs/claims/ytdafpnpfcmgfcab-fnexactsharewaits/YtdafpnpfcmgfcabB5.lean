/- The walk over the program's ShareFits. -/
import Derived.Test.YtdafpnpfcmgfcabB4
import Derived.Test.YtdafpnpfcmgfcabW11
namespace Go.Proofs.Ytdafpnpfcmgfcab
open Go.RowKit
attribute [local go_sem] S_toList S_size S_get

theorem ok_namesB {b : Book} (h : bookOk b = true) : ascB (namesOf b.batches) = true := by
  rw [bookOk_iff, namesB_eq] at h
  simp only [Bool.and_eq_true] at h
  exact h.1.1.2.2
theorem ok_things {b : Book} (h : bookOk b = true) : b.things.length ≤ 8 := by
  unfold bookOk thingsOk at h
  simp only [Bool.and_eq_true, decide_eq_true_eq] at h
  exact h.1.1.1
theorem name_inj {b : Book} (h : bookOk b = true) {i j : Nat} (hi : i < b.batches.length) (hj : j < b.batches.length) (e : (b.at i).name = (b.at j).name) : i = j := by
  have ha := ok_namesB h
  have hn : (namesOf b.batches).length = b.batches.length := namesOf_length _
  rcases Nat.lt_trichotomy i j with hlt | heq | hlt
  · have := asc_less ha hlt (by rw [hn]; exact hj)
    rw [nth_namesOf hi, nth_namesOf hj] at this
    unfold Book.at at e
    rw [e, less_irrefl] at this; cases this
  · exact heq
  · have := asc_less ha hlt (by rw [hn]; exact hi)
    rw [nth_namesOf hi, nth_namesOf hj] at this
    unfold Book.at at e
    rw [e, less_irrefl] at this; cases this
theorem bnth_has {b : Book} {p : Nat} (hp : p < b.batches.length) : bnth (hasBits b) p = bitsN (b.at p).has b.things := by
  unfold bnth hasBits Book.at
  rw [nthB_get hp, List.getD_eq_getElem?_getD, List.getElem?_map, List.getElem?_eq_getElem hp]; rfl
theorem bnth_needs {b : Book} {p : Nat} (hp : p < b.batches.length) : bnth (needsBits b) p = bitsN (b.at p).needs b.things := by
  unfold bnth needsBits Book.at
  rw [nthB_get hp, List.getD_eq_getElem?_getD, List.getElem?_map, List.getElem?_eq_getElem hp]; rfl

def outOf (b : Book) (gone : List Str) : Nat → Bool := fun i => hasB gone (b.at i).name
theorem name_at {b : Book} {x : Str} {p : Nat} (hp : place (namesOf b.batches) x = p) (hlt : p < b.batches.length) : (b.at p).name = x := by
  have hm : x ∈ namesOf b.batches := place_lt.1 (by rw [hp, namesOf_length]; exact hlt)
  have := place_nth hm
  rw [hp, nth_namesOf hlt] at this
  exact this
/-- What canGo tells is whether the batch may go next. -/
theorem go_step {b : Book} (h : bookOk b = true) {gone : List Str} {x : Str} {p : Nat} (hp : place (namesOf b.batches) x = p) (hlt : p < b.batches.length) (gl : List Bool) (hg : gnth gl p = outOf b gone p) :
    (!gnth gl p && bsub (bnth (needsBits b) p) (freeN b (outOf b gone) + bnth (hasBits b) p)) = (!hasB gone x && canB b p gone) := by
  have hnm := name_at hp hlt
  have h8 := ok_things h
  rw [hg, bnth_has hlt, bnth_needs hlt]
  unfold outOf
  rw [hnm]
  cases hx : hasB gone x
  · simp only [Bool.not_false, Bool.true_and]
    have ho : outOf b gone p = false := by unfold outOf; rw [hnm]; exact hx
    have hf := freeN_put h hlt ho
    show bsub _ (freeN b (outOf b gone) + _) = _
    rw [← hf, Bool.eq_iff_iff, bsub_iff (Nat.lt_trans (bitsN_small _ _ h8) (by omega)) (Nat.lt_trans (freeN_small b _ h8) (by omega)), can_bits h hlt]
    rfl
  · simp
theorem out_step {b : Book} (h : bookOk b = true) {gone : List Str} {x : Str} {p : Nat} (hp : place (namesOf b.batches) x = p) (hlt : p < b.batches.length) {i : Nat} (hi : i < b.batches.length) : outOf b (gone ++ [x]) i = putOut (outOf b gone) p i := by
  have hnm := name_at hp hlt
  unfold outOf putOut
  by_cases e : i = p
  · subst e
    rw [if_pos rfl, hnm]
    simp [hasB]
  · rw [if_neg e, Bool.eq_iff_iff, hasB_true, hasB_true, List.mem_append, List.mem_singleton]
    exact ⟨fun hh => hh.resolve_right (fun k => e (name_inj h hi hlt (by rw [k, hnm]))), Or.inl⟩
theorem free_go {b : Book} (h : bookOk b = true) {gone : List Str} {x : Str} {p : Nat} (hp : place (namesOf b.batches) x = p) (hlt : p < b.batches.length) (hx : hasB gone x = false) : freeN b (outOf b (gone ++ [x])) = freeN b (outOf b gone) + bnth (hasBits b) p := by
  rw [bnth_has hlt, ← freeN_put h hlt (out := outOf b gone) (by unfold outOf; rw [name_at hp hlt]; exact hx)]
  exact freeN_congr (fun i hi => out_step h hp hlt hi)
theorem take_snoc' {l : List Str} {k : Nat} (h : k < l.length) : l.take (k + 1) = l.take k ++ [nth l k] := by
  rw [List.take_succ_eq_append_getElem h, nth_get h]

end Go.Proofs.Ytdafpnpfcmgfcab
