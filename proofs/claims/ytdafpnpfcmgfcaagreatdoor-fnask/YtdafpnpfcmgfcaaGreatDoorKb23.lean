/- The walk over the program's first: the first who can go. Safe is: some order fits. Entering, asking, needing less, leaving: as the specification says them. What an ok book's lists are like. -/
import Derived.Test.YtdafpnpfcmgfcaaGreatDoorKb22
namespace Go.Proofs.YtdafpnpfcmgfcaaGreatDoor
section
open Go.RowKit
theorem place_self {b : Book} (h : bookOk b = true) {p : Nat} (hp : p < b.batches.length) : place (namesOf b.batches) (b.at p).name = p := by
 have hm : (b.at p).name ∈ namesOf b.batches := by
  have e : nth (namesOf b.batches) p = (b.at p).name := nth_namesOf hp
  rw [← e, nth_get (by rw [namesOf_length]; exact hp)]
  exact List.getElem_mem _
 have hlt : place (namesOf b.batches) (b.at p).name < b.batches.length := by
  have := place_lt.2 hm
  rwa [namesOf_length] at this
 exact name_inj h hlt hp (name_at rfl hlt)
theorem canGo_p {w : World} {base g bg : Nat} {vh vn : Value} {b : Book} {gone : List Str} {p : Nat} (v : Bool) (hst : GoneAt w base g bg vh vn b gone) (hok : bookOk b = true) (hlt : p < b.batches.length)
  (hv : goodN b gone p = v) :
  Calls Qry.prog 64 #[.pointer (some ⟨g, 0, none⟩), .int .i64 (p : Int)] w fun e w' => e = .returned (.bool v) ∧ ∃ n, w' = w.drewN n :=
 canGo_v v hst hok (place_self hok hlt) hlt hv
theorem GoneAt.goneCell {w : World} {base g bg : Nat} {vh vn : Value} {b : Book} {gone : List Str} (h : GoneAt w base g bg vh vn b gone) : w.cell? ⟨g, 2, none⟩ = some (.slice (some ⟨bg, 0, none⟩) b.batches.length b.batches.length) := by
 obtain ⟨gl, h1, h2, h3⟩ := h
 have c := h3.cells.cell (i := 2) (by omega)
 simp only [goingCells] at c
 rw [h1] at c
 exact c
set_option maxHeartbeats 1000000 in
theorem first_v {w : World} {base g bg : Nat} {vh vn : Value} {b : Book} {gone : List Str} (hst : GoneAt w base g bg vh vn b gone) (hok : bookOk b = true) :
  Calls Qry.prog 112 #[.pointer (some ⟨g, 0, none⟩)] w fun e w' =>
   ((∃ p : Nat, e = .returned (.tuple #[.int .i64 p, .bool true]) ∧ nextOf b gone = some p) ∨ (e = .returned (.tuple #[.int .i64 0, .bool false]) ∧ nextOf b gone = none)) ∧ Ext w w' := by
 have hc := hst.goneCell
 have h5 := ok_five hok
 have HOK := hid hok
 go_enter Qry.func112, Tryz.ntmps112
 go_wp2
 go_loopw [10] (fun i wr => ∃ k : Nat, k ≤ b.batches.length ∧ i = .int .i64 k ∧ Ext w wr ∧ ∀ j, j < k → goodN b gone j = false) (fun i _ => b.batches.length - (intOf i).toNat)
 case atStart => exact ⟨0, Nat.zero_le _, rfl, Ext.rfl' _, fun j hj => by omega⟩
 case round =>
  obtain ⟨k, hk, rfl, hext, hx⟩ := hrel
  have hst' := hst.ext hext
  have HX := hid hx
  have HE := hid hext
  clear hx hext
  by_cases hlt : k < b.batches.length
  ·cases hv : goodN b gone k
   ·have HV := hid hv
    go_wp2_with fail
    refine (canGo_p false hst' HOK.out hlt HV.out).mono ?_
    rintro e w1 ⟨rfl, n1, rfl⟩
    go_wp2_with fail
    go_roundw
    case rel => exact ⟨k + 1, by omega, by go_num, Ext.tr HE.out (ext_drewN _ _), fun j hj => by
     by_cases e : j = k
     ·rw [e]; exact HV.out
     ·exact HX.out j (by omega)⟩
    case measure => simp [intOf]; omega
   ·have HF := hid (nextOf_some hlt hv HX.out)
    have HV := hid hv
    clear hv
    go_wp2_with fail
    refine (canGo_p true hst' HOK.out hlt HV.out).mono ?_
    rintro e w1 ⟨rfl, n1, rfl⟩
    go_wp2_with fail
    go_ret2
    exact ⟨Or.inl ⟨k, rfl, HF.out⟩, Ext.tr HE.out (ext_drewN _ _)⟩
  ·have HF := hid (nextOf_none (fun j hj => HX.out j (by omega)))
   go_wp2_with fail
   go_ret2
   exact ⟨Or.inr ⟨rfl, HF.out⟩, HE.out⟩
end
section
def Valid (b : Book) (l : List Str) : Prop := ∀ i, i < l.length → stepB b l i = true
theorem nth_left {l m : List Str} {i : Nat} (h : i < l.length) : nth (l ++ m) i = nth l i := by
 rw [nth_get (by rw [List.length_append]; omega), nth_get h, List.getElem_append_left h]
theorem stepB_left {b : Book} {l m : List Str} {i : Nat} (h : i < l.length) : stepB b (l ++ m) i = stepB b l i := by
 unfold stepB
 rw [nth_left h, List.take_append_of_le_length (by omega)]
theorem next_good {b : Book} {gone : List Str} {p : Nat} (h : nextOf b gone = some p) : p < b.batches.length ∧ hasB gone (b.at p).name = false ∧ canB b p gone = true := by
 have h1 := nextOf_lt h
 have h2 := List.find?_some h
 simp only [goodN, Bool.and_eq_true, Bool.not_eq_true'] at h2
 exact ⟨h1, h2.1, h2.2⟩
theorem valid_snoc {b : Book} {gone : List Str} {p : Nat} (hok : bookOk b = true) (hv : Valid b gone) (h : nextOf b gone = some p) : Valid b (gone ++ [(b.at p).name]) := by
 obtain ⟨h1, h2, h3⟩ := next_good h
 intro i hi
 rw [List.length_append, List.length_singleton] at hi
 by_cases e : i < gone.length
 ·rw [stepB_left e]; exact hv i e
 ·have e' : i = gone.length := by omega
  subst e'
  have hn : nth (gone ++ [(b.at p).name]) gone.length = (b.at p).name := by rw [nth_get (by simp)]; simp
  have ht : (gone ++ [(b.at p).name]).take gone.length = gone := by simp
  unfold stepB
  rw [hn, ht, place_self hok h1, h2, h3]
  simp [h1]
theorem greedy_fits {b : Book} (hok : bookOk b = true) : ∀ (m : Nat) (gone L : List Str), greedy b m gone = some L → Valid b gone → Valid b L ∧ L.length = gone.length + m
 | 0, gone, L, h, hv => by
  simp [greedy] at h; subst h
  exact ⟨hv, rfl⟩
 | m + 1, gone, L, h, hv => by
  cases hn : nextOf b gone with
  | none => rw [greedy_none hn] at h; cases h
  | some p =>
   rw [greedy_some hn] at h
   obtain ⟨k1, k2⟩ := greedy_fits hok m _ L h (valid_snoc hok hv hn)
   refine ⟨k1, ?_⟩
   rw [k2, List.length_append, List.length_singleton]; omega
theorem safe_ok {b : Book} (h : safeB b = true) : bookOk b = true := by
 cases hok : bookOk b
 ·simp [safeB, orderOf, hok] at h
 ·rfl
theorem order_fits {b : Book} (h : safeB b = true) : fitsB b (orderL b) = true := by
 have hok := safe_ok h
 cases hg : orderOf b with
 | none => simp [safeB, hg] at h
 | some L =>
  have hg' : greedy b b.batches.length [] = some L := by simpa [orderOf, hok] using hg
  obtain ⟨k1, k2⟩ := greedy_fits hok _ _ L hg' (fun i hi => by simp at hi)
  have e : orderL b = L := by simp [orderL, hg]
  rw [e]
  exact fitsB_yes hok (by simpa using k2) k1
theorem can_more {b : Book} {p : Nat} {l m : List Str} (h : canB b p l = true) (hs : ∀ x ∈ l, x ∈ m) : canB b p m = true := by
 refine canB_yes (fun i hi => ?_)
 have h1 := allLt_true.1 h i hi
 simp only [Bool.not_eq_true'] at h1
 cases hc : clash b p m i
 ·rfl
 ·unfold clash at hc h1
  simp only [Bool.and_eq_true, Bool.not_eq_true', decide_eq_false_iff_not] at hc
  have hn : hasB l (b.at i).name = false := by
   rw [← Bool.not_eq_true, hasB_true]
   intro hx
   have := hasB_true.2 (hs _ hx)
   rw [hc.1.2] at this; cases this
  rw [hn, hc.2] at h1
  simp [hc.1.1] at h1
theorem step_parts {b : Book} {l : List Str} {i : Nat} (h : stepB b l i = true) : place (namesOf b.batches) (nth l i) < b.batches.length ∧ hasB (l.take i) (nth l i) = false ∧ canB b (place (namesOf b.batches) (nth l i)) (l.take i) = true := by
 unfold stepB at h
 simp only [Bool.and_eq_true, decide_eq_true_eq, Bool.not_eq_true'] at h
 exact ⟨h.1.1, h.1.2, h.2⟩
theorem valid_nodup {b : Book} {l : List Str} (h : Valid b l) : l.Nodup := by
 unfold List.Nodup
 rw [List.pairwise_iff_getElem]
 intro i j hi hj hij e
 have h1 := (step_parts (h j hj)).2.1
 rw [← Bool.not_eq_true, hasB_true, nth_get hj] at h1
 exact h1 (by rw [← e]; exact List.mem_take_iff_getElem.2 ⟨i, by omega, rfl⟩)
theorem next_some {b : Book} {order gone : List Str} (hv : Valid b order) (hlt : gone.length < order.length) : ∃ p, nextOf b gone = some p := by
 cases hn : nextOf b gone with
 | some p => exact ⟨p, rfl⟩
 | none =>
  exfalso
  have hno : ∀ j, j < b.batches.length → goodN b gone j = false := by
   intro j hj
   unfold nextOf at hn
   rw [List.find?_eq_none] at hn
   have := hn j (by simpa using hj)
   simpa using this
  have hall : ∀ k i, i < k → i < order.length → nth order i ∈ gone := by
   intro k
   induction k with
   | zero => intro i hi; omega
   | succ k ih =>
    intro i hi hio
    by_cases e : i < k
    ·exact ih i e hio
    ·have e' : i = k := by omega
     subst e'
     obtain ⟨h1, h2, h3⟩ := step_parts (hv i hio)
     have hsub : ∀ x ∈ order.take i, x ∈ gone := by
      intro x hx
      obtain ⟨j, hj, ej⟩ := List.mem_take_iff_getElem.1 hx
      have hj2 : j < i ∧ j < order.length := by omega
      have := ih j hj2.1 hj2.2
      rw [nth_get hj2.2, ej] at this
      exact this
     have hg := hno _ h1
     unfold goodN at hg
     rw [can_more h3 hsub] at hg
     have hnm : (b.at (place (namesOf b.batches) (nth order i))).name = nth order i := by
      have hm : nth order i ∈ namesOf b.batches := place_lt.1 (by rw [namesOf_length]; exact h1)
      have := place_nth hm
      rw [nth_namesOf h1] at this
      exact this
     rw [hnm] at hg
     cases hh : hasB gone (nth order i)
     ·rw [hh] at hg; simp at hg
     ·exact hasB_true.1 hh
  have hsub : order ⊆ gone := by
   intro x hx
   obtain ⟨i, hi, e⟩ := List.getElem_of_mem hx
   have := hall (i + 1) i (by omega) hi
   rw [nth_get hi, e] at this
   exact this
  have := (valid_nodup hv).length_le_of_subset hsub
  omega
theorem greedy_all {b : Book} {order : List Str} (hv : Valid b order) (hl : order.length = b.batches.length) : ∀ (m : Nat) (gone : List Str), gone.length + m = b.batches.length → ∃ L, greedy b m gone = some L
 | 0, gone, _ => ⟨gone, rfl⟩
 | m + 1, gone, h => by
  obtain ⟨p, hp⟩ := next_some (gone := gone) hv (by omega)
  rw [greedy_some hp]
  exact greedy_all hv hl m _ (by rw [List.length_append, List.length_singleton]; omega)
theorem fits_parts {b : Book} {order : List Str} (h : fitsB b order = true) : bookOk b = true ∧ order.length = b.batches.length ∧ Valid b order := by
 unfold fitsB at h
 simp only [Bool.and_eq_true, decide_eq_true_eq] at h
 exact ⟨h.1.1, h.1.2, fun i hi => allLt_true.1 h.2 i hi⟩
theorem fits_safe {b : Book} {order : List Str} (h : fitsB b order = true) : safeB b = true := by
 obtain ⟨h1, h2, h3⟩ := fits_parts h
 obtain ⟨L, hL⟩ := greedy_all h3 h2 b.batches.length [] (by simp)
 simp [safeB, orderOf, h1, hL]
def someB (b : Book) : Nat → List Str → Bool
 | 0, gone => fitsB b gone
 | m + 1, gone => anyLt b.batches.length (fun i => !hasB gone (b.at i).name && someB b m (gone ++ [(b.at i).name]))
theorem some_fits {b : Book} : ∀ (m : Nat) (gone : List Str), someB b m gone = true → ∃ order, fitsB b order = true
 | 0, gone, h => ⟨gone, h⟩
 | m + 1, gone, h => by
  obtain ⟨i, hi, h1⟩ := anyLt_true.1 h
  rw [Bool.and_eq_true] at h1
  exact some_fits m _ h1.2
theorem some_of {b : Book} {order : List Str} (h : fitsB b order = true) : ∀ (m : Nat), m ≤ order.length → someB b m (order.take (order.length - m)) = true
 | 0, _ => by
  rw [Nat.sub_zero, List.take_length]; exact h
 | m + 1, hm => by
  obtain ⟨h1, h2, h3⟩ := fits_parts h
  have hk : order.length - (m + 1) < order.length := by omega
  obtain ⟨k1, k2, k3⟩ := step_parts (h3 _ hk)
  refine anyLt_of k1 ?_
  have hnm : (b.at (place (namesOf b.batches) (nth order (order.length - (m + 1))))).name = nth order (order.length - (m + 1)) := by
   have hmm : nth order (order.length - (m + 1)) ∈ namesOf b.batches := place_lt.1 (by rw [namesOf_length]; exact k1)
   have := place_nth hmm
   rw [nth_namesOf k1] at this
   exact this
  rw [hnm, k2]
  have ih := some_of h m (by omega)
  have e : order.length - m = (order.length - (m + 1)) + 1 := by omega
  rw [e, List.take_succ_eq_append_getElem hk, ← nth_get hk] at ih
  rw [ih]; rfl
theorem some_safe (b : Book) : someB b b.batches.length [] = safeB b := by
 rw [Bool.eq_iff_iff]
 constructor
 ·intro h
  obtain ⟨order, ho⟩ := some_fits _ _ h
  exact fits_safe ho
 ·intro h
  have hf := order_fits h
  have hl := (fits_parts hf).2.1
  have := some_of hf (orderL b).length (Nat.le_refl _)
  rw [Nat.sub_self, List.take_zero, hl] at this
  exact this
end
section
def leadP {α : Type} (p : α → Bool) (l : List α) : Nat := (l.takeWhile p).length
theorem lead_of {α : Type} {p : α → Bool} : ∀ {l : List α} {k : Nat}, (∀ (j : Nat) x, j < k → l[j]? = some x → p x = true) → k ≤ l.length → (∀ x, l[k]? = some x → p x = false) → leadP p l = k
 | [], k, _, hk, _ => by simp at hk; subst hk; rfl
 | y :: l, 0, _, _, h => by
  have := h y rfl
  simp [leadP, this]
 | y :: l, k + 1, h1, hk, h2 => by
  have hy := h1 0 y (by omega) rfl
  have := lead_of (p := p) (l := l) (k := k) (fun j x hj hx => h1 (j + 1) x (by omega) (by simpa using hx)) (by simpa using hk) (fun x hx => h2 x (by simpa using hx))
  unfold leadP at *
  rw [List.takeWhile_cons]
  simp [hy, this]
def leadB (bs : List Batch) (n : Str) : Nat := leadP (fun y => Op.bytesLess y.name n) bs
def insB (bs : List Batch) (x : Batch) : List Batch := bs.take (leadB bs x.name) ++ [x] ++ bs.drop (leadB bs x.name)
def leadS (l : List Str) (n : Str) : Nat := leadP (fun y => Op.bytesLess y n) l
def insS (l : List Str) (n : Str) : List Str :=
 if leadS l n < l.length && nth l (leadS l n) == n then l else l.take (leadS l n) ++ [n] ++ l.drop (leadS l n)
theorem leadB_of {bs : List Batch} {n : Str} {k : Nat} (h1 : ∀ j, j < k → Op.bytesLess (nthB bs j).name n = true) (hk : k ≤ bs.length) (h2 : k < bs.length → Op.bytesLess (nthB bs k).name n = false) : leadB bs n = k := by
 refine lead_of (fun j x hj hx => ?_) hk (fun x hx => ?_)
 ·have := h1 j hj
  rw [nthB_get (by omega)] at this
  rw [List.getElem?_eq_getElem (by omega)] at hx
  cases hx; exact this
 ·have hlt : k < bs.length := by
   rcases Nat.lt_or_ge k bs.length with h | h
   ·exact h
   ·simp [List.getElem?_eq_none h] at hx
  have := h2 hlt
  rw [nthB_get hlt] at this
  rw [List.getElem?_eq_getElem hlt] at hx
  cases hx; exact this
theorem leadS_of {l : List Str} {n : Str} {k : Nat} (h1 : ∀ j, j < k → Op.bytesLess (nth l j) n = true) (hk : k ≤ l.length) (h2 : k < l.length → Op.bytesLess (nth l k) n = false) : leadS l n = k := by
 refine lead_of (fun j x hj hx => ?_) hk (fun x hx => ?_)
 ·have := h1 j hj
  rw [nth_get (by omega)] at this
  rw [List.getElem?_eq_getElem (by omega)] at hx
  cases hx; exact this
 ·have hlt : k < l.length := by
   rcases Nat.lt_or_ge k l.length with h | h
   ·exact h
   ·simp [List.getElem?_eq_none h] at hx
  have := h2 hlt
  rw [nth_get hlt] at this
  rw [List.getElem?_eq_getElem hlt] at hx
  cases hx; exact this
def emptyBook : Book := ⟨[], []⟩
def hereB (b : Book) (n : Str) : Bool := hasB (namesOf b.batches) n
def whereB (b : Book) (n : Str) : Nat := place (namesOf b.batches) n
def enterB (b : Book) (n : Str) (needs : List Str) : Book × Nat :=
 if bookOk b = false then (emptyBook, 1) else if nameOk n = false ∨ namesOk needs b.things = false then (b, 2)
 else if hereB b n = true then (b, 3) else if 5 ≤ b.batches.length then (b, 4)
 else (⟨b.things, insB b.batches ⟨n, [], needs⟩⟩, 0)
def takenB (b : Book) (k : Nat) (things : List Str) : Bool := anyLt b.batches.length (fun i => !(i == k) && shareB (b.at i).has things)
def giveB (b : Book) (k : Nat) (things : List Str) : Book := ⟨b.things, b.batches.set k ⟨(b.at k).name, things.foldl insS (b.at k).has, (b.at k).needs⟩⟩
def askB (b : Book) (n : Str) (things : List Str) : Book × Nat :=
 if bookOk b = false then (emptyBook, 1) else if hereB b n = false then (b, 3)
 else if namesOk things (b.at (whereB b n)).needs = false then (b, 2)
 else if takenB b (whereB b n) things = true then (b, 5)
 else if safeB b = true ∧ safeB (giveB b (whereB b n) things) = false then (b, 6)
 else (giveB b (whereB b n) things, 0)
def fewerB (b : Book) (k : Nat) (needs : List Str) : Book := ⟨b.things, b.batches.set k ⟨(b.at k).name, (b.at k).has.filter (hasB needs), needs⟩⟩
def lessB (b : Book) (n : Str) (needs : List Str) : Book × Nat :=
 if bookOk b = false then (emptyBook, 1) else if hereB b n = false then (b, 3)
 else if namesOk needs (b.at (whereB b n)).needs = false then (b, 2)
 else (fewerB b (whereB b n) needs, 0)
def leaveB (b : Book) (n : Str) : Book × Nat :=
 if bookOk b = false then (emptyBook, 1) else if hereB b n = false then (b, 3)
 else (⟨b.things, b.batches.take (whereB b n) ++ b.batches.drop (whereB b n + 1)⟩, 0)
end
section
theorem namesOk_sub {l all : List Str} (h : namesOk l all = true) : ∀ x ∈ l, x ∈ all := by
 intro x hx
 obtain ⟨i, hi, e⟩ := List.getElem_of_mem hx
 have h1 := allLt_true.1 h i hi
 rw [Bool.and_eq_true] at h1
 rw [← e, ← nth_get hi]
 exact hasB_true.1 h1.1
theorem namesOk_len {l all : List Str} (h : namesOk l all = true) : l.length ≤ all.length :=
 (asc_nodup (namesOk_asc h)).length_le_of_subset (fun x hx => namesOk_sub h x hx)
theorem ok_parts {b : Book} (h : bookOk b = true) : thingsOk b.things = true ∧ b.batches.length ≤ 5 ∧ ∀ i, i < b.batches.length → batchOk b i = true ∧ ∀ j, j < i → shareB (b.at i).has (b.at j).has = false := by
 unfold bookOk at h
 simp only [Bool.and_eq_true, decide_eq_true_eq] at h
 refine ⟨h.1.1, h.1.2, fun i hi => ?_⟩
 have h1 := allLt_true.1 h.2 i hi
 rw [Bool.and_eq_true] at h1
 refine ⟨h1.1, fun j hj => ?_⟩
 have h2 := allLt_true.1 h1.2 j hj
 simpa using h2
theorem ok_batch {b : Book} (h : bookOk b = true) {i : Nat} (hi : i < b.batches.length) : nameOk (b.at i).name = true ∧ upB b i = true ∧ namesOk (b.at i).needs b.things = true ∧ namesOk (b.at i).has (b.at i).needs = true := by
 have h1 := ((ok_parts h).2.2 i hi).1
 unfold batchOk at h1
 simp only [Bool.and_eq_true] at h1
 exact ⟨h1.1.1.1, h1.1.1.2, h1.1.2, h1.2⟩
theorem nameOk_len {s : Str} (h : nameOk s = true) : s.length ≤ 8 := by
 unfold nameOk at h
 simp only [Bool.and_eq_true, decide_eq_true_eq] at h
 exact h.1.2
theorem things_eight {b : Book} (h : bookOk b = true) : b.things.length ≤ 8 := by
 have h1 := (ok_parts h).1
 unfold thingsOk at h1
 simp only [Bool.and_eq_true, decide_eq_true_eq] at h1
 exact h1.1
theorem ok_lens {b : Book} (h : bookOk b = true) {i : Nat} (hi : i < b.batches.length) : (b.at i).needs.length ≤ 8 ∧ (b.at i).has.length ≤ 8 ∧ (b.at i).name.length ≤ 8 := by
 obtain ⟨h1, h2, h3, h4⟩ := ok_batch h hi
 have k1 := namesOk_len h3
 have k2 := namesOk_len h4
 have k3 := things_eight h
 exact ⟨by omega, by omega, nameOk_len h1⟩
end
end Go.Proofs.YtdafpnpfcmgfcaaGreatDoor
