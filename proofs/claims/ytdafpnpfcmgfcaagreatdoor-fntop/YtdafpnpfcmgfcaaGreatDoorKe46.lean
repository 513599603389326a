/- How many names an answer's book holds. Safe stays safe: needing less, leaving, entering. Rows of batches of the call's own whose lists lie anywhere: old ones, or rows of names of its own. The law's own search of a list. The walk over the law's wWith: a book in which somebody has things, too. What the law FnAsk says of asking, over books as lists. -/
import Derived.Test.YtdafpnpfcmgfcaaGreatDoorKe45
import Derived.Test.YtdafpnpfcmgfcaaGreatDoorKe37
import Derived.Test.YtdafpnpfcmgfcaaGreatDoorKe26
import Derived.Test.YtdafpnpfcmgfcaaGreatDoorKe18
import Derived.Test.YtdafpnpfcmgfcaaGreatDoorKe38
import Derived.Test.YtdafpnpfcmgfcaaGreatDoorKe20
import Derived.Test.YtdafpnpfcmgfcaaGreatDoorKe35
namespace Go.Proofs.YtdafpnpfcmgfcaaGreatDoor
section
open Go.RowKit
structure LSt (P3 P4 P5 P6 x1 x2 : Nat) (b B : Book) (s1 s2 g1 g2 : Option Addr) (t1 t2 e1 e2 : Nat) (rs : List Row) (w3 wk : World) : Prop where
 ext : Ext w3 wk
 r0 : Rec wk P3 26 [.slice s1 B.things.length t1, .slice s2 B.batches.length t2]
 rx : Rec wk P4 26 [.slice (some ⟨x1, 0, none⟩) b.things.length b.things.length, .slice (some ⟨x2, 0, none⟩) b.batches.length b.batches.length]
 rg : Rec wk P6 26 [.slice g1 B.things.length e1, .slice g2 B.batches.length e2]
 ob : OB wk P5 (.slice g1 B.things.length e1) (.slice g2 B.batches.length e2) rs B
section
variable {P3 P4 P5 P6 x1 x2 : Nat} {b B : Book} {s1 s2 g1 g2 : Option Addr} {t1 t2 e1 e2 : Nat} {rs : List Row} {w3 wk wl : World}
end
end
section
def CanN (b : Book) (x : Str) (l : List Str) : Prop := ∀ X ∈ b.batches, X.name = x → ∀ Y ∈ b.batches, Y.name ≠ x → Y.name ∉ l → ∀ t ∈ Y.has, t ∉ X.needs
structure Fit (b : Book) (o : List Str) : Prop where
 all : ∀ x ∈ namesOf b.batches, x ∈ o
 only : ∀ x ∈ o, x ∈ namesOf b.batches
 nodup : o.Nodup
 can : ∀ l x r, o = l ++ x :: r → CanN b x l
theorem names_nodup {b : Book} (h : bookOk b = true) : (namesOf b.batches).Nodup := by
 have h1 := ok_names h
 exact h1.imp (fun {x y} hxy e => by rw [e, LtS, less_irrefl] at hxy; cases hxy)
theorem name_uniq {b : Book} (h : bookOk b = true) {i j : Nat} (hi : i < b.batches.length) (hj : j < b.batches.length) (e : (nthB b.batches i).name = (nthB b.batches j).name) : i = j := by
 rcases Nat.lt_trichotomy i j with hlt | rfl | hlt
 ·have := asc_nth (ok_names h) hlt (by rw [namesOf_length]; exact hj)
  rw [nth_namesOf hi, nth_namesOf hj, e, less_irrefl] at this; cases this
 ·rfl
 ·have := asc_nth (ok_names h) hlt (by rw [namesOf_length]; exact hi)
  rw [nth_namesOf hi, nth_namesOf hj, e, less_irrefl] at this; cases this
theorem mem_nthB {bs : List Batch} {X : Batch} (h : X ∈ bs) : ∃ i, i < bs.length ∧ nthB bs i = X := by
 obtain ⟨i, hi, e⟩ := List.getElem_of_mem h
 exact ⟨i, hi, by rw [nthB_get hi, e]⟩
theorem nthB_mem {bs : List Batch} {i : Nat} (h : i < bs.length) : nthB bs i ∈ bs := by rw [nthB_get h]; exact List.getElem_mem h
theorem can_iff {b : Book} {p : Nat} {l : List Str} (hok : bookOk b = true) (hp : p < b.batches.length) : canB b p l = true ↔ CanN b (nthB b.batches p).name l := by
 constructor
 ·intro h X hX hXn Y hY hYn hYl t ht hn
  obtain ⟨i, hi, rfl⟩ := mem_nthB hY
  obtain ⟨q, hq, rfl⟩ := mem_nthB hX
  have e := name_uniq hok hq hp hXn
  subst e
  have hip : i ≠ q := fun e => hYn (by rw [e])
  have h1 := allLt_true.1 h i hi
  have hc : clash b q l i = true := by
   unfold clash
   have e1 : hasB l (b.at i).name = false := by rw [← Bool.not_eq_true, hasB_true]; exact hYl
   have e2 : shareB (b.at i).has (b.at q).needs = true := (shareB_true).2 ⟨t, ht, hn⟩
   rw [e1, e2]; simp [hip]
  rw [hc] at h1; cases h1
 ·intro h
  refine canB_yes (fun i hi => ?_)
  cases hc : clash b p l i
  ·rfl
  ·unfold clash at hc
   simp only [Bool.and_eq_true, Bool.not_eq_true', decide_eq_false_iff_not] at hc
   obtain ⟨⟨h1, h2⟩, h3⟩ := hc
   obtain ⟨t, ht, hn⟩ := shareB_true.1 h3
   rw [← Bool.not_eq_true, hasB_true] at h2
   exact absurd hn (h _ (nthB_mem hp) rfl _ (nthB_mem hi) (fun e => h1 (name_uniq hok hi hp e)) h2 t ht)
theorem safe_iff {b : Book} (hok : bookOk b = true) : safeB b = true ↔ ∃ o, Fit b o := by
 constructor
 ·intro hs
  obtain ⟨_, hl, hv⟩ := fits_parts (order_fits hs)
  have hn := valid_nodup hv
  have honly : ∀ x ∈ orderL b, x ∈ namesOf b.batches := fun x hx => by
   obtain ⟨i, hi, e⟩ := List.getElem_of_mem hx
   have := (step_parts (hv i hi)).1
   rw [nth_get hi, e, ← namesOf_length] at this
   exact place_lt.1 this
  refine ⟨orderL b, fun x hx => ?_, honly, hn, fun l x r e => ?_⟩
  ·by_cases hm : x ∈ orderL b
   ·exact hm
   ·have h1 : (x :: orderL b).Nodup := List.nodup_cons.2 ⟨hm, hn⟩
    have h2 := h1.length_le_of_subset (l₂ := namesOf b.batches) (fun y hy => by
     rw [List.mem_cons] at hy
     rcases hy with rfl | hy
     ·exact hx
     ·exact honly y hy)
    rw [List.length_cons, namesOf_length] at h2
    omega
  ·have hi : l.length < (orderL b).length := by rw [e]; simp
   have hnth : nth (orderL b) l.length = x := by rw [nth_get hi]; simp [e]
   have ht : (orderL b).take l.length = l := by rw [e]; simp
   obtain ⟨h1, h2, h3⟩ := step_parts (hv l.length hi)
   rw [hnth, ht] at h3
   rw [hnth] at h1
   have hx : x ∈ namesOf b.batches := honly x (by rw [e]; simp)
   have e2 : (nthB b.batches (place (namesOf b.batches) x)).name = x := by
    rw [← nth_namesOf h1]; exact place_nth hx
   have := (can_iff hok h1).1 h3
   rwa [e2] at this
 ·rintro ⟨o, hf⟩
  have hl : o.length = b.batches.length := by
   have h1 := hf.nodup.length_le_of_subset (l₂ := namesOf b.batches) (fun x hx => hf.only x hx)
   have h2 := (names_nodup hok).length_le_of_subset (l₂ := o) (fun x hx => hf.all x hx)
   rw [namesOf_length] at h1 h2
   omega
  refine fits_safe (fitsB_yes hok hl (fun i hi => ?_))
  have hx : nth o i ∈ namesOf b.batches := hf.only _ (by rw [nth_get hi]; exact List.getElem_mem hi)
  have h1 : place (namesOf b.batches) (nth o i) < b.batches.length := by rw [← namesOf_length]; exact place_lt.2 hx
  have e : o = o.take i ++ nth o i :: o.drop (i + 1) := by
   rw [nth_get hi, List.getElem_cons_drop, List.take_append_drop]
  have e2 : (nthB b.batches (place (namesOf b.batches) (nth o i))).name = nth o i := by
   rw [← nth_namesOf h1]; exact place_nth hx
  have h3 := hf.can _ _ _ e
  have hc : canB b (place (namesOf b.batches) (nth o i)) (o.take i) = true := (can_iff hok h1).2 (by rw [e2]; exact h3)
  have hb : hasB (o.take i) (nth o i) = false := by
   rw [← Bool.not_eq_true, hasB_true]
   intro hm
   have hn := hf.nodup
   rw [e, List.nodup_append] at hn
   exact (hn.2.2 _ hm _ (by simp)) rfl
  unfold stepB
  rw [hb, hc]
  simp [h1]
theorem Fit.less {b b' : Book} {o : List Str} (h : Fit b o) (hn : namesOf b'.batches = namesOf b.batches)
  (hs : ∀ X' ∈ b'.batches, ∃ X ∈ b.batches, X.name = X'.name ∧ (∀ t ∈ X'.has, t ∈ X.has) ∧ ∀ t ∈ X'.needs, t ∈ X.needs) : Fit b' o := by
 refine ⟨fun x hx => h.all x (by rw [← hn]; exact hx), fun x hx => by rw [hn]; exact h.only x hx, h.nodup, fun l x r e X' hX' hXn Y' hY' hYn hYl t ht hne => ?_⟩
 obtain ⟨X, hX, e1, _, e3⟩ := hs X' hX'
 obtain ⟨Y, hY, f1, f2, _⟩ := hs Y' hY'
 exact h.can l x r e X hX (e1.trans hXn) Y hY (by rw [f1]; exact hYn) (by rw [f1]; exact hYl) t (f2 t ht) (e3 t hne)
theorem Fit.out {b b' : Book} {o : List Str} {n : Str} (h : Fit b o) (hs : ∀ X ∈ b'.batches, X ∈ b.batches) (hn : ∀ x, x ∈ namesOf b'.batches ↔ x ∈ namesOf b.batches ∧ x ≠ n) : Fit b' (o.filter (fun x => x != n)) := by
 refine ⟨fun x hx => ?_, fun x hx => ?_, h.nodup.filter _, fun l x r e X hX hXn Y hY hYn hYl t ht hne => ?_⟩
 ·obtain ⟨h1, h2⟩ := (hn x).1 hx
  exact List.mem_filter.2 ⟨h.all x h1, by simpa using h2⟩
 ·obtain ⟨h1, h2⟩ := List.mem_filter.1 hx
  exact (hn x).2 ⟨h.only x h1, by simpa using h2⟩
 ·obtain ⟨l1, l2, e1, e2, e3⟩ := List.filter_eq_append_iff.1 e
  obtain ⟨m1, m2, f1, f2, f3, f4⟩ := List.filter_eq_cons_iff.1 e3
  have hYm : Y.name ∈ namesOf b'.batches := List.mem_map.2 ⟨Y, hY, rfl⟩
  have hYne := ((hn _).1 hYm).2
  refine h.can (l1 ++ m1) x m2 (by rw [e1, f1]; simp) X (hs X hX) hXn Y (hs Y hY) hYn (fun hm => ?_) t ht hne
  rw [List.mem_append] at hm
  rcases hm with hm | hm
  ·exact hYl (by rw [← e2]; exact List.mem_filter.2 ⟨hm, by simpa using hYne⟩)
  ·exact f2 _ hm (by simpa using hYne)
theorem Fit.into {b b' : Book} {o : List Str} {x0 : Batch} (h : Fit b o) (hm : ∀ X, X ∈ b'.batches ↔ X ∈ b.batches ∨ X = x0) (h0 : x0.has = []) (hn : x0.name ∉ namesOf b.batches) : Fit b' (o ++ [x0.name]) := by
 have hno : x0.name ∉ o := fun hx => hn (h.only _ hx)
 refine ⟨fun x hx => ?_, fun x hx => ?_, ?_, fun l x r e X hX hXn Y hY hYn hYl t ht hne => ?_⟩
 ·obtain ⟨X, hX, rfl⟩ := List.mem_map.1 hx
  rcases (hm X).1 hX with h1 | rfl
  ·exact List.mem_append.2 (Or.inl (h.all _ (List.mem_map.2 ⟨X, h1, rfl⟩)))
  ·simp
 ·rw [List.mem_append, List.mem_singleton] at hx
  rcases hx with hx | rfl
  ·obtain ⟨X, hX, rfl⟩ := List.mem_map.1 (h.only x hx)
   exact List.mem_map.2 ⟨X, (hm X).2 (Or.inl hX), rfl⟩
  ·exact List.mem_map.2 ⟨x0, (hm x0).2 (Or.inr rfl), rfl⟩
 ·rw [List.nodup_append]
  exact ⟨h.nodup, by simp, fun a ha c hc e' => by rw [List.mem_singleton] at hc; subst hc; rw [e'] at ha; exact hno ha⟩
 ·rcases (hm Y).1 hY with hYb | rfl
  ·rcases List.eq_nil_or_concat r with rfl | ⟨r', z, rfl⟩
   ·obtain ⟨e1, e2⟩ := List.append_inj' e (by simp)
    subst e1
    exact hYl (h.all _ (List.mem_map.2 ⟨Y, hYb, rfl⟩))
   ·have e' : o ++ [x0.name] = (l ++ x :: r') ++ [z] := by rw [e]; simp
    obtain ⟨e1, e2⟩ := List.append_inj' e' (by simp)
    have hxo : x ∈ o := by rw [e1]; simp
    rcases (hm X).1 hX with hXb | rfl
    ·exact h.can l x r' e1 X hXb hXn Y hYb hYn hYl t ht hne
    ·exact hno (by rw [hXn]; exact hxo)
  ·rw [h0] at ht; cases ht
theorem less_safe {b : Book} {n : Str} {needs : List Str} (h0 : (lessB b n needs).2 = 0) (hs : safeB b = true) : safeB (lessB b n needs).1 = true := by
 obtain ⟨hok, hh⟩ := less_zero h0
 have hok' := less_ok (n := n) (needs := needs) hok
 have hb := less_book b n needs
 rw [if_pos h0] at hb
 rw [← hb] at hok' ⊢
 have hk := where_lt hh
 have hnn : namesOk needs (b.at (whereB b n)).needs = true := by
  cases hq : namesOk needs (b.at (whereB b n)).needs
  ·unfold lessB at h0; rw [if_neg (by simp [hok]), if_neg (by simp [hh]), if_pos hq] at h0; cases h0
  ·rfl
 obtain ⟨o, hf⟩ := (safe_iff hok).1 hs
 refine (safe_iff hok').2 ⟨o, hf.less ?_ (fun X' hX' => ?_)⟩
 ·show namesOf (b.batches.set _ _) = _
  unfold namesOf
  rw [List.map_set]
  apply List.ext_getElem?
  intro i
  rw [List.getElem?_set]
  by_cases e : whereB b n = i
  ·subst e
   have e2 : b.at (whereB b n) = b.batches[whereB b n] := nthB_get hk
   simp [hk, e2]
  ·rw [if_neg e]
 ·rcases List.mem_or_eq_of_mem_set hX' with h1 | rfl
  ·exact ⟨X', h1, rfl, fun _ h => h, fun _ h => h⟩
  ·exact ⟨b.at (whereB b n), nthB_mem hk, rfl, fun t ht => (List.mem_filter.1 ht).1, fun t ht => namesOk_sub hnn t ht⟩
theorem leave_len {b : Book} {n : Str} (h0 : (leaveB b n).2 = 0) : (leaveB b n).1.batches.length + 1 = b.batches.length := by
 obtain ⟨_, hh⟩ := leave_zero h0
 have hb := leave_book b n
 rw [if_pos h0] at hb
 rw [← hb]
 have hk := where_lt hh
 show (b.batches.take _ ++ b.batches.drop _).length + 1 = _
 rw [List.length_append, List.length_take, List.length_drop]; omega
theorem leave_safe {b : Book} {n : Str} (h0 : (leaveB b n).2 = 0) (hs : safeB b = true) : safeB (leaveB b n).1 = true := by
 obtain ⟨hok, hh⟩ := leave_zero h0
 have hok' := leave_ok (n := n) hok
 have hb := leave_book b n
 rw [if_pos h0] at hb
 rw [← hb] at hok' ⊢
 have hk := where_lt hh
 have hkn : (nthB b.batches (whereB b n)).name = n := by
  rw [← nth_namesOf hk]; exact place_nth (hasB_true.1 hh)
 have hmem : ∀ X, X ∈ b.batches.take (whereB b n) ++ b.batches.drop (whereB b n + 1) → X ∈ b.batches ∧ X.name ≠ n := fun X hX => by
  obtain ⟨i, hi, hne, e⟩ : ∃ i, i < b.batches.length ∧ i ≠ whereB b n ∧ nthB b.batches i = X := by
   rw [List.mem_append] at hX
   rcases hX with hX | hX
   ·obtain ⟨i, hi, e⟩ := List.mem_take_iff_getElem.1 hX
    rw [Nat.lt_min] at hi
    exact ⟨i, hi.2, by omega, by rw [nthB_get hi.2, e]⟩
   ·obtain ⟨i, hi, e⟩ := List.getElem_of_mem hX
    rw [List.getElem_drop] at e
    rw [List.length_drop] at hi
    exact ⟨whereB b n + 1 + i, by omega, by omega, by rw [nthB_get (by omega), e]⟩
  refine ⟨by rw [← e]; exact nthB_mem hi, fun en => hne (name_uniq hok hi hk (by rw [e, en, hkn]))⟩
 obtain ⟨o, hf⟩ := (safe_iff hok).1 hs
 refine (safe_iff hok').2 ⟨_, hf.out (n := n) (fun X hX => (hmem X hX).1) (fun x => ⟨fun hx => ?_, fun hx => ?_⟩)⟩
 ·obtain ⟨X, hX, rfl⟩ := List.mem_map.1 hx
  exact ⟨List.mem_map.2 ⟨X, (hmem X hX).1, rfl⟩, (hmem X hX).2⟩
 ·obtain ⟨X, hX, e⟩ := List.mem_map.1 hx.1
  refine List.mem_map.2 ⟨X, ?_, e⟩
  obtain ⟨i, hi, ei⟩ := mem_nthB hX
  have hne : i ≠ whereB b n := fun e' => hx.2 (by rw [← e, ← ei, e', hkn])
  show X ∈ b.batches.take _ ++ b.batches.drop _
  rw [List.mem_append]
  rcases Nat.lt_or_gt_of_ne hne with hlt | hgt
  ·exact Or.inl (List.mem_take_iff_getElem.2 ⟨i, by rw [Nat.lt_min]; exact ⟨hlt, hi⟩, by rw [← nthB_get hi, ei]⟩)
  ·refine Or.inr (List.mem_of_getElem? (i := i - (whereB b n + 1)) ?_)
   rw [List.getElem?_drop, show whereB b n + 1 + (i - (whereB b n + 1)) = i by omega, List.getElem?_eq_getElem hi, ← nthB_get hi, ei]
theorem ins_mem {bs : List Batch} {x X : Batch} : X ∈ insB bs x ↔ X ∈ bs ∨ X = x := by
 unfold insB
 rw [List.mem_append, List.mem_append, List.mem_singleton]
 constructor
 ·rintro ((h | h) | h)
  ·exact Or.inl (List.mem_of_mem_take h)
  ·exact Or.inr h
  ·exact Or.inl (List.mem_of_mem_drop h)
 ·rintro (h | h)
  ·rw [← List.take_append_drop (leadB bs x.name) bs, List.mem_append] at h
   rcases h with h | h
   ·exact Or.inl (Or.inl h)
   ·exact Or.inr h
  ·exact Or.inl (Or.inr h)
theorem enter_new {b : Book} {n : Str} {needs : List Str} (h0 : (enterB b n needs).2 = 0) : n ∉ namesOf b.batches := by
 intro hm
 have hh : hereB b n = true := hasB_true.2 hm
 have hok := enter_zero h0
 unfold enterB at h0
 rw [if_neg (by simp [hok])] at h0
 by_cases h2 : nameOk n = false ∨ namesOk needs b.things = false
 ·rw [if_pos h2] at h0; cases h0
 ·rw [if_neg h2, if_pos hh] at h0; cases h0
theorem enter_safe {b : Book} {n : Str} {needs : List Str} (h0 : (enterB b n needs).2 = 0) : safeB (enterB b n needs).1 = safeB b := by
 have hok := enter_zero h0
 have hok' := enter_ok (n := n) (needs := needs) hok
 have hnew := enter_new h0
 have hb := enter_book b n needs
 rw [if_pos h0] at hb
 rw [← hb] at hok' ⊢
 have hmem : ∀ X, X ∈ insB b.batches ⟨n, [], needs⟩ ↔ X ∈ b.batches ∨ X = ⟨n, [], needs⟩ := fun X => ins_mem
 rw [Bool.eq_iff_iff, safe_iff hok, safe_iff hok']
 constructor
 ·rintro ⟨o, hf⟩
  refine ⟨_, hf.out (n := n) (fun X hX => (hmem X).2 (Or.inl hX)) (fun x => ⟨fun hx => ⟨?_, fun e => hnew (by rw [← e]; exact hx)⟩, fun hx => ?_⟩)⟩
  ·obtain ⟨X, hX, e⟩ := List.mem_map.1 hx
   exact List.mem_map.2 ⟨X, (hmem X).2 (Or.inl hX), e⟩
  ·obtain ⟨X, hX, e⟩ := List.mem_map.1 hx.1
   rcases (hmem X).1 hX with h1 | rfl
   ·exact List.mem_map.2 ⟨X, h1, e⟩
   ·exact absurd e.symm hx.2
 ·rintro ⟨o, hf⟩
  exact ⟨_, hf.into (x0 := ⟨n, [], needs⟩) hmem rfl hnew⟩
end
section
open Go.RowKit
def LstW (w : World) (X : Nat) (v : Value) (ss : List Str) : Prop :=
 ∃ a cap, v = .slice a ss.length cap ∧ StrsAt w a ss ∧ (0 < ss.length → ∀ b o, a = some ⟨b, o, none⟩ → b < X ∨ ∃ c, w.heap[b]? = some (.cells c 9 (0, 0)))
def RowW (w : World) (X : Nat) (r : Row) (x : Batch) : Prop := r.name = x.name ∧ x.name.length ≤ 140737488355328 ∧ LstW w X r.has x.has ∧ LstW w X r.needs x.needs
def RowsW (w : World) (X : Nat) (rs : List Row) (bs : List Batch) : Prop := rs.length = bs.length ∧ ∀ (i : Nat) r x, rs[i]? = some r → bs[i]? = some x → RowW w X r x
def BsW (w : World) (X L : Nat) (v : Value) (bs : List Batch) : Prop := ∃ rs, w.ownsRow X 73 3 v rs.length (cellsOf rs) ∧ RowsW w L rs bs
end
section
open Go.RowKit
attribute [local go_sem] S_toList S_size S_get
theorem wHas_any (a : Option Addr) (cap : Nat) (ss : List Str) (x : Str) (w : World) (hs : StrsAt w a ss) :
  Calls Qry.prog 24 #[.slice a ss.length cap, .string (S x)] w fun e w' => e = .returned (.bool (hasB ss x)) ∧ w' = w := by
 have hn := hs.1
 go_enter Qry.func24, Tryz.ntmps24
 go_wp2
 go_loop [5] (fun i => ∃ k : Nat, k ≤ ss.length ∧ i = .int .i64 k ∧ ∀ j, j < k → (nth ss j == x) = false) (fun i => ss.length - (intOf i).toNat)
 case atStart => exact ⟨0, Nat.zero_le _, rfl, fun j hj => by omega⟩
 case round =>
  obtain ⟨k, hk, rfl, hx⟩ := hrel
  have HX : Hid (∀ j, j < k → (nth ss j == x) = false) := hx
  clear hx
  by_cases hlt : k < ss.length
  ·obtain ⟨_, b, o, rfl, hc⟩ := hs.2 k hlt
   cases hq : (nth ss k == x)
   ·go_wp2
    go_round
    case rel => exact ⟨k + 1, by omega, by go_num, fun j hj => by
     by_cases e : j = k
     ·rw [e]; exact hq
     ·exact HX.out j (by omega)⟩
    case measure => simp [intOf]; omega
   ·have HF : Hid (hasB ss x = true) := hasB_of hlt hq
    go_wp2
    go_ret
    exact ⟨ret_bool HF.out.symm, rfl⟩
  ·have HF : Hid (hasB ss x = false) := hasB_no (fun j hj => HX.out j (by omega))
   go_wp2
   go_ret
   exact ⟨ret_bool HF.out.symm, rfl⟩
theorem wHas_v (a : Option Addr) (cap : Nat) (ss : List Str) (x : Str) (v : Bool) (w : World) (hs : StrsAt w a ss) (hv : hasB ss x = v) :
  Calls Qry.prog 24 #[.slice a ss.length cap, .string (S x)] w fun e w' => e = .returned (.bool v) ∧ w' = w := by
 rw [← hv]; exact wHas_any a cap ss x w hs
end
section
open Go.RowKit
attribute [local go_sem] S_toList S_size S_get
section
variable {P : Program} {ops : Array Oper} {Q : Exit → Act → World → Prop} {md : Region.Mode} {S : World → Prop} {z : Nat}
end
def withN (y : Batch) (things : List Str) : List Str := y.needs.filter (fun t => hasB y.has t || hasB things t)
def withX (n : Str) (things : List Str) (y : Batch) : Batch := if (y.name == n) = true then ⟨n, withN y things, y.needs⟩ else y
def withB (b : Book) (n : Str) (things : List Str) : Book := ⟨b.things, b.batches.map (withX n things)⟩
theorem take_filter {p : Str → Bool} {l : List Str} {j : Nat} (h : j < l.length) : (l.take (j + 1)).filter p = if p (nth l j) = true then (l.take j).filter p ++ [nth l j] else (l.take j).filter p := by
 rw [List.take_succ_eq_append_getElem h, List.filter_append, nth_get h]
 cases hp : p l[j] <;> simp [hp]
theorem filter_short {p : Str → Bool} {l : List Str} (h : ShortS l) : ShortS (l.filter p) :=
 ⟨Nat.le_trans (List.length_filter_le _ _) h.1, short_iff.2 fun x hx => short_iff.1 h.2 x (List.mem_filter.1 hx).1⟩
end
section
theorem where_name {b : Book} {n : Str} (_ : bookOk b = true) (h : hereB b n = true) : (nthB b.batches (whereB b n)).name = n := by
 have hm : n ∈ namesOf b.batches := hasB_true.1 h
 have h2 := place_nth hm
 have h1 : place (namesOf b.batches) n < b.batches.length := by have := place_lt.2 hm; rwa [namesOf_length] at this
 rw [nth_namesOf h1] at h2
 exact h2
structure SixP (b : Book) (n : Str) (things : List Str) : Prop where
 ok : bookOk b = true
 here : hereB b n = true
 list : namesOk things (b.at (whereB b n)).needs = true
 free : takenB b (whereB b n) things = false
 safe : safeB b = true
 bad : safeB (giveB b (whereB b n) things) = false
theorem six_parts {b : Book} {n : Str} {things : List Str} (h : (askB b n things).2 = 6) : SixP b n things := by
 unfold askB at h
 split at h
 ·cases h
 ·rename_i h1
  split at h
  ·cases h
  ·rename_i h2
   split at h
   ·cases h
   ·rename_i h3
    split at h
    ·cases h
    ·rename_i h4
     split at h
     ·rename_i h5
      exact ⟨by simpa using h1, by simpa using h2, by simpa using h3, by simpa using h4, h5.1, h5.2⟩
     ·cases h
theorem six_moves {b : Book} {n : Str} {things : List Str} (h : (askB b n things).2 = 6) : hasB (movesL b) n = false := by
 have p := six_parts h
 cases hm : hasB (movesL b) n
 ·rfl
 exfalso
 have hk := where_lt p.here
 have hn := where_name p.ok p.here
 have hml : movesL b = pickL (fun i => canB b i []) b.batches b.batches.length := by simp [movesL, p.ok]
 rw [hasB_true, hml, pickL_mem] at hm
 obtain ⟨j, hj, hcan, hjn⟩ := hm
 obtain rfl : j = whereB b n := name_uniq p.ok hj hk (hjn.trans hn.symm)
 have hcn := (can_iff p.ok hk).1 hcan
 rw [hn] at hcn
 have hok' : bookOk (giveB b (whereB b n) things) = true := ok_iff.2 (give_ok (ok_iff.1 p.ok) hk p.list p.free)
 obtain ⟨o, hf⟩ := (safe_iff p.ok).1 p.safe
 have hmem : ∀ X ∈ (giveB b (whereB b n) things).batches, (X.name = n ∧ X.needs = (nthB b.batches (whereB b n)).needs) ∨ (X ∈ b.batches ∧ X.name ≠ n) := by
  intro X hX
  obtain ⟨i, hi, rfl⟩ := mem_nthB hX
  have hib : i < b.batches.length := by simpa [giveB] using hi
  rw [nthB_get hi]
  by_cases e : whereB b n = i
  ·left
   subst e
   have e1 : (giveB b (whereB b n) things).batches[whereB b n] = ⟨(b.at (whereB b n)).name, things.foldl insS (b.at (whereB b n)).has, (b.at (whereB b n)).needs⟩ := by
    simp only [giveB, List.getElem_set_self]
   rw [e1]
   exact ⟨hn, rfl⟩
  ·right
   have e1 : (giveB b (whereB b n) things).batches[i] = nthB b.batches i := by
    simp only [giveB]
    rw [List.getElem_set_ne e, nthB_get hib]
   rw [e1]
   exact ⟨nthB_mem hib, fun e2 => e (name_uniq p.ok hk hib (hn.trans e2.symm))⟩
 have hnames : namesOf (giveB b (whereB b n) things).batches = namesOf b.batches := by
  refine List.ext_getElem (by simp [giveB, namesOf]) fun i h1 h2 => ?_
  have hib : i < b.batches.length := by simpa [namesOf] using h2
  simp only [namesOf, giveB, List.getElem_map, List.getElem_set]
  split
  ·rename_i e
   subst e
   show (nthB b.batches (whereB b n)).name = _
   rw [nthB_get hib]
  ·rfl
 have hbad : safeB (giveB b (whereB b n) things) = true := by
  refine (safe_iff hok').2 ⟨n :: o.filter (fun x => x != n), fun x hx => ?_, fun x hx => ?_, ?_, fun l x r e X hX hXn Y hY hYn hYl t ht hne => ?_⟩
  ·rw [hnames] at hx
   by_cases e : x = n
   ·subst e; simp
   ·exact List.mem_cons_of_mem _ (List.mem_filter.2 ⟨hf.all x hx, by simpa using e⟩)
  ·rw [hnames]
   rcases List.mem_cons.1 hx with rfl | hx
   ·exact hasB_true.1 p.here
   ·exact hf.only x (List.mem_filter.1 hx).1
  ·exact List.nodup_cons.2 ⟨fun h => by simp at h, hf.nodup.filter _⟩
  ·cases l with
   | nil =>
    simp only [List.nil_append, List.cons.injEq] at e
    obtain ⟨rfl, _⟩ := e
    rcases hmem X hX with ⟨_, h2⟩ | ⟨_, h2⟩
    ·rcases hmem Y hY with ⟨h3, _⟩ | ⟨h3, _⟩
     ·exact hYn h3
     ·rw [h2] at hne
      exact hcn _ (nthB_mem hk) hn Y h3 hYn (by simp) t ht hne
    ·exact h2 hXn
   | cons z l =>
    simp only [List.cons_append, List.cons.injEq] at e
    obtain ⟨rfl, e⟩ := e
    have hYz : Y.name ≠ n := fun h => hYl (by rw [h]; simp)
    rcases hmem Y hY with ⟨h3, _⟩ | ⟨h3, _⟩
    ·exact hYz h3
    obtain ⟨l1, l2, e1, e2, e3⟩ := List.filter_eq_append_iff.1 e
    obtain ⟨m1, m2, f1, f2, f3, f4⟩ := List.filter_eq_cons_iff.1 e3
    have hxn : x ≠ n := by simpa using f3
    rcases hmem X hX with ⟨h4, _⟩ | ⟨h4, _⟩
    ·exact hxn (hXn.symm.trans h4)
    refine hf.can (l1 ++ m1) x m2 (by rw [e1, f1]; simp) X h4 hXn Y h3 hYn (fun hm => ?_) t ht hne
    rw [List.mem_append] at hm
    rcases hm with hm | hm
    ·exact hYl (List.mem_cons_of_mem _ (by rw [← e2]; exact List.mem_filter.2 ⟨hm, by simpa using hYz⟩))
    ·exact f2 _ hm (by simpa using hYz)
 rw [p.bad] at hbad
 cases hbad
theorem zero_safe {b : Book} {n : Str} {things : List Str} (h : (askB b n things).2 = 0) : (safeB (askB b n things).1 || !safeB b) = true := by
 have hbk : (askB b n things).1 = giveB b (whereB b n) things := by
  have := ask_book b n things
  rw [if_pos h] at this
  exact this.symm
 rw [hbk]
 cases hs : safeB b
 ·simp
 ·cases hg : safeB (giveB b (whereB b n) things)
  ·exfalso
   unfold askB at h
   split at h
   ·cases h
   ·split at h
    ·cases h
    ·split at h
     ·cases h
     ·split at h
      ·cases h
      ·rw [if_pos ⟨hs, hg⟩] at h
       cases h
  ·rfl
theorem rest_book {b : Book} {n : Str} {things : List Str} (h0 : (askB b n things).2 ≠ 0) (h1 : (askB b n things).2 ≠ 1) : (askB b n things).1 = b := by
 have := ask_book b n things
 rw [if_neg h0, if_neg h1] at this
 exact this.symm
theorem one_book {b : Book} {n : Str} {things : List Str} (h1 : (askB b n things).2 = 1) : (askB b n things).1 = emptyBook := by
 have := ask_book b n things
 rw [if_neg (by rw [h1]; decide), if_pos h1] at this
 exact this.symm
end
end Go.Proofs.YtdafpnpfcmgfcaaGreatDoor
