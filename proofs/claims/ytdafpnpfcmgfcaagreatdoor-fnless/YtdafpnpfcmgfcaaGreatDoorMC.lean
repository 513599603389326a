/- How many names an answer's book holds. Safe stays safe: needing less, leaving, entering. -/
import Derived.Test.YtdafpnpfcmgfcaaGreatDoorE17
import Derived.Test.YtdafpnpfcmgfcaaGreatDoorK8
import Derived.Test.YtdafpnpfcmgfcaaGreatDoorMB
namespace Go.Proofs.YtdafpnpfcmgfcaaGreatDoor
open Go.RowKit

theorem cnt_le {bs : List Batch} {m : Nat} (h : ∀ i, i < bs.length → (nthB bs i).has.length + (nthB bs i).needs.length ≤ m) : ∀ n, n ≤ bs.length → cntTo bs n ≤ n * m
  | 0, _ => by simp [cntTo]
  | n + 1, hn => by
    have h1 := cnt_le h n (by omega)
    have h2 := h n (by omega)
    have e : cntTo bs (n + 1) = cntTo bs n + ((nthB bs n).has.length + (nthB bs n).needs.length) := rfl
    rw [e, Nat.succ_mul]; omega
theorem ok_marks {b : Book} (h : bookOk b = true) : nMarks b ≤ 93 := by
  have h5 := ok_five h
  have h8 := things_eight h
  have hc := cnt_le (bs := b.batches) (m := 16) (fun i hi => by
    have := ok_lens h hi
    have e : b.at i = nthB b.batches i := rfl
    rw [e] at this; omega) b.batches.length (Nat.le_refl _)
  unfold nMarks
  have : b.batches.length * 16 ≤ 80 := by omega
  omega
theorem empty_marks : nMarks emptyBook = 0 := rfl
theorem out_marks {b B : Book} {c : Nat} {b0 : Book} {N : Nat} (hN : 93 ≤ N) (hb : nMarks b ≤ N) (h : (if c = 0 then b0 else if c = 1 then emptyBook else b) = B) (h0 : c = 0 → bookOk B = true) : nMarks B ≤ N := by
  by_cases hc : c = 0
  · have := ok_marks (h0 hc); omega
  · rw [if_neg hc] at h
    by_cases h1 : c = 1
    · rw [if_pos h1] at h
      rw [← h, empty_marks]; omega
    · rw [if_neg h1] at h
      rw [← h]; exact hb
theorem enter_marks {b : Book} {n : Str} {l : List Str} {N : Nat} (hN : 93 ≤ N) (hb : nMarks b ≤ N) : nMarks (enterB b n l).1 ≤ N :=
  out_marks hN hb (enter_book b n l) (fun h => enter_ok (enter_zero h))
theorem ask_marks {b : Book} {n : Str} {l : List Str} {N : Nat} (hN : 93 ≤ N) (hb : nMarks b ≤ N) : nMarks (askB b n l).1 ≤ N :=
  out_marks hN hb (ask_book b n l) (fun h => ask_ok (ask_zero h).1)
theorem less_marks {b : Book} {n : Str} {l : List Str} {N : Nat} (hN : 93 ≤ N) (hb : nMarks b ≤ N) : nMarks (lessB b n l).1 ≤ N :=
  out_marks hN hb (less_book b n l) (fun h => less_ok (less_zero h).1)
theorem leave_marks {b : Book} {n : Str} {N : Nat} (hN : 93 ≤ N) (hb : nMarks b ≤ N) : nMarks (leaveB b n).1 ≤ N :=
  out_marks hN hb (leave_book b n) (fun h => leave_ok (leave_zero h).1)

theorem OB.far {w w' : World} {base : Nat} {v1 v2 : Value} {rs : List Row} {b : Book} (h : OB w base v1 v2 rs b) {row : Option Nat} (g : w.grownBy w' row) (hr : ∀ k, row = some k → k < base) : OB w' base v1 v2 rs b :=
  ⟨h.ot.far g hr, h.st, own_far h.ob g hr, h.ow.far g hr, h.di⟩
theorem Rec.mid {w w' : World} {lo hi X : Nat} {t : TypeId} {l : List Value} (h : Rec w X t l) (m : Mid lo hi w w') (hX : X < lo ∨ hi ≤ X) : Rec w' X t l := (m.block X h.lt hX).trans h
theorem RowN.mid {w w' : World} {lo hi b n : Nat} (h : RowN w b n) (m : Mid lo hi w w') (hX : b < lo ∨ hi ≤ b) : RowN w' b n := by
  obtain ⟨f, hf⟩ := h
  exact ⟨f, hf.of_block (m.block b hf.lt hX)⟩

/-- What the exact law of one of the four holds while it goes: the specification's answer, the argument's box, the answer's box, the answer. -/
structure LSt (P3 P4 P5 P6 x1 x2 : Nat) (b B : Book) (s1 s2 g1 g2 : Option Addr) (t1 t2 e1 e2 : Nat) (rs : List Row) (w3 wk : World) : Prop where
  ext : Ext w3 wk
  r0 : Rec wk P3 26 [.slice s1 B.things.length t1, .slice s2 B.batches.length t2]
  rx : Rec wk P4 26 [.slice (some ⟨x1, 0, none⟩) b.things.length b.things.length, .slice (some ⟨x2, 0, none⟩) b.batches.length b.batches.length]
  rg : Rec wk P6 26 [.slice g1 B.things.length e1, .slice g2 B.batches.length e2]
  ob : OB wk P5 (.slice g1 B.things.length e1) (.slice g2 B.batches.length e2) rs B
section
variable {P3 P4 P5 P6 x1 x2 : Nat} {b B : Book} {s1 s2 g1 g2 : Option Addr} {t1 t2 e1 e2 : Nat} {rs : List Row} {w3 wk wl : World}
theorem LSt.next (h : LSt P3 P4 P5 P6 x1 x2 b B s1 s2 g1 g2 t1 t2 e1 e2 rs w3 wk) (e : Ext wk wl) : LSt P3 P4 P5 P6 x1 x2 b B s1 s2 g1 g2 t1 t2 e1 e2 rs w3 wl :=
  ⟨Ext.tr h.ext e, h.r0.ext e, h.rx.ext e, h.rg.ext e, h.ob.ext e⟩
theorem LSt.mid {lo hi : Nat} (h : LSt P3 P4 P5 P6 x1 x2 b B s1 s2 g1 g2 t1 t2 e1 e2 rs w3 wk) (m : Mid lo hi wk wl) (h1 : w3.heap.size ≤ lo) (h2 : P3 < lo) (h3 : hi ≤ P4) (h4 : hi ≤ P5) (h5 : hi ≤ P6) (h6 : lo ≤ wk.heap.size) : LSt P3 P4 P5 P6 x1 x2 b B s1 s2 g1 g2 t1 t2 e1 e2 rs w3 wl :=
  ⟨Below.trans h.ext ((m.below h6).mono h1), h.r0.mid m (Or.inl h2), h.rx.mid m (Or.inr h3), h.rg.mid m (Or.inr h5), h.ob.mid m h4⟩
theorem LSt.gb {X : Nat} (h : LSt P3 P4 P5 P6 x1 x2 b B s1 s2 g1 g2 t1 t2 e1 e2 rs w3 wk) (g : wk.grownBy wl (some X)) (h1 : w3.heap.size ≤ X) (h2 : P3 < X) (h3 : P4 < X) (h4 : X < P5) (h5 : X < P6) : LSt P3 P4 P5 P6 x1 x2 b B s1 s2 g1 g2 t1 t2 e1 e2 rs w3 wl :=
  ⟨h.ext.grown g h.ext.size (fun k hk => by cases hk; exact h1), h.r0.kept g (fun e => by cases e; omega), h.rx.kept g (fun e => by cases e; omega), h.rg.kept g (fun e => by cases e; omega), h.ob.far g (fun k hk => by cases hk; exact h4)⟩
theorem LSt.at (h : LSt P3 P4 P5 P6 x1 x2 b B s1 s2 g1 g2 t1 t2 e1 e2 rs w3 wk) (hn : B.batches.length ≤ 2199023255552) : BookAt wk g1 g2 B := own_book_at h.ob.ot h.ob.st h.ob.bs hn
end
theorem markBook_lens (B : Book) (k : Nat) : (markBook B k).things.length = B.things.length ∧ (markBook B k).batches.length = B.batches.length := ⟨marksOf_length _ _, markTo_length _ _ _⟩
theorem OB.marked {w : World} {base k : Nat} {a1 a2 : Option Addr} {c1 c2 : Nat} {rs : List Row} {B : Book} (h : OB w base (.slice a1 B.things.length c1) (.slice a2 B.batches.length c2) rs (markBook B k)) (hn : B.batches.length ≤ 2199023255552) : BookAt w a1 a2 (markBook B k) := by
  obtain ⟨l1, l2⟩ := markBook_lens B k
  rw [← l1, ← l2] at h
  rw [← l2] at hn
  exact own_book_at h.ot h.st h.bs hn
end Go.Proofs.YtdafpnpfcmgfcaaGreatDoor
namespace Go.Proofs.YtdafpnpfcmgfcaaGreatDoor

def CanN (b : Book) (x : Str) (l : List Str) : Prop := ∀ X ∈ b.batches, X.name = x → ∀ Y ∈ b.batches, Y.name ≠ x → Y.name ∉ l → ∀ t ∈ Y.has, t ∉ X.needs
structure Fit (b : Book) (o : List Str) : Prop where
  all : ∀ x ∈ namesOf b.batches, x ∈ o
  only : ∀ x ∈ o, x ∈ namesOf b.batches
  nodup : o.Nodup
  can : ∀ l x r, o = l ++ x :: r → CanN b x l

theorem names_nodup {b : Book} (h : bookOk b = true) : (namesOf b.batches).Nodup := by
  have h1 := ok_names h
  exact h1.imp (fun {x y} hxy e => by rw [e, LtS, less_irrefl] at hxy; cases hxy)
theorem name_uniq {b : Book} (h : bookOk b = true) {i j : Nat} (hi : i < b.batches.length) (hj : j < b.batches.length) (e : (nthB b.batches i).name = (nthB b.batches j).name) : i = j := by
  rcases Nat.lt_trichotomy i j with hlt | rfl | hlt
  · have := asc_nth (ok_names h) hlt (by rw [namesOf_length]; exact hj)
    rw [nth_namesOf hi, nth_namesOf hj, e, less_irrefl] at this; cases this
  · rfl
  · have := asc_nth (ok_names h) hlt (by rw [namesOf_length]; exact hi)
    rw [nth_namesOf hi, nth_namesOf hj, e, less_irrefl] at this; cases this
theorem mem_nthB {bs : List Batch} {X : Batch} (h : X ∈ bs) : ∃ i, i < bs.length ∧ nthB bs i = X := by
  obtain ⟨i, hi, e⟩ := List.getElem_of_mem h
  exact ⟨i, hi, by rw [nthB_get hi, e]⟩
theorem nthB_mem {bs : List Batch} {i : Nat} (h : i < bs.length) : nthB bs i ∈ bs := by rw [nthB_get h]; exact List.getElem_mem h
theorem can_iff {b : Book} {p : Nat} {l : List Str} (hok : bookOk b = true) (hp : p < b.batches.length) : canB b p l = true ↔ CanN b (nthB b.batches p).name l := by
  constructor
  · intro h X hX hXn Y hY hYn hYl t ht hn
    obtain ⟨i, hi, rfl⟩ := mem_nthB hY
    obtain ⟨q, hq, rfl⟩ := mem_nthB hX
    have e := name_uniq hok hq hp hXn
    subst e
    have hip : i ≠ q := fun e => hYn (by rw [e])
    have h1 := allLt_true.1 h i hi
    have hc : clash b q l i = true := by
      unfold clash
      have e1 : hasB l (b.at i).name = false := by rw [← Bool.not_eq_true, hasB_true]; exact hYl
      have e2 : shareB (b.at i).has (b.at q).needs = true := (shareB_true).2 ⟨t, ht, hn⟩
      rw [e1, e2]; simp [hip]
    rw [hc] at h1; cases h1
  · intro h
    refine canB_yes (fun i hi => ?_)
    cases hc : clash b p l i
    · rfl
    · unfold clash at hc
      simp only [Bool.and_eq_true, Bool.not_eq_true', decide_eq_false_iff_not] at hc
      obtain ⟨⟨h1, h2⟩, h3⟩ := hc
      obtain ⟨t, ht, hn⟩ := shareB_true.1 h3
      rw [← Bool.not_eq_true, hasB_true] at h2
      exact absurd hn (h _ (nthB_mem hp) rfl _ (nthB_mem hi) (fun e => h1 (name_uniq hok hi hp e)) h2 t ht)

theorem safe_iff {b : Book} (hok : bookOk b = true) : safeB b = true ↔ ∃ o, Fit b o := by
  constructor
  · intro hs
    obtain ⟨_, hl, hv⟩ := fits_parts (order_fits hs)
    have hn := valid_nodup hv
    have honly : ∀ x ∈ orderL b, x ∈ namesOf b.batches := fun x hx => by
      obtain ⟨i, hi, e⟩ := List.getElem_of_mem hx
      have := (step_parts (hv i hi)).1
      rw [nth_get hi, e, ← namesOf_length] at this
      exact place_lt.1 this
    refine ⟨orderL b, fun x hx => ?_, honly, hn, fun l x r e => ?_⟩
    · by_cases hm : x ∈ orderL b
      · exact hm
      · have h1 : (x :: orderL b).Nodup := List.nodup_cons.2 ⟨hm, hn⟩
        have h2 := h1.length_le_of_subset (l₂ := namesOf b.batches) (fun y hy => by
          rw [List.mem_cons] at hy
          rcases hy with rfl | hy
          · exact hx
          · exact honly y hy)
        rw [List.length_cons, namesOf_length] at h2
        omega
    · have hi : l.length < (orderL b).length := by rw [e]; simp
      have hnth : nth (orderL b) l.length = x := by rw [nth_get hi]; simp [e]
      have ht : (orderL b).take l.length = l := by rw [e]; simp
      obtain ⟨h1, h2, h3⟩ := step_parts (hv l.length hi)
      rw [hnth, ht] at h3
      rw [hnth] at h1
      have hx : x ∈ namesOf b.batches := honly x (by rw [e]; simp)
      have e2 : (nthB b.batches (place (namesOf b.batches) x)).name = x := by
        rw [← nth_namesOf h1]; exact place_nth hx
      have := (can_iff hok h1).1 h3
      rwa [e2] at this
  · rintro ⟨o, hf⟩
    have hl : o.length = b.batches.length := by
      have h1 := hf.nodup.length_le_of_subset (l₂ := namesOf b.batches) (fun x hx => hf.only x hx)
      have h2 := (names_nodup hok).length_le_of_subset (l₂ := o) (fun x hx => hf.all x hx)
      rw [namesOf_length] at h1 h2
      omega
    refine fits_safe (fitsB_yes hok hl (fun i hi => ?_))
    have hx : nth o i ∈ namesOf b.batches := hf.only _ (by rw [nth_get hi]; exact List.getElem_mem hi)
    have h1 : place (namesOf b.batches) (nth o i) < b.batches.length := by rw [← namesOf_length]; exact place_lt.2 hx
    have e : o = o.take i ++ nth o i :: o.drop (i + 1) := by
      rw [nth_get hi, List.getElem_cons_drop, List.take_append_drop]
    have e2 : (nthB b.batches (place (namesOf b.batches) (nth o i))).name = nth o i := by
      rw [← nth_namesOf h1]; exact place_nth hx
    have h3 := hf.can _ _ _ e
    have hc : canB b (place (namesOf b.batches) (nth o i)) (o.take i) = true := (can_iff hok h1).2 (by rw [e2]; exact h3)
    have hb : hasB (o.take i) (nth o i) = false := by
      rw [← Bool.not_eq_true, hasB_true]
      intro hm
      have hn := hf.nodup
      rw [e, List.nodup_append] at hn
      exact (hn.2.2 _ hm _ (by simp)) rfl
    unfold stepB
    rw [hb, hc]
    simp [h1]

theorem Fit.less {b b' : Book} {o : List Str} (h : Fit b o) (hn : namesOf b'.batches = namesOf b.batches)
    (hs : ∀ X' ∈ b'.batches, ∃ X ∈ b.batches, X.name = X'.name ∧ (∀ t ∈ X'.has, t ∈ X.has) ∧ ∀ t ∈ X'.needs, t ∈ X.needs) : Fit b' o := by
  refine ⟨fun x hx => h.all x (by rw [← hn]; exact hx), fun x hx => by rw [hn]; exact h.only x hx, h.nodup, fun l x r e X' hX' hXn Y' hY' hYn hYl t ht hne => ?_⟩
  obtain ⟨X, hX, e1, _, e3⟩ := hs X' hX'
  obtain ⟨Y, hY, f1, f2, _⟩ := hs Y' hY'
  exact h.can l x r e X hX (e1.trans hXn) Y hY (by rw [f1]; exact hYn) (by rw [f1]; exact hYl) t (f2 t ht) (e3 t hne)
theorem Fit.out {b b' : Book} {o : List Str} {n : Str} (h : Fit b o) (hs : ∀ X ∈ b'.batches, X ∈ b.batches) (hn : ∀ x, x ∈ namesOf b'.batches ↔ x ∈ namesOf b.batches ∧ x ≠ n) : Fit b' (o.filter (fun x => x != n)) := by
  refine ⟨fun x hx => ?_, fun x hx => ?_, h.nodup.filter _, fun l x r e X hX hXn Y hY hYn hYl t ht hne => ?_⟩
  · obtain ⟨h1, h2⟩ := (hn x).1 hx
    exact List.mem_filter.2 ⟨h.all x h1, by simpa using h2⟩
  · obtain ⟨h1, h2⟩ := List.mem_filter.1 hx
    exact (hn x).2 ⟨h.only x h1, by simpa using h2⟩
  · obtain ⟨l1, l2, e1, e2, e3⟩ := List.filter_eq_append_iff.1 e
    obtain ⟨m1, m2, f1, f2, f3, f4⟩ := List.filter_eq_cons_iff.1 e3
    have hYm : Y.name ∈ namesOf b'.batches := List.mem_map.2 ⟨Y, hY, rfl⟩
    have hYne := ((hn _).1 hYm).2
    refine h.can (l1 ++ m1) x m2 (by rw [e1, f1]; simp) X (hs X hX) hXn Y (hs Y hY) hYn (fun hm => ?_) t ht hne
    rw [List.mem_append] at hm
    rcases hm with hm | hm
    · exact hYl (by rw [← e2]; exact List.mem_filter.2 ⟨hm, by simpa using hYne⟩)
    · exact f2 _ hm (by simpa using hYne)
theorem Fit.into {b b' : Book} {o : List Str} {x0 : Batch} (h : Fit b o) (hm : ∀ X, X ∈ b'.batches ↔ X ∈ b.batches ∨ X = x0) (h0 : x0.has = []) (hn : x0.name ∉ namesOf b.batches) : Fit b' (o ++ [x0.name]) := by
  have hno : x0.name ∉ o := fun hx => hn (h.only _ hx)
  refine ⟨fun x hx => ?_, fun x hx => ?_, ?_, fun l x r e X hX hXn Y hY hYn hYl t ht hne => ?_⟩
  · obtain ⟨X, hX, rfl⟩ := List.mem_map.1 hx
    rcases (hm X).1 hX with h1 | rfl
    · exact List.mem_append.2 (Or.inl (h.all _ (List.mem_map.2 ⟨X, h1, rfl⟩)))
    · simp
  · rw [List.mem_append, List.mem_singleton] at hx
    rcases hx with hx | rfl
    · obtain ⟨X, hX, rfl⟩ := List.mem_map.1 (h.only x hx)
      exact List.mem_map.2 ⟨X, (hm X).2 (Or.inl hX), rfl⟩
    · exact List.mem_map.2 ⟨x0, (hm x0).2 (Or.inr rfl), rfl⟩
  · rw [List.nodup_append]
    exact ⟨h.nodup, by simp, fun a ha c hc e' => by rw [List.mem_singleton] at hc; subst hc; rw [e'] at ha; exact hno ha⟩
  · rcases (hm Y).1 hY with hYb | rfl
    · rcases List.eq_nil_or_concat r with rfl | ⟨r', z, rfl⟩
      · obtain ⟨e1, e2⟩ := List.append_inj' e (by simp)
        subst e1
        exact hYl (h.all _ (List.mem_map.2 ⟨Y, hYb, rfl⟩))
      · have e' : o ++ [x0.name] = (l ++ x :: r') ++ [z] := by rw [e]; simp
        obtain ⟨e1, e2⟩ := List.append_inj' e' (by simp)
        have hxo : x ∈ o := by rw [e1]; simp
        rcases (hm X).1 hX with hXb | rfl
        · exact h.can l x r' e1 X hXb hXn Y hYb hYn hYl t ht hne
        · exact hno (by rw [hXn]; exact hxo)
    · rw [h0] at ht; cases ht

theorem less_safe {b : Book} {n : Str} {needs : List Str} (h0 : (lessB b n needs).2 = 0) (hs : safeB b = true) : safeB (lessB b n needs).1 = true := by
  obtain ⟨hok, hh⟩ := less_zero h0
  have hok' := less_ok (n := n) (needs := needs) hok
  have hb := less_book b n needs
  rw [if_pos h0] at hb
  rw [← hb] at hok' ⊢
  have hk := where_lt hh
  have hnn : namesOk needs (b.at (whereB b n)).needs = true := by
    cases hq : namesOk needs (b.at (whereB b n)).needs
    · unfold lessB at h0; rw [if_neg (by simp [hok]), if_neg (by simp [hh]), if_pos hq] at h0; cases h0
    · rfl
  obtain ⟨o, hf⟩ := (safe_iff hok).1 hs
  refine (safe_iff hok').2 ⟨o, hf.less ?_ (fun X' hX' => ?_)⟩
  · show namesOf (b.batches.set _ _) = _
    unfold namesOf
    rw [List.map_set]
    apply List.ext_getElem?
    intro i
    rw [List.getElem?_set]
    by_cases e : whereB b n = i
    · subst e
      have e2 : b.at (whereB b n) = b.batches[whereB b n] := nthB_get hk
      simp [hk, e2]
    · rw [if_neg e]
  · rcases List.mem_or_eq_of_mem_set hX' with h1 | rfl
    · exact ⟨X', h1, rfl, fun _ h => h, fun _ h => h⟩
    · exact ⟨b.at (whereB b n), nthB_mem hk, rfl, fun t ht => (List.mem_filter.1 ht).1, fun t ht => namesOk_sub hnn t ht⟩
theorem leave_len {b : Book} {n : Str} (h0 : (leaveB b n).2 = 0) : (leaveB b n).1.batches.length + 1 = b.batches.length := by
  obtain ⟨_, hh⟩ := leave_zero h0
  have hb := leave_book b n
  rw [if_pos h0] at hb
  rw [← hb]
  have hk := where_lt hh
  show (b.batches.take _ ++ b.batches.drop _).length + 1 = _
  rw [List.length_append, List.length_take, List.length_drop]; omega
theorem leave_safe {b : Book} {n : Str} (h0 : (leaveB b n).2 = 0) (hs : safeB b = true) : safeB (leaveB b n).1 = true := by
  obtain ⟨hok, hh⟩ := leave_zero h0
  have hok' := leave_ok (n := n) hok
  have hb := leave_book b n
  rw [if_pos h0] at hb
  rw [← hb] at hok' ⊢
  have hk := where_lt hh
  have hkn : (nthB b.batches (whereB b n)).name = n := by
    rw [← nth_namesOf hk]; exact place_nth (hasB_true.1 hh)
  have hmem : ∀ X, X ∈ b.batches.take (whereB b n) ++ b.batches.drop (whereB b n + 1) → X ∈ b.batches ∧ X.name ≠ n := fun X hX => by
    obtain ⟨i, hi, hne, e⟩ : ∃ i, i < b.batches.length ∧ i ≠ whereB b n ∧ nthB b.batches i = X := by
      rw [List.mem_append] at hX
      rcases hX with hX | hX
      · obtain ⟨i, hi, e⟩ := List.mem_take_iff_getElem.1 hX
        rw [Nat.lt_min] at hi
        exact ⟨i, hi.2, by omega, by rw [nthB_get hi.2, e]⟩
      · obtain ⟨i, hi, e⟩ := List.getElem_of_mem hX
        rw [List.getElem_drop] at e
        rw [List.length_drop] at hi
        exact ⟨whereB b n + 1 + i, by omega, by omega, by rw [nthB_get (by omega), e]⟩
    refine ⟨by rw [← e]; exact nthB_mem hi, fun en => hne (name_uniq hok hi hk (by rw [e, en, hkn]))⟩
  obtain ⟨o, hf⟩ := (safe_iff hok).1 hs
  refine (safe_iff hok').2 ⟨_, hf.out (n := n) (fun X hX => (hmem X hX).1) (fun x => ⟨fun hx => ?_, fun hx => ?_⟩)⟩
  · obtain ⟨X, hX, rfl⟩ := List.mem_map.1 hx
    exact ⟨List.mem_map.2 ⟨X, (hmem X hX).1, rfl⟩, (hmem X hX).2⟩
  · obtain ⟨X, hX, e⟩ := List.mem_map.1 hx.1
    refine List.mem_map.2 ⟨X, ?_, e⟩
    obtain ⟨i, hi, ei⟩ := mem_nthB hX
    have hne : i ≠ whereB b n := fun e' => hx.2 (by rw [← e, ← ei, e', hkn])
    show X ∈ b.batches.take _ ++ b.batches.drop _
    rw [List.mem_append]
    rcases Nat.lt_or_gt_of_ne hne with hlt | hgt
    · exact Or.inl (List.mem_take_iff_getElem.2 ⟨i, by rw [Nat.lt_min]; exact ⟨hlt, hi⟩, by rw [← nthB_get hi, ei]⟩)
    · refine Or.inr (List.mem_of_getElem? (i := i - (whereB b n + 1)) ?_)
      rw [List.getElem?_drop, show whereB b n + 1 + (i - (whereB b n + 1)) = i by omega, List.getElem?_eq_getElem hi, ← nthB_get hi, ei]
theorem ins_mem {bs : List Batch} {x X : Batch} : X ∈ insB bs x ↔ X ∈ bs ∨ X = x := by
  unfold insB
  rw [List.mem_append, List.mem_append, List.mem_singleton]
  constructor
  · rintro ((h | h) | h)
    · exact Or.inl (List.mem_of_mem_take h)
    · exact Or.inr h
    · exact Or.inl (List.mem_of_mem_drop h)
  · rintro (h | h)
    · rw [← List.take_append_drop (leadB bs x.name) bs, List.mem_append] at h
      rcases h with h | h
      · exact Or.inl (Or.inl h)
      · exact Or.inr h
    · exact Or.inl (Or.inr h)
theorem enter_new {b : Book} {n : Str} {needs : List Str} (h0 : (enterB b n needs).2 = 0) : n ∉ namesOf b.batches := by
  intro hm
  have hh : hereB b n = true := hasB_true.2 hm
  have hok := enter_zero h0
  unfold enterB at h0
  rw [if_neg (by simp [hok])] at h0
  by_cases h2 : nameOk n = false ∨ namesOk needs b.things = false
  · rw [if_pos h2] at h0; cases h0
  · rw [if_neg h2, if_pos hh] at h0; cases h0
theorem enter_len {b : Book} {n : Str} {needs : List Str} (h0 : (enterB b n needs).2 = 0) : (enterB b n needs).1.batches.length = b.batches.length + 1 := by
  have hb := enter_book b n needs
  rw [if_pos h0] at hb
  rw [← hb]
  show (insB _ _).length = _
  unfold insB
  have := lead_le (fun y : Batch => Op.bytesLess y.name n) b.batches
  rw [List.length_append, List.length_append, List.length_take, List.length_drop, List.length_singleton]
  have e : leadB b.batches n = leadP (fun y : Batch => Op.bytesLess y.name n) b.batches := rfl
  show min (leadB b.batches n) _ + 1 + (_ - leadB b.batches n) = _
  omega
theorem enter_safe {b : Book} {n : Str} {needs : List Str} (h0 : (enterB b n needs).2 = 0) : safeB (enterB b n needs).1 = safeB b := by
  have hok := enter_zero h0
  have hok' := enter_ok (n := n) (needs := needs) hok
  have hnew := enter_new h0
  have hb := enter_book b n needs
  rw [if_pos h0] at hb
  rw [← hb] at hok' ⊢
  have hmem : ∀ X, X ∈ insB b.batches ⟨n, [], needs⟩ ↔ X ∈ b.batches ∨ X = ⟨n, [], needs⟩ := fun X => ins_mem
  rw [Bool.eq_iff_iff, safe_iff hok, safe_iff hok']
  constructor
  · rintro ⟨o, hf⟩
    refine ⟨_, hf.out (n := n) (fun X hX => (hmem X).2 (Or.inl hX)) (fun x => ⟨fun hx => ⟨?_, fun e => hnew (by rw [← e]; exact hx)⟩, fun hx => ?_⟩)⟩
    · obtain ⟨X, hX, e⟩ := List.mem_map.1 hx
      exact List.mem_map.2 ⟨X, (hmem X).2 (Or.inl hX), e⟩
    · obtain ⟨X, hX, e⟩ := List.mem_map.1 hx.1
      rcases (hmem X).1 hX with h1 | rfl
      · exact List.mem_map.2 ⟨X, h1, e⟩
      · exact absurd e.symm hx.2
  · rintro ⟨o, hf⟩
    exact ⟨_, hf.into (x0 := ⟨n, [], needs⟩) hmem rfl hnew⟩
end Go.Proofs.YtdafpnpfcmgfcaaGreatDoor
