/- Rows that lie apart: what a call's own lists keep while another grows. What an ok book's lists are like. A book stays ok. -/
import Derived.Test.YtdafpnpfcmgfcaaGreatDoorKe26
import Derived.Test.YtdafpnpfcmgfcaaGreatDoorKe27
namespace Go.Proofs.YtdafpnpfcmgfcaaGreatDoor
section
open Go.RowKit
attribute [local go_sem] S_toList S_size S_get
theorem own_far {w w' : World} {base : Nat} {t : TypeId} {z : Nat} {v : Value} {n : Nat} {xs : List Value} (h : w.ownsRow base t z v n xs) {row : Option Nat} (g : w.grownBy w' row) (hr : ∀ k, row = some k → k < base) : w'.ownsRow base t z v n xs := by
 refine World.ownsRow.kept h g ?_
 cases hv : v.ownBlock with
 | none => exact Or.inl rfl
 | some b =>
  refine Or.inr (fun e => ?_)
  have h1 := (h.lt b hv).1
  have h2 := hr b e.symm
  omega
theorem OwnL.far {w w' : World} {base : Nat} {v : Value} {L : List Str} (h : OwnL w base v L) {row : Option Nat} (g : w.grownBy w' row) (hr : ∀ k, row = some k → k < base) : OwnL w' base v L := own_far h g hr
def NE (u v : Value) : Prop := ∀ g, u.ownBlock = some g → v.ownBlock ≠ some g
theorem NE.symm {u v : Value} (h : NE u v) : NE v u := fun g h1 h2 => h g h2 h1
theorem NE.nil (u : Value) : NE u (.slice none 0 0) := fun g _ h => by simp [Value.ownBlock] at h
theorem RowsOwn.mem {w : World} {base : Nat} {rs : List Row} {bs : List Batch} (h : RowsOwn w base rs bs) {r : Row} (hr : r ∈ rs) : ∃ x, OwnL w base r.has x ∧ ∃ y, OwnL w base r.needs y := by
 obtain ⟨i, hi, e⟩ := List.getElem_of_mem hr
 have hx : i < bs.length := by rw [← h.1]; exact hi
 obtain ⟨_, _, e3, _, e5, _⟩ := h.2 i r _ (by rw [List.getElem?_eq_getElem hi, e]) (List.getElem?_eq_getElem hx)
 exact ⟨_, e3, _, e5⟩
theorem NE.older {w : World} {u v : Value} {b1 n1 z1 b2 n2 z2 : Nat} {t1 t2 : TypeId} {xs1 xs2 : List Value} {w' : World} (h1 : w.ownsRow b1 t1 z1 u n1 xs1) (h2 : w'.ownsRow b2 t2 z2 v n2 xs2) (hb : w.heap.size ≤ b2) : NE u v := fun g e1 e2 => by
 have := (h1.lt g e1).2
 have := (h2.lt g e2).1
 omega
theorem wpList_row {ops : Array Oper} {rest : List Oper} {o : Oper} {a : Act} {w : World} {Q : Exit → Act → World → Prop} (hgd : o.guard = none) (s x : Operand)
  (ho : o.op = .call { callee := .builtin .append, args := #[s, x], argTypes := #[24, 24] })
  {base : Nat} {v : Value} {rs : List Row} (hs : a.eval s = v) (hown : w.ownsRow base 73 3 v rs.length (cellsOf rs)) {src : Option Addr} {c : Nat} {r : Row} (hx : a.eval x = .slice src 1 c)
  (hrs : ∀ (j : Nat) u, (cellsOf [r])[j]? = some u → ∃ ad, src = some ad ∧ w.cell? (ad.add j) = some u) (h1 : ∀ u ∈ cellsOf [r], u.oneCell' = true) (hlen : rs.length ≤ 1000000) (hbase : base ≤ w.heap.size)
  (h : ∀ v' w', w'.ownsRow base 73 3 v' (rs ++ [r]).length (cellsOf (rs ++ [r])) → w.grownBy w' v.ownBlock → (v'.ownBlock = v.ownBlock ∨ v'.ownBlock = some w.heap.size) → wpList Qry.prog ops Q rest (a.put o.dst v') w') : wpList Qry.prog ops Q (o :: rest) a w := by
 obtain ⟨i0, hi, hz0, hz1, hz2⟩ := info_batch
 refine wpList_plain hgd fun _ hK => wp_app w s x 24 ho base 73 i0 _ 3 64 (uQ Tryz.underlying24) hi hz0 hz1 hz2 rfl (by decide) v _ _ hs hown src 1 c (cellsOf [r]) hx (by rw [cellsOf_length]; rfl) hrs h1 (by unfold maxLen; omega) (by omega) hbase (fun v' w' g2 g3 g4 => hK _ _ (h v' w' ?_ g3 g4))
 rw [cellsOf_append, List.length_append]; exact g2
theorem own_shape3 {w : World} {base : Nat} {t : TypeId} {z : Nat} {v : Value} {n : Nat} {xs : List Value} (h : w.ownsRow base t z v n xs) : ∃ a c, v = .slice a n c := by
 rcases h.2 with ⟨rfl, h0⟩ | ⟨g, cap, cur, rfl, _⟩
 ·exact ⟨none, 0, by rw [h0]⟩
 ·exact ⟨_, cap, rfl⟩
theorem row_one {w : World} {base : Nat} {r : Row} {x : Batch} (h : RowOwn w base r x) : ∀ u ∈ cellsOf [r], u.oneCell' = true := by
 intro u hu
 obtain ⟨_, _, e3, e4, e5, e6⟩ := h
 obtain ⟨a1, c1, f1, _⟩ := e3.at' e4
 obtain ⟨a2, c2, f2, _⟩ := e5.at' e6
 simp only [cellsOf, List.flatMap_cons, List.flatMap_nil, List.append_nil, Row.cells, List.mem_cons, List.not_mem_nil, or_false] at hu
 rcases hu with rfl | rfl | rfl
 ·rfl
 ·rw [f1]; rfl
 ·rw [f2]; rfl
def allV (rs : List Row) : List Value := rs.flatMap fun r => [r.has, r.needs]
theorem allV_snoc (rs : List Row) (r : Row) : allV (rs ++ [r]) = allV rs ++ [r.has, r.needs] := by simp [allV]
theorem mem_allV {rs : List Row} {r : Row} (h : r ∈ rs) : r.has ∈ allV rs ∧ r.needs ∈ allV rs := by
 constructor
 ·exact List.mem_flatMap.2 ⟨r, h, by simp⟩
 ·exact List.mem_flatMap.2 ⟨r, h, by simp⟩
def Dis (v1 : Value) (rs : List Row) : Prop := (allV rs).Pairwise NE ∧ ∀ v ∈ allV rs, NE v1 v
theorem Dis.snoc {v1 : Value} {rs : List Row} {r : Row} (h : Dis v1 rs) (h1 : ∀ v ∈ allV rs, NE v r.has ∧ NE v r.needs) (h2 : NE r.has r.needs) (h3 : NE v1 r.has ∧ NE v1 r.needs) : Dis v1 (rs ++ [r]) := by
 refine ⟨?_, fun v hv => ?_⟩
 ·rw [allV_snoc, List.pairwise_append]
  refine ⟨h.1, by simp [h2], fun a ha b hb => ?_⟩
  simp only [List.mem_cons, List.not_mem_nil, or_false] at hb
  rcases hb with rfl | rfl
  ·exact (h1 a ha).1
  ·exact (h1 a ha).2
 ·rw [allV_snoc, List.mem_append] at hv
  rcases hv with hv | hv
  ·exact h.2 v hv
  ·simp only [List.mem_cons, List.not_mem_nil, or_false] at hv
   rcases hv with rfl | rfl
   ·exact h3.1
   ·exact h3.2
theorem RowsOwn.memV {w : World} {base : Nat} {rs : List Row} {bs : List Batch} (h : RowsOwn w base rs bs) {v : Value} (hv : v ∈ allV rs) : ∃ L, OwnL w base v L := by
 obtain ⟨r, hr, hv⟩ := List.mem_flatMap.1 hv
 obtain ⟨_, k1, _, k2⟩ := h.mem hr
 simp only [List.mem_cons, List.not_mem_nil, or_false] at hv
 rcases hv with rfl | rfl
 ·exact ⟨_, k1⟩
 ·exact ⟨_, k2⟩
theorem wp_row {o : Oper} {a : Act} {w : World} {K : Act → World → Prop} {Q : Exit → Act → World → Prop} (s x : Operand)
  (ho : o.op = .call { callee := .builtin .append, args := #[s, x], argTypes := #[24, 24] })
  {base : Nat} {v : Value} {rs : List Row} (hs : a.eval s = v) (hown : w.ownsRow base 73 3 v rs.length (cellsOf rs)) {src : Option Addr} {c : Nat} {r : Row} (hx : a.eval x = .slice src 1 c)
  (hrs : ∀ (j : Nat) u, (cellsOf [r])[j]? = some u → ∃ ad, src = some ad ∧ w.cell? (ad.add j) = some u) (h1 : ∀ u ∈ cellsOf [r], u.oneCell' = true) (hlen : rs.length + 1 ≤ 2199023255552) (hbase : base ≤ w.heap.size)
  (h : ∀ v' w', w'.ownsRow base 73 3 v' (rs ++ [r]).length (cellsOf (rs ++ [r])) → w.grownBy w' v.ownBlock → (v'.ownBlock = v.ownBlock ∨ v'.ownBlock = some w.heap.size) → K (a.put o.dst v') w') : o.wp Qry.prog a w K Q := by
 obtain ⟨i0, hi, hz0, hz1, hz2⟩ := info_batch
 refine wp_app w s x 24 ho base 73 i0 _ 3 64 (uQ Tryz.underlying24) hi hz0 hz1 hz2 rfl (by decide) v _ _ hs hown src 1 c (cellsOf [r]) hx (by rw [cellsOf_length]; rfl) hrs h1 (by unfold maxLen; omega) (by omega) hbase (fun v' w' g2 g3 g4 => h v' w' ?_ g3 g4)
 rw [cellsOf_append, List.length_append]; exact g2
end
section
theorem namesOk_sub {l all : List Str} (h : namesOk l all = true) : ∀ x ∈ l, x ∈ all := by
 intro x hx
 obtain ⟨i, hi, e⟩ := List.getElem_of_mem hx
 have h1 := allLt_true.1 h i hi
 rw [Bool.and_eq_true] at h1
 rw [← e, ← nth_get hi]
 exact hasB_true.1 h1.1
theorem namesOk_len {l all : List Str} (h : namesOk l all = true) : l.length ≤ all.length :=
 (asc_nodup (namesOk_asc h)).length_le_of_subset (fun x hx => namesOk_sub h x hx)
theorem ok_parts {b : Book} (h : bookOk b = true) : thingsOk b.things = true ∧ b.batches.length ≤ 5 ∧ ∀ i, i < b.batches.length → batchOk b i = true ∧ ∀ j, j < i → shareB (b.at i).has (b.at j).has = false := by
 unfold bookOk at h
 simp only [Bool.and_eq_true, decide_eq_true_eq] at h
 refine ⟨h.1.1, h.1.2, fun i hi => ?_⟩
 have h1 := allLt_true.1 h.2 i hi
 rw [Bool.and_eq_true] at h1
 refine ⟨h1.1, fun j hj => ?_⟩
 have h2 := allLt_true.1 h1.2 j hj
 simpa using h2
theorem ok_batch {b : Book} (h : bookOk b = true) {i : Nat} (hi : i < b.batches.length) : nameOk (b.at i).name = true ∧ upB b i = true ∧ namesOk (b.at i).needs b.things = true ∧ namesOk (b.at i).has (b.at i).needs = true := by
 have h1 := ((ok_parts h).2.2 i hi).1
 unfold batchOk at h1
 simp only [Bool.and_eq_true] at h1
 exact ⟨h1.1.1.1, h1.1.1.2, h1.1.2, h1.2⟩
theorem nameOk_len {s : Str} (h : nameOk s = true) : s.length ≤ 8 := by
 unfold nameOk at h
 simp only [Bool.and_eq_true, decide_eq_true_eq] at h
 exact h.1.2
theorem things_eight {b : Book} (h : bookOk b = true) : b.things.length ≤ 8 := by
 have h1 := (ok_parts h).1
 unfold thingsOk at h1
 simp only [Bool.and_eq_true, decide_eq_true_eq] at h1
 exact h1.1
theorem ok_lens {b : Book} (h : bookOk b = true) {i : Nat} (hi : i < b.batches.length) : (b.at i).needs.length ≤ 8 ∧ (b.at i).has.length ≤ 8 ∧ (b.at i).name.length ≤ 8 := by
 obtain ⟨h1, h2, h3, h4⟩ := ok_batch h hi
 have k1 := namesOk_len h3
 have k2 := namesOk_len h4
 have k3 := things_eight h
 exact ⟨by omega, by omega, nameOk_len h1⟩
end
section
abbrev LtS (a b : Str) : Prop := Op.bytesLess a b = true
theorem less_tri : ∀ {a b : Str}, a ≠ b → Op.bytesLess a b = false → LtS b a
 | [], [], h, _ => absurd rfl h
 | [], _ :: _, _, h => by simp [Op.bytesLess] at h
 | _ :: _, [], _, _ => by simp [LtS, Op.bytesLess]
 | x :: a, y :: b, hne, h => by
  have ih := @less_tri a b
  simp only [LtS, Op.bytesLess, Bool.or_eq_true, Bool.and_eq_true, decide_eq_true_eq, beq_iff_eq, Bool.or_eq_false_iff, decide_eq_false_iff_not] at *
  obtain ⟨h1, h2⟩ := h
  by_cases e : x = y
  ·subst e
   refine Or.inr ⟨rfl, ih (fun e => hne (by rw [e])) ?_⟩
   simpa using h2
  ·refine Or.inl ?_
   rw [UInt8.lt_iff_toNat_lt] at *
   have hx : x.toNat ≠ y.toNat := fun h => e (UInt8.toNat_inj.1 h)
   omega
theorem asc_iff {l : List Str} : ascB l = true ↔ l.Pairwise LtS := by
 rw [List.pairwise_iff_getElem]
 constructor
 ·intro h i j hi hj hij
  have := asc_less h hij hj
  rwa [nth_get hi, nth_get hj] at this
 ·intro h
  refine allLt_of (fun i hi => ?_)
  unfold up
  by_cases e : i = 0
  ·simp [e]
  ·have := h (i - 1) i (by omega) hi (by omega)
   rw [nth_get (by omega : i - 1 < l.length), nth_get hi]
   simp [this]
theorem namesOk_iff {l all : List Str} : namesOk l all = true ↔ l.Pairwise LtS ∧ ∀ x ∈ l, x ∈ all := by
 constructor
 ·exact fun h => ⟨asc_iff.1 (namesOk_asc h), namesOk_sub h⟩
 ·rintro ⟨h1, h2⟩
  have h1' := asc_iff.2 h1
  refine allLt_of (fun i hi => ?_)
  rw [Bool.and_eq_true]
  exact ⟨hasB_true.2 (h2 _ (by rw [nth_get hi]; exact List.getElem_mem hi)), allLt_true.1 h1' i hi⟩
abbrev NameLt (x y : Batch) : Prop := LtS x.name y.name
abbrev Apart (x y : Batch) : Prop := ∀ t ∈ x.has, t ∉ y.has
structure OkP (b : Book) : Prop where
 things : thingsOk b.things = true
 five : b.batches.length ≤ 5
 each : ∀ x ∈ b.batches, nameOk x.name = true ∧ namesOk x.needs b.things = true ∧ namesOk x.has x.needs = true
 names : b.batches.Pairwise NameLt
 apart : b.batches.Pairwise Apart
theorem names_asc {b : Book} (h : ∀ i, i < b.batches.length → upB b i = true) : ascB (namesOf b.batches) = true := by
 refine allLt_of (fun i hi => ?_)
 rw [namesOf_length] at hi
 have h1 := h i hi
 unfold upB at h1
 unfold up
 have e1 : ∀ j, j < b.batches.length → nth (namesOf b.batches) j = (b.at j).name := fun j hj => by
  rw [nth_get (by rw [namesOf_length]; exact hj), Book.at, nthB_get hj]; simp [namesOf]
 by_cases e : i = 0
 ·simp [e]
 ·rw [e1 (i - 1) (by omega), e1 i hi]; exact h1
theorem ok_iff {b : Book} : bookOk b = true ↔ OkP b := by
 constructor
 ·intro h
  have hp := ok_parts h
  refine ⟨hp.1, hp.2.1, fun x hx => ?_, ?_, ?_⟩
  ·obtain ⟨i, hi, e⟩ := List.getElem_of_mem hx
   obtain ⟨h1, _, h3, h4⟩ := ok_batch h hi
   rw [Book.at, nthB_get hi, e] at h1 h3 h4
   exact ⟨h1, h3, h4⟩
  ·have ha := asc_iff.1 (names_asc (fun i hi => (ok_batch h hi).2.1))
   rw [namesOf, List.pairwise_map] at ha
   exact ha
  ·rw [List.pairwise_iff_getElem]
   intro i j hi hj hij t h1 h2
   have hs := (hp.2.2 j hj).2 i hij
   rw [shareB_false] at hs
   simp only [Book.at] at hs
   rw [nthB_get hi, nthB_get hj] at hs
   exact hs t h2 h1
 ·intro h
  unfold bookOk
  simp only [Bool.and_eq_true, decide_eq_true_eq]
  refine ⟨⟨h.things, h.five⟩, allLt_of (fun i hi => ?_)⟩
  have he := h.each _ (List.getElem_mem hi)
  rw [Bool.and_eq_true]
  constructor
  ·unfold batchOk
   simp only [Bool.and_eq_true, Book.at, nthB_get hi]
   refine ⟨⟨⟨he.1, ?_⟩, he.2.1⟩, he.2.2⟩
   unfold upB
   by_cases e : i = 0
   ·simp [e]
   ·have := (List.pairwise_iff_getElem.1 h.names) (i - 1) i (by omega) hi (by omega)
    simp only [Book.at]
    rw [nthB_get (by omega : i - 1 < b.batches.length), nthB_get hi]
    simp [this]
  ·refine allLt_of (fun j hj => ?_)
   rw [Bool.not_eq_true', shareB_false]
   simp only [Book.at]
   rw [nthB_get hi, nthB_get (by omega : j < b.batches.length)]
   intro t h1 h2
   exact (List.pairwise_iff_getElem.1 h.apart) j i (by omega) hi hj t h2 h1
theorem lead_le {α : Type} (p : α → Bool) (l : List α) : leadP p l ≤ l.length := (List.takeWhile_prefix p).length_le
theorem lead_all {α : Type} (p : α → Bool) : ∀ (l : List α) (x : α), x ∈ l.take (leadP p l) → p x = true
 | [], x, h => by simp at h
 | y :: l, x, h => by
  unfold leadP at h
  rw [List.takeWhile_cons] at h
  split at h
  ·rename_i hy
   rw [List.length_cons, List.take_succ_cons, List.mem_cons] at h
   rcases h with rfl | h
   ·exact hy
   ·exact lead_all p l x h
  ·simp at h
theorem lead_next {α : Type} (p : α → Bool) : ∀ (l : List α) (x : α), l[leadP p l]? = some x → p x = false
 | [], x, h => by simp at h
 | y :: l, x, h => by
  unfold leadP at h
  rw [List.takeWhile_cons] at h
  split at h
  ·rw [List.length_cons, List.getElem?_cons_succ] at h
   exact lead_next p l x h
  ·rename_i hy
   simp at h; subst h
   simpa using hy
theorem ins_sorted {α : Type} (key : α → Str) {l : List α} {x : α} (h : l.Pairwise fun a b => LtS (key a) (key b)) (hne : ∀ y, l[leadP (fun y => Op.bytesLess (key y) (key x)) l]? = some y → key y ≠ key x) :
  (l.take (leadP (fun y => Op.bytesLess (key y) (key x)) l) ++ [x] ++ l.drop (leadP (fun y => Op.bytesLess (key y) (key x)) l)).Pairwise fun a b => LtS (key a) (key b) := by
 have hk := lead_le (fun y => Op.bytesLess (key y) (key x)) l
 have h1 := lead_all (fun y => Op.bytesLess (key y) (key x)) l
 have h2 := lead_next (fun y => Op.bytesLess (key y) (key x)) l
 generalize leadP (fun y => Op.bytesLess (key y) (key x)) l = k at *
 have hpa : (l.take k ++ l.drop k).Pairwise fun a b => LtS (key a) (key b) := by rw [List.take_append_drop]; exact h
 rw [List.pairwise_append] at hpa
 have hd : ∀ y ∈ l.drop k, LtS (key x) (key y) := by
  intro y hy
  obtain ⟨i, hi, e⟩ := List.getElem_of_mem hy
  rw [List.length_drop] at hi
  have hkl : k < l.length := by omega
  have hx0 := h2 _ (List.getElem?_eq_getElem hkl)
  have hlt := less_tri (hne _ (List.getElem?_eq_getElem hkl)) hx0
  rw [List.getElem_drop] at e
  by_cases e0 : i = 0
  ·subst e0
   rw [← e]; exact hlt
  ·rw [← e]
   exact less_trans hlt ((List.pairwise_iff_getElem.1 h) k (k + i) hkl (by omega) (by omega))
 rw [List.append_assoc, List.pairwise_append]
 refine ⟨hpa.1, ?_, fun a ha b hb => ?_⟩
 ·rw [List.singleton_append, List.pairwise_cons]
  exact ⟨hd, hpa.2.1⟩
 ·rw [List.singleton_append, List.mem_cons] at hb
  rcases hb with rfl | hb
  ·exact h1 a ha
  ·exact hpa.2.2 a ha b hb
theorem insS_sorted {l : List Str} {n : Str} (h : l.Pairwise LtS) : (insS l n).Pairwise LtS := by
 unfold insS
 split
 ·exact h
 ·rename_i hc
  refine ins_sorted (fun s => s) h (fun y hy e => hc ?_)
  have hlt : leadS l n < l.length := by
   rcases Nat.lt_or_ge (leadS l n) l.length with h' | h'
   ·exact h'
   ·have : l[leadP (fun y => Op.bytesLess y n) l]? = none := List.getElem?_eq_none h'
    rw [this] at hy; cases hy
  have hg : l[leadS l n]? = some y := hy
  rw [List.getElem?_eq_getElem hlt] at hg
  cases hg
  simp [hlt, nth_get hlt, e]
theorem fold_sorted : ∀ (t : List Str) {l : List Str}, l.Pairwise LtS → (t.foldl insS l).Pairwise LtS
 | [], _, h => h
 | _ :: t, _, h => fold_sorted t (insS_sorted h)
theorem mem_names {b : Book} {n : Str} : hereB b n = true ↔ ∃ x ∈ b.batches, x.name = n := by
 unfold hereB
 rw [hasB_true, namesOf]; simp
theorem enter_ok {b : Book} {n : Str} {needs : List Str} (h : bookOk b = true) : bookOk (enterB b n needs).1 = true := by
 unfold enterB
 simp only [h, Bool.true_eq_false, if_false]
 split
 ·exact h
 ·rename_i h1
  split
  ·exact h
  ·rename_i h2
   split
   ·exact h
   ·rename_i h3
    have hn1 : nameOk n = true := by
     cases e : nameOk n
     ·exact absurd (Or.inl e) h1
     ·rfl
    have hn2 : namesOk needs b.things = true := by
     cases e : namesOk needs b.things
     ·exact absurd (Or.inr e) h1
     ·rfl
    have hno : ∀ x ∈ b.batches, x.name ≠ n := fun x hx e => h2 (mem_names.2 ⟨x, hx, e⟩)
    rw [ok_iff] at h ⊢
    have hsub : ∀ x, x ∈ insB b.batches ⟨n, [], needs⟩ → x ∈ b.batches ∨ x = ⟨n, [], needs⟩ := fun x hx => by
     unfold insB at hx
     rw [List.mem_append, List.mem_append] at hx
     rcases hx with (hx | hx) | hx
     ·exact Or.inl (List.mem_of_mem_take hx)
     ·simp at hx; exact Or.inr hx
     ·exact Or.inl (List.mem_of_mem_drop hx)
    refine ⟨h.things, ?_, fun x hx => ?_, ?_, ?_⟩
    ·show (insB b.batches ⟨n, [], needs⟩).length ≤ 5
     unfold insB
     rw [List.length_append, List.length_append, List.length_take, List.length_drop, List.length_singleton]; omega
    ·rcases hsub x hx with hx | rfl
     ·exact h.each x hx
     ·exact ⟨hn1, hn2, rfl⟩
    ·show (insB b.batches ⟨n, [], needs⟩).Pairwise NameLt
     exact ins_sorted (fun y : Batch => y.name) h.names (fun y hy => hno y (List.mem_of_getElem? hy))
    ·show (insB b.batches ⟨n, [], needs⟩).Pairwise Apart
     have hpa : (b.batches.take (leadB b.batches n) ++ b.batches.drop (leadB b.batches n)).Pairwise Apart := by rw [List.take_append_drop]; exact h.apart
     rw [List.pairwise_append] at hpa
     unfold insB
     rw [List.append_assoc, List.pairwise_append]
     refine ⟨hpa.1, ?_, fun x hx y hy => ?_⟩
     ·rw [List.singleton_append, List.pairwise_cons]
      exact ⟨fun y _ t ht => by simp at ht, hpa.2.1⟩
     ·rw [List.singleton_append, List.mem_cons] at hy
      rcases hy with rfl | hy
      ·intro t _; simp
      ·exact hpa.2.2 x hx y hy
theorem set_ok {b : Book} {k : Nat} {x : Batch} (h : OkP b) (hk : k < b.batches.length) (hn : x.name = (b.at k).name) (h1 : namesOk x.needs b.things = true) (h2 : namesOk x.has x.needs = true)
  (h3 : ∀ i, i < b.batches.length → i ≠ k → ∀ t ∈ x.has, t ∉ (b.at i).has) : OkP ⟨b.things, b.batches.set k x⟩ := by
 have hbk : b.at k = b.batches[k] := by rw [Book.at, nthB_get hk]
 refine ⟨h.things, by simpa using h.five, fun y hy => ?_, ?_, ?_⟩
 ·rcases List.mem_or_eq_of_mem_set hy with hy | rfl
  ·exact h.each y hy
  ·refine ⟨?_, h1, h2⟩
   rw [hn, hbk]; exact (h.each _ (List.getElem_mem hk)).1
 ·show (b.batches.set k x).Pairwise NameLt
  rw [List.pairwise_iff_getElem]
  intro i j hi hj hij
  rw [List.length_set] at hi hj
  have hh := (List.pairwise_iff_getElem.1 h.names) i j hi hj hij
  have hnm : ∀ m (hm : m < b.batches.length) (hm' : m < (b.batches.set k x).length), ((b.batches.set k x)[m]).name = (b.batches[m]).name := fun m hm hm' => by
   rw [List.getElem_set]
   split
   ·rename_i e; subst e; rw [hn, hbk]
   ·rfl
  show LtS _ _
  rw [hnm i hi, hnm j hj]; exact hh
 ·show (b.batches.set k x).Pairwise Apart
  rw [List.pairwise_iff_getElem]
  intro i j hi hj hij
  rw [List.length_set] at hi hj
  have hh := (List.pairwise_iff_getElem.1 h.apart) i j hi hj hij
  rw [List.getElem_set, List.getElem_set]
  by_cases ei : k = i
  ·rw [if_pos ei, if_neg (by omega)]
   intro t ht
   have := h3 j hj (by omega) t ht
   rwa [Book.at, nthB_get hj] at this
  ·rw [if_neg ei]
   by_cases ej : k = j
   ·rw [if_pos ej]
    intro t ht hx
    have := h3 i hi (by omega) t hx
    rw [Book.at, nthB_get hi] at this
    exact this ht
   ·rw [if_neg ej]; exact hh
theorem where_lt {b : Book} {n : Str} (h : hereB b n = true) : whereB b n < b.batches.length := by
 unfold whereB
 have := place_lt.2 (hasB_true.1 h)
 rwa [namesOf_length] at this
theorem apart_at {b : Book} (h : OkP b) {i k : Nat} (hi : i < b.batches.length) (hk : k < b.batches.length) (hne : i ≠ k) {t : Str} (ht : t ∈ (b.at k).has) : t ∉ (b.at i).has := by
 rw [Book.at, nthB_get hk] at ht
 rw [Book.at, nthB_get hi]
 rcases Nat.lt_or_gt_of_ne hne with h' | h'
 ·exact fun hx => (List.pairwise_iff_getElem.1 h.apart) i k hi hk h' t hx ht
 ·exact (List.pairwise_iff_getElem.1 h.apart) k i hk hi h' t ht
theorem each_at {b : Book} (h : OkP b) {k : Nat} (hk : k < b.batches.length) : namesOk (b.at k).needs b.things = true ∧ namesOk (b.at k).has (b.at k).needs = true := by
 have := h.each _ (List.getElem_mem hk)
 rw [Book.at, nthB_get hk]; exact this.2
theorem sub_names {l m all : List Str} (h : namesOk l m = true) (h2 : namesOk m all = true) : namesOk l all = true :=
 namesOk_iff.2 ⟨(namesOk_iff.1 h).1, fun x hx => namesOk_sub h2 x (namesOk_sub h x hx)⟩
theorem taken_no {b : Book} {k : Nat} {things : List Str} (h : takenB b k things = false) {i : Nat} (hi : i < b.batches.length) (hne : i ≠ k) : ∀ t ∈ things, t ∉ (b.at i).has := by
 intro t ht hx
 have : takenB b k things = true := anyLt_of hi (by
  rw [Bool.and_eq_true]
  exact ⟨by simp [hne], shareB_true.2 ⟨t, hx, ht⟩⟩)
 rw [this] at h; cases h
theorem insS_mem' {l : List Str} {n x : Str} (h : x ∈ insS l n) : x ∈ l ∨ x = n := by
 unfold insS at h
 split at h
 ·exact Or.inl h
 ·rw [List.mem_append, List.mem_append] at h
  rcases h with (h | h) | h
  ·exact Or.inl (List.mem_of_mem_take h)
  ·simp at h; exact Or.inr h
  ·exact Or.inl (List.mem_of_mem_drop h)
theorem fold_mem' : ∀ (t : List Str) {l : List Str} {x : Str}, x ∈ t.foldl insS l → x ∈ l ∨ x ∈ t
 | [], _, _, h => Or.inl h
 | y :: t, _, _, h => by
  rw [List.foldl_cons] at h
  rcases fold_mem' t h with h1 | h1
  ·rcases insS_mem' h1 with h2 | h2
   ·exact Or.inl h2
   ·exact Or.inr (by rw [h2]; exact List.mem_cons_self)
  ·exact Or.inr (List.mem_cons_of_mem _ h1)
theorem give_ok {b : Book} {k : Nat} {things : List Str} (h : OkP b) (hk : k < b.batches.length) (hn : namesOk things (b.at k).needs = true) (ht : takenB b k things = false) : OkP (giveB b k things) := by
 obtain ⟨e1, e2⟩ := each_at h hk
 refine set_ok h hk rfl e1 (namesOk_iff.2 ⟨fold_sorted things (namesOk_iff.1 e2).1, fun x hx => ?_⟩) (fun i hi hne t hx => ?_)
 ·rcases fold_mem' things hx with hx | hx
  ·exact namesOk_sub e2 x hx
  ·exact namesOk_sub hn x hx
 ·rcases fold_mem' things hx with hx | hx
  ·exact apart_at h hi hk hne hx
  ·exact taken_no ht hi hne t hx
theorem ask_ok {b : Book} {n : Str} {things : List Str} (h : bookOk b = true) : bookOk (askB b n things).1 = true := by
 unfold askB
 simp only [h, Bool.true_eq_false, if_false]
 split
 ·exact h
 ·rename_i h1
  split
  ·exact h
  ·rename_i h2
   split
   ·exact h
   ·rename_i h3
    split
    ·exact h
    ·have hh : hereB b n = true := by simpa using h1
     exact ok_iff.2 (give_ok (ok_iff.1 h) (where_lt hh) (by simpa using h2) (by simpa using h3))
theorem fewer_ok {b : Book} {k : Nat} {needs : List Str} (h : OkP b) (hk : k < b.batches.length) (hn : namesOk needs (b.at k).needs = true) : OkP (fewerB b k needs) := by
 obtain ⟨e1, e2⟩ := each_at h hk
 refine set_ok h hk rfl (sub_names hn e1) (namesOk_iff.2 ⟨(namesOk_iff.1 e2).1.sublist List.filter_sublist, fun x hx => ?_⟩) (fun i hi hne t hx => ?_)
 ·exact hasB_true.1 (List.mem_filter.1 hx).2
 ·exact apart_at h hi hk hne (List.mem_filter.1 hx).1
theorem less_ok {b : Book} {n : Str} {needs : List Str} (h : bookOk b = true) : bookOk (lessB b n needs).1 = true := by
 unfold lessB
 simp only [h, Bool.true_eq_false, if_false]
 split
 ·exact h
 ·rename_i h1
  split
  ·exact h
  ·rename_i h2
   have hh : hereB b n = true := by simpa using h1
   exact ok_iff.2 (fewer_ok (ok_iff.1 h) (where_lt hh) (by simpa using h2))
theorem out_ok {b : Book} {bs : List Batch} (h : OkP b) (hs : bs.Sublist b.batches) : OkP ⟨b.things, bs⟩ :=
 ⟨h.things, Nat.le_trans hs.length_le h.five, fun x hx => h.each x (hs.subset hx), h.names.sublist hs, h.apart.sublist hs⟩
theorem cut_sub {α : Type} (l : List α) (k : Nat) : (l.take k ++ l.drop (k + 1)).Sublist l := by
 have e : l.take k ++ l.drop k = l := List.take_append_drop k l
 have hd : (l.drop (k + 1)).Sublist (l.drop k) := List.drop_sublist_drop_left l (by omega)
 have h := List.Sublist.append (List.Sublist.refl (l.take k)) hd
 rw [e] at h
 exact h
theorem leave_ok {b : Book} {n : Str} (h : bookOk b = true) : bookOk (leaveB b n).1 = true := by
 unfold leaveB
 simp only [h, Bool.true_eq_false, if_false]
 split
 ·exact h
 ·exact ok_iff.2 (out_ok (ok_iff.1 h) (cut_sub _ _))
end
end Go.Proofs.YtdafpnpfcmgfcaaGreatDoor
