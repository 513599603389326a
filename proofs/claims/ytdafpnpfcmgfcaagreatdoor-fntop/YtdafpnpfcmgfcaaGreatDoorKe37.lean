/- Rows of deeds of the call's own; the walk over DrawShareDoes. Safe is: some order fits. Chapter 3 the program's way: places by search, lists by what is kept of another. The program's search for a place, by halves. -/
import Derived.Test.YtdafpnpfcmgfcaaGreatDoorKe36
import Derived.Test.YtdafpnpfcmgfcaaGreatDoorKe35
import Derived.Test.YtdafpnpfcmgfcaaGreatDoorKe28
import Derived.Test.YtdafpnpfcmgfcaaGreatDoorKe21
namespace Go.Proofs.YtdafpnpfcmgfcaaGreatDoor
section
open Go.RowKit
attribute [local go_sem] S_toList S_size S_get
structure Do where
 kind : Nat
 name : Str
 list : List Str
structure DRow where
 kind : Nat
 name : Str
 list : Value
def DRow.cells (r : DRow) : List Value := [.int .i64 (r.kind : Int), .string (S r.name), r.list]
def dcells (rs : List DRow) : List Value := rs.flatMap DRow.cells
theorem dcells_length : ∀ rs : List DRow, (dcells rs).length = rs.length * 3
 | [] => rfl
 | r :: rs => by
  have h := dcells_length rs
  simp only [dcells, List.flatMap_cons, List.length_append, List.length_cons] at *
  rw [h]; simp [DRow.cells]; omega
theorem dcells_append (a b : List DRow) : dcells (a ++ b) = dcells a ++ dcells b := by simp [dcells]
theorem dcells_at : ∀ (rs : List DRow) (i : Nat) (r : DRow), rs[i]? = some r → (dcells rs)[i * 3]? = some (.int .i64 (r.kind : Int)) ∧ (dcells rs)[i * 3 + 1]? = some (.string (S r.name)) ∧ (dcells rs)[i * 3 + 2]? = some r.list
 | [], i, r, h => by simp at h
 | x :: rs, 0, r, h => by
  simp only [List.getElem?_cons_zero, Option.some.injEq] at h
  subst h
  simp [dcells, DRow.cells]
 | x :: rs, i + 1, r, h => by
  have h' := dcells_at rs i r (by simpa using h)
  simp only [dcells, List.flatMap_cons, DRow.cells, List.cons_append, List.nil_append] at *
  have e3 : (i + 1) * 3 = i * 3 + 1 + 1 + 1 := by omega
  rw [e3]
  exact h'
def DOwn (w : World) (base : Nat) (r : DRow) (x : Do) : Prop := r.kind = x.kind ∧ r.name = x.name ∧ x.name.length ≤ 140737488355328 ∧ OwnL w base r.list x.list ∧ ShortS x.list
def DosOwn (w : World) (base : Nat) (v : Value) (ds : List Do) : Prop := ∃ rs, w.ownsRow base 31 3 v rs.length (dcells rs) ∧ rs.length = ds.length ∧ ∀ (i : Nat) r x, rs[i]? = some r → ds[i]? = some x → DOwn w base r x
theorem own_age {w w' : World} {base : Nat} {t : TypeId} {z n : Nat} {v : Value} {xs : List Value} (h : w.ownsRow base t z v n xs) {row : Option Nat} (g : w.grownBy w' row) (hr : ∀ k, row = some k → k < base) : w'.ownsRow base t z v n xs := by
 cases hv : v.ownBlock with
 | none => exact World.ownsRow.kept h g (Or.inl hv)
 | some b =>
  refine World.ownsRow.kept h g (Or.inr ?_)
  rw [hv]
  intro e
  have h1 := hr b e.symm
  have h2 := (h.lt b hv).1
  omega
theorem DosOwn.age {w w' : World} {base : Nat} {v : Value} {ds : List Do} (h : DosOwn w base v ds) {row : Nat} (g : w.grownBy w' (some row)) (hr : row < base) : DosOwn w' base v ds := by
 obtain ⟨rs, h1, h2, h3⟩ := h
 exact ⟨rs, own_age h1 g (fun k e => by cases e; exact hr), h2, fun i r x hi hx => by
  obtain ⟨e1, e2, e3, e4, e5⟩ := h3 i r x hi hx
  exact ⟨e1, e2, e3, own_age e4 g (fun k e => by cases e; exact hr), e5⟩⟩
theorem DosOwn.ext {w w' : World} {base : Nat} {v : Value} {ds : List Do} (h : DosOwn w base v ds) (e : Ext w w') : DosOwn w' base v ds := by
 obtain ⟨rs, h1, h2, h3⟩ := h
 exact ⟨rs, row_ext h1 e, h2, fun i r x hi hx => by
  obtain ⟨e1, e2, e3, e4, e5⟩ := h3 i r x hi hx
  exact ⟨e1, e2, e3, e4.ext e, e5⟩⟩
theorem DosOwn.len {w : World} {base : Nat} {v : Value} {ds : List Do} (h : DosOwn w base v ds) : ∃ a cap, v = .slice a ds.length cap := by
 obtain ⟨rs, h1, h2, _⟩ := h
 rcases h1.2 with ⟨rfl, h0⟩ | ⟨g, cap, cur, rfl, _⟩
 ·exact ⟨none, 0, by rw [← h2, h0]⟩
 ·exact ⟨_, cap, by rw [← h2]⟩
theorem DosOwn.lt {w : World} {base : Nat} {v : Value} {ds : List Do} (h : DosOwn w base v ds) (k : Nat) (e : v.ownBlock = some k) : base ≤ k := by
 obtain ⟨rs, h1, _⟩ := h
 exact (h1.lt k e).1
theorem DosOwn.made (w : World) (base : Nat) (hb : base ≤ w.heap.size) : DosOwn (w.alloc (.cells #[] 31)) base (.slice (some ⟨w.heap.size, 0, none⟩) 0 0) [] :=
 ⟨[], World.ownsRow_made (base := base) (e := 31) (size := 3) w #[] 0 hb (by unfold maxLen; omega) (by simp), rfl, fun i r x h => by simp at h⟩
def DosAt (w : World) (a : Option Addr) (ds : List Do) : Prop :=
 ds.length ≤ 40 ∧ ∀ (i : Nat) x, ds[i]? = some x → ∃ b o d c, a = some ⟨b, o, none⟩ ∧ w.cell? ⟨b, o + i * 3, none⟩ = some (.int .i64 (x.kind : Int)) ∧ w.cell? ⟨b, o + i * 3 + 1, none⟩ = some (.string (S x.name)) ∧ w.cell? ⟨b, o + i * 3 + 2, none⟩ = some (.slice d x.list.length c) ∧ StrsAt w d x.list ∧ x.name.length ≤ 140737488355328
theorem DosAt.ext {w w' : World} {a : Option Addr} {ds : List Do} (h : DosAt w a ds) (e : Ext w w') : DosAt w' a ds :=
 ⟨h.1, fun i x hx => by
  obtain ⟨b, o, d, c, e1, e2, e3, e4, e5, e6⟩ := h.2 i x hx
  exact ⟨b, o, d, c, e1, e.keep e2, e.keep e3, e.keep e4, e5.ext e, e6⟩⟩
theorem DosOwn.at {w : World} {base : Nat} {v : Value} {ds : List Do} (h : DosOwn w base v ds) (hn : ds.length ≤ 40) : ∃ a cap, v = .slice a ds.length cap ∧ DosAt w a ds := by
 obtain ⟨a, cap, rfl⟩ := h.len
 refine ⟨a, cap, rfl, hn, fun i x hx => ?_⟩
 obtain ⟨rs, h1, h2, h3⟩ := h
 have hi : i < ds.length := by
  rcases Nat.lt_or_ge i ds.length with h' | h'
  ·exact h'
  ·simp [List.getElem?_eq_none h'] at hx
 have hr := List.getElem?_eq_getElem (l := rs) (i := i) (by omega)
 obtain ⟨k0, k1, k2⟩ := dcells_at rs i _ hr
 obtain ⟨e1, e2, e3, e4, e5⟩ := h3 i _ _ hr hx
 obtain ⟨g, cap', ev, _, c0, _⟩ := own_cell h1 k0
 obtain ⟨g', cap'', ev', _, c1, _⟩ := own_cell h1 k1
 obtain ⟨g'', cap''', ev'', _, c2, _⟩ := own_cell h1 k2
 simp only [Value.slice.injEq] at ev ev' ev''
 obtain ⟨rfl, _⟩ := ev
 obtain ⟨e', _⟩ := ev'
 obtain ⟨e'', _⟩ := ev''
 simp only [Option.some.injEq, Addr.mk.injEq, and_true] at e' e''
 subst e'
 subst e''
 obtain ⟨d, c, ed, hs⟩ := e4.at' e5
 refine ⟨g, 0, d, c, rfl, ?_, ?_, ?_, hs, e3⟩
 ·rw [Nat.zero_add, c0, e1]
 ·rw [Nat.zero_add, c1, e2]
 ·rw [Nat.zero_add, c2, ed]
theorem Qry.infoDo : (Qry.prog.info? 31).map (fun i => (i.zero, i.size, i.bytes)) = some (some (.agg #[.int .i64 0, .string (S []), .slice none 0 0]), 3, 48) := by kernel_rfl
theorem info_do : ∃ i, Qry.prog.info? 31 = some i ∧ i.zero = some (.agg #[.int .i64 0, .string (S []), .slice none 0 0]) ∧ i.size = 3 ∧ i.bytes = 48 := by
 obtain ⟨i, hi, hzz⟩ := Option.map_eq_some_iff.1 Qry.infoDo
 simp only [Prod.mk.injEq] at hzz
 exact ⟨i, hi, hzz.1, hzz.2.1, hzz.2.2⟩
theorem do_ne {w : World} {base : Nat} {v : Value} {n : Nat} {xs : List Value} (h : w.ownsRow base 31 3 v n xs) (t : TypeId) (ht : (t == 31) = false) (k : Nat) (c : Array Value) (e : v.ownBlock = some k) (hk : w.heap[k]? = some (.cells c t (0, 0))) : False := by
 rcases h.2 with ⟨rfl, _⟩ | ⟨g, cap, cur, rfl, _, hg, _⟩
 ·simp [Value.ownBlock] at e
 ·have e' : g = k := by simpa [Value.ownBlock] using e
  subst e'
  rw [hg] at hk
  simp only [Option.some.injEq, Obj.cells.injEq] at hk
  rw [← hk.2.1] at ht
  simp at ht
theorem wpList_do {ops : Array Oper} {rest : List Oper} {o : Oper} {a : Act} {w : World} {Q : Exit → Act → World → Prop} (hgd : o.guard = none) (s x : Operand)
  (ho : o.op = .call { callee := .builtin .append, args := #[s, x], argTypes := #[27, 27] })
  {base : Nat} {v : Value} {L : List Do} (hs : a.eval s = v) (hown : DosOwn w base v L) {src : Option Addr} {c : Nat} {y : Do} {r : DRow} (hx : a.eval x = .slice src 1 c)
  (hrs : ∀ j u, (dcells [r])[j]? = some u → ∃ ad, src = some ad ∧ w.cell? (ad.add j) = some u) (hM : DOwn w base r y)
  (hlen : L.length + 1 ≤ 40) (hbase : base ≤ w.heap.size)
  (h : ∀ v' w', DosOwn w' base v' (L ++ [y]) → w.grownBy w' v.ownBlock → wpList Qry.prog ops Q rest (a.put o.dst v') w') : wpList Qry.prog ops Q (o :: rest) a w := by
 refine wpList_plain hgd fun K hK => ?_
 obtain ⟨i0, hi, hz0, hz1, hz2⟩ := info_do
 obtain ⟨rs0, h1, h2, h3⟩ := hown
 obtain ⟨m1, m2, m3, m4, m5⟩ := hM
 obtain ⟨d, g, ed⟩ := own_sl m4
 have hone : ∀ u ∈ dcells [r], u.oneCell' = true := by
  intro u hu
  simp only [dcells, List.flatMap_cons, List.flatMap_nil, List.append_nil, DRow.cells, List.mem_cons, List.not_mem_nil, or_false] at hu
  rcases hu with rfl | rfl | rfl
  ·rfl
  ·rfl
  ·rw [ed]; rfl
 refine wp_app w s x 27 ho base 31 i0 _ 3 48 (uQ Tryz.underlying27) hi hz0 hz1 hz2 rfl (by decide) v _ _ hs h1 src 1 c (dcells [r]) hx (by rw [dcells_length]; rfl) hrs hone (by unfold maxLen; omega) (by omega) hbase (fun v' w' g2 g3 g4 => hK _ _ (h v' w' ⟨rs0 ++ [r], ?_, ?_, ?_⟩ g3))
 ·rw [dcells_append, List.length_append]; exact g2
 ·simp [h2]
 ·have hne := fun k c => do_ne h1 9 rfl k c
  intro i r' y' hr hy
  rcases Nat.lt_or_ge i rs0.length with hi | hi
  ·rw [List.getElem?_append_left hi] at hr
   rw [List.getElem?_append_left (by rw [← h2]; exact hi)] at hy
   obtain ⟨e1, e2, e3, e4, e5⟩ := h3 i r' y' hr hy
   exact ⟨e1, e2, e3, e4.keep g3 hne, e5⟩
  ·rw [List.getElem?_append_right hi] at hr
   rw [List.getElem?_append_right (by rw [← h2]; exact hi), ← h2] at hy
   cases hk : i - rs0.length with
   | zero => rw [hk] at hr hy; simp at hr hy; subst hr; subst hy; exact ⟨m1, m2, m3, m4.keep g3 hne, m5⟩
   | succ m => rw [hk] at hr; simp at hr
theorem one_do (w : World) (r : DRow) (j : Nat) (u : Value) (hj : (dcells [r])[j]? = some u) : ∃ ad, some (⟨w.heap.size, 0, none⟩ : Addr) = some ad ∧ (w.alloc (.cells #[.int .i64 (r.kind : Int), .string (S r.name), r.list] 31)).cell? (ad.add j) = some u :=
 ⟨_, rfl, by rw [add_plain, Nat.zero_add]; exact (Rec.new w 31 (dcells [r])).cell hj⟩
end
section
def Valid (b : Book) (l : List Str) : Prop := ∀ i, i < l.length → stepB b l i = true
theorem nth_left {l m : List Str} {i : Nat} (h : i < l.length) : nth (l ++ m) i = nth l i := by
 rw [nth_get (by rw [List.length_append]; omega), nth_get h, List.getElem_append_left h]
theorem stepB_left {b : Book} {l m : List Str} {i : Nat} (h : i < l.length) : stepB b (l ++ m) i = stepB b l i := by
 unfold stepB
 rw [nth_left h, List.take_append_of_le_length (by omega)]
theorem next_good {b : Book} {gone : List Str} {p : Nat} (h : nextOf b gone = some p) : p < b.batches.length ∧ hasB gone (b.at p).name = false ∧ canB b p gone = true := by
 have h1 := nextOf_lt h
 have h2 := List.find?_some h
 simp only [goodN, Bool.and_eq_true, Bool.not_eq_true'] at h2
 exact ⟨h1, h2.1, h2.2⟩
theorem valid_snoc {b : Book} {gone : List Str} {p : Nat} (hok : bookOk b = true) (hv : Valid b gone) (h : nextOf b gone = some p) : Valid b (gone ++ [(b.at p).name]) := by
 obtain ⟨h1, h2, h3⟩ := next_good h
 intro i hi
 rw [List.length_append, List.length_singleton] at hi
 by_cases e : i < gone.length
 ·rw [stepB_left e]; exact hv i e
 ·have e' : i = gone.length := by omega
  subst e'
  have hn : nth (gone ++ [(b.at p).name]) gone.length = (b.at p).name := by rw [nth_get (by simp)]; simp
  have ht : (gone ++ [(b.at p).name]).take gone.length = gone := by simp
  unfold stepB
  rw [hn, ht, place_self hok h1, h2, h3]
  simp [h1]
theorem greedy_fits {b : Book} (hok : bookOk b = true) : ∀ (m : Nat) (gone L : List Str), greedy b m gone = some L → Valid b gone → Valid b L ∧ L.length = gone.length + m
 | 0, gone, L, h, hv => by
  simp [greedy] at h; subst h
  exact ⟨hv, rfl⟩
 | m + 1, gone, L, h, hv => by
  cases hn : nextOf b gone with
  | none => rw [greedy_none hn] at h; cases h
  | some p =>
   rw [greedy_some hn] at h
   obtain ⟨k1, k2⟩ := greedy_fits hok m _ L h (valid_snoc hok hv hn)
   refine ⟨k1, ?_⟩
   rw [k2, List.length_append, List.length_singleton]; omega
theorem safe_ok {b : Book} (h : safeB b = true) : bookOk b = true := by
 cases hok : bookOk b
 ·simp [safeB, orderOf, hok] at h
 ·rfl
theorem order_fits {b : Book} (h : safeB b = true) : fitsB b (orderL b) = true := by
 have hok := safe_ok h
 cases hg : orderOf b with
 | none => simp [safeB, hg] at h
 | some L =>
  have hg' : greedy b b.batches.length [] = some L := by simpa [orderOf, hok] using hg
  obtain ⟨k1, k2⟩ := greedy_fits hok _ _ L hg' (fun i hi => by simp at hi)
  have e : orderL b = L := by simp [orderL, hg]
  rw [e]
  exact fitsB_yes hok (by simpa using k2) k1
theorem can_more {b : Book} {p : Nat} {l m : List Str} (h : canB b p l = true) (hs : ∀ x ∈ l, x ∈ m) : canB b p m = true := by
 refine canB_yes (fun i hi => ?_)
 have h1 := allLt_true.1 h i hi
 simp only [Bool.not_eq_true'] at h1
 cases hc : clash b p m i
 ·rfl
 ·unfold clash at hc h1
  simp only [Bool.and_eq_true, Bool.not_eq_true', decide_eq_false_iff_not] at hc
  have hn : hasB l (b.at i).name = false := by
   rw [← Bool.not_eq_true, hasB_true]
   intro hx
   have := hasB_true.2 (hs _ hx)
   rw [hc.1.2] at this; cases this
  rw [hn, hc.2] at h1
  simp [hc.1.1] at h1
theorem step_parts {b : Book} {l : List Str} {i : Nat} (h : stepB b l i = true) : place (namesOf b.batches) (nth l i) < b.batches.length ∧ hasB (l.take i) (nth l i) = false ∧ canB b (place (namesOf b.batches) (nth l i)) (l.take i) = true := by
 unfold stepB at h
 simp only [Bool.and_eq_true, decide_eq_true_eq, Bool.not_eq_true'] at h
 exact ⟨h.1.1, h.1.2, h.2⟩
theorem valid_nodup {b : Book} {l : List Str} (h : Valid b l) : l.Nodup := by
 unfold List.Nodup
 rw [List.pairwise_iff_getElem]
 intro i j hi hj hij e
 have h1 := (step_parts (h j hj)).2.1
 rw [← Bool.not_eq_true, hasB_true, nth_get hj] at h1
 exact h1 (by rw [← e]; exact List.mem_take_iff_getElem.2 ⟨i, by omega, rfl⟩)
theorem next_some {b : Book} {order gone : List Str} (hv : Valid b order) (hlt : gone.length < order.length) : ∃ p, nextOf b gone = some p := by
 cases hn : nextOf b gone with
 | some p => exact ⟨p, rfl⟩
 | none =>
  exfalso
  have hno : ∀ j, j < b.batches.length → goodN b gone j = false := by
   intro j hj
   unfold nextOf at hn
   rw [List.find?_eq_none] at hn
   have := hn j (by simpa using hj)
   simpa using this
  have hall : ∀ k i, i < k → i < order.length → nth order i ∈ gone := by
   intro k
   induction k with
   | zero => intro i hi; omega
   | succ k ih =>
    intro i hi hio
    by_cases e : i < k
    ·exact ih i e hio
    ·have e' : i = k := by omega
     subst e'
     obtain ⟨h1, h2, h3⟩ := step_parts (hv i hio)
     have hsub : ∀ x ∈ order.take i, x ∈ gone := by
      intro x hx
      obtain ⟨j, hj, ej⟩ := List.mem_take_iff_getElem.1 hx
      have hj2 : j < i ∧ j < order.length := by omega
      have := ih j hj2.1 hj2.2
      rw [nth_get hj2.2, ej] at this
      exact this
     have hg := hno _ h1
     unfold goodN at hg
     rw [can_more h3 hsub] at hg
     have hnm : (b.at (place (namesOf b.batches) (nth order i))).name = nth order i := by
      have hm : nth order i ∈ namesOf b.batches := place_lt.1 (by rw [namesOf_length]; exact h1)
      have := place_nth hm
      rw [nth_namesOf h1] at this
      exact this
     rw [hnm] at hg
     cases hh : hasB gone (nth order i)
     ·rw [hh] at hg; simp at hg
     ·exact hasB_true.1 hh
  have hsub : order ⊆ gone := by
   intro x hx
   obtain ⟨i, hi, e⟩ := List.getElem_of_mem hx
   have := hall (i + 1) i (by omega) hi
   rw [nth_get hi, e] at this
   exact this
  have := (valid_nodup hv).length_le_of_subset hsub
  omega
theorem greedy_all {b : Book} {order : List Str} (hv : Valid b order) (hl : order.length = b.batches.length) : ∀ (m : Nat) (gone : List Str), gone.length + m = b.batches.length → ∃ L, greedy b m gone = some L
 | 0, gone, _ => ⟨gone, rfl⟩
 | m + 1, gone, h => by
  obtain ⟨p, hp⟩ := next_some (gone := gone) hv (by omega)
  rw [greedy_some hp]
  exact greedy_all hv hl m _ (by rw [List.length_append, List.length_singleton]; omega)
theorem fits_parts {b : Book} {order : List Str} (h : fitsB b order = true) : bookOk b = true ∧ order.length = b.batches.length ∧ Valid b order := by
 unfold fitsB at h
 simp only [Bool.and_eq_true, decide_eq_true_eq] at h
 exact ⟨h.1.1, h.1.2, fun i hi => allLt_true.1 h.2 i hi⟩
theorem fits_safe {b : Book} {order : List Str} (h : fitsB b order = true) : safeB b = true := by
 obtain ⟨h1, h2, h3⟩ := fits_parts h
 obtain ⟨L, hL⟩ := greedy_all h3 h2 b.batches.length [] (by simp)
 simp [safeB, orderOf, h1, hL]
def someB (b : Book) : Nat → List Str → Bool
 | 0, gone => fitsB b gone
 | m + 1, gone => anyLt b.batches.length (fun i => !hasB gone (b.at i).name && someB b m (gone ++ [(b.at i).name]))
end
section
theorem sorted_eq : ∀ {l m : List Str}, l.Pairwise LtS → m.Pairwise LtS → (∀ x, x ∈ l ↔ x ∈ m) → l = m
 | [], [], _, _, _ => rfl
 | [], y :: m, _, _, h => by have := (h y).2 (by simp); simp at this
 | x :: l, [], _, _, h => by have := (h x).1 (by simp); simp at this
 | x :: l, y :: m, hl, hm, h => by
  rw [List.pairwise_cons] at hl hm
  have hxy : x = y := by
   have h1 := (h x).1 (by simp)
   have h2 := (h y).2 (by simp)
   rw [List.mem_cons] at h1 h2
   rcases h1 with h1 | h1
   ·exact h1
   ·rcases h2 with h2 | h2
    ·exact h2.symm
    ·have := less_trans (hm.1 x h1) (hl.1 y h2)
     rw [less_irrefl] at this; cases this
  subst hxy
  have : l = m := by
   refine sorted_eq hl.2 hm.2 (fun z => ?_)
   constructor
   ·intro hz
    have h1 := (h z).1 (by simp [hz])
    rw [List.mem_cons] at h1
    rcases h1 with rfl | h1
    ·have := hl.1 z hz
     rw [LtS, less_irrefl] at this; cases this
    ·exact h1
   ·intro hz
    have h1 := (h z).2 (by simp [hz])
    rw [List.mem_cons] at h1
    rcases h1 with rfl | h1
    ·have := hm.1 z hz
     rw [LtS, less_irrefl] at this; cases this
    ·exact h1
  rw [this]
theorem mem_insS {l : List Str} {n x : Str} (h : x ∈ l ∨ x = n) : x ∈ insS l n := by
 unfold insS
 split
 ·rename_i hc
  rcases h with h | rfl
  ·exact h
  ·simp only [Bool.and_eq_true, decide_eq_true_eq, beq_iff_eq] at hc
   rw [nth_get hc.1] at hc
   rw [← hc.2]; exact List.getElem_mem hc.1
 ·rw [List.mem_append, List.mem_append, List.mem_singleton]
  rcases h with h | rfl
  ·rw [← List.take_append_drop (leadS l n) l, List.mem_append] at h
   rcases h with h | h
   ·exact Or.inl (Or.inl h)
   ·exact Or.inr h
  ·exact Or.inl (Or.inr rfl)
theorem mem_fold : ∀ (t : List Str) {l : List Str} {x : Str}, x ∈ l ∨ x ∈ t → x ∈ t.foldl insS l
 | [], l, x, h => by simpa using h
 | y :: t, l, x, h => by
  rw [List.foldl_cons]
  refine mem_fold t ?_
  rcases h with h | h
  ·exact Or.inl (mem_insS (Or.inl h))
  ·rw [List.mem_cons] at h
   rcases h with rfl | h
   ·exact Or.inl (mem_insS (Or.inr rfl))
   ·exact Or.inr h
def keptL (l o : List Str) : List Str := l.filter (hasB o)
theorem kept_give {needs has things : List Str} (h1 : needs.Pairwise LtS) (h2 : namesOk has needs = true) (h3 : namesOk things needs = true) : keptL needs (has ++ things) = things.foldl insS has := by
 obtain ⟨a1, a2⟩ := namesOk_iff.1 h2
 obtain ⟨b1, b2⟩ := namesOk_iff.1 h3
 refine sorted_eq (h1.filter _) (fold_sorted things a1) (fun x => ?_)
 unfold keptL
 rw [List.mem_filter, hasB_true, List.mem_append]
 constructor
 ·exact fun h => mem_fold things h.2
 ·intro h
  have h' := fold_mem' things h
  refine ⟨?_, h'⟩
  rcases h' with h' | h'
  ·exact a2 x h'
  ·exact b2 x h'
theorem lead_bound (l : List Str) (n : Str) : leadS l n ≤ l.length := lead_le _ _
theorem lead_less {l : List Str} {n : Str} {j : Nat} (h : j < leadS l n) : Op.bytesLess (nth l j) n = true := by
 have hle := lead_bound l n
 have hj : j < l.length := by omega
 refine lead_all (fun y => Op.bytesLess y n) l (nth l j) ?_
 rw [nth_get hj]
 exact List.mem_take_iff_getElem.2 ⟨j, by simp only [Nat.lt_min]; exact ⟨h, hj⟩, rfl⟩
theorem lead_stop {l : List Str} {n : Str} (h : leadS l n < l.length) : Op.bytesLess (nth l (leadS l n)) n = false := by
 refine lead_next (fun y => Op.bytesLess y n) l (nth l (leadS l n)) ?_
 rw [nth_get h]
 exact List.getElem?_eq_getElem h
theorem found_iff {l : List Str} {n : Str} (h : l.Pairwise LtS) : hasB l n = (decide (leadS l n < l.length) && (nth l (leadS l n) == n)) := by
 rw [Bool.eq_iff_iff, hasB_true, Bool.and_eq_true, decide_eq_true_eq, beq_iff_eq]
 constructor
 ·intro hm
  obtain ⟨k, hk, e⟩ := List.getElem_of_mem hm
  have hle : leadS l n ≤ k := by
   rcases Nat.lt_or_ge k (leadS l n) with hlt | hge
   ·have := lead_less hlt
    rw [nth_get hk, e, less_irrefl] at this; cases this
   ·exact hge
  have hlt : leadS l n < l.length := by omega
  refine ⟨hlt, ?_⟩
  rcases Nat.lt_or_ge (leadS l n) k with h3 | h3
  ·rw [List.pairwise_iff_getElem] at h
   have := h (leadS l n) k hlt hk h3
   have h4 := lead_stop hlt
   rw [nth_get hlt] at h4
   rw [LtS, e, h4] at this; cases this
  ·have e' : leadS l n = k := by omega
   rw [e', nth_get hk]; exact e
 ·rintro ⟨h1, h2⟩
  rw [nth_get h1] at h2
  rw [← h2]; exact List.getElem_mem h1
theorem lead_place {l : List Str} {n : Str} (h : l.Pairwise LtS) (hm : hasB l n = true) : leadS l n = place l n := by
 rw [found_iff h, Bool.and_eq_true, decide_eq_true_eq] at hm
 refine (place_of ⟨hm.1, hm.2, fun j hj => ?_⟩).symm
 have := lead_less hj
 cases hq : nth l j == n
 ·rfl
 ·rw [eq_of_beq hq, less_irrefl] at this; cases this
theorem lead_names {bs : List Batch} {n : Str} : leadB bs n = leadS (namesOf bs) n := by
 have hle := lead_bound (namesOf bs) n
 rw [namesOf_length] at hle
 refine leadB_of (fun j hj => ?_) hle (fun hlt => ?_)
 ·have := lead_less hj
  rwa [nth_namesOf (by omega)] at this
 ·have := lead_stop (l := namesOf bs) (n := n) (by rw [namesOf_length]; exact hlt)
  rwa [nth_namesOf hlt] at this
theorem ok_names {b : Book} (h : bookOk b = true) : (namesOf b.batches).Pairwise LtS := asc_iff.1 (names_asc (fun _ hi => (ok_batch h hi).2.1))
theorem ok_where {b : Book} {n : Str} (h : bookOk b = true) (hh : hereB b n = true) : leadS (namesOf b.batches) n = whereB b n := lead_place (ok_names h) hh
def hadAt (b : Book) (k : Nat) (t : Str) : Bool := anyLt b.batches.length (fun i => !(i == k) && hasB (b.at i).has t)
def otherB (b : Book) (k : Nat) (ts : List Str) : Bool := anyLt ts.length (fun j => hadAt b k (nth ts j))
theorem other_taken (b : Book) (k : Nat) (ts : List Str) : otherB b k ts = takenB b k ts := by
 rw [Bool.eq_iff_iff]
 unfold otherB takenB hadAt
 simp only [anyLt_true, Bool.and_eq_true, hasB_true, shareB_true]
 constructor
 ·rintro ⟨j, hj, i, hi, hne, hm⟩
  exact ⟨i, hi, hne, nth ts j, hm, by rw [nth_get hj]; exact List.getElem_mem hj⟩
 ·rintro ⟨i, hi, hne, x, hx, hm⟩
  obtain ⟨j, hj, e⟩ := List.getElem_of_mem hm
  exact ⟨j, hj, i, hi, hne, by rw [nth_get hj, e]; exact hx⟩
theorem had_none {b : Book} {k : Nat} {t : Str} (h : ∀ i, i < b.batches.length → t ∉ (nthB b.batches i).has) : hadAt b k t = false :=
 anyLt_no (fun i hi => by
  have : hasB (b.at i).has t = false := by rw [← Bool.not_eq_true, hasB_true]; exact h i hi
  rw [this]; simp)
theorem had_own {b : Book} {k : Nat} {t : Str} (hok : bookOk b = true) (hk : k < b.batches.length) (h : t ∈ (nthB b.batches k).has) : hadAt b k t = false :=
 anyLt_no (fun i hi => by
  by_cases e : i = k
  ·simp [e]
  ·have : hasB (b.at i).has t = false := by rw [← Bool.not_eq_true, hasB_true]; exact apart_at (ok_iff.1 hok) hi hk e h
   rw [this]; simp)
theorem had_other {b : Book} {k p : Nat} {t : Str} (hp : p < b.batches.length) (hne : p ≠ k) (h : t ∈ (nthB b.batches p).has) : hadAt b k t = true :=
 anyLt_of hp (by
  have : hasB (b.at p).has t = true := hasB_true.2 h
  rw [this]; simp [hne])
end
section
open Go.RowKit
attribute [local go_sem] S_toList S_size S_get
theorem cmpIsNaN_any (x : Str) (w : World) : Calls Qry.prog 157 #[.string (S x)] w fun e w' => e = .returned (.bool false) ∧ w' = w := by
 have hq : (x == x) = true := by simp
 go_enter Qry.func157, Tryz.ntmps157
 go_wp2
 go_ret
 exact ⟨rfl, rfl⟩
theorem slicesIsNaN_any (x : Str) (w : World) : Calls Qry.prog 150 #[.string (S x)] w fun e w' => e = .returned (.bool false) ∧ w' = w := by
 have hq : (x == x) = true := by simp
 go_enter Qry.func150, Tryz.ntmps150
 go_wp2
 go_ret
 exact ⟨rfl, rfl⟩
theorem cmpLess_v (x y : Str) (v : Bool) (w : World) (hv : Op.bytesLess x y = v) : Calls Qry.prog 149 #[.string (S x), .string (S y)] w fun e w' => e = .returned (.bool v) ∧ w' = w := by
 go_enter Qry.func149, Tryz.ntmps149
 go_wp2_with (go_at_call 157; refine (cmpIsNaN_any _ _).mono ?_; rintro e w' ⟨rfl, rfl⟩)
 go_ret
 exact ⟨rfl, rfl⟩
theorem asc_nth {l : List Str} (h : l.Pairwise LtS) {i j : Nat} (hij : i < j) (hj : j < l.length) : Op.bytesLess (nth l i) (nth l j) = true := by
 rw [List.pairwise_iff_getElem] at h
 have := h i j (by omega) hj hij
 rwa [nth_get (by omega), nth_get hj]
theorem below_less {l : List Str} {n : Str} (h : l.Pairwise LtS) {k p : Nat} (hp : p < l.length) (hk : k ≤ p) (hl : Op.bytesLess (nth l p) n = true) : Op.bytesLess (nth l k) n = true := by
 rcases Nat.lt_or_ge k p with h1 | h1
 ·exact less_trans (asc_nth h h1 hp) hl
 ·have e : k = p := by omega
  rw [e]; exact hl
theorem above_not {l : List Str} {n : Str} (h : l.Pairwise LtS) {k p : Nat} (hk : k < l.length) (hp : p ≤ k) (hl : Op.bytesLess (nth l p) n = false) : Op.bytesLess (nth l k) n = false := by
 cases hq : Op.bytesLess (nth l k) n
 ·rfl
 ·rw [below_less h hk hp hq] at hl; cases hl
set_option maxHeartbeats 1000000 in
theorem search_any (a : Option Addr) (ca : Nat) (ss : List Str) (n : Str) (w : World) (hs : StrsAt w a ss) (hasc : ss.Pairwise LtS) :
  Calls Qry.prog 124 #[.slice a ss.length ca, .string (S n)] w fun e w' =>
   e = .returned (.tuple #[.int .i64 ((leadS ss n : Nat) : Int), .bool (hasB ss n)]) ∧ w' = w := by
 have hn := hs.1
 have HA := hid hasc
 clear hasc
 go_enter Qry.func124, Tryz.ntmps124
 go_wp2
 go_loop [7, 8] (fun ii jj => ∃ i j : Nat, i ≤ j ∧ j ≤ ss.length ∧ ii = .int .i64 i ∧ jj = .int .i64 j ∧ (∀ k, k < i → Op.bytesLess (nth ss k) n = true) ∧ ∀ k, j ≤ k → k < ss.length → Op.bytesLess (nth ss k) n = false) (fun ii jj => (intOf jj).toNat - (intOf ii).toNat)
 case atStart => exact ⟨0, ss.length, Nat.zero_le _, Nat.le_refl _, rfl, rfl, fun k hk => by omega, fun k h1 h2 => by omega⟩
 case round =>
  obtain ⟨i, j, hij, hj, rfl, rfl, h1, h2⟩ := hrel
  have H1 := hid h1
  have H2 := hid h2
  clear h1 h2
  by_cases hlt : i < j
  ·obtain ⟨_, b, o, rfl, hc⟩ := hs.2 ((i + j) / 2) (by omega)
   cases hq : Op.bytesLess (nth ss ((i + j) / 2)) n
   ·go_wp2_with (go_at_call 149; refine (cmpLess_v _ _ _ _ hq).mono ?_; rintro e w' ⟨rfl, rfl⟩)
    go_round
    case rel => exact ⟨i, (i + j) / 2, by omega, by omega, rfl, by go_num, H1.out, fun k h1 h2 => above_not HA.out h2 h1 hq⟩
    case measure => simp [intOf]; omega
   ·go_wp2_with (go_at_call 149; refine (cmpLess_v _ _ _ _ hq).mono ?_; rintro e w' ⟨rfl, rfl⟩)
    go_round
    case rel => exact ⟨(i + j) / 2 + 1, j, by omega, by omega, by go_num, rfl, fun k _ => below_less HA.out (by omega) (by omega) hq, H2.out⟩
    case measure => simp [intOf]; omega
  ·have e : j = i := by omega
   subst e
   have HL : Hid (leadS ss n = j) := leadS_of H1.out hj (fun h => H2.out j (Nat.le_refl _) h)
   have HF : Hid (hasB ss n = (decide (j < ss.length) && (nth ss j == n))) := by
    have := found_iff (n := n) HA.out
    rw [HL.out] at this; exact this
   by_cases hjl : j < ss.length
   ·obtain ⟨_, b, o, rfl, hc⟩ := hs.2 j hjl
    cases hq : (nth ss j == n)
    ·have HR : Hid (hasB ss n = false) := by show _ = _; rw [HF.out, hq]; simp
     go_wp2_with (go_at_call 150; refine (slicesIsNaN_any _ _).mono ?_; rintro e w' ⟨rfl, rfl⟩)
     refine bodyPost_ret (v := .tuple #[.int .i64 (j : Int), .bool false]) (by simp [results, Tryz.results124, go_sem]) rfl ?_
     rw [HR.out, HL.out]
     exact ⟨rfl, rfl⟩
    ·have HR : Hid (hasB ss n = true) := by show _ = _; rw [HF.out, hq]; simp [hjl]
     go_wp2_with fail
     refine bodyPost_ret (v := .tuple #[.int .i64 (j : Int), .bool true]) (by simp [results, Tryz.results124, go_sem]) rfl ?_
     rw [HR.out, HL.out]
     exact ⟨rfl, rfl⟩
   ·have HR : Hid (hasB ss n = false) := by show _ = _; rw [HF.out]; simp [hjl]
    go_wp2_with fail
    refine bodyPost_ret (v := .tuple #[.int .i64 (j : Int), .bool false]) (by simp [results, Tryz.results124, go_sem]) rfl ?_
    rw [HR.out, HL.out]
    exact ⟨rfl, rfl⟩
set_option maxHeartbeats 400000 in
theorem placeOf_any (b : Book) (n : Str) (a1 a2 : Option Addr) (c1 c2 : Nat) (w : World) (hb : BookAt w a1 a2 b) (hok : bookOk b = true) :
  Calls Qry.prog 102 #[.agg #[.slice a1 b.things.length c1, .slice a2 b.batches.length c2], .string (S n)] w fun e w' =>
   e = .returned (.tuple #[.int .i64 ((leadS (namesOf b.batches) n : Nat) : Int), .bool (hereB b n)]) ∧ Ext w w' := by
 have HA := hid (ok_names hok)
 have hal : ∀ o, Ext w (w.alloc o) := fun o => (Below.refl _ _).alloc (Nat.le_refl _) _
 go_enter Qry.func102, Tryz.ntmps102
 go_wp2_with fail
 refine (batchNames_any _ _ _ _ (hb.ext (hal _)).2).mono ?_
 rintro e w1 ⟨a', cap', rfl, hE1, hs1⟩
 have HE1 := hid (Ext.tr (hal _) hE1)
 have HS1 := hid hs1
 clear hE1 hs1
 go_wp2_with fail
 refine (search_any _ _ _ n _ HS1.out HA.out).mono ?_
 rintro e w2 ⟨rfl, rfl⟩
 go_wp2_with fail
 refine bodyPost_ret (v := .tuple #[.int .i64 ((leadS (namesOf b.batches) n : Nat) : Int), .bool (hereB b n)]) (by simp [results, Tryz.results102, go_sem, hereB]) rfl ⟨rfl, HE1.out⟩
end
end Go.Proofs.YtdafpnpfcmgfcaaGreatDoor
