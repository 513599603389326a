/- Who has what: the things of batches with their places, and the map that holds them. -/
import Derived.Test.YtdafpnpfcmgfcaaMath
import Derived.Maps.OwnSet
namespace Go.Proofs.Ytdafpnpfcmgfcaa

def pairsOf (bs : List Batch) (p : Nat) : List (Str × Nat) := (nthB bs p).has.map (fun x => (x, p))
def pairsTo (bs : List Batch) : Nat → List (Str × Nat)
  | 0 => []
  | i + 1 => pairsTo bs i ++ pairsOf bs i
def halfP (bs : List Batch) (i j : Nat) : List (Str × Nat) := pairsTo bs i ++ ((nthB bs i).has.take j).map (fun x => (x, i))
def keys (l : List (Str × Nat)) : List Str := l.map Prod.fst
def onceB (bs : List Batch) : Bool := decide (keys (pairsTo bs bs.length)).Nodup

theorem halfP_zero (bs : List Batch) (i : Nat) : halfP bs i 0 = pairsTo bs i := by simp [halfP]
theorem halfP_full (bs : List Batch) (i : Nat) : halfP bs i (nthB bs i).has.length = pairsTo bs (i + 1) := by simp [halfP, pairsTo, pairsOf]
theorem halfP_succ {bs : List Batch} {i j : Nat} (h : j < (nthB bs i).has.length) : halfP bs i (j + 1) = halfP bs i j ++ [(nth (nthB bs i).has j, i)] := by
  unfold halfP
  rw [List.take_succ_eq_append_getElem h, nth_get h, List.map_append, List.append_assoc]; rfl
theorem pairsTo_prefix (bs : List Batch) : ∀ {i n : Nat}, i ≤ n → ∃ t, pairsTo bs n = pairsTo bs i ++ t := by
  intro i n h
  induction n with
  | zero => exact ⟨[], by have : i = 0 := by omega
                          subst this; simp⟩
  | succ n ih =>
    by_cases e : i = n + 1
    · subst e; exact ⟨[], by simp⟩
    · obtain ⟨t, ht⟩ := ih (by omega)
      exact ⟨t ++ pairsOf bs n, by simp [pairsTo, ht]⟩
theorem halfP_prefix {bs : List Batch} {i j n : Nat} (hi : i < n) : ∃ t, pairsTo bs n = halfP bs i j ++ t := by
  obtain ⟨t, ht⟩ := pairsTo_prefix bs (i := i + 1) (n := n) hi
  refine ⟨((nthB bs i).has.drop j).map (fun x => (x, i)) ++ t, ?_⟩
  rw [ht]
  have e : pairsTo bs (i + 1) = halfP bs i j ++ ((nthB bs i).has.drop j).map (fun x => (x, i)) := by
    unfold halfP
    rw [List.append_assoc, ← List.map_append, List.take_append_drop]; rfl
  rw [e, List.append_assoc]
theorem onceB_no {bs : List Batch} {i j : Nat} (hi : i < bs.length) (hj : j < (nthB bs i).has.length) (h : nth (nthB bs i).has j ∈ keys (halfP bs i j)) : onceB bs = false := by
  unfold onceB
  rw [decide_eq_false_iff_not]
  intro hn
  obtain ⟨t, ht⟩ := halfP_prefix (bs := bs) (i := i) (j := j + 1) (n := bs.length) hi
  rw [ht, halfP_succ hj] at hn
  simp only [keys, List.map_append, List.map_cons, List.map_nil] at hn h
  have hn' := (List.nodup_append.1 hn).1
  have := (List.nodup_append.1 hn').2.2
  exact this _ h _ (by simp) rfl
theorem keys_snoc {bs : List Batch} {i j : Nat} (hj : j < (nthB bs i).has.length) (hn : (keys (halfP bs i j)).Nodup) (h : nth (nthB bs i).has j ∉ keys (halfP bs i j)) : (keys (halfP bs i (j + 1))).Nodup := by
  rw [halfP_succ hj]
  simp only [keys, List.map_append, List.map_cons, List.map_nil] at *
  rw [List.nodup_append]
  refine ⟨hn, by simp, ?_⟩
  intro a ha b hb e
  simp at hb
  subst hb; subst e; exact h ha
theorem pairsTo_len {bs : List Batch} {M : Nat} (h : ∀ i, (nthB bs i).has.length ≤ M) : ∀ i, (pairsTo bs i).length ≤ i * M := by
  intro i
  induction i with
  | zero => simp [pairsTo]
  | succ i ih =>
    have := h i
    simp only [pairsTo, pairsOf, List.length_append, List.length_map, Nat.succ_mul]; omega
theorem halfP_len {bs : List Batch} {M : Nat} (h : ∀ i, (nthB bs i).has.length ≤ M) (i j : Nat) : (halfP bs i j).length ≤ i * M + M := by
  have h1 := pairsTo_len h i
  have h2 := h i
  simp only [halfP, List.length_append, List.length_map, List.length_take]; omega

/-- The map reads as these pairs. -/
def MapIs (D : DataW Unit) (L : List (Str × Nat)) : Prop :=
  Maps.IsMap D ∧ (∀ x, Maps.has D (.string x) = hasB (keys L) x) ∧ ∀ x (p : Nat) z, (x, p) ∈ L → D.atKey (.string x) z = .lit (.int .i64 (p : Int))
theorem mapIs_nil : MapIs (.map []) [] := ⟨Maps.isMap_empty, fun x => by simp [Maps.has, hasB, keys], fun x p z h => by simp at h⟩
theorem lit_ne {x y : Str} (h : y ≠ x) : (Lit.string y) ≠ .string x := fun e => by injection e with e; exact h e
theorem MapIs.put {D : DataW Unit} {L : List (Str × Nat)} (h : MapIs D L) {x : Str} (hx : x ∉ keys L) (i : Nat) : MapIs (D.put (.string x) (.lit (.int .i64 (i : Int)))) (L ++ [(x, i)]) := by
  obtain ⟨h0, h1, h2⟩ := h
  have hk : WideAt.IsKeyLit (.string x) := by simp [WideAt.IsKeyLit]
  refine ⟨h0.put _ _, fun y => ?_, fun y p z hm => ?_⟩
  · by_cases e : y = x
    · subst e
      rw [Maps.has_put_same h0 hk]
      simp [hasB, keys]
    · rw [Maps.has_put_other (lit_ne e), h1, Bool.eq_iff_iff, hasB_true, hasB_true]
      simp only [keys, List.map_append, List.mem_append, List.map_cons, List.map_nil, List.mem_singleton, e, or_false]
  · rw [List.mem_append] at hm
    rcases hm with hm | hm
    · have e : y ≠ x := fun e => hx (by rw [← e]; exact List.mem_map.2 ⟨_, hm, rfl⟩)
      rw [Maps.atKey_put_other (lit_ne e)]
      exact h2 y p z hm
    · simp at hm
      obtain ⟨rfl, rfl⟩ := hm
      rw [Maps.atKey_put_same h0 hk]

end Go.Proofs.Ytdafpnpfcmgfcaa
