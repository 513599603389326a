/- The walk over the program's first: the first who can go. Safe is: some order fits. The walks over the laws' wTexts and wSome. The specification's ShareOrder once more: its list is new, and its own. The walk over DrawShareFits. -/
import Derived.Test.YtdgldjiahpdmaaaJC
import Derived.Test.YtdgldjiahpdmaaaW13
import Derived.Test.YtdgldjiahpdmaaaJF
import Derived.Deep.RegionHeld3
namespace Go.Proofs.Ytdgldjiahpdmaaa
open Go.RowKit

theorem place_self {b : Book} (h : bookOk b = true) {p : Nat} (hp : p < b.batches.length) : place (namesOf b.batches) (b.at p).name = p := by
  have hm : (b.at p).name ∈ namesOf b.batches := by
    have e : nth (namesOf b.batches) p = (b.at p).name := nth_namesOf hp
    rw [← e, nth_get (by rw [namesOf_length]; exact hp)]
    exact List.getElem_mem _
  have hlt : place (namesOf b.batches) (b.at p).name < b.batches.length := by
    have := place_lt.2 hm
    rwa [namesOf_length] at this
  exact name_inj h hlt hp (name_at rfl hlt)

theorem canGo_p {w : World} {base g bg : Nat} {vh vn : Value} {b : Book} {gone : List Str} {p : Nat} (v : Bool) (hst : GoneAt w base g bg vh vn b gone) (hok : bookOk b = true) (hlt : p < b.batches.length)
    (hv : goodN b gone p = v) :
    Calls Try.prog 49 #[.pointer (some ⟨g, 0, none⟩), .int .i64 (p : Int)] w fun e w' => e = .returned (.bool v) ∧ ∃ n, w' = w.drewN n :=
  canGo_v v hst hok (place_self hok hlt) hlt hv

theorem GoneAt.goneCell {w : World} {base g bg : Nat} {vh vn : Value} {b : Book} {gone : List Str} (h : GoneAt w base g bg vh vn b gone) : w.cell? ⟨g, 2, none⟩ = some (.slice (some ⟨bg, 0, none⟩) b.batches.length b.batches.length) := by
  obtain ⟨gl, h1, h2, h3⟩ := h
  have c := h3.cells.cell (i := 2) (by omega)
  simp only [goingCells] at c
  rw [h1] at c
  exact c

set_option maxHeartbeats 1000000 in
theorem first_v {w : World} {base g bg : Nat} {vh vn : Value} {b : Book} {gone : List Str} (hst : GoneAt w base g bg vh vn b gone) (hok : bookOk b = true) :
    Calls Try.prog 65 #[.pointer (some ⟨g, 0, none⟩)] w fun e w' =>
      ((∃ p : Nat, e = .returned (.tuple #[.int .i64 p, .bool true]) ∧ nextOf b gone = some p) ∨ (e = .returned (.tuple #[.int .i64 0, .bool false]) ∧ nextOf b gone = none)) ∧ Ext w w' := by
  have hc := hst.goneCell
  have h5 := ok_five hok
  have HOK := hid hok
  go_enter Try.func65, Try.ntmps65
  go_wp2
  go_loopw [10] (fun i wr => ∃ k : Nat, k ≤ b.batches.length ∧ i = .int .i64 k ∧ Ext w wr ∧ ∀ j, j < k → goodN b gone j = false) (fun i _ => b.batches.length - (intOf i).toNat)
  case atStart => exact ⟨0, Nat.zero_le _, rfl, Ext.rfl' _, fun j hj => by omega⟩
  case round =>
    obtain ⟨k, hk, rfl, hext, hx⟩ := hrel
    have hst' := hst.ext hext
    have HX := hid hx
    have HE := hid hext
    clear hx hext
    by_cases hlt : k < b.batches.length
    · cases hv : goodN b gone k
      · have HV := hid hv
        go_wp2_with fail
        refine (canGo_p false hst' HOK.out hlt HV.out).mono ?_
        rintro e w1 ⟨rfl, n1, rfl⟩
        go_wp2_with fail
        go_roundw
        case rel => exact ⟨k + 1, by omega, by go_num, Ext.tr HE.out (ext_drewN _ _), fun j hj => by
          by_cases e : j = k
          · rw [e]; exact HV.out
          · exact HX.out j (by omega)⟩
        case measure => simp [intOf]; omega
      · have HF := hid (nextOf_some hlt hv HX.out)
        have HV := hid hv
        clear hv
        go_wp2_with fail
        refine (canGo_p true hst' HOK.out hlt HV.out).mono ?_
        rintro e w1 ⟨rfl, n1, rfl⟩
        go_wp2_with fail
        go_ret2
        exact ⟨Or.inl ⟨k, rfl, HF.out⟩, Ext.tr HE.out (ext_drewN _ _)⟩
    · have HF := hid (nextOf_none (fun j hj => HX.out j (by omega)))
      go_wp2_with fail
      go_ret2
      exact ⟨Or.inr ⟨rfl, HF.out⟩, HE.out⟩
end Go.Proofs.Ytdgldjiahpdmaaa
namespace Go.Proofs.Ytdgldjiahpdmaaa

/-- So far each could go. -/
def Valid (b : Book) (l : List Str) : Prop := ∀ i, i < l.length → stepB b l i = true
theorem nth_left {l m : List Str} {i : Nat} (h : i < l.length) : nth (l ++ m) i = nth l i := by
  rw [nth_get (by rw [List.length_append]; omega), nth_get h, List.getElem_append_left h]
theorem stepB_left {b : Book} {l m : List Str} {i : Nat} (h : i < l.length) : stepB b (l ++ m) i = stepB b l i := by
  unfold stepB
  rw [nth_left h, List.take_append_of_le_length (by omega)]
theorem next_good {b : Book} {gone : List Str} {p : Nat} (h : nextOf b gone = some p) : p < b.batches.length ∧ hasB gone (b.at p).name = false ∧ canB b p gone = true := by
  have h1 := nextOf_lt h
  have h2 := List.find?_some h
  simp only [goodN, Bool.and_eq_true, Bool.not_eq_true'] at h2
  exact ⟨h1, h2.1, h2.2⟩
theorem valid_snoc {b : Book} {gone : List Str} {p : Nat} (hok : bookOk b = true) (hv : Valid b gone) (h : nextOf b gone = some p) : Valid b (gone ++ [(b.at p).name]) := by
  obtain ⟨h1, h2, h3⟩ := next_good h
  intro i hi
  rw [List.length_append, List.length_singleton] at hi
  by_cases e : i < gone.length
  · rw [stepB_left e]; exact hv i e
  · have e' : i = gone.length := by omega
    subst e'
    have hn : nth (gone ++ [(b.at p).name]) gone.length = (b.at p).name := by rw [nth_get (by simp)]; simp
    have ht : (gone ++ [(b.at p).name]).take gone.length = gone := by simp
    unfold stepB
    rw [hn, ht, place_self hok h1, h2, h3]
    simp [h1]
theorem greedy_fits {b : Book} (hok : bookOk b = true) : ∀ (m : Nat) (gone L : List Str), greedy b m gone = some L → Valid b gone → Valid b L ∧ L.length = gone.length + m
  | 0, gone, L, h, hv => by
    simp [greedy] at h; subst h
    exact ⟨hv, rfl⟩
  | m + 1, gone, L, h, hv => by
    cases hn : nextOf b gone with
    | none => rw [greedy_none hn] at h; cases h
    | some p =>
      rw [greedy_some hn] at h
      obtain ⟨k1, k2⟩ := greedy_fits hok m _ L h (valid_snoc hok hv hn)
      refine ⟨k1, ?_⟩
      rw [k2, List.length_append, List.length_singleton]; omega
theorem safe_ok {b : Book} (h : safeB b = true) : bookOk b = true := by
  cases hok : bookOk b
  · simp [safeB, orderOf, hok] at h
  · rfl
/-- The order told is one that fits. -/
theorem order_fits {b : Book} (h : safeB b = true) : fitsB b (orderL b) = true := by
  have hok := safe_ok h
  cases hg : orderOf b with
  | none => simp [safeB, hg] at h
  | some L =>
    have hg' : greedy b b.batches.length [] = some L := by simpa [orderOf, hok] using hg
    obtain ⟨k1, k2⟩ := greedy_fits hok _ _ L hg' (fun i hi => by simp at hi)
    have e : orderL b = L := by simp [orderL, hg]
    rw [e]
    exact fitsB_yes hok (by simpa using k2) k1

theorem can_more {b : Book} {p : Nat} {l m : List Str} (h : canB b p l = true) (hs : ∀ x ∈ l, x ∈ m) : canB b p m = true := by
  refine canB_yes (fun i hi => ?_)
  have h1 := allLt_true.1 h i hi
  simp only [Bool.not_eq_true'] at h1
  cases hc : clash b p m i
  · rfl
  · unfold clash at hc h1
    simp only [Bool.and_eq_true, Bool.not_eq_true', decide_eq_false_iff_not] at hc
    have hn : hasB l (b.at i).name = false := by
      rw [← Bool.not_eq_true, hasB_true]
      intro hx
      have := hasB_true.2 (hs _ hx)
      rw [hc.1.2] at this; cases this
    rw [hn, hc.2] at h1
    simp [hc.1.1] at h1
theorem step_parts {b : Book} {l : List Str} {i : Nat} (h : stepB b l i = true) : place (namesOf b.batches) (nth l i) < b.batches.length ∧ hasB (l.take i) (nth l i) = false ∧ canB b (place (namesOf b.batches) (nth l i)) (l.take i) = true := by
  unfold stepB at h
  simp only [Bool.and_eq_true, decide_eq_true_eq, Bool.not_eq_true'] at h
  exact ⟨h.1.1, h.1.2, h.2⟩
theorem valid_nodup {b : Book} {l : List Str} (h : Valid b l) : l.Nodup := by
  unfold List.Nodup
  rw [List.pairwise_iff_getElem]
  intro i j hi hj hij e
  have h1 := (step_parts (h j hj)).2.1
  rw [← Bool.not_eq_true, hasB_true, nth_get hj] at h1
  exact h1 (by rw [← e]; exact List.mem_take_iff_getElem.2 ⟨i, by omega, rfl⟩)
/-- If some order fits, then whoever is gone, somebody can go. -/
theorem next_some {b : Book} {order gone : List Str} (hv : Valid b order) (hlt : gone.length < order.length) : ∃ p, nextOf b gone = some p := by
  cases hn : nextOf b gone with
  | some p => exact ⟨p, rfl⟩
  | none =>
    exfalso
    have hno : ∀ j, j < b.batches.length → goodN b gone j = false := by
      intro j hj
      unfold nextOf at hn
      rw [List.find?_eq_none] at hn
      have := hn j (by simpa using hj)
      simpa using this
    have hall : ∀ k i, i < k → i < order.length → nth order i ∈ gone := by
      intro k
      induction k with
      | zero => intro i hi; omega
      | succ k ih =>
        intro i hi hio
        by_cases e : i < k
        · exact ih i e hio
        · have e' : i = k := by omega
          subst e'
          obtain ⟨h1, h2, h3⟩ := step_parts (hv i hio)
          have hsub : ∀ x ∈ order.take i, x ∈ gone := by
            intro x hx
            obtain ⟨j, hj, ej⟩ := List.mem_take_iff_getElem.1 hx
            have hj2 : j < i ∧ j < order.length := by omega
            have := ih j hj2.1 hj2.2
            rw [nth_get hj2.2, ej] at this
            exact this
          have hg := hno _ h1
          unfold goodN at hg
          rw [can_more h3 hsub] at hg
          have hnm : (b.at (place (namesOf b.batches) (nth order i))).name = nth order i := by
            have hm : nth order i ∈ namesOf b.batches := place_lt.1 (by rw [namesOf_length]; exact h1)
            have := place_nth hm
            rw [nth_namesOf h1] at this
            exact this
          rw [hnm] at hg
          cases hh : hasB gone (nth order i)
          · rw [hh] at hg; simp at hg
          · exact hasB_true.1 hh
    have hsub : order ⊆ gone := by
      intro x hx
      obtain ⟨i, hi, e⟩ := List.getElem_of_mem hx
      have := hall (i + 1) i (by omega) hi
      rw [nth_get hi, e] at this
      exact this
    have := (valid_nodup hv).length_le_of_subset hsub
    omega
theorem greedy_all {b : Book} {order : List Str} (hv : Valid b order) (hl : order.length = b.batches.length) : ∀ (m : Nat) (gone : List Str), gone.length + m = b.batches.length → ∃ L, greedy b m gone = some L
  | 0, gone, _ => ⟨gone, rfl⟩
  | m + 1, gone, h => by
    obtain ⟨p, hp⟩ := next_some (gone := gone) hv (by omega)
    rw [greedy_some hp]
    exact greedy_all hv hl m _ (by rw [List.length_append, List.length_singleton]; omega)
theorem fits_parts {b : Book} {order : List Str} (h : fitsB b order = true) : bookOk b = true ∧ order.length = b.batches.length ∧ Valid b order := by
  unfold fitsB at h
  simp only [Bool.and_eq_true, decide_eq_true_eq] at h
  exact ⟨h.1.1, h.1.2, fun i hi => allLt_true.1 h.2 i hi⟩
/-- If some order fits, the book is safe. -/
theorem fits_safe {b : Book} {order : List Str} (h : fitsB b order = true) : safeB b = true := by
  obtain ⟨h1, h2, h3⟩ := fits_parts h
  obtain ⟨L, hL⟩ := greedy_all h3 h2 b.batches.length [] (by simp)
  simp [safeB, orderOf, h1, hL]

/-- By all orders: those who are gone, and then the others in some order. -/
def someB (b : Book) : Nat → List Str → Bool
  | 0, gone => fitsB b gone
  | m + 1, gone => anyLt b.batches.length (fun i => !hasB gone (b.at i).name && someB b m (gone ++ [(b.at i).name]))
theorem some_fits {b : Book} : ∀ (m : Nat) (gone : List Str), someB b m gone = true → ∃ order, fitsB b order = true
  | 0, gone, h => ⟨gone, h⟩
  | m + 1, gone, h => by
    obtain ⟨i, hi, h1⟩ := anyLt_true.1 h
    rw [Bool.and_eq_true] at h1
    exact some_fits m _ h1.2
theorem some_of {b : Book} {order : List Str} (h : fitsB b order = true) : ∀ (m : Nat), m ≤ order.length → someB b m (order.take (order.length - m)) = true
  | 0, _ => by
    rw [Nat.sub_zero, List.take_length]; exact h
  | m + 1, hm => by
    obtain ⟨h1, h2, h3⟩ := fits_parts h
    have hk : order.length - (m + 1) < order.length := by omega
    obtain ⟨k1, k2, k3⟩ := step_parts (h3 _ hk)
    refine anyLt_of k1 ?_
    have hnm : (b.at (place (namesOf b.batches) (nth order (order.length - (m + 1))))).name = nth order (order.length - (m + 1)) := by
      have hmm : nth order (order.length - (m + 1)) ∈ namesOf b.batches := place_lt.1 (by rw [namesOf_length]; exact k1)
      have := place_nth hmm
      rw [nth_namesOf k1] at this
      exact this
    rw [hnm, k2]
    have ih := some_of h m (by omega)
    have e : order.length - m = (order.length - (m + 1)) + 1 := by omega
    rw [e, List.take_succ_eq_append_getElem hk, ← nth_get hk] at ih
    rw [ih]; rfl
theorem some_safe (b : Book) : someB b b.batches.length [] = safeB b := by
  rw [Bool.eq_iff_iff]
  constructor
  · intro h
    obtain ⟨order, ho⟩ := some_fits _ _ h
    exact fits_safe ho
  · intro h
    have hf := order_fits h
    have hl := (fits_parts hf).2.1
    have := some_of hf (orderL b).length (Nat.le_refl _)
    rw [Nat.sub_self, List.take_zero, hl] at this
    exact this
end Go.Proofs.Ytdgldjiahpdmaaa
namespace Go.Proofs.Ytdgldjiahpdmaaa
open Go.RowKit
attribute [local go_sem] S_toList S_size S_get

section
variable {P : Program} {ops : Array Oper} {Q : Exit → Act → World → Prop} {md : Region.Mode} {S : World → Prop} {z : Nat}
theorem wpT_firstN {i : Nat} {oi : Oper} {v : Value} (hi : ops[i]? = some oi) (hsel : ∀ (j : Nat) (o : Oper) cs b, ops[j]? = some o → o.op ≠ .select cs b)
    (hQ : ∀ c a w, Q (.panic c) (a.put oi.dst v) w → Q (.panic c) a w) (hz : ops.size ≤ z) :
    ∀ (fuel : Nat) (listed : Array Bool) (a : Act) (w : World),
      (∀ j oj, ops[j]? = some oj → j ≠ i → listed.getD j true = false → (∀ e ∈ oj.after, Region.binds md e = true → e.on ≠ i) → oi.apart ops oj = true) →
      i ∈ Region.ready md ops listed → YieldsIf P ops S oi v a → S w →
      wpT P md ops Q S z fuel (listed.setIfInBounds i true) (a.put oi.dst v) w → wpT P md ops Q S z (fuel + 1) listed a w
  | 0, listed, a, w, _, hr, hy, hS, H => by
    refine ⟨fun h => by rw [h] at hr; simp at hr, fun j hj => ?_⟩
    by_cases e : j = i
    · subst e; exact hy.wpOp hi hS ⟨fun _ => hS, H⟩
    · have h1 := ready_mono hj e
      rw [H.1] at h1; simp at h1
  | fuel + 1, listed, a, w, hfree, hr, hy, hS, H => by
    refine ⟨fun h => by rw [h] at hr; simp at hr, fun j hj => ?_⟩
    by_cases e : j = i
    · subst e; exact hy.wpOp hi hS ⟨fun _ => hS, H⟩
    · have h1 := H.2 j (ready_mono hj e)
      obtain ⟨hjun, oj, hoj, hall⟩ := mem_ready.1 hj
      have hno : ∀ x ∈ oj.after, Region.binds md x = true → x.on ≠ i := fun x hx hb ex => by
        have h2 := hall x hx hb
        have h0 := (mem_ready.1 hr).1
        rw [ex] at h2
        rcases Nat.lt_or_ge i listed.size with h' | h'
        · simp [h'] at h0 h2; rw [h0] at h2; cases h2
        · simp [Array.getElem?_eq_none h'] at h2
      have hjz : j ≠ z := fun ez => by
        have := (Array.getElem?_eq_some_iff.1 hoj).1
        omega
      have h2 := wpOp_putIf hoj (hfree j oj hoj e hjun hno) (fun cs b => hsel i oi cs b hi) (fun cs b => hsel j oj cs b hoj) hQ hy h1
      have hri : i ∈ Region.ready md ops (listed.setIfInBounds j true) := ready_mono hr (Ne.symm e)
      refine wpOp_mono (fun a' w' h3 => ?_) h2
      have hS' : S w' := h3.2.1 hjz
      refine ⟨fun _ => hS', wpT_firstN hi hsel hQ hz fuel (listed.setIfInBounds j true) a' w' (fun k ok hk hki hun hn2 => hfree k ok hk hki ?_ hn2) hri h3.1 hS' ?_⟩
      · by_cases ek : j = k
        · subst ek; exact hjun
        · rw [getD_set_ne true ek] at hun; exact hun
      · rw [Array.setIfInBounds_comm _ _ e]
        exact h3.2.2

theorem wpT_takeN (i : Nat) {oi : Oper} {v : Value} {fuel d : Nat} {listed : Array Bool} {l : List Value} {df : List Deferred} {w : World} (hi : ops[i]? = some oi) (hd : oi.dst = some d)
    (hs : Region.noSelect ops = true) (hz : decide (ops.size ≤ z) = true) (hf : Region.free md ops listed i = true) (hr : (Region.ready md ops listed).contains i = true)
    (hQ : ∀ c a w, Q (.panic c) (a.put (some d) v) w → Q (.panic c) a w) (hS : S w) (hw : Region.wanted oi (yielded ops l.toArray) = true) (hy : ∀ w, S w → (execOp (Act.eval { tmps := l.toArray, defers := df }) oi).run P w = .ok (.value v) w)
    (h : wpT P md ops Q S z fuel (listed.setIfInBounds i true) { tmps := (l.set d v).toArray, defers := df } w) : wpT P md ops Q S z (fuel + 1) listed { tmps := l.toArray, defers := df } w :=
  wpT_firstN hi (Region.noSelect_spec hs) (by rw [hd]; exact hQ) (of_decide_eq_true hz) fuel listed _ w (Region.free_spec hi hf) (by simpa using hr) (Or.inl ⟨hw, hy⟩) hS (by rw [hd]; simpa [Act.put] using h)

theorem wpT_done {listed : Array Bool} {a : Act} {w : World} (hr : Region.ready md ops listed = []) (h : Q .normal a w) : ∀ fuel, wpT P md ops Q S z fuel listed a w
  | 0 => ⟨hr, h⟩
  | _ + 1 => ⟨fun _ => h, fun i hi => by rw [hr] at hi; simp at hi⟩
end

set_option maxHeartbeats 400000 in
theorem wTexts_any (a b : Option Addr) (ca cb : Nat) (sa sb : List Str) (w : World) (ha : StrsAt w a sa) (hb : StrsAt w b sb) :
    Calls Try.prog 12 #[.slice a sa.length ca, .slice b sb.length cb] w fun e w' => e = .returned (.bool (eqS sa sb)) ∧ ∃ n, w' = w.drewN n := by
  have hn := ha.1
  have hn' := hb.1
  by_cases hl : sa.length = sb.length
  · have HL := hl
    have hl' : ((sa.length : Int) == (sb.length : Int)) = true := by simp; omega
    go_enter Try.func12, Try.ntmps12
    have HL : Hid (sa.length = sb.length) := hl
    have hle : sa.length ≤ sb.length := by omega
    clear hl
    go_wp2
    go_loopw [5] (fun i wr => ∃ k : Nat, k ≤ sa.length ∧ i = .int .i64 k ∧ (∃ m, wr = w.drewN m) ∧ ∀ j, j < k → (nth sa j == nth sb j) = true) (fun i _ => sa.length - (intOf i).toNat)
    case atStart => exact ⟨0, Nat.zero_le _, rfl, ⟨0, rfl⟩, fun j hj => by omega⟩
    case round =>
      obtain ⟨k, hk, rfl, hm, hx⟩ := hrel
      have HX : Hid (∀ j, j < k → (nth sa j == nth sb j) = true) := hx
      have ha' := ha.draws hm
      have hb' := hb.draws hm
      have HM : Hid (∃ m, wr = w.drewN m) := hm
      clear hx hm
      by_cases hlt : k < sa.length
      · have hltb : k < sb.length := by omega
        obtain ⟨_, ba, oa, rfl, hc⟩ := ha'.2 k hlt
        obtain ⟨_, bb, ob, rfl, hcb⟩ := hb'.2 k hltb
        cases hq : (nth sa k == nth sb k)
        · have HF : Hid (eqS sa sb = false) := eqS_no hq
          go_wp2
          go_quiet (fail)
          go_wp2
          go_ret
          exact ⟨ret_bool HF.out.symm, drewN_tr HM.out ⟨_, rfl⟩⟩
        · have HQ : Hid ((nth sa k == nth sb k) = true) := hq
          go_wp2
          go_quiet (fail)
          go_wp2
          go_roundw
          case rel => exact ⟨k + 1, by omega, by go_num, drewN_tr HM.out ⟨_, rfl⟩, fun j hj => by
            by_cases e : j = k
            · rw [e]; exact HQ.out
            · exact HX.out j (by omega)⟩
          case measure => simp [intOf]; omega
      · have HF : Hid (eqS sa sb = true) := eqS_yes HL.out (fun j hj => HX.out j (by omega))
        go_wp2
        go_ret
        exact ⟨ret_bool HF.out.symm, HM.out⟩
  · have hl' : ((sa.length : Int) == (sb.length : Int)) = false := by simp; omega
    have HF : Hid (eqS sa sb = false) := eqS_len hl
    go_enter Try.func12, Try.ntmps12
    go_wp2
    go_ret
    exact ⟨ret_bool HF.out.symm, 0, rfl⟩


set_option maxRecDepth 100000 in
set_option maxHeartbeats 2000000 in
theorem wSome_step (b : Book) (m : Nat) (IH : ∀ (gone : List Str) (x1 x2 x3 : Option Addr) (y1 y2 y3 : Nat) (w : World), BookAt w x1 x2 b → StrsAt w x3 gone → gone.length + m = b.batches.length →
      Calls Try.prog 16 #[.agg #[.slice x1 b.things.length y1, .slice x2 b.batches.length y2], .slice x3 gone.length y3] w fun e w' => e = .returned (.bool (someB b m gone)) ∧ Ext w w')
    (gone : List Str) (x1 x2 x3 : Option Addr) (y1 y2 y3 : Nat) (w : World) (hb : BookAt w x1 x2 b) (hg : StrsAt w x3 gone) (hl0 : gone.length + (m + 1) = b.batches.length) (hb5 : b.batches.length ≤ 7) :
      Calls Try.prog 16 #[.agg #[.slice x1 b.things.length y1, .slice x2 b.batches.length y2], .slice x3 gone.length y3] w fun e w' => e = .returned (.bool (someB b (m + 1) gone)) ∧ Ext w w' := by
  have hne : ((gone.length : Int) == (b.batches.length : Int)) = false := by rw [beq_eq_false_iff_ne]; omega
  have hshg := hg.short.2
  have HRX : Hid (Rec (w.alloc (.cells #[.slice x1 b.things.length y1, .slice x2 b.batches.length y2] 26)) w.heap.size 26 [.slice x1 b.things.length y1, .slice x2 b.batches.length y2]) := Rec.new w _ _
  have HE := hid (ext_alloc w (.cells #[.slice x1 b.things.length y1, .slice x2 b.batches.length y2] 26))
  have HL0 := hid hl0
  clear hl0
  go_enter Try.func16, Try.ntmps16
  go_wp2_with fail
  generalize w.alloc (.cells #[.slice x1 b.things.length y1, .slice x2 b.batches.length y2] 26) = w1 at HRX HE ⊢
  go_loopw [5] (fun i wr => ∃ k : Nat, k ≤ b.batches.length ∧ i = .int .i64 k ∧ Ext w1 wr ∧ ∀ j, j < k → (!hasB gone (b.at j).name && someB b m (gone ++ [(b.at j).name])) = false) (fun i _ => b.batches.length - (intOf i).toNat)
  case atStart => exact ⟨0, Nat.zero_le _, rfl, Ext.rfl' _, fun j hj => by omega⟩
  case round =>
    obtain ⟨k, hk, rfl, hEr, hno⟩ := hrel
    have HN := hid hno
    have HER := hid hEr
    have hrx := HRX.out.ext hEr
    have c0 := hrx.cell (i := 0) rfl
    have c1 := hrx.cell (i := 1) rfl
    have hbr := hb.ext (Ext.tr HE.out hEr)
    have hgr := hg.ext (Ext.tr HE.out hEr)
    clear hno hEr hrx
    by_cases hlt : k < b.batches.length
    · obtain ⟨ba, oa, rfl, hl, d1, g1, d2, g2, z0, z1, z2, s1, s2⟩ := hbr.2.2 k hlt
      cases hin : hasB gone (nthB b.batches k).name
      · go_upto_region 6 with fail
        go_cut [45] (fun v wx => v = .bool (someB b m (gone ++ [(b.at k).name])) ∧ Ext wr wx)
        case first =>
          refine wp_region_T (fun w' => w'.cell? ⟨w.heap.size, 0, none⟩ = some (.slice x1 b.things.length y1) ∧ w'.cell? ⟨w.heap.size, 1, none⟩ = some (.slice (some ⟨ba, oa, none⟩) b.batches.length y2) ∧ w'.cell? ⟨ba, oa + k * 3, none⟩ = some (.string (S (nthB b.batches k).name))) 24 (by kernel_rfl) ⟨c0, c1, z0⟩ (fun hS => ?_)
          refine wpT_takeN 0 (v := ?_) rfl rfl (by kernel_rfl) (by kernel_rfl) (by kernel_rfl) (by kernel_rfl) (fun _ _ _ h => h) hS rfl (by intro w0 hw0; (try dsimp only at hw0); go_simp; try rfl) ?_
          try simp only [List.set]
          refine wpT_takeN 1 (v := ?_) rfl rfl (by kernel_rfl) (by kernel_rfl) (by kernel_rfl) (by kernel_rfl) (fun _ _ _ h => h) hS rfl (by intro w0 hw0; (try dsimp only at hw0); go_simp; try rfl) ?_
          try simp only [List.set]
          refine wpT_takeN 2 (v := ?_) rfl rfl (by kernel_rfl) (by kernel_rfl) (by kernel_rfl) (by kernel_rfl) (fun _ _ _ h => h) hS rfl (by intro w0 hw0; (try dsimp only at hw0); go_simp; try rfl) ?_
          try simp only [List.set]
          refine wpT_takeN 3 (v := ?_) rfl rfl (by kernel_rfl) (by kernel_rfl) (by kernel_rfl) (by kernel_rfl) (fun _ _ _ h => h) hS rfl (by intro w0 hw0; (try dsimp only at hw0); go_simp; try rfl) ?_
          try simp only [List.set]
          refine wpT_takeN 4 (v := ?_) rfl rfl (by kernel_rfl) (by kernel_rfl) (by kernel_rfl) (by kernel_rfl) (fun _ _ _ h => h) hS rfl (by intro w0 hw0; (try dsimp only at hw0); go_simp; try rfl) ?_
          try simp only [List.set]
          refine wpT_takeN 5 (v := ?_) rfl rfl (by kernel_rfl) (by kernel_rfl) (by kernel_rfl) (by kernel_rfl) (fun _ _ _ h => h) hS rfl (by intro w0 hw0; (try dsimp only at hw0); go_simp; try rfl) ?_
          try simp only [List.set]
          refine wpT_takeN 6 (v := ?_) rfl rfl (by kernel_rfl) (by kernel_rfl) (by kernel_rfl) (by kernel_rfl) (fun _ _ _ h => h) hS rfl (by intro w0 hw0; (try dsimp only at hw0); go_simp; try rfl) ?_
          try simp only [List.set]
          refine wpT_one 7 rfl (by kernel_rfl) rfl rfl (fun K hK => ?_)
          go_simp
          refine (wHas_v _ _ _ _ _ _ (hgr.ext (ext_drewN wr 1)) hin).mono ?_
          rintro e w' ⟨rfl, rfl⟩
          go_wp2_with fail
          refine hK.out _ _ hS (fun hS1 => ?_)
          clear hK hS
          have hS := hS1
          clear hS1
          try clear K
          try simp only [put_some, List.set]
          refine wpT_takeN 8 (v := ?_) rfl rfl (by kernel_rfl) (by kernel_rfl) (by kernel_rfl) (by kernel_rfl) (fun _ _ _ h => h) hS rfl (by intro w0 hw0; (try dsimp only at hw0); go_simp; try rfl) ?_
          try simp only [List.set]
          refine wpT_takeN 9 (v := ?_) rfl rfl (by kernel_rfl) (by kernel_rfl) (by kernel_rfl) (by kernel_rfl) (fun _ _ _ h => h) hS rfl (by intro w0 hw0; (try dsimp only at hw0); go_simp; try rfl) ?_
          try simp only [List.set]
          refine wpT_takeN 10 (v := ?_) rfl rfl (by kernel_rfl) (by kernel_rfl) (by kernel_rfl) (by kernel_rfl) (fun _ _ _ h => h) hS rfl (by intro w0 hw0; (try dsimp only at hw0); go_simp; try rfl) ?_
          try simp only [List.set]
          refine wpT_takeN 12 (v := ?_) rfl rfl (by kernel_rfl) (by kernel_rfl) (by kernel_rfl) (by kernel_rfl) (fun _ _ _ h => h) hS rfl (by intro w0 hw0; (try dsimp only at hw0); go_simp; try rfl) ?_
          try simp only [List.set]
          refine wpT_takeN 14 (v := ?_) rfl rfl (by kernel_rfl) (by kernel_rfl) (by kernel_rfl) (by kernel_rfl) (fun _ _ _ h => h) hS rfl (by intro w0 hw0; (try dsimp only at hw0); go_simp; try rfl) ?_
          try simp only [List.set]
          refine wpT_takeN 15 (v := ?_) rfl rfl (by kernel_rfl) (by kernel_rfl) (by kernel_rfl) (by kernel_rfl) (fun _ _ _ h => h) hS rfl (by intro w0 hw0; (try dsimp only at hw0); go_simp; try rfl) ?_
          try simp only [List.set]
          refine wpT_takeN 16 (v := ?_) rfl rfl (by kernel_rfl) (by kernel_rfl) (by kernel_rfl) (by kernel_rfl) (fun _ _ _ h => h) hS rfl (by intro w0 hw0; (try dsimp only at hw0); go_simp; try rfl) ?_
          try simp only [List.set]
          refine wpT_takeN 17 (v := ?_) rfl rfl (by kernel_rfl) (by kernel_rfl) (by kernel_rfl) (by kernel_rfl) (fun _ _ _ h => h) hS rfl (by intro w0 hw0; (try dsimp only at hw0); go_simp; try rfl) ?_
          try simp only [List.set]
          refine wpT_takeN 18 (v := ?_) rfl rfl (by kernel_rfl) (by kernel_rfl) (by kernel_rfl) (by kernel_rfl) (fun _ _ _ h => h) hS rfl (by intro w0 hw0; (try dsimp only at hw0); go_simp; try rfl) ?_
          try simp only [List.set]
          refine wpT_takeN 19 (v := ?_) rfl rfl (by kernel_rfl) (by kernel_rfl) (by kernel_rfl) (by kernel_rfl) (fun _ _ _ h => h) hS rfl (by intro w0 hw0; (try dsimp only at hw0); go_simp; try rfl) ?_
          try simp only [List.set]
          refine wpT_two 11 20 rfl rfl (by kernel_rfl) rfl rfl rfl rfl (fun K hK => ?_) (fun K hK => ?_)
          · go_simp
            refine hK.out _ _ ⟨(ext_alloc _ _).keep hS.1, (ext_alloc _ _).keep hS.2.1, (ext_alloc _ _).keep hS.2.2⟩ (fun hS1 => ?_)
            clear hK hS
            have hS := hS1
            clear hS1
            try clear K
            try simp only [put_some, List.set]
            refine wpT_two 13 20 rfl rfl (by kernel_rfl) rfl rfl rfl rfl (fun K hK => ?_) (fun K hK => ?_)
            · have hE0 : Ext wr ((wr.drewN 1).alloc (.cells #[] 9)) := Ext.tr (ext_drewN wr 1) (ext_alloc _ _)
              have hO0 : OwnL ((wr.drewN 1).alloc (.cells #[] 9)) wr.heap.size (.slice (some ⟨wr.heap.size, 0, none⟩) 0 0) [] := OwnL.made (wr.drewN 1) wr.heap.size (Nat.le_refl _)
              refine wp_strs (L := []) (M := gone) _ _ rfl rfl hO0 rfl (hgr.ext hE0) (by simp; have := HL0.out; omega) (by simp; try omega) (fun v' wB h2 h3 h4 => ?_)
              rw [List.nil_append] at h2
              obtain ⟨aB, cB, rfl⟩ := own_sl h2
              have hobB : ∀ g', (Value.slice aB gone.length cB).ownBlock = some g' → wr.heap.size ≤ g' := fun g' e => by
                rcases h4 with h4 | h4
                · rw [h4] at e
                  have e' := Option.some.inj e
                  simp at e'
                  omega
                · rw [h4] at e
                  have e' := Option.some.inj e
                  simp at e'
                  omega
              have hEB : Ext wr wB := hE0.grown h3 (by simp; try omega) (fun g' e => by
                have e' := Option.some.inj e
                simp at e'
                omega)
              refine hK.out _ _ ⟨hEB.keep c0, hEB.keep c1, hEB.keep z0⟩ (fun hS1 => ?_)
              clear hK hS
              have hS := hS1
              clear hS1
              try clear K
              try simp only [put_some, List.set]
              refine wpT_one 20 rfl (by kernel_rfl) rfl rfl (fun K hK => ?_)
              go_simp
              refine hK.out _ _ ⟨(ext_alloc _ _).keep hS.1, (ext_alloc _ _).keep hS.2.1, (ext_alloc _ _).keep hS.2.2⟩ (fun hS1 => ?_)
              clear hK hS
              have hS := hS1
              clear hS1
              try clear K
              try simp only [put_some, List.set]
              have hET : Ext wr (wB.alloc (.cells #[.string (S (nthB b.batches k).name)] 9)) := Ext.tr hEB (ext_alloc _ _)
              have hST := one_str' wB (nthB b.batches k).name hl
              have hOT := h2.ext (ext_alloc wB (.cells #[.string (S (nthB b.batches k).name)] 9))
              have hzT := hET.size
              refine wpT_one 21 rfl (by kernel_rfl) rfl rfl (fun K hK => ?_)
              refine wp_strs (L := gone) (M := [(nthB b.batches k).name]) _ _ rfl rfl hOT rfl hST (by simp; have := HL0.out; omega) (by omega) (fun v' wC h5 h6 h7 => ?_)
              have hEC : Ext wr wC := hET.grown h6 hzT hobB
              obtain ⟨aC, cC, e7, hatC⟩ := h5.at (by simp; have := HL0.out; omega) (hshg.snoc hl)
              subst e7
              have hln : (gone ++ [(nthB b.batches k).name]).length = gone.length + 1 := by simp
              have hIH := IH (gone ++ [(nthB b.batches k).name]) x1 (some ⟨ba, oa, none⟩) aC y1 y2 cC wC (hbr.ext hEC) hatC (by rw [hln]; have := HL0.out; omega)
              rw [hln] at hIH ⊢
              refine hK.out _ _ ⟨hEC.keep c0, hEC.keep c1, hEC.keep z0⟩ (fun hS1 => ?_)
              clear hK hS
              have hS := hS1
              clear hS1
              try clear K
              try simp only [put_some, List.set]
              refine wpT_one 22 rfl (by kernel_rfl) rfl rfl (fun K hK => ?_)
              go_simp
              refine hIH.mono ?_
              rintro e wD ⟨rfl, hED⟩
              have HED := hid (Ext.tr hEC hED)
              go_wp2_with fail
              refine hK.out _ _ ⟨HED.out.keep c0, HED.out.keep c1, HED.out.keep z0⟩ (fun hS1 => ?_)
              clear hK hS
              have hS := hS1
              clear hS1
              try clear K
              try simp only [put_some, List.set]
              clear h2 h3 h4 h5 h6 h7 hEB hEC hET hobB hOT hST hO0 hE0 hIH hED hatC
              refine wpT_takeN 23 (v := ?_) rfl rfl (by kernel_rfl) (by kernel_rfl) (by kernel_rfl) (by kernel_rfl) (fun _ _ _ h => h) hS rfl (by intro w0 hw0; (try dsimp only at hw0); go_simp; try rfl) ?_
              try simp only [List.set]
              refine wpT_done (by kernel_rfl) ?_ _
              clear hS
              go_wp2_with fail
              go_meet
              exact ⟨rfl, HED.out⟩
            · go_simp
              refine hK.out _ _ ⟨(ext_alloc _ _).keep hS.1, (ext_alloc _ _).keep hS.2.1, (ext_alloc _ _).keep hS.2.2⟩ (fun hS1 => ?_)
              clear hK hS
              have hS := hS1
              clear hS1
              try clear K
              try simp only [put_some, List.set]
              refine wpT_one 13 rfl (by kernel_rfl) rfl rfl (fun K hK => ?_)
              have hE0 : Ext wr (((wr.drewN 1).alloc (.cells #[] 9)).alloc (.cells #[.string (S (nthB b.batches k).name)] 9)) := Ext.tr (Ext.tr (ext_drewN wr 1) (ext_alloc _ _)) (ext_alloc _ _)
              have hO0 : OwnL (((wr.drewN 1).alloc (.cells #[] 9)).alloc (.cells #[.string (S (nthB b.batches k).name)] 9)) wr.heap.size (.slice (some ⟨wr.heap.size, 0, none⟩) 0 0) [] := (OwnL.made (wr.drewN 1) wr.heap.size (Nat.le_refl _)).ext (ext_alloc _ _)
              have hS0 := one_str' ((wr.drewN 1).alloc (.cells #[] 9)) (nthB b.batches k).name hl
              refine wp_strs (L := []) (M := gone) _ _ rfl rfl hO0 rfl (hgr.ext hE0) (by simp; have := HL0.out; omega) (by simp; try omega) (fun v' wB h2 h3 h4 => ?_)
              rw [List.nil_append] at h2
              obtain ⟨aB, cB, rfl⟩ := own_sl h2
              have hobB : ∀ g', (Value.slice aB gone.length cB).ownBlock = some g' → wr.heap.size ≤ g' := fun g' e => by
                rcases h4 with h4 | h4
                · rw [h4] at e
                  have e' := Option.some.inj e
                  simp at e'
                  omega
                · rw [h4] at e
                  have e' := Option.some.inj e
                  simp at e'
                  omega
              have hEB : Ext wr wB := hE0.grown h3 (by simp; try omega) (fun g' e => by
                have e' := Option.some.inj e
                simp at e'
                omega)
              refine hK.out _ _ ⟨hEB.keep c0, hEB.keep c1, hEB.keep z0⟩ (fun hS1 => ?_)
              clear hK hS
              have hS := hS1
              clear hS1
              try clear K
              try simp only [put_some, List.set]
              have hST : StrsAt wB (some ⟨wr.heap.size + 1, 0, none⟩) [(nthB b.batches k).name] := by
                have h := hS0.gb h3 (fun _ b' o' e' => by
                  cases e'
                  intro er
                  have e' := Option.some.inj er
                  simp at e')
                simpa using h
              have hET : Ext wr wB := hEB
              have hOT := h2
              have hzT := hET.size
              refine wpT_one 21 rfl (by kernel_rfl) rfl rfl (fun K hK => ?_)
              refine wp_strs (L := gone) (M := [(nthB b.batches k).name]) _ _ rfl rfl hOT rfl hST (by simp; have := HL0.out; omega) (by omega) (fun v' wC h5 h6 h7 => ?_)
              have hEC : Ext wr wC := hET.grown h6 hzT hobB
              obtain ⟨aC, cC, e7, hatC⟩ := h5.at (by simp; have := HL0.out; omega) (hshg.snoc hl)
              subst e7
              have hln : (gone ++ [(nthB b.batches k).name]).length = gone.length + 1 := by simp
              have hIH := IH (gone ++ [(nthB b.batches k).name]) x1 (some ⟨ba, oa, none⟩) aC y1 y2 cC wC (hbr.ext hEC) hatC (by rw [hln]; have := HL0.out; omega)
              rw [hln] at hIH ⊢
              refine hK.out _ _ ⟨hEC.keep c0, hEC.keep c1, hEC.keep z0⟩ (fun hS1 => ?_)
              clear hK hS
              have hS := hS1
              clear hS1
              try clear K
              try simp only [put_some, List.set]
              refine wpT_one 22 rfl (by kernel_rfl) rfl rfl (fun K hK => ?_)
              go_simp
              refine hIH.mono ?_
              rintro e wD ⟨rfl, hED⟩
              have HED := hid (Ext.tr hEC hED)
              go_wp2_with fail
              refine hK.out _ _ ⟨HED.out.keep c0, HED.out.keep c1, HED.out.keep z0⟩ (fun hS1 => ?_)
              clear hK hS
              have hS := hS1
              clear hS1
              try clear K
              try simp only [put_some, List.set]
              clear h2 h3 h4 h5 h6 h7 hEB hEC hET hobB hOT hST hO0 hE0 hIH hED hatC
              refine wpT_takeN 23 (v := ?_) rfl rfl (by kernel_rfl) (by kernel_rfl) (by kernel_rfl) (by kernel_rfl) (fun _ _ _ h => h) hS rfl (by intro w0 hw0; (try dsimp only at hw0); go_simp; try rfl) ?_
              try simp only [List.set]
              refine wpT_done (by kernel_rfl) ?_ _
              clear hS
              go_wp2_with fail
              go_meet
              exact ⟨rfl, HED.out⟩
          · go_simp
            refine hK.out _ _ ⟨(ext_alloc _ _).keep hS.1, (ext_alloc _ _).keep hS.2.1, (ext_alloc _ _).keep hS.2.2⟩ (fun hS1 => ?_)
            clear hK hS
            have hS := hS1
            clear hS1
            try clear K
            try simp only [put_some, List.set]
            refine wpT_one 11 rfl (by kernel_rfl) rfl rfl (fun K hK => ?_)
            go_simp
            refine hK.out _ _ ⟨(ext_alloc _ _).keep hS.1, (ext_alloc _ _).keep hS.2.1, (ext_alloc _ _).keep hS.2.2⟩ (fun hS1 => ?_)
            clear hK hS
            have hS := hS1
            clear hS1
            try clear K
            try simp only [put_some, List.set]
            refine wpT_one 13 rfl (by kernel_rfl) rfl rfl (fun K hK => ?_)
            have hE0 : Ext wr (((wr.drewN 1).alloc (.cells #[.string (S (nthB b.batches k).name)] 9)).alloc (.cells #[] 9)) := Ext.tr (Ext.tr (ext_drewN wr 1) (ext_alloc _ _)) (ext_alloc _ _)
            have hO0 : OwnL (((wr.drewN 1).alloc (.cells #[.string (S (nthB b.batches k).name)] 9)).alloc (.cells #[] 9)) wr.heap.size (.slice (some ⟨wr.heap.size + 1, 0, none⟩) 0 0) [] := by have h := OwnL.made ((wr.drewN 1).alloc (.cells #[.string (S (nthB b.batches k).name)] 9)) wr.heap.size (by simp); simpa using h
            have hS0 := (one_str' (wr.drewN 1) (nthB b.batches k).name hl).ext (ext_alloc ((wr.drewN 1).alloc (.cells #[.string (S (nthB b.batches k).name)] 9)) (.cells #[] 9))
            refine wp_strs (L := []) (M := gone) _ _ rfl rfl hO0 rfl (hgr.ext hE0) (by simp; have := HL0.out; omega) (by simp; try omega) (fun v' wB h2 h3 h4 => ?_)
            rw [List.nil_append] at h2
            obtain ⟨aB, cB, rfl⟩ := own_sl h2
            have hobB : ∀ g', (Value.slice aB gone.length cB).ownBlock = some g' → wr.heap.size ≤ g' := fun g' e => by
              rcases h4 with h4 | h4
              · rw [h4] at e
                have e' := Option.some.inj e
                simp at e'
                omega
              · rw [h4] at e
                have e' := Option.some.inj e
                simp at e'
                omega
            have hEB : Ext wr wB := hE0.grown h3 (by simp; try omega) (fun g' e => by
              have e' := Option.some.inj e
              simp at e'
              omega)
            refine hK.out _ _ ⟨hEB.keep c0, hEB.keep c1, hEB.keep z0⟩ (fun hS1 => ?_)
            clear hK hS
            have hS := hS1
            clear hS1
            try clear K
            try simp only [put_some, List.set]
            have hST : StrsAt wB (some ⟨wr.heap.size, 0, none⟩) [(nthB b.batches k).name] := by
              have h := hS0.gb h3 (fun _ b' o' e' => by
                cases e'
                intro er
                have e' := Option.some.inj er
                simp at e')
              simpa using h
            have hET : Ext wr wB := hEB
            have hOT := h2
            have hzT := hET.size
            refine wpT_one 21 rfl (by kernel_rfl) rfl rfl (fun K hK => ?_)
            refine wp_strs (L := gone) (M := [(nthB b.batches k).name]) _ _ rfl rfl hOT rfl hST (by simp; have := HL0.out; omega) (by omega) (fun v' wC h5 h6 h7 => ?_)
            have hEC : Ext wr wC := hET.grown h6 hzT hobB
            obtain ⟨aC, cC, e7, hatC⟩ := h5.at (by simp; have := HL0.out; omega) (hshg.snoc hl)
            subst e7
            have hln : (gone ++ [(nthB b.batches k).name]).length = gone.length + 1 := by simp
            have hIH := IH (gone ++ [(nthB b.batches k).name]) x1 (some ⟨ba, oa, none⟩) aC y1 y2 cC wC (hbr.ext hEC) hatC (by rw [hln]; have := HL0.out; omega)
            rw [hln] at hIH ⊢
            refine hK.out _ _ ⟨hEC.keep c0, hEC.keep c1, hEC.keep z0⟩ (fun hS1 => ?_)
            clear hK hS
            have hS := hS1
            clear hS1
            try clear K
            try simp only [put_some, List.set]
            refine wpT_one 22 rfl (by kernel_rfl) rfl rfl (fun K hK => ?_)
            go_simp
            refine hIH.mono ?_
            rintro e wD ⟨rfl, hED⟩
            have HED := hid (Ext.tr hEC hED)
            go_wp2_with fail
            refine hK.out _ _ ⟨HED.out.keep c0, HED.out.keep c1, HED.out.keep z0⟩ (fun hS1 => ?_)
            clear hK hS
            have hS := hS1
            clear hS1
            try clear K
            try simp only [put_some, List.set]
            clear h2 h3 h4 h5 h6 h7 hEB hEC hET hobB hOT hST hO0 hE0 hIH hED hatC
            refine wpT_takeN 23 (v := ?_) rfl rfl (by kernel_rfl) (by kernel_rfl) (by kernel_rfl) (by kernel_rfl) (fun _ _ _ h => h) hS rfl (by intro w0 hw0; (try dsimp only at hw0); go_simp; try rfl) ?_
            try simp only [List.set]
            refine wpT_done (by kernel_rfl) ?_ _
            clear hS
            go_wp2_with fail
            go_meet
            exact ⟨rfl, HED.out⟩
        case rest =>
          obtain ⟨rfl, hEx⟩ := hcut
          have HE2 := hid (Ext.tr HER.out hEx)
          clear hEx
          cases hsm : someB b m (gone ++ [(b.at k).name])
          · go_wp2
            go_roundw
            case rel => exact ⟨k + 1, by omega, by go_num, HE2.out, fun j hj => by
              by_cases e : j = k
              · rw [e, hsm]; simp
              · exact HN.out j (by omega)⟩
            case measure => simp [intOf]; omega
          · have HF : Hid (someB b (m + 1) gone = true) := anyLt_of hlt (by rw [hsm]; simp [Book.at, hin])
            go_wp2
            go_ret
            exact ⟨by rw [HF.out]; rfl, Ext.tr HE.out HE2.out⟩
      · have hng : (!hasB gone (nthB b.batches k).name) = false := by rw [hin]; rfl
        go_upto_region 6 with fail
        go_cut [45] (fun v wx => v = .bool false ∧ Ext wr wx)
        case first =>
          go_quiet ((go_at_call 23; exact Calls.quiet_of_same (wHas_v _ _ _ _ _ _ (hgr.drewN _) hin)))
          go_wp2_with fail
          go_meet
          exact ⟨rfl, ext_drewN _ _⟩
        case rest =>
          obtain ⟨rfl, hEx⟩ := hcut
          have HE2 := hid (Ext.tr HER.out hEx)
          clear hEx
          go_wp2
          go_roundw
          case rel => exact ⟨k + 1, by omega, by go_num, HE2.out, fun j hj => by
            by_cases e : j = k
            · rw [e]; simp [Book.at, hin]
            · exact HN.out j (by omega)⟩
          case measure => simp [intOf]; omega
    · have HF : Hid (someB b (m + 1) gone = false) := anyLt_no (fun j hj => HN.out j (by omega))
      go_wp2
      go_ret
      exact ⟨by rw [HF.out]; rfl, Ext.tr HE.out HER.out⟩

set_option maxHeartbeats 400000 in
theorem wSome_zero (b : Book) (gone : List Str) (x1 x2 x3 : Option Addr) (y1 y2 y3 : Nat) (w : World) (hb : BookAt w x1 x2 b) (hg : StrsAt w x3 gone) (hl0 : gone.length = b.batches.length) :
      Calls Try.prog 16 #[.agg #[.slice x1 b.things.length y1, .slice x2 b.batches.length y2], .slice x3 gone.length y3] w fun e w' => e = .returned (.bool (someB b 0 gone)) ∧ Ext w w' := by
  have hne : ((gone.length : Int) == (b.batches.length : Int)) = true := by rw [beq_iff_eq]; omega
  have HRX : Hid (Rec (w.alloc (.cells #[.slice x1 b.things.length y1, .slice x2 b.batches.length y2] 26)) w.heap.size 26 [.slice x1 b.things.length y1, .slice x2 b.batches.length y2]) := Rec.new w _ _
  clear hl0
  go_enter Try.func16, Try.ntmps16
  go_wp2_with fail
  refine (implFits_any b gone _ _ _ _ _ _ _ (hb.ext (ext_alloc _ _)) (hg.ext (ext_alloc _ _))).mono ?_
  rintro e w1 ⟨rfl, hE1⟩
  have HE := hid (Ext.tr (ext_alloc _ _) hE1)
  clear hE1
  go_wp2
  go_ret
  exact ⟨rfl, HE.out⟩
theorem wSome_any (b : Book) (hb7 : b.batches.length ≤ 7) : ∀ (m : Nat) (gone : List Str) (x1 x2 x3 : Option Addr) (y1 y2 y3 : Nat) (w : World), BookAt w x1 x2 b → StrsAt w x3 gone → gone.length + m = b.batches.length →
      Calls Try.prog 16 #[.agg #[.slice x1 b.things.length y1, .slice x2 b.batches.length y2], .slice x3 gone.length y3] w fun e w' => e = .returned (.bool (someB b m gone)) ∧ Ext w w'
  | 0, gone, x1, x2, x3, y1, y2, y3, w, hb, hg, hl => wSome_zero b gone x1 x2 x3 y1 y2 y3 w hb hg (by omega)
  | m + 1, gone, x1, x2, x3, y1, y2, y3, w, hb, hg, hl => wSome_step b m (wSome_any b hb7 m) gone x1 x2 x3 y1 y2 y3 w hb hg hl hb7
end Go.Proofs.Ytdgldjiahpdmaaa
namespace Go.Proofs.Ytdgldjiahpdmaaa
open Go.RowKit
attribute [local go_sem] S_toList S_size S_get

set_option maxHeartbeats 1000000 in
set_option maxRecDepth 100000 in
theorem specOrder_own (b : Book) (a1 a2 : Option Addr) (c1 c2 : Nat) (w : World) (hb : BookAt w a1 a2 b) :
    Calls Try.prog 11 #[.agg #[.slice a1 b.things.length c1, .slice a2 b.batches.length c2]] w fun e w' =>
      ∃ v, e = .returned (.tuple #[v, .bool (safeB b)]) ∧ Ext w w' ∧ OwnL w' w.heap.size v (orderL b) := by
  have hal : ∀ o, Ext w (w.alloc o) := fun o => (Below.refl _ _).alloc (Nat.le_refl _) _
  have hn := hb.2.1
  obtain ⟨i0, hi, hz0, hz1, hz2⟩ := info_str
  cases hok : bookOk b
  · have HF : Hid (orderL b = [] ∧ safeB b = false) := by constructor <;> simp [orderL, safeB, orderOf, hok]
    go_enter Try.func11, Try.ntmps11
    go_wp2_with fail
    have e2 : ∀ o1 o2, Ext w ((w.alloc o1).alloc o2) := fun o1 o2 => ((Below.refl _ _).alloc (Nat.le_refl _) _).alloc (by simp) _
    refine (specBookOk_any b _ _ _ _ _ (hb.ext (e2 _ _))).mono ?_
    rintro e w1 ⟨rfl, hext1⟩
    have HE1 := hid (Ext.tr (e2 _ _) hext1)
    have HOW : Hid (OwnL w1 w.heap.size (.slice (some ⟨w.heap.size + 1, 0, none⟩) 0 0) []) := by
      refine OwnL.ext ?_ hext1
      have h := World.ownsRow_made (base := w.heap.size) (e := 9) (size := 1) (w.alloc (.cells #[.slice a1 b.things.length c1, .slice a2 b.batches.length c2] 26)) #[] 0 (by simp) (by unfold maxLen; omega) (by simp)
      have hs : (w.alloc (.cells #[.slice a1 b.things.length c1, .slice a2 b.batches.length c2] 26)).heap.size = w.heap.size + 1 := by simp
      rw [hs] at h
      exact h
    clear hext1
    go_wp2_with fail
    go_ret2
    refine ⟨.slice (some ⟨w.heap.size + 1, 0, none⟩) 0 0, ?_, HE1.out, ?_⟩
    · rw [HF.out.2]; rfl
    · rw [HF.out.1]; exact HOW.out
  · have h5 : b.batches.length ≤ 5 := by
      have h := hok
      unfold bookOk at h
      simp only [Bool.and_eq_true, decide_eq_true_eq] at h
      exact h.1.2
    have HOR : Hid (orderOf b = greedy b b.batches.length []) := by show _ = _; simp [orderOf, hok]
    go_enter Try.func11, Try.ntmps11
    go_wp2_with fail
    have e2 : ∀ o1 o2, Ext w ((w.alloc o1).alloc o2) := fun o1 o2 => ((Below.refl _ _).alloc (Nat.le_refl _) _).alloc (by simp) _
    refine (specBookOk_any b _ _ _ _ _ (hb.ext (e2 _ _))).mono ?_
    rintro e w1 ⟨rfl, hext1⟩
    have HOW : Hid (OwnL w1 (w.heap.size + 1) (.slice (some ⟨w.heap.size + 1, 0, none⟩) 0 0) []) := by
      refine OwnL.ext ?_ hext1
      have h := World.ownsRow_made (base := w.heap.size + 1) (e := 9) (size := 1) (w.alloc (.cells #[.slice a1 b.things.length c1, .slice a2 b.batches.length c2] 26)) #[] 0 (by simp) (by unfold maxLen; omega) (by simp)
      have hs : (w.alloc (.cells #[.slice a1 b.things.length c1, .slice a2 b.batches.length c2] 26)).heap.size = w.heap.size + 1 := by simp
      rw [hs] at h
      exact h
    have HB1 : Hid (Below (w.heap.size + 1) (w.alloc (.cells #[.slice a1 b.things.length c1, .slice a2 b.batches.length c2] 26)) w1) :=
      Below.trans ((Below.refl _ _).alloc (by simp) _) (Below.mono hext1 (by simp))
    have hx0 := box_cell (Below.mono HB1.out (by simp)) (i := 0) rfl
    have hx1 := box_cell (Below.mono HB1.out (by simp)) (i := 1) rfl
    clear hext1
    go_wp2_with fail
    go_loopw [4] (fun v wr => ∃ (k : Nat) (L : List Str), k ≤ b.batches.length ∧ L.length = k ∧ Below (w.heap.size + 1) (w.alloc (.cells #[.slice a1 b.things.length c1, .slice a2 b.batches.length c2] 26)) wr ∧ OwnL wr (w.heap.size + 1) v L ∧ ShortL L ∧ greedy b (b.batches.length - k) L = greedy b b.batches.length []) (fun v _ => b.batches.length - lenOf v)
    case atStart => exact ⟨0, [], Nat.zero_le _, rfl, HB1.out, HOW.out, ShortL.nil, rfl⟩
    case round =>
      clear hx0 hx1
      obtain ⟨k, L, hk, hL, hbel, hown, hsh, hgr⟩ := hrel
      have hx0 := box_cell (Below.mono hbel (by simp)) (i := 0) rfl
      have hx1 := box_cell (Below.mono hbel (by simp)) (i := 1) rfl
      have hb' := hb.ext (Ext.tr (hal _) (Below.mono hbel (by simp)))
      have hz := hbel.size
      simp at hz
      obtain ⟨ag, cg, rfl, hat⟩ := hown.at (by omega) hsh
      have HB := hid hbel
      have HO := hid hown
      have HS := hid hsh
      have HG := hid hgr
      have HLK := hid hL
      clear hbel hown hsh hgr
      by_cases hlt : k < b.batches.length
      · have hlt' : L.length < b.batches.length := by omega
        clear hL
        go_wp2_with fail
        refine (l2Next_any b L _ _ _ _ _ _ _ hb' hat).mono ?_
        rintro e w2 ⟨(⟨i, rfl, hnx⟩ | ⟨rfl, hnx⟩), hext2⟩
        · have hilt := nextOf_lt hnx
          have HNX := hid hnx
          have hb2 := hb'.ext hext2
          have HO2 := hid (HO.out.ext hext2)
          have HB2 : Hid (Below (w.heap.size + 1) (w.alloc (.cells #[.slice a1 b.things.length c1, .slice a2 b.batches.length c2] 26)) w2) := Below.trans HB.out (Below.mono hext2 (by omega))
          have hzz2 := hext2.size
          obtain ⟨ba, oa, rfl, hl, d1, g1, d2, g2, p0, p1, p2, s1, s2⟩ := hb2.2.2 i hilt
          clear hx0 hx1 hnx hext2 hb' hb2 hat
          have hx0 := box_cell (Below.mono HB2.out (by simp)) (i := 0) rfl
          have hx1 := box_cell (Below.mono HB2.out (by simp)) (i := 1) rfl
          go_wp2_with (at_builtin; refine wpList_append_own _ rfl _ _ 23 rfl (w.heap.size + 1) 9 i0 (.string (S [])) 1 16 Try.underlying23 hi hz0 hz1 hz2 rfl (by decide) _ _ _ rfl (World.ownsRow.alloc HO2.out _) ⟨w2.heap.size, 0, none⟩ 1 1 [.string (S (nthB b.batches i).name)] rfl rfl ?q1 ?q2 ?q3 ?q4 ?q5 ?_)
          case q1 =>
            intro j u hj
            match j, hj with
            | 0, hj => simp at hj; subst hj; simp [Addr.add]
          case q2 => intro u hu; simp at hu; subst hu; rfl
          case q3 => unfold maxLen; omega
          case q4 => omega
          case q5 => simp; omega
          · intro v' w3 hown' hgrow _
            have HN : Hid (OwnL w3 (w.heap.size + 1) v' (L ++ [(nthB b.batches i).name])) := OwnL.step hown'
            have HB3 : Hid (Below (w.heap.size + 1) (w.alloc (.cells #[.slice a1 b.things.length c1, .slice (some ⟨ba, oa, none⟩) b.batches.length c2] 26)) w3) := (HB2.out.alloc (by omega) _).grown hgrow (by simp; omega) (fun g hg => (HO2.out.lt g hg).1)
            have HLN : Hid (lenOf v' = L.length + 1) := by
              obtain ⟨a', c', e, _⟩ := HN.out.at (by simp; omega) (HS.out.snoc hl)
              show lenOf v' = L.length + 1
              rw [e]; simp [lenOf]
            clear hown' hgrow
            go_wp2
            go_roundw
            case rel =>
              refine ⟨k + 1, L ++ [(nthB b.batches i).name], by omega, by rw [List.length_append, HLK.out]; rfl, HB3.out, HN.out, HS.out.snoc hl, ?_⟩
              rw [← HG.out]
              have e : b.batches.length - k = (b.batches.length - (k + 1)) + 1 := by omega
              rw [e, greedy_some HNX.out]; rfl
            case measure =>
              have h1 := HLN.out
              simp only [lenOf] at *
              omega
        · have HF : Hid (orderL b = [] ∧ safeB b = false) := by
            have h : orderOf b = none := by
              rw [HOR.out, ← HG.out]
              have e : b.batches.length - k = (b.batches.length - (k + 1)) + 1 := by omega
              rw [e, greedy_none hnx]
            constructor
            · simp [orderL, h]
            · simp [safeB, h]
          have HE2 := hid (Ext.tr (hal _) (Ext.tr (Below.mono HB.out (by simp)) hext2))
          clear hnx hext2
          go_wp2_with fail
          go_ret2
          refine ⟨.slice (some ⟨w2.heap.size, 0, none⟩) 0 0, ?_, Ext.tr HE2.out (ext_alloc _ _), ?_⟩
          · rw [HF.out.2]; rfl
          · rw [HF.out.1]; exact OwnL.made w2 _ HE2.out.size
      · have HF : Hid (orderL b = L ∧ safeB b = true) := by
          have h : orderOf b = some L := by
            rw [HOR.out, ← HG.out]
            have e : b.batches.length - k = 0 := by omega
            rw [e]; rfl
          constructor
          · simp [orderL, h]
          · simp [safeB, h]
        have hnlt : ¬ L.length < b.batches.length := by omega
        have HAT := hid hat
        clear hL hat
        go_wp2_with fail
        go_ret2
        refine ⟨.slice ag L.length cg, ?_, Ext.tr (hal _) (Below.mono HB.out (by simp)), ?_⟩
        · rw [HF.out.2]; rfl
        · rw [HF.out.1]; exact HO.out.low (by omega)
end Go.Proofs.Ytdgldjiahpdmaaa
namespace Go.Proofs.Ytdgldjiahpdmaaa
open Go.RowKit
attribute [local go_sem] S_toList S_size S_get

def wordsF : List Str := [[], [97, 108, 101], [122, 122]]
theorem wordsF_short : ShortS wordsF := ⟨by simp [wordsF], fun i hi => by
  match i, hi with
  | 0, _ => simp [wordsF, nth]
  | 1, _ => simp [wordsF, nth]
  | 2, _ => simp [wordsF, nth]⟩
theorem ShortL.app {l m : List Str} (h1 : ShortL l) (h2 : ShortL m) : ShortL (l ++ m) := by
  rw [short_iff] at *
  intro x hx
  rcases List.mem_append.1 hx with h | h
  · exact h1 x h
  · exact h2 x h
theorem ShortL.part {l m : List Str} (h : ShortL l) (hs : ∀ x ∈ m, x ∈ l) : ShortL m := by
  rw [short_iff] at *
  exact fun x hx => h x (hs x hx)

theorem greedy_mem {b : Book} : ∀ (m : Nat) (gone L : List Str), greedy b m gone = some L → ∀ x ∈ L, x ∈ gone ∨ ∃ i, i < b.batches.length ∧ x = (b.at i).name
  | 0, gone, L, h, x, hx => by
    simp [greedy] at h; subst h
    exact Or.inl hx
  | m + 1, gone, L, h, x, hx => by
    cases hn : nextOf b gone with
    | none => rw [greedy_none hn] at h; cases h
    | some p =>
      rw [greedy_some hn] at h
      rcases greedy_mem m _ L h x hx with h1 | h1
      · rcases List.mem_append.1 h1 with h2 | h2
        · exact Or.inl h2
        · simp at h2
          exact Or.inr ⟨p, nextOf_lt hn, h2⟩
      · exact Or.inr h1
theorem orderL_le (b : Book) : (orderL b).length ≤ b.batches.length := by
  cases hg : orderOf b with
  | none => simp [orderL, hg]
  | some L =>
    have hs : safeB b = true := by simp [safeB, hg]
    have := (fits_parts (order_fits hs)).2.1
    omega
theorem orderL_short {w : World} {a1 a2 : Option Addr} {b : Book} (h : BookAt w a1 a2 b) : ShortL (orderL b) := by
  rw [short_iff]
  intro x hx
  cases hg : orderOf b with
  | none => simp [orderL, hg] at hx
  | some L =>
    have e : orderL b = L := by simp [orderL, hg]
    rw [e] at hx
    have hok : bookOk b = true := safe_ok (by simp [safeB, hg])
    have hg' : greedy b b.batches.length [] = some L := by simpa [orderOf, hok] using hg
    rcases greedy_mem _ _ L hg' x hx with h1 | ⟨i, hi, rfl⟩
    · simp at h1
    · exact name_le h.2 hi

set_option maxRecDepth 100000 in
set_option maxHeartbeats 1000000 in
theorem drawFits_any (a : Option Addr) (n c : Nat) (w : World) (h : BytesAt w a n) (hn : n ≤ c) (hc : c ≤ 140737488355328) :
    Calls Try.prog 18 #[.slice a n c] w fun e w' =>
      ∃ (b : Book) (L : List Str) (x1 x2 x3 : Option Addr) (y1 y2 y3 : Nat), e = .returned (.tuple #[.agg #[.slice x1 b.things.length y1, .slice x2 b.batches.length y2], .slice x3 L.length y3]) ∧ Ext w w' ∧ BookAt w' x1 x2 b ∧ StrsAt w' x3 L ∧ L.length ≤ y3 ∧ SmB9 b := by
  have hby : BytesAt (w.alloc (.cells #[.slice none 0 0, .slice none 0 0] 26)) a n := h.gb (gb_none (ext_alloc _ _)) (fun b o e hp => by simp)
  go_enter Try.func18, Try.ntmps18
  go_wp2_with fail
  refine (l1Open_any a n c _ hby hn hc).mono ?_
  rintro e w1 ⟨rfl, hE1, hr1⟩
  have hz1 := hr1.lt
  simp at hr1 hz1
  have HRR : Hid (Rec w1 w.heap.size 26 [.slice none 0 0, .slice none 0 0]) := (Rec.new w _ _).ext hE1
  have HE1 := hid (Ext.tr (ext_alloc _ _) hE1)
  clear hE1
  go_wp2_with fail
  refine (l5Any_any (w.heap.size + 1) 0 w1 hr1 (by omega)).mono ?_
  rintro e w2 ⟨b, x1, x2, y1, y2, rfl, hg2, hr2, hb2, hsm⟩
  have hz2 := hg2.size
  have HE2 := hid (Ext.tr (on_new HE1.out (by omega) hg2) (ext_alloc w2 (.cells #[.slice x1 b.things.length y1, .slice x2 b.batches.length y2] 26)))
  have HRR2 := hid ((HRR.out.kept hg2 (by simp)).ext (ext_alloc w2 (.cells #[.slice x1 b.things.length y1, .slice x2 b.batches.length y2] 26)))
  have HB2 := hid (hb2.ext (ext_alloc w2 (.cells #[.slice x1 b.things.length y1, .slice x2 b.batches.length y2] 26)))
  have HRd2 := hid (hr2.ext (ext_alloc w2 (.cells #[.slice x1 b.things.length y1, .slice x2 b.batches.length y2] 26)))
  have HRX2 : Hid (Rec (w2.alloc (.cells #[.slice x1 b.things.length y1, .slice x2 b.batches.length y2] 26)) w2.heap.size 26 [.slice x1 b.things.length y1, .slice x2 b.batches.length y2]) := Rec.new w2 _ _
  clear hg2 hr2 hb2 HRR HE1 hr1
  have m0 := HRX2.out.cell (i := 0) rfl
  have m1 := HRX2.out.cell (i := 1) rfl
  go_wp2_with fail
  clear m0 m1
  generalize w2.alloc (.cells #[.slice x1 b.things.length y1, .slice x2 b.batches.length y2] 26) = w4 at HE2 HRR2 HB2 HRd2 HRX2 ⊢
  have hXw : w.heap.size + 1 + 1 ≤ w2.heap.size := by omega
  generalize w2.heap.size = X at HRX2 hXw ⊢
  have hX4 := HRX2.out.lt
  have hb7 := hsm.2.1
  refine (specOrder_own b _ _ _ _ _ HB2.out).mono ?_
  rintro e w5 ⟨v5, rfl, hE5, ho5⟩
  obtain ⟨a5, c5, rfl⟩ := own_sl ho5
  have hso : ShortL (orderL b) := orderL_short HB2.out
  have hlo : (orderL b).length ≤ 7 := Nat.le_trans (orderL_le b) hb7
  have HO5 := hid ho5
  have HG5 : Hid (w4.grownBy w5 (some (w.heap.size + 1))) := gb_ext hE5 _
  have HR5 := hid (HRd2.out.ext hE5)
  clear ho5 hE5
  generalize orderL b = L5 at hso hlo HO5 ⊢
  generalize safeB b = sb
  go_upto_region 4 with fail
  go_cut [6, 25] (fun s6 v wx => (s6 = .slice a5 L5.length c5 ∧ ∃ x : Bool, v = .bool x) ∧ w4.grownBy wx (some (w.heap.size + 1)) ∧ Rd wx (w.heap.size + 1) 3101 ∧ OwnL wx w4.heap.size (.slice a5 L5.length c5) L5)
  case first =>
    cases sb
    · go_wp2_with fail
      go_meet
      exact ⟨⟨rfl, _, rfl⟩, HG5.out, HR5.out.mono (by omega), HO5.out⟩
    · go_wp2_with fail
      refine (pick_any (w.heap.size + 1) (0 + 3100) 2 _ HR5.out (by omega) (by omega) (by omega)).mono ?_
      rintro e w6 ⟨j, rfl, hj, hg6, hr6⟩
      have HG6 := hid (gb_tr HG5.out hg6)
      have HR6 := hid hr6
      have HO6 := hid (HO5.out.far hg6 (fun k e => by cases e; omega))
      clear hg6 hr6
      go_wp2_with fail
      go_meet
      exact ⟨⟨rfl, _, rfl⟩, HG6.out, HR6.out.mono (by omega), HO6.out⟩
  case rest =>
    obtain ⟨⟨rfl, x, rfl⟩, hg, hr, ho⟩ := hcut
    have HG := hid hg
    have HR := hid hr
    have HO := hid ho
    clear hg hr ho HG5 HR5 HO5
    go_upto_if 25 with fail
    go_cut [6] (fun v wx => ∃ L : List Str, w4.grownBy wx (some (w.heap.size + 1)) ∧ Rd wx (w.heap.size + 1) 3120 ∧ OwnL wx w4.heap.size v L ∧ ShortL L ∧ L.length ≤ 7)
    case first =>
      cases x
      · go_wp2_with fail
        go_meet
        exact ⟨L5, HG.out, HR.out.mono (by omega), HO.out, hso, hlo⟩
      · go_wp2_with fail
        have HM0 : Hid (OwnL (wc.alloc (.cells #[] 9)) w4.heap.size (.slice (some ⟨wc.heap.size, 0, none⟩) 0 0) []) := OwnL.made wc w4.heap.size (by have := HG.out.size; omega)
        have HGm := hid (gb_tr HG.out (gb_ext (ext_alloc wc (.cells #[] 9)) _))
        have HRm := hid (HR.out.ext (ext_alloc wc (.cells #[] 9)))
        generalize wc.alloc (.cells #[] 9) = wd at HM0 HGm HRm ⊢
        clear HG HR HO
        go_loopw [6, 8] (fun v i wr => ∃ (m : Nat) (L : List Str), m ≤ b.batches.length ∧ i = .int .i64 m ∧ w4.grownBy wr (some (w.heap.size + 1)) ∧ Rd wr (w.heap.size + 1) (3101 + m) ∧ OwnL wr w4.heap.size v L ∧ ShortL L ∧ L.length = m) (fun _ i _ => b.batches.length - (intOf i).toNat)
        case atStart => exact ⟨0, [], Nat.zero_le _, rfl, HGm.out, HRm.out, HM0.out, short_iff.2 (fun x hx => by simp at hx), rfl⟩
        case round =>
          obtain ⟨m, L, hm, rfl, hg, hr, ho, hsl, hlm⟩ := hrel
          obtain ⟨aL, cL, rfl⟩ := own_sl ho
          have HGl := hid hg
          have HRl := hid hr
          have HOl := hid ho
          have HLM := hid hlm
          have hl7 : L.length ≤ 7 := by omega
          have q1 := (HRX2.out.kept hg (by simp; omega)).cell (i := 1) rfl
          clear hg hr ho hlm
          by_cases hlt : m < b.batches.length
          · go_wp2_with fail
            have hp := pick_any (w.heap.size + 1) (3101 + m) (L.length + 1) _ HRl.out (by omega) (by omega) (by omega)
            rw [Int.natCast_add] at hp
            refine hp.mono ?_
            clear hp
            rintro e w6 ⟨k, rfl, hk, hg6, hr6⟩
            have hkl : k ≤ L.length := by omega
            have HG6 := hid (gb_tr HGl.out hg6)
            have HR6 := hid hr6
            have HO6 := hid (HOl.out.far hg6 (fun k e => by cases e; omega))
            clear hg6 hr6 q1 hk
            obtain ⟨ba, oa, ex2, hln, d1, g1, d2, g2, z0, z1, z2, s1, s2⟩ := (HB2.out.on HRd2.out HG6.out).2.2 m hlt
            have q1 := (HRX2.out.kept HG6.out (by simp; omega)).cell (i := 1) rfl
            subst ex2
            clear z1 z2 s1 s2
            generalize (nthB b.batches m).name = nm at hln z0
            obtain ⟨a', c', ea, hat⟩ := HO6.out.at (by omega) hsl
            simp only [Value.slice.injEq] at ea
            obtain ⟨rfl, _, rfl⟩ := ea
            have hsh := HO6.out.shape
            have hlk : (L.take k).length = k := by rw [List.length_take]; omega
            have HT := hid (hat.take k)
            have hz6 : w4.heap.size ≤ w6.heap.size := HG6.out.size
            have hsN : ShortL (L.take k ++ [nm] ++ L.drop k) := (ShortL.app (hsl.part (fun x hx => List.mem_of_mem_take hx)) (short_iff.2 (fun x hx => by simp at hx; subst hx; exact hln))).app (hsl.part (fun x hx => List.mem_of_mem_drop hx))
            have HLN : Hid ((L.take k ++ [nm] ++ L.drop k).length = m + 1) := by
              show _ = _
              have := HLM.out
              simp only [List.length_append, List.length_take, List.length_drop, List.length_cons, List.length_nil]; omega
            rcases hsh with ⟨e, h0⟩ | ⟨g, cap, e, hgb, hcap, hcm, _⟩
            · simp only [Value.slice.injEq] at e
              obtain ⟨rfl, _, rfl⟩ := e
              have hk0 : k = 0 := by omega
              subst hk0
              have HD : StrsAt w6 none (L.drop 0) := by rw [List.drop_zero]; exact hat
              go_wp2_with fail
              refine wp_region_T (fun w' => w'.cell? ⟨X, 1, none⟩ = some (.slice (some ⟨ba, oa, none⟩) b.batches.length y2) ∧ w'.cell? ⟨ba, oa + m * 3, none⟩ = some (.string (S nm))) 17 (by kernel_rfl) ⟨q1, z0⟩ (fun hS => ?_)
              refine wpT_take 1 (v := ?_) rfl rfl (by kernel_rfl) (by kernel_rfl) (by kernel_rfl) (by kernel_rfl) (fun _ _ _ h => h) hS rfl (by intro w0 hw0; (try dsimp only at hw0); go_simp; try rfl) ?_
              try simp only [List.set]
              refine wpT_take 2 (v := ?_) rfl rfl (by kernel_rfl) (by kernel_rfl) (by kernel_rfl) (by kernel_rfl) (fun _ _ _ h => h) hS rfl (by intro w0 hw0; (try dsimp only at hw0); go_simp; try rfl) ?_
              try simp only [List.set]
              refine wpT_take 3 (v := ?_) rfl rfl (by kernel_rfl) (by kernel_rfl) (by kernel_rfl) (by kernel_rfl) (fun _ _ _ h => h) hS rfl (by intro w0 hw0; (try dsimp only at hw0); go_simp; try rfl) ?_
              try simp only [List.set]
              refine wpT_take 5 (v := ?_) rfl rfl (by kernel_rfl) (by kernel_rfl) (by kernel_rfl) (by kernel_rfl) (fun _ _ _ h => h) hS rfl (by intro w0 hw0; (try dsimp only at hw0); go_simp; try rfl) ?_
              try simp only [List.set]
              refine wpT_take 6 (v := ?_) rfl rfl (by kernel_rfl) (by kernel_rfl) (by kernel_rfl) (by kernel_rfl) (fun _ _ _ h => h) hS rfl (by intro w0 hw0; (try dsimp only at hw0); go_simp; try rfl) ?_
              try simp only [List.set]
              refine wpT_take 7 (v := ?_) rfl rfl (by kernel_rfl) (by kernel_rfl) (by kernel_rfl) (by kernel_rfl) (fun _ _ _ h => h) hS rfl (by intro w0 hw0; (try dsimp only at hw0); go_simp; try rfl) ?_
              try simp only [List.set]
              refine wpT_take 8 (v := ?_) rfl rfl (by kernel_rfl) (by kernel_rfl) (by kernel_rfl) (by kernel_rfl) (fun _ _ _ h => h) hS rfl (by intro w0 hw0; (try dsimp only at hw0); go_simp; try rfl) ?_
              try simp only [List.set]
              refine wpT_take 9 (v := ?_) rfl rfl (by kernel_rfl) (by kernel_rfl) (by kernel_rfl) (by kernel_rfl) (fun _ _ _ h => h) hS rfl (by intro w0 hw0; (try dsimp only at hw0); go_simp; try rfl) ?_
              try simp only [List.set]
              refine wpT_take 10 (v := ?_) rfl rfl (by kernel_rfl) (by kernel_rfl) (by kernel_rfl) (by kernel_rfl) (fun _ _ _ h => h) hS rfl (by intro w0 hw0; (try dsimp only at hw0); go_simp; try rfl) ?_
              try simp only [List.set]
              refine wpT_take 13 (v := ?_) rfl rfl (by kernel_rfl) (by kernel_rfl) (by kernel_rfl) (by kernel_rfl) (fun _ _ _ h => h) hS rfl (by intro w0 hw0; (try dsimp only at hw0); go_simp; try rfl) ?_
              try simp only [List.set]
              refine wpT_take 14 (v := ?_) rfl rfl (by kernel_rfl) (by kernel_rfl) (by kernel_rfl) (by kernel_rfl) (fun _ _ _ h => h) hS rfl (by intro w0 hw0; (try dsimp only at hw0); go_simp; try rfl) ?_
              try simp only [List.set]
              refine wpT_take 15 (v := ?_) rfl rfl (by kernel_rfl) (by kernel_rfl) (by kernel_rfl) (by kernel_rfl) (fun _ _ _ h => h) hS rfl (by intro w0 hw0; (try dsimp only at hw0); go_simp; try rfl) ?_
              try simp only [List.set]
              refine wpT_two 0 11 rfl rfl (by kernel_rfl) rfl rfl rfl rfl (fun K hK => ?_) (fun K hK => ?_)
              · go_simp
                refine hK.out _ _ ⟨(ext_alloc _ _).keep hS.1, (ext_alloc _ _).keep hS.2⟩ (fun hS1 => ?_)
                clear hK hS
                have hS := hS1
                clear hS1
                try clear K
                try simp only [put_some, List.set]
                refine wpT_two 4 11 rfl rfl (by kernel_rfl) rfl rfl rfl rfl (fun K hK => ?_) (fun K hK => ?_)
                · have hE0 : Ext w6 (w6.drew.alloc (.cells #[] 9)) := Ext.tr (ext_drewN w6 1) (ext_alloc _ _)
                  have hO0 : OwnL (w6.drew.alloc (.cells #[] 9)) w6.heap.size (.slice (some ⟨w6.heap.size, 0, none⟩) 0 0) [] := OwnL.made w6.drew w6.heap.size (Nat.le_refl _)
                  refine wp_strs (L := []) (M := L.take 0) _ _ rfl rfl hO0 (by rw [hlk]; rfl) (HT.out.ext hE0) (by rw [hlk]; first | (simp; done) | (simp; omega)) (by simp; try omega) (fun v' wB h2 h3 h4 => ?_)
                  rw [List.nil_append] at h2
                  obtain ⟨aB, cB, rfl⟩ := own_sl h2
                  rw [hlk] at h2 h4 ⊢
                  have hobB : ∀ g', (Value.slice aB 0 cB).ownBlock = some g' → w6.heap.size ≤ g' := fun g' e => by
                    rcases h4 with h4 | h4
                    · rw [h4] at e
                      have e' := Option.some.inj e
                      simp at e'
                      omega
                    · rw [h4] at e
                      have e' := Option.some.inj e
                      simp at e'
                      omega
                  have hEB : Ext w6 wB := hE0.grown h3 (by simp; try omega) (fun g' e => by
                    have e' := Option.some.inj e
                    simp at e'
                    omega)
                  refine hK.out _ _ ⟨hEB.keep q1, hEB.keep z0⟩ (fun hS1 => ?_)
                  clear hK hS
                  have hS := hS1
                  clear hS1
                  try clear K
                  try simp only [put_some, List.set]
                  refine wpT_one 11 rfl (by kernel_rfl) rfl rfl (fun K hK => ?_)
                  go_simp
                  refine hK.out _ _ ⟨(ext_alloc _ _).keep hS.1, (ext_alloc _ _).keep hS.2⟩ (fun hS1 => ?_)
                  clear hK hS
                  have hS := hS1
                  clear hS1
                  try clear K
                  try simp only [put_some, List.set]
                  have hET : Ext w6 (wB.alloc (.cells #[.string (S nm)] 9)) := Ext.tr hEB (ext_alloc _ _)
                  have hST := one_str' wB nm hln
                  have hOT := h2.ext (ext_alloc wB (.cells #[.string (S nm)] 9))
                  have hzT := hET.size
                  refine wpT_one 12 rfl (by kernel_rfl) rfl rfl (fun K hK => ?_)
                  refine wp_strs (L := L.take 0) (M := [nm]) _ _ rfl rfl hOT rfl hST (by rw [hlk]; first | (simp; done) | (simp; omega)) (by omega) (fun v' wC h5 h6 h7 => ?_)
                  obtain ⟨aC, cC, rfl⟩ := own_sl h5
                  have hlC : (L.take 0 ++ [nm]).length = 1 := by rw [List.length_append, hlk]; rfl
                  rw [hlC] at h5 h7 ⊢
                  have hobC : ∀ g', (Value.slice aC 1 cC).ownBlock = some g' → w6.heap.size ≤ g' := fun g' e => by
                    rcases h7 with h7 | h7
                    · rw [h7] at e; exact hobB g' e
                    · rw [h7] at e
                      have e' := Option.some.inj e
                      omega
                  have hEC : Ext w6 wC := hET.grown h6 hzT hobB
                  refine hK.out _ _ ⟨hEC.keep q1, hEC.keep z0⟩ (fun hS1 => ?_)
                  clear hK hS
                  have hS := hS1
                  clear hS1
                  try clear K
                  try simp only [put_some, List.set]
                  have hzC := hEC.size
                  refine wpT_one 16 rfl (by kernel_rfl) rfl rfl (fun K hK => ?_)
                  refine wp_strs (L := L.take 0 ++ [nm]) (M := L.drop 0) _ _ rfl rfl h5 (by rw [List.drop_zero, h0]; rfl) (HD.ext hEC) (by rw [hlC, List.length_drop]; omega) (by omega) (fun v' wD h8 h9 h10 => ?_)
                  have hED : Ext w6 wD := hEC.grown h9 hzC hobC
                  refine hK.out _ _ ⟨hED.keep q1, hED.keep z0⟩ (fun hS1 => ?_)
                  clear hK hS
                  have hS := hS1
                  clear hS1
                  try clear K
                  try simp only [put_some, List.set]
                  have HN : Hid (OwnL wD w4.heap.size v' (L.take 0 ++ [nm] ++ L.drop 0)) := h8.low hz6
                  have HED := hid hED
                  clear h2 h3 h4 h5 h6 h7 h8 h9 h10 hEB hEC hED hET hobB hobC hOT hST hO0 hE0 HD HT hS q1 z0
                  refine wpT_last rfl (by kernel_rfl) (by kernel_rfl) rfl (fun K hK => ?_)
                  go_simp
                  refine hK.out _ _ ?_
                  clear hK
                  go_wp2_with fail
                  go_roundw
                  case rel => exact ⟨m + 1, L.take 0 ++ [nm] ++ L.drop 0, by omega, by go_num, gb_tr HG6.out (gb_ext HED.out _), (HR6.out.ext HED.out).mono (by omega), HN.out, hsN, HLN.out⟩
                  case measure => simp [intOf]; omega
                · go_simp
                  refine hK.out _ _ ⟨(ext_alloc _ _).keep hS.1, (ext_alloc _ _).keep hS.2⟩ (fun hS1 => ?_)
                  clear hK hS
                  have hS := hS1
                  clear hS1
                  try clear K
                  try simp only [put_some, List.set]
                  refine wpT_one 4 rfl (by kernel_rfl) rfl rfl (fun K hK => ?_)
                  have hE0 : Ext w6 ((w6.drew.alloc (.cells #[] 9)).alloc (.cells #[.string (S nm)] 9)) := Ext.tr (Ext.tr (ext_drewN w6 1) (ext_alloc _ _)) (ext_alloc _ _)
                  have hO0 : OwnL ((w6.drew.alloc (.cells #[] 9)).alloc (.cells #[.string (S nm)] 9)) w6.heap.size (.slice (some ⟨w6.heap.size, 0, none⟩) 0 0) [] := (OwnL.made w6.drew w6.heap.size (Nat.le_refl _)).ext (ext_alloc _ _)
                  have hS0 := one_str' (w6.drew.alloc (.cells #[] 9)) nm hln
                  refine wp_strs (L := []) (M := L.take 0) _ _ rfl rfl hO0 (by rw [hlk]; rfl) (HT.out.ext hE0) (by rw [hlk]; first | (simp; done) | (simp; omega)) (by simp; try omega) (fun v' wB h2 h3 h4 => ?_)
                  rw [List.nil_append] at h2
                  obtain ⟨aB, cB, rfl⟩ := own_sl h2
                  rw [hlk] at h2 h4 ⊢
                  have hobB : ∀ g', (Value.slice aB 0 cB).ownBlock = some g' → w6.heap.size ≤ g' := fun g' e => by
                    rcases h4 with h4 | h4
                    · rw [h4] at e
                      have e' := Option.some.inj e
                      simp at e'
                      omega
                    · rw [h4] at e
                      have e' := Option.some.inj e
                      simp at e'
                      omega
                  have hEB : Ext w6 wB := hE0.grown h3 (by simp; try omega) (fun g' e => by
                    have e' := Option.some.inj e
                    simp at e'
                    omega)
                  refine hK.out _ _ ⟨hEB.keep q1, hEB.keep z0⟩ (fun hS1 => ?_)
                  clear hK hS
                  have hS := hS1
                  clear hS1
                  try clear K
                  try simp only [put_some, List.set]
                  have hET : Ext w6 wB := hEB
                  have hST : StrsAt wB (some ⟨w6.heap.size + 1, 0, none⟩) [nm] := by
                    have h := hS0.gb h3 (fun _ b o e => by
                      cases e
                      intro er
                      have e' := Option.some.inj er
                      simp at e')
                    simpa using h
                  have hOT := h2
                  have hzT := hET.size
                  refine wpT_one 12 rfl (by kernel_rfl) rfl rfl (fun K hK => ?_)
                  refine wp_strs (L := L.take 0) (M := [nm]) _ _ rfl rfl hOT rfl hST (by rw [hlk]; first | (simp; done) | (simp; omega)) (by omega) (fun v' wC h5 h6 h7 => ?_)
                  obtain ⟨aC, cC, rfl⟩ := own_sl h5
                  have hlC : (L.take 0 ++ [nm]).length = 1 := by rw [List.length_append, hlk]; rfl
                  rw [hlC] at h5 h7 ⊢
                  have hobC : ∀ g', (Value.slice aC 1 cC).ownBlock = some g' → w6.heap.size ≤ g' := fun g' e => by
                    rcases h7 with h7 | h7
                    · rw [h7] at e; exact hobB g' e
                    · rw [h7] at e
                      have e' := Option.some.inj e
                      omega
                  have hEC : Ext w6 wC := hET.grown h6 hzT hobB
                  refine hK.out _ _ ⟨hEC.keep q1, hEC.keep z0⟩ (fun hS1 => ?_)
                  clear hK hS
                  have hS := hS1
                  clear hS1
                  try clear K
                  try simp only [put_some, List.set]
                  have hzC := hEC.size
                  refine wpT_one 16 rfl (by kernel_rfl) rfl rfl (fun K hK => ?_)
                  refine wp_strs (L := L.take 0 ++ [nm]) (M := L.drop 0) _ _ rfl rfl h5 (by rw [List.drop_zero, h0]; rfl) (HD.ext hEC) (by rw [hlC, List.length_drop]; omega) (by omega) (fun v' wD h8 h9 h10 => ?_)
                  have hED : Ext w6 wD := hEC.grown h9 hzC hobC
                  refine hK.out _ _ ⟨hED.keep q1, hED.keep z0⟩ (fun hS1 => ?_)
                  clear hK hS
                  have hS := hS1
                  clear hS1
                  try clear K
                  try simp only [put_some, List.set]
                  have HN : Hid (OwnL wD w4.heap.size v' (L.take 0 ++ [nm] ++ L.drop 0)) := h8.low hz6
                  have HED := hid hED
                  clear h2 h3 h4 h5 h6 h7 h8 h9 h10 hEB hEC hED hET hobB hobC hOT hST hO0 hE0 HD HT hS q1 z0
                  refine wpT_last rfl (by kernel_rfl) (by kernel_rfl) rfl (fun K hK => ?_)
                  go_simp
                  refine hK.out _ _ ?_
                  clear hK
                  go_wp2_with fail
                  go_roundw
                  case rel => exact ⟨m + 1, L.take 0 ++ [nm] ++ L.drop 0, by omega, by go_num, gb_tr HG6.out (gb_ext HED.out _), (HR6.out.ext HED.out).mono (by omega), HN.out, hsN, HLN.out⟩
                  case measure => simp [intOf]; omega
              · go_simp
                refine hK.out _ _ ⟨(ext_alloc _ _).keep hS.1, (ext_alloc _ _).keep hS.2⟩ (fun hS1 => ?_)
                clear hK hS
                have hS := hS1
                clear hS1
                try clear K
                try simp only [put_some, List.set]
                refine wpT_one 0 rfl (by kernel_rfl) rfl rfl (fun K hK => ?_)
                go_simp
                refine hK.out _ _ ⟨(ext_alloc _ _).keep hS.1, (ext_alloc _ _).keep hS.2⟩ (fun hS1 => ?_)
                clear hK hS
                have hS := hS1
                clear hS1
                try clear K
                try simp only [put_some, List.set]
                refine wpT_one 4 rfl (by kernel_rfl) rfl rfl (fun K hK => ?_)
                have hE0 : Ext w6 ((w6.drew.alloc (.cells #[.string (S nm)] 9)).alloc (.cells #[] 9)) := Ext.tr (Ext.tr (ext_drewN w6 1) (ext_alloc _ _)) (ext_alloc _ _)
                have hO0 : OwnL ((w6.drew.alloc (.cells #[.string (S nm)] 9)).alloc (.cells #[] 9)) w6.heap.size (.slice (some ⟨w6.heap.size + 1, 0, none⟩) 0 0) [] := by have h := OwnL.made (w6.drew.alloc (.cells #[.string (S nm)] 9)) w6.heap.size (by simp); simpa using h
                have hS0 := (one_str' w6.drew nm hln).ext (ext_alloc (w6.drew.alloc (.cells #[.string (S nm)] 9)) (.cells #[] 9))
                refine wp_strs (L := []) (M := L.take 0) _ _ rfl rfl hO0 (by rw [hlk]; rfl) (HT.out.ext hE0) (by rw [hlk]; first | (simp; done) | (simp; omega)) (by simp; try omega) (fun v' wB h2 h3 h4 => ?_)
                rw [List.nil_append] at h2
                obtain ⟨aB, cB, rfl⟩ := own_sl h2
                rw [hlk] at h2 h4 ⊢
                have hobB : ∀ g', (Value.slice aB 0 cB).ownBlock = some g' → w6.heap.size ≤ g' := fun g' e => by
                  rcases h4 with h4 | h4
                  · rw [h4] at e
                    have e' := Option.some.inj e
                    simp at e'
                    omega
                  · rw [h4] at e
                    have e' := Option.some.inj e
                    simp at e'
                    omega
                have hEB : Ext w6 wB := hE0.grown h3 (by simp; try omega) (fun g' e => by
                  have e' := Option.some.inj e
                  simp at e'
                  omega)
                refine hK.out _ _ ⟨hEB.keep q1, hEB.keep z0⟩ (fun hS1 => ?_)
                clear hK hS
                have hS := hS1
                clear hS1
                try clear K
                try simp only [put_some, List.set]
                have hET : Ext w6 wB := hEB
                have hST := hS0.gb h3 (fun _ b o e => by
                  cases e
                  intro er
                  have e' := Option.some.inj er
                  simp at e')
                have hOT := h2
                have hzT := hET.size
                refine wpT_one 12 rfl (by kernel_rfl) rfl rfl (fun K hK => ?_)
                refine wp_strs (L := L.take 0) (M := [nm]) _ _ rfl rfl hOT rfl hST (by rw [hlk]; first | (simp; done) | (simp; omega)) (by omega) (fun v' wC h5 h6 h7 => ?_)
                obtain ⟨aC, cC, rfl⟩ := own_sl h5
                have hlC : (L.take 0 ++ [nm]).length = 1 := by rw [List.length_append, hlk]; rfl
                rw [hlC] at h5 h7 ⊢
                have hobC : ∀ g', (Value.slice aC 1 cC).ownBlock = some g' → w6.heap.size ≤ g' := fun g' e => by
                  rcases h7 with h7 | h7
                  · rw [h7] at e; exact hobB g' e
                  · rw [h7] at e
                    have e' := Option.some.inj e
                    omega
                have hEC : Ext w6 wC := hET.grown h6 hzT hobB
                refine hK.out _ _ ⟨hEC.keep q1, hEC.keep z0⟩ (fun hS1 => ?_)
                clear hK hS
                have hS := hS1
                clear hS1
                try clear K
                try simp only [put_some, List.set]
                have hzC := hEC.size
                refine wpT_one 16 rfl (by kernel_rfl) rfl rfl (fun K hK => ?_)
                refine wp_strs (L := L.take 0 ++ [nm]) (M := L.drop 0) _ _ rfl rfl h5 (by rw [List.drop_zero, h0]; rfl) (HD.ext hEC) (by rw [hlC, List.length_drop]; omega) (by omega) (fun v' wD h8 h9 h10 => ?_)
                have hED : Ext w6 wD := hEC.grown h9 hzC hobC
                refine hK.out _ _ ⟨hED.keep q1, hED.keep z0⟩ (fun hS1 => ?_)
                clear hK hS
                have hS := hS1
                clear hS1
                try clear K
                try simp only [put_some, List.set]
                have HN : Hid (OwnL wD w4.heap.size v' (L.take 0 ++ [nm] ++ L.drop 0)) := h8.low hz6
                have HED := hid hED
                clear h2 h3 h4 h5 h6 h7 h8 h9 h10 hEB hEC hED hET hobB hobC hOT hST hO0 hE0 HD HT hS q1 z0
                refine wpT_last rfl (by kernel_rfl) (by kernel_rfl) rfl (fun K hK => ?_)
                go_simp
                refine hK.out _ _ ?_
                clear hK
                go_wp2_with fail
                go_roundw
                case rel => exact ⟨m + 1, L.take 0 ++ [nm] ++ L.drop 0, by omega, by go_num, gb_tr HG6.out (gb_ext HED.out _), (HR6.out.ext HED.out).mono (by omega), HN.out, hsN, HLN.out⟩
                case measure => simp [intOf]; omega
            · simp only [Value.slice.injEq] at e
              obtain ⟨rfl, _, rfl⟩ := e
              have hky : k ≤ cL := by omega
              by_cases hck : cL = k
              · subst hck
                have hd0 : L.drop cL = [] := List.drop_eq_nil_of_le (by omega)
                have HD : StrsAt w6 (some ⟨g, 0, none⟩) (L.drop cL) := by rw [hd0]; exact StrsAt.nil _ _
                clear hd0
                go_wp2_with fail
                refine wp_region_T (fun w' => w'.cell? ⟨X, 1, none⟩ = some (.slice (some ⟨ba, oa, none⟩) b.batches.length y2) ∧ w'.cell? ⟨ba, oa + m * 3, none⟩ = some (.string (S nm))) 17 (by kernel_rfl) ⟨q1, z0⟩ (fun hS => ?_)
                refine wpT_take 1 (v := ?_) rfl rfl (by kernel_rfl) (by kernel_rfl) (by kernel_rfl) (by kernel_rfl) (fun _ _ _ h => h) hS rfl (by intro w0 hw0; (try dsimp only at hw0); go_simp; try rfl) ?_
                try simp only [List.set]
                refine wpT_take 2 (v := ?_) rfl rfl (by kernel_rfl) (by kernel_rfl) (by kernel_rfl) (by kernel_rfl) (fun _ _ _ h => h) hS rfl (by intro w0 hw0; (try dsimp only at hw0); go_simp; try rfl) ?_
                try simp only [List.set]
                refine wpT_take 3 (v := ?_) rfl rfl (by kernel_rfl) (by kernel_rfl) (by kernel_rfl) (by kernel_rfl) (fun _ _ _ h => h) hS rfl (by intro w0 hw0; (try dsimp only at hw0); go_simp; try rfl) ?_
                try simp only [List.set]
                refine wpT_take 5 (v := ?_) rfl rfl (by kernel_rfl) (by kernel_rfl) (by kernel_rfl) (by kernel_rfl) (fun _ _ _ h => h) hS rfl (by intro w0 hw0; (try dsimp only at hw0); go_simp; try rfl) ?_
                try simp only [List.set]
                refine wpT_take 6 (v := ?_) rfl rfl (by kernel_rfl) (by kernel_rfl) (by kernel_rfl) (by kernel_rfl) (fun _ _ _ h => h) hS rfl (by intro w0 hw0; (try dsimp only at hw0); go_simp; try rfl) ?_
                try simp only [List.set]
                refine wpT_take 7 (v := ?_) rfl rfl (by kernel_rfl) (by kernel_rfl) (by kernel_rfl) (by kernel_rfl) (fun _ _ _ h => h) hS rfl (by intro w0 hw0; (try dsimp only at hw0); go_simp; try rfl) ?_
                try simp only [List.set]
                refine wpT_take 8 (v := ?_) rfl rfl (by kernel_rfl) (by kernel_rfl) (by kernel_rfl) (by kernel_rfl) (fun _ _ _ h => h) hS rfl (by intro w0 hw0; (try dsimp only at hw0); go_simp; try rfl) ?_
                try simp only [List.set]
                refine wpT_take 9 (v := ?_) rfl rfl (by kernel_rfl) (by kernel_rfl) (by kernel_rfl) (by kernel_rfl) (fun _ _ _ h => h) hS rfl (by intro w0 hw0; (try dsimp only at hw0); go_simp; try rfl) ?_
                try simp only [List.set]
                refine wpT_take 10 (v := ?_) rfl rfl (by kernel_rfl) (by kernel_rfl) (by kernel_rfl) (by kernel_rfl) (fun _ _ _ h => h) hS rfl (by intro w0 hw0; (try dsimp only at hw0); go_simp; try rfl) ?_
                try simp only [List.set]
                refine wpT_take 13 (v := ?_) rfl rfl (by kernel_rfl) (by kernel_rfl) (by kernel_rfl) (by kernel_rfl) (fun _ _ _ h => h) hS rfl (by intro w0 hw0; (try dsimp only at hw0); go_simp; try rfl) ?_
                try simp only [List.set]
                refine wpT_take 14 (v := ?_) rfl rfl (by kernel_rfl) (by kernel_rfl) (by kernel_rfl) (by kernel_rfl) (fun _ _ _ h => h) hS rfl (by intro w0 hw0; (try dsimp only at hw0); go_simp; try rfl) ?_
                try simp only [List.set]
                refine wpT_take 15 (v := ?_) rfl rfl (by kernel_rfl) (by kernel_rfl) (by kernel_rfl) (by kernel_rfl) (fun _ _ _ h => h) hS rfl (by intro w0 hw0; (try dsimp only at hw0); go_simp; try rfl) ?_
                try simp only [List.set]
                refine wpT_two 0 11 rfl rfl (by kernel_rfl) rfl rfl rfl rfl (fun K hK => ?_) (fun K hK => ?_)
                · go_simp
                  refine hK.out _ _ ⟨(ext_alloc _ _).keep hS.1, (ext_alloc _ _).keep hS.2⟩ (fun hS1 => ?_)
                  clear hK hS
                  have hS := hS1
                  clear hS1
                  try clear K
                  try simp only [put_some, List.set]
                  refine wpT_two 4 11 rfl rfl (by kernel_rfl) rfl rfl rfl rfl (fun K hK => ?_) (fun K hK => ?_)
                  · have hE0 : Ext w6 (w6.drew.alloc (.cells #[] 9)) := Ext.tr (ext_drewN w6 1) (ext_alloc _ _)
                    have hO0 : OwnL (w6.drew.alloc (.cells #[] 9)) w6.heap.size (.slice (some ⟨w6.heap.size, 0, none⟩) 0 0) [] := OwnL.made w6.drew w6.heap.size (Nat.le_refl _)
                    refine wp_strs (L := []) (M := L.take cL) _ _ rfl rfl hO0 (by rw [hlk]; rfl) (HT.out.ext hE0) (by rw [hlk]; first | (simp; done) | (simp; omega)) (by simp; try omega) (fun v' wB h2 h3 h4 => ?_)
                    rw [List.nil_append] at h2
                    obtain ⟨aB, cB, rfl⟩ := own_sl h2
                    rw [hlk] at h2 h4 ⊢
                    have hobB : ∀ g', (Value.slice aB cL cB).ownBlock = some g' → w6.heap.size ≤ g' := fun g' e => by
                      rcases h4 with h4 | h4
                      · rw [h4] at e
                        have e' := Option.some.inj e
                        simp at e'
                        omega
                      · rw [h4] at e
                        have e' := Option.some.inj e
                        simp at e'
                        omega
                    have hEB : Ext w6 wB := hE0.grown h3 (by simp; try omega) (fun g' e => by
                      have e' := Option.some.inj e
                      simp at e'
                      omega)
                    refine hK.out _ _ ⟨hEB.keep q1, hEB.keep z0⟩ (fun hS1 => ?_)
                    clear hK hS
                    have hS := hS1
                    clear hS1
                    try clear K
                    try simp only [put_some, List.set]
                    refine wpT_one 11 rfl (by kernel_rfl) rfl rfl (fun K hK => ?_)
                    go_simp
                    refine hK.out _ _ ⟨(ext_alloc _ _).keep hS.1, (ext_alloc _ _).keep hS.2⟩ (fun hS1 => ?_)
                    clear hK hS
                    have hS := hS1
                    clear hS1
                    try clear K
                    try simp only [put_some, List.set]
                    have hET : Ext w6 (wB.alloc (.cells #[.string (S nm)] 9)) := Ext.tr hEB (ext_alloc _ _)
                    have hST := one_str' wB nm hln
                    have hOT := h2.ext (ext_alloc wB (.cells #[.string (S nm)] 9))
                    have hzT := hET.size
                    refine wpT_one 12 rfl (by kernel_rfl) rfl rfl (fun K hK => ?_)
                    refine wp_strs (L := L.take cL) (M := [nm]) _ _ rfl rfl hOT rfl hST (by rw [hlk]; first | (simp; done) | (simp; omega)) (by omega) (fun v' wC h5 h6 h7 => ?_)
                    obtain ⟨aC, cC, rfl⟩ := own_sl h5
                    have hlC : (L.take cL ++ [nm]).length = cL + 1 := by rw [List.length_append, hlk]; rfl
                    rw [hlC] at h5 h7 ⊢
                    have hobC : ∀ g', (Value.slice aC (cL + 1) cC).ownBlock = some g' → w6.heap.size ≤ g' := fun g' e => by
                      rcases h7 with h7 | h7
                      · rw [h7] at e; exact hobB g' e
                      · rw [h7] at e
                        have e' := Option.some.inj e
                        omega
                    have hEC : Ext w6 wC := hET.grown h6 hzT hobB
                    refine hK.out _ _ ⟨hEC.keep q1, hEC.keep z0⟩ (fun hS1 => ?_)
                    clear hK hS
                    have hS := hS1
                    clear hS1
                    try clear K
                    try simp only [put_some, List.set]
                    have hzC := hEC.size
                    refine wpT_one 16 rfl (by kernel_rfl) rfl rfl (fun K hK => ?_)
                    refine wp_strs (L := L.take cL ++ [nm]) (M := L.drop cL) _ _ rfl rfl h5 (by rw [List.length_drop]; first | rfl | (rw [show L.length - cL = 0 by omega]; rfl)) (HD.ext hEC) (by rw [hlC, List.length_drop]; omega) (by omega) (fun v' wD h8 h9 h10 => ?_)
                    have hED : Ext w6 wD := hEC.grown h9 hzC hobC
                    refine hK.out _ _ ⟨hED.keep q1, hED.keep z0⟩ (fun hS1 => ?_)
                    clear hK hS
                    have hS := hS1
                    clear hS1
                    try clear K
                    try simp only [put_some, List.set]
                    have HN : Hid (OwnL wD w4.heap.size v' (L.take cL ++ [nm] ++ L.drop cL)) := h8.low hz6
                    have HED := hid hED
                    clear h2 h3 h4 h5 h6 h7 h8 h9 h10 hEB hEC hED hET hobB hobC hOT hST hO0 hE0 HD HT hS q1 z0
                    refine wpT_last rfl (by kernel_rfl) (by kernel_rfl) rfl (fun K hK => ?_)
                    go_simp
                    refine hK.out _ _ ?_
                    clear hK
                    go_wp2_with fail
                    go_roundw
                    case rel => exact ⟨m + 1, L.take cL ++ [nm] ++ L.drop cL, by omega, by go_num, gb_tr HG6.out (gb_ext HED.out _), (HR6.out.ext HED.out).mono (by omega), HN.out, hsN, HLN.out⟩
                    case measure => simp [intOf]; omega
                  · go_simp
                    refine hK.out _ _ ⟨(ext_alloc _ _).keep hS.1, (ext_alloc _ _).keep hS.2⟩ (fun hS1 => ?_)
                    clear hK hS
                    have hS := hS1
                    clear hS1
                    try clear K
                    try simp only [put_some, List.set]
                    refine wpT_one 4 rfl (by kernel_rfl) rfl rfl (fun K hK => ?_)
                    have hE0 : Ext w6 ((w6.drew.alloc (.cells #[] 9)).alloc (.cells #[.string (S nm)] 9)) := Ext.tr (Ext.tr (ext_drewN w6 1) (ext_alloc _ _)) (ext_alloc _ _)
                    have hO0 : OwnL ((w6.drew.alloc (.cells #[] 9)).alloc (.cells #[.string (S nm)] 9)) w6.heap.size (.slice (some ⟨w6.heap.size, 0, none⟩) 0 0) [] := (OwnL.made w6.drew w6.heap.size (Nat.le_refl _)).ext (ext_alloc _ _)
                    have hS0 := one_str' (w6.drew.alloc (.cells #[] 9)) nm hln
                    refine wp_strs (L := []) (M := L.take cL) _ _ rfl rfl hO0 (by rw [hlk]; rfl) (HT.out.ext hE0) (by rw [hlk]; first | (simp; done) | (simp; omega)) (by simp; try omega) (fun v' wB h2 h3 h4 => ?_)
                    rw [List.nil_append] at h2
                    obtain ⟨aB, cB, rfl⟩ := own_sl h2
                    rw [hlk] at h2 h4 ⊢
                    have hobB : ∀ g', (Value.slice aB cL cB).ownBlock = some g' → w6.heap.size ≤ g' := fun g' e => by
                      rcases h4 with h4 | h4
                      · rw [h4] at e
                        have e' := Option.some.inj e
                        simp at e'
                        omega
                      · rw [h4] at e
                        have e' := Option.some.inj e
                        simp at e'
                        omega
                    have hEB : Ext w6 wB := hE0.grown h3 (by simp; try omega) (fun g' e => by
                      have e' := Option.some.inj e
                      simp at e'
                      omega)
                    refine hK.out _ _ ⟨hEB.keep q1, hEB.keep z0⟩ (fun hS1 => ?_)
                    clear hK hS
                    have hS := hS1
                    clear hS1
                    try clear K
                    try simp only [put_some, List.set]
                    have hET : Ext w6 wB := hEB
                    have hST : StrsAt wB (some ⟨w6.heap.size + 1, 0, none⟩) [nm] := by
                      have h := hS0.gb h3 (fun _ b o e => by
                        cases e
                        intro er
                        have e' := Option.some.inj er
                        simp at e')
                      simpa using h
                    have hOT := h2
                    have hzT := hET.size
                    refine wpT_one 12 rfl (by kernel_rfl) rfl rfl (fun K hK => ?_)
                    refine wp_strs (L := L.take cL) (M := [nm]) _ _ rfl rfl hOT rfl hST (by rw [hlk]; first | (simp; done) | (simp; omega)) (by omega) (fun v' wC h5 h6 h7 => ?_)
                    obtain ⟨aC, cC, rfl⟩ := own_sl h5
                    have hlC : (L.take cL ++ [nm]).length = cL + 1 := by rw [List.length_append, hlk]; rfl
                    rw [hlC] at h5 h7 ⊢
                    have hobC : ∀ g', (Value.slice aC (cL + 1) cC).ownBlock = some g' → w6.heap.size ≤ g' := fun g' e => by
                      rcases h7 with h7 | h7
                      · rw [h7] at e; exact hobB g' e
                      · rw [h7] at e
                        have e' := Option.some.inj e
                        omega
                    have hEC : Ext w6 wC := hET.grown h6 hzT hobB
                    refine hK.out _ _ ⟨hEC.keep q1, hEC.keep z0⟩ (fun hS1 => ?_)
                    clear hK hS
                    have hS := hS1
                    clear hS1
                    try clear K
                    try simp only [put_some, List.set]
                    have hzC := hEC.size
                    refine wpT_one 16 rfl (by kernel_rfl) rfl rfl (fun K hK => ?_)
                    refine wp_strs (L := L.take cL ++ [nm]) (M := L.drop cL) _ _ rfl rfl h5 (by rw [List.length_drop]; first | rfl | (rw [show L.length - cL = 0 by omega]; rfl)) (HD.ext hEC) (by rw [hlC, List.length_drop]; omega) (by omega) (fun v' wD h8 h9 h10 => ?_)
                    have hED : Ext w6 wD := hEC.grown h9 hzC hobC
                    refine hK.out _ _ ⟨hED.keep q1, hED.keep z0⟩ (fun hS1 => ?_)
                    clear hK hS
                    have hS := hS1
                    clear hS1
                    try clear K
                    try simp only [put_some, List.set]
                    have HN : Hid (OwnL wD w4.heap.size v' (L.take cL ++ [nm] ++ L.drop cL)) := h8.low hz6
                    have HED := hid hED
                    clear h2 h3 h4 h5 h6 h7 h8 h9 h10 hEB hEC hED hET hobB hobC hOT hST hO0 hE0 HD HT hS q1 z0
                    refine wpT_last rfl (by kernel_rfl) (by kernel_rfl) rfl (fun K hK => ?_)
                    go_simp
                    refine hK.out _ _ ?_
                    clear hK
                    go_wp2_with fail
                    go_roundw
                    case rel => exact ⟨m + 1, L.take cL ++ [nm] ++ L.drop cL, by omega, by go_num, gb_tr HG6.out (gb_ext HED.out _), (HR6.out.ext HED.out).mono (by omega), HN.out, hsN, HLN.out⟩
                    case measure => simp [intOf]; omega
                · go_simp
                  refine hK.out _ _ ⟨(ext_alloc _ _).keep hS.1, (ext_alloc _ _).keep hS.2⟩ (fun hS1 => ?_)
                  clear hK hS
                  have hS := hS1
                  clear hS1
                  try clear K
                  try simp only [put_some, List.set]
                  refine wpT_one 0 rfl (by kernel_rfl) rfl rfl (fun K hK => ?_)
                  go_simp
                  refine hK.out _ _ ⟨(ext_alloc _ _).keep hS.1, (ext_alloc _ _).keep hS.2⟩ (fun hS1 => ?_)
                  clear hK hS
                  have hS := hS1
                  clear hS1
                  try clear K
                  try simp only [put_some, List.set]
                  refine wpT_one 4 rfl (by kernel_rfl) rfl rfl (fun K hK => ?_)
                  have hE0 : Ext w6 ((w6.drew.alloc (.cells #[.string (S nm)] 9)).alloc (.cells #[] 9)) := Ext.tr (Ext.tr (ext_drewN w6 1) (ext_alloc _ _)) (ext_alloc _ _)
                  have hO0 : OwnL ((w6.drew.alloc (.cells #[.string (S nm)] 9)).alloc (.cells #[] 9)) w6.heap.size (.slice (some ⟨w6.heap.size + 1, 0, none⟩) 0 0) [] := by have h := OwnL.made (w6.drew.alloc (.cells #[.string (S nm)] 9)) w6.heap.size (by simp); simpa using h
                  have hS0 := (one_str' w6.drew nm hln).ext (ext_alloc (w6.drew.alloc (.cells #[.string (S nm)] 9)) (.cells #[] 9))
                  refine wp_strs (L := []) (M := L.take cL) _ _ rfl rfl hO0 (by rw [hlk]; rfl) (HT.out.ext hE0) (by rw [hlk]; first | (simp; done) | (simp; omega)) (by simp; try omega) (fun v' wB h2 h3 h4 => ?_)
                  rw [List.nil_append] at h2
                  obtain ⟨aB, cB, rfl⟩ := own_sl h2
                  rw [hlk] at h2 h4 ⊢
                  have hobB : ∀ g', (Value.slice aB cL cB).ownBlock = some g' → w6.heap.size ≤ g' := fun g' e => by
                    rcases h4 with h4 | h4
                    · rw [h4] at e
                      have e' := Option.some.inj e
                      simp at e'
                      omega
                    · rw [h4] at e
                      have e' := Option.some.inj e
                      simp at e'
                      omega
                  have hEB : Ext w6 wB := hE0.grown h3 (by simp; try omega) (fun g' e => by
                    have e' := Option.some.inj e
                    simp at e'
                    omega)
                  refine hK.out _ _ ⟨hEB.keep q1, hEB.keep z0⟩ (fun hS1 => ?_)
                  clear hK hS
                  have hS := hS1
                  clear hS1
                  try clear K
                  try simp only [put_some, List.set]
                  have hET : Ext w6 wB := hEB
                  have hST := hS0.gb h3 (fun _ b o e => by
                    cases e
                    intro er
                    have e' := Option.some.inj er
                    simp at e')
                  have hOT := h2
                  have hzT := hET.size
                  refine wpT_one 12 rfl (by kernel_rfl) rfl rfl (fun K hK => ?_)
                  refine wp_strs (L := L.take cL) (M := [nm]) _ _ rfl rfl hOT rfl hST (by rw [hlk]; first | (simp; done) | (simp; omega)) (by omega) (fun v' wC h5 h6 h7 => ?_)
                  obtain ⟨aC, cC, rfl⟩ := own_sl h5
                  have hlC : (L.take cL ++ [nm]).length = cL + 1 := by rw [List.length_append, hlk]; rfl
                  rw [hlC] at h5 h7 ⊢
                  have hobC : ∀ g', (Value.slice aC (cL + 1) cC).ownBlock = some g' → w6.heap.size ≤ g' := fun g' e => by
                    rcases h7 with h7 | h7
                    · rw [h7] at e; exact hobB g' e
                    · rw [h7] at e
                      have e' := Option.some.inj e
                      omega
                  have hEC : Ext w6 wC := hET.grown h6 hzT hobB
                  refine hK.out _ _ ⟨hEC.keep q1, hEC.keep z0⟩ (fun hS1 => ?_)
                  clear hK hS
                  have hS := hS1
                  clear hS1
                  try clear K
                  try simp only [put_some, List.set]
                  have hzC := hEC.size
                  refine wpT_one 16 rfl (by kernel_rfl) rfl rfl (fun K hK => ?_)
                  refine wp_strs (L := L.take cL ++ [nm]) (M := L.drop cL) _ _ rfl rfl h5 (by rw [List.length_drop]; first | rfl | (rw [show L.length - cL = 0 by omega]; rfl)) (HD.ext hEC) (by rw [hlC, List.length_drop]; omega) (by omega) (fun v' wD h8 h9 h10 => ?_)
                  have hED : Ext w6 wD := hEC.grown h9 hzC hobC
                  refine hK.out _ _ ⟨hED.keep q1, hED.keep z0⟩ (fun hS1 => ?_)
                  clear hK hS
                  have hS := hS1
                  clear hS1
                  try clear K
                  try simp only [put_some, List.set]
                  have HN : Hid (OwnL wD w4.heap.size v' (L.take cL ++ [nm] ++ L.drop cL)) := h8.low hz6
                  have HED := hid hED
                  clear h2 h3 h4 h5 h6 h7 h8 h9 h10 hEB hEC hED hET hobB hobC hOT hST hO0 hE0 HD HT hS q1 z0
                  refine wpT_last rfl (by kernel_rfl) (by kernel_rfl) rfl (fun K hK => ?_)
                  go_simp
                  refine hK.out _ _ ?_
                  clear hK
                  go_wp2_with fail
                  go_roundw
                  case rel => exact ⟨m + 1, L.take cL ++ [nm] ++ L.drop cL, by omega, by go_num, gb_tr HG6.out (gb_ext HED.out _), (HR6.out.ext HED.out).mono (by omega), HN.out, hsN, HLN.out⟩
                  case measure => simp [intOf]; omega
              · have HD : StrsAt w6 (some ⟨g, k, none⟩) (L.drop k) := by have h := hat.drop k; rwa [Nat.zero_add] at h
                go_wp2_with fail
                refine wp_region_T (fun w' => w'.cell? ⟨X, 1, none⟩ = some (.slice (some ⟨ba, oa, none⟩) b.batches.length y2) ∧ w'.cell? ⟨ba, oa + m * 3, none⟩ = some (.string (S nm))) 17 (by kernel_rfl) ⟨q1, z0⟩ (fun hS => ?_)
                refine wpT_take 1 (v := ?_) rfl rfl (by kernel_rfl) (by kernel_rfl) (by kernel_rfl) (by kernel_rfl) (fun _ _ _ h => h) hS rfl (by intro w0 hw0; (try dsimp only at hw0); go_simp; try rfl) ?_
                try simp only [List.set]
                refine wpT_take 2 (v := ?_) rfl rfl (by kernel_rfl) (by kernel_rfl) (by kernel_rfl) (by kernel_rfl) (fun _ _ _ h => h) hS rfl (by intro w0 hw0; (try dsimp only at hw0); go_simp; try rfl) ?_
                try simp only [List.set]
                refine wpT_take 3 (v := ?_) rfl rfl (by kernel_rfl) (by kernel_rfl) (by kernel_rfl) (by kernel_rfl) (fun _ _ _ h => h) hS rfl (by intro w0 hw0; (try dsimp only at hw0); go_simp; try rfl) ?_
                try simp only [List.set]
                refine wpT_take 5 (v := ?_) rfl rfl (by kernel_rfl) (by kernel_rfl) (by kernel_rfl) (by kernel_rfl) (fun _ _ _ h => h) hS rfl (by intro w0 hw0; (try dsimp only at hw0); go_simp; try rfl) ?_
                try simp only [List.set]
                refine wpT_take 6 (v := ?_) rfl rfl (by kernel_rfl) (by kernel_rfl) (by kernel_rfl) (by kernel_rfl) (fun _ _ _ h => h) hS rfl (by intro w0 hw0; (try dsimp only at hw0); go_simp; try rfl) ?_
                try simp only [List.set]
                refine wpT_take 7 (v := ?_) rfl rfl (by kernel_rfl) (by kernel_rfl) (by kernel_rfl) (by kernel_rfl) (fun _ _ _ h => h) hS rfl (by intro w0 hw0; (try dsimp only at hw0); go_simp; try rfl) ?_
                try simp only [List.set]
                refine wpT_take 8 (v := ?_) rfl rfl (by kernel_rfl) (by kernel_rfl) (by kernel_rfl) (by kernel_rfl) (fun _ _ _ h => h) hS rfl (by intro w0 hw0; (try dsimp only at hw0); go_simp; try rfl) ?_
                try simp only [List.set]
                refine wpT_take 9 (v := ?_) rfl rfl (by kernel_rfl) (by kernel_rfl) (by kernel_rfl) (by kernel_rfl) (fun _ _ _ h => h) hS rfl (by intro w0 hw0; (try dsimp only at hw0); go_simp; try rfl) ?_
                try simp only [List.set]
                refine wpT_take 10 (v := ?_) rfl rfl (by kernel_rfl) (by kernel_rfl) (by kernel_rfl) (by kernel_rfl) (fun _ _ _ h => h) hS rfl (by intro w0 hw0; (try dsimp only at hw0); go_simp; try rfl) ?_
                try simp only [List.set]
                refine wpT_take 13 (v := ?_) rfl rfl (by kernel_rfl) (by kernel_rfl) (by kernel_rfl) (by kernel_rfl) (fun _ _ _ h => h) hS rfl (by intro w0 hw0; (try dsimp only at hw0); go_simp; try rfl) ?_
                try simp only [List.set]
                refine wpT_take 14 (v := ?_) rfl rfl (by kernel_rfl) (by kernel_rfl) (by kernel_rfl) (by kernel_rfl) (fun _ _ _ h => h) hS rfl (by intro w0 hw0; (try dsimp only at hw0); go_simp; try rfl) ?_
                try simp only [List.set]
                refine wpT_take 15 (v := ?_) rfl rfl (by kernel_rfl) (by kernel_rfl) (by kernel_rfl) (by kernel_rfl) (fun _ _ _ h => h) hS rfl (by intro w0 hw0; (try dsimp only at hw0); go_simp; try rfl) ?_
                try simp only [List.set]
                refine wpT_two 0 11 rfl rfl (by kernel_rfl) rfl rfl rfl rfl (fun K hK => ?_) (fun K hK => ?_)
                · go_simp
                  refine hK.out _ _ ⟨(ext_alloc _ _).keep hS.1, (ext_alloc _ _).keep hS.2⟩ (fun hS1 => ?_)
                  clear hK hS
                  have hS := hS1
                  clear hS1
                  try clear K
                  try simp only [put_some, List.set]
                  refine wpT_two 4 11 rfl rfl (by kernel_rfl) rfl rfl rfl rfl (fun K hK => ?_) (fun K hK => ?_)
                  · have hE0 : Ext w6 (w6.drew.alloc (.cells #[] 9)) := Ext.tr (ext_drewN w6 1) (ext_alloc _ _)
                    have hO0 : OwnL (w6.drew.alloc (.cells #[] 9)) w6.heap.size (.slice (some ⟨w6.heap.size, 0, none⟩) 0 0) [] := OwnL.made w6.drew w6.heap.size (Nat.le_refl _)
                    refine wp_strs (L := []) (M := L.take k) _ _ rfl rfl hO0 (by rw [hlk]; rfl) (HT.out.ext hE0) (by rw [hlk]; first | (simp; done) | (simp; omega)) (by simp; try omega) (fun v' wB h2 h3 h4 => ?_)
                    rw [List.nil_append] at h2
                    obtain ⟨aB, cB, rfl⟩ := own_sl h2
                    rw [hlk] at h2 h4 ⊢
                    have hobB : ∀ g', (Value.slice aB k cB).ownBlock = some g' → w6.heap.size ≤ g' := fun g' e => by
                      rcases h4 with h4 | h4
                      · rw [h4] at e
                        have e' := Option.some.inj e
                        simp at e'
                        omega
                      · rw [h4] at e
                        have e' := Option.some.inj e
                        simp at e'
                        omega
                    have hEB : Ext w6 wB := hE0.grown h3 (by simp; try omega) (fun g' e => by
                      have e' := Option.some.inj e
                      simp at e'
                      omega)
                    refine hK.out _ _ ⟨hEB.keep q1, hEB.keep z0⟩ (fun hS1 => ?_)
                    clear hK hS
                    have hS := hS1
                    clear hS1
                    try clear K
                    try simp only [put_some, List.set]
                    refine wpT_one 11 rfl (by kernel_rfl) rfl rfl (fun K hK => ?_)
                    go_simp
                    refine hK.out _ _ ⟨(ext_alloc _ _).keep hS.1, (ext_alloc _ _).keep hS.2⟩ (fun hS1 => ?_)
                    clear hK hS
                    have hS := hS1
                    clear hS1
                    try clear K
                    try simp only [put_some, List.set]
                    have hET : Ext w6 (wB.alloc (.cells #[.string (S nm)] 9)) := Ext.tr hEB (ext_alloc _ _)
                    have hST := one_str' wB nm hln
                    have hOT := h2.ext (ext_alloc wB (.cells #[.string (S nm)] 9))
                    have hzT := hET.size
                    refine wpT_one 12 rfl (by kernel_rfl) rfl rfl (fun K hK => ?_)
                    refine wp_strs (L := L.take k) (M := [nm]) _ _ rfl rfl hOT rfl hST (by rw [hlk]; first | (simp; done) | (simp; omega)) (by omega) (fun v' wC h5 h6 h7 => ?_)
                    obtain ⟨aC, cC, rfl⟩ := own_sl h5
                    have hlC : (L.take k ++ [nm]).length = k + 1 := by rw [List.length_append, hlk]; rfl
                    rw [hlC] at h5 h7 ⊢
                    have hobC : ∀ g', (Value.slice aC (k + 1) cC).ownBlock = some g' → w6.heap.size ≤ g' := fun g' e => by
                      rcases h7 with h7 | h7
                      · rw [h7] at e; exact hobB g' e
                      · rw [h7] at e
                        have e' := Option.some.inj e
                        omega
                    have hEC : Ext w6 wC := hET.grown h6 hzT hobB
                    refine hK.out _ _ ⟨hEC.keep q1, hEC.keep z0⟩ (fun hS1 => ?_)
                    clear hK hS
                    have hS := hS1
                    clear hS1
                    try clear K
                    try simp only [put_some, List.set]
                    have hzC := hEC.size
                    refine wpT_one 16 rfl (by kernel_rfl) rfl rfl (fun K hK => ?_)
                    refine wp_strs (L := L.take k ++ [nm]) (M := L.drop k) _ _ rfl rfl h5 (by rw [List.length_drop]; rfl) (HD.ext hEC) (by rw [hlC, List.length_drop]; omega) (by omega) (fun v' wD h8 h9 h10 => ?_)
                    have hED : Ext w6 wD := hEC.grown h9 hzC hobC
                    refine hK.out _ _ ⟨hED.keep q1, hED.keep z0⟩ (fun hS1 => ?_)
                    clear hK hS
                    have hS := hS1
                    clear hS1
                    try clear K
                    try simp only [put_some, List.set]
                    have HN : Hid (OwnL wD w4.heap.size v' (L.take k ++ [nm] ++ L.drop k)) := h8.low hz6
                    have HED := hid hED
                    clear h2 h3 h4 h5 h6 h7 h8 h9 h10 hEB hEC hED hET hobB hobC hOT hST hO0 hE0 HD HT hS q1 z0
                    refine wpT_last rfl (by kernel_rfl) (by kernel_rfl) rfl (fun K hK => ?_)
                    go_simp
                    refine hK.out _ _ ?_
                    clear hK
                    go_wp2_with fail
                    go_roundw
                    case rel => exact ⟨m + 1, L.take k ++ [nm] ++ L.drop k, by omega, by go_num, gb_tr HG6.out (gb_ext HED.out _), (HR6.out.ext HED.out).mono (by omega), HN.out, hsN, HLN.out⟩
                    case measure => simp [intOf]; omega
                  · go_simp
                    refine hK.out _ _ ⟨(ext_alloc _ _).keep hS.1, (ext_alloc _ _).keep hS.2⟩ (fun hS1 => ?_)
                    clear hK hS
                    have hS := hS1
                    clear hS1
                    try clear K
                    try simp only [put_some, List.set]
                    refine wpT_one 4 rfl (by kernel_rfl) rfl rfl (fun K hK => ?_)
                    have hE0 : Ext w6 ((w6.drew.alloc (.cells #[] 9)).alloc (.cells #[.string (S nm)] 9)) := Ext.tr (Ext.tr (ext_drewN w6 1) (ext_alloc _ _)) (ext_alloc _ _)
                    have hO0 : OwnL ((w6.drew.alloc (.cells #[] 9)).alloc (.cells #[.string (S nm)] 9)) w6.heap.size (.slice (some ⟨w6.heap.size, 0, none⟩) 0 0) [] := (OwnL.made w6.drew w6.heap.size (Nat.le_refl _)).ext (ext_alloc _ _)
                    have hS0 := one_str' (w6.drew.alloc (.cells #[] 9)) nm hln
                    refine wp_strs (L := []) (M := L.take k) _ _ rfl rfl hO0 (by rw [hlk]; rfl) (HT.out.ext hE0) (by rw [hlk]; first | (simp; done) | (simp; omega)) (by simp; try omega) (fun v' wB h2 h3 h4 => ?_)
                    rw [List.nil_append] at h2
                    obtain ⟨aB, cB, rfl⟩ := own_sl h2
                    rw [hlk] at h2 h4 ⊢
                    have hobB : ∀ g', (Value.slice aB k cB).ownBlock = some g' → w6.heap.size ≤ g' := fun g' e => by
                      rcases h4 with h4 | h4
                      · rw [h4] at e
                        have e' := Option.some.inj e
                        simp at e'
                        omega
                      · rw [h4] at e
                        have e' := Option.some.inj e
                        simp at e'
                        omega
                    have hEB : Ext w6 wB := hE0.grown h3 (by simp; try omega) (fun g' e => by
                      have e' := Option.some.inj e
                      simp at e'
                      omega)
                    refine hK.out _ _ ⟨hEB.keep q1, hEB.keep z0⟩ (fun hS1 => ?_)
                    clear hK hS
                    have hS := hS1
                    clear hS1
                    try clear K
                    try simp only [put_some, List.set]
                    have hET : Ext w6 wB := hEB
                    have hST : StrsAt wB (some ⟨w6.heap.size + 1, 0, none⟩) [nm] := by
                      have h := hS0.gb h3 (fun _ b o e => by
                        cases e
                        intro er
                        have e' := Option.some.inj er
                        simp at e')
                      simpa using h
                    have hOT := h2
                    have hzT := hET.size
                    refine wpT_one 12 rfl (by kernel_rfl) rfl rfl (fun K hK => ?_)
                    refine wp_strs (L := L.take k) (M := [nm]) _ _ rfl rfl hOT rfl hST (by rw [hlk]; first | (simp; done) | (simp; omega)) (by omega) (fun v' wC h5 h6 h7 => ?_)
                    obtain ⟨aC, cC, rfl⟩ := own_sl h5
                    have hlC : (L.take k ++ [nm]).length = k + 1 := by rw [List.length_append, hlk]; rfl
                    rw [hlC] at h5 h7 ⊢
                    have hobC : ∀ g', (Value.slice aC (k + 1) cC).ownBlock = some g' → w6.heap.size ≤ g' := fun g' e => by
                      rcases h7 with h7 | h7
                      · rw [h7] at e; exact hobB g' e
                      · rw [h7] at e
                        have e' := Option.some.inj e
                        omega
                    have hEC : Ext w6 wC := hET.grown h6 hzT hobB
                    refine hK.out _ _ ⟨hEC.keep q1, hEC.keep z0⟩ (fun hS1 => ?_)
                    clear hK hS
                    have hS := hS1
                    clear hS1
                    try clear K
                    try simp only [put_some, List.set]
                    have hzC := hEC.size
                    refine wpT_one 16 rfl (by kernel_rfl) rfl rfl (fun K hK => ?_)
                    refine wp_strs (L := L.take k ++ [nm]) (M := L.drop k) _ _ rfl rfl h5 (by rw [List.length_drop]; rfl) (HD.ext hEC) (by rw [hlC, List.length_drop]; omega) (by omega) (fun v' wD h8 h9 h10 => ?_)
                    have hED : Ext w6 wD := hEC.grown h9 hzC hobC
                    refine hK.out _ _ ⟨hED.keep q1, hED.keep z0⟩ (fun hS1 => ?_)
                    clear hK hS
                    have hS := hS1
                    clear hS1
                    try clear K
                    try simp only [put_some, List.set]
                    have HN : Hid (OwnL wD w4.heap.size v' (L.take k ++ [nm] ++ L.drop k)) := h8.low hz6
                    have HED := hid hED
                    clear h2 h3 h4 h5 h6 h7 h8 h9 h10 hEB hEC hED hET hobB hobC hOT hST hO0 hE0 HD HT hS q1 z0
                    refine wpT_last rfl (by kernel_rfl) (by kernel_rfl) rfl (fun K hK => ?_)
                    go_simp
                    refine hK.out _ _ ?_
                    clear hK
                    go_wp2_with fail
                    go_roundw
                    case rel => exact ⟨m + 1, L.take k ++ [nm] ++ L.drop k, by omega, by go_num, gb_tr HG6.out (gb_ext HED.out _), (HR6.out.ext HED.out).mono (by omega), HN.out, hsN, HLN.out⟩
                    case measure => simp [intOf]; omega
                · go_simp
                  refine hK.out _ _ ⟨(ext_alloc _ _).keep hS.1, (ext_alloc _ _).keep hS.2⟩ (fun hS1 => ?_)
                  clear hK hS
                  have hS := hS1
                  clear hS1
                  try clear K
                  try simp only [put_some, List.set]
                  refine wpT_one 0 rfl (by kernel_rfl) rfl rfl (fun K hK => ?_)
                  go_simp
                  refine hK.out _ _ ⟨(ext_alloc _ _).keep hS.1, (ext_alloc _ _).keep hS.2⟩ (fun hS1 => ?_)
                  clear hK hS
                  have hS := hS1
                  clear hS1
                  try clear K
                  try simp only [put_some, List.set]
                  refine wpT_one 4 rfl (by kernel_rfl) rfl rfl (fun K hK => ?_)
                  have hE0 : Ext w6 ((w6.drew.alloc (.cells #[.string (S nm)] 9)).alloc (.cells #[] 9)) := Ext.tr (Ext.tr (ext_drewN w6 1) (ext_alloc _ _)) (ext_alloc _ _)
                  have hO0 : OwnL ((w6.drew.alloc (.cells #[.string (S nm)] 9)).alloc (.cells #[] 9)) w6.heap.size (.slice (some ⟨w6.heap.size + 1, 0, none⟩) 0 0) [] := by have h := OwnL.made (w6.drew.alloc (.cells #[.string (S nm)] 9)) w6.heap.size (by simp); simpa using h
                  have hS0 := (one_str' w6.drew nm hln).ext (ext_alloc (w6.drew.alloc (.cells #[.string (S nm)] 9)) (.cells #[] 9))
                  refine wp_strs (L := []) (M := L.take k) _ _ rfl rfl hO0 (by rw [hlk]; rfl) (HT.out.ext hE0) (by rw [hlk]; first | (simp; done) | (simp; omega)) (by simp; try omega) (fun v' wB h2 h3 h4 => ?_)
                  rw [List.nil_append] at h2
                  obtain ⟨aB, cB, rfl⟩ := own_sl h2
                  rw [hlk] at h2 h4 ⊢
                  have hobB : ∀ g', (Value.slice aB k cB).ownBlock = some g' → w6.heap.size ≤ g' := fun g' e => by
                    rcases h4 with h4 | h4
                    · rw [h4] at e
                      have e' := Option.some.inj e
                      simp at e'
                      omega
                    · rw [h4] at e
                      have e' := Option.some.inj e
                      simp at e'
                      omega
                  have hEB : Ext w6 wB := hE0.grown h3 (by simp; try omega) (fun g' e => by
                    have e' := Option.some.inj e
                    simp at e'
                    omega)
                  refine hK.out _ _ ⟨hEB.keep q1, hEB.keep z0⟩ (fun hS1 => ?_)
                  clear hK hS
                  have hS := hS1
                  clear hS1
                  try clear K
                  try simp only [put_some, List.set]
                  have hET : Ext w6 wB := hEB
                  have hST := hS0.gb h3 (fun _ b o e => by
                    cases e
                    intro er
                    have e' := Option.some.inj er
                    simp at e')
                  have hOT := h2
                  have hzT := hET.size
                  refine wpT_one 12 rfl (by kernel_rfl) rfl rfl (fun K hK => ?_)
                  refine wp_strs (L := L.take k) (M := [nm]) _ _ rfl rfl hOT rfl hST (by rw [hlk]; first | (simp; done) | (simp; omega)) (by omega) (fun v' wC h5 h6 h7 => ?_)
                  obtain ⟨aC, cC, rfl⟩ := own_sl h5
                  have hlC : (L.take k ++ [nm]).length = k + 1 := by rw [List.length_append, hlk]; rfl
                  rw [hlC] at h5 h7 ⊢
                  have hobC : ∀ g', (Value.slice aC (k + 1) cC).ownBlock = some g' → w6.heap.size ≤ g' := fun g' e => by
                    rcases h7 with h7 | h7
                    · rw [h7] at e; exact hobB g' e
                    · rw [h7] at e
                      have e' := Option.some.inj e
                      omega
                  have hEC : Ext w6 wC := hET.grown h6 hzT hobB
                  refine hK.out _ _ ⟨hEC.keep q1, hEC.keep z0⟩ (fun hS1 => ?_)
                  clear hK hS
                  have hS := hS1
                  clear hS1
                  try clear K
                  try simp only [put_some, List.set]
                  have hzC := hEC.size
                  refine wpT_one 16 rfl (by kernel_rfl) rfl rfl (fun K hK => ?_)
                  refine wp_strs (L := L.take k ++ [nm]) (M := L.drop k) _ _ rfl rfl h5 (by rw [List.length_drop]; rfl) (HD.ext hEC) (by rw [hlC, List.length_drop]; omega) (by omega) (fun v' wD h8 h9 h10 => ?_)
                  have hED : Ext w6 wD := hEC.grown h9 hzC hobC
                  refine hK.out _ _ ⟨hED.keep q1, hED.keep z0⟩ (fun hS1 => ?_)
                  clear hK hS
                  have hS := hS1
                  clear hS1
                  try clear K
                  try simp only [put_some, List.set]
                  have HN : Hid (OwnL wD w4.heap.size v' (L.take k ++ [nm] ++ L.drop k)) := h8.low hz6
                  have HED := hid hED
                  clear h2 h3 h4 h5 h6 h7 h8 h9 h10 hEB hEC hED hET hobB hobC hOT hST hO0 hE0 HD HT hS q1 z0
                  refine wpT_last rfl (by kernel_rfl) (by kernel_rfl) rfl (fun K hK => ?_)
                  go_simp
                  refine hK.out _ _ ?_
                  clear hK
                  go_wp2_with fail
                  go_roundw
                  case rel => exact ⟨m + 1, L.take k ++ [nm] ++ L.drop k, by omega, by go_num, gb_tr HG6.out (gb_ext HED.out _), (HR6.out.ext HED.out).mono (by omega), HN.out, hsN, HLN.out⟩
                  case measure => simp [intOf]; omega
          · have hge : ¬ ((m : Int) < (b.batches.length : Int)) := by omega
            go_wp2_with fail
            go_meet
            exact ⟨L, HGl.out, HRl.out.mono (by omega), HOl.out, hsl, hl7⟩
    case rest =>
      obtain ⟨L, hg, hr, ho, hsl, hll⟩ := hcut
      obtain ⟨aL, cL, rfl⟩ := own_sl ho
      have HG7 := hid hg
      have HR7 := hid hr
      have HO7 := hid ho
      clear hg hr ho HG HR HO
      go_upto_region 11 with fail
      go_cut [6, 63] (fun s6 v wx => s6 = .slice aL L.length cL ∧ (∃ x : Bool, v = .bool x ∧ (x = true → 0 < L.length)) ∧ w4.grownBy wx (some (w.heap.size + 1)) ∧ Rd wx (w.heap.size + 1) 3121 ∧ OwnL wx w4.heap.size (.slice aL L.length cL) L)
      case first =>
        by_cases hl0 : 0 < L.length
        · have hli : (0 : Int) < (L.length : Int) := by omega
          go_wp2_with fail
          refine (pick_any (w.heap.size + 1) 3120 12 _ HR7.out (by omega) (by omega) (by omega)).mono ?_
          rintro e w6 ⟨j, rfl, hj, hg6, hr6⟩
          have HG6 := hid (gb_tr HG7.out hg6)
          have HR6 := hid hr6
          have HO6 := hid (HO7.out.far hg6 (fun k e => by cases e; omega))
          clear hg6 hr6
          go_wp2_with fail
          go_meet
          exact ⟨rfl, ⟨_, rfl, fun _ => hl0⟩, HG6.out, HR6.out, HO6.out⟩
        · have hli : ¬ ((0 : Int) < (L.length : Int)) := by omega
          go_wp2_with fail
          go_meet
          exact ⟨rfl, ⟨false, rfl, (fun h => by cases h)⟩, HG7.out, HR7.out.mono (by omega), HO7.out⟩
      case rest =>
        obtain ⟨rfl, ⟨x', rfl, hx'⟩, hg, hr, ho⟩ := hcut
        have HG8 := hid hg
        have HR8 := hid hr
        have HO8 := hid ho
        clear hg hr ho HG7 HR7 HO7
        go_upto_if 63 with fail
        go_cut [6] (fun s6 wx => s6 = .slice aL L.length cL ∧ ∃ L' : List Str, L'.length = L.length ∧ w4.grownBy wx (some (w.heap.size + 1)) ∧ Rd wx (w.heap.size + 1) 3130 ∧ OwnL wx w4.heap.size (.slice aL L.length cL) L' ∧ ShortL L')
        case first =>
          cases x'
          · go_wp2_with fail
            go_meet
            exact ⟨rfl, L, rfl, HG8.out, HR8.out.mono (by omega), HO8.out, hsl⟩
          · have hl0 := hx' rfl
            go_wp2_with fail
            refine (pick_any (w.heap.size + 1) 3121 L.length _ HR8.out (by omega) hl0 (by omega)).mono ?_
            rintro e w6 ⟨k, rfl, hk, hg6, hr6⟩
            have HG6 := hid (gb_tr HG8.out hg6)
            have HR6 := hid hr6
            have HO6 := hid (HO8.out.far hg6 (fun k e => by cases e; omega))
            clear hg6 hr6
            go_wp2_with fail
            have hfA : StrsAt (w6.alloc (.cells #[.string (S []), .string (S [97, 108, 101]), .string (S [122, 122])] 9)) (some ⟨w6.heap.size, 0, none⟩) wordsF := rec_strs (Rec.new w6 _ _) wordsF_short
            have hrA := HR6.out.ext (ext_alloc w6 (.cells #[.string (S []), .string (S [97, 108, 101]), .string (S [122, 122])] 9))
            have hof := of_any (w.heap.size + 1) (3121 + 1) _ 3 wordsF _ hrA (by omega) hfA (by simp [wordsF]) (by simp [wordsF]) (fun b' o' e' => hfA.notR hrA (by simp [wordsF]) b' o' e')
            have e3 : wordsF.length = 3 := rfl
            rw [e3] at hof
            refine hof.mono ?_
            clear hof
            rintro e wB ⟨jB, hjB, rfl, hgB, hrB⟩
            have hwl : (nth wordsF jB).length ≤ 140737488355328 := wordsF_short.2 jB (by rw [e3]; exact hjB)
            have HGB := hid (gb_tr (gb_tr HG6.out (gb_ext (ext_alloc _ _) _)) hgB)
            have HRB := hid hrB
            have HOB := hid ((HO6.out.ext (ext_alloc w6 (.cells #[.string (S []), .string (S [97, 108, 101]), .string (S [122, 122])] 9))).far hgB (fun k e => by cases e; omega))
            clear hgB hrB hfA hrA
            obtain ⟨g, cap, ev, hgb, hqc, hqf⟩ := own_cell HOB.out (j := k) (u := .string (S (nth L k))) (by rw [List.getElem?_map, List.getElem?_eq_getElem hk, nth_get hk]; rfl)
            simp only [Value.slice.injEq] at ev
            have ev1 := ev.1
            clear ev
            subst ev1
            have HOS := hid (World.ownsRow.stored HOB.out k (.string (S (nth wordsF jB)))).1
            have hgs := gb_store wB g k (.string (S (nth wordsF jB)))
            have HGS := hid (on_grown HGB.out hgs (fun b' e' => by cases e'; omega))
            have HRS : Hid (Rd (wB.setCell ⟨g, k, none⟩ (.string (S (nth wordsF jB)))) (w.heap.size + 1) (3121 + 1 + 1)) := HRB.out.gb hgs (fun b' e' => by cases e'; omega)
            clear hgs
            go_wp2_with fail
            go_meet
            exact ⟨rfl, L.set k (nth wordsF jB), by simp, HGS.out, HRS.out.mono (by omega), by
              have h1 := HOS.out
              have e : (L.map fun s => Value.string (S s)).set k (.string (S (nth wordsF jB))) = (L.set k (nth wordsF jB)).map fun s => Value.string (S s) := by rw [List.map_set]
              rw [e] at h1
              unfold OwnL
              rw [List.length_set]
              exact h1, by
              rw [short_iff] at hsl ⊢
              intro y hy
              rcases List.mem_or_eq_of_mem_set hy with hy | rfl
              · exact hsl y hy
              · exact hwl⟩
        case rest =>
          obtain ⟨rfl, L', hlen', hg, hr, ho, hsl'⟩ := hcut
          have HB9 := hid (HB2.out.on HRd2.out hg)
          have HX9 := hid (HRX2.out.kept hg (by simp; omega))
          have HRR9 := hid (HRR2.out.kept hg (by simp))
          have HE9 := hid (on_new HE2.out (by omega) hg)
          have HO9 := hid ho
          have HLE := hid hlen'
          clear hg hr ho hlen'
          have q0 := HX9.out.cell (i := 0) rfl
          have q1 := HX9.out.cell (i := 1) rfl
          have t0 := HRR9.out.cell (i := 0) rfl
          have t1 := HRR9.out.cell (i := 1) rfl
          have f0 := HRR9.out.frozen 0
          have f1 := HRR9.out.frozen 1
          go_wp2
          have hE3 : Ext w ((wc.setCell ⟨w.heap.size, 0, none⟩ (.slice x1 b.things.length y1)).setCell ⟨w.heap.size, 1, none⟩ (.slice x2 b.batches.length y2)) := (HE9.out.setCell (by simp) _).setCell (by simp) _
          have hB3 : BookAt ((wc.setCell ⟨w.heap.size, 0, none⟩ (.slice x1 b.things.length y1)).setCell ⟨w.heap.size, 1, none⟩ (.slice x2 b.batches.length y2)) x1 x2 b := (HB9.out.box HRR9.out noStr2).box (HRR9.out.set 0 _) noStr2
          have hO3 := (HO9.out.stored HRR9.out rfl 0 (.slice x1 b.things.length y1)).stored (HRR9.out.set 0 _) rfl 1 (.slice x2 b.batches.length y2)
          obtain ⟨a3, c3, ee, hat⟩ := hO3.at (by rw [HLE.out]; omega) hsl'
          simp only [Value.slice.injEq] at ee
          obtain ⟨rfl, _, rfl⟩ := ee
          have hcap : L'.length ≤ cL := by
            rcases hO3.2 with ⟨e', h0⟩ | ⟨_, _, _, e', _, _, h1, _⟩
            · omega
            · simp only [Value.slice.injEq] at e'
              omega
          refine bodyPost_ret (v := .tuple #[.agg #[.slice x1 b.things.length y1, .slice x2 b.batches.length y2], .slice aL L'.length cL]) (by simp [results, Try.results18, go_sem, t0, t1, HLE.out]) rfl ⟨b, L', x1, x2, aL, y1, y2, cL, rfl, hE3, hB3, hat, hcap, hsm⟩
end Go.Proofs.Ytdgldjiahpdmaaa
