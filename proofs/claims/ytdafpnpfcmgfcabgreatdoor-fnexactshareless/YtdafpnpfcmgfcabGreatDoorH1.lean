/- A region that draws its order, whose last operation (number z) waits for all others: an operation that yields its value wherever the condition S holds may be taken first; S is asked behind every operation but z. -/
import Derived.Test.YtdafpnpfcmgfcabGreatDoorMem
import Derived.OrdersHeld
import Derived.Deep.RegionWith
namespace Go.Proofs.YtdafpnpfcmgfcabGreatDoor
open Go.RowKit

section
variable {P : Program} {ops : Array Oper} {Q : Exit → Act → World → Prop} {md : Region.Mode} {S : World → Prop} {z : Nat}

/-- Number z waits for number i. -/
def waits (md : Region.Mode) (ops : Array Oper) (z i : Nat) : Bool := ((ops[z]?).map fun o => o.after.toList.any fun e => Region.binds md e && e.on == i).getD false

/-- Whatever order is picked; S holds behind each operation but z. -/
def wpT (P : Program) (md : Region.Mode) (ops : Array Oper) (Q : Exit → Act → World → Prop) (S : World → Prop) (z : Nat) : Nat → Array Bool → Act → World → Prop
  | 0, listed, a, w => Region.ready md ops listed = [] ∧ Q .normal a w
  | fuel + 1, listed, a, w =>
    (Region.ready md ops listed = [] → Q .normal a w) ∧
    ∀ i ∈ Region.ready md ops listed, wpOp P ops Q i (fun a' w' => (i ≠ z → S w') ∧ wpT P md ops Q S z fuel (listed.setIfInBounds i true) a' w') a w

theorem wpAny_of_T : ∀ (fuel : Nat) (listed : Array Bool) (a : Act) (w : World), wpT P md ops Q S z fuel listed a w → wpAny P md ops Q fuel listed a w
  | 0, _, _, _, h => h
  | fuel + 1, _, _, _, h => ⟨h.1, fun i hi => wpOp_mono (fun a' w' h' => wpAny_of_T fuel _ a' w' h'.2) (h.2 i hi)⟩

theorem wpT_first {i : Nat} {oi : Oper} {v : Value} (hi : ops[i]? = some oi) (hsel : ∀ (j : Nat) (o : Oper) cs b, ops[j]? = some o → o.op ≠ .select cs b)
    (hQ : ∀ c a w, Q (.panic c) (a.put oi.dst v) w → Q (.panic c) a w) (hz : waits md ops z i = true) :
    ∀ (fuel : Nat) (listed : Array Bool) (a : Act) (w : World),
      (∀ j oj, ops[j]? = some oj → j ≠ i → listed.getD j true = false → (∀ e ∈ oj.after, Region.binds md e = true → e.on ≠ i) → oi.apart ops oj = true) →
      i ∈ Region.ready md ops listed → YieldsIf P ops S oi v a → S w →
      wpT P md ops Q S z fuel (listed.setIfInBounds i true) (a.put oi.dst v) w → wpT P md ops Q S z (fuel + 1) listed a w
  | 0, listed, a, w, _, hr, hy, hS, H => by
    refine ⟨fun h => by rw [h] at hr; simp at hr, fun j hj => ?_⟩
    by_cases e : j = i
    · subst e; exact hy.wpOp hi hS ⟨fun _ => hS, H⟩
    · have h1 := ready_mono hj e
      rw [H.1] at h1; simp at h1
  | fuel + 1, listed, a, w, hfree, hr, hy, hS, H => by
    refine ⟨fun h => by rw [h] at hr; simp at hr, fun j hj => ?_⟩
    by_cases e : j = i
    · subst e; exact hy.wpOp hi hS ⟨fun _ => hS, H⟩
    · have h1 := H.2 j (ready_mono hj e)
      obtain ⟨hjun, oj, hoj, hall⟩ := mem_ready.1 hj
      have hno : ∀ x ∈ oj.after, Region.binds md x = true → x.on ≠ i := fun x hx hb ex => by
        have h2 := hall x hx hb
        have h0 := (mem_ready.1 hr).1
        rw [ex] at h2
        rcases Nat.lt_or_ge i listed.size with h' | h'
        · simp [h'] at h0 h2; rw [h0] at h2; cases h2
        · simp [Array.getElem?_eq_none h'] at h2
      have hjz : j ≠ z := fun ez => by
        subst ez
        unfold waits at hz
        rw [hoj] at hz
        simp only [Option.map_some, Option.getD_some, List.any_eq_true, Bool.and_eq_true, beq_iff_eq] at hz
        obtain ⟨x, hx, hb, ex⟩ := hz
        exact hno x (by simpa using hx) hb ex
      have h2 := wpOp_putIf hoj (hfree j oj hoj e hjun hno) (fun cs b => hsel i oi cs b hi) (fun cs b => hsel j oj cs b hoj) hQ hy h1
      have hri : i ∈ Region.ready md ops (listed.setIfInBounds j true) := ready_mono hr (Ne.symm e)
      refine wpOp_mono (fun a' w' h3 => ?_) h2
      have hS' : S w' := h3.2.1 hjz
      refine ⟨fun _ => hS', wpT_first hi hsel hQ hz fuel (listed.setIfInBounds j true) a' w' (fun k ok hk hki hun hn2 => hfree k ok hk hki ?_ hn2) hri h3.1 hS' ?_⟩
      · by_cases ek : j = k
        · subst ek; exact hjun
        · rw [getD_set_ne true ek] at hun; exact hun
      · rw [Array.setIfInBounds_comm _ _ e]
        exact h3.2.2

theorem wpT_take (i : Nat) {oi : Oper} {v : Value} {fuel d : Nat} {listed : Array Bool} {l : List Value} {df : List Deferred} {w : World} (hi : ops[i]? = some oi) (hd : oi.dst = some d)
    (hs : Region.noSelect ops = true) (hz : waits md ops z i = true) (hf : Region.free md ops listed i = true) (hr : (Region.ready md ops listed).contains i = true)
    (hQ : ∀ c a w, Q (.panic c) (a.put (some d) v) w → Q (.panic c) a w) (hS : S w) (hw : Region.wanted oi (yielded ops l.toArray) = true) (hy : ∀ w, S w → (execOp (Act.eval { tmps := l.toArray, defers := df }) oi).run P w = .ok (.value v) w)
    (h : wpT P md ops Q S z fuel (listed.setIfInBounds i true) { tmps := (l.set d v).toArray, defers := df } w) : wpT P md ops Q S z (fuel + 1) listed { tmps := l.toArray, defers := df } w :=
  wpT_first hi (Region.noSelect_spec hs) (by rw [hd]; exact hQ) hz fuel listed _ w (Region.free_spec hi hf) (by simpa using hr) (Or.inl ⟨hw, hy⟩) hS (by rw [hd]; simpa [Act.put] using h)

/-- One alone may come up. -/
theorem wpT_one (i : Nat) {oi : Oper} {fuel : Nat} {listed : Array Bool} {a : Act} {w : World} (hi : ops[i]? = some oi) (hr : Region.ready md ops listed = [i]) (hz : (i == z) = false) (hw : Region.wanted oi (yielded ops a.tmps) = true)
    (h : ∀ K : Act → World → Prop, Hid (∀ a w, S w → (S w → wpT P md ops Q S z fuel (listed.setIfInBounds i true) a w) → K a w) → Oper.wp P oi a w K Q) : wpT P md ops Q S z (fuel + 1) listed a w := by
  refine ⟨fun h0 => absurd (hr.symm.trans h0) (by simp), fun j hj => ?_⟩
  rw [hr] at hj
  simp only [List.mem_cons, List.not_mem_nil, or_false] at hj
  subst hj
  refine wpOp_step hi (fun K hK => ?_)
  rw [if_pos hw]
  exact h K (fun a w hS hT => hK a w ⟨fun _ => hS, hT hS⟩)
/-- Two may come up. -/
theorem wpT_two (i j : Nat) {oi oj : Oper} {fuel : Nat} {listed : Array Bool} {a : Act} {w : World} (hi : ops[i]? = some oi) (hj : ops[j]? = some oj) (hr : Region.ready md ops listed = [i, j]) (hzi : (i == z) = false) (hzj : (j == z) = false) (hwi : Region.wanted oi (yielded ops a.tmps) = true) (hwj : Region.wanted oj (yielded ops a.tmps) = true)
    (h1 : ∀ K : Act → World → Prop, Hid (∀ a w, S w → (S w → wpT P md ops Q S z fuel (listed.setIfInBounds i true) a w) → K a w) → Oper.wp P oi a w K Q)
    (h2 : ∀ K : Act → World → Prop, Hid (∀ a w, S w → (S w → wpT P md ops Q S z fuel (listed.setIfInBounds j true) a w) → K a w) → Oper.wp P oj a w K Q) : wpT P md ops Q S z (fuel + 1) listed a w := by
  refine ⟨fun h0 => absurd (hr.symm.trans h0) (by simp), fun x hx => ?_⟩
  rw [hr] at hx
  simp only [List.mem_cons, List.not_mem_nil, or_false] at hx
  rcases hx with rfl | rfl
  · refine wpOp_step hi (fun K hK => ?_)
    rw [if_pos hwi]
    exact h1 K (fun a w hS hT => hK a w ⟨fun _ => hS, hT hS⟩)
  · refine wpOp_step hj (fun K hK => ?_)
    rw [if_pos hwj]
    exact h2 K (fun a w hS hT => hK a w ⟨fun _ => hS, hT hS⟩)
/-- The last. -/
theorem wpT_last {oi : Oper} {fuel : Nat} {listed : Array Bool} {a : Act} {w : World} (hi : ops[z]? = some oi) (hr : Region.ready md ops listed = [z]) (hr2 : Region.ready md ops (listed.setIfInBounds z true) = []) (hw : Region.wanted oi (yielded ops a.tmps) = true)
    (h : ∀ K : Act → World → Prop, Hid (∀ a w, Q .normal a w → K a w) → Oper.wp P oi a w K Q) : wpT P md ops Q S z (fuel + 1) listed a w := by
  refine ⟨fun h0 => absurd (hr.symm.trans h0) (by simp), fun j hj => ?_⟩
  rw [hr] at hj
  simp only [List.mem_cons, List.not_mem_nil, or_false] at hj
  subst hj
  refine wpOp_step hi (fun K hK => ?_)
  rw [if_pos hw]
  refine h K (fun a w hQ => hK a w ⟨fun h => absurd rfl h, ?_⟩)
  cases fuel with
  | zero => exact ⟨hr2, hQ⟩
  | succ n => exact ⟨fun _ => hQ, fun i hi => by rw [hr2] at hi; simp at hi⟩

theorem wp_region_T {id : Nat} (S : World → Prop) (z : Nat) {a : Act} {w : World} (hm : P.follows .mixedOrders = true) (hS : S w.drew)
    (h : S w.drew → wpT P .any ops Q S z ops.size (Array.replicate ops.size false) a w.drew) : (Code.region id ops true).wp P Q a w :=
  wp_region_any hm (wpAny_of_T _ _ _ _ (h hS))
end

theorem put_some (l : List Value) (d : List Deferred) (i : Nat) (v : Value) : Act.put { tmps := l.toArray, defers := d } (some i) v = { tmps := (l.set i v).toArray, defers := d } := by
  simp [Act.put]
/-- A record of cells, whole. -/
def Rec (w : World) (X : Nat) (t : TypeId) (l : List Value) : Prop := w.heap[X]? = some (.cells l.toArray t (0, 0))
theorem Rec.lt {w : World} {X : Nat} {t : TypeId} {l : List Value} (h : Rec w X t l) : X < w.heap.size := (Array.getElem?_eq_some_iff.1 h).1
theorem Rec.cell {w : World} {X : Nat} {t : TypeId} {l : List Value} (h : Rec w X t l) {i : Nat} {v : Value} (hi : l[i]? = some v) : w.cell? ⟨X, i, none⟩ = some v := by
  unfold World.cell?
  simp only [show w.heap[X]? = _ from h]
  simpa using hi
theorem Rec.frozen {w : World} {X : Nat} {t : TypeId} {l : List Value} (h : Rec w X t l) (i : Nat) : w.frozen? ⟨X, i, none⟩ = false := by
  simp [World.frozen?, show w.heap[X]? = _ from h]
theorem Rec.new (w : World) (t : TypeId) (l : List Value) : Rec (w.alloc (.cells l.toArray t)) w.heap.size t l := heap_alloc_new w _
theorem Rec.kept {w w' : World} {X : Nat} {t : TypeId} {l : List Value} (h : Rec w X t l) {row : Option Nat} (g : w.grownBy w' row) (hne : some X ≠ row) : Rec w' X t l := (g.block X h.lt hne).trans h
theorem Rec.ext {w w' : World} {X : Nat} {t : TypeId} {l : List Value} (h : Rec w X t l) (e : Ext w w') : Rec w' X t l := (e.block X h.lt).trans h
theorem Rec.set {w : World} {X : Nat} {t : TypeId} {l : List Value} (h : Rec w X t l) (i : Nat) (v : Value) : Rec (w.setCell ⟨X, i, none⟩ v) X t (l.set i v) := by
  unfold Rec World.setCell
  rw [Array.getElem?_modify]
  simp [show w.heap[X]? = _ from h]
theorem Rec.not_row {w : World} {X : Nat} {t : TypeId} {l : List Value} (h : Rec w X t l) {base : Nat} {e : TypeId} {size : Nat} {v : Value} {n : Nat} {xs : List Value} (hte : (t == e) = false) (hr : w.ownsRow base e size v n xs) : some X ≠ v.ownBlock := by
  intro ex
  rcases hr.2 with ⟨rfl, _⟩ | ⟨g, cap, cur, rfl, _, hg, _⟩
  · simp [Value.ownBlock] at ex
  · have e' : X = g := by simpa [Value.ownBlock] using ex
    subst e'
    rw [show w.heap[X]? = _ from h] at hg
    simp only [Option.some.injEq, Obj.cells.injEq] at hg
    simp [hg.2.1] at hte
theorem gb_store (w : World) (B i : Nat) (v : Value) : w.grownBy (w.setCell ⟨B, i, none⟩ v) (some B) :=
  ⟨rfl, rfl, rfl, by simp [World.setCell], fun k _ hk => Below.heap_setCell _ _ _ k (fun e => hk (by rw [e]))⟩
end Go.Proofs.YtdafpnpfcmgfcabGreatDoor
