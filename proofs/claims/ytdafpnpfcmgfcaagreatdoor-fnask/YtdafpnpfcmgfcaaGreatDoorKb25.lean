/- A region that draws its order, whose last operation (number z) waits for all others: an operation that yields its value wherever the condition S holds may be taken first; S is asked behind every operation but z. Appending a list that lies anywhere (or nowhere) to a row of the call's own; the specification's l1Names. The program's small functions of chapter 3 on lists: copied, kept, picked. Who else has one of some things, the program's way. -/
import Derived.Test.YtdafpnpfcmgfcaaGreatDoorKb17
import Derived.OrdersHeld
import Derived.Deep.RegionWith
import Derived.Test.YtdafpnpfcmgfcaaGreatDoorKb22
import Derived.Maps.AppendAt
import Derived.Laws.OwnMore
import Derived.Test.YtdafpnpfcmgfcaaGreatDoorKb24
import Derived.Test.YtdafpnpfcmgfcaaGreatDoorKb20
namespace Go.Proofs.YtdafpnpfcmgfcaaGreatDoor
section
open Go.RowKit
section
variable {P : Program} {ops : Array Oper} {Q : Exit → Act → World → Prop} {md : Region.Mode} {S : World → Prop} {z : Nat}
def waits (md : Region.Mode) (ops : Array Oper) (z i : Nat) : Bool := ((ops[z]?).map fun o => o.after.toList.any fun e => Region.binds md e && e.on == i).getD false
def wpT (P : Program) (md : Region.Mode) (ops : Array Oper) (Q : Exit → Act → World → Prop) (S : World → Prop) (z : Nat) : Nat → Array Bool → Act → World → Prop
 | 0, listed, a, w => Region.ready md ops listed = [] ∧ Q .normal a w
 | fuel + 1, listed, a, w =>
  (Region.ready md ops listed = [] → Q .normal a w) ∧
  ∀ i ∈ Region.ready md ops listed, wpOp P ops Q i (fun a' w' => (i ≠ z → S w') ∧ wpT P md ops Q S z fuel (listed.setIfInBounds i true) a' w') a w
theorem wpAny_of_T : ∀ (fuel : Nat) (listed : Array Bool) (a : Act) (w : World), wpT P md ops Q S z fuel listed a w → wpAny P md ops Q fuel listed a w
 | 0, _, _, _, h => h
 | fuel + 1, _, _, _, h => ⟨h.1, fun i hi => wpOp_mono (fun a' w' h' => wpAny_of_T fuel _ a' w' h'.2) (h.2 i hi)⟩
theorem wpT_first {i : Nat} {oi : Oper} {v : Value} (hi : ops[i]? = some oi) (hsel : ∀ (j : Nat) (o : Oper) cs b, ops[j]? = some o → o.op ≠ .select cs b)
  (hQ : ∀ c a w, Q (.panic c) (a.put oi.dst v) w → Q (.panic c) a w) (hz : waits md ops z i = true) :
  ∀ (fuel : Nat) (listed : Array Bool) (a : Act) (w : World),
   (∀ j oj, ops[j]? = some oj → j ≠ i → listed.getD j true = false → (∀ e ∈ oj.after, Region.binds md e = true → e.on ≠ i) → oi.apart ops oj = true) →
   i ∈ Region.ready md ops listed → YieldsIf P ops S oi v a → S w →
   wpT P md ops Q S z fuel (listed.setIfInBounds i true) (a.put oi.dst v) w → wpT P md ops Q S z (fuel + 1) listed a w
 | 0, listed, a, w, _, hr, hy, hS, H => by
  refine ⟨fun h => by rw [h] at hr; simp at hr, fun j hj => ?_⟩
  by_cases e : j = i
  ·subst e; exact hy.wpOp hi hS ⟨fun _ => hS, H⟩
  ·have h1 := ready_mono hj e
   rw [H.1] at h1; simp at h1
 | fuel + 1, listed, a, w, hfree, hr, hy, hS, H => by
  refine ⟨fun h => by rw [h] at hr; simp at hr, fun j hj => ?_⟩
  by_cases e : j = i
  ·subst e; exact hy.wpOp hi hS ⟨fun _ => hS, H⟩
  ·have h1 := H.2 j (ready_mono hj e)
   obtain ⟨hjun, oj, hoj, hall⟩ := mem_ready.1 hj
   have hno : ∀ x ∈ oj.after, Region.binds md x = true → x.on ≠ i := fun x hx hb ex => by
    have h2 := hall x hx hb
    have h0 := (mem_ready.1 hr).1
    rw [ex] at h2
    rcases Nat.lt_or_ge i listed.size with h' | h'
    ·simp [h'] at h0 h2; rw [h0] at h2; cases h2
    ·simp [Array.getElem?_eq_none h'] at h2
   have hjz : j ≠ z := fun ez => by
    subst ez
    unfold waits at hz
    rw [hoj] at hz
    simp only [Option.map_some, Option.getD_some, List.any_eq_true, Bool.and_eq_true, beq_iff_eq] at hz
    obtain ⟨x, hx, hb, ex⟩ := hz
    exact hno x (by simpa using hx) hb ex
   have h2 := wpOp_putIf hoj (hfree j oj hoj e hjun hno) (fun cs b => hsel i oi cs b hi) (fun cs b => hsel j oj cs b hoj) hQ hy h1
   have hri : i ∈ Region.ready md ops (listed.setIfInBounds j true) := ready_mono hr (Ne.symm e)
   refine wpOp_mono (fun a' w' h3 => ?_) h2
   have hS' : S w' := h3.2.1 hjz
   refine ⟨fun _ => hS', wpT_first hi hsel hQ hz fuel (listed.setIfInBounds j true) a' w' (fun k ok hk hki hun hn2 => hfree k ok hk hki ?_ hn2) hri h3.1 hS' ?_⟩
   ·by_cases ek : j = k
    ·subst ek; exact hjun
    ·rw [getD_set_ne true ek] at hun; exact hun
   ·rw [Array.setIfInBounds_comm _ _ e]
    exact h3.2.2
theorem wpT_take (i : Nat) {oi : Oper} {v : Value} {fuel d : Nat} {listed : Array Bool} {l : List Value} {df : List Deferred} {w : World} (hi : ops[i]? = some oi) (hd : oi.dst = some d)
  (hs : Region.noSelect ops = true) (hz : waits md ops z i = true) (hf : Region.free md ops listed i = true) (hr : (Region.ready md ops listed).contains i = true)
  (hQ : ∀ c a w, Q (.panic c) (a.put (some d) v) w → Q (.panic c) a w) (hS : S w) (hw : Region.wanted oi (yielded ops l.toArray) = true) (hy : ∀ w, S w → (execOp (Act.eval { tmps := l.toArray, defers := df }) oi).run P w = .ok (.value v) w)
  (h : wpT P md ops Q S z fuel (listed.setIfInBounds i true) { tmps := (l.set d v).toArray, defers := df } w) : wpT P md ops Q S z (fuel + 1) listed { tmps := l.toArray, defers := df } w :=
 wpT_first hi (Region.noSelect_spec hs) (by rw [hd]; exact hQ) hz fuel listed _ w (Region.free_spec hi hf) (by simpa using hr) (Or.inl ⟨hw, hy⟩) hS (by rw [hd]; simpa [Act.put] using h)
theorem wpT_one (i : Nat) {oi : Oper} {fuel : Nat} {listed : Array Bool} {a : Act} {w : World} (hi : ops[i]? = some oi) (hr : Region.ready md ops listed = [i]) (hz : (i == z) = false) (hw : Region.wanted oi (yielded ops a.tmps) = true)
  (h : ∀ K : Act → World → Prop, Hid (∀ a w, S w → (S w → wpT P md ops Q S z fuel (listed.setIfInBounds i true) a w) → K a w) → Oper.wp P oi a w K Q) : wpT P md ops Q S z (fuel + 1) listed a w := by
 refine ⟨fun h0 => absurd (hr.symm.trans h0) (by simp), fun j hj => ?_⟩
 rw [hr] at hj
 simp only [List.mem_cons, List.not_mem_nil, or_false] at hj
 subst hj
 refine wpOp_step hi (fun K hK => ?_)
 rw [if_pos hw]
 exact h K (fun a w hS hT => hK a w ⟨fun _ => hS, hT hS⟩)
theorem wpT_two (i j : Nat) {oi oj : Oper} {fuel : Nat} {listed : Array Bool} {a : Act} {w : World} (hi : ops[i]? = some oi) (hj : ops[j]? = some oj) (hr : Region.ready md ops listed = [i, j]) (hzi : (i == z) = false) (hzj : (j == z) = false) (hwi : Region.wanted oi (yielded ops a.tmps) = true) (hwj : Region.wanted oj (yielded ops a.tmps) = true)
  (h1 : ∀ K : Act → World → Prop, Hid (∀ a w, S w → (S w → wpT P md ops Q S z fuel (listed.setIfInBounds i true) a w) → K a w) → Oper.wp P oi a w K Q)
  (h2 : ∀ K : Act → World → Prop, Hid (∀ a w, S w → (S w → wpT P md ops Q S z fuel (listed.setIfInBounds j true) a w) → K a w) → Oper.wp P oj a w K Q) : wpT P md ops Q S z (fuel + 1) listed a w := by
 refine ⟨fun h0 => absurd (hr.symm.trans h0) (by simp), fun x hx => ?_⟩
 rw [hr] at hx
 simp only [List.mem_cons, List.not_mem_nil, or_false] at hx
 rcases hx with rfl | rfl
 ·refine wpOp_step hi (fun K hK => ?_)
  rw [if_pos hwi]
  exact h1 K (fun a w hS hT => hK a w ⟨fun _ => hS, hT hS⟩)
 ·refine wpOp_step hj (fun K hK => ?_)
  rw [if_pos hwj]
  exact h2 K (fun a w hS hT => hK a w ⟨fun _ => hS, hT hS⟩)
theorem wpT_last {oi : Oper} {fuel : Nat} {listed : Array Bool} {a : Act} {w : World} (hi : ops[z]? = some oi) (hr : Region.ready md ops listed = [z]) (hr2 : Region.ready md ops (listed.setIfInBounds z true) = []) (hw : Region.wanted oi (yielded ops a.tmps) = true)
  (h : ∀ K : Act → World → Prop, Hid (∀ a w, Q .normal a w → K a w) → Oper.wp P oi a w K Q) : wpT P md ops Q S z (fuel + 1) listed a w := by
 refine ⟨fun h0 => absurd (hr.symm.trans h0) (by simp), fun j hj => ?_⟩
 rw [hr] at hj
 simp only [List.mem_cons, List.not_mem_nil, or_false] at hj
 subst hj
 refine wpOp_step hi (fun K hK => ?_)
 rw [if_pos hw]
 refine h K (fun a w hQ => hK a w ⟨fun h => absurd rfl h, ?_⟩)
 cases fuel with
 | zero => exact ⟨hr2, hQ⟩
 | succ n => exact ⟨fun _ => hQ, fun i hi => by rw [hr2] at hi; simp at hi⟩
theorem wp_region_T {id : Nat} (S : World → Prop) (z : Nat) {a : Act} {w : World} (hm : P.follows .mixedOrders = true) (hS : S w.drew)
  (h : S w.drew → wpT P .any ops Q S z ops.size (Array.replicate ops.size false) a w.drew) : (Code.region id ops true).wp P Q a w :=
 wp_region_any hm (wpAny_of_T _ _ _ _ (h hS))
end
theorem put_some (l : List Value) (d : List Deferred) (i : Nat) (v : Value) : Act.put { tmps := l.toArray, defers := d } (some i) v = { tmps := (l.set i v).toArray, defers := d } := by
 simp [Act.put]
def Rec (w : World) (X : Nat) (t : TypeId) (l : List Value) : Prop := w.heap[X]? = some (.cells l.toArray t (0, 0))
theorem Rec.lt {w : World} {X : Nat} {t : TypeId} {l : List Value} (h : Rec w X t l) : X < w.heap.size := (Array.getElem?_eq_some_iff.1 h).1
theorem Rec.cell {w : World} {X : Nat} {t : TypeId} {l : List Value} (h : Rec w X t l) {i : Nat} {v : Value} (hi : l[i]? = some v) : w.cell? ⟨X, i, none⟩ = some v := by
 unfold World.cell?
 simp only [show w.heap[X]? = _ from h]
 simpa using hi
theorem Rec.frozen {w : World} {X : Nat} {t : TypeId} {l : List Value} (h : Rec w X t l) (i : Nat) : w.frozen? ⟨X, i, none⟩ = false := by
 simp [World.frozen?, show w.heap[X]? = _ from h]
theorem Rec.new (w : World) (t : TypeId) (l : List Value) : Rec (w.alloc (.cells l.toArray t)) w.heap.size t l := heap_alloc_new w _
theorem Rec.kept {w w' : World} {X : Nat} {t : TypeId} {l : List Value} (h : Rec w X t l) {row : Option Nat} (g : w.grownBy w' row) (hne : some X ≠ row) : Rec w' X t l := (g.block X h.lt hne).trans h
theorem Rec.ext {w w' : World} {X : Nat} {t : TypeId} {l : List Value} (h : Rec w X t l) (e : Ext w w') : Rec w' X t l := (e.block X h.lt).trans h
theorem Rec.set {w : World} {X : Nat} {t : TypeId} {l : List Value} (h : Rec w X t l) (i : Nat) (v : Value) : Rec (w.setCell ⟨X, i, none⟩ v) X t (l.set i v) := by
 unfold Rec World.setCell
 rw [Array.getElem?_modify]
 simp [show w.heap[X]? = _ from h]
theorem Rec.not_row {w : World} {X : Nat} {t : TypeId} {l : List Value} (h : Rec w X t l) {base : Nat} {e : TypeId} {size : Nat} {v : Value} {n : Nat} {xs : List Value} (hte : (t == e) = false) (hr : w.ownsRow base e size v n xs) : some X ≠ v.ownBlock := by
 intro ex
 rcases hr.2 with ⟨rfl, _⟩ | ⟨g, cap, cur, rfl, _, hg, _⟩
 ·simp [Value.ownBlock] at ex
 ·have e' : X = g := by simpa [Value.ownBlock] using ex
  subst e'
  rw [show w.heap[X]? = _ from h] at hg
  simp only [Option.some.injEq, Obj.cells.injEq] at hg
  simp [hg.2.1] at hte
theorem gb_store (w : World) (B i : Nat) (v : Value) : w.grownBy (w.setCell ⟨B, i, none⟩ v) (some B) :=
 ⟨rfl, rfl, rfl, by simp [World.setCell], fun k _ hk => Below.heap_setCell _ _ _ k (fun e => hk (by rw [e]))⟩
section
variable {P : Program} {ops : Array Oper} {Q : Exit → Act → World → Prop} {md : Region.Mode} {S : World → Prop} {z : Nat}
theorem tk (i : Nat) {oi : Oper} {v : Value} {fuel d : Nat} {listed : Array Bool} {l : List Value} {df : List Deferred} {w : World} (hS : S w) (h : wpT P md ops Q S z fuel (listed.setIfInBounds i true) { tmps := (l.set d v).toArray, defers := df } w)
  (hi : ops[i]? = some oi := by rfl) (hd : oi.dst = some d := by rfl) (hs : Region.noSelect ops = true := by kernel_rfl) (hz : waits md ops z i = true := by kernel_rfl) (hf : Region.free md ops listed i = true := by kernel_rfl) (hr : (Region.ready md ops listed).contains i = true := by kernel_rfl)
  (hQ : ∀ c a w, Q (.panic c) (a.put (some d) v) w → Q (.panic c) a w := by exact fun _ _ _ h => h) (hw : Region.wanted oi (yielded ops l.toArray) = true := by rfl) (hy : ∀ w, S w → (execOp (Act.eval { tmps := l.toArray, defers := df }) oi).run P w = .ok (.value v) w := by intro w0 hw0; (try dsimp only at hw0); go_simp; try rfl) :
  wpT P md ops Q S z (fuel + 1) listed { tmps := l.toArray, defers := df } w := wpT_take i hi hd hs hz hf hr hQ hS hw hy h
end
end
section
open Go.RowKit
attribute [local go_sem] S_toList S_size S_get
section
variable {P : Program} (w : World)
theorem run_app (base : Nat) (t ty e : TypeId) (i : TypeInfo) (z : Value) (size bytes : Nat) (ht : P.underlying t = some (.slice e)) (hi : P.info? e = some i) (hz : i.zero = some z)
  (hsize : i.size = size) (hby : i.bytes = bytes) (hzs : z.cells.size = size) (hsz : 0 < size)
  (v : Value) (n : Nat) (xs : List Value) (hown : w.ownsRow base e size v n xs)
  (src : Option Addr) (m c : Nat) (news : List Value) (hl : news.length = m * size) (hnews : ∀ j u, news[j]? = some u → ∃ ad, src = some ad ∧ w.cell? (ad.add j) = some u) (h1 : ∀ u ∈ news, u.oneCell' = true)
  (h63 : n + m ≤ maxLen) (hbytes : (n + m) * bytes ≤ 140737488355328) (hbase : base ≤ w.heap.size) :
  ∃ v' w', (Builtin.append_ #[t, t] ty #[v, .slice src m c]).run P w = .ok v' w' ∧ w'.ownsRow base e size v' (n + m) (xs ++ news) ∧ w.grownBy w' v.ownBlock ∧ (v'.ownBlock = v.ownBlock ∨ v'.ownBlock = some w.heap.size) := by
 cases src with
 | some ad =>
  obtain ⟨v', w', h2, h3, h4, _, h5⟩ := run_append_own_at (P := P) w base t ty e i z size bytes ht hi hz hsize hby hzs hsz v n xs hown ad m c news hl (fun j u hj => by
   obtain ⟨ad', e, h⟩ := hnews j u hj
   cases e; exact h) h1 h63 hbytes hbase
  exact ⟨v', w', h2, h3, h4, h5⟩
 | none =>
  have hn : news = [] := by
   cases news with
   | nil => rfl
   | cons u us => obtain ⟨_, e, _⟩ := hnews 0 u rfl; cases e
  subst hn
  have hm : m = 0 := by
   rcases Nat.mul_eq_zero.1 hl.symm with h | h
   ·exact h
   ·omega
  subst hm
  refine ⟨v, w, ?_, by simpa using hown, ⟨rfl, rfl, rfl, Nat.le_refl _, fun _ _ _ => rfl⟩, Or.inl rfl⟩
  rcases hown.2 with ⟨rfl, rfl⟩ | ⟨g, cap, cur, rfl, _, _, hnc, _⟩
  ·simp [Builtin.append_, run_underlying ht, sizeOf, typeInfo, hi, Builtin.lenOf, Builtin.firstCells]
  ·simp [Builtin.append_, run_underlying ht, sizeOf, typeInfo, hi, Builtin.lenOf, Builtin.firstCells, hnc, storeCells]
theorem wp_app {o : Oper} {a : Act} {K : Act → World → Prop} {Q : Exit → Act → World → Prop} (s x : Operand) (t : TypeId)
  (ho : o.op = .call { callee := .builtin .append, args := #[s, x], argTypes := #[t, t] })
  (base : Nat) (e : TypeId) (i : TypeInfo) (z : Value) (size bytes : Nat) (ht : P.underlying t = some (.slice e)) (hi : P.info? e = some i) (hz : i.zero = some z)
  (hsize : i.size = size) (hby : i.bytes = bytes) (hzs : z.cells.size = size) (hsz : 0 < size)
  (v : Value) (n : Nat) (xs : List Value) (hs : a.eval s = v) (hown : w.ownsRow base e size v n xs)
  (src : Option Addr) (m c : Nat) (news : List Value) (hx : a.eval x = .slice src m c) (hl : news.length = m * size) (hnews : ∀ j u, news[j]? = some u → ∃ ad, src = some ad ∧ w.cell? (ad.add j) = some u) (h1 : ∀ u ∈ news, u.oneCell' = true)
  (h63 : n + m ≤ maxLen) (hbytes : (n + m) * bytes ≤ 140737488355328) (hbase : base ≤ w.heap.size)
  (h : ∀ v' w', w'.ownsRow base e size v' (n + m) (xs ++ news) → w.grownBy w' v.ownBlock → (v'.ownBlock = v.ownBlock ∨ v'.ownBlock = some w.heap.size) → K (a.put o.dst v') w') : o.wp P a w K Q := by
 obtain ⟨v', w', hr, h2, h3, h4⟩ := run_app (P := P) w base t o.type e i z size bytes ht hi hz hsize hby hzs hsz v n xs hown src m c news hl hnews h1 h63 hbytes hbase
 unfold Oper.wp execOp
 simp only [ho, resolve, invoke, builtin, Sem.run_bind, Sem.run_pure, Result.andThen_ok, List.map_toArray, List.map_cons, List.map_nil, hs, hx, hr]
 exact h v' w' h2 h3 h4
end
theorem add_plain (b o j : Nat) : (⟨b, o, none⟩ : Addr).add j = ⟨b, o + j, none⟩ := by
 unfold Addr.add
 split
 ·rename_i h; simp_all
 ·rfl
theorem strs_cells {w : World} {a : Option Addr} {ss : List Str} (h : StrsAt w a ss) (j : Nat) (u : Value) (hj : (ss.map fun s => Value.string (S s))[j]? = some u) : ∃ ad, a = some ad ∧ w.cell? (ad.add j) = some u := by
 rw [List.getElem?_map] at hj
 have hlt : j < ss.length := by
  rcases Nat.lt_or_ge j ss.length with h' | h'
  ·exact h'
  ·simp [List.getElem?_eq_none h'] at hj
 obtain ⟨_, b, o, ea, hc⟩ := h.2 j hlt
 rw [List.getElem?_eq_getElem hlt] at hj
 simp only [Option.map_some, Option.some.injEq] at hj
 subst hj
 refine ⟨_, ea, ?_⟩
 rw [nth_get hlt] at hc
 rw [add_plain]; exact hc
theorem OwnL.app {w' : World} {base : Nat} {v : Value} {L M : List Str} (h : w'.ownsRow base 9 1 v (L.length + M.length) ((L.map fun s => Value.string (S s)) ++ M.map fun s => Value.string (S s))) : OwnL w' base v (L ++ M) := by
 unfold OwnL
 rw [List.map_append, List.length_append]
 exact h
theorem wp_strs {o : Oper} {a : Act} {w : World} {K : Act → World → Prop} {Q : Exit → Act → World → Prop} (s x : Operand)
  (ho : o.op = .call { callee := .builtin .append, args := #[s, x], argTypes := #[23, 23] })
  {base : Nat} {v : Value} {L : List Str} (hs : a.eval s = v) (hown : OwnL w base v L) {src : Option Addr} {c : Nat} {M : List Str} (hx : a.eval x = .slice src M.length c) (hM : StrsAt w src M)
  (hlen : L.length + M.length ≤ 8796093022208) (hbase : base ≤ w.heap.size)
  (h : ∀ v' w', OwnL w' base v' (L ++ M) → w.grownBy w' v.ownBlock → (v'.ownBlock = v.ownBlock ∨ v'.ownBlock = some w.heap.size) → K (a.put o.dst v') w') : o.wp Qry.prog a w K Q := by
 obtain ⟨i0, hi, hz0, hz1, hz2⟩ := info_str
 exact wp_app w s x 23 ho base 9 i0 (.string (S [])) 1 16 (uQ Tryz.underlying23) hi hz0 hz1 hz2 rfl (by decide) v _ _ hs hown src M.length c _ hx (by simp) (strs_cells hM) (by simp [Value.oneCell']) (by unfold maxLen; omega) (by omega) hbase (fun v' w' h2 h3 h4 => h v' w' (OwnL.app h2) h3 h4)
theorem wpList_strs {ops : Array Oper} {rest : List Oper} {o : Oper} {a : Act} {w : World} {Q : Exit → Act → World → Prop} (hgd : o.guard = none) (s x : Operand)
  (ho : o.op = .call { callee := .builtin .append, args := #[s, x], argTypes := #[23, 23] })
  {base : Nat} {v : Value} {L : List Str} (hs : a.eval s = v) (hown : OwnL w base v L) {src : Option Addr} {c : Nat} {M : List Str} (hx : a.eval x = .slice src M.length c) (hM : StrsAt w src M)
  (hlen : L.length + M.length ≤ 8796093022208) (hbase : base ≤ w.heap.size)
  (h : ∀ v' w', OwnL w' base v' (L ++ M) → w.grownBy w' v.ownBlock → (v'.ownBlock = v.ownBlock ∨ v'.ownBlock = some w.heap.size) → wpList Qry.prog ops Q rest (a.put o.dst v') w') : wpList Qry.prog ops Q (o :: rest) a w :=
 wpList_plain hgd fun _ hK => wp_strs s x ho hs hown hx hM hlen hbase fun v' w' h2 h3 h4 => hK _ _ (h v' w' h2 h3 h4)
theorem own_sl {w : World} {base : Nat} {v : Value} {ss : List Str} (h : OwnL w base v ss) : ∃ a cap, v = .slice a ss.length cap := by
 rcases h.2 with ⟨rfl, h0⟩ | ⟨g, cap, cur, rfl, _⟩
 ·exact ⟨none, 0, by rw [h0]⟩
 ·exact ⟨_, cap, rfl⟩
theorem OwnL.low {w : World} {base base' : Nat} {v : Value} {ss : List Str} (h : OwnL w base v ss) (hb : base' ≤ base) : OwnL w base' v ss := by
 refine ⟨h.1, ?_⟩
 rcases h.2 with h2 | ⟨g, cap, cur, hv, hg, r⟩
 ·exact Or.inl h2
 ·exact Or.inr ⟨g, cap, cur, hv, Nat.le_trans hb hg, r⟩
theorem OwnL.made (w : World) (base : Nat) (hb : base ≤ w.heap.size) : OwnL (w.alloc (.cells #[] 9)) base (.slice (some ⟨w.heap.size, 0, none⟩) 0 0) [] :=
 World.ownsRow_made (base := base) (e := 9) (size := 1) w #[] 0 hb (by unfold maxLen; omega) (by simp)
set_option maxHeartbeats 400000 in
theorem l1Names_any (a : Option Addr) (c : Nat) (ss : List Str) (w : World) (h : StrsAt w a ss) :
  Calls Qry.prog 49 #[.slice a ss.length c] w fun e w' => ∃ v, e = .returned v ∧ Ext w w' ∧ OwnL w' w.heap.size v ss := by
 have hx := h.1
 have HO := hid (OwnL.made w w.heap.size (Nat.le_refl _))
 have HS := hid (h.ext (ext_alloc w (.cells #[] 9)))
 go_enter Qry.func49, Tryz.ntmps49
 go_wp2_with (at_builtin; refine wpList_strs rfl _ _ rfl rfl HO.out rfl HS.out ?q1 ?q2 ?_)
 case q1 => simp; omega
 case q2 => simp
 ·intro v' w' hown hgrow _
  have HN := hid hown
  have HE : Hid (Ext w w') := (((Below.refl _ _).alloc (Nat.le_refl _) _).grown hgrow (by simp) (fun g hg => by simp [Value.ownBlock] at hg; omega))
  clear hown hgrow
  go_wp2
  go_ret
  exact ⟨v', rfl, HE.out, HN.out⟩
end
section
open Go.RowKit
attribute [local go_sem] S_toList S_size S_get
theorem wpList_list {ops : Array Oper} {rest : List Oper} {o : Oper} {a : Act} {w : World} {Q : Exit → Act → World → Prop} (hgd : o.guard = none) (s x : Operand)
  (ho : o.op = .call { callee := .builtin .append, args := #[s, x], argTypes := #[66, 66] })
  {base : Nat} {v : Value} {L : List Str} (hs : a.eval s = v) (hown : OwnL w base v L) {src : Option Addr} {m c : Nat} {M : List Str} (hx : a.eval x = .slice src m c) (hm : M.length = m) (hM : StrsAt w src M)
  (hlen : L.length + M.length ≤ 8796093022208) (hbase : base ≤ w.heap.size)
  (h : ∀ v' w', OwnL w' base v' (L ++ M) → w.grownBy w' v.ownBlock → (v'.ownBlock = v.ownBlock ∨ v'.ownBlock = some w.heap.size) → wpList Qry.prog ops Q rest (a.put o.dst v') w') : wpList Qry.prog ops Q (o :: rest) a w := by
 subst hm
 obtain ⟨i0, hi, hz0, hz1, hz2⟩ := info_str
 exact wpList_plain hgd fun _ hK => wp_app w s x 66 ho base 9 i0 (.string (S [])) 1 16 (uQ Tryz.underlying66) hi hz0 hz1 hz2 rfl (by decide) v _ _ hs hown src M.length c _ hx (by simp) (strs_cells hM) (by simp [Value.oneCell']) (by unfold maxLen; omega) (by omega) hbase (fun v' w' h2 h3 h4 => hK _ _ (h v' w' (OwnL.app h2) h3 h4))
set_option maxHeartbeats 400000 in
theorem copied_any (a : Option Addr) (c : Nat) (ss : List Str) (w : World) (h : StrsAt w a ss) :
  Calls Qry.prog 104 #[.slice a ss.length c] w fun e w' => ∃ v, e = .returned v ∧ Ext w w' ∧ OwnL w' w.heap.size v ss := by
 have hx := h.1
 have HO : Hid (OwnL w w.heap.size (.slice none 0 0) []) := World.ownsRow_nil _ _ _ _
 have HS := hid h
 go_enter Qry.func104, Tryz.ntmps104
 go_wp2_with (at_builtin; refine wpList_list rfl _ _ rfl rfl HO.out rfl rfl HS.out ?q1 ?q2 ?_)
 case q1 => simp; omega
 case q2 => simp
 ·intro v' w' hown hgrow _
  have HN := hid hown
  have HE : Hid (Ext w w') := (Below.refl _ _).grown hgrow (by simp) (fun g hg => by simp [Value.ownBlock] at hg)
  clear hown hgrow
  go_wp2
  go_ret
  exact ⟨v', rfl, HE.out, HN.out⟩
theorem kept_take {l o : List Str} {k : Nat} (h : k < l.length) : keptL (l.take (k + 1)) o = keptL (l.take k) o ++ (if hasB o (nth l k) then [nth l k] else []) := by
 unfold keptL
 rw [List.take_succ_eq_append_getElem h, List.filter_append, nth_get h]
 congr 1
 cases hq : hasB o l[k] <;> simp [hq]
theorem kept_len (l o : List Str) : (keptL l o).length ≤ l.length := List.length_filter_le _ _
theorem one_strN (w : World) (x : Str) (h : x.length ≤ 140737488355328) : StrsAt (w.alloc (.cells #[.string (S x)] 9)) (some ⟨w.heap.size, 0, none⟩) [x] :=
 ⟨by simp, fun i hi => by
  have e : i = 0 := by simp at hi; exact hi
  subst e
  exact ⟨h, _, _, rfl, by simp [nth]⟩⟩
set_option maxHeartbeats 1000000 in
theorem kept_any (a b : Option Addr) (ca cb : Nat) (ss os : List Str) (w : World) (h : StrsAt w a ss) (hb : StrsAt w b os) :
  Calls Qry.prog 105 #[.slice a ss.length ca, .slice b os.length cb] w fun e w' => ∃ v, e = .returned v ∧ Ext w w' ∧ OwnL w' w.heap.size v (keptL ss os) := by
 have hx := h.1
 go_enter Qry.func105, Tryz.ntmps105
 go_wp2
 go_loopw [5, 10] (fun o i wr => ∃ (k : Nat), k ≤ ss.length ∧ i = .int .i64 k ∧ Ext w wr ∧ OwnL wr w.heap.size o (keptL (ss.take k) os)) (fun _ i _ => ss.length - (intOf i).toNat)
 case atStart => exact ⟨0, Nat.zero_le _, rfl, Ext.rfl' _, World.ownsRow_nil _ _ _ _⟩
 case round =>
  obtain ⟨k, hk, rfl, hext, hown⟩ := hrel
  have HE := hid hext
  have HO := hid hown
  have h' := h.ext hext
  have hb' := hb.ext hext
  clear hext hown
  by_cases hlt : k < ss.length
  ·obtain ⟨hl, ba, oa, rfl, hc⟩ := h'.2 k hlt
   have hkt := kept_take (o := os) hlt
   have hle := kept_len (ss.take k) os
   rw [List.length_take] at hle
   cases hq : hasB os (nth ss k)
   ·have HK : Hid (keptL (ss.take (k + 1)) os = keptL (ss.take k) os) := by show _ = _; rw [hkt, hq]; simp
    clear hkt
    go_wp2_with (go_at_call 110; refine (slicesContains_any _ _ _ _ _ hb').mono ?_; rintro e w' ⟨rfl, rfl⟩; rw [hq])
    go_roundw
    case rel => exact ⟨k + 1, by omega, by go_num, HE.out, by rw [HK.out]; exact HO.out⟩
    case measure => simp [intOf]; omega
   ·have HK : Hid (keptL (ss.take (k + 1)) os = keptL (ss.take k) os ++ [nth ss k]) := by show _ = _; rw [hkt, hq]; simp
    clear hkt
    have hzr := HE.out.size
    have HO1 := hid (HO.out.ext (ext_alloc wr (.cells #[.string (S (nth ss k))] 9)))
    have HS1 := hid (one_strN wr (nth ss k) hl)
    have HL := hid hle
    clear hle
    generalize keptL (ss.take k) os = L at *
    go_wp2_with (first | (go_at_call 110; refine (slicesContains_any _ _ _ _ _ hb').mono ?_; rintro e w' ⟨rfl, rfl⟩; rw [hq]) | (at_builtin; refine wpList_list rfl _ _ rfl rfl HO1.out rfl rfl HS1.out ?q1 ?q2 ?_))
    case q1 => have := HL.out; simp; omega
    case q2 => simp; omega
    intro v' w' ho' hg' _
    have HN := hid ho'
    have HE' : Hid (Ext w w') := ((HE.out.alloc hzr _).grown hg' (by simp; omega) (fun g hg => (HO.out.lt g hg).1))
    clear ho' hg'
    go_wp2
    go_roundw
    case rel => exact ⟨k + 1, by omega, by go_num, HE'.out, by rw [HK.out]; exact HN.out⟩
    case measure => simp [intOf]; omega
  ·have e : k = ss.length := by omega
   subst e
   rw [List.take_length] at HO
   go_wp2
   go_ret
   exact ⟨_, rfl, HE.out, HO.out⟩
theorem part_asc {l all : List Str} : (partB l all && ascB l) = namesOk l all := by
 rw [Bool.eq_iff_iff, Bool.and_eq_true, namesOk_iff, asc_iff]
 unfold partB
 rw [allLt_true]
 constructor
 ·rintro ⟨h1, h2⟩
  refine ⟨h2, fun x hx => ?_⟩
  obtain ⟨i, hi, e⟩ := List.getElem_of_mem hx
  have := h1 i hi
  rw [hasB_true, nth_get hi, e] at this; exact this
 ·rintro ⟨h1, h2⟩
  exact ⟨fun i hi => by rw [hasB_true, nth_get hi]; exact h2 _ (List.getElem_mem hi), h1⟩
set_option maxHeartbeats 400000 in
theorem picked_v (a b : Option Addr) (ca cb : Nat) (sa sb : List Str) (v : Bool) (w : World) (ha : StrsAt w a sa) (hb : StrsAt w b sb) (hv : namesOk sa sb = v) :
  Calls Qry.prog 178 #[.slice a sa.length ca, .slice b sb.length cb] w fun e w' => e = .returned (.bool v) ∧ ∃ n, w' = w.drewN n := by
 rw [← part_asc] at hv
 cases hp : partB sa sb
 ·have HV : Hid (v = false) := by show _ = _; rw [← hv, hp]; simp
  clear hv
  go_enter Qry.func178, Tryz.ntmps178
  go_wp2_with (go_at_call 87; refine (isPartOf_v _ _ _ _ _ _ _ _ ha hb hp).mono ?_; rintro e w' ⟨rfl, rfl⟩)
  go_ret
  rw [HV.out]
  exact ⟨rfl, 0, rfl⟩
 ·have HV : Hid (v = ascB sa) := by show _ = _; rw [← hv, hp]; simp
  clear hv
  go_enter Qry.func178, Tryz.ntmps178
  go_wp2_with (go_at_call 87; refine (isPartOf_v _ _ _ _ _ _ _ _ ha hb hp).mono ?_; rintro e w' ⟨rfl, rfl⟩)
  refine (ascending_v _ _ _ v _ ha HV.out.symm).mono ?_
  rintro e w1 ⟨rfl, n, rfl⟩
  go_wp2_with fail
  go_ret
  exact ⟨rfl, n, rfl⟩
end
section
open Go.RowKit Go.Maps
attribute [local go_sem] S_toList S_size S_get
theorem in_pairs {bs : List Batch} {t : Str} {p : Nat} (hmem : t ∈ (nthB bs p).has) : ∀ {n : Nat}, p < n → (t, p) ∈ pairsTo bs n := by
 intro n
 induction n with
 | zero => intro h; omega
 | succ n ih =>
  intro h
  rw [pairsTo, List.mem_append]
  by_cases e : p = n
  ·subst e
   exact Or.inr (List.mem_map.2 ⟨t, hmem, rfl⟩)
  ·exact Or.inl (ih (by omega))
theorem ret_b {a b : Bool} (h : a = b) : Ending.returned (.bool a) = .returned (.bool b) := by rw [h]
set_option maxRecDepth 100000 in
set_option maxHeartbeats 1000000 in
theorem hadBy_v (b : Book) (k : Nat) (things : List Str) (v : Bool) (a1 a2 a3 : Option Addr) (c1 c2 c3 : Nat) (w : World) (hb : BookAt w a1 a2 b) (ht : StrsAt w a3 things) (hok : bookOk b = true) (hk : k < b.batches.length) (hv : takenB b k things = v) :
  Calls Qry.prog 180 #[.agg #[.slice a1 b.things.length c1, .slice a2 b.batches.length c2], .int .i64 (k : Int), .slice a3 things.length c3] w fun e w' => e = .returned (.bool v) ∧ Ext w w' := by
 have hal : ∀ o, Ext w (w.alloc o) := fun o => (Below.refl _ _).alloc (Nat.le_refl _) _
 have HV : Hid (otherB b k things = v) := by show _ = _; rw [other_taken]; exact hv
 have h5 := ok_five hok
 have htn := ht.1
 clear hv
 go_enter Qry.func180, Tryz.ntmps180
 go_wp2_with fail
 refine (holders_any _ _ _ _ (hb.ext (hal _)).2 h5).mono ?_
 rintro e w2 ⟨hext2, (⟨rfl, ho⟩ | ⟨B, rfl, _, m, D, hom, _, hmap⟩)⟩
 ·rw [ok_once hok] at ho; cases ho
 ·have HE2 : Hid (Ext w w2) := Ext.tr (hal _) hext2
  have ht2 := ht.ext HE2.out
  have HM := hid hmap
  clear hext2 hmap
  go_wp2_with fail
  go_loop [21] (fun i => ∃ j : Nat, j ≤ things.length ∧ i = .int .i64 j ∧ ∀ q, q < j → hadAt b k (nth things q) = false) (fun i => things.length - (intOf i).toNat)
  case atStart => exact ⟨0, Nat.zero_le _, rfl, fun q hq => by omega⟩
  case round =>
   obtain ⟨j, hj, rfl, hx⟩ := hrel
   have HX := hid hx
   clear hx
   by_cases hlt : j < things.length
   ·obtain ⟨hl, bo, oo, rfl, hc⟩ := ht2.2 j hlt
    have hkey := keyStr hl
    cases hq : hasB (keys (pairsTo b.batches b.batches.length)) (nth things j)
    ·have hhas : Maps.has D (.string (nth things j)) = false := by rw [HM.out.2.1, hq]
     have HN : Hid (hadAt b k (nth things j) = false) := had_none (fun i hi hm => by
      rw [← Bool.not_eq_true, hasB_true] at hq
      exact hq (mem_keys.2 ⟨i, hi, hm⟩))
     clear hq
     go_wp2_with (at_lookup; refine wpList_lookup_own_ok_int _ rfl _ _ 85 rfl 9 3 .i64 lawStr (uQ Tryz.underlying85) (uQ Tryz.underlying3) (zeroInt _) B m D rfl hom _ _ rfl hkey ?_; intro c hat hwc; rw [hhas])
     go_round
     case rel => exact ⟨j + 1, by omega, by go_num, fun q hq => by
      by_cases e : q = j
      ·rw [e]; exact HN.out
      ·exact HX.out q (by omega)⟩
     case measure => simp [intOf]; omega
    ·have hhas : Maps.has D (.string (nth things j)) = true := by rw [HM.out.2.1, hq]
     obtain ⟨p, hp, hmem⟩ := mem_keys.1 (hasB_true.1 hq)
     have HAT := hid (HM.out.2.2 (nth things j) p (.lit (.int .i64 0)) (in_pairs hmem hp))
     clear hq
     by_cases hpk : p = k
     ·have HN : Hid (hadAt b k (nth things j) = false) := had_own hok hk (by rw [← hpk]; exact hmem)
      rw [hpk] at HAT
      clear hmem
      go_wp2_with (at_lookup; refine wpList_lookup_own_ok_int _ rfl _ _ 85 rfl 9 3 .i64 lawStr (uQ Tryz.underlying85) (uQ Tryz.underlying3) (zeroInt _) B m D rfl hom _ _ rfl hkey ?_; intro c hat hwc; rw [hhas, lit_inj HAT.out hat])
      go_round
      case rel => exact ⟨j + 1, by omega, by go_num, fun q hq => by
       by_cases e : q = j
       ·rw [e]; exact HN.out
       ·exact HX.out q (by omega)⟩
      case measure => simp [intOf]; omega
     ·have HN : Hid (v = true) := by
       show _ = _
       rw [← HV.out]
       exact anyLt_of hlt (had_other hp hpk hmem)
      clear hmem
      go_wp2_with (at_lookup; refine wpList_lookup_own_ok_int _ rfl _ _ 85 rfl 9 3 .i64 lawStr (uQ Tryz.underlying85) (uQ Tryz.underlying3) (zeroInt _) B m D rfl hom _ _ rfl hkey ?_; intro c hat hwc; rw [hhas, lit_inj HAT.out hat])
      go_ret
      exact ⟨ret_b HN.out.symm, HE2.out⟩
   ·have HN : Hid (v = false) := by
     show _ = _
     rw [← HV.out]
     exact anyLt_no (fun q hq => HX.out q (by omega))
    go_wp2_with fail
    go_ret
    exact ⟨ret_b HN.out.symm, HE2.out⟩
end
end Go.Proofs.YtdafpnpfcmgfcaaGreatDoor
