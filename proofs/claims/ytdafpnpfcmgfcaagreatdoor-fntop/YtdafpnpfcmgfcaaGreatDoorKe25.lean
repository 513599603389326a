/- The walk over the specification's ShareOrder and ShareSafe. A region that draws its order, whose last operation (number z) waits for all others: an operation that yields its value wherever the condition S holds may be taken first; S is asked behind every operation but z. Appending a list that lies anywhere (or nowhere) to a row of the call's own; the specification's l1Names. -/
import Derived.Test.YtdafpnpfcmgfcaaGreatDoorKe24
import Derived.Test.YtdafpnpfcmgfcaaGreatDoorKe18
import Derived.OrdersHeld
import Derived.Deep.RegionWith
import Derived.Maps.AppendAt
import Derived.Laws.OwnMore
namespace Go.Proofs.YtdafpnpfcmgfcaaGreatDoor
section
open Go.RowKit
attribute [local go_sem] S_toList S_size S_get
def greedy (b : Book) : Nat → List Str → Option (List Str)
 | 0, gone => some gone
 | m + 1, gone => match nextOf b gone with
  | none => none
  | some i => greedy b m (gone ++ [(b.at i).name])
def orderOf (b : Book) : Option (List Str) := if bookOk b then greedy b b.batches.length [] else none
def orderL (b : Book) : List Str := (orderOf b).getD []
def safeB (b : Book) : Bool := (orderOf b).isSome
def ShortL (l : List Str) : Prop := ∀ i, i < l.length → (nth l i).length ≤ 140737488355328
theorem ShortL.nil : ShortL [] := fun i hi => by simp at hi
theorem ShortL.snoc {l : List Str} {x : Str} (h : ShortL l) (hx : x.length ≤ 140737488355328) : ShortL (l ++ [x]) := by
 intro i hi
 rw [List.length_append, List.length_singleton] at hi
 by_cases e : i < l.length
 ·rw [nth_get (by rw [List.length_append]; omega), List.getElem_append_left e, ← nth_get e]; exact h i e
 ·have e' : i = l.length := by omega
  subst e'
  rw [nth_get (by simp), List.getElem_append_right (Nat.le_refl _)]; simpa using hx
def lenOf : Value → Nat
 | .slice _ n _ => n
 | _ => 0
theorem OwnL.ext {w w' : World} {base : Nat} {v : Value} {ss : List Str} (h : OwnL w base v ss) (e : Ext w w') : OwnL w' base v ss := by
 refine World.ownsRow.kept h (row := none) ⟨e.os, e.tape, e.output, e.size, fun k hk _ => e.block k hk⟩ ?_
 cases v.ownBlock <;> simp
theorem greedy_some {b : Book} {m i : Nat} {l : List Str} (h : nextOf b l = some i) : greedy b (m + 1) l = greedy b m (l ++ [(b.at i).name]) := by simp [greedy, h]
theorem greedy_none {b : Book} {m : Nat} {l : List Str} (h : nextOf b l = none) : greedy b (m + 1) l = none := by simp [greedy, h]
set_option maxHeartbeats 1000000 in
set_option maxRecDepth 100000 in
theorem specOrder_any (b : Book) (a1 a2 : Option Addr) (c1 c2 : Nat) (w : World) (hb : BookAt w a1 a2 b) :
  Calls Qry.prog 85 #[.agg #[.slice a1 b.things.length c1, .slice a2 b.batches.length c2]] w fun e w' =>
   ∃ a cap, e = .returned (.tuple #[.slice a (orderL b).length cap, .bool (safeB b)]) ∧ Ext w w' ∧ StrsAt w' a (orderL b) := by
 have hal : ∀ o, Ext w (w.alloc o) := fun o => (Below.refl _ _).alloc (Nat.le_refl _) _
 have hn := hb.2.1
 obtain ⟨i0, hi, hz0, hz1, hz2⟩ := info_str
 cases hok : bookOk b
 ·have HF : Hid (orderL b = [] ∧ safeB b = false) := by constructor <;> simp [orderL, safeB, orderOf, hok]
  go_enter Qry.func85, Tryz.ntmps85
  go_wp2_with fail
  have e2 : ∀ o1 o2, Ext w ((w.alloc o1).alloc o2) := fun o1 o2 => ((Below.refl _ _).alloc (Nat.le_refl _) _).alloc (by simp) _
  refine (specBookOk_any b _ _ _ _ _ (hb.ext (e2 _ _))).mono ?_
  rintro e w1 ⟨rfl, hext1⟩
  have HE1 := hid (Ext.tr (e2 _ _) hext1)
  clear hext1
  go_wp2_with fail
  go_ret2
  refine ⟨some ⟨w.heap.size + 1, 0, none⟩, 0, ?_, HE1.out, ?_⟩
  ·rw [HF.out.1, HF.out.2]; rfl
  ·rw [HF.out.1]; exact StrsAt.nil _ _
 ·have h5 : b.batches.length ≤ 5 := by
   have h := hok
   unfold bookOk at h
   simp only [Bool.and_eq_true, decide_eq_true_eq] at h
   exact h.1.2
  have HOR : Hid (orderOf b = greedy b b.batches.length []) := by show _ = _; simp [orderOf, hok]
  go_enter Qry.func85, Tryz.ntmps85
  go_wp2_with fail
  have e2 : ∀ o1 o2, Ext w ((w.alloc o1).alloc o2) := fun o1 o2 => ((Below.refl _ _).alloc (Nat.le_refl _) _).alloc (by simp) _
  refine (specBookOk_any b _ _ _ _ _ (hb.ext (e2 _ _))).mono ?_
  rintro e w1 ⟨rfl, hext1⟩
  have HOW : Hid (OwnL w1 (w.heap.size + 1) (.slice (some ⟨w.heap.size + 1, 0, none⟩) 0 0) []) := by
   refine OwnL.ext ?_ hext1
   have h := World.ownsRow_made (base := w.heap.size + 1) (e := 9) (size := 1) (w.alloc (.cells #[.slice a1 b.things.length c1, .slice a2 b.batches.length c2] 26)) #[] 0 (by simp) (by unfold maxLen; omega) (by simp)
   have hs : (w.alloc (.cells #[.slice a1 b.things.length c1, .slice a2 b.batches.length c2] 26)).heap.size = w.heap.size + 1 := by simp
   rw [hs] at h
   exact h
  have HB1 : Hid (Below (w.heap.size + 1) (w.alloc (.cells #[.slice a1 b.things.length c1, .slice a2 b.batches.length c2] 26)) w1) :=
   Below.trans ((Below.refl _ _).alloc (by simp) _) (Below.mono hext1 (by simp))
  have hx0 := box_cell (Below.mono HB1.out (by simp)) (i := 0) rfl
  have hx1 := box_cell (Below.mono HB1.out (by simp)) (i := 1) rfl
  clear hext1
  go_wp2_with fail
  go_loopw [4] (fun v wr => ∃ (k : Nat) (L : List Str), k ≤ b.batches.length ∧ L.length = k ∧ Below (w.heap.size + 1) (w.alloc (.cells #[.slice a1 b.things.length c1, .slice a2 b.batches.length c2] 26)) wr ∧ OwnL wr (w.heap.size + 1) v L ∧ ShortL L ∧ greedy b (b.batches.length - k) L = greedy b b.batches.length []) (fun v _ => b.batches.length - lenOf v)
  case atStart => exact ⟨0, [], Nat.zero_le _, rfl, HB1.out, HOW.out, ShortL.nil, rfl⟩
  case round =>
   clear hx0 hx1
   obtain ⟨k, L, hk, hL, hbel, hown, hsh, hgr⟩ := hrel
   have hx0 := box_cell (Below.mono hbel (by simp)) (i := 0) rfl
   have hx1 := box_cell (Below.mono hbel (by simp)) (i := 1) rfl
   have hb' := hb.ext (Ext.tr (hal _) (Below.mono hbel (by simp)))
   have hz := hbel.size
   simp at hz
   obtain ⟨ag, cg, rfl, hat⟩ := hown.at (by omega) hsh
   have HB := hid hbel
   have HO := hid hown
   have HS := hid hsh
   have HG := hid hgr
   have HLK := hid hL
   clear hbel hown hsh hgr
   by_cases hlt : k < b.batches.length
   ·have hlt' : L.length < b.batches.length := by omega
    clear hL
    go_wp2_with fail
    refine (l2Next_any b L _ _ _ _ _ _ _ hb' hat).mono ?_
    rintro e w2 ⟨(⟨i, rfl, hnx⟩ | ⟨rfl, hnx⟩), hext2⟩
    ·have hilt := nextOf_lt hnx
     have HNX := hid hnx
     have hb2 := hb'.ext hext2
     have HO2 := hid (HO.out.ext hext2)
     have HB2 : Hid (Below (w.heap.size + 1) (w.alloc (.cells #[.slice a1 b.things.length c1, .slice a2 b.batches.length c2] 26)) w2) := Below.trans HB.out (Below.mono hext2 (by omega))
     have hzz2 := hext2.size
     obtain ⟨ba, oa, rfl, hl, d1, g1, d2, g2, p0, p1, p2, s1, s2⟩ := hb2.2.2 i hilt
     clear hx0 hx1 hnx hext2 hb' hb2 hat
     have hx0 := box_cell (Below.mono HB2.out (by simp)) (i := 0) rfl
     have hx1 := box_cell (Below.mono HB2.out (by simp)) (i := 1) rfl
     go_wp2_with (at_builtin; refine wpList_append_own _ rfl _ _ 23 rfl (w.heap.size + 1) 9 i0 (.string (S [])) 1 16 (uQ Tryz.underlying23) hi hz0 hz1 hz2 rfl (by decide) _ _ _ rfl (World.ownsRow.alloc HO2.out _) ⟨w2.heap.size, 0, none⟩ 1 1 [.string (S (nthB b.batches i).name)] rfl rfl ?q1 ?q2 ?q3 ?q4 ?q5 ?_)
     case q1 =>
      intro j u hj
      match j, hj with
      | 0, hj => simp at hj; subst hj; simp [Addr.add]
     case q2 => intro u hu; simp at hu; subst hu; rfl
     case q3 => unfold maxLen; omega
     case q4 => omega
     case q5 => simp; omega
     ·intro v' w3 hown' hgrow _
      have HN : Hid (OwnL w3 (w.heap.size + 1) v' (L ++ [(nthB b.batches i).name])) := OwnL.step hown'
      have HB3 : Hid (Below (w.heap.size + 1) (w.alloc (.cells #[.slice a1 b.things.length c1, .slice (some ⟨ba, oa, none⟩) b.batches.length c2] 26)) w3) := (HB2.out.alloc (by omega) _).grown hgrow (by simp; omega) (fun g hg => (HO2.out.lt g hg).1)
      have HLN : Hid (lenOf v' = L.length + 1) := by
       obtain ⟨a', c', e, _⟩ := HN.out.at (by simp; omega) (HS.out.snoc hl)
       show lenOf v' = L.length + 1
       rw [e]; simp [lenOf]
      clear hown' hgrow
      go_wp2
      go_roundw
      case rel =>
       refine ⟨k + 1, L ++ [(nthB b.batches i).name], by omega, by rw [List.length_append, HLK.out]; rfl, HB3.out, HN.out, HS.out.snoc hl, ?_⟩
       rw [← HG.out]
       have e : b.batches.length - k = (b.batches.length - (k + 1)) + 1 := by omega
       rw [e, greedy_some HNX.out]; rfl
      case measure =>
       have h1 := HLN.out
       simp only [lenOf] at *
       omega
    ·have HF : Hid (orderL b = [] ∧ safeB b = false) := by
      have h : orderOf b = none := by
       rw [HOR.out, ← HG.out]
       have e : b.batches.length - k = (b.batches.length - (k + 1)) + 1 := by omega
       rw [e, greedy_none hnx]
      constructor
      ·simp [orderL, h]
      ·simp [safeB, h]
     have HE2 := hid (Ext.tr (hal _) (Ext.tr (Below.mono HB.out (by simp)) hext2))
     clear hnx hext2
     go_wp2_with fail
     go_ret2
     refine ⟨some ⟨w2.heap.size, 0, none⟩, 0, ?_, Ext.tr HE2.out (ext_alloc _ _), ?_⟩
     ·rw [HF.out.1, HF.out.2]; rfl
     ·rw [HF.out.1]; exact StrsAt.nil _ _
   ·have HF : Hid (orderL b = L ∧ safeB b = true) := by
     have h : orderOf b = some L := by
      rw [HOR.out, ← HG.out]
      have e : b.batches.length - k = 0 := by omega
      rw [e]; rfl
     constructor
     ·simp [orderL, h]
     ·simp [safeB, h]
    have hnlt : ¬ L.length < b.batches.length := by omega
    have HAT := hid hat
    clear hL hat
    go_wp2_with fail
    go_ret2
    refine ⟨ag, cg, ?_, Ext.tr (hal _) (Below.mono HB.out (by simp)), ?_⟩
    ·rw [HF.out.1, HF.out.2]; rfl
    ·rw [HF.out.1]; exact HAT.out
end
section
open Go.RowKit
section
variable {P : Program} {ops : Array Oper} {Q : Exit → Act → World → Prop} {md : Region.Mode} {S : World → Prop} {z : Nat}
def waits (md : Region.Mode) (ops : Array Oper) (z i : Nat) : Bool := ((ops[z]?).map fun o => o.after.toList.any fun e => Region.binds md e && e.on == i).getD false
def wpT (P : Program) (md : Region.Mode) (ops : Array Oper) (Q : Exit → Act → World → Prop) (S : World → Prop) (z : Nat) : Nat → Array Bool → Act → World → Prop
 | 0, listed, a, w => Region.ready md ops listed = [] ∧ Q .normal a w
 | fuel + 1, listed, a, w =>
  (Region.ready md ops listed = [] → Q .normal a w) ∧
  ∀ i ∈ Region.ready md ops listed, wpOp P ops Q i (fun a' w' => (i ≠ z → S w') ∧ wpT P md ops Q S z fuel (listed.setIfInBounds i true) a' w') a w
theorem wpAny_of_T : ∀ (fuel : Nat) (listed : Array Bool) (a : Act) (w : World), wpT P md ops Q S z fuel listed a w → wpAny P md ops Q fuel listed a w
 | 0, _, _, _, h => h
 | fuel + 1, _, _, _, h => ⟨h.1, fun i hi => wpOp_mono (fun a' w' h' => wpAny_of_T fuel _ a' w' h'.2) (h.2 i hi)⟩
theorem wpT_first {i : Nat} {oi : Oper} {v : Value} (hi : ops[i]? = some oi) (hsel : ∀ (j : Nat) (o : Oper) cs b, ops[j]? = some o → o.op ≠ .select cs b)
  (hQ : ∀ c a w, Q (.panic c) (a.put oi.dst v) w → Q (.panic c) a w) (hz : waits md ops z i = true) :
  ∀ (fuel : Nat) (listed : Array Bool) (a : Act) (w : World),
   (∀ j oj, ops[j]? = some oj → j ≠ i → listed.getD j true = false → (∀ e ∈ oj.after, Region.binds md e = true → e.on ≠ i) → oi.apart ops oj = true) →
   i ∈ Region.ready md ops listed → YieldsIf P ops S oi v a → S w →
   wpT P md ops Q S z fuel (listed.setIfInBounds i true) (a.put oi.dst v) w → wpT P md ops Q S z (fuel + 1) listed a w
 | 0, listed, a, w, _, hr, hy, hS, H => by
  refine ⟨fun h => by rw [h] at hr; simp at hr, fun j hj => ?_⟩
  by_cases e : j = i
  ·subst e; exact hy.wpOp hi hS ⟨fun _ => hS, H⟩
  ·have h1 := ready_mono hj e
   rw [H.1] at h1; simp at h1
 | fuel + 1, listed, a, w, hfree, hr, hy, hS, H => by
  refine ⟨fun h => by rw [h] at hr; simp at hr, fun j hj => ?_⟩
  by_cases e : j = i
  ·subst e; exact hy.wpOp hi hS ⟨fun _ => hS, H⟩
  ·have h1 := H.2 j (ready_mono hj e)
   obtain ⟨hjun, oj, hoj, hall⟩ := mem_ready.1 hj
   have hno : ∀ x ∈ oj.after, Region.binds md x = true → x.on ≠ i := fun x hx hb ex => by
    have h2 := hall x hx hb
    have h0 := (mem_ready.1 hr).1
    rw [ex] at h2
    rcases Nat.lt_or_ge i listed.size with h' | h'
    ·simp [h'] at h0 h2; rw [h0] at h2; cases h2
    ·simp [Array.getElem?_eq_none h'] at h2
   have hjz : j ≠ z := fun ez => by
    subst ez
    unfold waits at hz
    rw [hoj] at hz
    simp only [Option.map_some, Option.getD_some, List.any_eq_true, Bool.and_eq_true, beq_iff_eq] at hz
    obtain ⟨x, hx, hb, ex⟩ := hz
    exact hno x (by simpa using hx) hb ex
   have h2 := wpOp_putIf hoj (hfree j oj hoj e hjun hno) (fun cs b => hsel i oi cs b hi) (fun cs b => hsel j oj cs b hoj) hQ hy h1
   have hri : i ∈ Region.ready md ops (listed.setIfInBounds j true) := ready_mono hr (Ne.symm e)
   refine wpOp_mono (fun a' w' h3 => ?_) h2
   have hS' : S w' := h3.2.1 hjz
   refine ⟨fun _ => hS', wpT_first hi hsel hQ hz fuel (listed.setIfInBounds j true) a' w' (fun k ok hk hki hun hn2 => hfree k ok hk hki ?_ hn2) hri h3.1 hS' ?_⟩
   ·by_cases ek : j = k
    ·subst ek; exact hjun
    ·rw [getD_set_ne true ek] at hun; exact hun
   ·rw [Array.setIfInBounds_comm _ _ e]
    exact h3.2.2
theorem wpT_take (i : Nat) {oi : Oper} {v : Value} {fuel d : Nat} {listed : Array Bool} {l : List Value} {df : List Deferred} {w : World} (hi : ops[i]? = some oi) (hd : oi.dst = some d)
  (hs : Region.noSelect ops = true) (hz : waits md ops z i = true) (hf : Region.free md ops listed i = true) (hr : (Region.ready md ops listed).contains i = true)
  (hQ : ∀ c a w, Q (.panic c) (a.put (some d) v) w → Q (.panic c) a w) (hS : S w) (hw : Region.wanted oi (yielded ops l.toArray) = true) (hy : ∀ w, S w → (execOp (Act.eval { tmps := l.toArray, defers := df }) oi).run P w = .ok (.value v) w)
  (h : wpT P md ops Q S z fuel (listed.setIfInBounds i true) { tmps := (l.set d v).toArray, defers := df } w) : wpT P md ops Q S z (fuel + 1) listed { tmps := l.toArray, defers := df } w :=
 wpT_first hi (Region.noSelect_spec hs) (by rw [hd]; exact hQ) hz fuel listed _ w (Region.free_spec hi hf) (by simpa using hr) (Or.inl ⟨hw, hy⟩) hS (by rw [hd]; simpa [Act.put] using h)
theorem wpT_one (i : Nat) {oi : Oper} {fuel : Nat} {listed : Array Bool} {a : Act} {w : World} (hi : ops[i]? = some oi) (hr : Region.ready md ops listed = [i]) (hz : (i == z) = false) (hw : Region.wanted oi (yielded ops a.tmps) = true)
  (h : ∀ K : Act → World → Prop, Hid (∀ a w, S w → (S w → wpT P md ops Q S z fuel (listed.setIfInBounds i true) a w) → K a w) → Oper.wp P oi a w K Q) : wpT P md ops Q S z (fuel + 1) listed a w := by
 refine ⟨fun h0 => absurd (hr.symm.trans h0) (by simp), fun j hj => ?_⟩
 rw [hr] at hj
 simp only [List.mem_cons, List.not_mem_nil, or_false] at hj
 subst hj
 refine wpOp_step hi (fun K hK => ?_)
 rw [if_pos hw]
 exact h K (fun a w hS hT => hK a w ⟨fun _ => hS, hT hS⟩)
theorem wpT_two (i j : Nat) {oi oj : Oper} {fuel : Nat} {listed : Array Bool} {a : Act} {w : World} (hi : ops[i]? = some oi) (hj : ops[j]? = some oj) (hr : Region.ready md ops listed = [i, j]) (hzi : (i == z) = false) (hzj : (j == z) = false) (hwi : Region.wanted oi (yielded ops a.tmps) = true) (hwj : Region.wanted oj (yielded ops a.tmps) = true)
  (h1 : ∀ K : Act → World → Prop, Hid (∀ a w, S w → (S w → wpT P md ops Q S z fuel (listed.setIfInBounds i true) a w) → K a w) → Oper.wp P oi a w K Q)
  (h2 : ∀ K : Act → World → Prop, Hid (∀ a w, S w → (S w → wpT P md ops Q S z fuel (listed.setIfInBounds j true) a w) → K a w) → Oper.wp P oj a w K Q) : wpT P md ops Q S z (fuel + 1) listed a w := by
 refine ⟨fun h0 => absurd (hr.symm.trans h0) (by simp), fun x hx => ?_⟩
 rw [hr] at hx
 simp only [List.mem_cons, List.not_mem_nil, or_false] at hx
 rcases hx with rfl | rfl
 ·refine wpOp_step hi (fun K hK => ?_)
  rw [if_pos hwi]
  exact h1 K (fun a w hS hT => hK a w ⟨fun _ => hS, hT hS⟩)
 ·refine wpOp_step hj (fun K hK => ?_)
  rw [if_pos hwj]
  exact h2 K (fun a w hS hT => hK a w ⟨fun _ => hS, hT hS⟩)
theorem wpT_last {oi : Oper} {fuel : Nat} {listed : Array Bool} {a : Act} {w : World} (hi : ops[z]? = some oi) (hr : Region.ready md ops listed = [z]) (hr2 : Region.ready md ops (listed.setIfInBounds z true) = []) (hw : Region.wanted oi (yielded ops a.tmps) = true)
  (h : ∀ K : Act → World → Prop, Hid (∀ a w, Q .normal a w → K a w) → Oper.wp P oi a w K Q) : wpT P md ops Q S z (fuel + 1) listed a w := by
 refine ⟨fun h0 => absurd (hr.symm.trans h0) (by simp), fun j hj => ?_⟩
 rw [hr] at hj
 simp only [List.mem_cons, List.not_mem_nil, or_false] at hj
 subst hj
 refine wpOp_step hi (fun K hK => ?_)
 rw [if_pos hw]
 refine h K (fun a w hQ => hK a w ⟨fun h => absurd rfl h, ?_⟩)
 cases fuel with
 | zero => exact ⟨hr2, hQ⟩
 | succ n => exact ⟨fun _ => hQ, fun i hi => by rw [hr2] at hi; simp at hi⟩
theorem wp_region_T {id : Nat} (S : World → Prop) (z : Nat) {a : Act} {w : World} (hm : P.follows .mixedOrders = true) (hS : S w.drew)
  (h : S w.drew → wpT P .any ops Q S z ops.size (Array.replicate ops.size false) a w.drew) : (Code.region id ops true).wp P Q a w :=
 wp_region_any hm (wpAny_of_T _ _ _ _ (h hS))
end
theorem put_some (l : List Value) (d : List Deferred) (i : Nat) (v : Value) : Act.put { tmps := l.toArray, defers := d } (some i) v = { tmps := (l.set i v).toArray, defers := d } := by
 simp [Act.put]
def Rec (w : World) (X : Nat) (t : TypeId) (l : List Value) : Prop := w.heap[X]? = some (.cells l.toArray t (0, 0))
theorem Rec.lt {w : World} {X : Nat} {t : TypeId} {l : List Value} (h : Rec w X t l) : X < w.heap.size := (Array.getElem?_eq_some_iff.1 h).1
theorem Rec.cell {w : World} {X : Nat} {t : TypeId} {l : List Value} (h : Rec w X t l) {i : Nat} {v : Value} (hi : l[i]? = some v) : w.cell? ⟨X, i, none⟩ = some v := by
 unfold World.cell?
 simp only [show w.heap[X]? = _ from h]
 simpa using hi
theorem Rec.frozen {w : World} {X : Nat} {t : TypeId} {l : List Value} (h : Rec w X t l) (i : Nat) : w.frozen? ⟨X, i, none⟩ = false := by
 simp [World.frozen?, show w.heap[X]? = _ from h]
theorem Rec.new (w : World) (t : TypeId) (l : List Value) : Rec (w.alloc (.cells l.toArray t)) w.heap.size t l := heap_alloc_new w _
theorem Rec.kept {w w' : World} {X : Nat} {t : TypeId} {l : List Value} (h : Rec w X t l) {row : Option Nat} (g : w.grownBy w' row) (hne : some X ≠ row) : Rec w' X t l := (g.block X h.lt hne).trans h
theorem Rec.ext {w w' : World} {X : Nat} {t : TypeId} {l : List Value} (h : Rec w X t l) (e : Ext w w') : Rec w' X t l := (e.block X h.lt).trans h
theorem Rec.set {w : World} {X : Nat} {t : TypeId} {l : List Value} (h : Rec w X t l) (i : Nat) (v : Value) : Rec (w.setCell ⟨X, i, none⟩ v) X t (l.set i v) := by
 unfold Rec World.setCell
 rw [Array.getElem?_modify]
 simp [show w.heap[X]? = _ from h]
theorem Rec.not_row {w : World} {X : Nat} {t : TypeId} {l : List Value} (h : Rec w X t l) {base : Nat} {e : TypeId} {size : Nat} {v : Value} {n : Nat} {xs : List Value} (hte : (t == e) = false) (hr : w.ownsRow base e size v n xs) : some X ≠ v.ownBlock := by
 intro ex
 rcases hr.2 with ⟨rfl, _⟩ | ⟨g, cap, cur, rfl, _, hg, _⟩
 ·simp [Value.ownBlock] at ex
 ·have e' : X = g := by simpa [Value.ownBlock] using ex
  subst e'
  rw [show w.heap[X]? = _ from h] at hg
  simp only [Option.some.injEq, Obj.cells.injEq] at hg
  simp [hg.2.1] at hte
theorem gb_store (w : World) (B i : Nat) (v : Value) : w.grownBy (w.setCell ⟨B, i, none⟩ v) (some B) :=
 ⟨rfl, rfl, rfl, by simp [World.setCell], fun k _ hk => Below.heap_setCell _ _ _ k (fun e => hk (by rw [e]))⟩
section
variable {P : Program} {ops : Array Oper} {Q : Exit → Act → World → Prop} {md : Region.Mode} {S : World → Prop} {z : Nat}
theorem tk (i : Nat) {oi : Oper} {v : Value} {fuel d : Nat} {listed : Array Bool} {l : List Value} {df : List Deferred} {w : World} (hS : S w) (h : wpT P md ops Q S z fuel (listed.setIfInBounds i true) { tmps := (l.set d v).toArray, defers := df } w)
  (hi : ops[i]? = some oi := by rfl) (hd : oi.dst = some d := by rfl) (hs : Region.noSelect ops = true := by kernel_rfl) (hz : waits md ops z i = true := by kernel_rfl) (hf : Region.free md ops listed i = true := by kernel_rfl) (hr : (Region.ready md ops listed).contains i = true := by kernel_rfl)
  (hQ : ∀ c a w, Q (.panic c) (a.put (some d) v) w → Q (.panic c) a w := by exact fun _ _ _ h => h) (hw : Region.wanted oi (yielded ops l.toArray) = true := by rfl) (hy : ∀ w, S w → (execOp (Act.eval { tmps := l.toArray, defers := df }) oi).run P w = .ok (.value v) w := by intro w0 hw0; (try dsimp only at hw0); go_simp; try rfl) :
  wpT P md ops Q S z (fuel + 1) listed { tmps := l.toArray, defers := df } w := wpT_take i hi hd hs hz hf hr hQ hS hw hy h
end
end
section
open Go.RowKit
attribute [local go_sem] S_toList S_size S_get
section
variable {P : Program} (w : World)
theorem run_app (base : Nat) (t ty e : TypeId) (i : TypeInfo) (z : Value) (size bytes : Nat) (ht : P.underlying t = some (.slice e)) (hi : P.info? e = some i) (hz : i.zero = some z)
  (hsize : i.size = size) (hby : i.bytes = bytes) (hzs : z.cells.size = size) (hsz : 0 < size)
  (v : Value) (n : Nat) (xs : List Value) (hown : w.ownsRow base e size v n xs)
  (src : Option Addr) (m c : Nat) (news : List Value) (hl : news.length = m * size) (hnews : ∀ j u, news[j]? = some u → ∃ ad, src = some ad ∧ w.cell? (ad.add j) = some u) (h1 : ∀ u ∈ news, u.oneCell' = true)
  (h63 : n + m ≤ maxLen) (hbytes : (n + m) * bytes ≤ 140737488355328) (hbase : base ≤ w.heap.size) :
  ∃ v' w', (Builtin.append_ #[t, t] ty #[v, .slice src m c]).run P w = .ok v' w' ∧ w'.ownsRow base e size v' (n + m) (xs ++ news) ∧ w.grownBy w' v.ownBlock ∧ (v'.ownBlock = v.ownBlock ∨ v'.ownBlock = some w.heap.size) := by
 cases src with
 | some ad =>
  obtain ⟨v', w', h2, h3, h4, _, h5⟩ := run_append_own_at (P := P) w base t ty e i z size bytes ht hi hz hsize hby hzs hsz v n xs hown ad m c news hl (fun j u hj => by
   obtain ⟨ad', e, h⟩ := hnews j u hj
   cases e; exact h) h1 h63 hbytes hbase
  exact ⟨v', w', h2, h3, h4, h5⟩
 | none =>
  have hn : news = [] := by
   cases news with
   | nil => rfl
   | cons u us => obtain ⟨_, e, _⟩ := hnews 0 u rfl; cases e
  subst hn
  have hm : m = 0 := by
   rcases Nat.mul_eq_zero.1 hl.symm with h | h
   ·exact h
   ·omega
  subst hm
  refine ⟨v, w, ?_, by simpa using hown, ⟨rfl, rfl, rfl, Nat.le_refl _, fun _ _ _ => rfl⟩, Or.inl rfl⟩
  rcases hown.2 with ⟨rfl, rfl⟩ | ⟨g, cap, cur, rfl, _, _, hnc, _⟩
  ·simp [Builtin.append_, run_underlying ht, sizeOf, typeInfo, hi, Builtin.lenOf, Builtin.firstCells]
  ·simp [Builtin.append_, run_underlying ht, sizeOf, typeInfo, hi, Builtin.lenOf, Builtin.firstCells, hnc, storeCells]
theorem wp_app {o : Oper} {a : Act} {K : Act → World → Prop} {Q : Exit → Act → World → Prop} (s x : Operand) (t : TypeId)
  (ho : o.op = .call { callee := .builtin .append, args := #[s, x], argTypes := #[t, t] })
  (base : Nat) (e : TypeId) (i : TypeInfo) (z : Value) (size bytes : Nat) (ht : P.underlying t = some (.slice e)) (hi : P.info? e = some i) (hz : i.zero = some z)
  (hsize : i.size = size) (hby : i.bytes = bytes) (hzs : z.cells.size = size) (hsz : 0 < size)
  (v : Value) (n : Nat) (xs : List Value) (hs : a.eval s = v) (hown : w.ownsRow base e size v n xs)
  (src : Option Addr) (m c : Nat) (news : List Value) (hx : a.eval x = .slice src m c) (hl : news.length = m * size) (hnews : ∀ j u, news[j]? = some u → ∃ ad, src = some ad ∧ w.cell? (ad.add j) = some u) (h1 : ∀ u ∈ news, u.oneCell' = true)
  (h63 : n + m ≤ maxLen) (hbytes : (n + m) * bytes ≤ 140737488355328) (hbase : base ≤ w.heap.size)
  (h : ∀ v' w', w'.ownsRow base e size v' (n + m) (xs ++ news) → w.grownBy w' v.ownBlock → (v'.ownBlock = v.ownBlock ∨ v'.ownBlock = some w.heap.size) → K (a.put o.dst v') w') : o.wp P a w K Q := by
 obtain ⟨v', w', hr, h2, h3, h4⟩ := run_app (P := P) w base t o.type e i z size bytes ht hi hz hsize hby hzs hsz v n xs hown src m c news hl hnews h1 h63 hbytes hbase
 unfold Oper.wp execOp
 simp only [ho, resolve, invoke, builtin, Sem.run_bind, Sem.run_pure, Result.andThen_ok, List.map_toArray, List.map_cons, List.map_nil, hs, hx, hr]
 exact h v' w' h2 h3 h4
end
theorem add_plain (b o j : Nat) : (⟨b, o, none⟩ : Addr).add j = ⟨b, o + j, none⟩ := by
 unfold Addr.add
 split
 ·rename_i h; simp_all
 ·rfl
theorem strs_cells {w : World} {a : Option Addr} {ss : List Str} (h : StrsAt w a ss) (j : Nat) (u : Value) (hj : (ss.map fun s => Value.string (S s))[j]? = some u) : ∃ ad, a = some ad ∧ w.cell? (ad.add j) = some u := by
 rw [List.getElem?_map] at hj
 have hlt : j < ss.length := by
  rcases Nat.lt_or_ge j ss.length with h' | h'
  ·exact h'
  ·simp [List.getElem?_eq_none h'] at hj
 obtain ⟨_, b, o, ea, hc⟩ := h.2 j hlt
 rw [List.getElem?_eq_getElem hlt] at hj
 simp only [Option.map_some, Option.some.injEq] at hj
 subst hj
 refine ⟨_, ea, ?_⟩
 rw [nth_get hlt] at hc
 rw [add_plain]; exact hc
theorem OwnL.app {w' : World} {base : Nat} {v : Value} {L M : List Str} (h : w'.ownsRow base 9 1 v (L.length + M.length) ((L.map fun s => Value.string (S s)) ++ M.map fun s => Value.string (S s))) : OwnL w' base v (L ++ M) := by
 unfold OwnL
 rw [List.map_append, List.length_append]
 exact h
theorem wp_strs {o : Oper} {a : Act} {w : World} {K : Act → World → Prop} {Q : Exit → Act → World → Prop} (s x : Operand)
  (ho : o.op = .call { callee := .builtin .append, args := #[s, x], argTypes := #[23, 23] })
  {base : Nat} {v : Value} {L : List Str} (hs : a.eval s = v) (hown : OwnL w base v L) {src : Option Addr} {c : Nat} {M : List Str} (hx : a.eval x = .slice src M.length c) (hM : StrsAt w src M)
  (hlen : L.length + M.length ≤ 8796093022208) (hbase : base ≤ w.heap.size)
  (h : ∀ v' w', OwnL w' base v' (L ++ M) → w.grownBy w' v.ownBlock → (v'.ownBlock = v.ownBlock ∨ v'.ownBlock = some w.heap.size) → K (a.put o.dst v') w') : o.wp Qry.prog a w K Q := by
 obtain ⟨i0, hi, hz0, hz1, hz2⟩ := info_str
 exact wp_app w s x 23 ho base 9 i0 (.string (S [])) 1 16 (uQ Tryz.underlying23) hi hz0 hz1 hz2 rfl (by decide) v _ _ hs hown src M.length c _ hx (by simp) (strs_cells hM) (by simp [Value.oneCell']) (by unfold maxLen; omega) (by omega) hbase (fun v' w' h2 h3 h4 => h v' w' (OwnL.app h2) h3 h4)
theorem wpList_strs {ops : Array Oper} {rest : List Oper} {o : Oper} {a : Act} {w : World} {Q : Exit → Act → World → Prop} (hgd : o.guard = none) (s x : Operand)
  (ho : o.op = .call { callee := .builtin .append, args := #[s, x], argTypes := #[23, 23] })
  {base : Nat} {v : Value} {L : List Str} (hs : a.eval s = v) (hown : OwnL w base v L) {src : Option Addr} {c : Nat} {M : List Str} (hx : a.eval x = .slice src M.length c) (hM : StrsAt w src M)
  (hlen : L.length + M.length ≤ 8796093022208) (hbase : base ≤ w.heap.size)
  (h : ∀ v' w', OwnL w' base v' (L ++ M) → w.grownBy w' v.ownBlock → (v'.ownBlock = v.ownBlock ∨ v'.ownBlock = some w.heap.size) → wpList Qry.prog ops Q rest (a.put o.dst v') w') : wpList Qry.prog ops Q (o :: rest) a w :=
 wpList_plain hgd fun _ hK => wp_strs s x ho hs hown hx hM hlen hbase fun v' w' h2 h3 h4 => hK _ _ (h v' w' h2 h3 h4)
theorem own_sl {w : World} {base : Nat} {v : Value} {ss : List Str} (h : OwnL w base v ss) : ∃ a cap, v = .slice a ss.length cap := by
 rcases h.2 with ⟨rfl, h0⟩ | ⟨g, cap, cur, rfl, _⟩
 ·exact ⟨none, 0, by rw [h0]⟩
 ·exact ⟨_, cap, rfl⟩
theorem OwnL.low {w : World} {base base' : Nat} {v : Value} {ss : List Str} (h : OwnL w base v ss) (hb : base' ≤ base) : OwnL w base' v ss := by
 refine ⟨h.1, ?_⟩
 rcases h.2 with h2 | ⟨g, cap, cur, hv, hg, r⟩
 ·exact Or.inl h2
 ·exact Or.inr ⟨g, cap, cur, hv, Nat.le_trans hb hg, r⟩
theorem OwnL.made (w : World) (base : Nat) (hb : base ≤ w.heap.size) : OwnL (w.alloc (.cells #[] 9)) base (.slice (some ⟨w.heap.size, 0, none⟩) 0 0) [] :=
 World.ownsRow_made (base := base) (e := 9) (size := 1) w #[] 0 hb (by unfold maxLen; omega) (by simp)
set_option maxHeartbeats 400000 in
theorem l1Names_any (a : Option Addr) (c : Nat) (ss : List Str) (w : World) (h : StrsAt w a ss) :
  Calls Qry.prog 49 #[.slice a ss.length c] w fun e w' => ∃ v, e = .returned v ∧ Ext w w' ∧ OwnL w' w.heap.size v ss := by
 have hx := h.1
 have HO := hid (OwnL.made w w.heap.size (Nat.le_refl _))
 have HS := hid (h.ext (ext_alloc w (.cells #[] 9)))
 go_enter Qry.func49, Tryz.ntmps49
 go_wp2_with (at_builtin; refine wpList_strs rfl _ _ rfl rfl HO.out rfl HS.out ?q1 ?q2 ?_)
 case q1 => simp; omega
 case q2 => simp
 ·intro v' w' hown hgrow _
  have HN := hid hown
  have HE : Hid (Ext w w') := (((Below.refl _ _).alloc (Nat.le_refl _) _).grown hgrow (by simp) (fun g hg => by simp [Value.ownBlock] at hg; omega))
  clear hown hgrow
  go_wp2
  go_ret
  exact ⟨v', rfl, HE.out, HN.out⟩
end
end Go.Proofs.YtdafpnpfcmgfcaaGreatDoor
