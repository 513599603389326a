/- The program's small functions of chapter 3 on lists: copied, kept, picked. Who else has one of some things, the program's way. A region that draws its order and has no last store: S is asked behind every operation. The wishes: who asks, and why they are refused (all but asking). Marks of a book that the program has made: no two of its lists in one row. -/
import Derived.Test.YtdafpnpfcmgfcaaGreatDoorKe37
import Derived.Test.YtdafpnpfcmgfcaaGreatDoorKe25
import Derived.Test.YtdafpnpfcmgfcaaGreatDoorKe21
import Derived.Test.YtdafpnpfcmgfcaaGreatDoorKe32
import Derived.Test.YtdafpnpfcmgfcaaGreatDoorKe28
import Derived.Test.YtdafpnpfcmgfcaaGreatDoorKe31
namespace Go.Proofs.YtdafpnpfcmgfcaaGreatDoor
section
open Go.RowKit
attribute [local go_sem] S_toList S_size S_get
theorem wpList_list {ops : Array Oper} {rest : List Oper} {o : Oper} {a : Act} {w : World} {Q : Exit → Act → World → Prop} (hgd : o.guard = none) (s x : Operand)
  (ho : o.op = .call { callee := .builtin .append, args := #[s, x], argTypes := #[66, 66] })
  {base : Nat} {v : Value} {L : List Str} (hs : a.eval s = v) (hown : OwnL w base v L) {src : Option Addr} {m c : Nat} {M : List Str} (hx : a.eval x = .slice src m c) (hm : M.length = m) (hM : StrsAt w src M)
  (hlen : L.length + M.length ≤ 8796093022208) (hbase : base ≤ w.heap.size)
  (h : ∀ v' w', OwnL w' base v' (L ++ M) → w.grownBy w' v.ownBlock → (v'.ownBlock = v.ownBlock ∨ v'.ownBlock = some w.heap.size) → wpList Qry.prog ops Q rest (a.put o.dst v') w') : wpList Qry.prog ops Q (o :: rest) a w := by
 subst hm
 obtain ⟨i0, hi, hz0, hz1, hz2⟩ := info_str
 exact wpList_plain hgd fun _ hK => wp_app w s x 66 ho base 9 i0 (.string (S [])) 1 16 (uQ Tryz.underlying66) hi hz0 hz1 hz2 rfl (by decide) v _ _ hs hown src M.length c _ hx (by simp) (strs_cells hM) (by simp [Value.oneCell']) (by unfold maxLen; omega) (by omega) hbase (fun v' w' h2 h3 h4 => hK _ _ (h v' w' (OwnL.app h2) h3 h4))
set_option maxHeartbeats 400000 in
theorem copied_any (a : Option Addr) (c : Nat) (ss : List Str) (w : World) (h : StrsAt w a ss) :
  Calls Qry.prog 104 #[.slice a ss.length c] w fun e w' => ∃ v, e = .returned v ∧ Ext w w' ∧ OwnL w' w.heap.size v ss := by
 have hx := h.1
 have HO : Hid (OwnL w w.heap.size (.slice none 0 0) []) := World.ownsRow_nil _ _ _ _
 have HS := hid h
 go_enter Qry.func104, Tryz.ntmps104
 go_wp2_with (at_builtin; refine wpList_list rfl _ _ rfl rfl HO.out rfl rfl HS.out ?q1 ?q2 ?_)
 case q1 => simp; omega
 case q2 => simp
 ·intro v' w' hown hgrow _
  have HN := hid hown
  have HE : Hid (Ext w w') := (Below.refl _ _).grown hgrow (by simp) (fun g hg => by simp [Value.ownBlock] at hg)
  clear hown hgrow
  go_wp2
  go_ret
  exact ⟨v', rfl, HE.out, HN.out⟩
theorem kept_take {l o : List Str} {k : Nat} (h : k < l.length) : keptL (l.take (k + 1)) o = keptL (l.take k) o ++ (if hasB o (nth l k) then [nth l k] else []) := by
 unfold keptL
 rw [List.take_succ_eq_append_getElem h, List.filter_append, nth_get h]
 congr 1
 cases hq : hasB o l[k] <;> simp [hq]
theorem kept_len (l o : List Str) : (keptL l o).length ≤ l.length := List.length_filter_le _ _
theorem one_strN (w : World) (x : Str) (h : x.length ≤ 140737488355328) : StrsAt (w.alloc (.cells #[.string (S x)] 9)) (some ⟨w.heap.size, 0, none⟩) [x] :=
 ⟨by simp, fun i hi => by
  have e : i = 0 := by simp at hi; exact hi
  subst e
  exact ⟨h, _, _, rfl, by simp [nth]⟩⟩
set_option maxHeartbeats 1000000 in
theorem kept_any (a b : Option Addr) (ca cb : Nat) (ss os : List Str) (w : World) (h : StrsAt w a ss) (hb : StrsAt w b os) :
  Calls Qry.prog 105 #[.slice a ss.length ca, .slice b os.length cb] w fun e w' => ∃ v, e = .returned v ∧ Ext w w' ∧ OwnL w' w.heap.size v (keptL ss os) := by
 have hx := h.1
 go_enter Qry.func105, Tryz.ntmps105
 go_wp2
 go_loopw [5, 10] (fun o i wr => ∃ (k : Nat), k ≤ ss.length ∧ i = .int .i64 k ∧ Ext w wr ∧ OwnL wr w.heap.size o (keptL (ss.take k) os)) (fun _ i _ => ss.length - (intOf i).toNat)
 case atStart => exact ⟨0, Nat.zero_le _, rfl, Ext.rfl' _, World.ownsRow_nil _ _ _ _⟩
 case round =>
  obtain ⟨k, hk, rfl, hext, hown⟩ := hrel
  have HE := hid hext
  have HO := hid hown
  have h' := h.ext hext
  have hb' := hb.ext hext
  clear hext hown
  by_cases hlt : k < ss.length
  ·obtain ⟨hl, ba, oa, rfl, hc⟩ := h'.2 k hlt
   have hkt := kept_take (o := os) hlt
   have hle := kept_len (ss.take k) os
   rw [List.length_take] at hle
   cases hq : hasB os (nth ss k)
   ·have HK : Hid (keptL (ss.take (k + 1)) os = keptL (ss.take k) os) := by show _ = _; rw [hkt, hq]; simp
    clear hkt
    go_wp2_with (go_at_call 110; refine (slicesContains_any _ _ _ _ _ hb').mono ?_; rintro e w' ⟨rfl, rfl⟩; rw [hq])
    go_roundw
    case rel => exact ⟨k + 1, by omega, by go_num, HE.out, by rw [HK.out]; exact HO.out⟩
    case measure => simp [intOf]; omega
   ·have HK : Hid (keptL (ss.take (k + 1)) os = keptL (ss.take k) os ++ [nth ss k]) := by show _ = _; rw [hkt, hq]; simp
    clear hkt
    have hzr := HE.out.size
    have HO1 := hid (HO.out.ext (ext_alloc wr (.cells #[.string (S (nth ss k))] 9)))
    have HS1 := hid (one_strN wr (nth ss k) hl)
    have HL := hid hle
    clear hle
    generalize keptL (ss.take k) os = L at *
    go_wp2_with (first | (go_at_call 110; refine (slicesContains_any _ _ _ _ _ hb').mono ?_; rintro e w' ⟨rfl, rfl⟩; rw [hq]) | (at_builtin; refine wpList_list rfl _ _ rfl rfl HO1.out rfl rfl HS1.out ?q1 ?q2 ?_))
    case q1 => have := HL.out; simp; omega
    case q2 => simp; omega
    intro v' w' ho' hg' _
    have HN := hid ho'
    have HE' : Hid (Ext w w') := ((HE.out.alloc hzr _).grown hg' (by simp; omega) (fun g hg => (HO.out.lt g hg).1))
    clear ho' hg'
    go_wp2
    go_roundw
    case rel => exact ⟨k + 1, by omega, by go_num, HE'.out, by rw [HK.out]; exact HN.out⟩
    case measure => simp [intOf]; omega
  ·have e : k = ss.length := by omega
   subst e
   rw [List.take_length] at HO
   go_wp2
   go_ret
   exact ⟨_, rfl, HE.out, HO.out⟩
theorem part_asc {l all : List Str} : (partB l all && ascB l) = namesOk l all := by
 rw [Bool.eq_iff_iff, Bool.and_eq_true, namesOk_iff, asc_iff]
 unfold partB
 rw [allLt_true]
 constructor
 ·rintro ⟨h1, h2⟩
  refine ⟨h2, fun x hx => ?_⟩
  obtain ⟨i, hi, e⟩ := List.getElem_of_mem hx
  have := h1 i hi
  rw [hasB_true, nth_get hi, e] at this; exact this
 ·rintro ⟨h1, h2⟩
  exact ⟨fun i hi => by rw [hasB_true, nth_get hi]; exact h2 _ (List.getElem_mem hi), h1⟩
set_option maxHeartbeats 400000 in
theorem picked_v (a b : Option Addr) (ca cb : Nat) (sa sb : List Str) (v : Bool) (w : World) (ha : StrsAt w a sa) (hb : StrsAt w b sb) (hv : namesOk sa sb = v) :
  Calls Qry.prog 178 #[.slice a sa.length ca, .slice b sb.length cb] w fun e w' => e = .returned (.bool v) ∧ ∃ n, w' = w.drewN n := by
 rw [← part_asc] at hv
 cases hp : partB sa sb
 ·have HV : Hid (v = false) := by show _ = _; rw [← hv, hp]; simp
  clear hv
  go_enter Qry.func178, Tryz.ntmps178
  go_wp2_with (go_at_call 87; refine (isPartOf_v _ _ _ _ _ _ _ _ ha hb hp).mono ?_; rintro e w' ⟨rfl, rfl⟩)
  go_ret
  rw [HV.out]
  exact ⟨rfl, 0, rfl⟩
 ·have HV : Hid (v = ascB sa) := by show _ = _; rw [← hv, hp]; simp
  clear hv
  go_enter Qry.func178, Tryz.ntmps178
  go_wp2_with (go_at_call 87; refine (isPartOf_v _ _ _ _ _ _ _ _ ha hb hp).mono ?_; rintro e w' ⟨rfl, rfl⟩)
  refine (ascending_v _ _ _ v _ ha HV.out.symm).mono ?_
  rintro e w1 ⟨rfl, n, rfl⟩
  go_wp2_with fail
  go_ret
  exact ⟨rfl, n, rfl⟩
end
section
open Go.RowKit Go.Maps
attribute [local go_sem] S_toList S_size S_get
theorem in_pairs {bs : List Batch} {t : Str} {p : Nat} (hmem : t ∈ (nthB bs p).has) : ∀ {n : Nat}, p < n → (t, p) ∈ pairsTo bs n := by
 intro n
 induction n with
 | zero => intro h; omega
 | succ n ih =>
  intro h
  rw [pairsTo, List.mem_append]
  by_cases e : p = n
  ·subst e
   exact Or.inr (List.mem_map.2 ⟨t, hmem, rfl⟩)
  ·exact Or.inl (ih (by omega))
theorem ret_b {a b : Bool} (h : a = b) : Ending.returned (.bool a) = .returned (.bool b) := by rw [h]
set_option maxRecDepth 100000 in
set_option maxHeartbeats 1000000 in
theorem hadBy_v (b : Book) (k : Nat) (things : List Str) (v : Bool) (a1 a2 a3 : Option Addr) (c1 c2 c3 : Nat) (w : World) (hb : BookAt w a1 a2 b) (ht : StrsAt w a3 things) (hok : bookOk b = true) (hk : k < b.batches.length) (hv : takenB b k things = v) :
  Calls Qry.prog 180 #[.agg #[.slice a1 b.things.length c1, .slice a2 b.batches.length c2], .int .i64 (k : Int), .slice a3 things.length c3] w fun e w' => e = .returned (.bool v) ∧ Ext w w' := by
 have hal : ∀ o, Ext w (w.alloc o) := fun o => (Below.refl _ _).alloc (Nat.le_refl _) _
 have HV : Hid (otherB b k things = v) := by show _ = _; rw [other_taken]; exact hv
 have h5 := ok_five hok
 have htn := ht.1
 clear hv
 go_enter Qry.func180, Tryz.ntmps180
 go_wp2_with fail
 refine (holders_any _ _ _ _ (hb.ext (hal _)).2 h5).mono ?_
 rintro e w2 ⟨hext2, (⟨rfl, ho⟩ | ⟨B, rfl, _, m, D, hom, _, hmap⟩)⟩
 ·rw [ok_once hok] at ho; cases ho
 ·have HE2 : Hid (Ext w w2) := Ext.tr (hal _) hext2
  have ht2 := ht.ext HE2.out
  have HM := hid hmap
  clear hext2 hmap
  go_wp2_with fail
  go_loop [21] (fun i => ∃ j : Nat, j ≤ things.length ∧ i = .int .i64 j ∧ ∀ q, q < j → hadAt b k (nth things q) = false) (fun i => things.length - (intOf i).toNat)
  case atStart => exact ⟨0, Nat.zero_le _, rfl, fun q hq => by omega⟩
  case round =>
   obtain ⟨j, hj, rfl, hx⟩ := hrel
   have HX := hid hx
   clear hx
   by_cases hlt : j < things.length
   ·obtain ⟨hl, bo, oo, rfl, hc⟩ := ht2.2 j hlt
    have hkey := keyStr hl
    cases hq : hasB (keys (pairsTo b.batches b.batches.length)) (nth things j)
    ·have hhas : Maps.has D (.string (nth things j)) = false := by rw [HM.out.2.1, hq]
     have HN : Hid (hadAt b k (nth things j) = false) := had_none (fun i hi hm => by
      rw [← Bool.not_eq_true, hasB_true] at hq
      exact hq (mem_keys.2 ⟨i, hi, hm⟩))
     clear hq
     go_wp2_with (at_lookup; refine wpList_lookup_own_ok_int _ rfl _ _ 85 rfl 9 3 .i64 lawStr (uQ Tryz.underlying85) (uQ Tryz.underlying3) (zeroInt _) B m D rfl hom _ _ rfl hkey ?_; intro c hat hwc; rw [hhas])
     go_round
     case rel => exact ⟨j + 1, by omega, by go_num, fun q hq => by
      by_cases e : q = j
      ·rw [e]; exact HN.out
      ·exact HX.out q (by omega)⟩
     case measure => simp [intOf]; omega
    ·have hhas : Maps.has D (.string (nth things j)) = true := by rw [HM.out.2.1, hq]
     obtain ⟨p, hp, hmem⟩ := mem_keys.1 (hasB_true.1 hq)
     have HAT := hid (HM.out.2.2 (nth things j) p (.lit (.int .i64 0)) (in_pairs hmem hp))
     clear hq
     by_cases hpk : p = k
     ·have HN : Hid (hadAt b k (nth things j) = false) := had_own hok hk (by rw [← hpk]; exact hmem)
      rw [hpk] at HAT
      clear hmem
      go_wp2_with (at_lookup; refine wpList_lookup_own_ok_int _ rfl _ _ 85 rfl 9 3 .i64 lawStr (uQ Tryz.underlying85) (uQ Tryz.underlying3) (zeroInt _) B m D rfl hom _ _ rfl hkey ?_; intro c hat hwc; rw [hhas, lit_inj HAT.out hat])
      go_round
      case rel => exact ⟨j + 1, by omega, by go_num, fun q hq => by
       by_cases e : q = j
       ·rw [e]; exact HN.out
       ·exact HX.out q (by omega)⟩
      case measure => simp [intOf]; omega
     ·have HN : Hid (v = true) := by
       show _ = _
       rw [← HV.out]
       exact anyLt_of hlt (had_other hp hpk hmem)
      clear hmem
      go_wp2_with (at_lookup; refine wpList_lookup_own_ok_int _ rfl _ _ 85 rfl 9 3 .i64 lawStr (uQ Tryz.underlying85) (uQ Tryz.underlying3) (zeroInt _) B m D rfl hom _ _ rfl hkey ?_; intro c hat hwc; rw [hhas, lit_inj HAT.out hat])
      go_ret
      exact ⟨ret_b HN.out.symm, HE2.out⟩
   ·have HN : Hid (v = false) := by
     show _ = _
     rw [← HV.out]
     exact anyLt_no (fun q hq => HX.out q (by omega))
    go_wp2_with fail
    go_ret
    exact ⟨ret_b HN.out.symm, HE2.out⟩
end
section
open Go.RowKit
section
variable {P : Program} {ops : Array Oper} {Q : Exit → Act → World → Prop} {md : Region.Mode} {S : World → Prop} {z : Nat}
theorem wpT_firstN {i : Nat} {oi : Oper} {v : Value} (hi : ops[i]? = some oi) (hsel : ∀ (j : Nat) (o : Oper) cs b, ops[j]? = some o → o.op ≠ .select cs b)
  (hQ : ∀ c a w, Q (.panic c) (a.put oi.dst v) w → Q (.panic c) a w) (hz : ops.size ≤ z) :
  ∀ (fuel : Nat) (listed : Array Bool) (a : Act) (w : World),
   (∀ j oj, ops[j]? = some oj → j ≠ i → listed.getD j true = false → (∀ e ∈ oj.after, Region.binds md e = true → e.on ≠ i) → oi.apart ops oj = true) →
   i ∈ Region.ready md ops listed → YieldsIf P ops S oi v a → S w →
   wpT P md ops Q S z fuel (listed.setIfInBounds i true) (a.put oi.dst v) w → wpT P md ops Q S z (fuel + 1) listed a w
 | 0, listed, a, w, _, hr, hy, hS, H => by
  refine ⟨fun h => by rw [h] at hr; simp at hr, fun j hj => ?_⟩
  by_cases e : j = i
  ·subst e; exact hy.wpOp hi hS ⟨fun _ => hS, H⟩
  ·have h1 := ready_mono hj e
   rw [H.1] at h1; simp at h1
 | fuel + 1, listed, a, w, hfree, hr, hy, hS, H => by
  refine ⟨fun h => by rw [h] at hr; simp at hr, fun j hj => ?_⟩
  by_cases e : j = i
  ·subst e; exact hy.wpOp hi hS ⟨fun _ => hS, H⟩
  ·have h1 := H.2 j (ready_mono hj e)
   obtain ⟨hjun, oj, hoj, hall⟩ := mem_ready.1 hj
   have hno : ∀ x ∈ oj.after, Region.binds md x = true → x.on ≠ i := fun x hx hb ex => by
    have h2 := hall x hx hb
    have h0 := (mem_ready.1 hr).1
    rw [ex] at h2
    rcases Nat.lt_or_ge i listed.size with h' | h'
    ·simp [h'] at h0 h2; rw [h0] at h2; cases h2
    ·simp [Array.getElem?_eq_none h'] at h2
   have hjz : j ≠ z := fun ez => by
    have := (Array.getElem?_eq_some_iff.1 hoj).1
    omega
   have h2 := wpOp_putIf hoj (hfree j oj hoj e hjun hno) (fun cs b => hsel i oi cs b hi) (fun cs b => hsel j oj cs b hoj) hQ hy h1
   have hri : i ∈ Region.ready md ops (listed.setIfInBounds j true) := ready_mono hr (Ne.symm e)
   refine wpOp_mono (fun a' w' h3 => ?_) h2
   have hS' : S w' := h3.2.1 hjz
   refine ⟨fun _ => hS', wpT_firstN hi hsel hQ hz fuel (listed.setIfInBounds j true) a' w' (fun k ok hk hki hun hn2 => hfree k ok hk hki ?_ hn2) hri h3.1 hS' ?_⟩
   ·by_cases ek : j = k
    ·subst ek; exact hjun
    ·rw [getD_set_ne true ek] at hun; exact hun
   ·rw [Array.setIfInBounds_comm _ _ e]
    exact h3.2.2
theorem wpT_takeN (i : Nat) {oi : Oper} {v : Value} {fuel d : Nat} {listed : Array Bool} {l : List Value} {df : List Deferred} {w : World} (hi : ops[i]? = some oi) (hd : oi.dst = some d)
  (hs : Region.noSelect ops = true) (hz : decide (ops.size ≤ z) = true) (hf : Region.free md ops listed i = true) (hr : (Region.ready md ops listed).contains i = true)
  (hQ : ∀ c a w, Q (.panic c) (a.put (some d) v) w → Q (.panic c) a w) (hS : S w) (hw : Region.wanted oi (yielded ops l.toArray) = true) (hy : ∀ w, S w → (execOp (Act.eval { tmps := l.toArray, defers := df }) oi).run P w = .ok (.value v) w)
  (h : wpT P md ops Q S z fuel (listed.setIfInBounds i true) { tmps := (l.set d v).toArray, defers := df } w) : wpT P md ops Q S z (fuel + 1) listed { tmps := l.toArray, defers := df } w :=
 wpT_firstN hi (Region.noSelect_spec hs) (by rw [hd]; exact hQ) (of_decide_eq_true hz) fuel listed _ w (Region.free_spec hi hf) (by simpa using hr) (Or.inl ⟨hw, hy⟩) hS (by rw [hd]; simpa [Act.put] using h)
theorem wpT_done {listed : Array Bool} {a : Act} {w : World} (hr : Region.ready md ops listed = []) (h : Q .normal a w) : ∀ fuel, wpT P md ops Q S z fuel listed a w
 | 0 => ⟨hr, h⟩
 | _ + 1 => ⟨fun _ => h, fun i hi => by rw [hr] at hi; simp at hi⟩
end
section
variable {P : Program} {ops : Array Oper} {Q : Exit → Act → World → Prop} {md : Region.Mode} {S : World → Prop} {z : Nat}
theorem tn (i : Nat) {oi : Oper} {v : Value} {fuel d : Nat} {listed : Array Bool} {l : List Value} {df : List Deferred} {w : World} (hS : S w) (h : wpT P md ops Q S z fuel (listed.setIfInBounds i true) { tmps := (l.set d v).toArray, defers := df } w)
  (hi : ops[i]? = some oi := by rfl) (hd : oi.dst = some d := by rfl) (hs : Region.noSelect ops = true := by kernel_rfl) (hz : decide (ops.size ≤ z) = true := by kernel_rfl) (hf : Region.free md ops listed i = true := by kernel_rfl) (hr : (Region.ready md ops listed).contains i = true := by kernel_rfl)
  (hQ : ∀ c a w, Q (.panic c) (a.put (some d) v) w → Q (.panic c) a w := by exact fun _ _ _ h => h) (hw : Region.wanted oi (yielded ops l.toArray) = true := by rfl) (hy : ∀ w, S w → (execOp (Act.eval { tmps := l.toArray, defers := df }) oi).run P w = .ok (.value v) w := by intro w0 hw0; (try dsimp only at hw0); go_simp; try rfl) :
  wpT P md ops Q S z (fuel + 1) listed { tmps := l.toArray, defers := df } w := wpT_takeN i hi hd hs hz hf hr hQ hS hw hy h
end
end
section
open Go.RowKit
attribute [local go_sem] S_toList S_size S_get
theorem box1of2 {w w1 : World} {c1 c2 : Array Value} {t1 t2 : TypeId} (h : Ext ((w.alloc (.cells c1 t1)).alloc (.cells c2 t2)) w1) {i : Nat} {v : Value} (hi : c1[i]? = some v) : w1.cell? ⟨w.heap.size, i, none⟩ = some v :=
 box_cell (Ext.tr (ext_alloc _ _) h) hi
theorem box2of2 {w w1 : World} {c1 c2 : Array Value} {t1 t2 : TypeId} (h : Ext ((w.alloc (.cells c1 t1)).alloc (.cells c2 t2)) w1) {i : Nat} {v : Value} (hi : c2[i]? = some v) : w1.cell? ⟨w.heap.size + 1, i, none⟩ = some v := by
 have := box_cell h hi
 simpa using this
theorem ext_two (w : World) (o1 o2 : Obj) : Ext w ((w.alloc o1).alloc o2) := Ext.tr (ext_alloc _ _) (ext_alloc _ _)
def whyV (c : Nat) : Value := if c = 0 then .nilIface else .iface 107 (.int .i64 (c : Int))
theorem whyV0 {c : Nat} (h : c = 0) : whyV c = .nilIface := by rw [h]; rfl
theorem ret_why {c k : Nat} (h : c = k) (hk : 0 < k) : Ending.returned (.iface 107 (.int .i64 (k : Int))) = .returned (whyV c) := by
 rw [h]; unfold whyV; rw [if_neg (by omega)]
theorem ret_why0 {c : Nat} (h : c = 0) : Ending.returned .nilIface = .returned (whyV c) := by rw [h]; rfl
def enterC (b : Book) (n : Str) (needs : List Str) : Nat :=
 if nameOk n = false ∨ namesOk needs b.things = false then 2 else if hereB b n = true then 3 else if 5 ≤ b.batches.length then 4 else 0
def lessC (b : Book) (n : Str) (needs : List Str) : Nat := if hereB b n = false then 3 else if namesOk needs (b.at (whereB b n)).needs = false then 2 else 0
def leaveC (b : Book) (n : Str) : Nat := if hereB b n = false then 3 else 0
def askC (b : Book) (n : Str) (things : List Str) : Nat :=
 if hereB b n = false then 3 else if namesOk things (b.at (whereB b n)).needs = false then 2 else if takenB b (whereB b n) things = true then 5
 else if safeB b = true ∧ safeB (giveB b (whereB b n) things) = false then 6 else 0
theorem who_any (n : Str) (w : World) : Calls Qry.prog 176 #[.agg #[.string (S n)]] w fun e w' => e = .returned (.string (S n)) ∧ Ext w w' := by
 go_enter Qry.func176, Tryz.ntmps176
 go_wp2
 go_ret
 exact ⟨rfl, ext_alloc _ _⟩
theorem mWhoE (n v : Value) (w : World) : (Go.method 348 68 (.agg #[n, v]) "loop.example/maltshare/impl.who").run Qry.prog w = .ok (176, .agg #[n]) w := by kernel_rfl
theorem mWhoA (n v : Value) (w : World) : (Go.method 348 75 (.agg #[n, v]) "loop.example/maltshare/impl.who").run Qry.prog w = .ok (176, .agg #[n]) w := by kernel_rfl
theorem mWhoL (n v : Value) (w : World) : (Go.method 348 78 (.agg #[n, v]) "loop.example/maltshare/impl.who").run Qry.prog w = .ok (176, .agg #[n]) w := by kernel_rfl
theorem mWhoG (n : Value) (w : World) : (Go.method 348 80 (.agg #[n]) "loop.example/maltshare/impl.who").run Qry.prog w = .ok (176, .agg #[n]) w := by kernel_rfl
theorem mRefE (v : Value) (w : World) : (Go.method 348 68 v "loop.example/maltshare/impl.refused").run Qry.prog w = .ok (177, v) w := by kernel_rfl
theorem mRefA (v : Value) (w : World) : (Go.method 348 75 v "loop.example/maltshare/impl.refused").run Qry.prog w = .ok (179, v) w := by kernel_rfl
theorem mRefL (v : Value) (w : World) : (Go.method 348 78 v "loop.example/maltshare/impl.refused").run Qry.prog w = .ok (181, v) w := by kernel_rfl
theorem mRefG (v : Value) (w : World) : (Go.method 348 80 v "loop.example/maltshare/impl.refused").run Qry.prog w = .ok (182, v) w := by kernel_rfl
set_option maxRecDepth 100000 in
set_option maxHeartbeats 1000000 in
theorem leaveRef_any (b : Book) (n : Str) (a1 a2 : Option Addr) (c1 c2 : Nat) (w : World) (hb : BookAt w a1 a2 b) (hok : bookOk b = true) :
  Calls Qry.prog 182 #[.agg #[.string (S n)], .agg #[.slice a1 b.things.length c1, .slice a2 b.batches.length c2]] w fun e w' => e = .returned (whyV (leaveC b n)) ∧ Ext w w' := by
 go_enter Qry.func182, Tryz.ntmps182
 go_wp2_with fail
 refine (placeOf_any b n _ _ _ _ _ (hb.ext (ext_two _ _ _)) hok).mono ?_
 rintro e w1 ⟨rfl, hE1⟩
 have HE := hid (Ext.tr (ext_two _ _ _) hE1)
 clear hE1
 cases hh : hereB b n
 ·have HC : Hid (leaveC b n = 3) := by show _ = _; unfold leaveC; rw [hh]; rfl
  clear hh
  go_wp2_with fail
  go_ret
  exact ⟨ret_why (k := 3) HC.out (by omega), HE.out⟩
 ·have HC : Hid (leaveC b n = 0) := by show _ = _; unfold leaveC; rw [hh]; rfl
  clear hh
  go_wp2_with fail
  go_ret
  exact ⟨ret_why0 HC.out, HE.out⟩
set_option maxRecDepth 100000 in
set_option maxHeartbeats 1000000 in
theorem enterRef_any (b : Book) (n : Str) (needs : List Str) (a1 a2 a3 : Option Addr) (c1 c2 c3 : Nat) (w : World) (hb : BookAt w a1 a2 b) (hn : StrsAt w a3 needs) (hnl : n.length ≤ 140737488355328) (hok : bookOk b = true) :
  Calls Qry.prog 177 #[.agg #[.string (S n), .slice a3 needs.length c3], .agg #[.slice a1 b.things.length c1, .slice a2 b.batches.length c2]] w fun e w' => e = .returned (whyV (enterC b n needs)) ∧ Ext w w' := by
 go_enter Qry.func177, Tryz.ntmps177
 go_wp2_with fail
 refine (placeOf_any b n _ _ _ _ _ (hb.ext (ext_two _ _ _)) hok).mono ?_
 rintro e w1 ⟨rfl, hE1⟩
 have p0 := box1of2 hE1 (i := 0) rfl
 have p1 := box1of2 hE1 (i := 1) rfl
 have q0 := box2of2 hE1 (i := 0) rfl
 have q1 := box2of2 hE1 (i := 1) rfl
 have HE := hid (Ext.tr (ext_two _ _ _) hE1)
 clear hE1
 generalize hh : hereB b n = here
 have HH := hid hh
 clear hh
 go_wp2_with fail
 refine (isName_any n _ hnl).mono ?_
 rintro e w2 ⟨rfl, hE2⟩
 have HE2 := hid (Ext.tr HE.out hE2)
 replace p1 := hE2.keep p1
 replace q0 := hE2.keep q0
 replace q1 := hE2.keep q1
 clear hE2 p0
 cases hq : nameOk n
 ·have HC : Hid (enterC b n needs = 2) := by show _ = _; unfold enterC; rw [if_pos (Or.inl hq)]
  clear hq
  go_wp2_with fail
  go_ret
  exact ⟨ret_why (k := 2) HC.out (by omega), HE2.out⟩
 ·have HQ := hid hq
  clear hq
  go_wp2_with fail
  cases hp : namesOk needs b.things
  ·have HC : Hid (enterC b n needs = 2) := by show _ = _; unfold enterC; rw [if_pos (Or.inr hp)]
   refine (picked_v _ _ _ _ _ _ _ _ (hn.ext HE2.out) (hb.ext HE2.out).1 hp).mono ?_
   rintro e w3 ⟨rfl, k, hw3⟩
   have HE3 : Hid (Ext w w3) := by rw [hw3]; exact Ext.tr HE2.out (ext_drewN _ _)
   clear hw3 hp
   go_wp2_with fail
   go_ret
   exact ⟨ret_why (k := 2) HC.out (by omega), HE3.out⟩
  ·refine (picked_v _ _ _ _ _ _ _ _ (hn.ext HE2.out) (hb.ext HE2.out).1 hp).mono ?_
   rintro e w3 ⟨rfl, k, hw3⟩
   have hE3 : Ext w2 w3 := by rw [hw3]; exact ext_drewN _ _
   have HE3 := hid (Ext.tr HE2.out hE3)
   replace q1 := hE3.keep q1
   clear hw3 hE3 p1 q0
   have HU : Hid (enterC b n needs = if here = true then 3 else if 5 ≤ b.batches.length then 4 else 0) := by
    show _ = _; unfold enterC; rw [if_neg (by simp [hp, HQ.out]), HH.out]
   clear hp
   cases here
   ·by_cases h5 : 5 ≤ b.batches.length
    ·have HC : Hid (enterC b n needs = 4) := by show _ = _; rw [HU.out]; simp [h5]
     have h5' : (5 : Int) ≤ (b.batches.length : Int) := by omega
     clear HU
     go_wp2_with fail
     go_ret
     exact ⟨ret_why (k := 4) HC.out (by omega), HE3.out⟩
    ·have HC : Hid (enterC b n needs = 0) := by show _ = _; rw [HU.out]; simp [h5]
     have h5' : ¬ ((5 : Int) ≤ (b.batches.length : Int)) := by omega
     clear HU
     go_wp2_with fail
     go_ret
     exact ⟨ret_why0 HC.out, HE3.out⟩
   ·have HC : Hid (enterC b n needs = 3) := by show _ = _; rw [HU.out]; simp
    clear HU
    go_wp2_with fail
    go_ret
    exact ⟨ret_why (k := 3) HC.out (by omega), HE3.out⟩
set_option maxRecDepth 100000 in
set_option maxHeartbeats 1000000 in
theorem lessRef_any (b : Book) (n : Str) (needs : List Str) (a1 a2 a3 : Option Addr) (c1 c2 c3 : Nat) (w : World) (hb : BookAt w a1 a2 b) (hn : StrsAt w a3 needs) (hok : bookOk b = true) :
  Calls Qry.prog 181 #[.agg #[.string (S n), .slice a3 needs.length c3], .agg #[.slice a1 b.things.length c1, .slice a2 b.batches.length c2]] w fun e w' => e = .returned (whyV (lessC b n needs)) ∧ Ext w w' := by
 go_enter Qry.func181, Tryz.ntmps181
 go_wp2_with fail
 refine (placeOf_any b n _ _ _ _ _ (hb.ext (ext_two _ _ _)) hok).mono ?_
 rintro e w1 ⟨rfl, hE1⟩
 have p1 := box1of2 hE1 (i := 1) rfl
 have q1 := box2of2 hE1 (i := 1) rfl
 have HE := hid (Ext.tr (ext_two _ _ _) hE1)
 clear hE1
 cases hh : hereB b n
 ·have HC : Hid (lessC b n needs = 3) := by show _ = _; unfold lessC; rw [hh]; rfl
  clear hh
  go_wp2_with fail
  go_ret
  exact ⟨ret_why (k := 3) HC.out (by omega), HE.out⟩
 ·have hk := where_lt hh
  have hw := ok_where hok hh
  rw [hw]
  have HU : Hid (lessC b n needs = if namesOk needs (nthB b.batches (whereB b n)).needs = false then 2 else 0) := by show _ = _; unfold lessC; rw [hh]; rfl
  clear hh hw
  generalize whereB b n = k at *
  obtain ⟨bb, oo, rfl, h0, x1, y1, x2, y2, d0, d1, d2, s1, s2⟩ := (hb.ext HE.out).2.2 k hk
  have h5 := ok_five hok
  go_wp2_with fail
  refine wp_region_T (fun w' => w'.cell? ⟨w.heap.size, 1, none⟩ = some (.slice a3 needs.length c3) ∧ w'.cell? ⟨w.heap.size + 1, 1, none⟩ = some (.slice (some ⟨bb, oo, none⟩) b.batches.length c2) ∧ w'.cell? ⟨bb, oo + k * 3 + 2, none⟩ = some (.slice x2 (nthB b.batches k).needs.length y2)) 11 (by kernel_rfl) ⟨p1, q1, d2⟩ (fun hS => ?_)
  refine tn 0 hS ?_
  try simp only [List.set]
  refine tn 1 hS ?_
  try simp only [List.set]
  refine tn 2 hS ?_
  try simp only [List.set]
  refine tn 3 hS ?_
  try simp only [List.set]
  refine tn 4 hS ?_
  try simp only [List.set]
  refine tn 5 hS ?_
  try simp only [List.set]
  refine tn 6 hS ?_
  try simp only [List.set]
  refine tn 7 hS ?_
  try simp only [List.set]
  refine wpT_one 8 rfl (by kernel_rfl) rfl rfl (fun K hK => ?_)
  go_simp
  cases hp : namesOk needs (nthB b.batches k).needs
  ·have HC : Hid (lessC b n needs = 2) := by show _ = _; rw [HU.out, hp]; rfl
   refine (picked_v _ _ _ _ _ _ _ _ ((hn.ext HE.out).drewN 1) (s2.drewN 1) hp).mono ?_
   rintro e w3 ⟨rfl, j, hw3⟩
   have hE3 : Ext w1 w3 := by rw [hw3]; exact Ext.tr (ext_drewN _ 1) (ext_drewN _ _)
   have HE3 := hid (Ext.tr HE.out hE3)
   clear hw3
   go_wp2_with fail
   refine hK.out _ _ ⟨hE3.keep p1, hE3.keep q1, hE3.keep d2⟩ (fun hS1 => ?_)
   clear hK hS
   have hS := hS1
   clear hS1
   try clear K
   try simp only [put_some, List.set]
   refine tn 9 hS ?_
   try simp only [List.set]
   refine tn 10 hS ?_
   try simp only [List.set]
   refine wpT_done (by kernel_rfl) ?_ _
   clear hE3 hp
   go_wp2_with fail
   go_ret
   exact ⟨ret_why (k := 2) HC.out (by omega), HE3.out⟩
  ·have HC : Hid (lessC b n needs = 0) := by show _ = _; rw [HU.out, hp]; rfl
   refine (picked_v _ _ _ _ _ _ _ _ ((hn.ext HE.out).drewN 1) (s2.drewN 1) hp).mono ?_
   rintro e w3 ⟨rfl, j, hw3⟩
   have hE3 : Ext w1 w3 := by rw [hw3]; exact Ext.tr (ext_drewN _ 1) (ext_drewN _ _)
   have HE3 := hid (Ext.tr HE.out hE3)
   clear hw3
   go_wp2_with fail
   refine hK.out _ _ ⟨hE3.keep p1, hE3.keep q1, hE3.keep d2⟩ (fun hS1 => ?_)
   clear hK hS
   have hS := hS1
   clear hS1
   try clear K
   try simp only [put_some, List.set]
   refine tn 9 hS ?_
   try simp only [List.set]
   refine tn 10 hS ?_
   try simp only [List.set]
   refine wpT_done (by kernel_rfl) ?_ _
   clear hE3 hp
   go_wp2_with fail
   go_ret
   exact ⟨ret_why0 HC.out, HE3.out⟩
end
section
open Go.RowKit
attribute [local go_sem] S_toList S_size S_get
structure OB (w : World) (base : Nat) (v1 v2 : Value) (rs : List Row) (b : Book) : Prop where
 ot : OwnL w base v1 b.things
 st : ShortS b.things
 ob : w.ownsRow base 73 3 v2 rs.length (cellsOf rs)
 ow : RowsOwn w base rs b.batches
 di : Dis v1 rs
theorem OB.ext {w w' : World} {base : Nat} {v1 v2 : Value} {rs : List Row} {b : Book} (h : OB w base v1 v2 rs b) (e : Ext w w') : OB w' base v1 v2 rs b :=
 ⟨h.ot.ext e, h.st, row_ext h.ob e, h.ow.ext e, h.di⟩
theorem OB.low {w : World} {base base' : Nat} {v1 v2 : Value} {rs : List Row} {b : Book} (h : OB w base v1 v2 rs b) (hb : base' ≤ base) : OB w base' v1 v2 rs b := by
 refine ⟨h.ot.low hb, h.st, ⟨h.ob.1, ?_⟩, h.ow.low hb, h.di⟩
 rcases h.ob.2 with k3 | ⟨g, cap, cur, hv, hg, r⟩
 ·exact Or.inl k3
 ·exact Or.inr ⟨g, cap, cur, hv, Nat.le_trans hb hg, r⟩
theorem OB.bs {w : World} {base : Nat} {v1 v2 : Value} {rs : List Row} {b : Book} (h : OB w base v1 v2 rs b) : OwnBs w base v2 b.batches := ⟨rs, h.ob, h.ow⟩
theorem OB.at {w : World} {base : Nat} {v1 v2 : Value} {rs : List Row} {b : Book} (h : OB w base v1 v2 rs b) (hn : b.batches.length ≤ 2199023255552) : ∃ a1 c1 a2 c2, v1 = .slice a1 b.things.length c1 ∧ v2 = .slice a2 b.batches.length c2 ∧ BookAt w a1 a2 b := by
 obtain ⟨a1, c1, rfl⟩ := own_sl h.ot
 obtain ⟨a2, c2, rfl⟩ := h.bs.len
 exact ⟨a1, c1, a2, c2, rfl, rfl, own_book_at h.ot h.st h.bs hn⟩
def markB (x : Batch) (k : Nat) : Batch := ⟨markT k, marksOf (k + 1) x.has.length, marksOf (k + 1 + x.has.length) x.needs.length⟩
def markTo (bs : List Batch) (k m : Nat) : List Batch := (List.range bs.length).map fun i => if i < m then markB (nthB bs i) (k + i + cntTo bs i) else nthB bs i
def markBook (b : Book) (k : Nat) : Book := ⟨marksOf k b.things.length, markTo b.batches (k + b.things.length) b.batches.length⟩
theorem NE.of_pair {l : List Value} (h : l.Pairwise NE) {i j : Nat} {u v : Value} (hi : l[i]? = some u) (hj : l[j]? = some v) (hne : i ≠ j) : NE u v := by
 rw [List.pairwise_iff_getElem] at h
 obtain ⟨li, ei⟩ := List.getElem?_eq_some_iff.1 hi
 obtain ⟨lj, ej⟩ := List.getElem?_eq_some_iff.1 hj
 rcases Nat.lt_or_gt_of_ne hne with hlt | hlt
 ·have := h i j li lj hlt
  rw [ei, ej] at this; exact this
 ·have := h j i lj li hlt
  rw [ei, ej] at this; exact this.symm
theorem allV_at : ∀ (rs : List Row) (i : Nat) (r : Row), rs[i]? = some r → (allV rs)[i * 2]? = some r.has ∧ (allV rs)[i * 2 + 1]? = some r.needs
 | [], i, r, h => by simp at h
 | x :: rs, 0, r, h => by
  simp at h; subst h
  exact ⟨rfl, rfl⟩
 | x :: rs, i + 1, r, h => by
  have h' := allV_at rs i r (by simpa using h)
  have e : allV (x :: rs) = x.has :: x.needs :: allV rs := rfl
  rw [e]
  have e3 : (i + 1) * 2 = i * 2 + 1 + 1 := by omega
  rw [e3]
  exact h'
end
end Go.Proofs.YtdafpnpfcmgfcaaGreatDoor
