/- The walk over the specification's ShareBookOk. Who has what: the things of batches with their places, and the map that holds them. What makes a book ok, told in the program's way and in the document's. Orders: who can go, which orders fit, and the order that always takes the first who can. -/
import Derived.Test.YtdafpnpfcmgfcaaGreatDoorKe18
import Derived.Maps.OwnSet
namespace Go.Proofs.YtdafpnpfcmgfcaaGreatDoor
section
open Go.RowKit
attribute [local go_sem] S_toList S_size S_get
def goodB (b : Book) (i : Nat) : Bool := batchOk b i && allLt i (fun k => !shareB (b.at i).has (b.at k).has)
theorem bookOk_no1 {b : Book} (h : thingsOk b.things = false) : bookOk b = false := by simp [bookOk, h]
theorem bookOk_no2 {b : Book} (h : ¬ b.batches.length ≤ 5) : bookOk b = false := by simp [bookOk, h]
theorem bookOk_no3 {b : Book} {i : Nat} (hi : i < b.batches.length) (h : goodB b i = false) : bookOk b = false := by
 unfold bookOk; rw [allLt_no (p := fun i => batchOk b i && allLt i (fun k => !shareB (b.at i).has (b.at k).has)) hi h]; simp
theorem bookOk_yes {b : Book} (h1 : thingsOk b.things = true) (h2 : b.batches.length ≤ 5) (h3 : ∀ i, i < b.batches.length → goodB b i = true) : bookOk b = true := by
 unfold bookOk; rw [allLt_of (p := fun i => batchOk b i && allLt i (fun k => !shareB (b.at i).has (b.at k).has)) h3, h1]; simp [h2]
theorem goodB_no {b : Book} {i : Nat} (h : batchOk b i = false) : goodB b i = false := by simp [goodB, h]
theorem goodB_no' {b : Book} {i k : Nat} (hk : k < i) (h : shareB (b.at i).has (b.at k).has = true) : goodB b i = false := by
 unfold goodB; rw [allLt_no (p := fun k => !shareB (b.at i).has (b.at k).has) hk (by simp [h])]; simp
theorem box_cell {w wr : World} {c : Array Value} {T : TypeId} (h : Ext (w.alloc (.cells c T)) wr) {i : Nat} {v : Value} (hi : c[i]? = some v) : wr.cell? ⟨w.heap.size, i, none⟩ = some v := by
 refine Ext.keep h ?_
 have hh : (w.alloc (.cells c T)).heap[w.heap.size]? = some (.cells c T) := Go.Deep.blk_alloc_new _ _
 unfold World.cell?
 simp only [hh]
 exact hi
theorem ext_alloc (w : World) (o : Obj) : Ext w (w.alloc o) := (Below.refl _ _).alloc (Nat.le_refl _) _
theorem draws_ext {W wq : World} (h : ∃ n, wq = W.drewN n) : Ext W wq := by obtain ⟨n, rfl⟩ := h; exact ext_drewN _ _
theorem draws_cell {W wq : World} (h : ∃ n, wq = W.drewN n) {p : Addr} {v : Value} (hc : W.cell? p = some v) : wq.cell? p = some v := (draws_ext h).keep hc
theorem l1Share_v (a b : Option Addr) (ca cb : Nat) (sa sb : List Str) (v : Bool) (w : World) (ha : StrsAt w a sa) (hb : StrsAt w b sb) (hv : shareB sa sb = v) :
  Calls Qry.prog 83 #[.slice a sa.length ca, .slice b sb.length cb] w fun e w' => e = .returned (.bool v) ∧ w' = w := by
 rw [← hv]; exact l1Share_any a b ca cb sa sb w ha hb
theorem l1NamesOk_v (a b : Option Addr) (ca cb : Nat) (sa sb : List Str) (v : Bool) (w : World) (ha : StrsAt w a sa) (hb : StrsAt w b sb) (hv : namesOk sa sb = v) :
  Calls Qry.prog 47 #[.slice a sa.length ca, .slice b sb.length cb] w fun e w' => e = .returned (.bool v) ∧ ∃ n, w' = w.drewN n := by
 rw [← hv]; exact l1NamesOk_any a b ca cb sa sb w ha hb
theorem l1NameOk_v (s : Str) (v : Bool) (w : World) (hs : s.length ≤ 140737488355328) (hv : nameOk s = v) :
  Calls Qry.prog 46 #[.string (S s)] w fun e w' => e = .returned (.bool v) ∧ w' = w := by
 rw [← hv]; exact l1NameOk_any s w hs
set_option maxHeartbeats 1000000 in
theorem specBookOk_any (b : Book) (a1 a2 : Option Addr) (c1 c2 : Nat) (w : World) (hb : BookAt w a1 a2 b) :
  Calls Qry.prog 44 #[.agg #[.slice a1 b.things.length c1, .slice a2 b.batches.length c2]] w fun e w' =>
   e = .returned (.bool (bookOk b)) ∧ Ext w w' := by
 have hal : ∀ o, Ext w (w.alloc o) := fun o => (Below.refl _ _).alloc (Nat.le_refl _) _
 obtain ⟨ht, hbs⟩ := hb
 have hn := hbs.1
 cases hth : thingsOk b.things
 ·have HF : Hid (bookOk b = false) := bookOk_no1 hth
  go_enter Qry.func44, Tryz.ntmps44
  go_wp2_with fail
  refine (l1ThingsOk_any _ _ _ _ (ht.ext (hal _))).mono ?_
  rintro e w1 ⟨rfl, n1, rfl⟩
  go_wp2_with fail
  go_ret
  exact ⟨ret_bool HF.out.symm, Ext.tr (hal _) (ext_drewN _ _)⟩
 ·by_cases h5 : b.batches.length ≤ 5
  ·go_enter Qry.func44, Tryz.ntmps44
   go_wp2_with fail
   refine (l1ThingsOk_any _ _ _ _ (ht.ext (hal _))).mono ?_
   rintro e w1 ⟨rfl, hq⟩
   have hex : Ext (w.alloc (.cells #[.slice a1 b.things.length c1, .slice a2 b.batches.length c2] 26)) w1 := by obtain ⟨n1, e⟩ := hq; rw [e]; exact ext_drewN _ _
   have hx0 := box_cell hex (i := 0) rfl
   have hx1 := box_cell hex (i := 1) rfl
   clear hq
   go_wp2_with fail
   go_loopw [3] (fun i wr => ∃ k : Nat, k ≤ b.batches.length ∧ i = .int .i64 k ∧ Ext (w.alloc (.cells #[.slice a1 b.things.length c1, .slice a2 b.batches.length c2] 26)) wr ∧ ∀ j, j < k → goodB b j = true) (fun i _ => b.batches.length - (intOf i).toNat)
   case atStart => exact ⟨0, Nat.zero_le _, rfl, hex, fun j hj => by omega⟩
   case round =>
    obtain ⟨k, hk, rfl, hext, hx⟩ := hrel
    clear hx0 hx1 hex
    have hx0 := box_cell hext (i := 0) rfl
    have hx1 := box_cell hext (i := 1) rfl
    have ht' := ht.ext (Ext.tr (hal _) hext)
    have hbs' := hbs.ext (Ext.tr (hal _) hext)
    have HX : Hid (∀ j, j < k → goodB b j = true) := hx
    have HE : Hid (Ext w wr) := Ext.tr (hal _) hext
    have HE0 : Hid (Ext (w.alloc (.cells #[.slice a1 b.things.length c1, .slice a2 b.batches.length c2] 26)) wr) := hext
    clear hx hext
    by_cases hlt : k < b.batches.length
    ·obtain ⟨ba, oa, rfl, hl, d1, g1, d2, g2, p0, p1, p2, s1, s2⟩ := hbs'.2 k hlt
     cases hname : nameOk (nthB b.batches k).name
     ·have HF : Hid (bookOk b = false) := bookOk_no3 hlt (goodB_no (by unfold batchOk; unfold Book.at; rw [hname]; rfl))
      go_wp2_with fail
      go_quiet ((go_at_call 46; exact Calls.quiet_of_same (l1NameOk_v _ _ _ hl hname)))
      go_wp2
      go_ret
      exact ⟨ret_bool HF.out.symm, Ext.tr HE.out (Ext.tr (ext_alloc _ _) (ext_drewN _ _))⟩
     ·have hx0' : ∀ o, (wr.alloc o).cell? ⟨w.heap.size, 0, none⟩ = some (.slice a1 b.things.length c1) := fun o => (ext_alloc _ _).keep hx0
      have hx1' : ∀ o, (wr.alloc o).cell? ⟨w.heap.size, 1, none⟩ = some (.slice (some ⟨ba, oa, none⟩) b.batches.length c2) := fun o => (ext_alloc _ _).keep hx1
      have t1 : StrsAt (wr.alloc (.cells #[.string (S (nthB b.batches k).name), .slice d1 (nthB b.batches k).has.length g1, .slice d2 (nthB b.batches k).needs.length g2] 73)) d1 (nthB b.batches k).has := s1.ext (ext_alloc _ _)
      have t2 : StrsAt (wr.alloc (.cells #[.string (S (nthB b.batches k).name), .slice d1 (nthB b.batches k).has.length g1, .slice d2 (nthB b.batches k).needs.length g2] 73)) d2 (nthB b.batches k).needs := s2.ext (ext_alloc _ _)
      have t3 : StrsAt (wr.alloc (.cells #[.string (S (nthB b.batches k).name), .slice d1 (nthB b.batches k).has.length g1, .slice d2 (nthB b.batches k).needs.length g2] 73)) a1 b.things := ht'.ext (ext_alloc _ _)
      have hcase : (decide (0 < k) = false ∧ Hid (upB b k = true)) ∨ (decide (0 < k) = true ∧ ∃ (q : Nat) (nm : Str), IntKind.i64.wrap ((k : Int) - 1) = (q : Int) ∧ q < b.batches.length ∧ (∀ o, (wr.alloc o).cell? ⟨ba, oa + q * 3, none⟩ = some (.string (S nm))) ∧ Hid (upB b k = Op.bytesLess nm (nthB b.batches k).name)) := by
       by_cases h0 : k = 0
       ·exact Or.inl ⟨by simp; omega, by show _ = true; simp [upB, h0]⟩
       ·refine Or.inr ⟨by simp; omega, k - 1, (nthB b.batches (k - 1)).name, by rw [IntKind.wrap_i64]; omega, by omega, ?_, by show _ = _; simp [upB, h0, Book.at]⟩
        obtain ⟨ba', oa', e', _, _, _, _, _, q0, _⟩ := hbs'.2 (k - 1) (by omega)
        injection e' with e'; injection e' with e1 e2; subst e1 e2
        exact fun o => (ext_alloc _ _).keep q0
      rcases hcase with ⟨hd, HU⟩ | ⟨hd, q, nm, hwq, hqn, hprev, HU⟩
      rotate_left
      cases hu : Op.bytesLess nm (nthB b.batches k).name
      ·have HF : Hid (bookOk b = false) := bookOk_no3 hlt (goodB_no (by unfold batchOk; rw [HU.out, hu]; simp))
       go_wp2_with fail
       go_quiet ((go_at_call 46; exact Calls.quiet_of_same (l1NameOk_v _ _ _ hl hname)))
       go_wp2
       go_ret
       exact ⟨ret_bool HF.out.symm, Ext.tr HE.out (Ext.tr (ext_alloc _ _) (ext_drewN _ _))⟩
      rotate_left
      all_goals
       cases hneeds : namesOk (nthB b.batches k).needs b.things
       ·have HF : Hid (bookOk b = false) := bookOk_no3 hlt (goodB_no (by unfold batchOk; unfold Book.at; rw [hneeds]; simp))
        go_wp2_with fail
        go_quiet ((first | (go_at_call 46; exact Calls.quiet_of_same (l1NameOk_v _ _ _ hl hname)) | (go_at_call 47; exact Calls.quiet_of (l1NamesOk_v _ _ _ _ _ _ _ _ (t2.drewN _) (t3.drewN _) hneeds))))
        go_wp2
        go_ret
        exact ⟨ret_bool HF.out.symm, Ext.tr HE.out (Ext.tr (ext_alloc _ _) (ext_drewN _ _))⟩
       ·cases hhas : namesOk (nthB b.batches k).has (nthB b.batches k).needs
        ·have HF : Hid (bookOk b = false) := bookOk_no3 hlt (goodB_no (by unfold batchOk; unfold Book.at; rw [hhas]; simp))
         go_wp2_with fail
         go_quiet ((first | (go_at_call 46; exact Calls.quiet_of_same (l1NameOk_v _ _ _ hl hname)) | (go_at_call_of 47 (b.things); exact Calls.quiet_of (l1NamesOk_v _ _ _ _ _ _ _ _ (t2.drewN _) (t3.drewN _) hneeds)) | (go_at_call 47; exact Calls.quiet_of (l1NamesOk_v _ _ _ _ _ _ _ _ (t1.drewN _) (t2.drewN _) hhas))))
         go_wp2
         go_ret
         exact ⟨ret_bool HF.out.symm, Ext.tr HE.out (Ext.tr (ext_alloc _ _) (ext_drewN _ _))⟩
        ·have HG : Hid (batchOk b k = true) := by
          show _ = true
          unfold batchOk; rw [HU.out]; unfold Book.at; rw [hname, hneeds, hhas]; first | rfl | (rw [hu]; rfl)
         go_wp2_with fail
         go_quiet ((first | (go_at_call 46; exact Calls.quiet_of_same (l1NameOk_v _ _ _ hl hname)) | (go_at_call_of 47 (b.things); exact Calls.quiet_of (l1NamesOk_v _ _ _ _ _ _ _ _ (t2.drewN _) (t3.drewN _) hneeds)) | (go_at_call 47; exact Calls.quiet_of (l1NamesOk_v _ _ _ _ _ _ _ _ (t1.drewN _) (t2.drewN _) hhas))))
         go_wp2
         have hbx := box_cell (Ext.rfl' (wr.alloc (.cells #[.string (S (nthB b.batches k).name), .slice d1 (nthB b.batches k).has.length g1, .slice d2 (nthB b.batches k).needs.length g2] 73))) (i := 1) rfl
         go_loopw [5] (fun kk wq => ∃ m : Nat, m ≤ k ∧ kk = .int .i64 m ∧ (∃ n, wq = (wr.alloc (.cells #[.string (S (nthB b.batches k).name), .slice d1 (nthB b.batches k).has.length g1, .slice d2 (nthB b.batches k).needs.length g2] 73)).drewN n) ∧ ∀ j, j < m → shareB (nthB b.batches k).has (nthB b.batches j).has = false) (fun kk _ => k - (intOf kk).toNat)
         case atStart => exact ⟨0, Nat.zero_le _, rfl, ⟨_, rfl⟩, fun j hj => by omega⟩
         case round =>
          obtain ⟨m, hm, rfl, hq, hy⟩ := hrel
          have HY : Hid (∀ j, j < m → shareB (nthB b.batches k).has (nthB b.batches j).has = false) := hy
          have HW := hid hq
          have y1 := draws_cell hq (hx1' _)
          have y2 := draws_cell hq hbx
          have t1q := t1.draws hq
          clear hy
          by_cases hmk : m < k
          ·obtain ⟨ba', oa', e', _, e1, f1, _, _, _, q1, _, t4, _⟩ := hbs'.2 m (by omega)
           injection e' with e'; injection e' with ee1 ee2; subst ee1 ee2
           have q1q := draws_cell hq ((ext_alloc _ _).keep q1)
           have t4q := (t4.ext (ext_alloc _ _)).draws hq
           have hmn : m < b.batches.length := by omega
           clear hq q1 t4
           cases hsh : shareB (nthB b.batches k).has (nthB b.batches m).has
           ·have HQ : Hid (shareB (nthB b.batches k).has (nthB b.batches m).has = false) := hsh
            go_wp2
            go_quiet ((go_at_call 83; exact Calls.quiet_of_same (l1Share_v _ _ _ _ _ _ _ _ (t1q.drewN _) (t4q.drewN _) hsh)))
            go_wp2
            have HZ : ∀ j, j < m + 1 → shareB (nthB b.batches k).has (nthB b.batches j).has = false := fun j hj => by
             by_cases e : j = m
             ·rw [e]; exact HQ.out
             ·exact HY.out j (by omega)
            go_roundw
            case rel => exact ⟨m + 1, by omega, by go_num, drewN_tr HW.out ⟨_, rfl⟩, HZ⟩
            case measure => simp [intOf]; omega
           ·have HF : Hid (bookOk b = false) := bookOk_no3 hlt (goodB_no' hmk hsh)
            go_wp2
            go_quiet ((go_at_call 83; exact Calls.quiet_of_same (l1Share_v _ _ _ _ _ _ _ _ (t1q.drewN _) (t4q.drewN _) hsh)))
            go_wp2
            go_ret
            exact ⟨ret_bool HF.out.symm, Ext.tr HE.out (Ext.tr (ext_alloc _ _) (draws_ext (drewN_tr HW.out ⟨_, rfl⟩)))⟩
          ·have HK : Hid (goodB b k = true) := by
            show _ = true
            unfold goodB; rw [HG.out, allLt_of (fun j hj => by have := HY.out j (by omega); unfold Book.at; rw [this]; rfl)]; rfl
           clear hq
           go_wp2
           go_roundw
           case rel => exact ⟨k + 1, by omega, by go_num, Ext.tr HE0.out (Ext.tr (ext_alloc _ _) (draws_ext HW.out)), fun j hj => by
            by_cases e : j = k
            ·rw [e]; exact HK.out
            ·exact HX.out j (by omega)⟩
           case measure => simp [intOf]; omega
    ·have HF : Hid (bookOk b = true) := bookOk_yes hth h5 (fun j hj => HX.out j (by omega))
     go_wp2
     go_ret
     exact ⟨ret_bool HF.out.symm, HE.out⟩
  ·have HF : Hid (bookOk b = false) := bookOk_no2 h5
   go_enter Qry.func44, Tryz.ntmps44
   go_wp2_with fail
   refine (l1ThingsOk_any _ _ _ _ (ht.ext (hal _))).mono ?_
   rintro e w1 ⟨rfl, n1, rfl⟩
   go_wp2_with fail
   go_ret
   exact ⟨ret_bool HF.out.symm, Ext.tr (hal _) (ext_drewN _ _)⟩
end
section
def pairsOf (bs : List Batch) (p : Nat) : List (Str × Nat) := (nthB bs p).has.map (fun x => (x, p))
def pairsTo (bs : List Batch) : Nat → List (Str × Nat)
 | 0 => []
 | i + 1 => pairsTo bs i ++ pairsOf bs i
def halfP (bs : List Batch) (i j : Nat) : List (Str × Nat) := pairsTo bs i ++ ((nthB bs i).has.take j).map (fun x => (x, i))
def keys (l : List (Str × Nat)) : List Str := l.map Prod.fst
def onceB (bs : List Batch) : Bool := decide (keys (pairsTo bs bs.length)).Nodup
theorem halfP_zero (bs : List Batch) (i : Nat) : halfP bs i 0 = pairsTo bs i := by simp [halfP]
theorem halfP_full (bs : List Batch) (i : Nat) : halfP bs i (nthB bs i).has.length = pairsTo bs (i + 1) := by simp [halfP, pairsTo, pairsOf]
theorem halfP_succ {bs : List Batch} {i j : Nat} (h : j < (nthB bs i).has.length) : halfP bs i (j + 1) = halfP bs i j ++ [(nth (nthB bs i).has j, i)] := by
 unfold halfP
 rw [List.take_succ_eq_append_getElem h, nth_get h, List.map_append, List.append_assoc]; rfl
theorem pairsTo_prefix (bs : List Batch) : ∀ {i n : Nat}, i ≤ n → ∃ t, pairsTo bs n = pairsTo bs i ++ t := by
 intro i n h
 induction n with
 | zero =>
  have : i = 0 := by omega
  subst this
  exact ⟨[], by simp⟩
 | succ n ih =>
  by_cases e : i = n + 1
  ·subst e; exact ⟨[], by simp⟩
  ·obtain ⟨t, ht⟩ := ih (by omega)
   exact ⟨t ++ pairsOf bs n, by simp [pairsTo, ht]⟩
theorem halfP_prefix {bs : List Batch} {i j n : Nat} (hi : i < n) : ∃ t, pairsTo bs n = halfP bs i j ++ t := by
 obtain ⟨t, ht⟩ := pairsTo_prefix bs (i := i + 1) (n := n) hi
 refine ⟨((nthB bs i).has.drop j).map (fun x => (x, i)) ++ t, ?_⟩
 rw [ht]
 have e : pairsTo bs (i + 1) = halfP bs i j ++ ((nthB bs i).has.drop j).map (fun x => (x, i)) := by
  unfold halfP
  rw [List.append_assoc, ← List.map_append, List.take_append_drop]; rfl
 rw [e, List.append_assoc]
theorem onceB_no {bs : List Batch} {i j : Nat} (hi : i < bs.length) (hj : j < (nthB bs i).has.length) (h : nth (nthB bs i).has j ∈ keys (halfP bs i j)) : onceB bs = false := by
 unfold onceB
 rw [decide_eq_false_iff_not]
 intro hn
 obtain ⟨t, ht⟩ := halfP_prefix (bs := bs) (i := i) (j := j + 1) (n := bs.length) hi
 rw [ht, halfP_succ hj] at hn
 simp only [keys, List.map_append, List.map_cons, List.map_nil] at hn h
 have hn' := (List.nodup_append.1 hn).1
 have := (List.nodup_append.1 hn').2.2
 exact this _ h _ (by simp) rfl
theorem keys_snoc {bs : List Batch} {i j : Nat} (hj : j < (nthB bs i).has.length) (hn : (keys (halfP bs i j)).Nodup) (h : nth (nthB bs i).has j ∉ keys (halfP bs i j)) : (keys (halfP bs i (j + 1))).Nodup := by
 rw [halfP_succ hj]
 simp only [keys, List.map_append, List.map_cons, List.map_nil] at *
 rw [List.nodup_append]
 refine ⟨hn, by simp, ?_⟩
 intro a ha b hb e
 simp at hb
 subst hb; subst e; exact h ha
theorem pairsTo_len {bs : List Batch} {M : Nat} (h : ∀ i, (nthB bs i).has.length ≤ M) : ∀ i, (pairsTo bs i).length ≤ i * M := by
 intro i
 induction i with
 | zero => simp [pairsTo]
 | succ i ih =>
  have := h i
  simp only [pairsTo, pairsOf, List.length_append, List.length_map, Nat.succ_mul]; omega
theorem halfP_len {bs : List Batch} {M : Nat} (h : ∀ i, (nthB bs i).has.length ≤ M) (i j : Nat) : (halfP bs i j).length ≤ i * M + M := by
 have h1 := pairsTo_len h i
 have h2 := h i
 simp only [halfP, List.length_append, List.length_map, List.length_take]; omega
def MapIs (D : DataW Unit) (L : List (Str × Nat)) : Prop :=
 Maps.IsMap D ∧ (∀ x, Maps.has D (.string x) = hasB (keys L) x) ∧ ∀ x (p : Nat) z, (x, p) ∈ L → D.atKey (.string x) z = .lit (.int .i64 (p : Int))
theorem mapIs_nil : MapIs (.map []) [] := ⟨Maps.isMap_empty, fun x => by simp [Maps.has, hasB, keys], fun x p z h => by simp at h⟩
theorem lit_ne {x y : Str} (h : y ≠ x) : (Lit.string y) ≠ .string x := fun e => by injection e with e; exact h e
theorem MapIs.put {D : DataW Unit} {L : List (Str × Nat)} (h : MapIs D L) {x : Str} (hx : x ∉ keys L) (i : Nat) : MapIs (D.put (.string x) (.lit (.int .i64 (i : Int)))) (L ++ [(x, i)]) := by
 obtain ⟨h0, h1, h2⟩ := h
 have hk : WideAt.IsKeyLit (.string x) := by simp [WideAt.IsKeyLit]
 refine ⟨h0.put _ _, fun y => ?_, fun y p z hm => ?_⟩
 ·by_cases e : y = x
  ·subst e
   rw [Maps.has_put_same h0 hk]
   simp [hasB, keys]
  ·rw [Maps.has_put_other (lit_ne e), h1, Bool.eq_iff_iff, hasB_true, hasB_true]
   simp only [keys, List.map_append, List.mem_append, List.map_cons, List.map_nil, List.mem_singleton, e, or_false]
 ·rw [List.mem_append] at hm
  rcases hm with hm | hm
  ·have e : y ≠ x := fun e => hx (by rw [← e]; exact List.mem_map.2 ⟨_, hm, rfl⟩)
   rw [Maps.atKey_put_other (lit_ne e)]
   exact h2 y p z hm
  ·simp at hm
   obtain ⟨rfl, rfl⟩ := hm
   rw [Maps.atKey_put_same h0 hk]
end
section
theorem less_irrefl : ∀ a : Str, Op.bytesLess a a = false
 | [] => rfl
 | c :: r => by
  have h := less_irrefl r
  simp [Op.bytesLess, h]
theorem less_trans : ∀ {a b c : Str}, Op.bytesLess a b = true → Op.bytesLess b c = true → Op.bytesLess a c = true
 | [], [], _, h, _ => by simp [Op.bytesLess] at h
 | [], _ :: _, [], _, h => by simp [Op.bytesLess] at h
 | [], _ :: _, _ :: _, _, _ => by simp [Op.bytesLess]
 | _ :: _, [], _, h, _ => by simp [Op.bytesLess] at h
 | _ :: _, _ :: _, [], _, h => by simp [Op.bytesLess] at h
 | x :: a, y :: b, z :: c, h, k => by
  have ih := @less_trans a b c
  simp only [Op.bytesLess, Bool.or_eq_true, Bool.and_eq_true, decide_eq_true_eq, beq_iff_eq] at *
  rcases h with h | ⟨rfl, h⟩
  ·rcases k with k | ⟨rfl, _⟩
   ·exact Or.inl (UInt8.lt_trans h k)
   ·exact Or.inl h
  ·rcases k with k | ⟨rfl, k⟩
   ·exact Or.inl k
   ·exact Or.inr ⟨rfl, ih h k⟩
theorem asc_less {l : List Str} (h : ascB l = true) {i j : Nat} (hij : i < j) (hj : j < l.length) : Op.bytesLess (nth l i) (nth l j) = true := by
 induction j with
 | zero => omega
 | succ j ih =>
  have hu := allLt_true.1 h (j + 1) hj
  simp only [up, Nat.add_one_ne_zero, decide_false, Bool.false_or, Nat.add_sub_cancel] at hu
  by_cases e : i = j
  ·rw [e]; exact hu
  ·exact less_trans (ih (by omega) (by omega)) hu
theorem asc_nodup {l : List Str} (h : ascB l = true) : l.Nodup := by
 unfold List.Nodup
 rw [List.pairwise_iff_getElem]
 intro i j hi hj hij e
 have := asc_less h hij hj
 rw [nth_get hi, nth_get hj, e, less_irrefl] at this
 cases this
theorem keys_succ (bs : List Batch) (i : Nat) : keys (pairsTo bs (i + 1)) = keys (pairsTo bs i) ++ (nthB bs i).has := by
 have e : (Prod.fst ∘ fun x : Str => (x, i)) = id := rfl
 simp only [keys, pairsTo, pairsOf, List.map_append, List.map_map, e, List.map_id]
theorem mem_keys {bs : List Batch} {x : Str} : ∀ {i : Nat}, x ∈ keys (pairsTo bs i) ↔ ∃ p, p < i ∧ x ∈ (nthB bs p).has
 | 0 => by simp [keys, pairsTo]
 | i + 1 => by
  have ih := @mem_keys bs x i
  have e : keys (pairsTo bs (i + 1)) = keys (pairsTo bs i) ++ (nthB bs i).has := keys_succ bs i
  rw [e, List.mem_append, ih]
  constructor
  ·rintro (⟨p, hp, h⟩ | h)
   ·exact ⟨p, by omega, h⟩
   ·exact ⟨i, by omega, h⟩
  ·rintro ⟨p, hp, h⟩
   by_cases e : p = i
   ·exact Or.inr (e ▸ h)
   ·exact Or.inl ⟨p, by omega, h⟩
theorem shareB_true {a b : List Str} : shareB a b = true ↔ ∃ x, x ∈ a ∧ x ∈ b := by
 unfold shareB
 rw [anyLt_true]
 constructor
 ·rintro ⟨i, hi, h⟩
  exact ⟨nth a i, by rw [nth_get hi]; exact List.getElem_mem hi, hasB_true.1 h⟩
 ·rintro ⟨x, h1, h2⟩
  obtain ⟨i, hi, e⟩ := List.getElem_of_mem h1
  exact ⟨i, hi, by rw [nth_get hi, e]; exact hasB_true.2 h2⟩
theorem shareB_false {a b : List Str} : shareB a b = false ↔ ∀ x, x ∈ a → x ∉ b := by
 rw [← Bool.not_eq_true, shareB_true]
 exact ⟨fun h x h1 h2 => h ⟨x, h1, h2⟩, fun h ⟨x, h1, h2⟩ => h x h1 h2⟩
theorem nodup_pairs {bs : List Batch} (hn : ∀ i, i < bs.length → (nthB bs i).has.Nodup) : ∀ {i : Nat}, i ≤ bs.length → ((keys (pairsTo bs i)).Nodup ↔ ∀ p, p < i → ∀ q, q < p → shareB (nthB bs p).has (nthB bs q).has = false)
 | 0, _ => by simp [keys, pairsTo]
 | i + 1, hi => by
  have ih := @nodup_pairs bs hn i (by omega)
  have e : keys (pairsTo bs (i + 1)) = keys (pairsTo bs i) ++ (nthB bs i).has := keys_succ bs i
  rw [e, List.nodup_append, ih]
  constructor
  ·rintro ⟨h1, _, h3⟩ p hp q hq
   by_cases e : p = i
   ·subst e
    rw [shareB_false]
    exact fun x hx hy => h3 x (mem_keys.2 ⟨q, hq, hy⟩) x hx rfl
   ·exact h1 p (by omega) q hq
  ·intro h
   refine ⟨fun p hp q hq => h p (by omega) q hq, hn i (by omega), ?_⟩
   intro x hx y hy e
   subst e
   obtain ⟨q, hq, hy'⟩ := mem_keys.1 hx
   exact (shareB_false.1 (h i (by omega) q hq)) x hy hy'
def restOk (b : Book) : Bool := allLt b.batches.length (fun i => namesOk (b.at i).needs b.things && namesOk (b.at i).has (b.at i).needs)
def namesB (b : Book) : Bool := allLt b.batches.length (fun i => nameOk (b.at i).name) && allLt b.batches.length (fun i => upB b i)
theorem namesOk_asc {l all : List Str} (h : namesOk l all = true) : ascB l = true := by
 unfold namesOk at h
 rw [allLt_true] at h
 exact allLt_of (fun i hi => by have := h i hi; rw [Bool.and_eq_true] at this; exact this.2)
theorem bookOk_iff (b : Book) : bookOk b = (thingsOk b.things && decide (b.batches.length ≤ 5) && namesB b && restOk b && onceB b.batches) := by
 rw [Bool.eq_iff_iff]
 unfold bookOk namesB restOk
 simp only [Bool.and_eq_true, allLt_true, batchOk]
 constructor
 ·rintro ⟨⟨h1, h2⟩, h3⟩
  refine ⟨⟨⟨⟨h1, h2⟩, fun i hi => (h3 i hi).1.1.1.1, fun i hi => (h3 i hi).1.1.1.2⟩, fun i hi => ⟨(h3 i hi).1.1.2, (h3 i hi).1.2⟩⟩, ?_⟩
  unfold onceB
  rw [decide_eq_true_eq, nodup_pairs (fun i hi => asc_nodup (namesOk_asc (h3 i hi).1.2)) (Nat.le_refl _)]
  intro p hp q hq
  have := (h3 p hp).2 q hq
  simpa [Book.at] using this
 ·rintro ⟨⟨⟨⟨h1, h2⟩, h3, h4⟩, h5⟩, h6⟩
  refine ⟨⟨h1, h2⟩, fun i hi => ⟨⟨⟨⟨h3 i hi, h4 i hi⟩, (h5 i hi).1⟩, (h5 i hi).2⟩, fun k hk => ?_⟩⟩
  unfold onceB at h6
  rw [decide_eq_true_eq, nodup_pairs (fun i hi => asc_nodup (namesOk_asc (h5 i hi).2)) (Nat.le_refl _)] at h6
  have := h6 i hi k hk
  simpa [Book.at] using this
end
section
def place : List Str → Str → Nat
 | [], _ => 0
 | y :: r, x => if y == x then 0 else place r x + 1
theorem nth_cons (y : Str) (r : List Str) (k : Nat) : nth (y :: r) (k + 1) = nth r k := by simp [nth]
theorem nth_zero (y : Str) (r : List Str) : nth (y :: r) 0 = y := by simp [nth]
def firstAt (l : List Str) (x : Str) (k : Nat) : Prop := k < l.length ∧ (nth l k == x) = true ∧ ∀ j, j < k → (nth l j == x) = false
theorem place_of : ∀ {l : List Str} {x : Str} {k : Nat}, firstAt l x k → place l x = k
 | [], _, _, ⟨h, _, _⟩ => by simp at h
 | y :: r, x, 0, ⟨_, h, _⟩ => by rw [nth_zero] at h; simp only [place, h, if_true]
 | y :: r, x, k + 1, ⟨h1, h2, h3⟩ => by
  have h0 := h3 0 (by omega)
  rw [nth_zero] at h0
  rw [nth_cons] at h2
  simp only [place, h0, Bool.false_eq_true, if_false]
  rw [place_of ⟨by simpa using h1, h2, fun j hj => by have := h3 (j + 1) (by omega); rwa [nth_cons] at this⟩]
theorem place_lt {l : List Str} {x : Str} : place l x < l.length ↔ x ∈ l := by
 induction l with
 | nil => simp [place]
 | cons y r ih =>
  by_cases e : y = x
  ·subst e; simp [place]
  ·have e' : (y == x) = false := by rw [beq_eq_false_iff_ne]; exact e
   simp only [place, e', Bool.false_eq_true, if_false, List.length_cons, List.mem_cons]
   rw [Nat.succ_lt_succ_iff, ih]
   exact ⟨Or.inr, fun h => h.resolve_left (fun k => e k.symm)⟩
theorem place_nth {l : List Str} {x : Str} (h : x ∈ l) : nth l (place l x) = x := by
 induction l with
 | nil => simp at h
 | cons y r ih =>
  by_cases e : y = x
  ·subst e; simp [place, nth_zero]
  ·have e' : (y == x) = false := by rw [beq_eq_false_iff_ne]; exact e
   simp only [place, e', Bool.false_eq_true, if_false]
   rw [nth_cons]
   exact ih ((List.mem_cons.1 h).resolve_left (fun k => e k.symm))
def namesOf (bs : List Batch) : List Str := bs.map (·.name)
theorem namesOf_length (bs : List Batch) : (namesOf bs).length = bs.length := by simp [namesOf]
theorem nth_namesOf {bs : List Batch} {i : Nat} (h : i < bs.length) : nth (namesOf bs) i = (nthB bs i).name := by
 rw [nth_get (by rw [namesOf_length]; exact h), nthB_get h]; simp [namesOf]
def clash (b : Book) (at_ : Nat) (gone : List Str) (i : Nat) : Bool := !decide (i = at_) && !hasB gone (b.at i).name && shareB (b.at i).has (b.at at_).needs
def canB (b : Book) (at_ : Nat) (gone : List Str) : Bool := allLt b.batches.length (fun i => !clash b at_ gone i)
theorem canB_no {b : Book} {at_ : Nat} {gone : List Str} {i : Nat} (hi : i < b.batches.length) (h : clash b at_ gone i = true) : canB b at_ gone = false :=
 allLt_no hi (by rw [h]; rfl)
theorem canB_yes {b : Book} {at_ : Nat} {gone : List Str} (h : ∀ i, i < b.batches.length → clash b at_ gone i = false) : canB b at_ gone = true :=
 allLt_of (fun i hi => by rw [h i hi]; rfl)
def stepB (b : Book) (order : List Str) (i : Nat) : Bool :=
 decide (place (namesOf b.batches) (nth order i) < b.batches.length) && !hasB (order.take i) (nth order i) && canB b (place (namesOf b.batches) (nth order i)) (order.take i)
def fitsB (b : Book) (order : List Str) : Bool := bookOk b && decide (order.length = b.batches.length) && allLt order.length (stepB b order)
theorem fitsB_yes {b : Book} {order : List Str} (h1 : bookOk b = true) (h2 : order.length = b.batches.length) (h : ∀ i, i < order.length → stepB b order i = true) : fitsB b order = true := by
 unfold fitsB; rw [allLt_of h, h1]; simp [h2]
end
end Go.Proofs.YtdafpnpfcmgfcaaGreatDoor
