/- The walk over the program's ShareBookOk. Who has a thing: the specification's ShareWho and the program's. Things as bits of a word. Walks over the program's bits of things. Going: the program's state of who is gone and what is free. What is free, as a sum of bits; who can go by it. A region that draws its order, whose operations only read and whose callees only make new memory: one walk serves every order. -/
import Derived.Test.YtdafpnpfcmgfcaaGreatDoorKb19
import Derived.Test.YtdafpnpfcmgfcaaGreatDoorKb18
import Derived.Test.YtdafpnpfcmgfcaaGreatDoorKb17
namespace Go.Proofs.YtdafpnpfcmgfcaaGreatDoor
section
open Go.RowKit
attribute [local go_sem] S_toList S_size S_get
theorem namesB_eq (b : Book) : namesB b = (allNames (namesOf b.batches) && ascB (namesOf b.batches)) := by
 unfold namesB allNames ascB
 rw [namesOf_length]
 congr 1
 ·exact allLt_congr (fun i hi => by rw [nth_namesOf hi]; rfl)
 ·refine allLt_congr (fun i hi => ?_)
  unfold upB up
  rw [nth_namesOf hi, nth_namesOf (by omega)]; rfl
theorem implOk_1 {b : Book} (h : thingsOk b.things = false) : bookOk b = false := by rw [bookOk_iff, h]; rfl
theorem implOk_3 {b : Book} (h : allNames (namesOf b.batches) = false) : bookOk b = false := by rw [bookOk_iff, namesB_eq, h]; simp
theorem implOk_4 {b : Book} (h : ascB (namesOf b.batches) = false) : bookOk b = false := by rw [bookOk_iff, namesB_eq, h]; simp
theorem implOk_5 {b : Book} {i : Nat} (hi : i < b.batches.length) (h : (namesOk (b.at i).needs b.things && namesOk (b.at i).has (b.at i).needs) = false) : bookOk b = false := by
 rw [bookOk_iff]; unfold restOk; rw [allLt_no (p := fun i => namesOk (b.at i).needs b.things && namesOk (b.at i).has (b.at i).needs) hi h]; simp
theorem implOk_6 {b : Book} (h1 : thingsOk b.things = true) (h2 : b.batches.length ≤ 5) (h3 : allNames (namesOf b.batches) = true) (h4 : ascB (namesOf b.batches) = true)
  (h5 : ∀ i, i < b.batches.length → (namesOk (b.at i).needs b.things && namesOk (b.at i).has (b.at i).needs) = true) : bookOk b = onceB b.batches := by
 rw [bookOk_iff, namesB_eq, h1, h3, h4]; unfold restOk; rw [allLt_of h5]; simp [h2]
set_option maxHeartbeats 1000000 in
theorem implBookOk_any (b : Book) (a1 a2 : Option Addr) (c1 c2 : Nat) (w : World) (hb : BookAt w a1 a2 b) :
  Calls Qry.prog 17 #[.agg #[.slice a1 b.things.length c1, .slice a2 b.batches.length c2]] w fun e w' =>
   e = .returned (.bool (bookOk b)) ∧ Ext w w' := by
 have hal : ∀ o, Ext w (w.alloc o) := fun o => (Below.refl _ _).alloc (Nat.le_refl _) _
 obtain ⟨ht, hbs⟩ := hb
 have hn := hbs.1
 cases hth : thingsOk b.things
 ·have HF : Hid (bookOk b = false) := implOk_1 hth
  go_enter Qry.func17, Tryz.ntmps17
  go_wp2_with fail
  refine (implThingsOk_any _ _ _ _ (ht.ext (hal _))).mono ?_
  rintro e w1 ⟨rfl, hext⟩
  have HE := hid (Ext.tr (hal _) hext)
  clear hext
  go_wp2_with fail
  go_ret
  exact ⟨ret_bool HF.out.symm, HE.out⟩
 ·by_cases h5 : b.batches.length ≤ 5
  ·go_enter Qry.func17, Tryz.ntmps17
   go_wp2_with fail
   refine (implThingsOk_any _ _ _ _ (ht.ext (hal _))).mono ?_
   rintro e w1 ⟨rfl, hext⟩
   have hx0 := box_cell hext (i := 0) rfl
   have hx1 := box_cell hext (i := 1) rfl
   have HE0 := hid hext
   clear hext
   go_wp2_with fail
   refine (batchNames_any _ _ _ _ (hbs.ext (Ext.tr (hal _) HE0.out))).mono ?_
   rintro e w2 ⟨an, cn, rfl, hext2, hnames⟩
   have HE2 := hid (Ext.tr HE0.out hext2)
   clear hx0 hx1
   have hx0 := box_cell HE2.out (i := 0) rfl
   have hx1 := box_cell HE2.out (i := 1) rfl
   clear hext2
   cases hnm : allNames (namesOf b.batches)
   ·have HF : Hid (bookOk b = false) := implOk_3 hnm
    go_wp2_with fail
    refine (areNames_any _ _ _ _ hnames).mono ?_
    rintro e w3 ⟨rfl, hext3⟩
    have HE3 := hid (Ext.tr HE2.out hext3)
    clear hext3
    go_wp2_with fail
    go_ret
    exact ⟨ret_bool HF.out.symm, Ext.tr (hal _) HE3.out⟩
   ·go_wp2_with fail
    refine (areNames_any _ _ _ _ hnames).mono ?_
    rintro e w3 ⟨rfl, hext3⟩
    have HE3 := hid (Ext.tr HE2.out hext3)
    have hnames3 := hnames.ext hext3
    clear hext3 hx0 hx1 hnames
    have hx0 := box_cell HE3.out (i := 0) rfl
    have hx1 := box_cell HE3.out (i := 1) rfl
    cases has : ascB (namesOf b.batches)
    ·have HF : Hid (bookOk b = false) := implOk_4 has
     go_wp2_with fail
     refine (ascending_any _ _ _ _ hnames3).mono ?_
     rintro e w4 ⟨rfl, n4, rfl⟩
     go_wp2_with fail
     go_ret
     exact ⟨ret_bool HF.out.symm, Ext.tr (hal _) (Ext.tr HE3.out (ext_drewN _ _))⟩
    ·go_wp2_with fail
     refine (ascending_any _ _ _ _ hnames3).mono ?_
     rintro e w4 ⟨rfl, hd4⟩
     have HE4 := hid (Ext.tr HE3.out (draws_ext hd4))
     clear hd4 hx0 hx1 hnames3
     have hx0 := box_cell HE4.out (i := 0) rfl
     have hx1 := box_cell HE4.out (i := 1) rfl
     go_wp2_with fail
     go_loopw [32] (fun i wr => ∃ k : Nat, k ≤ b.batches.length ∧ i = .int .i64 k ∧ Ext (w.alloc (.cells #[.slice a1 b.things.length c1, .slice a2 b.batches.length c2] 26)) wr ∧ ∀ j, j < k → (namesOk (b.at j).needs b.things && namesOk (b.at j).has (b.at j).needs) = true) (fun i _ => b.batches.length - (intOf i).toNat)
     case atStart => exact ⟨0, Nat.zero_le _, rfl, HE4.out, fun j hj => by omega⟩
     case round =>
      obtain ⟨k, hk, rfl, hext, hx⟩ := hrel
      clear hx0 hx1
      have hx0 := box_cell hext (i := 0) rfl
      have hx1 := box_cell hext (i := 1) rfl
      have ht' := ht.ext (Ext.tr (hal _) hext)
      have hbs' := hbs.ext (Ext.tr (hal _) hext)
      have HX := hid hx
      have HE := hid hext
      clear hx hext
      by_cases hlt : k < b.batches.length
      ·obtain ⟨ba, oa, rfl, hl, d1, g1, d2, g2, p0, p1, p2, s1, s2⟩ := hbs'.2 k hlt
       have hx0' : ∀ o, (wr.alloc o).cell? ⟨w.heap.size, 0, none⟩ = some (.slice a1 b.things.length c1) := fun o => (ext_alloc _ _).keep hx0
       cases hq : (namesOk (nthB b.batches k).needs b.things && namesOk (nthB b.batches k).has (nthB b.batches k).needs)
       ·have HF : Hid (bookOk b = false) := implOk_5 hlt hq
        go_wp2_with fail
        refine (implBatchOk_any (nthB b.batches k) _ _ _ _ _ _ _ _ (s1.ext (ext_alloc _ _)) (s2.ext (ext_alloc _ _)) (ht'.ext (ext_alloc _ _))).mono ?_
        rintro e w5 ⟨rfl, hext5⟩
        have HE5 := hid (Ext.tr HE.out (Ext.tr (ext_alloc _ _) hext5))
        clear hext5
        rw [hq]
        go_wp2
        go_ret
        exact ⟨ret_bool HF.out.symm, Ext.tr (hal _) HE5.out⟩
       ·have HQ := hid hq
        go_wp2_with fail
        refine (implBatchOk_any (nthB b.batches k) _ _ _ _ _ _ _ _ (s1.ext (ext_alloc _ _)) (s2.ext (ext_alloc _ _)) (ht'.ext (ext_alloc _ _))).mono ?_
        rintro e w5 ⟨rfl, hext5⟩
        have HE5 := hid (Ext.tr HE.out (Ext.tr (ext_alloc _ _) hext5))
        clear hext5
        rw [hq]
        clear hq
        go_wp2
        go_roundw
        case rel => exact ⟨k + 1, by omega, by go_num, HE5.out, fun j hj => by
         by_cases e : j = k
         ·rw [e]; exact HQ.out
         ·exact HX.out j (by omega)⟩
        case measure => simp [intOf]; omega
      ·have HF : Hid (bookOk b = onceB b.batches) := implOk_6 hth h5 hnm has (fun j hj => HX.out j (by omega))
       go_wp2_with fail
       refine (holders_any _ _ _ _ hbs' h5).mono ?_
       rintro e w5 ⟨hext5, (⟨rfl, ho⟩ | ⟨B, rfl, ho, _⟩)⟩
       ·have HE5 := hid (Ext.tr HE.out hext5)
        have HO := hid ho
        clear hext5 ho
        go_wp2_with fail
        go_ret
        exact ⟨ret_bool (by rw [HF.out, HO.out]), Ext.tr (hal _) HE5.out⟩
       ·have HE5 := hid (Ext.tr HE.out hext5)
        have HO := hid ho
        clear hext5 ho
        go_wp2_with fail
        go_ret
        exact ⟨ret_bool (by rw [HF.out, HO.out]), Ext.tr (hal _) HE5.out⟩
  ·have HF : Hid (bookOk b = false) := bookOk_no2 h5
   go_enter Qry.func17, Tryz.ntmps17
   go_wp2_with fail
   refine (implThingsOk_any _ _ _ _ (ht.ext (hal _))).mono ?_
   rintro e w1 ⟨rfl, hext⟩
   have hx0 := box_cell hext (i := 0) rfl
   have hx1 := box_cell hext (i := 1) rfl
   have HE := hid (Ext.tr (hal _) hext)
   clear hext
   go_wp2_with fail
   go_ret
   exact ⟨ret_bool HF.out.symm, HE.out⟩
end
section
open Go.RowKit Go.Maps
attribute [local go_sem] S_toList S_size S_get
def whoFrom : List Batch → Str → Str
 | [], _ => []
 | x :: r, t => if hasB x.has t then x.name else whoFrom r t
def whoOf (b : Book) (t : Str) : Str := if bookOk b then whoFrom b.batches t else []
theorem nthB_cons (x : Batch) (r : List Batch) (k : Nat) : nthB (x :: r) (k + 1) = nthB r k := by simp [nthB]
theorem nthB_zero (x : Batch) (r : List Batch) : nthB (x :: r) 0 = x := by simp [nthB]
theorem whoFrom_at : ∀ {bs : List Batch} {t : Str} {k : Nat}, k < bs.length → hasB (nthB bs k).has t = true → (∀ j, j < k → hasB (nthB bs j).has t = false) → whoFrom bs t = (nthB bs k).name
 | [], _, _, h, _, _ => by simp at h
 | x :: r, t, 0, _, h, _ => by
  rw [nthB_zero] at *
  simp [whoFrom, h]
 | x :: r, t, k + 1, hk, h, hn => by
  have h0 := hn 0 (by omega)
  rw [nthB_zero] at h0
  rw [nthB_cons] at *
  simp only [whoFrom, h0, Bool.false_eq_true, if_false]
  exact whoFrom_at (by simpa using hk) h (fun j hj => by have := hn (j + 1) (by omega); rwa [nthB_cons] at this)
theorem whoFrom_no : ∀ {bs : List Batch} {t : Str}, (∀ j, j < bs.length → hasB (nthB bs j).has t = false) → whoFrom bs t = []
 | [], _, _ => rfl
 | x :: r, t, hn => by
  have h0 := hn 0 (by simp)
  rw [nthB_zero] at h0
  simp only [whoFrom, h0, Bool.false_eq_true, if_false]
  exact whoFrom_no (fun j hj => by have := hn (j + 1) (by simpa using hj); rwa [nthB_cons] at this)
theorem ok_apart {b : Book} (h : bookOk b = true) {p q : Nat} (hp : p < b.batches.length) (hq : q < p) {t : Str} (h1 : t ∈ (nthB b.batches p).has) (h2 : t ∈ (nthB b.batches q).has) : False := by
 unfold bookOk at h
 simp only [Bool.and_eq_true, allLt_true] at h
 have h3 := (h.2 p hp).2 q hq
 simp only [Bool.not_eq_true'] at h3
 exact shareB_false.1 h3 t h1 h2
theorem ok_five {b : Book} (h : bookOk b = true) : b.batches.length ≤ 5 := by
 unfold bookOk at h
 simp only [Bool.and_eq_true, decide_eq_true_eq] at h
 exact h.1.2
theorem ok_once {b : Book} (h : bookOk b = true) : onceB b.batches = true := by
 rw [bookOk_iff] at h
 simp only [Bool.and_eq_true] at h
 exact h.2
theorem who_unique {b : Book} (h : bookOk b = true) {p : Nat} (hp : p < b.batches.length) {t : Str} (h1 : t ∈ (nthB b.batches p).has) : whoFrom b.batches t = (nthB b.batches p).name := by
 refine whoFrom_at hp (hasB_true.2 h1) (fun j hj => ?_)
 rw [← Bool.not_eq_true, hasB_true]
 exact fun h2 => ok_apart h hp hj h1 h2
theorem lit_inj {D : DataW Unit} {p c : Int} (h : D = .lit (.int .i64 p)) (k : D = .lit (.int .i64 c)) : c = p := by
 rw [h] at k
 injection k with k
 injection k with _ k
 exact k.symm
theorem ret_str {a b : Str} (h : a = b) : Ending.returned (.string (S a)) = .returned (.string (S b)) := by rw [h]
end
section
def bitsTo (list things : List Str) : Nat → Nat
 | 0 => 0
 | k + 1 => bitsTo list things k + (if hasB list (nth things k) then 2 ^ k else 0)
def bitsN (list things : List Str) : Nat := bitsTo list things things.length
theorem bitsTo_lt (list things : List Str) : ∀ k, bitsTo list things k < 2 ^ k
 | 0 => by simp [bitsTo]
 | k + 1 => by
  have ih := bitsTo_lt list things k
  rw [bitsTo, Nat.pow_succ]; split <;> omega
theorem bitsTo_bit (list things : List Str) : ∀ k j, (bitsTo list things k).testBit j = (decide (j < k) && hasB list (nth things j))
 | 0, j => by simp [bitsTo]
 | k + 1, j => by
  have ih := bitsTo_bit list things k j
  have hlt := bitsTo_lt list things k
  rw [bitsTo]
  by_cases hb : hasB list (nth things k) = true
  ·rw [if_pos hb, Nat.add_comm]
   by_cases e : j = k
   ·subst e
    rw [Nat.testBit_two_pow_add_eq, ih]
    simp [hb]
   ·by_cases h : j < k
    ·rw [Nat.testBit_two_pow_add_gt h, ih]
     have : j < k + 1 := by omega
     simp [h, this]
    ·have h2 : 2 ^ k + bitsTo list things k < 2 ^ j := by
      have : 2 ^ (k + 1) ≤ 2 ^ j := Nat.pow_le_pow_right (by omega) (by omega)
      rw [Nat.pow_succ] at this; omega
     rw [Nat.testBit_lt_two_pow h2]
     have : ¬ j < k + 1 := by omega
     simp [this]
  ·rw [if_neg hb, Nat.add_zero, ih]
   by_cases e : j = k
   ·subst e
    simp at hb
    simp [hb]
   ·have : decide (j < k + 1) = decide (j < k) := by rw [Bool.eq_iff_iff]; simp; omega
    rw [this]
theorem bitsN_bit (list things : List Str) (j : Nat) : (bitsN list things).testBit j = (decide (j < things.length) && hasB list (nth things j)) := bitsTo_bit list things things.length j
end
section
open Go.RowKit
attribute [local go_sem] S_toList S_size S_get
theorem wrapU {x : Int} (h0 : 0 ≤ x) (h1 : x < 65536) : IntKind.u64.wrap x = x := by rw [IntKind.wrap_u64]; omega
theorem pow_small {k : Nat} (h : k ≤ 8) : (2 : Nat) ^ k ≤ 256 := Nat.pow_le_pow_right (n := 2) (by omega) h
theorem sum_wrap {x k : Nat} (h : k ≤ 8) (hx : x < 2 ^ k) : IntKind.u64.wrap ((x : Int) + IntKind.u64.wrap (2 ^ k)) = ((x + 2 ^ k : Nat) : Int) := by
 have hp := pow_small h
 have e : ((2 : Int) ^ k) = ((2 ^ k : Nat) : Int) := by simp
 have h1 : IntKind.u64.wrap ((2 ^ k : Nat) : Int) = ((2 ^ k : Nat) : Int) := wrapU (by omega) (by omega)
 rw [e, h1, wrapU (by omega) (by omega)]
 omega
set_option maxHeartbeats 400000 in
theorem bitsOf_any (a b : Option Addr) (ca cb : Nat) (sa sb : List Str) (w : World) (ha : StrsAt w a sa) (hb : StrsAt w b sb) (h8 : sb.length ≤ 8) :
  Calls Qry.prog 90 #[.slice a sa.length ca, .slice b sb.length cb] w fun e w' => e = .returned (.int .u64 (bitsN sa sb : Nat)) ∧ w' = w := by
 go_enter Qry.func90, Tryz.ntmps90
 go_wp2
 go_loop [5, 10] (fun s i => ∃ k : Nat, k ≤ sb.length ∧ i = .int .i64 k ∧ s = .int .u64 (bitsTo sa sb k : Nat)) (fun _ i => sb.length - (intOf i).toNat)
 case atStart => exact ⟨0, Nat.zero_le _, rfl, rfl⟩
 case round =>
  obtain ⟨k, hk, rfl, rfl⟩ := hrel
  by_cases hlt : k < sb.length
  ·obtain ⟨_, bb, ob, rfl, hc⟩ := hb.2 k hlt
   have hlo := bitsTo_lt sa sb k
   cases hq : hasB sa (nth sb k)
   ·have HQ : Hid (bitsTo sa sb (k + 1) = bitsTo sa sb k) := by show _ = _; rw [bitsTo, hq]; simp
    go_wp2_with (go_at_call 110; refine (slicesContains_any _ _ _ _ _ ha).mono ?_; rintro e w' ⟨rfl, rfl⟩)
    go_round
    case rel => exact ⟨k + 1, by omega, by go_num, by rw [HQ.out]⟩
    case measure => simp [intOf]; omega
   ·have HQ : Hid (bitsTo sa sb (k + 1) = bitsTo sa sb k + 2 ^ k) := by show _ = _; rw [bitsTo, hq]; simp
    go_wp2_with (go_at_call 110; refine (slicesContains_any _ _ _ _ _ ha).mono ?_; rintro e w' ⟨rfl, rfl⟩)
    go_round
    case rel => exact ⟨k + 1, by omega, by go_num, by rw [HQ.out, sum_wrap (by omega) hlo]⟩
    case measure => simp [intOf]; omega
  ·have e : Hid (bitsTo sa sb k = bitsN sa sb) := by
    have : k = sb.length := by omega
    show _ = _; rw [this]; rfl
   go_wp2
   go_ret
   exact ⟨by rw [← e.out]; rfl, rfl⟩
end
section
open Go.RowKit
def bnth (l : List Nat) (i : Nat) : Nat := l.getD i 0
def gnth (l : List Bool) (i : Nat) : Bool := l.getD i false
def goingCells (vh vn : Value) (bg n free : Nat) (j : Nat) : Value :=
 match j with
 | 0 => vh
 | 1 => vn
 | 2 => .slice (some ⟨bg, 0, none⟩) n n
 | _ => .int .u64 (free : Int)
structure GoingAt (w : World) (base g bg : Nat) (vh vn : Value) (has needs : List Nat) (gone : List Bool) (free : Nat) : Prop where
 cells : w.rowIs g 127 4 (goingCells vh vn bg gone.length free)
 row : w.rowIs bg 4 gone.length (fun i => .bool (gnth gone i))
 hrow : w.ownsRow base 123 1 vh has.length (has.map fun x : Nat => .int .u64 (x : Int))
 nrow : w.ownsRow base 123 1 vn needs.length (needs.map fun x : Nat => .int .u64 (x : Int))
 hg : g < base
 hbg : bg < base
 ne : g ≠ bg
theorem own_bits {w : World} {base : Nat} {v : Value} {l : List Nat} (h : w.ownsRow base 123 1 v l.length (l.map fun x : Nat => .int .u64 (x : Int))) {i : Nat} (hi : i < l.length) :
  ∃ b cap, v = .slice (some ⟨b, 0, none⟩) l.length cap ∧ base ≤ b ∧ w.cell? ⟨b, i, none⟩ = some (.int .u64 (bnth l i : Int)) := by
 rcases h.2 with ⟨rfl, h0⟩ | ⟨g, cap, cur, rfl, hb, hg, hc, hm, hs, ht⟩
 ·omega
 ·refine ⟨g, cap, rfl, hb, ?_⟩
  have hx : (l.map fun x : Nat => Value.int .u64 (x : Int))[i]? = some (.int .u64 (bnth l i : Int)) := by
   rw [List.getElem?_map, List.getElem?_eq_getElem hi]; simp [bnth, List.getD_eq_getElem?_getD, hi]
  rw [← ht] at hx
  have hi2 : cur.toList[i]? = some (.int .u64 (bnth l i : Int)) := by
   rw [List.getElem?_take] at hx
   split at hx
   ·exact hx
   ·simp at hx
  have hi3 : cur[i]? = some (.int .u64 (bnth l i : Int)) := by rw [← Array.getElem?_toList]; exact hi2
  unfold World.cell?
  simp only [hg]
  exact hi3
def bsub (a c : Nat) : Bool := (a &&& (18446744073709551615 - c)) == 0
theorem bsub_eq {a f h : Nat} (ha : a < 1024) (hf : f < 1024) (hh : h < 1024) : (bits BinOp.andNot .u64 (a : Int) ((f : Int) + (h : Int)) == 0) = bsub a (f + h) := by
 have e : ((f : Int) + (h : Int)) = ((f + h : Nat) : Int) := by omega
 rw [e, u64_andNot_nat a (f + h) (by omega) (by omega)]
 unfold bsub
 rw [Bool.eq_iff_iff, beq_iff_eq, beq_iff_eq]
 omega
theorem bsub_iff {a c : Nat} (hac : a < 2048) (hc : c < 2048) : bsub a c = true ↔ ∀ j, a.testBit j = true → c.testBit j = true := by
 unfold bsub
 rw [beq_iff_eq]
 have e : 18446744073709551615 - c = 2 ^ 64 - (c + 1) := by omega
 have hb : ∀ j, (2 ^ 64 - (c + 1)).testBit j = (decide (j < 64) && !c.testBit j) := fun j => Nat.testBit_two_pow_sub_succ (by omega) j
 rw [e]
 constructor
 ·intro h j hj
  by_cases h64 : j < 64
  ·have := congrArg (fun x => x.testBit j) h
   simp only [Nat.testBit_and, Nat.zero_testBit, hj, hb, h64, decide_true, Bool.true_and] at this
   simpa using this
  ·exfalso
   have h2 : a < 2 ^ j := Nat.lt_of_lt_of_le hac (Nat.pow_le_pow_right (n := 2) (by omega) (show 11 ≤ j by omega))
   rw [Nat.testBit_lt_two_pow h2] at hj
   cases hj
 ·intro h
  apply Nat.eq_of_testBit_eq
  intro j
  rw [Nat.testBit_and, hb, Nat.zero_testBit]
  cases ha : a.testBit j
  ·simp
  ·simp [h j ha]
set_option maxHeartbeats 400000 in
theorem canGo_any (w : World) (base g bg : Nat) (vh vn : Value) (has needs : List Nat) (gone : List Bool) (free p : Nat) (hst : GoingAt w base g bg vh vn has needs gone free)
  (h1 : p < has.length) (h2 : p < needs.length) (h3 : p < gone.length) (hf : free < 1024) (hh : bnth has p < 1024) (hd : bnth needs p < 1024) :
  Calls Qry.prog 64 #[.pointer (some ⟨g, 0, none⟩), .int .i64 (p : Int)] w fun e w' => e = .returned (.bool (!gnth gone p && bsub (bnth needs p) (free + bnth has p))) ∧ ∃ n, w' = w.drewN n := by
 obtain ⟨b1, k1, rfl, _, q1⟩ := own_bits hst.hrow h1
 obtain ⟨b2, k2, rfl, _, q2⟩ := own_bits hst.nrow h2
 have c0 := hst.cells.cell (i := 0) (by omega)
 have c1 := hst.cells.cell (i := 1) (by omega)
 have c2 := hst.cells.cell (i := 2) (by omega)
 have c3 := hst.cells.cell (i := 3) (by omega)
 simp only [goingCells] at c0 c1 c2 c3
 have r := hst.row.cell h3
 have hw : IntKind.u64.wrap ((free : Int) + (bnth has p : Int)) = (free : Int) + (bnth has p : Int) := wrapU (by omega) (by omega)
 have HV := hid (bsub_eq hd hf hh)
 clear hst
 cases hgone : gnth gone p
 ·rw [hgone] at r
  go_enter Qry.func64, Tryz.ntmps64
  go_wp2
  go_quiet (fail)
  go_wp2
  go_ret
  exact ⟨ret_bool (by rw [HV.out]; rfl), _, rfl⟩
 ·rw [hgone] at r
  go_enter Qry.func64, Tryz.ntmps64
  go_wp2
  go_quiet (fail)
  go_wp2
  go_ret
  exact ⟨ret_bool rfl, _, rfl⟩
theorem rowIs_alike {w w' : World} {b : Nat} {t : TypeId} {n : Nat} {f : Nat → Value} (h : w.rowIs b t n f) (e : w'.Alike w) : w'.rowIs b t n f := h.of_block (by rw [e.1])
theorem ownsRow_alike {w w' : World} {base : Nat} {e : TypeId} {size : Nat} {v : Value} {n : Nat} {xs : List Value} (h : w.ownsRow base e size v n xs) (k : w'.Alike w) : w'.ownsRow base e size v n xs := by
 refine ⟨h.1, ?_⟩
 rcases h.2 with h2 | ⟨g, cap, cur, hv, hb, hg, r⟩
 ·exact Or.inl h2
 ·exact Or.inr ⟨g, cap, cur, hv, hb, by rw [k.1]; exact hg, r⟩
theorem ownBlock_ge {w : World} {base : Nat} {e : TypeId} {size : Nat} {v : Value} {n : Nat} {xs : List Value} (h : w.ownsRow base e size v n xs) {k : Nat} (hk : k < base) : v.ownBlock ≠ some k := fun e => by
 have := (h.lt k e).1; omega
theorem gnth_set (l : List Bool) (p i : Nat) (hp : p < l.length) : gnth (l.set p true) i = if i = p then true else gnth l i := by
 unfold gnth
 rw [List.getD_eq_getElem?_getD, List.getElem?_set]
 by_cases e : p = i
 ·subst e; simp [hp]
 ·have e' : ¬ i = p := fun h => e h.symm
  simp [e, e', List.getD_eq_getElem?_getD]
theorem GoingAt.left {w w' : World} {base g bg : Nat} {vh vn : Value} {has needs : List Nat} {gone : List Bool} {free p : Nat} (h : GoingAt w base g bg vh vn has needs gone free) (h3 : p < gone.length)
  (e : w'.Alike ((w.setCell ⟨bg, p, none⟩ (.bool true)).setCell ⟨g, 3, none⟩ (.int .u64 ((free : Int) + (bnth has p : Int))))) :
  GoingAt w' base g bg vh vn has needs (gone.set p true) (free + bnth has p) := by
 have hl : (gone.set p true).length = gone.length := by simp
 refine ⟨?_, ?_, ?_, ?_, h.hg, h.hbg, h.ne⟩
 ·refine rowIs_alike (((h.cells.setOther (a := ⟨bg, p, none⟩) h.ne _).set 3 _).congr ?_) e
  intro j hj
  rw [hl]
  match j, hj with
  | 0, _ => rfl
  | 1, _ => rfl
  | 2, _ => rfl
  | 3, _ => simp [goingCells]
 ·rw [hl]
  refine rowIs_alike ((((h.row.set p _).setOther (a := ⟨g, 3, none⟩) (Ne.symm h.ne) _)).congr ?_) e
  intro j hj
  rw [gnth_set _ _ _ h3]
  by_cases e : j = p <;> simp [e]
 ·exact ownsRow_alike (ownsRow_setCell_other (ownsRow_setCell_other h.hrow (ownBlock_ge h.hrow h.hbg) _) (ownBlock_ge h.hrow h.hg) _) e
 ·exact ownsRow_alike (ownsRow_setCell_other (ownsRow_setCell_other h.nrow (ownBlock_ge h.nrow h.hbg) _) (ownBlock_ge h.nrow h.hg) _) e
theorem GoingAt.ext {w w' : World} {base g bg : Nat} {vh vn : Value} {has needs : List Nat} {gone : List Bool} {free : Nat} (h : GoingAt w base g bg vh vn has needs gone free) (e : Ext w w') :
  GoingAt w' base g bg vh vn has needs gone free := by
 have gb : w.grownBy w' none := ⟨e.os, e.tape, e.output, e.size, fun k hk _ => e.block k hk⟩
 refine ⟨h.cells.of_block (e.block g h.cells.lt), h.row.of_block (e.block bg h.row.lt), h.hrow.kept gb ?_, h.nrow.kept gb ?_, h.hg, h.hbg, h.ne⟩
 ·cases vh.ownBlock <;> simp
 ·cases vn.ownBlock <;> simp
end
section
def bitsP (p : Nat → Bool) : Nat → Nat
 | 0 => 0
 | k + 1 => bitsP p k + (if p k then 2 ^ k else 0)
theorem bitsTo_eq (list things : List Str) : ∀ k, bitsTo list things k = bitsP (fun j => hasB list (nth things j)) k
 | 0 => rfl
 | k + 1 => by rw [bitsTo, bitsP, bitsTo_eq list things k]
theorem bitsP_lt (p : Nat → Bool) : ∀ k, bitsP p k < 2 ^ k
 | 0 => by simp [bitsP]
 | k + 1 => by
  have ih := bitsP_lt p k
  rw [bitsP, Nat.pow_succ]; split <;> omega
theorem bitsP_add {p q r : Nat → Bool} : ∀ {n : Nat}, (∀ k, k < n → p k = (q k || r k)) → (∀ k, k < n → (q k && r k) = false) → bitsP p n = bitsP q n + bitsP r n
 | 0, _, _ => rfl
 | n + 1, h1, h2 => by
  have ih := bitsP_add (n := n) (fun k hk => h1 k (by omega)) (fun k hk => h2 k (by omega))
  have e1 := h1 n (by omega)
  have e2 := h2 n (by omega)
  rw [bitsP, bitsP, bitsP, ih, e1]
  cases hq : q n <;> cases hr : r n <;> simp_all <;> omega
theorem bitsP_congr {p q : Nat → Bool} : ∀ {n : Nat}, (∀ k, k < n → p k = q k) → bitsP p n = bitsP q n
 | 0, _ => rfl
 | n + 1, h => by rw [bitsP, bitsP, bitsP_congr (n := n) (fun k hk => h k (by omega)), h n (by omega)]
theorem bitsP_bit (p : Nat → Bool) : ∀ k j, (bitsP p k).testBit j = (decide (j < k) && p j)
 | 0, j => by simp [bitsP]
 | k + 1, j => by
  have ih := bitsP_bit p k j
  have hlt := bitsP_lt p k
  rw [bitsP]
  by_cases hb : p k = true
  ·rw [if_pos hb, Nat.add_comm]
   by_cases e : j = k
   ·subst e
    rw [Nat.testBit_two_pow_add_eq, ih]
    simp [hb]
   ·by_cases h : j < k
    ·rw [Nat.testBit_two_pow_add_gt h, ih]
     have : j < k + 1 := by omega
     simp [h, this]
    ·have h2 : 2 ^ k + bitsP p k < 2 ^ j := by
      have : 2 ^ (k + 1) ≤ 2 ^ j := Nat.pow_le_pow_right (by omega) (by omega)
      rw [Nat.pow_succ] at this; omega
     rw [Nat.testBit_lt_two_pow h2]
     have : ¬ j < k + 1 := by omega
     simp [this]
  ·rw [if_neg hb, Nat.add_zero, ih]
   by_cases e : j = k
   ·subst e
    simp at hb
    simp [hb]
   ·have : decide (j < k + 1) = decide (j < k) := by rw [Bool.eq_iff_iff]; simp; omega
    rw [this]
def freeP (b : Book) (out : Nat → Bool) (k : Nat) : Bool := allLt b.batches.length (fun i => out i || !hasB (b.at i).has (nth b.things k))
def freeN (b : Book) (out : Nat → Bool) : Nat := bitsP (freeP b out) b.things.length
def hasBits (b : Book) : List Nat := b.batches.map (fun x => bitsN x.has b.things)
def needsBits (b : Book) : List Nat := b.batches.map (fun x => bitsN x.needs b.things)
theorem ok_apart2 {b : Book} (h : bookOk b = true) {p q : Nat} (hp : p < b.batches.length) (hq : q < b.batches.length) (hne : p ≠ q) {t : Str} (h1 : hasB (b.at p).has t = true) : hasB (b.at q).has t = false := by
 unfold bookOk at h
 simp only [Bool.and_eq_true, allLt_true] at h
 rw [← Bool.not_eq_true, hasB_true]
 rw [hasB_true] at h1
 intro h2
 by_cases hlt : q < p
 ·have h3 := (h.2 p hp).2 q hlt
  simp only [Bool.not_eq_true'] at h3
  exact shareB_false.1 h3 t h1 h2
 ·have h3 := (h.2 q hq).2 p (by omega)
  simp only [Bool.not_eq_true'] at h3
  exact shareB_false.1 h3 t h2 h1
def putOut (out : Nat → Bool) (p : Nat) : Nat → Bool := fun j => if j = p then true else out j
theorem freeP_put {b : Book} (h : bookOk b = true) {out : Nat → Bool} {p : Nat} (hp : p < b.batches.length) (ho : out p = false) (k : Nat) :
  freeP b (putOut out p) k = (freeP b out k || hasB (b.at p).has (nth b.things k)) ∧ (freeP b out k && hasB (b.at p).has (nth b.things k)) = false := by
 constructor
 ·rw [Bool.eq_iff_iff, Bool.or_eq_true]
  unfold freeP
  rw [allLt_true, allLt_true]
  constructor
  ·intro hh
   cases hb : hasB (b.at p).has (nth b.things k)
   ·refine Or.inl (fun i hi => ?_)
    by_cases e : i = p
    ·subst e; simp [hb]
    ·have := hh i hi
     simpa [putOut, e] using this
   ·exact Or.inr rfl
  ·rintro (hh | hb) i hi
   ·by_cases e : i = p
    ·simp [putOut, e]
    ·simpa [putOut, e] using hh i hi
   ·by_cases e : i = p
    ·simp [putOut, e]
    ·simp [ok_apart2 h hp hi (fun k => e k.symm) hb]
 ·cases hb : hasB (b.at p).has (nth b.things k)
  ·simp
  ·have : freeP b out k = false := allLt_no hp (by simp [ho, hb])
   simp [this]
theorem freeN_put {b : Book} (h : bookOk b = true) {out : Nat → Bool} {p : Nat} (hp : p < b.batches.length) (ho : out p = false) : freeN b (putOut out p) = freeN b out + bitsN (b.at p).has b.things := by
 unfold freeN bitsN
 rw [bitsTo_eq]
 exact bitsP_add (fun k _ => (freeP_put h hp ho k).1) (fun k _ => (freeP_put h hp ho k).2)
theorem freeN_congr {b : Book} {o1 o2 : Nat → Bool} (h : ∀ i, i < b.batches.length → o1 i = o2 i) : freeN b o1 = freeN b o2 := by
 unfold freeN
 refine bitsP_congr (fun k _ => ?_)
 unfold freeP
 exact allLt_congr (fun i hi => by rw [h i hi])
theorem freeN_all (b : Book) : freeN b (fun _ => true) = bitsN b.things b.things := by
 unfold freeN bitsN
 rw [bitsTo_eq]
 refine bitsP_congr (fun k hk => ?_)
 have h1 : freeP b (fun _ => true) k = true := allLt_of (fun i _ => rfl)
 rw [h1, hasB_of hk (by simp)]
theorem needs_in {b : Book} (h : bookOk b = true) {p : Nat} (hp : p < b.batches.length) {x : Str} (hx : x ∈ (b.at p).needs) : x ∈ b.things := by
 unfold bookOk at h
 simp only [Bool.and_eq_true, allLt_true, batchOk] at h
 have h3 := (h.2 p hp).1.1.2
 unfold namesOk at h3
 rw [allLt_true] at h3
 obtain ⟨i, hi, e⟩ := List.getElem_of_mem hx
 have := h3 i hi
 rw [Bool.and_eq_true, hasB_true, nth_get hi, e] at this
 exact this.1
theorem can_bits {b : Book} (h : bookOk b = true) {gone : List Str} {p : Nat} (hp : p < b.batches.length) :
  canB b p gone = true ↔ ∀ j, (bitsN (b.at p).needs b.things).testBit j = true → (freeN b (putOut (fun i => hasB gone (b.at i).name) p)).testBit j = true := by
 unfold canB
 rw [allLt_true]
 constructor
 ·intro hc j hj
  rw [bitsN_bit, Bool.and_eq_true, decide_eq_true_eq] at hj
  unfold freeN
  rw [bitsP_bit, Bool.and_eq_true, decide_eq_true_eq]
  refine ⟨hj.1, allLt_of (fun i hi => ?_)⟩
  have := hc i hi
  unfold clash at this
  by_cases e : i = p
  ·simp [putOut, e]
  ·cases hg : hasB gone (b.at i).name
   ·simp only [e, hg, decide_false, Bool.not_false, Bool.true_and, Bool.not_eq_true'] at this
    have hs := shareB_false.1 this
    have : hasB (b.at i).has (nth b.things j) = false := by
     rw [← Bool.not_eq_true, hasB_true]
     exact fun h1 => hs _ h1 (hasB_true.1 hj.2)
    simp [this]
   ·simp [putOut, e, hg]
 ·intro hb i hi
  unfold clash
  by_cases e : i = p
  ·simp [e]
  ·cases hg : hasB gone (b.at i).name
   ·have hs : shareB (b.at i).has (b.at p).needs = false := by
     rw [shareB_false]
     intro x hx hn
     obtain ⟨j, hj, ej⟩ := List.getElem_of_mem (needs_in h hp hn)
     have h1 := hb j (by
      rw [bitsN_bit, nth_get hj, ej]
      simp [hj, hasB_true.2 hn])
     unfold freeN at h1
     rw [bitsP_bit, Bool.and_eq_true] at h1
     have h2 := allLt_true.1 h1.2 i hi
     rw [nth_get hj, ej, hasB_true.2 hx] at h2
     simp [putOut, e, hg] at h2
    simp [hs]
   ·simp
end
section
open Go.RowKit
def Grow (w : World) : Type := { w' : World // Ext w w' }
def Grow.w {w : World} (x : Grow w) : World := x.1
def InGrow (w w' : World) : Prop := ∃ x : Grow w, w' = x.w
end
end Go.Proofs.YtdafpnpfcmgfcaaGreatDoor
