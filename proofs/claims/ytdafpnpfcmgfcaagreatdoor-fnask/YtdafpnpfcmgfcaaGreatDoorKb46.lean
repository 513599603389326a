/- The walk over the law's wWith: a book in which somebody has things, too. -/
import Derived.Test.YtdafpnpfcmgfcaaGreatDoorKb33
import Derived.Test.YtdafpnpfcmgfcaaGreatDoorKb26
import Derived.Test.YtdafpnpfcmgfcaaGreatDoorKb45
namespace Go.Proofs.YtdafpnpfcmgfcaaGreatDoor
open Go.RowKit
attribute [local go_sem] S_toList S_size S_get
section
variable {P : Program} {ops : Array Oper} {Q : Exit → Act → World → Prop} {md : Region.Mode} {S : World → Prop} {z : Nat}
theorem wpT_skipN (i : Nat) {oi : Oper} {fuel d : Nat} {listed : Array Bool} {l : List Value} {df : List Deferred} {w : World} (hi : ops[i]? = some oi) (hd : oi.dst = some d)
  (hs : Region.noSelect ops = true) (hz : decide (ops.size ≤ z) = true) (hf : Region.free md ops listed i = true) (hr : (Region.ready md ops listed).contains i = true)
  (hQ : ∀ c a w, Q (.panic c) (a.put (some d) undef) w → Q (.panic c) a w) (hS : S w) (hw : Region.wanted oi (yielded ops l.toArray) = false)
  (h : wpT P md ops Q S z fuel (listed.setIfInBounds i true) { tmps := (l.set d undef).toArray, defers := df } w) : wpT P md ops Q S z (fuel + 1) listed { tmps := l.toArray, defers := df } w :=
 wpT_firstN hi (Region.noSelect_spec hs) (by rw [hd]; exact hQ) (of_decide_eq_true hz) fuel listed _ w (Region.free_spec hi hf) (by simpa using hr) (Or.inr ⟨hw, rfl⟩) hS (by rw [hd]; simpa [Act.put] using h)
end
def withN (y : Batch) (things : List Str) : List Str := y.needs.filter (fun t => hasB y.has t || hasB things t)
def withX (n : Str) (things : List Str) (y : Batch) : Batch := if (y.name == n) = true then ⟨n, withN y things, y.needs⟩ else y
def withB (b : Book) (n : Str) (things : List Str) : Book := ⟨b.things, b.batches.map (withX n things)⟩
theorem take_filter {p : Str → Bool} {l : List Str} {j : Nat} (h : j < l.length) : (l.take (j + 1)).filter p = if p (nth l j) = true then (l.take j).filter p ++ [nth l j] else (l.take j).filter p := by
 rw [List.take_succ_eq_append_getElem h, List.filter_append, nth_get h]
 cases hp : p l[j] <;> simp [hp]
theorem filter_short {p : Str → Bool} {l : List Str} (h : ShortS l) : ShortS (l.filter p) :=
 ⟨Nat.le_trans (List.length_filter_le _ _) h.1, short_iff.2 fun x hx => short_iff.1 h.2 x (List.mem_filter.1 hx).1⟩
theorem take_map {f : Batch → Batch} {bs : List Batch} {k : Nat} (h : k < bs.length) : (bs.take (k + 1)).map f = (bs.take k).map f ++ [f (nthB bs k)] := by
 rw [take_bs h, List.map_append]; rfl
set_option maxRecDepth 100000 in
set_option maxHeartbeats 2000000 in
theorem wWith_any (b : Book) (n : Str) (things : List Str) (a1 a2 a3 : Option Addr) (c1 c2 c3 : Nat) (w : World) (hb : BookAt w a1 a2 b) (ht : StrsAt w a3 things) (hnl : n.length ≤ 140737488355328) :
  Calls Qry.prog 26 #[.agg #[.slice a1 b.things.length c1, .slice a2 b.batches.length c2], .string (S n), .slice a3 things.length c3] w fun e w' =>
   ∃ x2 y2, e = .returned (.agg #[.slice a1 b.things.length c1, .slice x2 b.batches.length y2]) ∧ Ext w w' ∧ BookAt w' a1 x2 (withB b n things) := by
 have hn := hb.2.1
 have e2 : ∀ o1 o2, Ext w ((w.alloc o1).alloc o2) := fun o1 o2 => ((Below.refl _ _).alloc (Nat.le_refl _) _).alloc (by simp) _
 have HR0 : Hid (Rec ((w.alloc (.cells #[.slice a1 b.things.length c1, .slice a2 b.batches.length c2] 26)).alloc (.cells #[.slice none 0 0, .slice none 0 0] 26)) w.heap.size 26 [.slice a1 b.things.length c1, .slice a2 b.batches.length c2]) := (Rec.new w _ _).ext (ext_alloc _ _)
 have HR2 : Hid (Rec ((w.alloc (.cells #[.slice a1 b.things.length c1, .slice a2 b.batches.length c2] 26)).alloc (.cells #[.slice none 0 0, .slice none 0 0] 26)) (w.heap.size + 1) 26 [.slice none 0 0, .slice none 0 0]) := by
  have h := Rec.new (w.alloc (.cells #[.slice a1 b.things.length c1, .slice a2 b.batches.length c2] 26)) 26 [.slice none 0 0, .slice none 0 0]
  have h' : Rec ((w.alloc (.cells #[.slice a1 b.things.length c1, .slice a2 b.batches.length c2] 26)).alloc (.cells #[.slice none 0 0, .slice none 0 0] 26)) (w.heap.size + 1) 26 [.slice none 0 0, .slice none 0 0] := by simpa using h
  exact h'
 have HE := hid (e2 (.cells #[.slice a1 b.things.length c1, .slice a2 b.batches.length c2] 26) (.cells #[.slice none 0 0, .slice none 0 0] 26))
 have hx0 := HR0.out.cell (i := 0) rfl
 have hx1 := HR0.out.cell (i := 1) rfl
 have hz1 : ((w.alloc (.cells #[.slice a1 b.things.length c1, .slice a2 b.batches.length c2] 26)).alloc (.cells #[.slice none 0 0, .slice none 0 0] 26)).heap.size = w.heap.size + 2 := by simp
 go_enter Qry.func26, Tryz.ntmps26
 go_wp2_with fail
 generalize (w.alloc (.cells #[.slice a1 b.things.length c1, .slice a2 b.batches.length c2] 26)).alloc (.cells #[.slice none 0 0, .slice none 0 0] 26) = w1 at *
 have HRX : Hid (Rec (w1.alloc (.cells #[.slice a1 b.things.length c1, .slice none 0 0] 26)) (w.heap.size + 2) 26 [.slice a1 b.things.length c1, .slice none 0 0]) := by
  have h := Rec.new w1 26 [.slice a1 b.things.length c1, .slice none 0 0]
  rw [hz1] at h
  exact h
 have HB1 : Hid (Below (w.heap.size + 2) w1 (w1.alloc (.cells #[.slice a1 b.things.length c1, .slice none 0 0] 26))) := by
  have h := ext_alloc w1 (.cells #[.slice a1 b.things.length c1, .slice none 0 0] 26)
  have h' : Below w1.heap.size w1 (w1.alloc (.cells #[.slice a1 b.things.length c1, .slice none 0 0] 26)) := h
  rw [hz1] at h'
  exact h'
 have hbo : ∀ k, k < b.batches.length → ∀ ba oa, a2 = some ⟨ba, oa, none⟩ → ba < w.heap.size := fun k hk ba oa e => by
  obtain ⟨_, _, e', _, _, _, _, _, q0, _⟩ := hb.2.2 k hk
  rw [e] at e'
  cases e'
  exact cell_lt q0
 have HBO := hid hbo
 clear hbo
 go_loopw [8] (fun i wr => ∃ (k : Nat) (v2 : Value), k ≤ b.batches.length ∧ i = .int .i64 k ∧ Below (w.heap.size + 2) w1 wr ∧ Rec wr (w.heap.size + 2) 26 [.slice a1 b.things.length c1, v2] ∧ BsW wr (w.heap.size + 3) w.heap.size v2 ((b.batches.take k).map (withX n things))) (fun i _ => b.batches.length - (intOf i).toNat)
 case atStart => exact ⟨0, _, Nat.zero_le _, rfl, HB1.out, HRX.out, by simpa using BsW.nil _ _ _⟩
 case round =>
  clear HRX HB1
  obtain ⟨k, v2, hk, rfl, hbel, hrec, hown⟩ := hrel
  have hEw : Ext w wr := HE.out.trans (Below.mono hbel (by omega))
  have hy1 : wr.cell? ⟨w.heap.size, 1, none⟩ = some (.slice a2 b.batches.length c2) := (hbel.cell (p := ⟨w.heap.size, 1, none⟩) (by simp)).trans hx1
  have hb' := hb.ext hEw
  have ht' := ht.ext hEw
  have HB := hid hbel
  have HR := hid hrec
  have HO := hid hown
  have HEW := hid hEw
  clear hbel hown hEw
  generalize wr = wo at *
  by_cases hlt : k < b.batches.length
  ·obtain ⟨ba, oa, rfl, hl, d1, g1, d2, g2, p0, p1, p2, s1, s2⟩ := hb'.2.2 k hlt
   obtain ⟨av, cv, rfl⟩ := HO.out.len
   have hlk : ((b.batches.take k).map (withX n things)).length = k := by simp; omega
   have hlk1 : ((b.batches.take k).map (withX n things) ++ [withX n things (nthB b.batches k)]).length = k + 1 := by rw [List.length_append, hlk]; rfl
   rw [hlk] at HO HR hrec
   have hzr := hrec.lt
   have HTM : Hid ((b.batches.take (k + 1)).map (withX n things) = (b.batches.take k).map (withX n things) ++ [withX n things (nthB b.batches k)]) := take_map hlt
   have hs1o : 0 < (nthB b.batches k).has.length → ∀ b' o', d1 = some ⟨b', o', none⟩ → b' < w.heap.size := fun h0 b' o' e => by
    obtain ⟨_, _, e', _, _, _, _, _, _, q1, q2, r1, r2⟩ := hb.2.2 k hlt
    cases e'
    have hc := (HEW.out.keep q1).symm.trans p1
    simp only [Option.some.injEq, Value.slice.injEq] at hc
    obtain ⟨rfl, _⟩ := hc
    exact r1.lt h0 b' o' e
   have hs2o : 0 < (nthB b.batches k).needs.length → ∀ b' o', d2 = some ⟨b', o', none⟩ → b' < w.heap.size := fun h0 b' o' e => by
    obtain ⟨_, _, e', _, _, _, _, _, _, q1, q2, r1, r2⟩ := hb.2.2 k hlt
    cases e'
    have hc := (HEW.out.keep q2).symm.trans p2
    simp only [Option.some.injEq, Value.slice.injEq] at hc
    obtain ⟨rfl, _⟩ := hc
    exact r2.lt h0 b' o' e
   have HL1 : Hid (LstW wo w.heap.size (.slice d1 (nthB b.batches k).has.length g1) (nthB b.batches k).has) := LstW.old s1 hs1o
   have HL2 : Hid (LstW wo w.heap.size (.slice d2 (nthB b.batches k).needs.length g2) (nthB b.batches k).needs) := LstW.old s2 hs2o
   clear hs1o hs2o
   go_upto_if 30 with fail
   go_cut [] (fun wx => ∃ hv nv, Ext wo wx ∧ Rec wx wo.heap.size 73 [.string (S (withX n things (nthB b.batches k)).name), hv, nv] ∧ LstW wx w.heap.size hv (withX n things (nthB b.batches k)).has ∧ LstW wx w.heap.size nv (withX n things (nthB b.batches k)).needs)
   case first =>
    have HRY : Hid (Rec (wo.alloc (.cells #[.string (S (nthB b.batches k).name), .slice d1 (nthB b.batches k).has.length g1, .slice d2 (nthB b.batches k).needs.length g2] 73)) wo.heap.size 73 [.string (S (nthB b.batches k).name), .slice d1 (nthB b.batches k).has.length g1, .slice d2 (nthB b.batches k).needs.length g2]) := Rec.new wo _ _
    have HEY := hid (ext_alloc wo (.cells #[.string (S (nthB b.batches k).name), .slice d1 (nthB b.batches k).has.length g1, .slice d2 (nthB b.batches k).needs.length g2] 73))
    cases hq : ((nthB b.batches k).name == n)
    ·have hwx : withX n things (nthB b.batches k) = nthB b.batches k := by simp [withX, hq]
     go_wp2_with fail
     go_meet
     rw [hwx]
     exact ⟨_, _, HEY.out, HRY.out, HL1.out.ext HEY.out, HL2.out.ext HEY.out⟩
    ·have HWX : Hid (withX n things (nthB b.batches k) = ⟨n, withN (nthB b.batches k) things, (nthB b.batches k).needs⟩) := by
      show _ = _
      simp [withX, hq]
     have hzY : (wo.alloc (.cells #[.string (S (nthB b.batches k).name), .slice d1 (nthB b.batches k).has.length g1, .slice d2 (nthB b.batches k).needs.length g2] 73)).heap.size = wo.heap.size + 1 := by simp
     go_wp2_with fail
     generalize wo.alloc (.cells #[.string (S (nthB b.batches k).name), .slice d1 (nthB b.batches k).has.length g1, .slice d2 (nthB b.batches k).needs.length g2] 73) = wY at *
     have HO0 : Hid (OwnL (wY.alloc (.cells #[] 9)) (wo.heap.size + 1) (.slice (some ⟨wo.heap.size + 1, 0, none⟩) 0 0) []) := by
      have h := OwnL.made wY (wo.heap.size + 1) (by omega)
      rw [hzY] at h
      exact h
     have HB0 : Hid (Below (wo.heap.size + 1) wY (wY.alloc (.cells #[] 9))) := Below.mono (ext_alloc wY (.cells #[] 9)) (by omega)
     have HSN := hid s2.short
     have hnb : (nthB b.batches k).needs.length ≤ 8796093022208 := HSN.out.1
     go_loopw [10, 11] (fun h i wk => ∃ (j : Nat), j ≤ (nthB b.batches k).needs.length ∧ i = .int .i64 j ∧ Below (wo.heap.size + 1) wY wk ∧ OwnL wk (wo.heap.size + 1) h (((nthB b.batches k).needs.take j).filter (fun t => hasB (nthB b.batches k).has t || hasB things t))) (fun _ i _ => (nthB b.batches k).needs.length - (intOf i).toNat)
     case atStart => exact ⟨0, Nat.zero_le _, rfl, HB0.out, by simpa using HO0.out⟩
     case round =>
      clear HO0 HB0
      obtain ⟨j, hj, rfl, hbel, hown⟩ := hrel
      have hEk : Ext wY wr := by
       show Below _ _ _
       rw [hzY]; exact hbel
      have hsk1 := s1.ext (Ext.tr HEY.out hEk)
      have hsk2 := s2.ext (Ext.tr HEY.out hEk)
      have htk := ht'.ext (Ext.tr HEY.out hEk)
      have hrk := HRY.out.ext hEk
      have k0 := hrk.cell (i := 0) rfl
      have k1 := hrk.cell (i := 1) rfl
      have k2 := hrk.cell (i := 2) rfl
      have HRK := hid hrk
      have HBK := hid hbel
      have HOK := hid hown
      have hzk : wo.heap.size + 1 ≤ wr.heap.size := by have := hEk.size; omega
      clear hrk hbel hown
      by_cases hltj : j < (nthB b.batches k).needs.length
      ·obtain ⟨hlj, bn, on, rfl, hcj⟩ := hsk2.2 j hltj
       have HLE : Hid ((((nthB b.batches k).needs.take j).filter (fun t => hasB (nthB b.batches k).has t || hasB things t)).length ≤ j) := by
        show _ ≤ _
        refine Nat.le_trans (List.length_filter_le _ _) ?_
        rw [List.length_take]; omega
       have HO1 := hid ((HOK.out.ext (ext_drewN wr 1)).ext (ext_alloc (wr.drewN 1) (.cells #[.string (S (nth (nthB b.batches k).needs j))] 9)))
       have HS1 : Hid (StrsAt ((wr.drewN 1).alloc (.cells #[.string (S (nth (nthB b.batches k).needs j))] 9)) (some ⟨wr.heap.size, 0, none⟩) [nth (nthB b.batches k).needs j]) := one_str' (wr.drewN 1) _ hlj
       cases hh : hasB (nthB b.batches k).has (nth (nthB b.batches k).needs j)
       ·cases ht2 : hasB things (nth (nthB b.batches k).needs j)
        ·have HK : Hid (((nthB b.batches k).needs.take (j + 1)).filter (fun t => hasB (nthB b.batches k).has t || hasB things t) = ((nthB b.batches k).needs.take j).filter (fun t => hasB (nthB b.batches k).has t || hasB things t)) := by
          show _ = _
          rw [take_filter hltj, hh, ht2]
          simp
         generalize ((nthB b.batches k).needs.take j).filter (fun t => hasB (nthB b.batches k).has t || hasB things t) = LL at *
         go_wp2_with fail
         refine wp_region_T (fun w' => w'.cell? ⟨wo.heap.size, 1, none⟩ = some (.slice d1 (nthB b.batches k).has.length g1) ∧ w'.cell? ⟨wo.heap.size, 2, none⟩ = some (.slice (some ⟨bn, on, none⟩) (nthB b.batches k).needs.length g2) ∧ w'.cell? ⟨bn, on + j, none⟩ = some (.string (S (nth (nthB b.batches k).needs j)))) 17 (by kernel_rfl) ⟨k1, k2, hcj⟩ (fun hS => ?_)
         refine tn 0 hS ?_
         try simp only [List.set]
         refine tn 1 hS ?_
         try simp only [List.set]
         refine tn 2 hS ?_
         try simp only [List.set]
         refine tn 3 hS ?_
         try simp only [List.set]
         refine tn 4 hS ?_
         try simp only [List.set]
         refine tn 5 hS ?_
         try simp only [List.set]
         refine tn 6 hS ?_
         try simp only [List.set]
         refine wpT_one 7 rfl (by kernel_rfl) rfl rfl (fun K hK => ?_)
         go_simp
         refine (wHas_v _ _ _ _ _ _ (hsk1.ext (ext_drewN wr 1)) hh).mono ?_
         rintro e w' ⟨rfl, rfl⟩
         go_wp2_with fail
         refine hK.out _ _ hS (fun hS1 => ?_)
         clear hK hS
         have hS := hS1
         clear hS1
         try clear K
         try simp only [put_some, List.set]
         refine tn 8 hS ?_
         try simp only [List.set]
         refine tn 9 hS ?_
         try simp only [List.set]
         refine tn 10 hS ?_
         try simp only [List.set]
         refine tn 11 hS ?_
         try simp only [List.set]
         refine tn 12 hS ?_
         try simp only [List.set]
         refine tn 13 hS ?_
         try simp only [List.set]
         refine tn 14 hS ?_
         try simp only [List.set]
         refine wpT_one 15 rfl (by kernel_rfl) rfl rfl (fun K hK => ?_)
         go_simp
         refine (wHas_v _ _ _ _ _ _ (htk.ext (ext_drewN wr 1)) ht2).mono ?_
         rintro e w' ⟨rfl, rfl⟩
         go_wp2_with fail
         refine hK.out _ _ hS (fun hS1 => ?_)
         clear hK hS
         have hS := hS1
         clear hS1
         try clear K
         try simp only [put_some, List.set]
         refine tn 16 hS ?_
         try simp only [List.set]
         refine wpT_done (by kernel_rfl) ?_ _
         clear hS
         go_wp2
         go_roundw
         case rel => exact ⟨j + 1, by omega, by go_num, HBK.out.trans (Below.mono (ext_drewN wr 1) hzk), by rw [HK.out]; exact HOK.out.ext (ext_drewN wr 1)⟩
         case measure => simp [intOf]; omega
        ·have HK : Hid (((nthB b.batches k).needs.take (j + 1)).filter (fun t => hasB (nthB b.batches k).has t || hasB things t) = ((nthB b.batches k).needs.take j).filter (fun t => hasB (nthB b.batches k).has t || hasB things t) ++ [nth (nthB b.batches k).needs j]) := by
          show _ = _
          rw [take_filter hltj, hh, ht2]
          simp
         generalize ((nthB b.batches k).needs.take j).filter (fun t => hasB (nthB b.batches k).has t || hasB things t) = LL at *
         go_wp2_with fail
         refine wp_region_T (fun w' => w'.cell? ⟨wo.heap.size, 1, none⟩ = some (.slice d1 (nthB b.batches k).has.length g1) ∧ w'.cell? ⟨wo.heap.size, 2, none⟩ = some (.slice (some ⟨bn, on, none⟩) (nthB b.batches k).needs.length g2) ∧ w'.cell? ⟨bn, on + j, none⟩ = some (.string (S (nth (nthB b.batches k).needs j)))) 17 (by kernel_rfl) ⟨k1, k2, hcj⟩ (fun hS => ?_)
         refine tn 0 hS ?_
         try simp only [List.set]
         refine tn 1 hS ?_
         try simp only [List.set]
         refine tn 2 hS ?_
         try simp only [List.set]
         refine tn 3 hS ?_
         try simp only [List.set]
         refine tn 4 hS ?_
         try simp only [List.set]
         refine tn 5 hS ?_
         try simp only [List.set]
         refine tn 6 hS ?_
         try simp only [List.set]
         refine wpT_one 7 rfl (by kernel_rfl) rfl rfl (fun K hK => ?_)
         go_simp
         refine (wHas_v _ _ _ _ _ _ (hsk1.ext (ext_drewN wr 1)) hh).mono ?_
         rintro e w' ⟨rfl, rfl⟩
         go_wp2_with fail
         refine hK.out _ _ hS (fun hS1 => ?_)
         clear hK hS
         have hS := hS1
         clear hS1
         try clear K
         try simp only [put_some, List.set]
         refine tn 8 hS ?_
         try simp only [List.set]
         refine tn 9 hS ?_
         try simp only [List.set]
         refine tn 10 hS ?_
         try simp only [List.set]
         refine tn 11 hS ?_
         try simp only [List.set]
         refine tn 12 hS ?_
         try simp only [List.set]
         refine tn 13 hS ?_
         try simp only [List.set]
         refine tn 14 hS ?_
         try simp only [List.set]
         refine wpT_one 15 rfl (by kernel_rfl) rfl rfl (fun K hK => ?_)
         go_simp
         refine (wHas_v _ _ _ _ _ _ (htk.ext (ext_drewN wr 1)) ht2).mono ?_
         rintro e w' ⟨rfl, rfl⟩
         go_wp2_with fail
         refine hK.out _ _ hS (fun hS1 => ?_)
         clear hK hS
         have hS := hS1
         clear hS1
         try clear K
         try simp only [put_some, List.set]
         refine tn 16 hS ?_
         try simp only [List.set]
         refine wpT_done (by kernel_rfl) ?_ _
         clear hS
         go_wp2_with (at_builtin; refine wpList_strs rfl _ _ rfl rfl HO1.out rfl HS1.out ?q1 ?q2 ?_)
         case q1 => have := HLE.out; have := HSN.out.1; simp; omega
         case q2 => simp; omega
         intro v' w' ho' hg' _
         have HNN := hid ho'
         have HBB : Hid (Below (wo.heap.size + 1) wY w') := (HBK.out.trans (Below.mono (Ext.tr (ext_drewN wr 1) (ext_alloc _ _)) hzk)).grown hg' (by simp; omega) (fun g hg => (HOK.out.lt g hg).1)
         clear ho' hg'
         go_wp2
         go_roundw
         case rel => exact ⟨j + 1, by omega, by go_num, HBB.out, by rw [HK.out]; exact HNN.out⟩
         case measure => simp [intOf]; omega
       ·have HK : Hid (((nthB b.batches k).needs.take (j + 1)).filter (fun t => hasB (nthB b.batches k).has t || hasB things t) = ((nthB b.batches k).needs.take j).filter (fun t => hasB (nthB b.batches k).has t || hasB things t) ++ [nth (nthB b.batches k).needs j]) := by
         show _ = _
         rw [take_filter hltj, hh]
         simp
        generalize ((nthB b.batches k).needs.take j).filter (fun t => hasB (nthB b.batches k).has t || hasB things t) = LL at *
        go_wp2_with fail
        refine wp_region_T (fun w' => w'.cell? ⟨wo.heap.size, 1, none⟩ = some (.slice d1 (nthB b.batches k).has.length g1) ∧ w'.cell? ⟨wo.heap.size, 2, none⟩ = some (.slice (some ⟨bn, on, none⟩) (nthB b.batches k).needs.length g2) ∧ w'.cell? ⟨bn, on + j, none⟩ = some (.string (S (nth (nthB b.batches k).needs j)))) 17 (by kernel_rfl) ⟨k1, k2, hcj⟩ (fun hS => ?_)
        refine tn 0 hS ?_
        try simp only [List.set]
        refine tn 1 hS ?_
        try simp only [List.set]
        refine tn 2 hS ?_
        try simp only [List.set]
        refine tn 3 hS ?_
        try simp only [List.set]
        refine tn 4 hS ?_
        try simp only [List.set]
        refine tn 5 hS ?_
        try simp only [List.set]
        refine tn 6 hS ?_
        try simp only [List.set]
        refine wpT_one 7 rfl (by kernel_rfl) rfl rfl (fun K hK => ?_)
        go_simp
        refine (wHas_v _ _ _ _ _ _ (hsk1.ext (ext_drewN wr 1)) hh).mono ?_
        rintro e w' ⟨rfl, rfl⟩
        go_wp2_with fail
        refine hK.out _ _ hS (fun hS1 => ?_)
        clear hK hS
        have hS := hS1
        clear hS1
        try clear K
        try simp only [put_some, List.set]
        refine tn 8 hS ?_
        try simp only [List.set]
        refine wpT_skipN 9 rfl rfl (by kernel_rfl) (by kernel_rfl) (by kernel_rfl) (by kernel_rfl) (fun _ _ _ h => h) hS rfl ?_
        try simp only [List.set]
        refine wpT_skipN 10 rfl rfl (by kernel_rfl) (by kernel_rfl) (by kernel_rfl) (by kernel_rfl) (fun _ _ _ h => h) hS rfl ?_
        try simp only [List.set]
        refine wpT_skipN 11 rfl rfl (by kernel_rfl) (by kernel_rfl) (by kernel_rfl) (by kernel_rfl) (fun _ _ _ h => h) hS rfl ?_
        try simp only [List.set]
        refine wpT_skipN 12 rfl rfl (by kernel_rfl) (by kernel_rfl) (by kernel_rfl) (by kernel_rfl) (fun _ _ _ h => h) hS rfl ?_
        try simp only [List.set]
        refine wpT_skipN 13 rfl rfl (by kernel_rfl) (by kernel_rfl) (by kernel_rfl) (by kernel_rfl) (fun _ _ _ h => h) hS rfl ?_
        try simp only [List.set]
        refine wpT_skipN 14 rfl rfl (by kernel_rfl) (by kernel_rfl) (by kernel_rfl) (by kernel_rfl) (fun _ _ _ h => h) hS rfl ?_
        try simp only [List.set]
        refine wpT_skipN 15 rfl rfl (by kernel_rfl) (by kernel_rfl) (by kernel_rfl) (by kernel_rfl) (fun _ _ _ h => h) hS rfl ?_
        try simp only [List.set]
        refine tn 16 hS ?_
        try simp only [List.set]
        refine wpT_done (by kernel_rfl) ?_ _
        clear hS
        go_wp2_with (at_builtin; refine wpList_strs rfl _ _ rfl rfl HO1.out rfl HS1.out ?q1 ?q2 ?_)
        case q1 => have := HLE.out; have := HSN.out.1; simp; omega
        case q2 => simp; omega
        intro v' w' ho' hg' _
        have HNN := hid ho'
        have HBB : Hid (Below (wo.heap.size + 1) wY w') := (HBK.out.trans (Below.mono (Ext.tr (ext_drewN wr 1) (ext_alloc _ _)) hzk)).grown hg' (by simp; omega) (fun g hg => (HOK.out.lt g hg).1)
        clear ho' hg'
        go_wp2
        go_roundw
        case rel => exact ⟨j + 1, by omega, by go_num, HBB.out, by rw [HK.out]; exact HNN.out⟩
        case measure => simp [intOf]; omega
      ·have e : j = (nthB b.batches k).needs.length := by omega
       subst e
       rw [List.take_length] at HOK
       obtain ⟨ah, ch, eh⟩ := own_sl HOK.out
       have HLH : Hid (LstW wr w.heap.size (.slice ah (withN (nthB b.batches k) things).length ch) (withN (nthB b.batches k) things)) := by
        have h := LstW.own (X := w.heap.size) HOK.out (filter_short HSN.out)
        rw [eh] at h
        exact h
       have hml : ((nthB b.batches k).needs.filter (fun t => hasB (nthB b.batches k).has t || hasB things t)).length = (withN (nthB b.batches k) things).length := rfl
       rw [hml] at eh
       subst eh
       generalize (withN (nthB b.batches k) things).length = lh at *
       have f0 := HRK.out.frozen 0
       have f1 := HRK.out.frozen 1
       have f2 := HRK.out.frozen 2
       have HEX : Hid (Ext wo wr) := Ext.tr HEY.out hEk
       have HL2' : Hid (LstW wr w.heap.size (.slice d2 (nthB b.batches k).needs.length g2) (nthB b.batches k).needs) := HL2.out.ext HEX.out
       clear hEk
       go_wp2
       go_meet
       rw [HWX.out]
       have e0 := HRK.out.set 0 (.string (S n))
       have e1 := e0.set 1 (.slice ah lh ch)
       have e2' := e1.set 2 (.slice d2 (nthB b.batches k).needs.length g2)
       refine ⟨.slice ah lh ch, .slice d2 (nthB b.batches k).needs.length g2, ?_, e2', ?_, ?_⟩
       ·exact ((HEX.out.setCell (by simp) _).setCell (by simp) _).setCell (by simp) _
       ·exact ((HLH.out.stored HRK.out rfl (by omega) _ _).stored e0 rfl (by omega) _ _).stored e1 rfl (by omega) _ _
       ·exact ((HL2'.out.stored HRK.out rfl (by omega) _ _).stored e0 rfl (by omega) _ _).stored e1 rfl (by omega) _ _
   case rest =>
    obtain ⟨hv, nv, hEx, hry, hlh, hln⟩ := hcut
    have hrx := HR.out.ext hEx
    have t1 := hrx.cell (i := 1) rfl
    have y0 := hry.cell (i := 0) rfl
    have y1 := hry.cell (i := 1) rfl
    have y2 := hry.cell (i := 2) rfl
    have HEX := hid hEx
    have HRX := hid hrx
    have HOX := hid ((HO.out.ext hEx).ext (ext_alloc wc (.cells #[.string (S (withX n things (nthB b.batches k)).name), hv, nv] 73)))
    have HRow : Hid (RowW (wc.alloc (.cells #[.string (S (withX n things (nthB b.batches k)).name), hv, nv] 73)) w.heap.size ⟨(withX n things (nthB b.batches k)).name, hv, nv⟩ (withX n things (nthB b.batches k))) :=
     ⟨rfl, by (unfold withX; split; exact hnl; exact hl), hlh.ext (ext_alloc _ _), hln.ext (ext_alloc _ _)⟩
    have hzx := hEx.size
    have hob : ∀ g, (Value.slice av k cv).ownBlock = some g → w.heap.size + 3 ≤ g := fun g hg => by
     obtain ⟨rs, q1, _⟩ := HO.out
     exact (q1.lt g hg).1
    have HOB := hid hob
    obtain ⟨r1, c1', e1', _⟩ := hlh
    obtain ⟨r2, c2', e2', _⟩ := hln
    subst e1'
    subst e2'
    clear hEx hrx hry hob
    have HLK := hid hlk
    have HLK1 := hid hlk1
    clear hlk hlk1
    generalize (b.batches.take k).map (withX n things) = L at *
    generalize withX n things (nthB b.batches k) = yk at *
    go_wp2_with (at_builtin; refine wpList_rowW rfl _ _ rfl (Nat.le_add_right _ 3) rfl HOX.out rfl (one_cells wc 73 ⟨yk.name, _, _⟩) HRow.out ?q1 ?q2 ?_)
    case q1 => have := HLK.out; omega
    case q2 => simp; omega
    intro v' w4 h2 h3 h4
    obtain ⟨a4, c4, rfl⟩ := h2.len
    rw [HLK1.out] at h2
    have hR4 := (HRX.out.ext (ext_alloc wc (.cells #[.string (S yk.name), .slice r1 yk.has.length c1', .slice r2 yk.needs.length c2'] 73))).kept h3 (fun e => by have := HOB.out _ e.symm; omega)
    have hB4 : Below (w.heap.size + 2) wo w4 := (Below.mono (Ext.tr HEX.out (ext_alloc _ _)) (by omega)).grown h3 (by simp; omega) (fun g hg => by have := HOB.out g hg; omega)
    have q1 := hR4.cell (i := 1) rfl
    have q2 := hR4.frozen 1
    have HN : Hid (BsW (w4.setCell ⟨w.heap.size + 2, 1, none⟩ (.slice a4 (k + 1) c4)) (w.heap.size + 3) w.heap.size (.slice a4 (k + 1) c4) ((b.batches.take (k + 1)).map (withX n things))) := by
     have h := h2.stored hR4 rfl rfl (by omega) 1 (.slice a4 (k + 1) c4)
     rw [HTM.out]
     exact h
    have HRN := hid (hR4.set 1 (.slice a4 (k + 1) c4))
    have HBN : Hid (Below (w.heap.size + 2) w1 (w4.setCell ⟨w.heap.size + 2, 1, none⟩ (.slice a4 (k + 1) c4))) := (HB.out.trans hB4).setCell (Nat.le_refl _) _
    rw [HLK1.out]
    clear h2 h3 h4 hR4 hB4 HRX HEX HOX HRow HOB t1 y0 y1 y2 s1 s2 p0 p1 p2 hb' hy1 HTM
    go_wp2
    go_roundw
    case rel => exact ⟨k + 1, _, by omega, by go_num, HBN.out, HRN.out, HN.out⟩
    case measure => simp [intOf]; omega
  ·have e : k = b.batches.length := by omega
   subst e
   obtain ⟨av, cv, rfl⟩ := HO.out.len
   rw [List.take_length] at HO HR
   have hq0 := HR.out.cell (i := 0) rfl
   have hq1 := HR.out.cell (i := 1) rfl
   have HR3 := hid (HR2.out.ext (Below.mono HB.out (by omega)))
   have t0 := HR3.out.cell (i := 0) rfl
   have t1 := HR3.out.cell (i := 1) rfl
   have f0 := HR3.out.frozen 0
   have f1 := HR3.out.frozen 1
   have hml : (b.batches.map (withX n things)).length = b.batches.length := List.length_map _
   rw [hml] at HO HR hq1
   have HT : Hid (StrsAt wo a1 b.things) := hb'.1
   have HNL : Hid ((b.batches.map (withX n things)).length ≤ 2199023255552) := by
    show _ ≤ _
    rw [hml]; exact hn
   clear HB hrec hb' ht' hml
   go_wp2
   refine bodyPost_ret (v := .agg #[.slice a1 b.things.length c1, .slice av b.batches.length cv]) (by simp [results, Tryz.results26, go_sem, t0, t1]) rfl ⟨av, cv, rfl, ?_, ?_⟩
   ·exact (HEW.out.setCell (by simp) _).setCell (by simp) _
   ·have h := ((HO.out.stored HR3.out rfl rfl (by omega) 0 (.slice a1 b.things.length c1)).stored (HR3.out.set 0 _) rfl rfl (by omega) 1 (.slice av b.batches.length cv)).at HNL.out
    obtain ⟨a5, c5, e5, h5⟩ := h
    simp only [Value.slice.injEq] at e5
    obtain ⟨rfl, _⟩ := e5
    exact ⟨(HT.out.box HR3.out noStr2 _ _).box (HR3.out.set 0 _) noStr2 _ _, h5⟩
end Go.Proofs.YtdafpnpfcmgfcaaGreatDoor
