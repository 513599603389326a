/- Walks over the program's batchOk and holders. The walk over the program's holders: who has what, in a map. The walk over the program's ShareBookOk. Who has a thing: the specification's ShareWho and the program's. Things as bits of a word. Walks over the program's bits of things. Going: the program's state of who is gone and what is free. -/
import Derived.Test.YtdafpnpfcmgfcaaGreatDoorKe20
import Derived.Test.YtdafpnpfcmgfcaaGreatDoorKe19
namespace Go.Proofs.YtdafpnpfcmgfcaaGreatDoor
section
open Go.RowKit
attribute [local go_sem] S_toList S_size S_get
theorem namesOk_eq (l all : List Str) : namesOk l all = (partB l all && ascB l) := by
 unfold namesOk partB ascB
 rw [Bool.eq_iff_iff]
 simp only [Bool.and_eq_true, allLt_true]
 exact ⟨fun k => ⟨fun i hi => (k i hi).1, fun i hi => (k i hi).2⟩, fun ⟨h, m⟩ i hi => ⟨h i hi, m i hi⟩⟩
theorem ext_alloc' (w : World) (o : Obj) : Ext w (w.alloc o) := (Below.refl _ _).alloc (Nat.le_refl _) _
theorem isPartOf_v (a b : Option Addr) (ca cb : Nat) (sa sb : List Str) (v : Bool) (w : World) (ha : StrsAt w a sa) (hb : StrsAt w b sb) (hv : partB sa sb = v) :
  Calls Qry.prog 87 #[.slice a sa.length ca, .slice b sb.length cb] w fun e w' => e = .returned (.bool v) ∧ w' = w := by
 rw [← hv]; exact isPartOf_any a b ca cb sa sb w ha hb
theorem ascending_v (a : Option Addr) (ca : Nat) (sa : List Str) (v : Bool) (w : World) (ha : StrsAt w a sa) (hv : ascB sa = v) :
  Calls Qry.prog 58 #[.slice a sa.length ca] w fun e w' => e = .returned (.bool v) ∧ ∃ n, w' = w.drewN n := by
 rw [← hv]; exact ascending_any a ca sa w ha
set_option maxHeartbeats 400000 in
theorem implBatchOk_any (x : Batch) (a1 a2 a3 : Option Addr) (c1 c2 c3 : Nat) (things : List Str) (w : World) (h1 : StrsAt w a1 x.has) (h2 : StrsAt w a2 x.needs) (h3 : StrsAt w a3 things) :
  Calls Qry.prog 59 #[.agg #[.string (S x.name), .slice a1 x.has.length c1, .slice a2 x.needs.length c2], .slice a3 things.length c3] w fun e w' =>
   e = .returned (.bool (namesOk x.needs things && namesOk x.has x.needs)) ∧ Ext w w' := by
 have hal : ∀ o n, Ext w ((w.alloc o).drewN n) := fun o n => Ext.tr ((Below.refl _ _).alloc (Nat.le_refl _) _) (ext_drewN _ _)
 have HV : Hid ((namesOk x.needs things && namesOk x.has x.needs) = (partB x.needs things && ascB x.needs && partB x.has x.needs && ascB x.has)) := by
  show _ = _
  rw [namesOk_eq, namesOk_eq, Bool.and_assoc, Bool.and_assoc, Bool.and_assoc]
 cases g1 : partB x.needs things
 ·have HF := hid g1
  go_enter Qry.func59, Tryz.ntmps59
  go_wp2
  go_quiet (fail)
  go_wp2_with fail
  refine (isPartOf_v _ _ _ _ _ _ _ _ (h2.ext (hal _ _)) (h3.ext (hal _ _)) g1).mono ?_
  rintro e w1 ⟨rfl, rfl⟩
  go_wp2_with fail
  go_ret
  exact ⟨ret_bool (by rw [HV.out, HF.out]; rfl), hal _ _⟩
 ·cases g2 : ascB x.needs
  ·have HF := hid (And.intro g1 g2)
   go_enter Qry.func59, Tryz.ntmps59
   go_wp2
   go_quiet (fail)
   go_wp2_with fail
   refine (isPartOf_v _ _ _ _ _ _ _ _ (h2.ext (hal _ _)) (h3.ext (hal _ _)) g1).mono ?_
   rintro e w1 ⟨rfl, rfl⟩
   go_wp2_with fail
   refine (ascending_v _ _ _ _ _ (h2.ext (hal _ _)) g2).mono ?_
   rintro e w1 ⟨rfl, n1, rfl⟩
   go_wp2_with fail
   go_ret
   exact ⟨ret_bool (by rw [HV.out, HF.out.1, HF.out.2]; rfl), Ext.tr (ext_alloc' _ _) (ext_drewN _ _)⟩
  ·cases g3 : partB x.has x.needs
   ·have HF := hid (And.intro g1 (And.intro g2 g3))
    go_enter Qry.func59, Tryz.ntmps59
    go_wp2
    go_quiet (fail)
    go_wp2_with fail
    refine (isPartOf_v _ _ _ _ _ _ _ _ (h2.ext (hal _ _)) (h3.ext (hal _ _)) g1).mono ?_
    rintro e w1 ⟨rfl, rfl⟩
    go_wp2_with fail
    refine (ascending_v _ _ _ _ _ (h2.ext (hal _ _)) g2).mono ?_
    rintro e w1 ⟨rfl, n1, rfl⟩
    go_wp2_with fail
    refine (isPartOf_v _ _ _ _ _ _ _ _ (h1.ext (hal _ _)) (h2.ext (hal _ _)) g3).mono ?_
    rintro e w1 ⟨rfl, rfl⟩
    go_wp2_with fail
    go_ret
    exact ⟨ret_bool (by rw [HV.out, HF.out.1, HF.out.2.1, HF.out.2.2]; rfl), Ext.tr (ext_alloc' _ _) (ext_drewN _ _)⟩
   ·have HF := hid (And.intro g1 (And.intro g2 g3))
    go_enter Qry.func59, Tryz.ntmps59
    go_wp2
    go_quiet (fail)
    go_wp2_with fail
    refine (isPartOf_v _ _ _ _ _ _ _ _ (h2.ext (hal _ _)) (h3.ext (hal _ _)) g1).mono ?_
    rintro e w1 ⟨rfl, rfl⟩
    go_wp2_with fail
    refine (ascending_v _ _ _ _ _ (h2.ext (hal _ _)) g2).mono ?_
    rintro e w1 ⟨rfl, n1, rfl⟩
    go_wp2_with fail
    refine (isPartOf_v _ _ _ _ _ _ _ _ (h1.ext (hal _ _)) (h2.ext (hal _ _)) g3).mono ?_
    rintro e w1 ⟨rfl, rfl⟩
    go_wp2_with fail
    refine (ascending_any _ _ _ _ (h1.ext (hal _ _))).mono ?_
    rintro e w1 ⟨rfl, n2, rfl⟩
    go_wp2_with fail
    go_ret
    exact ⟨ret_bool (by rw [HV.out, HF.out.1, HF.out.2.1, HF.out.2.2]; rfl), Ext.tr (ext_alloc' _ _) (ext_drewN _ _)⟩
end
section
open Go.RowKit Go.Maps
attribute [local go_sem] S_toList S_size S_get
theorem lawStr : Keyed Qry.prog 9 := string_keyed (uQ Tryz.underlying9)
theorem zeroInt (w : World) : (zeroValue 3).run Qry.prog w = .ok (.int .i64 0) w := by kernel_rfl
theorem keyStr {x : Str} (h : x.length ≤ 140737488355328) : keyOf Qry.prog 9 (.string (S x)) = some (.string x) := by
 have h1 := WideMaps.keyOf_string_mk (P := Qry.prog) (uQ Tryz.underlying9) (s := S x) (by rw [S_size]; unfold maxLen; omega)
 rw [S_data] at h1; exact h1
def OwnM (w : World) (B : Nat) (L : List (Str × Nat)) : Prop :=
 ∃ n D, w.ownsMap Qry.prog 9 (plainElem (H := Unit) Qry.prog 3) B n D ∧ n ≤ L.length ∧ MapIs D L
theorem OwnM.alloc {w : World} {B : Nat} {L : List (Str × Nat)} (h : OwnM w B L) (o : Obj) : OwnM (w.alloc o) B L := by
 obtain ⟨n, D, h1, h2, h3⟩ := h
 exact ⟨n, D, h1.alloc o, h2, h3⟩
theorem has_le {w : World} {a : Option Addr} {bs : List Batch} (ha : BatchesAt w a bs) : ∀ i, (nthB bs i).has.length ≤ 8796093022208 := by
 intro i
 by_cases h : i < bs.length
 ·obtain ⟨_, _, _, _, _, _, _, _, _, _, _, s1, _⟩ := ha.2 i h
  exact s1.1
 ·have e : nthB bs i = nob := by unfold nthB; rw [List.getD_eq_getElem?_getD, List.getElem?_eq_none (by omega)]; rfl
  rw [e]; simp [nob]
set_option maxHeartbeats 1000000 in
theorem holders_any (a : Option Addr) (ca : Nat) (bs : List Batch) (w : World) (ha : BatchesAt w a bs) (h5 : bs.length ≤ 5) :
  Calls Qry.prog 60 #[.slice a bs.length ca] w fun e w' => Ext w w' ∧
   ((e = .returned (.tuple #[.map none, .bool false]) ∧ onceB bs = false) ∨
   (∃ B, e = .returned (.tuple #[.map (some B), .bool true]) ∧ onceB bs = true ∧ OwnM w' B (pairsTo bs bs.length))) := by
 have hle := has_le ha
 have HLE := hid hle
 clear hle
 have hmm := @run_makeMap Qry.prog
 go_enter Qry.func60, Tryz.ntmps60
 go_wp2
 clear hmm
 go_loopw [14] (fun ii wr => ∃ i : Nat, i ≤ bs.length ∧ ii = .int .i64 i ∧ Below w.heap.size w wr ∧ OwnM wr w.heap.size (pairsTo bs i) ∧ (keys (pairsTo bs i)).Nodup) (fun ii _ => bs.length - (intOf ii).toNat)
 case atStart => exact ⟨0, Nat.zero_le _, rfl, (Below.refl _ _).alloc (Nat.le_refl _) _, ⟨0, _, World.ownsMap_made _ _ _ _, Nat.zero_le _, mapIs_nil⟩, by simp [keys, pairsTo]⟩
 case round =>
  obtain ⟨i, hi, rfl, hbel, hown, hnd⟩ := hrel
  have HB := hid hbel
  have HO := hid hown
  have HN := hid hnd
  have ha' : BatchesAt wr a bs := ha.ext hbel
  have hz := hbel.size
  by_cases hlt : i < bs.length
  ·obtain ⟨ba, oa, rfl, hl, a1, c1, a2, c2, p0, p1, p2, s1, s2⟩ := ha.2 i hlt
   have q0 := Ext.keep hbel p0
   have q1 := Ext.keep hbel p1
   have q2 := Ext.keep hbel p2
   clear hbel hown hnd ha' p0 p1 p2
   have hnh := s1.1
   go_wp2
   go_loopw [22] (fun jj wq => ∃ j : Nat, j ≤ (nthB bs i).has.length ∧ jj = .int .i64 j ∧ Below w.heap.size w wq ∧ OwnM wq w.heap.size (halfP bs i j) ∧ (keys (halfP bs i j)).Nodup) (fun jj _ => (nthB bs i).has.length - (intOf jj).toNat)
   case atStart => exact ⟨0, Nat.zero_le _, rfl, HB.out.alloc hz _, by rw [halfP_zero]; exact HO.out.alloc _, by rw [halfP_zero]; exact HN.out⟩
   case round =>
    obtain ⟨j, hj, rfl, hbel, hown, hnd⟩ := hrel
    have HB1 := hid hbel
    have HN1 := hid hnd
    have hs' := s1.ext hbel
    have hz1 := hbel.size
    clear hnd hbel
    by_cases hjt : j < (nthB bs i).has.length
    ·obtain ⟨hxl, bx, ox, rfl, hcx⟩ := hs'.2 j hjt
     have hkey := keyStr hxl
     obtain ⟨m, D, hom, hmn, hmap⟩ := hown
     have hbd := halfP_len HLE.out i j
     cases hq : hasB (keys (halfP bs i j)) (nth (nthB bs i).has j)
     ·have hhas : Maps.has D (.string (nth (nthB bs i).has j)) = false := by rw [hmap.2.1, hq]
      have hnot : nth (nthB bs i).has j ∉ keys (halfP bs i j) := fun h => by rw [hasB_true.2 h] at hq; cases hq
      have HM := hid hmap
      have HK := hid (keys_snoc hjt HN1.out hnot)
      have HNOT := hid hnot
      clear hnot hmap
      go_wp2_with (first
       | (at_lookup; refine wpList_lookup_own_ok_int _ rfl _ _ 85 rfl 9 3 .i64 lawStr (uQ Tryz.underlying85) (uQ Tryz.underlying3) (zeroInt _) w.heap.size m D rfl hom _ _ rfl hkey ?_; intro c hat hwc; rw [hhas])
       | (at_mapUpdate; refine wpList_mapUpdate_own _ rfl _ _ _ 85 rfl 9 3 lawStr (uQ Tryz.underlying85) _ w.heap.size m D rfl hom (by unfold maxLen; omega) _ _ _ rfl rfl hkey _ [] (plainElem_int (uQ Tryz.underlying3) (WalkArith.wf_i64 (by omega))) ?_; intro w1 hown1 hgrow1))
      have HB2 : Hid (Below w.heap.size w w1) := HB1.out.grown hgrow1 hz1 (fun g hg => by cases hg; exact Nat.le_refl _)
      have HO2 : Hid (OwnM w1 w.heap.size (halfP bs i (j + 1))) := by
       refine ⟨m + 1, _, hown1, ?_, ?_⟩
       ·rw [halfP_succ hjt]; simp; omega
       ·rw [halfP_succ hjt]; exact HM.out.put HNOT.out i
      clear hown1 hgrow1 hom
      go_wp2
      go_roundw
      case rel => exact ⟨j + 1, by omega, by go_num, HB2.out, HO2.out, HK.out⟩
      case measure => simp [intOf]; omega
     ·have hhas : Maps.has D (.string (nth (nthB bs i).has j)) = true := by rw [hmap.2.1, hq]
      have HF : Hid (onceB bs = false) := onceB_no hlt hjt (hasB_true.1 hq)
      clear hmap
      go_wp2_with (at_lookup; refine wpList_lookup_own_ok_int _ rfl _ _ 85 rfl 9 3 .i64 lawStr (uQ Tryz.underlying85) (uQ Tryz.underlying3) (zeroInt _) w.heap.size m D rfl hom _ _ rfl hkey ?_; intro c hat hwc; rw [hhas])
      go_ret2
      exact ⟨HB1.out, Or.inl ⟨rfl, HF.out⟩⟩
    ·have e : j = (nthB bs i).has.length := by omega
     have HO2 : Hid (OwnM wr w.heap.size (pairsTo bs (i + 1))) := by rw [← halfP_full, ← e]; exact hown
     have HN2 : Hid (keys (pairsTo bs (i + 1))).Nodup := by rw [← halfP_full, ← e]; exact HN1.out
     clear hown e
     go_wp2
     go_roundw
     case rel => exact ⟨i + 1, by omega, by go_num, HB1.out, HO2.out, HN2.out⟩
     case measure => simp [intOf]; omega
  ·have e : i = bs.length := by omega
   have HO2 : Hid (OwnM wr w.heap.size (pairsTo bs bs.length)) := by rw [← e]; exact hown
   have HF : Hid (onceB bs = true) := by
    show _ = true
    unfold onceB; rw [← e]; simpa using hnd
   clear hbel hown hnd e
   go_wp2
   go_ret2
   exact ⟨HB.out, Or.inr ⟨_, rfl, HF.out, HO2.out⟩⟩
end
section
open Go.RowKit
attribute [local go_sem] S_toList S_size S_get
theorem namesB_eq (b : Book) : namesB b = (allNames (namesOf b.batches) && ascB (namesOf b.batches)) := by
 unfold namesB allNames ascB
 rw [namesOf_length]
 congr 1
 ·exact allLt_congr (fun i hi => by rw [nth_namesOf hi]; rfl)
 ·refine allLt_congr (fun i hi => ?_)
  unfold upB up
  rw [nth_namesOf hi, nth_namesOf (by omega)]; rfl
theorem implOk_1 {b : Book} (h : thingsOk b.things = false) : bookOk b = false := by rw [bookOk_iff, h]; rfl
theorem implOk_3 {b : Book} (h : allNames (namesOf b.batches) = false) : bookOk b = false := by rw [bookOk_iff, namesB_eq, h]; simp
theorem implOk_4 {b : Book} (h : ascB (namesOf b.batches) = false) : bookOk b = false := by rw [bookOk_iff, namesB_eq, h]; simp
theorem implOk_5 {b : Book} {i : Nat} (hi : i < b.batches.length) (h : (namesOk (b.at i).needs b.things && namesOk (b.at i).has (b.at i).needs) = false) : bookOk b = false := by
 rw [bookOk_iff]; unfold restOk; rw [allLt_no (p := fun i => namesOk (b.at i).needs b.things && namesOk (b.at i).has (b.at i).needs) hi h]; simp
theorem implOk_6 {b : Book} (h1 : thingsOk b.things = true) (h2 : b.batches.length ≤ 5) (h3 : allNames (namesOf b.batches) = true) (h4 : ascB (namesOf b.batches) = true)
  (h5 : ∀ i, i < b.batches.length → (namesOk (b.at i).needs b.things && namesOk (b.at i).has (b.at i).needs) = true) : bookOk b = onceB b.batches := by
 rw [bookOk_iff, namesB_eq, h1, h3, h4]; unfold restOk; rw [allLt_of h5]; simp [h2]
set_option maxHeartbeats 1000000 in
theorem implBookOk_any (b : Book) (a1 a2 : Option Addr) (c1 c2 : Nat) (w : World) (hb : BookAt w a1 a2 b) :
  Calls Qry.prog 17 #[.agg #[.slice a1 b.things.length c1, .slice a2 b.batches.length c2]] w fun e w' =>
   e = .returned (.bool (bookOk b)) ∧ Ext w w' := by
 have hal : ∀ o, Ext w (w.alloc o) := fun o => (Below.refl _ _).alloc (Nat.le_refl _) _
 obtain ⟨ht, hbs⟩ := hb
 have hn := hbs.1
 cases hth : thingsOk b.things
 ·have HF : Hid (bookOk b = false) := implOk_1 hth
  go_enter Qry.func17, Tryz.ntmps17
  go_wp2_with fail
  refine (implThingsOk_any _ _ _ _ (ht.ext (hal _))).mono ?_
  rintro e w1 ⟨rfl, hext⟩
  have HE := hid (Ext.tr (hal _) hext)
  clear hext
  go_wp2_with fail
  go_ret
  exact ⟨ret_bool HF.out.symm, HE.out⟩
 ·by_cases h5 : b.batches.length ≤ 5
  ·go_enter Qry.func17, Tryz.ntmps17
   go_wp2_with fail
   refine (implThingsOk_any _ _ _ _ (ht.ext (hal _))).mono ?_
   rintro e w1 ⟨rfl, hext⟩
   have hx0 := box_cell hext (i := 0) rfl
   have hx1 := box_cell hext (i := 1) rfl
   have HE0 := hid hext
   clear hext
   go_wp2_with fail
   refine (batchNames_any _ _ _ _ (hbs.ext (Ext.tr (hal _) HE0.out))).mono ?_
   rintro e w2 ⟨an, cn, rfl, hext2, hnames⟩
   have HE2 := hid (Ext.tr HE0.out hext2)
   clear hx0 hx1
   have hx0 := box_cell HE2.out (i := 0) rfl
   have hx1 := box_cell HE2.out (i := 1) rfl
   clear hext2
   cases hnm : allNames (namesOf b.batches)
   ·have HF : Hid (bookOk b = false) := implOk_3 hnm
    go_wp2_with fail
    refine (areNames_any _ _ _ _ hnames).mono ?_
    rintro e w3 ⟨rfl, hext3⟩
    have HE3 := hid (Ext.tr HE2.out hext3)
    clear hext3
    go_wp2_with fail
    go_ret
    exact ⟨ret_bool HF.out.symm, Ext.tr (hal _) HE3.out⟩
   ·go_wp2_with fail
    refine (areNames_any _ _ _ _ hnames).mono ?_
    rintro e w3 ⟨rfl, hext3⟩
    have HE3 := hid (Ext.tr HE2.out hext3)
    have hnames3 := hnames.ext hext3
    clear hext3 hx0 hx1 hnames
    have hx0 := box_cell HE3.out (i := 0) rfl
    have hx1 := box_cell HE3.out (i := 1) rfl
    cases has : ascB (namesOf b.batches)
    ·have HF : Hid (bookOk b = false) := implOk_4 has
     go_wp2_with fail
     refine (ascending_any _ _ _ _ hnames3).mono ?_
     rintro e w4 ⟨rfl, n4, rfl⟩
     go_wp2_with fail
     go_ret
     exact ⟨ret_bool HF.out.symm, Ext.tr (hal _) (Ext.tr HE3.out (ext_drewN _ _))⟩
    ·go_wp2_with fail
     refine (ascending_any _ _ _ _ hnames3).mono ?_
     rintro e w4 ⟨rfl, hd4⟩
     have HE4 := hid (Ext.tr HE3.out (draws_ext hd4))
     clear hd4 hx0 hx1 hnames3
     have hx0 := box_cell HE4.out (i := 0) rfl
     have hx1 := box_cell HE4.out (i := 1) rfl
     go_wp2_with fail
     go_loopw [32] (fun i wr => ∃ k : Nat, k ≤ b.batches.length ∧ i = .int .i64 k ∧ Ext (w.alloc (.cells #[.slice a1 b.things.length c1, .slice a2 b.batches.length c2] 26)) wr ∧ ∀ j, j < k → (namesOk (b.at j).needs b.things && namesOk (b.at j).has (b.at j).needs) = true) (fun i _ => b.batches.length - (intOf i).toNat)
     case atStart => exact ⟨0, Nat.zero_le _, rfl, HE4.out, fun j hj => by omega⟩
     case round =>
      obtain ⟨k, hk, rfl, hext, hx⟩ := hrel
      clear hx0 hx1
      have hx0 := box_cell hext (i := 0) rfl
      have hx1 := box_cell hext (i := 1) rfl
      have ht' := ht.ext (Ext.tr (hal _) hext)
      have hbs' := hbs.ext (Ext.tr (hal _) hext)
      have HX := hid hx
      have HE := hid hext
      clear hx hext
      by_cases hlt : k < b.batches.length
      ·obtain ⟨ba, oa, rfl, hl, d1, g1, d2, g2, p0, p1, p2, s1, s2⟩ := hbs'.2 k hlt
       have hx0' : ∀ o, (wr.alloc o).cell? ⟨w.heap.size, 0, none⟩ = some (.slice a1 b.things.length c1) := fun o => (ext_alloc _ _).keep hx0
       cases hq : (namesOk (nthB b.batches k).needs b.things && namesOk (nthB b.batches k).has (nthB b.batches k).needs)
       ·have HF : Hid (bookOk b = false) := implOk_5 hlt hq
        go_wp2_with fail
        refine (implBatchOk_any (nthB b.batches k) _ _ _ _ _ _ _ _ (s1.ext (ext_alloc _ _)) (s2.ext (ext_alloc _ _)) (ht'.ext (ext_alloc _ _))).mono ?_
        rintro e w5 ⟨rfl, hext5⟩
        have HE5 := hid (Ext.tr HE.out (Ext.tr (ext_alloc _ _) hext5))
        clear hext5
        rw [hq]
        go_wp2
        go_ret
        exact ⟨ret_bool HF.out.symm, Ext.tr (hal _) HE5.out⟩
       ·have HQ := hid hq
        go_wp2_with fail
        refine (implBatchOk_any (nthB b.batches k) _ _ _ _ _ _ _ _ (s1.ext (ext_alloc _ _)) (s2.ext (ext_alloc _ _)) (ht'.ext (ext_alloc _ _))).mono ?_
        rintro e w5 ⟨rfl, hext5⟩
        have HE5 := hid (Ext.tr HE.out (Ext.tr (ext_alloc _ _) hext5))
        clear hext5
        rw [hq]
        clear hq
        go_wp2
        go_roundw
        case rel => exact ⟨k + 1, by omega, by go_num, HE5.out, fun j hj => by
         by_cases e : j = k
         ·rw [e]; exact HQ.out
         ·exact HX.out j (by omega)⟩
        case measure => simp [intOf]; omega
      ·have HF : Hid (bookOk b = onceB b.batches) := implOk_6 hth h5 hnm has (fun j hj => HX.out j (by omega))
       go_wp2_with fail
       refine (holders_any _ _ _ _ hbs' h5).mono ?_
       rintro e w5 ⟨hext5, (⟨rfl, ho⟩ | ⟨B, rfl, ho, _⟩)⟩
       ·have HE5 := hid (Ext.tr HE.out hext5)
        have HO := hid ho
        clear hext5 ho
        go_wp2_with fail
        go_ret
        exact ⟨ret_bool (by rw [HF.out, HO.out]), Ext.tr (hal _) HE5.out⟩
       ·have HE5 := hid (Ext.tr HE.out hext5)
        have HO := hid ho
        clear hext5 ho
        go_wp2_with fail
        go_ret
        exact ⟨ret_bool (by rw [HF.out, HO.out]), Ext.tr (hal _) HE5.out⟩
  ·have HF : Hid (bookOk b = false) := bookOk_no2 h5
   go_enter Qry.func17, Tryz.ntmps17
   go_wp2_with fail
   refine (implThingsOk_any _ _ _ _ (ht.ext (hal _))).mono ?_
   rintro e w1 ⟨rfl, hext⟩
   have hx0 := box_cell hext (i := 0) rfl
   have hx1 := box_cell hext (i := 1) rfl
   have HE := hid (Ext.tr (hal _) hext)
   clear hext
   go_wp2_with fail
   go_ret
   exact ⟨ret_bool HF.out.symm, HE.out⟩
end
section
open Go.RowKit Go.Maps
attribute [local go_sem] S_toList S_size S_get
def whoFrom : List Batch → Str → Str
 | [], _ => []
 | x :: r, t => if hasB x.has t then x.name else whoFrom r t
def whoOf (b : Book) (t : Str) : Str := if bookOk b then whoFrom b.batches t else []
theorem ok_five {b : Book} (h : bookOk b = true) : b.batches.length ≤ 5 := by
 unfold bookOk at h
 simp only [Bool.and_eq_true, decide_eq_true_eq] at h
 exact h.1.2
theorem ok_once {b : Book} (h : bookOk b = true) : onceB b.batches = true := by
 rw [bookOk_iff] at h
 simp only [Bool.and_eq_true] at h
 exact h.2
theorem lit_inj {D : DataW Unit} {p c : Int} (h : D = .lit (.int .i64 p)) (k : D = .lit (.int .i64 c)) : c = p := by
 rw [h] at k
 injection k with k
 injection k with _ k
 exact k.symm
end
section
def bitsTo (list things : List Str) : Nat → Nat
 | 0 => 0
 | k + 1 => bitsTo list things k + (if hasB list (nth things k) then 2 ^ k else 0)
def bitsN (list things : List Str) : Nat := bitsTo list things things.length
theorem bitsTo_lt (list things : List Str) : ∀ k, bitsTo list things k < 2 ^ k
 | 0 => by simp [bitsTo]
 | k + 1 => by
  have ih := bitsTo_lt list things k
  rw [bitsTo, Nat.pow_succ]; split <;> omega
theorem bitsTo_bit (list things : List Str) : ∀ k j, (bitsTo list things k).testBit j = (decide (j < k) && hasB list (nth things j))
 | 0, j => by simp [bitsTo]
 | k + 1, j => by
  have ih := bitsTo_bit list things k j
  have hlt := bitsTo_lt list things k
  rw [bitsTo]
  by_cases hb : hasB list (nth things k) = true
  ·rw [if_pos hb, Nat.add_comm]
   by_cases e : j = k
   ·subst e
    rw [Nat.testBit_two_pow_add_eq, ih]
    simp [hb]
   ·by_cases h : j < k
    ·rw [Nat.testBit_two_pow_add_gt h, ih]
     have : j < k + 1 := by omega
     simp [h, this]
    ·have h2 : 2 ^ k + bitsTo list things k < 2 ^ j := by
      have : 2 ^ (k + 1) ≤ 2 ^ j := Nat.pow_le_pow_right (by omega) (by omega)
      rw [Nat.pow_succ] at this; omega
     rw [Nat.testBit_lt_two_pow h2]
     have : ¬ j < k + 1 := by omega
     simp [this]
  ·rw [if_neg hb, Nat.add_zero, ih]
   by_cases e : j = k
   ·subst e
    simp at hb
    simp [hb]
   ·have : decide (j < k + 1) = decide (j < k) := by rw [Bool.eq_iff_iff]; simp; omega
    rw [this]
theorem bitsN_bit (list things : List Str) (j : Nat) : (bitsN list things).testBit j = (decide (j < things.length) && hasB list (nth things j)) := bitsTo_bit list things things.length j
end
section
open Go.RowKit
attribute [local go_sem] S_toList S_size S_get
theorem wrapU {x : Int} (h0 : 0 ≤ x) (h1 : x < 65536) : IntKind.u64.wrap x = x := by rw [IntKind.wrap_u64]; omega
theorem pow_small {k : Nat} (h : k ≤ 8) : (2 : Nat) ^ k ≤ 256 := Nat.pow_le_pow_right (n := 2) (by omega) h
theorem sum_wrap {x k : Nat} (h : k ≤ 8) (hx : x < 2 ^ k) : IntKind.u64.wrap ((x : Int) + IntKind.u64.wrap (2 ^ k)) = ((x + 2 ^ k : Nat) : Int) := by
 have hp := pow_small h
 have e : ((2 : Int) ^ k) = ((2 ^ k : Nat) : Int) := by simp
 have h1 : IntKind.u64.wrap ((2 ^ k : Nat) : Int) = ((2 ^ k : Nat) : Int) := wrapU (by omega) (by omega)
 rw [e, h1, wrapU (by omega) (by omega)]
 omega
set_option maxHeartbeats 400000 in
theorem bitsOf_any (a b : Option Addr) (ca cb : Nat) (sa sb : List Str) (w : World) (ha : StrsAt w a sa) (hb : StrsAt w b sb) (h8 : sb.length ≤ 8) :
  Calls Qry.prog 90 #[.slice a sa.length ca, .slice b sb.length cb] w fun e w' => e = .returned (.int .u64 (bitsN sa sb : Nat)) ∧ w' = w := by
 go_enter Qry.func90, Tryz.ntmps90
 go_wp2
 go_loop [5, 10] (fun s i => ∃ k : Nat, k ≤ sb.length ∧ i = .int .i64 k ∧ s = .int .u64 (bitsTo sa sb k : Nat)) (fun _ i => sb.length - (intOf i).toNat)
 case atStart => exact ⟨0, Nat.zero_le _, rfl, rfl⟩
 case round =>
  obtain ⟨k, hk, rfl, rfl⟩ := hrel
  by_cases hlt : k < sb.length
  ·obtain ⟨_, bb, ob, rfl, hc⟩ := hb.2 k hlt
   have hlo := bitsTo_lt sa sb k
   cases hq : hasB sa (nth sb k)
   ·have HQ : Hid (bitsTo sa sb (k + 1) = bitsTo sa sb k) := by show _ = _; rw [bitsTo, hq]; simp
    go_wp2_with (go_at_call 110; refine (slicesContains_any _ _ _ _ _ ha).mono ?_; rintro e w' ⟨rfl, rfl⟩)
    go_round
    case rel => exact ⟨k + 1, by omega, by go_num, by rw [HQ.out]⟩
    case measure => simp [intOf]; omega
   ·have HQ : Hid (bitsTo sa sb (k + 1) = bitsTo sa sb k + 2 ^ k) := by show _ = _; rw [bitsTo, hq]; simp
    go_wp2_with (go_at_call 110; refine (slicesContains_any _ _ _ _ _ ha).mono ?_; rintro e w' ⟨rfl, rfl⟩)
    go_round
    case rel => exact ⟨k + 1, by omega, by go_num, by rw [HQ.out, sum_wrap (by omega) hlo]⟩
    case measure => simp [intOf]; omega
  ·have e : Hid (bitsTo sa sb k = bitsN sa sb) := by
    have : k = sb.length := by omega
    show _ = _; rw [this]; rfl
   go_wp2
   go_ret
   exact ⟨by rw [← e.out]; rfl, rfl⟩
end
section
open Go.RowKit
def bnth (l : List Nat) (i : Nat) : Nat := l.getD i 0
def gnth (l : List Bool) (i : Nat) : Bool := l.getD i false
def goingCells (vh vn : Value) (bg n free : Nat) (j : Nat) : Value :=
 match j with
 | 0 => vh
 | 1 => vn
 | 2 => .slice (some ⟨bg, 0, none⟩) n n
 | _ => .int .u64 (free : Int)
structure GoingAt (w : World) (base g bg : Nat) (vh vn : Value) (has needs : List Nat) (gone : List Bool) (free : Nat) : Prop where
 cells : w.rowIs g 127 4 (goingCells vh vn bg gone.length free)
 row : w.rowIs bg 4 gone.length (fun i => .bool (gnth gone i))
 hrow : w.ownsRow base 123 1 vh has.length (has.map fun x : Nat => .int .u64 (x : Int))
 nrow : w.ownsRow base 123 1 vn needs.length (needs.map fun x : Nat => .int .u64 (x : Int))
 hg : g < base
 hbg : bg < base
 ne : g ≠ bg
theorem own_bits {w : World} {base : Nat} {v : Value} {l : List Nat} (h : w.ownsRow base 123 1 v l.length (l.map fun x : Nat => .int .u64 (x : Int))) {i : Nat} (hi : i < l.length) :
  ∃ b cap, v = .slice (some ⟨b, 0, none⟩) l.length cap ∧ base ≤ b ∧ w.cell? ⟨b, i, none⟩ = some (.int .u64 (bnth l i : Int)) := by
 rcases h.2 with ⟨rfl, h0⟩ | ⟨g, cap, cur, rfl, hb, hg, hc, hm, hs, ht⟩
 ·omega
 ·refine ⟨g, cap, rfl, hb, ?_⟩
  have hx : (l.map fun x : Nat => Value.int .u64 (x : Int))[i]? = some (.int .u64 (bnth l i : Int)) := by
   rw [List.getElem?_map, List.getElem?_eq_getElem hi]; simp [bnth, List.getD_eq_getElem?_getD, hi]
  rw [← ht] at hx
  have hi2 : cur.toList[i]? = some (.int .u64 (bnth l i : Int)) := by
   rw [List.getElem?_take] at hx
   split at hx
   ·exact hx
   ·simp at hx
  have hi3 : cur[i]? = some (.int .u64 (bnth l i : Int)) := by rw [← Array.getElem?_toList]; exact hi2
  unfold World.cell?
  simp only [hg]
  exact hi3
def bsub (a c : Nat) : Bool := (a &&& (18446744073709551615 - c)) == 0
theorem bsub_eq {a f h : Nat} (ha : a < 1024) (hf : f < 1024) (hh : h < 1024) : (bits BinOp.andNot .u64 (a : Int) ((f : Int) + (h : Int)) == 0) = bsub a (f + h) := by
 have e : ((f : Int) + (h : Int)) = ((f + h : Nat) : Int) := by omega
 rw [e, u64_andNot_nat a (f + h) (by omega) (by omega)]
 unfold bsub
 rw [Bool.eq_iff_iff, beq_iff_eq, beq_iff_eq]
 omega
theorem bsub_iff {a c : Nat} (hac : a < 2048) (hc : c < 2048) : bsub a c = true ↔ ∀ j, a.testBit j = true → c.testBit j = true := by
 unfold bsub
 rw [beq_iff_eq]
 have e : 18446744073709551615 - c = 2 ^ 64 - (c + 1) := by omega
 have hb : ∀ j, (2 ^ 64 - (c + 1)).testBit j = (decide (j < 64) && !c.testBit j) := fun j => Nat.testBit_two_pow_sub_succ (by omega) j
 rw [e]
 constructor
 ·intro h j hj
  by_cases h64 : j < 64
  ·have := congrArg (fun x => x.testBit j) h
   simp only [Nat.testBit_and, Nat.zero_testBit, hj, hb, h64, decide_true, Bool.true_and] at this
   simpa using this
  ·exfalso
   have h2 : a < 2 ^ j := Nat.lt_of_lt_of_le hac (Nat.pow_le_pow_right (n := 2) (by omega) (show 11 ≤ j by omega))
   rw [Nat.testBit_lt_two_pow h2] at hj
   cases hj
 ·intro h
  apply Nat.eq_of_testBit_eq
  intro j
  rw [Nat.testBit_and, hb, Nat.zero_testBit]
  cases ha : a.testBit j
  ·simp
  ·simp [h j ha]
set_option maxHeartbeats 400000 in
theorem canGo_any (w : World) (base g bg : Nat) (vh vn : Value) (has needs : List Nat) (gone : List Bool) (free p : Nat) (hst : GoingAt w base g bg vh vn has needs gone free)
  (h1 : p < has.length) (h2 : p < needs.length) (h3 : p < gone.length) (hf : free < 1024) (hh : bnth has p < 1024) (hd : bnth needs p < 1024) :
  Calls Qry.prog 64 #[.pointer (some ⟨g, 0, none⟩), .int .i64 (p : Int)] w fun e w' => e = .returned (.bool (!gnth gone p && bsub (bnth needs p) (free + bnth has p))) ∧ ∃ n, w' = w.drewN n := by
 obtain ⟨b1, k1, rfl, _, q1⟩ := own_bits hst.hrow h1
 obtain ⟨b2, k2, rfl, _, q2⟩ := own_bits hst.nrow h2
 have c0 := hst.cells.cell (i := 0) (by omega)
 have c1 := hst.cells.cell (i := 1) (by omega)
 have c2 := hst.cells.cell (i := 2) (by omega)
 have c3 := hst.cells.cell (i := 3) (by omega)
 simp only [goingCells] at c0 c1 c2 c3
 have r := hst.row.cell h3
 have hw : IntKind.u64.wrap ((free : Int) + (bnth has p : Int)) = (free : Int) + (bnth has p : Int) := wrapU (by omega) (by omega)
 have HV := hid (bsub_eq hd hf hh)
 clear hst
 cases hgone : gnth gone p
 ·rw [hgone] at r
  go_enter Qry.func64, Tryz.ntmps64
  go_wp2
  go_quiet (fail)
  go_wp2
  go_ret
  exact ⟨ret_bool (by rw [HV.out]; rfl), _, rfl⟩
 ·rw [hgone] at r
  go_enter Qry.func64, Tryz.ntmps64
  go_wp2
  go_quiet (fail)
  go_wp2
  go_ret
  exact ⟨ret_bool rfl, _, rfl⟩
theorem rowIs_alike {w w' : World} {b : Nat} {t : TypeId} {n : Nat} {f : Nat → Value} (h : w.rowIs b t n f) (e : w'.Alike w) : w'.rowIs b t n f := h.of_block (by rw [e.1])
theorem ownsRow_alike {w w' : World} {base : Nat} {e : TypeId} {size : Nat} {v : Value} {n : Nat} {xs : List Value} (h : w.ownsRow base e size v n xs) (k : w'.Alike w) : w'.ownsRow base e size v n xs := by
 refine ⟨h.1, ?_⟩
 rcases h.2 with h2 | ⟨g, cap, cur, hv, hb, hg, r⟩
 ·exact Or.inl h2
 ·exact Or.inr ⟨g, cap, cur, hv, hb, by rw [k.1]; exact hg, r⟩
theorem ownBlock_ge {w : World} {base : Nat} {e : TypeId} {size : Nat} {v : Value} {n : Nat} {xs : List Value} (h : w.ownsRow base e size v n xs) {k : Nat} (hk : k < base) : v.ownBlock ≠ some k := fun e => by
 have := (h.lt k e).1; omega
theorem gnth_set (l : List Bool) (p i : Nat) (hp : p < l.length) : gnth (l.set p true) i = if i = p then true else gnth l i := by
 unfold gnth
 rw [List.getD_eq_getElem?_getD, List.getElem?_set]
 by_cases e : p = i
 ·subst e; simp [hp]
 ·have e' : ¬ i = p := fun h => e h.symm
  simp [e, e', List.getD_eq_getElem?_getD]
theorem GoingAt.left {w w' : World} {base g bg : Nat} {vh vn : Value} {has needs : List Nat} {gone : List Bool} {free p : Nat} (h : GoingAt w base g bg vh vn has needs gone free) (h3 : p < gone.length)
  (e : w'.Alike ((w.setCell ⟨bg, p, none⟩ (.bool true)).setCell ⟨g, 3, none⟩ (.int .u64 ((free : Int) + (bnth has p : Int))))) :
  GoingAt w' base g bg vh vn has needs (gone.set p true) (free + bnth has p) := by
 have hl : (gone.set p true).length = gone.length := by simp
 refine ⟨?_, ?_, ?_, ?_, h.hg, h.hbg, h.ne⟩
 ·refine rowIs_alike (((h.cells.setOther (a := ⟨bg, p, none⟩) h.ne _).set 3 _).congr ?_) e
  intro j hj
  rw [hl]
  match j, hj with
  | 0, _ => rfl
  | 1, _ => rfl
  | 2, _ => rfl
  | 3, _ => simp [goingCells]
 ·rw [hl]
  refine rowIs_alike ((((h.row.set p _).setOther (a := ⟨g, 3, none⟩) (Ne.symm h.ne) _)).congr ?_) e
  intro j hj
  rw [gnth_set _ _ _ h3]
  by_cases e : j = p <;> simp [e]
 ·exact ownsRow_alike (ownsRow_setCell_other (ownsRow_setCell_other h.hrow (ownBlock_ge h.hrow h.hbg) _) (ownBlock_ge h.hrow h.hg) _) e
 ·exact ownsRow_alike (ownsRow_setCell_other (ownsRow_setCell_other h.nrow (ownBlock_ge h.nrow h.hbg) _) (ownBlock_ge h.nrow h.hg) _) e
theorem GoingAt.ext {w w' : World} {base g bg : Nat} {vh vn : Value} {has needs : List Nat} {gone : List Bool} {free : Nat} (h : GoingAt w base g bg vh vn has needs gone free) (e : Ext w w') :
  GoingAt w' base g bg vh vn has needs gone free := by
 have gb : w.grownBy w' none := ⟨e.os, e.tape, e.output, e.size, fun k hk _ => e.block k hk⟩
 refine ⟨h.cells.of_block (e.block g h.cells.lt), h.row.of_block (e.block bg h.row.lt), h.hrow.kept gb ?_, h.nrow.kept gb ?_, h.hg, h.hbg, h.ne⟩
 ·cases vh.ownBlock <;> simp
 ·cases vn.ownBlock <;> simp
end
end Go.Proofs.YtdafpnpfcmgfcaaGreatDoor
