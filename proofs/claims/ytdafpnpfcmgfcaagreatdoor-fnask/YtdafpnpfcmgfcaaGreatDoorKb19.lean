/- Walks over the program's batchOk and holders. The walk over the program's holders: who has what, in a map. Walks over the copies of batches and books. Walks over the copies of lists of batches, and of books. Walks over whole books: their copies, their sizes. Walks over equality of batches and books, where both are the same. The walk over the specification's ShareBookOk. -/
import Derived.Test.YtdafpnpfcmgfcaaGreatDoorKb18
import Derived.Test.YtdafpnpfcmgfcaaGreatDoorKb17
import Derived.Deep.RegionWith
import Derived.Deep.DeepCutAuto
namespace Go.Proofs.YtdafpnpfcmgfcaaGreatDoor
section
open Go.RowKit
attribute [local go_sem] S_toList S_size S_get
theorem namesOk_eq (l all : List Str) : namesOk l all = (partB l all && ascB l) := by
 unfold namesOk partB ascB
 rw [Bool.eq_iff_iff]
 simp only [Bool.and_eq_true, allLt_true]
 exact ⟨fun k => ⟨fun i hi => (k i hi).1, fun i hi => (k i hi).2⟩, fun ⟨h, m⟩ i hi => ⟨h i hi, m i hi⟩⟩
theorem ext_alloc' (w : World) (o : Obj) : Ext w (w.alloc o) := (Below.refl _ _).alloc (Nat.le_refl _) _
theorem isPartOf_v (a b : Option Addr) (ca cb : Nat) (sa sb : List Str) (v : Bool) (w : World) (ha : StrsAt w a sa) (hb : StrsAt w b sb) (hv : partB sa sb = v) :
  Calls Qry.prog 87 #[.slice a sa.length ca, .slice b sb.length cb] w fun e w' => e = .returned (.bool v) ∧ w' = w := by
 rw [← hv]; exact isPartOf_any a b ca cb sa sb w ha hb
theorem ascending_v (a : Option Addr) (ca : Nat) (sa : List Str) (v : Bool) (w : World) (ha : StrsAt w a sa) (hv : ascB sa = v) :
  Calls Qry.prog 58 #[.slice a sa.length ca] w fun e w' => e = .returned (.bool v) ∧ ∃ n, w' = w.drewN n := by
 rw [← hv]; exact ascending_any a ca sa w ha
set_option maxHeartbeats 400000 in
theorem implBatchOk_any (x : Batch) (a1 a2 a3 : Option Addr) (c1 c2 c3 : Nat) (things : List Str) (w : World) (h1 : StrsAt w a1 x.has) (h2 : StrsAt w a2 x.needs) (h3 : StrsAt w a3 things) :
  Calls Qry.prog 59 #[.agg #[.string (S x.name), .slice a1 x.has.length c1, .slice a2 x.needs.length c2], .slice a3 things.length c3] w fun e w' =>
   e = .returned (.bool (namesOk x.needs things && namesOk x.has x.needs)) ∧ Ext w w' := by
 have hal : ∀ o n, Ext w ((w.alloc o).drewN n) := fun o n => Ext.tr ((Below.refl _ _).alloc (Nat.le_refl _) _) (ext_drewN _ _)
 have HV : Hid ((namesOk x.needs things && namesOk x.has x.needs) = (partB x.needs things && ascB x.needs && partB x.has x.needs && ascB x.has)) := by
  show _ = _
  rw [namesOk_eq, namesOk_eq, Bool.and_assoc, Bool.and_assoc, Bool.and_assoc]
 cases g1 : partB x.needs things
 ·have HF := hid g1
  go_enter Qry.func59, Tryz.ntmps59
  go_wp2
  go_quiet (fail)
  go_wp2_with fail
  refine (isPartOf_v _ _ _ _ _ _ _ _ (h2.ext (hal _ _)) (h3.ext (hal _ _)) g1).mono ?_
  rintro e w1 ⟨rfl, rfl⟩
  go_wp2_with fail
  go_ret
  exact ⟨ret_bool (by rw [HV.out, HF.out]; rfl), hal _ _⟩
 ·cases g2 : ascB x.needs
  ·have HF := hid (And.intro g1 g2)
   go_enter Qry.func59, Tryz.ntmps59
   go_wp2
   go_quiet (fail)
   go_wp2_with fail
   refine (isPartOf_v _ _ _ _ _ _ _ _ (h2.ext (hal _ _)) (h3.ext (hal _ _)) g1).mono ?_
   rintro e w1 ⟨rfl, rfl⟩
   go_wp2_with fail
   refine (ascending_v _ _ _ _ _ (h2.ext (hal _ _)) g2).mono ?_
   rintro e w1 ⟨rfl, n1, rfl⟩
   go_wp2_with fail
   go_ret
   exact ⟨ret_bool (by rw [HV.out, HF.out.1, HF.out.2]; rfl), Ext.tr (ext_alloc' _ _) (ext_drewN _ _)⟩
  ·cases g3 : partB x.has x.needs
   ·have HF := hid (And.intro g1 (And.intro g2 g3))
    go_enter Qry.func59, Tryz.ntmps59
    go_wp2
    go_quiet (fail)
    go_wp2_with fail
    refine (isPartOf_v _ _ _ _ _ _ _ _ (h2.ext (hal _ _)) (h3.ext (hal _ _)) g1).mono ?_
    rintro e w1 ⟨rfl, rfl⟩
    go_wp2_with fail
    refine (ascending_v _ _ _ _ _ (h2.ext (hal _ _)) g2).mono ?_
    rintro e w1 ⟨rfl, n1, rfl⟩
    go_wp2_with fail
    refine (isPartOf_v _ _ _ _ _ _ _ _ (h1.ext (hal _ _)) (h2.ext (hal _ _)) g3).mono ?_
    rintro e w1 ⟨rfl, rfl⟩
    go_wp2_with fail
    go_ret
    exact ⟨ret_bool (by rw [HV.out, HF.out.1, HF.out.2.1, HF.out.2.2]; rfl), Ext.tr (ext_alloc' _ _) (ext_drewN _ _)⟩
   ·have HF := hid (And.intro g1 (And.intro g2 g3))
    go_enter Qry.func59, Tryz.ntmps59
    go_wp2
    go_quiet (fail)
    go_wp2_with fail
    refine (isPartOf_v _ _ _ _ _ _ _ _ (h2.ext (hal _ _)) (h3.ext (hal _ _)) g1).mono ?_
    rintro e w1 ⟨rfl, rfl⟩
    go_wp2_with fail
    refine (ascending_v _ _ _ _ _ (h2.ext (hal _ _)) g2).mono ?_
    rintro e w1 ⟨rfl, n1, rfl⟩
    go_wp2_with fail
    refine (isPartOf_v _ _ _ _ _ _ _ _ (h1.ext (hal _ _)) (h2.ext (hal _ _)) g3).mono ?_
    rintro e w1 ⟨rfl, rfl⟩
    go_wp2_with fail
    refine (ascending_any _ _ _ _ (h1.ext (hal _ _))).mono ?_
    rintro e w1 ⟨rfl, n2, rfl⟩
    go_wp2_with fail
    go_ret
    exact ⟨ret_bool (by rw [HV.out, HF.out.1, HF.out.2.1, HF.out.2.2]; rfl), Ext.tr (ext_alloc' _ _) (ext_drewN _ _)⟩
end
section
open Go.RowKit Go.Maps
attribute [local go_sem] S_toList S_size S_get
theorem lawStr : Keyed Qry.prog 9 := string_keyed (uQ Tryz.underlying9)
theorem zeroInt (w : World) : (zeroValue 3).run Qry.prog w = .ok (.int .i64 0) w := by kernel_rfl
theorem keyStr {x : Str} (h : x.length ≤ 140737488355328) : keyOf Qry.prog 9 (.string (S x)) = some (.string x) := by
 have h1 := WideMaps.keyOf_string_mk (P := Qry.prog) (uQ Tryz.underlying9) (s := S x) (by rw [S_size]; unfold maxLen; omega)
 rw [S_data] at h1; exact h1
def OwnM (w : World) (B : Nat) (L : List (Str × Nat)) : Prop :=
 ∃ n D, w.ownsMap Qry.prog 9 (plainElem (H := Unit) Qry.prog 3) B n D ∧ n ≤ L.length ∧ MapIs D L
theorem OwnM.alloc {w : World} {B : Nat} {L : List (Str × Nat)} (h : OwnM w B L) (o : Obj) : OwnM (w.alloc o) B L := by
 obtain ⟨n, D, h1, h2, h3⟩ := h
 exact ⟨n, D, h1.alloc o, h2, h3⟩
theorem has_le {w : World} {a : Option Addr} {bs : List Batch} (ha : BatchesAt w a bs) : ∀ i, (nthB bs i).has.length ≤ 8796093022208 := by
 intro i
 by_cases h : i < bs.length
 ·obtain ⟨_, _, _, _, _, _, _, _, _, _, _, s1, _⟩ := ha.2 i h
  exact s1.1
 ·have e : nthB bs i = nob := by unfold nthB; rw [List.getD_eq_getElem?_getD, List.getElem?_eq_none (by omega)]; rfl
  rw [e]; simp [nob]
set_option maxHeartbeats 1000000 in
theorem holders_any (a : Option Addr) (ca : Nat) (bs : List Batch) (w : World) (ha : BatchesAt w a bs) (h5 : bs.length ≤ 5) :
  Calls Qry.prog 60 #[.slice a bs.length ca] w fun e w' => Ext w w' ∧
   ((e = .returned (.tuple #[.map none, .bool false]) ∧ onceB bs = false) ∨
   (∃ B, e = .returned (.tuple #[.map (some B), .bool true]) ∧ onceB bs = true ∧ OwnM w' B (pairsTo bs bs.length))) := by
 have hle := has_le ha
 have HLE := hid hle
 clear hle
 have hmm := @run_makeMap Qry.prog
 go_enter Qry.func60, Tryz.ntmps60
 go_wp2
 clear hmm
 go_loopw [14] (fun ii wr => ∃ i : Nat, i ≤ bs.length ∧ ii = .int .i64 i ∧ Below w.heap.size w wr ∧ OwnM wr w.heap.size (pairsTo bs i) ∧ (keys (pairsTo bs i)).Nodup) (fun ii _ => bs.length - (intOf ii).toNat)
 case atStart => exact ⟨0, Nat.zero_le _, rfl, (Below.refl _ _).alloc (Nat.le_refl _) _, ⟨0, _, World.ownsMap_made _ _ _ _, Nat.zero_le _, mapIs_nil⟩, by simp [keys, pairsTo]⟩
 case round =>
  obtain ⟨i, hi, rfl, hbel, hown, hnd⟩ := hrel
  have HB := hid hbel
  have HO := hid hown
  have HN := hid hnd
  have ha' : BatchesAt wr a bs := ha.ext hbel
  have hz := hbel.size
  by_cases hlt : i < bs.length
  ·obtain ⟨ba, oa, rfl, hl, a1, c1, a2, c2, p0, p1, p2, s1, s2⟩ := ha.2 i hlt
   have q0 := Ext.keep hbel p0
   have q1 := Ext.keep hbel p1
   have q2 := Ext.keep hbel p2
   clear hbel hown hnd ha' p0 p1 p2
   have hnh := s1.1
   go_wp2
   go_loopw [22] (fun jj wq => ∃ j : Nat, j ≤ (nthB bs i).has.length ∧ jj = .int .i64 j ∧ Below w.heap.size w wq ∧ OwnM wq w.heap.size (halfP bs i j) ∧ (keys (halfP bs i j)).Nodup) (fun jj _ => (nthB bs i).has.length - (intOf jj).toNat)
   case atStart => exact ⟨0, Nat.zero_le _, rfl, HB.out.alloc hz _, by rw [halfP_zero]; exact HO.out.alloc _, by rw [halfP_zero]; exact HN.out⟩
   case round =>
    obtain ⟨j, hj, rfl, hbel, hown, hnd⟩ := hrel
    have HB1 := hid hbel
    have HN1 := hid hnd
    have hs' := s1.ext hbel
    have hz1 := hbel.size
    clear hnd hbel
    by_cases hjt : j < (nthB bs i).has.length
    ·obtain ⟨hxl, bx, ox, rfl, hcx⟩ := hs'.2 j hjt
     have hkey := keyStr hxl
     obtain ⟨m, D, hom, hmn, hmap⟩ := hown
     have hbd := halfP_len HLE.out i j
     cases hq : hasB (keys (halfP bs i j)) (nth (nthB bs i).has j)
     ·have hhas : Maps.has D (.string (nth (nthB bs i).has j)) = false := by rw [hmap.2.1, hq]
      have hnot : nth (nthB bs i).has j ∉ keys (halfP bs i j) := fun h => by rw [hasB_true.2 h] at hq; cases hq
      have HM := hid hmap
      have HK := hid (keys_snoc hjt HN1.out hnot)
      have HNOT := hid hnot
      clear hnot hmap
      go_wp2_with (first
       | (at_lookup; refine wpList_lookup_own_ok_int _ rfl _ _ 85 rfl 9 3 .i64 lawStr (uQ Tryz.underlying85) (uQ Tryz.underlying3) (zeroInt _) w.heap.size m D rfl hom _ _ rfl hkey ?_; intro c hat hwc; rw [hhas])
       | (at_mapUpdate; refine wpList_mapUpdate_own _ rfl _ _ _ 85 rfl 9 3 lawStr (uQ Tryz.underlying85) _ w.heap.size m D rfl hom (by unfold maxLen; omega) _ _ _ rfl rfl hkey _ [] (plainElem_int (uQ Tryz.underlying3) (WalkArith.wf_i64 (by omega))) ?_; intro w1 hown1 hgrow1))
      have HB2 : Hid (Below w.heap.size w w1) := HB1.out.grown hgrow1 hz1 (fun g hg => by cases hg; exact Nat.le_refl _)
      have HO2 : Hid (OwnM w1 w.heap.size (halfP bs i (j + 1))) := by
       refine ⟨m + 1, _, hown1, ?_, ?_⟩
       ·rw [halfP_succ hjt]; simp; omega
       ·rw [halfP_succ hjt]; exact HM.out.put HNOT.out i
      clear hown1 hgrow1 hom
      go_wp2
      go_roundw
      case rel => exact ⟨j + 1, by omega, by go_num, HB2.out, HO2.out, HK.out⟩
      case measure => simp [intOf]; omega
     ·have hhas : Maps.has D (.string (nth (nthB bs i).has j)) = true := by rw [hmap.2.1, hq]
      have HF : Hid (onceB bs = false) := onceB_no hlt hjt (hasB_true.1 hq)
      clear hmap
      go_wp2_with (at_lookup; refine wpList_lookup_own_ok_int _ rfl _ _ 85 rfl 9 3 .i64 lawStr (uQ Tryz.underlying85) (uQ Tryz.underlying3) (zeroInt _) w.heap.size m D rfl hom _ _ rfl hkey ?_; intro c hat hwc; rw [hhas])
      go_ret2
      exact ⟨HB1.out, Or.inl ⟨rfl, HF.out⟩⟩
    ·have e : j = (nthB bs i).has.length := by omega
     have HO2 : Hid (OwnM wr w.heap.size (pairsTo bs (i + 1))) := by rw [← halfP_full, ← e]; exact hown
     have HN2 : Hid (keys (pairsTo bs (i + 1))).Nodup := by rw [← halfP_full, ← e]; exact HN1.out
     clear hown e
     go_wp2
     go_roundw
     case rel => exact ⟨i + 1, by omega, by go_num, HB1.out, HO2.out, HN2.out⟩
     case measure => simp [intOf]; omega
  ·have e : i = bs.length := by omega
   have HO2 : Hid (OwnM wr w.heap.size (pairsTo bs bs.length)) := by rw [← e]; exact hown
   have HF : Hid (onceB bs = true) := by
    show _ = true
    unfold onceB; rw [← e]; simpa using hnd
   clear hbel hown hnd e
   go_wp2
   go_ret2
   exact ⟨HB.out, Or.inr ⟨_, rfl, HF.out, HO2.out⟩⟩
end
section
open Go.RowKit
attribute [local go_sem] S_toList S_size S_get
end
section
open Go.RowKit
attribute [local go_sem] S_toList S_size S_get
theorem Qry.infoBatch : (Qry.prog.info? 73).map (fun i => (i.zero, i.size, i.bytes)) = some (some (.agg #[.string (S []), .slice none 0 0, .slice none 0 0]), 3, 64) := by kernel_rfl
def zero3 (n : Nat) : Array Value := madeCells #[.string (S []), .slice none 0 0, .slice none 0 0] (n * 3)
def HalfB (w : World) (B n k : Nat) (bs : List Batch) : Prop :=
 ∃ f, w.rowIs B 73 (n * 3) f ∧ ∀ i, i < k → f (i * 3) = .string (S (nthB bs i).name) ∧ (nthB bs i).name.length ≤ 140737488355328 ∧
  ∃ b1 b2, f (i * 3 + 1) = .slice (some ⟨b1, 0, none⟩) (nthB bs i).has.length (nthB bs i).has.length ∧ f (i * 3 + 2) = .slice (some ⟨b2, 0, none⟩) (nthB bs i).needs.length (nthB bs i).needs.length ∧
   B < b1 ∧ B < b2 ∧ OwnStrs w b1 (nthB bs i).has ∧ OwnStrs w b2 (nthB bs i).needs
end
section
open Go.RowKit
attribute [local go_sem] S_toList S_size S_get
def OwnBook (w : World) (b1 b2 : Nat) (b : Book) : Prop :=
 b1 < b2 ∧ OwnStrs w b1 b.things ∧ b.batches.length ≤ 2199023255552 ∧ HalfB w b2 b.batches.length b.batches.length b.batches
def bookV (a1 a2 : Option Addr) (c1 c2 : Nat) (b : Book) : Value := .agg #[.slice a1 b.things.length c1, .slice a2 b.batches.length c2]
end
section
open Go.RowKit
attribute [local go_sem] S_toList S_size S_get
theorem eqS_self (l : List Str) : eqS l l = true := by simp [eqS]
end
section
open Go.RowKit
attribute [local go_sem] S_toList S_size S_get
def goodB (b : Book) (i : Nat) : Bool := batchOk b i && allLt i (fun k => !shareB (b.at i).has (b.at k).has)
theorem bookOk_no1 {b : Book} (h : thingsOk b.things = false) : bookOk b = false := by simp [bookOk, h]
theorem bookOk_no2 {b : Book} (h : ¬ b.batches.length ≤ 5) : bookOk b = false := by simp [bookOk, h]
theorem bookOk_no3 {b : Book} {i : Nat} (hi : i < b.batches.length) (h : goodB b i = false) : bookOk b = false := by
 unfold bookOk; rw [allLt_no (p := fun i => batchOk b i && allLt i (fun k => !shareB (b.at i).has (b.at k).has)) hi h]; simp
theorem bookOk_yes {b : Book} (h1 : thingsOk b.things = true) (h2 : b.batches.length ≤ 5) (h3 : ∀ i, i < b.batches.length → goodB b i = true) : bookOk b = true := by
 unfold bookOk; rw [allLt_of (p := fun i => batchOk b i && allLt i (fun k => !shareB (b.at i).has (b.at k).has)) h3, h1]; simp [h2]
theorem goodB_no {b : Book} {i : Nat} (h : batchOk b i = false) : goodB b i = false := by simp [goodB, h]
theorem goodB_no' {b : Book} {i k : Nat} (hk : k < i) (h : shareB (b.at i).has (b.at k).has = true) : goodB b i = false := by
 unfold goodB; rw [allLt_no (p := fun k => !shareB (b.at i).has (b.at k).has) hk (by simp [h])]; simp
theorem box_cell {w wr : World} {c : Array Value} {T : TypeId} (h : Ext (w.alloc (.cells c T)) wr) {i : Nat} {v : Value} (hi : c[i]? = some v) : wr.cell? ⟨w.heap.size, i, none⟩ = some v := by
 refine Ext.keep h ?_
 have hh : (w.alloc (.cells c T)).heap[w.heap.size]? = some (.cells c T) := Go.Deep.blk_alloc_new _ _
 unfold World.cell?
 simp only [hh]
 exact hi
theorem ext_alloc (w : World) (o : Obj) : Ext w (w.alloc o) := (Below.refl _ _).alloc (Nat.le_refl _) _
theorem draws_ext {W wq : World} (h : ∃ n, wq = W.drewN n) : Ext W wq := by obtain ⟨n, rfl⟩ := h; exact ext_drewN _ _
theorem draws_cell {W wq : World} (h : ∃ n, wq = W.drewN n) {p : Addr} {v : Value} (hc : W.cell? p = some v) : wq.cell? p = some v := (draws_ext h).keep hc
theorem l1Share_v (a b : Option Addr) (ca cb : Nat) (sa sb : List Str) (v : Bool) (w : World) (ha : StrsAt w a sa) (hb : StrsAt w b sb) (hv : shareB sa sb = v) :
  Calls Qry.prog 83 #[.slice a sa.length ca, .slice b sb.length cb] w fun e w' => e = .returned (.bool v) ∧ w' = w := by
 rw [← hv]; exact l1Share_any a b ca cb sa sb w ha hb
theorem l1NamesOk_v (a b : Option Addr) (ca cb : Nat) (sa sb : List Str) (v : Bool) (w : World) (ha : StrsAt w a sa) (hb : StrsAt w b sb) (hv : namesOk sa sb = v) :
  Calls Qry.prog 47 #[.slice a sa.length ca, .slice b sb.length cb] w fun e w' => e = .returned (.bool v) ∧ ∃ n, w' = w.drewN n := by
 rw [← hv]; exact l1NamesOk_any a b ca cb sa sb w ha hb
theorem l1NameOk_v (s : Str) (v : Bool) (w : World) (hs : s.length ≤ 140737488355328) (hv : nameOk s = v) :
  Calls Qry.prog 46 #[.string (S s)] w fun e w' => e = .returned (.bool v) ∧ w' = w := by
 rw [← hv]; exact l1NameOk_any s w hs
set_option maxHeartbeats 1000000 in
theorem specBookOk_any (b : Book) (a1 a2 : Option Addr) (c1 c2 : Nat) (w : World) (hb : BookAt w a1 a2 b) :
  Calls Qry.prog 44 #[.agg #[.slice a1 b.things.length c1, .slice a2 b.batches.length c2]] w fun e w' =>
   e = .returned (.bool (bookOk b)) ∧ Ext w w' := by
 have hal : ∀ o, Ext w (w.alloc o) := fun o => (Below.refl _ _).alloc (Nat.le_refl _) _
 obtain ⟨ht, hbs⟩ := hb
 have hn := hbs.1
 cases hth : thingsOk b.things
 ·have HF : Hid (bookOk b = false) := bookOk_no1 hth
  go_enter Qry.func44, Tryz.ntmps44
  go_wp2_with fail
  refine (l1ThingsOk_any _ _ _ _ (ht.ext (hal _))).mono ?_
  rintro e w1 ⟨rfl, n1, rfl⟩
  go_wp2_with fail
  go_ret
  exact ⟨ret_bool HF.out.symm, Ext.tr (hal _) (ext_drewN _ _)⟩
 ·by_cases h5 : b.batches.length ≤ 5
  ·go_enter Qry.func44, Tryz.ntmps44
   go_wp2_with fail
   refine (l1ThingsOk_any _ _ _ _ (ht.ext (hal _))).mono ?_
   rintro e w1 ⟨rfl, hq⟩
   have hex : Ext (w.alloc (.cells #[.slice a1 b.things.length c1, .slice a2 b.batches.length c2] 26)) w1 := by obtain ⟨n1, e⟩ := hq; rw [e]; exact ext_drewN _ _
   have hx0 := box_cell hex (i := 0) rfl
   have hx1 := box_cell hex (i := 1) rfl
   clear hq
   go_wp2_with fail
   go_loopw [3] (fun i wr => ∃ k : Nat, k ≤ b.batches.length ∧ i = .int .i64 k ∧ Ext (w.alloc (.cells #[.slice a1 b.things.length c1, .slice a2 b.batches.length c2] 26)) wr ∧ ∀ j, j < k → goodB b j = true) (fun i _ => b.batches.length - (intOf i).toNat)
   case atStart => exact ⟨0, Nat.zero_le _, rfl, hex, fun j hj => by omega⟩
   case round =>
    obtain ⟨k, hk, rfl, hext, hx⟩ := hrel
    clear hx0 hx1 hex
    have hx0 := box_cell hext (i := 0) rfl
    have hx1 := box_cell hext (i := 1) rfl
    have ht' := ht.ext (Ext.tr (hal _) hext)
    have hbs' := hbs.ext (Ext.tr (hal _) hext)
    have HX : Hid (∀ j, j < k → goodB b j = true) := hx
    have HE : Hid (Ext w wr) := Ext.tr (hal _) hext
    have HE0 : Hid (Ext (w.alloc (.cells #[.slice a1 b.things.length c1, .slice a2 b.batches.length c2] 26)) wr) := hext
    clear hx hext
    by_cases hlt : k < b.batches.length
    ·obtain ⟨ba, oa, rfl, hl, d1, g1, d2, g2, p0, p1, p2, s1, s2⟩ := hbs'.2 k hlt
     cases hname : nameOk (nthB b.batches k).name
     ·have HF : Hid (bookOk b = false) := bookOk_no3 hlt (goodB_no (by unfold batchOk; unfold Book.at; rw [hname]; rfl))
      go_wp2_with fail
      go_quiet ((go_at_call 46; exact Calls.quiet_of_same (l1NameOk_v _ _ _ hl hname)))
      go_wp2
      go_ret
      exact ⟨ret_bool HF.out.symm, Ext.tr HE.out (Ext.tr (ext_alloc _ _) (ext_drewN _ _))⟩
     ·have hx0' : ∀ o, (wr.alloc o).cell? ⟨w.heap.size, 0, none⟩ = some (.slice a1 b.things.length c1) := fun o => (ext_alloc _ _).keep hx0
      have hx1' : ∀ o, (wr.alloc o).cell? ⟨w.heap.size, 1, none⟩ = some (.slice (some ⟨ba, oa, none⟩) b.batches.length c2) := fun o => (ext_alloc _ _).keep hx1
      have t1 : StrsAt (wr.alloc (.cells #[.string (S (nthB b.batches k).name), .slice d1 (nthB b.batches k).has.length g1, .slice d2 (nthB b.batches k).needs.length g2] 73)) d1 (nthB b.batches k).has := s1.ext (ext_alloc _ _)
      have t2 : StrsAt (wr.alloc (.cells #[.string (S (nthB b.batches k).name), .slice d1 (nthB b.batches k).has.length g1, .slice d2 (nthB b.batches k).needs.length g2] 73)) d2 (nthB b.batches k).needs := s2.ext (ext_alloc _ _)
      have t3 : StrsAt (wr.alloc (.cells #[.string (S (nthB b.batches k).name), .slice d1 (nthB b.batches k).has.length g1, .slice d2 (nthB b.batches k).needs.length g2] 73)) a1 b.things := ht'.ext (ext_alloc _ _)
      have hcase : (decide (0 < k) = false ∧ Hid (upB b k = true)) ∨ (decide (0 < k) = true ∧ ∃ (q : Nat) (nm : Str), IntKind.i64.wrap ((k : Int) - 1) = (q : Int) ∧ q < b.batches.length ∧ (∀ o, (wr.alloc o).cell? ⟨ba, oa + q * 3, none⟩ = some (.string (S nm))) ∧ Hid (upB b k = Op.bytesLess nm (nthB b.batches k).name)) := by
       by_cases h0 : k = 0
       ·exact Or.inl ⟨by simp; omega, by show _ = true; simp [upB, h0]⟩
       ·refine Or.inr ⟨by simp; omega, k - 1, (nthB b.batches (k - 1)).name, by rw [IntKind.wrap_i64]; omega, by omega, ?_, by show _ = _; simp [upB, h0, Book.at]⟩
        obtain ⟨ba', oa', e', _, _, _, _, _, q0, _⟩ := hbs'.2 (k - 1) (by omega)
        injection e' with e'; injection e' with e1 e2; subst e1 e2
        exact fun o => (ext_alloc _ _).keep q0
      rcases hcase with ⟨hd, HU⟩ | ⟨hd, q, nm, hwq, hqn, hprev, HU⟩
      rotate_left
      cases hu : Op.bytesLess nm (nthB b.batches k).name
      ·have HF : Hid (bookOk b = false) := bookOk_no3 hlt (goodB_no (by unfold batchOk; rw [HU.out, hu]; simp))
       go_wp2_with fail
       go_quiet ((go_at_call 46; exact Calls.quiet_of_same (l1NameOk_v _ _ _ hl hname)))
       go_wp2
       go_ret
       exact ⟨ret_bool HF.out.symm, Ext.tr HE.out (Ext.tr (ext_alloc _ _) (ext_drewN _ _))⟩
      rotate_left
      all_goals
       cases hneeds : namesOk (nthB b.batches k).needs b.things
       ·have HF : Hid (bookOk b = false) := bookOk_no3 hlt (goodB_no (by unfold batchOk; unfold Book.at; rw [hneeds]; simp))
        go_wp2_with fail
        go_quiet ((first | (go_at_call 46; exact Calls.quiet_of_same (l1NameOk_v _ _ _ hl hname)) | (go_at_call 47; exact Calls.quiet_of (l1NamesOk_v _ _ _ _ _ _ _ _ (t2.drewN _) (t3.drewN _) hneeds))))
        go_wp2
        go_ret
        exact ⟨ret_bool HF.out.symm, Ext.tr HE.out (Ext.tr (ext_alloc _ _) (ext_drewN _ _))⟩
       ·cases hhas : namesOk (nthB b.batches k).has (nthB b.batches k).needs
        ·have HF : Hid (bookOk b = false) := bookOk_no3 hlt (goodB_no (by unfold batchOk; unfold Book.at; rw [hhas]; simp))
         go_wp2_with fail
         go_quiet ((first | (go_at_call 46; exact Calls.quiet_of_same (l1NameOk_v _ _ _ hl hname)) | (go_at_call_of 47 (b.things); exact Calls.quiet_of (l1NamesOk_v _ _ _ _ _ _ _ _ (t2.drewN _) (t3.drewN _) hneeds)) | (go_at_call 47; exact Calls.quiet_of (l1NamesOk_v _ _ _ _ _ _ _ _ (t1.drewN _) (t2.drewN _) hhas))))
         go_wp2
         go_ret
         exact ⟨ret_bool HF.out.symm, Ext.tr HE.out (Ext.tr (ext_alloc _ _) (ext_drewN _ _))⟩
        ·have HG : Hid (batchOk b k = true) := by
          show _ = true
          unfold batchOk; rw [HU.out]; unfold Book.at; rw [hname, hneeds, hhas]; first | rfl | (rw [hu]; rfl)
         go_wp2_with fail
         go_quiet ((first | (go_at_call 46; exact Calls.quiet_of_same (l1NameOk_v _ _ _ hl hname)) | (go_at_call_of 47 (b.things); exact Calls.quiet_of (l1NamesOk_v _ _ _ _ _ _ _ _ (t2.drewN _) (t3.drewN _) hneeds)) | (go_at_call 47; exact Calls.quiet_of (l1NamesOk_v _ _ _ _ _ _ _ _ (t1.drewN _) (t2.drewN _) hhas))))
         go_wp2
         have hbx := box_cell (Ext.rfl' (wr.alloc (.cells #[.string (S (nthB b.batches k).name), .slice d1 (nthB b.batches k).has.length g1, .slice d2 (nthB b.batches k).needs.length g2] 73))) (i := 1) rfl
         go_loopw [5] (fun kk wq => ∃ m : Nat, m ≤ k ∧ kk = .int .i64 m ∧ (∃ n, wq = (wr.alloc (.cells #[.string (S (nthB b.batches k).name), .slice d1 (nthB b.batches k).has.length g1, .slice d2 (nthB b.batches k).needs.length g2] 73)).drewN n) ∧ ∀ j, j < m → shareB (nthB b.batches k).has (nthB b.batches j).has = false) (fun kk _ => k - (intOf kk).toNat)
         case atStart => exact ⟨0, Nat.zero_le _, rfl, ⟨_, rfl⟩, fun j hj => by omega⟩
         case round =>
          obtain ⟨m, hm, rfl, hq, hy⟩ := hrel
          have HY : Hid (∀ j, j < m → shareB (nthB b.batches k).has (nthB b.batches j).has = false) := hy
          have HW := hid hq
          have y1 := draws_cell hq (hx1' _)
          have y2 := draws_cell hq hbx
          have t1q := t1.draws hq
          clear hy
          by_cases hmk : m < k
          ·obtain ⟨ba', oa', e', _, e1, f1, _, _, _, q1, _, t4, _⟩ := hbs'.2 m (by omega)
           injection e' with e'; injection e' with ee1 ee2; subst ee1 ee2
           have q1q := draws_cell hq ((ext_alloc _ _).keep q1)
           have t4q := (t4.ext (ext_alloc _ _)).draws hq
           have hmn : m < b.batches.length := by omega
           clear hq q1 t4
           cases hsh : shareB (nthB b.batches k).has (nthB b.batches m).has
           ·have HQ : Hid (shareB (nthB b.batches k).has (nthB b.batches m).has = false) := hsh
            go_wp2
            go_quiet ((go_at_call 83; exact Calls.quiet_of_same (l1Share_v _ _ _ _ _ _ _ _ (t1q.drewN _) (t4q.drewN _) hsh)))
            go_wp2
            have HZ : ∀ j, j < m + 1 → shareB (nthB b.batches k).has (nthB b.batches j).has = false := fun j hj => by
             by_cases e : j = m
             ·rw [e]; exact HQ.out
             ·exact HY.out j (by omega)
            go_roundw
            case rel => exact ⟨m + 1, by omega, by go_num, drewN_tr HW.out ⟨_, rfl⟩, HZ⟩
            case measure => simp [intOf]; omega
           ·have HF : Hid (bookOk b = false) := bookOk_no3 hlt (goodB_no' hmk hsh)
            go_wp2
            go_quiet ((go_at_call 83; exact Calls.quiet_of_same (l1Share_v _ _ _ _ _ _ _ _ (t1q.drewN _) (t4q.drewN _) hsh)))
            go_wp2
            go_ret
            exact ⟨ret_bool HF.out.symm, Ext.tr HE.out (Ext.tr (ext_alloc _ _) (draws_ext (drewN_tr HW.out ⟨_, rfl⟩)))⟩
          ·have HK : Hid (goodB b k = true) := by
            show _ = true
            unfold goodB; rw [HG.out, allLt_of (fun j hj => by have := HY.out j (by omega); unfold Book.at; rw [this]; rfl)]; rfl
           clear hq
           go_wp2
           go_roundw
           case rel => exact ⟨k + 1, by omega, by go_num, Ext.tr HE0.out (Ext.tr (ext_alloc _ _) (draws_ext HW.out)), fun j hj => by
            by_cases e : j = k
            ·rw [e]; exact HK.out
            ·exact HX.out j (by omega)⟩
           case measure => simp [intOf]; omega
    ·have HF : Hid (bookOk b = true) := bookOk_yes hth h5 (fun j hj => HX.out j (by omega))
     go_wp2
     go_ret
     exact ⟨ret_bool HF.out.symm, HE.out⟩
  ·have HF : Hid (bookOk b = false) := bookOk_no2 h5
   go_enter Qry.func44, Tryz.ntmps44
   go_wp2_with fail
   refine (l1ThingsOk_any _ _ _ _ (ht.ext (hal _))).mono ?_
   rintro e w1 ⟨rfl, n1, rfl⟩
   go_wp2_with fail
   go_ret
   exact ⟨ret_bool HF.out.symm, Ext.tr (hal _) (ext_drewN _ _)⟩
end
end Go.Proofs.YtdafpnpfcmgfcaaGreatDoor
