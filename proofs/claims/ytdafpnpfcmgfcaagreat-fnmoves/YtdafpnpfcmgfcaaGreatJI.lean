/- Walks over the program's batchOk and holders. The walk over the program's holders: who has what, in a map. The walk over the program's ShareBookOk. Who has a thing: the specification's ShareWho and the program's. -/
import Derived.Test.YtdafpnpfcmgfcaaGreatJH
import Derived.Test.YtdafpnpfcmgfcaaGreatJG
import Derived.Test.YtdafpnpfcmgfcaaGreatW9
namespace Go.Proofs.YtdafpnpfcmgfcaaGreat
open Go.RowKit
attribute [local go_sem] S_toList S_size S_get

theorem namesOk_eq (l all : List Str) : namesOk l all = (partB l all && ascB l) := by
  unfold namesOk partB ascB
  rw [Bool.eq_iff_iff]
  simp only [Bool.and_eq_true, allLt_true]
  exact ⟨fun k => ⟨fun i hi => (k i hi).1, fun i hi => (k i hi).2⟩, fun ⟨h, m⟩ i hi => ⟨h i hi, m i hi⟩⟩

theorem ext_alloc' (w : World) (o : Obj) : Ext w (w.alloc o) := (Below.refl _ _).alloc (Nat.le_refl _) _

theorem isPartOf_v (a b : Option Addr) (ca cb : Nat) (sa sb : List Str) (v : Bool) (w : World) (ha : StrsAt w a sa) (hb : StrsAt w b sb) (hv : partB sa sb = v) :
    Calls Qry.prog 55 #[.slice a sa.length ca, .slice b sb.length cb] w fun e w' => e = .returned (.bool v) ∧ w' = w := by
  rw [← hv]; exact isPartOf_any a b ca cb sa sb w ha hb
theorem ascending_v (a : Option Addr) (ca : Nat) (sa : List Str) (v : Bool) (w : World) (ha : StrsAt w a sa) (hv : ascB sa = v) :
    Calls Qry.prog 38 #[.slice a sa.length ca] w fun e w' => e = .returned (.bool v) ∧ ∃ n, w' = w.drewN n := by
  rw [← hv]; exact ascending_any a ca sa w ha

set_option maxHeartbeats 400000 in
theorem implBatchOk_any (x : Batch) (a1 a2 a3 : Option Addr) (c1 c2 c3 : Nat) (things : List Str) (w : World) (h1 : StrsAt w a1 x.has) (h2 : StrsAt w a2 x.needs) (h3 : StrsAt w a3 things) :
    Calls Qry.prog 39 #[.agg #[.string (S x.name), .slice a1 x.has.length c1, .slice a2 x.needs.length c2], .slice a3 things.length c3] w fun e w' =>
      e = .returned (.bool (namesOk x.needs things && namesOk x.has x.needs)) ∧ Ext w w' := by
  have hal : ∀ o n, Ext w ((w.alloc o).drewN n) := fun o n => Ext.tr ((Below.refl _ _).alloc (Nat.le_refl _) _) (ext_drewN _ _)
  have HV : Hid ((namesOk x.needs things && namesOk x.has x.needs) = (partB x.needs things && ascB x.needs && partB x.has x.needs && ascB x.has)) := by
    show _ = _
    rw [namesOk_eq, namesOk_eq, Bool.and_assoc, Bool.and_assoc, Bool.and_assoc]
  cases g1 : partB x.needs things
  · have HF := hid g1
    go_enter Qry.func39, Tryz.ntmps39
    go_wp2
    go_quiet (fail)
    go_wp2_with fail
    refine (isPartOf_v _ _ _ _ _ _ _ _ (h2.ext (hal _ _)) (h3.ext (hal _ _)) g1).mono ?_
    rintro e w1 ⟨rfl, rfl⟩
    go_wp2_with fail
    go_ret
    exact ⟨ret_bool (by rw [HV.out, HF.out]; rfl), hal _ _⟩
  · cases g2 : ascB x.needs
    · have HF := hid (And.intro g1 g2)
      go_enter Qry.func39, Tryz.ntmps39
      go_wp2
      go_quiet (fail)
      go_wp2_with fail
      refine (isPartOf_v _ _ _ _ _ _ _ _ (h2.ext (hal _ _)) (h3.ext (hal _ _)) g1).mono ?_
      rintro e w1 ⟨rfl, rfl⟩
      go_wp2_with fail
      refine (ascending_v _ _ _ _ _ (h2.ext (hal _ _)) g2).mono ?_
      rintro e w1 ⟨rfl, n1, rfl⟩
      go_wp2_with fail
      go_ret
      exact ⟨ret_bool (by rw [HV.out, HF.out.1, HF.out.2]; rfl), Ext.tr (ext_alloc' _ _) (ext_drewN _ _)⟩
    · cases g3 : partB x.has x.needs
      · have HF := hid (And.intro g1 (And.intro g2 g3))
        go_enter Qry.func39, Tryz.ntmps39
        go_wp2
        go_quiet (fail)
        go_wp2_with fail
        refine (isPartOf_v _ _ _ _ _ _ _ _ (h2.ext (hal _ _)) (h3.ext (hal _ _)) g1).mono ?_
        rintro e w1 ⟨rfl, rfl⟩
        go_wp2_with fail
        refine (ascending_v _ _ _ _ _ (h2.ext (hal _ _)) g2).mono ?_
        rintro e w1 ⟨rfl, n1, rfl⟩
        go_wp2_with fail
        refine (isPartOf_v _ _ _ _ _ _ _ _ (h1.ext (hal _ _)) (h2.ext (hal _ _)) g3).mono ?_
        rintro e w1 ⟨rfl, rfl⟩
        go_wp2_with fail
        go_ret
        exact ⟨ret_bool (by rw [HV.out, HF.out.1, HF.out.2.1, HF.out.2.2]; rfl), Ext.tr (ext_alloc' _ _) (ext_drewN _ _)⟩
      · have HF := hid (And.intro g1 (And.intro g2 g3))
        go_enter Qry.func39, Tryz.ntmps39
        go_wp2
        go_quiet (fail)
        go_wp2_with fail
        refine (isPartOf_v _ _ _ _ _ _ _ _ (h2.ext (hal _ _)) (h3.ext (hal _ _)) g1).mono ?_
        rintro e w1 ⟨rfl, rfl⟩
        go_wp2_with fail
        refine (ascending_v _ _ _ _ _ (h2.ext (hal _ _)) g2).mono ?_
        rintro e w1 ⟨rfl, n1, rfl⟩
        go_wp2_with fail
        refine (isPartOf_v _ _ _ _ _ _ _ _ (h1.ext (hal _ _)) (h2.ext (hal _ _)) g3).mono ?_
        rintro e w1 ⟨rfl, rfl⟩
        go_wp2_with fail
        refine (ascending_any _ _ _ _ (h1.ext (hal _ _))).mono ?_
        rintro e w1 ⟨rfl, n2, rfl⟩
        go_wp2_with fail
        go_ret
        exact ⟨ret_bool (by rw [HV.out, HF.out.1, HF.out.2.1, HF.out.2.2]; rfl), Ext.tr (ext_alloc' _ _) (ext_drewN _ _)⟩

end Go.Proofs.YtdafpnpfcmgfcaaGreat
namespace Go.Proofs.YtdafpnpfcmgfcaaGreat
open Go.RowKit Go.Maps
attribute [local go_sem] S_toList S_size S_get

theorem lawStr : Keyed Qry.prog 9 := string_keyed (uQ Tryz.underlying9)
theorem zeroInt (w : World) : (zeroValue 3).run Qry.prog w = .ok (.int .i64 0) w := by kernel_rfl
theorem keyStr {x : Str} (h : x.length ≤ 140737488355328) : keyOf Qry.prog 9 (.string (S x)) = some (.string x) := by
  have h1 := WideMaps.keyOf_string_mk (P := Qry.prog) (uQ Tryz.underlying9) (s := S x) (by rw [S_size]; unfold maxLen; omega)
  rw [S_data] at h1; exact h1

/-- The map in block B reads as these pairs. -/
def OwnM (w : World) (B : Nat) (L : List (Str × Nat)) : Prop :=
  ∃ n D, w.ownsMap Qry.prog 9 (plainElem (H := Unit) Qry.prog 3) B n D ∧ n ≤ L.length ∧ MapIs D L

theorem OwnM.alloc {w : World} {B : Nat} {L : List (Str × Nat)} (h : OwnM w B L) (o : Obj) : OwnM (w.alloc o) B L := by
  obtain ⟨n, D, h1, h2, h3⟩ := h
  exact ⟨n, D, h1.alloc o, h2, h3⟩
theorem OwnM.ext {w w' : World} {B : Nat} {L : List (Str × Nat)} (h : OwnM w B L) (e : Ext w w') : OwnM w' B L := by
  obtain ⟨n, D, h1, h2, h3⟩ := h
  exact ⟨n, D, h1.kept (row := none) ⟨e.os, e.tape, e.output, e.size, fun k hk _ => e.block k hk⟩ (by simp), h2, h3⟩

theorem has_le {w : World} {a : Option Addr} {bs : List Batch} (ha : BatchesAt w a bs) : ∀ i, (nthB bs i).has.length ≤ 8796093022208 := by
  intro i
  by_cases h : i < bs.length
  · obtain ⟨_, _, _, _, _, _, _, _, _, _, _, s1, _⟩ := ha.2 i h
    exact s1.1
  · have e : nthB bs i = nob := by unfold nthB; rw [List.getD_eq_getElem?_getD, List.getElem?_eq_none (by omega)]; rfl
    rw [e]; simp [nob]

set_option maxHeartbeats 1000000 in
theorem holders_any (a : Option Addr) (ca : Nat) (bs : List Batch) (w : World) (ha : BatchesAt w a bs) (h5 : bs.length ≤ 5) :
    Calls Qry.prog 40 #[.slice a bs.length ca] w fun e w' => Ext w w' ∧
      ((e = .returned (.tuple #[.map none, .bool false]) ∧ onceB bs = false) ∨
       (∃ B, e = .returned (.tuple #[.map (some B), .bool true]) ∧ onceB bs = true ∧ OwnM w' B (pairsTo bs bs.length))) := by
  have hle := has_le ha
  have HLE := hid hle
  clear hle
  have hmm := @run_makeMap Qry.prog
  go_enter Qry.func40, Tryz.ntmps40
  go_wp2
  clear hmm
  go_loopw [14] (fun ii wr => ∃ i : Nat, i ≤ bs.length ∧ ii = .int .i64 i ∧ Below w.heap.size w wr ∧ OwnM wr w.heap.size (pairsTo bs i) ∧ (keys (pairsTo bs i)).Nodup) (fun ii _ => bs.length - (intOf ii).toNat)
  case atStart => exact ⟨0, Nat.zero_le _, rfl, (Below.refl _ _).alloc (Nat.le_refl _) _, ⟨0, _, World.ownsMap_made _ _ _ _, Nat.zero_le _, mapIs_nil⟩, by simp [keys, pairsTo]⟩
  case round =>
    obtain ⟨i, hi, rfl, hbel, hown, hnd⟩ := hrel
    have HB := hid hbel
    have HO := hid hown
    have HN := hid hnd
    have ha' : BatchesAt wr a bs := ha.ext hbel
    have hz := hbel.size
    by_cases hlt : i < bs.length
    · obtain ⟨ba, oa, rfl, hl, a1, c1, a2, c2, p0, p1, p2, s1, s2⟩ := ha.2 i hlt
      have q0 := Ext.keep hbel p0
      have q1 := Ext.keep hbel p1
      have q2 := Ext.keep hbel p2
      clear hbel hown hnd ha' p0 p1 p2
      have hnh := s1.1
      go_wp2
      go_loopw [22] (fun jj wq => ∃ j : Nat, j ≤ (nthB bs i).has.length ∧ jj = .int .i64 j ∧ Below w.heap.size w wq ∧ OwnM wq w.heap.size (halfP bs i j) ∧ (keys (halfP bs i j)).Nodup) (fun jj _ => (nthB bs i).has.length - (intOf jj).toNat)
      case atStart => exact ⟨0, Nat.zero_le _, rfl, HB.out.alloc hz _, by rw [halfP_zero]; exact HO.out.alloc _, by rw [halfP_zero]; exact HN.out⟩
      case round =>
        obtain ⟨j, hj, rfl, hbel, hown, hnd⟩ := hrel
        have HB1 := hid hbel
        have HN1 := hid hnd
        have hs' := s1.ext hbel
        have hz1 := hbel.size
        clear hnd hbel
        by_cases hjt : j < (nthB bs i).has.length
        · obtain ⟨hxl, bx, ox, rfl, hcx⟩ := hs'.2 j hjt
          have hkey := keyStr hxl
          obtain ⟨m, D, hom, hmn, hmap⟩ := hown
          have hbd := halfP_len HLE.out i j
          cases hq : hasB (keys (halfP bs i j)) (nth (nthB bs i).has j)
          · have hhas : Maps.has D (.string (nth (nthB bs i).has j)) = false := by rw [hmap.2.1, hq]
            have hnot : nth (nthB bs i).has j ∉ keys (halfP bs i j) := fun h => by rw [hasB_true.2 h] at hq; cases hq
            have HM := hid hmap
            have HK := hid (keys_snoc hjt HN1.out hnot)
            have HNOT := hid hnot
            clear hnot hmap
            go_wp2_with (first
              | (at_lookup; refine wpList_lookup_own_ok_int _ rfl _ _ 70 rfl 9 3 .i64 lawStr (uQ Tryz.underlying70) (uQ Tryz.underlying3) (zeroInt _) w.heap.size m D rfl hom _ _ rfl hkey ?_; intro c hat hwc; rw [hhas])
              | (at_mapUpdate; refine wpList_mapUpdate_own _ rfl _ _ _ 70 rfl 9 3 lawStr (uQ Tryz.underlying70) _ w.heap.size m D rfl hom (by unfold maxLen; omega) _ _ _ rfl rfl hkey _ [] (plainElem_int (uQ Tryz.underlying3) (WalkArith.wf_i64 (by omega))) ?_; intro w1 hown1 hgrow1))
            have HB2 : Hid (Below w.heap.size w w1) := HB1.out.grown hgrow1 hz1 (fun g hg => by cases hg; exact Nat.le_refl _)
            have HO2 : Hid (OwnM w1 w.heap.size (halfP bs i (j + 1))) := by
              refine ⟨m + 1, _, hown1, ?_, ?_⟩
              · rw [halfP_succ hjt]; simp; omega
              · rw [halfP_succ hjt]; exact HM.out.put HNOT.out i
            clear hown1 hgrow1 hom
            go_wp2
            go_roundw
            case rel => exact ⟨j + 1, by omega, by go_num, HB2.out, HO2.out, HK.out⟩
            case measure => simp [intOf]; omega
          · have hhas : Maps.has D (.string (nth (nthB bs i).has j)) = true := by rw [hmap.2.1, hq]
            have HF : Hid (onceB bs = false) := onceB_no hlt hjt (hasB_true.1 hq)
            clear hmap
            go_wp2_with (at_lookup; refine wpList_lookup_own_ok_int _ rfl _ _ 70 rfl 9 3 .i64 lawStr (uQ Tryz.underlying70) (uQ Tryz.underlying3) (zeroInt _) w.heap.size m D rfl hom _ _ rfl hkey ?_; intro c hat hwc; rw [hhas])
            go_ret2
            exact ⟨HB1.out, Or.inl ⟨rfl, HF.out⟩⟩
        · have e : j = (nthB bs i).has.length := by omega
          have HO2 : Hid (OwnM wr w.heap.size (pairsTo bs (i + 1))) := by rw [← halfP_full, ← e]; exact hown
          have HN2 : Hid (keys (pairsTo bs (i + 1))).Nodup := by rw [← halfP_full, ← e]; exact HN1.out
          clear hown e
          go_wp2
          go_roundw
          case rel => exact ⟨i + 1, by omega, by go_num, HB1.out, HO2.out, HN2.out⟩
          case measure => simp [intOf]; omega
    · have e : i = bs.length := by omega
      have HO2 : Hid (OwnM wr w.heap.size (pairsTo bs bs.length)) := by rw [← e]; exact hown
      have HF : Hid (onceB bs = true) := by
        show _ = true
        unfold onceB; rw [← e]; simpa using hnd
      clear hbel hown hnd e
      go_wp2
      go_ret2
      exact ⟨HB.out, Or.inr ⟨_, rfl, HF.out, HO2.out⟩⟩
end Go.Proofs.YtdafpnpfcmgfcaaGreat
namespace Go.Proofs.YtdafpnpfcmgfcaaGreat
open Go.RowKit
attribute [local go_sem] S_toList S_size S_get

theorem namesB_eq (b : Book) : namesB b = (allNames (namesOf b.batches) && ascB (namesOf b.batches)) := by
  unfold namesB allNames ascB
  rw [namesOf_length]
  congr 1
  · exact allLt_congr (fun i hi => by rw [nth_namesOf hi]; rfl)
  · refine allLt_congr (fun i hi => ?_)
    unfold upB up
    rw [nth_namesOf hi, nth_namesOf (by omega)]; rfl

theorem implOk_1 {b : Book} (h : thingsOk b.things = false) : bookOk b = false := by rw [bookOk_iff, h]; rfl
theorem implOk_3 {b : Book} (h : allNames (namesOf b.batches) = false) : bookOk b = false := by rw [bookOk_iff, namesB_eq, h]; simp
theorem implOk_4 {b : Book} (h : ascB (namesOf b.batches) = false) : bookOk b = false := by rw [bookOk_iff, namesB_eq, h]; simp
theorem implOk_5 {b : Book} {i : Nat} (hi : i < b.batches.length) (h : (namesOk (b.at i).needs b.things && namesOk (b.at i).has (b.at i).needs) = false) : bookOk b = false := by
  rw [bookOk_iff]; unfold restOk; rw [allLt_no (p := fun i => namesOk (b.at i).needs b.things && namesOk (b.at i).has (b.at i).needs) hi h]; simp
theorem implOk_6 {b : Book} (h1 : thingsOk b.things = true) (h2 : b.batches.length ≤ 5) (h3 : allNames (namesOf b.batches) = true) (h4 : ascB (namesOf b.batches) = true)
    (h5 : ∀ i, i < b.batches.length → (namesOk (b.at i).needs b.things && namesOk (b.at i).has (b.at i).needs) = true) : bookOk b = onceB b.batches := by
  rw [bookOk_iff, namesB_eq, h1, h3, h4]; unfold restOk; rw [allLt_of h5]; simp [h2]

set_option maxHeartbeats 1000000 in
theorem implBookOk_any (b : Book) (a1 a2 : Option Addr) (c1 c2 : Nat) (w : World) (hb : BookAt w a1 a2 b) :
    Calls Qry.prog 18 #[.agg #[.slice a1 b.things.length c1, .slice a2 b.batches.length c2]] w fun e w' =>
      e = .returned (.bool (bookOk b)) ∧ Ext w w' := by
  have hal : ∀ o, Ext w (w.alloc o) := fun o => (Below.refl _ _).alloc (Nat.le_refl _) _
  obtain ⟨ht, hbs⟩ := hb
  have hn := hbs.1
  cases hth : thingsOk b.things
  · have HF : Hid (bookOk b = false) := implOk_1 hth
    go_enter Qry.func18, Tryz.ntmps18
    go_wp2_with fail
    refine (implThingsOk_any _ _ _ _ (ht.ext (hal _))).mono ?_
    rintro e w1 ⟨rfl, hext⟩
    have HE := hid (Ext.tr (hal _) hext)
    clear hext
    go_wp2_with fail
    go_ret
    exact ⟨ret_bool HF.out.symm, HE.out⟩
  · by_cases h5 : b.batches.length ≤ 5
    · go_enter Qry.func18, Tryz.ntmps18
      go_wp2_with fail
      refine (implThingsOk_any _ _ _ _ (ht.ext (hal _))).mono ?_
      rintro e w1 ⟨rfl, hext⟩
      have hx0 := box_cell hext (i := 0) rfl
      have hx1 := box_cell hext (i := 1) rfl
      have HE0 := hid hext
      clear hext
      go_wp2_with fail
      refine (batchNames_any _ _ _ _ (hbs.ext (Ext.tr (hal _) HE0.out))).mono ?_
      rintro e w2 ⟨an, cn, rfl, hext2, hnames⟩
      have HE2 := hid (Ext.tr HE0.out hext2)
      clear hx0 hx1
      have hx0 := box_cell HE2.out (i := 0) rfl
      have hx1 := box_cell HE2.out (i := 1) rfl
      clear hext2
      cases hnm : allNames (namesOf b.batches)
      · have HF : Hid (bookOk b = false) := implOk_3 hnm
        go_wp2_with fail
        refine (areNames_any _ _ _ _ hnames).mono ?_
        rintro e w3 ⟨rfl, hext3⟩
        have HE3 := hid (Ext.tr HE2.out hext3)
        clear hext3
        go_wp2_with fail
        go_ret
        exact ⟨ret_bool HF.out.symm, Ext.tr (hal _) HE3.out⟩
      · go_wp2_with fail
        refine (areNames_any _ _ _ _ hnames).mono ?_
        rintro e w3 ⟨rfl, hext3⟩
        have HE3 := hid (Ext.tr HE2.out hext3)
        have hnames3 := hnames.ext hext3
        clear hext3 hx0 hx1 hnames
        have hx0 := box_cell HE3.out (i := 0) rfl
        have hx1 := box_cell HE3.out (i := 1) rfl
        cases has : ascB (namesOf b.batches)
        · have HF : Hid (bookOk b = false) := implOk_4 has
          go_wp2_with fail
          refine (ascending_any _ _ _ _ hnames3).mono ?_
          rintro e w4 ⟨rfl, n4, rfl⟩
          go_wp2_with fail
          go_ret
          exact ⟨ret_bool HF.out.symm, Ext.tr (hal _) (Ext.tr HE3.out (ext_drewN _ _))⟩
        · go_wp2_with fail
          refine (ascending_any _ _ _ _ hnames3).mono ?_
          rintro e w4 ⟨rfl, hd4⟩
          have HE4 := hid (Ext.tr HE3.out (draws_ext hd4))
          clear hd4 hx0 hx1 hnames3
          have hx0 := box_cell HE4.out (i := 0) rfl
          have hx1 := box_cell HE4.out (i := 1) rfl
          go_wp2_with fail
          go_loopw [32] (fun i wr => ∃ k : Nat, k ≤ b.batches.length ∧ i = .int .i64 k ∧ Ext (w.alloc (.cells #[.slice a1 b.things.length c1, .slice a2 b.batches.length c2] 26)) wr ∧ ∀ j, j < k → (namesOk (b.at j).needs b.things && namesOk (b.at j).has (b.at j).needs) = true) (fun i _ => b.batches.length - (intOf i).toNat)
          case atStart => exact ⟨0, Nat.zero_le _, rfl, HE4.out, fun j hj => by omega⟩
          case round =>
            obtain ⟨k, hk, rfl, hext, hx⟩ := hrel
            clear hx0 hx1
            have hx0 := box_cell hext (i := 0) rfl
            have hx1 := box_cell hext (i := 1) rfl
            have ht' := ht.ext (Ext.tr (hal _) hext)
            have hbs' := hbs.ext (Ext.tr (hal _) hext)
            have HX := hid hx
            have HE := hid hext
            clear hx hext
            by_cases hlt : k < b.batches.length
            · obtain ⟨ba, oa, rfl, hl, d1, g1, d2, g2, p0, p1, p2, s1, s2⟩ := hbs'.2 k hlt
              have hx0' : ∀ o, (wr.alloc o).cell? ⟨w.heap.size, 0, none⟩ = some (.slice a1 b.things.length c1) := fun o => (ext_alloc _ _).keep hx0
              cases hq : (namesOk (nthB b.batches k).needs b.things && namesOk (nthB b.batches k).has (nthB b.batches k).needs)
              · have HF : Hid (bookOk b = false) := implOk_5 hlt hq
                go_wp2_with fail
                refine (implBatchOk_any (nthB b.batches k) _ _ _ _ _ _ _ _ (s1.ext (ext_alloc _ _)) (s2.ext (ext_alloc _ _)) (ht'.ext (ext_alloc _ _))).mono ?_
                rintro e w5 ⟨rfl, hext5⟩
                have HE5 := hid (Ext.tr HE.out (Ext.tr (ext_alloc _ _) hext5))
                clear hext5
                rw [hq]
                go_wp2
                go_ret
                exact ⟨ret_bool HF.out.symm, Ext.tr (hal _) HE5.out⟩
              · have HQ := hid hq
                go_wp2_with fail
                refine (implBatchOk_any (nthB b.batches k) _ _ _ _ _ _ _ _ (s1.ext (ext_alloc _ _)) (s2.ext (ext_alloc _ _)) (ht'.ext (ext_alloc _ _))).mono ?_
                rintro e w5 ⟨rfl, hext5⟩
                have HE5 := hid (Ext.tr HE.out (Ext.tr (ext_alloc _ _) hext5))
                clear hext5
                rw [hq]
                clear hq
                go_wp2
                go_roundw
                case rel => exact ⟨k + 1, by omega, by go_num, HE5.out, fun j hj => by
                  by_cases e : j = k
                  · rw [e]; exact HQ.out
                  · exact HX.out j (by omega)⟩
                case measure => simp [intOf]; omega
            · have HF : Hid (bookOk b = onceB b.batches) := implOk_6 hth h5 hnm has (fun j hj => HX.out j (by omega))
              go_wp2_with fail
              refine (holders_any _ _ _ _ hbs' h5).mono ?_
              rintro e w5 ⟨hext5, (⟨rfl, ho⟩ | ⟨B, rfl, ho, _⟩)⟩
              · have HE5 := hid (Ext.tr HE.out hext5)
                have HO := hid ho
                clear hext5 ho
                go_wp2_with fail
                go_ret
                exact ⟨ret_bool (by rw [HF.out, HO.out]), Ext.tr (hal _) HE5.out⟩
              · have HE5 := hid (Ext.tr HE.out hext5)
                have HO := hid ho
                clear hext5 ho
                go_wp2_with fail
                go_ret
                exact ⟨ret_bool (by rw [HF.out, HO.out]), Ext.tr (hal _) HE5.out⟩
    · have HF : Hid (bookOk b = false) := bookOk_no2 h5
      go_enter Qry.func18, Tryz.ntmps18
      go_wp2_with fail
      refine (implThingsOk_any _ _ _ _ (ht.ext (hal _))).mono ?_
      rintro e w1 ⟨rfl, hext⟩
      have hx0 := box_cell hext (i := 0) rfl
      have hx1 := box_cell hext (i := 1) rfl
      have HE := hid (Ext.tr (hal _) hext)
      clear hext
      go_wp2_with fail
      go_ret
      exact ⟨ret_bool HF.out.symm, HE.out⟩
end Go.Proofs.YtdafpnpfcmgfcaaGreat
namespace Go.Proofs.YtdafpnpfcmgfcaaGreat
open Go.RowKit Go.Maps
attribute [local go_sem] S_toList S_size S_get

def whoFrom : List Batch → Str → Str
  | [], _ => []
  | x :: r, t => if hasB x.has t then x.name else whoFrom r t
def whoOf (b : Book) (t : Str) : Str := if bookOk b then whoFrom b.batches t else []

theorem nthB_cons (x : Batch) (r : List Batch) (k : Nat) : nthB (x :: r) (k + 1) = nthB r k := by simp [nthB]
theorem nthB_zero (x : Batch) (r : List Batch) : nthB (x :: r) 0 = x := by simp [nthB]
theorem whoFrom_at : ∀ {bs : List Batch} {t : Str} {k : Nat}, k < bs.length → hasB (nthB bs k).has t = true → (∀ j, j < k → hasB (nthB bs j).has t = false) → whoFrom bs t = (nthB bs k).name
  | [], _, _, h, _, _ => by simp at h
  | x :: r, t, 0, _, h, _ => by
    rw [nthB_zero] at *
    simp [whoFrom, h]
  | x :: r, t, k + 1, hk, h, hn => by
    have h0 := hn 0 (by omega)
    rw [nthB_zero] at h0
    rw [nthB_cons] at *
    simp only [whoFrom, h0, Bool.false_eq_true, if_false]
    exact whoFrom_at (by simpa using hk) h (fun j hj => by have := hn (j + 1) (by omega); rwa [nthB_cons] at this)
theorem whoFrom_no : ∀ {bs : List Batch} {t : Str}, (∀ j, j < bs.length → hasB (nthB bs j).has t = false) → whoFrom bs t = []
  | [], _, _ => rfl
  | x :: r, t, hn => by
    have h0 := hn 0 (by simp)
    rw [nthB_zero] at h0
    simp only [whoFrom, h0, Bool.false_eq_true, if_false]
    exact whoFrom_no (fun j hj => by have := hn (j + 1) (by simpa using hj); rwa [nthB_cons] at this)

theorem ok_apart {b : Book} (h : bookOk b = true) {p q : Nat} (hp : p < b.batches.length) (hq : q < p) {t : Str} (h1 : t ∈ (nthB b.batches p).has) (h2 : t ∈ (nthB b.batches q).has) : False := by
  unfold bookOk at h
  simp only [Bool.and_eq_true, allLt_true] at h
  have h3 := (h.2 p hp).2 q hq
  simp only [Bool.not_eq_true'] at h3
  exact shareB_false.1 h3 t h1 h2
theorem ok_five {b : Book} (h : bookOk b = true) : b.batches.length ≤ 5 := by
  unfold bookOk at h
  simp only [Bool.and_eq_true, decide_eq_true_eq] at h
  exact h.1.2
theorem ok_once {b : Book} (h : bookOk b = true) : onceB b.batches = true := by
  rw [bookOk_iff] at h
  simp only [Bool.and_eq_true] at h
  exact h.2
theorem who_unique {b : Book} (h : bookOk b = true) {p : Nat} (hp : p < b.batches.length) {t : Str} (h1 : t ∈ (nthB b.batches p).has) : whoFrom b.batches t = (nthB b.batches p).name := by
  refine whoFrom_at hp (hasB_true.2 h1) (fun j hj => ?_)
  rw [← Bool.not_eq_true, hasB_true]
  exact fun h2 => ok_apart h hp hj h1 h2

theorem lit_inj {D : DataW Unit} {p c : Int} (h : D = .lit (.int .i64 p)) (k : D = .lit (.int .i64 c)) : c = p := by
  rw [h] at k
  injection k with k
  injection k with _ k
  exact k.symm
theorem ret_str {a b : Str} (h : a = b) : Ending.returned (.string (S a)) = .returned (.string (S b)) := by rw [h]
end Go.Proofs.YtdafpnpfcmgfcaaGreat
