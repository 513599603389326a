/- ShareWaits, beside those that are only leaving. -/
import Derived.Test.YtdafpnpfcmgfcabSk4
import Derived.Test.YtdafpnpfcmgfcabSk5
import Derived.Test.YtdafpnpfcmgfcabWt1
import Derived.Test.YtdafpnpfcmgfcabE1
namespace Go.Proofs.Ytdafpnpfcmgfcab
open Go Go.Conc Go.ConcN Go.RowKit
attribute [local go_sem] S_toList S_size S_get

theorem and64 (x y : Nat) (hx : x < 1024) (hy : y < 1024) : bits .and .u64 (x : Int) (y : Int) = ((x &&& y : Nat) : Int) := by
  have h1 : (BitVec.ofInt 64 (x : Int)).toNat = x := by rw [BitVec.ofInt_natCast, BitVec.toNat_ofNat]; exact Nat.mod_eq_of_lt (by omega)
  have h2 : (BitVec.ofInt 64 (y : Int)).toNat = y := by rw [BitVec.ofInt_natCast, BitVec.toNat_ofNat]; exact Nat.mod_eq_of_lt (by omega)
  have h3 : x &&& y ≤ x := Nat.and_le_left
  show IntKind.u64.wrap ((BitVec.ofInt 64 (x : Int) &&& BitVec.ofInt 64 (y : Int)).toNat : Int) = _
  rw [BitVec.toNat_and, h1, h2]
  exact wrapU (by omega) (by omega)
theorem and_share {b : Book} (h : bookOk b = true) {i p : Nat} (hp : p < b.batches.length) : (bitsN (nthB b.batches i).has b.things &&& bitsN (nthB b.batches p).needs b.things ≠ 0) ↔ shareB (nthB b.batches i).has (nthB b.batches p).needs = true := by
  rw [shareB_true]
  constructor
  · intro h0
    obtain ⟨j, hj⟩ := Nat.exists_testBit_of_ne_zero h0
    rw [Nat.testBit_and, bitsN_bit, bitsN_bit] at hj
    simp only [Bool.and_eq_true, hasB_true] at hj
    exact ⟨_, hj.1.2, hj.2.2⟩
  · rintro ⟨x, h1, h2⟩ h0
    have hx := needs_in h hp h2
    obtain ⟨j, hj, rfl⟩ := List.mem_iff_getElem.1 hx
    have ht : (bitsN (nthB b.batches i).has b.things &&& bitsN (nthB b.batches p).needs b.things).testBit j = true := by
      rw [Nat.testBit_and, bitsN_bit, bitsN_bit, nth_get hj]
      simp only [Bool.and_eq_true, hasB_true, decide_eq_true_eq]
      exact ⟨⟨hj, h1⟩, hj, h2⟩
    rw [h0] at ht
    simp at ht
theorem and_waits {b : Book} (h : bookOk b = true) {i p : Nat} (hp : p < b.batches.length) (hx : bitsN (nthB b.batches i).has b.things < 1024) (hy : bitsN (nthB b.batches p).needs b.things < 1024) :
    (bits .and .u64 (bitsN (nthB b.batches i).has b.things : Int) (bitsN (nthB b.batches p).needs b.things : Int) != 0) = shareB (nthB b.batches i).has (nthB b.batches p).needs := by
  rw [and64 _ _ hx hy, Bool.eq_iff_iff, ← and_share h hp]
  simp

theorem GoingAt.re {w : World} {base g bg : Nat} {vh vn : Value} {has needs : List Nat} {gone : List Bool} {free : Nat} (h : GoingAt w base g bg vh vn has needs gone free) (K : Nat) (T : Nat → Question → Nat) : GoingAt (World.re w K T) base g bg vh vn has needs gone free := by
  obtain ⟨h1, h2, h3, h4, h5, h6, h7⟩ := h
  exact ⟨h1, h2, h3, h4, h5, h6, h7⟩

/-- The closure of ShareWaits as a look. -/
theorem look_waits {b : Book} {v : World} {base g bg fr wb gb p : Nat} {vh vn : Value} {gl : List Bool} (hok : bookOk b = true) (hst : GoingAt v base g bg vh vn (hasBits b) (needsBits b) gl fr) (cw : v.cell? ⟨wb, 0, none⟩ = some (.int .i64 p)) (cg : v.cell? ⟨gb, 0, none⟩ = some (.pointer (some ⟨g, 0, none⟩))) (hp : p < b.batches.length) :
    LookW v b.batches.length 32 #[] #[.pointer (some ⟨wb, 0, none⟩), .pointer (some ⟨gb, 0, none⟩)] (waitY b p) := by
  intro S B0 bs i hi hS hkn
  have h8 := ok_things hok
  have hl1 : (hasBits b).length = b.batches.length := by simp [hasBits]
  have hl2 : (needsBits b).length = b.batches.length := by simp [needsBits]
  obtain ⟨b1, k1, rfl, _, q1⟩ := own_bits hst.hrow (i := i) (by omega)
  obtain ⟨b2, k2, rfl, _, q2⟩ := own_bits hst.nrow (i := p) (by omega)
  have c0 := hst.cells.cell (i := 0) (by omega)
  have c1 := hst.cells.cell (i := 1) (by omega)
  simp only [goingCells] at c0 c1
  obtain ⟨nf, hnf⟩ := waits_c (S := S) (bs := bs) (w0 := v) hS (hkn _ _ _ cw) (hkn _ _ _ cg) (hkn _ _ _ c0) (hkn _ _ _ q1) (hkn _ _ _ q2) cw cg c0 c1 q1 q2 (by omega) (by omega)
  have hval : (!(i == p) && (bits .and .u64 (bnth (hasBits b) i : Int) (bnth (needsBits b) p : Int) != 0)) = waitY b p i := by
    rw [bnth_has hi, bnth_needs hp]
    unfold waitY
    have h1 := bitsN_small (nthB b.batches i).has b.things h8
    have h2 := bitsN_small (nthB b.batches p).needs b.things h8
    have := and_waits hok (i := i) hp h1 h2
    unfold Book.at
    rw [this]
  rw [hval] at hnf
  exact ⟨nf, fun w hw => by
    have := hnf w (fun b k x _ h => hw b k x h)
    simpa using this⟩

theorem waits_place {b : Book} {n : Str} (hok : bookOk b = true) (hh : hereB b n = true) : leadS (namesOf b.batches) n = place (namesOf b.batches) n ∧ place (namesOf b.batches) n < b.batches.length := by
  refine ⟨lead_place (ok_names hok) hh, ?_⟩
  have := place_lt.2 (hasB_true.1 hh)
  rwa [namesOf_length] at this
theorem waits_none {b : Book} {n : Str} (hh : hereB b n = false) : waitsL b n = [] := by
  unfold waitsL
  rw [if_neg]
  rintro ⟨_, h⟩
  have hm : n ∈ namesOf b.batches := place_lt.1 (by rw [namesOf_length]; exact h)
  have : hereB b n = true := hasB_true.2 hm
  rw [this] at hh
  cases hh

set_option maxHeartbeats 2000000 in
set_option maxRecDepth 100000 in
theorem waits_m [Floor] (b : Book) (n : Str) (a1 a2 : Option Addr) (c1 c2 : Nat) (v : World) (hb : BookAt v a1 a2 b) (hfl : Floor.low ≤ v.heap.size) :
    CallsM Try.prog 15 #[.agg #[.slice a1 b.things.length c1, .slice a2 b.batches.length c2], .string (S n)] v (fun r v' => Grew v v' ∧ OwnL v' v.heap.size r (waitsL b n)) := by
  refine callsM_of Try.func15 (by kernel_rfl) rfl ?_
  simp only [Try.ntmps15, List.size_toArray, List.length_cons, List.length_nil, Nat.reduceAdd, Nat.reduceSub, Array.replicate_succ, Array.replicate_zero, List.push_toArray, List.append_toArray, List.nil_append, List.cons_append]
  refine mw_front tamed 5 rfl (by kernel_rfl) (by kernel_rfl) (fun T => ?_)
  generalize hw : World.re v 0 T = w
  have HG0 : Hid (Grew v w) := by subst hw; exact Grew.re v 0 T
  replace hb : BookAt w a1 a2 b := by subst hw; exact hb
  have HFL : Hid (Floor.low ≤ w.heap.size ∧ v.heap.size ≤ w.heap.size) := by subst hw; exact ⟨hfl, Nat.le_refl _⟩
  clear hw hfl
  have hal : ∀ o, Ext w (w.alloc o) := fun o => (Below.refl _ _).alloc (Nat.le_refl _) _
  have hx0 := box_cell (Ext.rfl' (w.alloc (.cells #[.slice a1 b.things.length c1, .slice a2 b.batches.length c2] 30))) (i := 0) rfl
  have hx1 := box_cell (Ext.rfl' (w.alloc (.cells #[.slice a1 b.things.length c1, .slice a2 b.batches.length c2] 30))) (i := 1) rfl
  refine wpF_k (fun K hK => ?_)
  go_wp2_with fail
  refine wpF_k (fun K hK => ?_)
  go_wp2_with fail
  refine (implBookOk_any b _ _ _ _ _ (hb.ext (hal _))).mono ?_
  rintro e w1 ⟨rfl, hext1⟩
  have HE1 := hid hext1
  clear hext1 hx0 hx1
  cases hok : bookOk b
  · go_wp2_with fail
    exact ⟨rfl, _, resultsC_tmp (t := 4) rfl _, HG0.out.tr (Grew.of (Ext.tr (hal _) HE1.out)), by
      have : waitsL b n = [] := by simp [waitsL, hok]
      rw [this]; exact World.ownsRow_nil _ _ _ _⟩
  · have HOK := hid hok
    have hx0 := box_cell HE1.out (i := 0) rfl
    have hx1 := box_cell HE1.out (i := 1) rfl
    go_wp2_with fail
    refine wpF_k (fun K hK => ?_)
    go_wp2_with fail
    refine (placeOf_any b n _ _ _ _ _ (hb.ext (Ext.tr (hal _) HE1.out)) HOK.out).mono ?_
    rintro e w2 ⟨rfl, hext2⟩
    have HE2 := hid (Ext.tr HE1.out hext2)
    clear hext2 hx0 hx1
    cases hh : hereB b n
    · have HN := hid (waits_none hh)
      go_wp2_with fail
      refine wpF_k (fun K hK => ?_)
      go_wp2_with fail
      exact ⟨rfl, _, resultsC_tmp (t := 4) rfl _, HG0.out.tr (Grew.of (Ext.tr (Ext.tr (hal _) HE2.out) (ext_alloc _ _))), by rw [HN.out]; exact World.ownsRow_nil _ _ _ _⟩
    · obtain ⟨hp1, hp2⟩ := waits_place HOK.out hh
      have HW : Hid (waitsL b n = pickL (waitY b (place (namesOf b.batches) n)) b.batches b.batches.length) := by show _ = _; simp [waitsL, HOK.out, hp2]
      rw [hp1]
      generalize place (namesOf b.batches) n = p at *
      have HP2 := hid hp2
      clear hp1 hp2
      go_wp2_with fail
      refine wpF_k (fun K hK => ?_)
      go_wp2_with fail
      have HE3 := hid (Ext.tr HE2.out (ext_alloc w2 (.cells #[.int .i64 (p : Int)] 3)))
      have hx0 := box_cell HE3.out (i := 0) rfl
      have hx1 := box_cell HE3.out (i := 1) rfl
      have hcw := box_cell (Ext.rfl' (w2.alloc (.cells #[.int .i64 (p : Int)] 3))) (i := 0) rfl
      have h8 := ok_things HOK.out
      have h5 : b.batches.length ≤ 5 := by
        have h := HOK.out
        unfold bookOk at h
        simp only [Bool.and_eq_true, decide_eq_true_eq] at h
        exact h.1.2
      generalize w2.alloc (.cells #[.int .i64 (p : Int)] 3) = w3 at *
      refine wpF_k (fun K hK => ?_)
      go_wp2_with fail
      refine (startGoing_any b _ _ _ _ _ (hb.ext (Ext.tr (hal _) HE3.out)) HOK.out h8 h5).mono ?_
      rintro e w4 ⟨base, g, bg, vh, vn, rfl, hext4, _, _, hgo⟩
      have HE4 := hid (Ext.tr HE3.out hext4)
      replace hcw := hext4.keep hcw
      clear hx0 hx1 hext4
      have HGO := hid hgo
      clear hgo
      go_wp2_with fail
      refine wpF_0 (mw_seq (by kernel_rfl) (fun why h => by cases h) (mw_region ?_))
      refine mo_list tamed [0, 1, 2] [3, 4] rfl (by kernel_rfl) (by kernel_rfl) (fun T2 => ?_)
      simp only [List.filterMap, List.getElem?_toArray, List.getElem?_cons_zero, List.getElem?_cons_succ]
      generalize hz : World.re (w4.alloc (.cells #[.pointer (some ⟨g, 0, none⟩)] 48)) 0 T2 = z
      have hgz : GoingAt z base g bg vh vn (hasBits b) (needsBits b) (List.replicate b.batches.length false) (freeN b (fun _ => false)) := by subst hz; exact (HGO.out.alloc _).re _ _
      have hcg : z.cell? ⟨w4.heap.size, 0, none⟩ = some (.pointer (some ⟨g, 0, none⟩)) := by subst hz; exact box_cell (Ext.rfl' (w4.alloc (.cells #[.pointer (some ⟨g, 0, none⟩)] 48))) (i := 0) rfl
      have hcz : z.cell? ⟨w2.heap.size, 0, none⟩ = some (.int .i64 p) := by subst hz; exact (ext_alloc w4 _).keep hcw
      have hG4 : Grew w4 z := by subst hz; exact (Grew.of (ext_alloc w4 _)).tr (Grew.re _ _ _)
      clear hz hcw HGO
      have hGz : Grew w z := (Grew.of (Ext.tr (hal _) HE4.out)).tr hG4
      have hGB : Grew (w.alloc (.cells #[.slice a1 b.things.length c1, .slice a2 b.batches.length c2] 30)) z := (Grew.of HE4.out).tr hG4
      have hx1 := box_cell (w := World.re w w.drawn z.tape) hGB.ext (i := 1) rfl
      have e0 : (World.re w w.drawn z.tape).heap.size = w.heap.size := rfl
      rw [e0] at hx1
      clear e0 hGB hG4
      have hbz := hGz.book hb
      go_wp2
      refine mo_call (by kernel_rfl) rfl rfl rfl rfl (by simp [Act.eval]) (namesWhere_m b.batches a2 c2 z hbz.2 (by omega) (Nat.le_trans HFL.out.1 hGz.size) (look_waits HOK.out hgz hcz hcg HP2.out)) (fun r v5 hr => ?_)
      obtain ⟨hG5, ho5⟩ := hr
      have HO5 : Hid (OwnL v5 v.heap.size r (waitsL b n)) := by
        show OwnL _ _ _ _
        rw [HW.out]
        exact ho5.lo (Nat.le_trans HFL.out.2 hGz.size)
      have HG5 := hid (HG0.out.tr (hGz.tr hG5))
      clear ho5 hG5 hgz hcg hcz hGz hx1 hbz
      walk_nrm
      refine mo_list tamed [4] [] rfl (by kernel_rfl) (by kernel_rfl) (fun T4 => ?_)
      simp only [List.filterMap, List.getElem?_toArray, List.getElem?_cons_zero, List.getElem?_cons_succ]
      go_wp2
      refine mo_nil ?_
      change MW _ _ _ _ _
      refine mw_wp tamed rfl (by kernel_rfl) (fun T5 => ?_)
      go_wp2
      exact ⟨rfl, _, resultsC_tmp (t := 4) rfl _, HG5.out.tr ((Grew.re _ _ _).tr (Grew.re _ _ _)), HO5.out⟩
end Go.Proofs.Ytdafpnpfcmgfcab
