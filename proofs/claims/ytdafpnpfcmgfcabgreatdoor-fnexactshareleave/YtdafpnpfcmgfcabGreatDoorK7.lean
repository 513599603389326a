/- Marks of a book that the program has made: the walks. -/
import Derived.Test.YtdafpnpfcmgfcabGreatDoorSA
namespace Go.Proofs.YtdafpnpfcmgfcabGreatDoor
open Go.RowKit
attribute [local go_sem] S_toList S_size S_get

theorem OB.name {w : World} {base g c k : Nat} {v1 : Value} {rs : List Row} {T : List Str} {bs : List Batch} {r : Row} {x : Batch} (h : OB w base v1 (.slice (some ⟨g, 0, none⟩) bs.length c) rs ⟨T, bs⟩) (hr : rs[k]? = some r) (hx : bs[k]? = some x) (s : Str) (hs : s.length ≤ 140737488355328) :
    OB (w.setCell ⟨g, k * 3, none⟩ (.string (S s))) base v1 (.slice (some ⟨g, 0, none⟩) bs.length c) (rs.set k ⟨s, r.has, r.needs⟩) ⟨T, bs.set k ⟨s, x.has, x.needs⟩⟩ := by
  have hl : rs.length = bs.length := h.ow.1
  have h1 := h.ob
  rw [← hl] at h1
  have h3 := World.ownsRow.stored h1 (k * 3) (.string (S s))
  obtain ⟨e1, e2, e3, e4, e5, e6⟩ := h.ow.2 k r x hr hx
  refine ⟨own_store_keep h1 h.ot _ _, h.st, ?_, ?_, h.di.same (allV_set rs k r s hr)⟩
  · rw [← cellsOf_name rs k r s hr, List.length_set, ← hl]; exact h3.1
  · refine RowsOwn.set (h.ow.keep h3.2 (fun k' cc e hk' => row_ne h1 k' cc (by simpa [Value.ownBlock] using e) hk')) k ⟨rfl, hs, own_store_keep h1 e3 _ _, e4, own_store_keep h1 e5 _ _, e6⟩
theorem OB.hasTo {w w' : World} {base k : Nat} {v1 v2 : Value} {rs : List Row} {T : List Str} {bs : List Batch} {r : Row} {x : Batch} {L : List Str} (h : OB w base v1 v2 rs ⟨T, bs⟩) (hr : rs[k]? = some r) (hx : bs[k]? = some x) (g : w.grownBy w' r.has.ownBlock) (ho : OwnL w' base r.has L) (hs : ShortS L) : OB w' base v1 v2 rs ⟨T, bs.set k ⟨x.name, L, x.needs⟩⟩ :=
  ⟨own_ne h.ot g ((h.di.2 _ (mem_allV (List.mem_of_getElem? hr)).1).symm), h.st, row_not_list h.ob (h.ow.2 k r x hr hx).2.2.1 g, h.ow.hasTo h.di hr hx g ho hs, h.di⟩
theorem OB.needsTo {w w' : World} {base k : Nat} {v1 v2 : Value} {rs : List Row} {T : List Str} {bs : List Batch} {r : Row} {x : Batch} {L : List Str} (h : OB w base v1 v2 rs ⟨T, bs⟩) (hr : rs[k]? = some r) (hx : bs[k]? = some x) (g : w.grownBy w' r.needs.ownBlock) (ho : OwnL w' base r.needs L) (hs : ShortS L) : OB w' base v1 v2 rs ⟨T, bs.set k ⟨x.name, x.has, L⟩⟩ :=
  ⟨own_ne h.ot g ((h.di.2 _ (mem_allV (List.mem_of_getElem? hr)).2).symm), h.st, row_not_list h.ob (h.ow.2 k r x hr hx).2.2.2.2.1 g, h.ow.needsTo h.di hr hx g ho hs, h.di⟩
theorem OB.thingsTo {w w' : World} {base : Nat} {v1 v2 : Value} {rs : List Row} {T L : List Str} {bs : List Batch} (h : OB w base v1 v2 rs ⟨T, bs⟩) (g : w.grownBy w' v1.ownBlock) (ho : OwnL w' base v1 L) (hs : ShortS L) : OB w' base v1 v2 rs ⟨L, bs⟩ :=
  ⟨ho, hs, row_not_list h.ob h.ot g, h.ow.ne g (fun _ hr => ⟨h.di.2 _ (mem_allV hr).1, h.di.2 _ (mem_allV hr).2⟩), h.di⟩
theorem below_tr {n : Nat} {a b c : World} (h : Below n a b) (k : Below n b c) : Below n a c := h.trans k
theorem below_ext {n : Nat} {a b : World} (e : Ext a b) (h : n ≤ a.heap.size) : Below n a b := Below.mono e h

/-- Below a block all is as it was, and so are the boxes of books. -/
structure BK (base : Nat) (w w' : World) : Prop where
  below : Below base w w'
  keep : ∀ (X : Nat) (l : List Value), Rec w X 30 l → Rec w' X 30 l
theorem BK.refl (base : Nat) (w : World) : BK base w w := ⟨Below.refl _ _, fun _ _ h => h⟩
theorem BK.tr {base : Nat} {a b c : World} (h : BK base a b) (k : BK base b c) : BK base a c := ⟨h.below.trans k.below, fun X l hr => k.keep X l (h.keep X l hr)⟩
theorem BK.ext {base : Nat} {a b : World} (e : Ext a b) (h : base ≤ a.heap.size) : BK base a b := ⟨Below.mono e h, fun _ _ hr => hr.ext e⟩
theorem BK.cell {base g n c : Nat} {w : World} {xs : List Value} (h : w.ownsRow base 46 3 (.slice (some ⟨g, 0, none⟩) n c) n xs) (hg : base ≤ g) (i : Nat) (u : Value) : BK base w (w.setCell ⟨g, i, none⟩ u) :=
  ⟨(Below.refl _ _).setCell hg _, fun _ _ hr => hr.kept (gb_store _ _ _ _) (hr.not_row rfl h)⟩
theorem BK.own {base base' : Nat} {w w' : World} {u : Value} {L : List Str} (g : w.grownBy w' u.ownBlock) (ho : OwnL w base' u L) (hb : base ≤ base') (hz : base ≤ w.heap.size) : BK base w w' :=
  ⟨below_own g ho hb hz, fun _ _ hr => hr.kept g (hr.not_row rfl ho)⟩

set_option maxRecDepth 100000 in
set_option maxHeartbeats 1000000 in
theorem markBs_own (base k : Nat) (v1 : Value) (a2 : Option Addr) (c2 : Nat) (rs : List Row) (T : List Str) (bs : List Batch) (w : World) (h : OB w base v1 (.slice a2 bs.length c2) rs ⟨T, bs⟩) (hbz : base ≤ w.heap.size) (hk : 1 ≤ k) (hb : k + bs.length + cntTo bs bs.length ≤ 1000000000) :
    Calls Tryz.prog 32 #[.slice a2 bs.length c2, .int .i64 (k : Int)] w fun e w' =>
      e = .returned (.int .i64 ((k + bs.length + cntTo bs bs.length : Nat) : Int)) ∧ BK base w w' ∧ ∃ rs', OB w' base v1 (.slice a2 bs.length c2) rs' ⟨T, markTo bs k bs.length⟩ := by
  have hmono : ∀ n m, n ≤ m → cntTo bs n ≤ cntTo bs m := by
    intro n m hnm
    induction hnm with
    | refl => exact Nat.le_refl _
    | step _ ih => exact Nat.le_trans ih (Nat.le_add_right _ _)
  have HMO := hid hmono
  clear hmono
  have HS0 : Hid (OB w base v1 (.slice a2 bs.length c2) rs ⟨T, markTo bs k 0⟩) := by rw [markTo_zero]; exact h
  clear h
  go_enter Tryz.func32, Tryz.ntmps32
  go_wp2_with fail
  go_loopw [1, 5] (fun ki i wr => ∃ (m : Nat) (rs' : List Row), m ≤ bs.length ∧ i = .int .i64 m ∧ ki = .int .i64 ((k + m + cntTo bs m : Nat) : Int) ∧ BK base w wr ∧ OB wr base v1 (.slice a2 bs.length c2) rs' ⟨T, markTo bs k m⟩) (fun _ i _ => bs.length - (intOf i).toNat)
  case atStart => exact ⟨0, rs, Nat.zero_le _, rfl, by simp [cntTo], BK.refl _ _, HS0.out⟩
  case round =>
    clear HS0
    obtain ⟨m, rs', hm, rfl, rfl, hbel, hob⟩ := hrel
    have HB := hid hbel
    have HO := hid hob
    have hzr : base ≤ wr.heap.size := Nat.le_trans hbz hbel.below.size
    clear hbel hob
    by_cases hlt : m < bs.length
    · have hle := HMO.out (m + 1) bs.length hlt
      have hst : cntTo bs (m + 1) = cntTo bs m + ((nthB bs m).has.length + (nthB bs m).needs.length) := rfl
      have HST := hid hst
      rw [hst] at hle
      clear hst
      have hlen : (markTo bs k m).length = bs.length := markTo_length _ _ _
      have hlr : m < rs'.length := by have := HO.out.ow.1; rw [show (Book.mk T (markTo bs k m)).batches = markTo bs k m from rfl, hlen] at this; omega
      have hr := List.getElem?_eq_getElem hlr
      have hx : (markTo bs k m)[m]? = some (nthB bs m) := by rw [markTo_get hlt, if_neg (by omega)]
      have HN : Hid (markTo bs k (m + 1) = (markTo bs k m).set m (markB (nthB bs m) (k + m + cntTo bs m))) := markTo_succ hlt
      generalize markTo bs k m = ms at *
      generalize hms1 : markTo bs k (m + 1) = ms1 at *
      have HMS := hid hms1
      clear hms1
      generalize rs'[m] = r at *
      generalize nthB bs m = x at *
      generalize cntTo bs m = cm at *
      have h1k : 1 ≤ k + m + cm := by omega
      have hsum : (k + m + cm) + 1 + x.has.length + x.needs.length ≤ 1000000000 := by omega
      have HK : Hid (k + (m + 1) + cntTo bs (m + 1) = (k + m + cm) + 1 + x.has.length + x.needs.length) := by
        show _ = _
        rw [HST.out]; omega
      generalize k + m + cm = kk at *
      clear HST hle
      have HHR := hid hr
      have HHX := hid hx
      have HLN := hid hlen
      clear hr hx hlen
      obtain ⟨nm, vh, vn⟩ := r
      obtain ⟨e1, e2, e3, e4, e5, e6⟩ := HO.out.ow.2 m _ _ HHR.out HHX.out
      obtain ⟨ah, ch, eh⟩ := own_sl e3
      obtain ⟨an, cn, en⟩ := own_sl e5
      simp only at eh en
      subst eh
      subst en
      clear e1 e2 e3 e4 e5 e6
      obtain ⟨k0, k1, k2⟩ := cellsOf_at rs' m _ HHR.out
      obtain ⟨g, cap', ev, _, c0, f0⟩ := own_cell HO.out.ob k0
      simp only [Value.slice.injEq] at ev
      obtain ⟨rfl, -⟩ := ev
      have HGE : Hid (base ≤ g) := by
        obtain ⟨g', _, ev', hb', _⟩ := own_cell HO.out.ob k0
        simp only [Value.slice.injEq, Option.some.injEq, Addr.mk.injEq, and_true] at ev'
        obtain ⟨rfl, -⟩ := ev'
        exact hb'
      clear k0 k1 k2 c0 f0
      go_wp2_with fail
      refine (markText_any kk _ (by omega) (by omega)).mono ?_
      rintro e w1 ⟨rfl, hext⟩
      have HB1 := hid (BK.tr HB.out (BK.ext hext hzr))
      have HO1 := hid (HO.out.ext hext)
      obtain ⟨k0, k1, k2⟩ := cellsOf_at rs' m _ HHR.out
      obtain ⟨g', cap', ev, _, c0, f0⟩ := own_cell HO1.out.ob k0
      simp only [Value.slice.injEq, Option.some.injEq, Addr.mk.injEq, and_true] at ev
      obtain ⟨rfl, -⟩ := ev
      have hml : (markT kk).length ≤ 140737488355328 := by have := markT_length kk; omega
      have HO2 : Hid (OB (w1.setCell ⟨g, m * 3, none⟩ (.string (S (markT kk)))) base v1 (.slice (some ⟨g, 0, none⟩) bs.length c2) (rs'.set m ⟨markT kk, .slice ah x.has.length ch, .slice an x.needs.length cn⟩) ⟨T, ms.set m ⟨markT kk, x.has, x.needs⟩⟩) := by
        have := OB.name (c := c2) (bs := ms) (by rw [HLN.out]; exact HO1.out) HHR.out HHX.out (markT kk) hml
        rw [HLN.out] at this; exact this
      have HB2 : Hid (BK base w (w1.setCell ⟨g, m * 3, none⟩ (.string (S (markT kk))))) := HB1.out.tr (BK.cell (n := rs'.length) (c := c2) (by have h := HO1.out.ob; rw [HO1.out.ow.1] at h ⊢; rw [show (Book.mk T ms).batches.length = bs.length from HLN.out] at h ⊢; exact h) HGE.out _ _)
      have HZ2 : Hid (base ≤ (w1.setCell ⟨g, m * 3, none⟩ (.string (S (markT kk)))).heap.size) := Nat.le_trans hbz HB2.out.below.size
      have hrl : m < (rs'.set m ⟨markT kk, .slice ah x.has.length ch, .slice an x.needs.length cn⟩).length := by rw [List.length_set]; exact hlr
      have HHR2 : Hid ((rs'.set m ⟨markT kk, .slice ah x.has.length ch, .slice an x.needs.length cn⟩)[m]? = some ⟨markT kk, .slice ah x.has.length ch, .slice an x.needs.length cn⟩) := by
        show _ = _
        rw [List.getElem?_set]; simp [hlr]
      have hml2 : m < ms.length := (List.getElem?_eq_some_iff.1 HHX.out).1
      have HHX2 : Hid ((ms.set m ⟨markT kk, x.has, x.needs⟩)[m]? = some ⟨markT kk, x.has, x.needs⟩) := by
        show _ = _
        rw [List.getElem?_set]; simp [hml2]
      have HF : Hid (ms1 = ((ms.set m ⟨markT kk, x.has, x.needs⟩).set m ⟨markT kk, marksOf (kk + 1) x.has.length, x.needs⟩).set m ⟨markT kk, marksOf (kk + 1) x.has.length, marksOf (kk + 1 + x.has.length) x.needs.length⟩) := by
        show _ = _
        rw [HN.out, List.set_set, List.set_set]; rfl
      clear hext k0 k1 k2 HN HO1 HB1 hrl HHR HHX HLN HO HB
      go_upto_region 6 with fail
      generalize w1.setCell ⟨g, m * 3, none⟩ (.string (S (markT kk))) = w2 at *
      generalize rs'.set m ⟨markT kk, .slice ah x.has.length ch, .slice an x.needs.length cn⟩ = rs2 at *
      generalize ms.set m ⟨markT kk, x.has, x.needs⟩ = ms2 at *
      clear c0 f0
      obtain ⟨k0, k1, k2⟩ := cellsOf_at rs2 m _ HHR2.out
      obtain ⟨g', cap', ev, _, c1, _⟩ := own_cell HO2.out.ob k1
      simp only [Value.slice.injEq, Option.some.injEq, Addr.mk.injEq, and_true] at ev
      obtain ⟨rfl, -⟩ := ev
      obtain ⟨_, _, e3, e4, e5, e6⟩ := HO2.out.ow.2 m _ _ HHR2.out HHX2.out
      have HE3 := hid e3
      clear e3 e4 e5 e6 k0 k1 k2
      go_wp2_with fail
      refine (markOwn base _ x.has (kk + 1) _ HE3.out (by omega) (by omega)).mono ?_
      rintro e w3 ⟨rfl, hg3, ho3⟩
      have HB3 := hid (BK.tr HB2.out (BK.own hg3 HE3.out (Nat.le_refl _) HZ2.out))
      have HO3 := hid (HO2.out.hasTo HHR2.out HHX2.out hg3 ho3 (marksOf_short _ _ (by omega)))
      have hml3 : m < ms2.length := (List.getElem?_eq_some_iff.1 HHX2.out).1
      have HHX3 : Hid ((ms2.set m ⟨markT kk, marksOf (kk + 1) x.has.length, x.needs⟩)[m]? = some ⟨markT kk, marksOf (kk + 1) x.has.length, x.needs⟩) := by
        show _ = _
        rw [List.getElem?_set]; simp [hml3]
      have HZ3 : Hid (base ≤ w3.heap.size) := Nat.le_trans hbz HB3.out.below.size
      clear hg3 ho3 HO2 HB2 HHX2 hml3 c1 HE3
      simp only at HO3
      generalize ms2.set m ⟨markT kk, marksOf (kk + 1) x.has.length, x.needs⟩ = ms3 at *
      obtain ⟨k0, k1, k2⟩ := cellsOf_at rs2 m _ HHR2.out
      obtain ⟨g', cap', ev, _, c2', _⟩ := own_cell HO3.out.ob k2
      simp only [Value.slice.injEq, Option.some.injEq, Addr.mk.injEq, and_true] at ev
      obtain ⟨rfl, -⟩ := ev
      obtain ⟨_, _, e3, e4, e5, e6⟩ := HO3.out.ow.2 m _ _ HHR2.out HHX3.out
      have HE5 := hid e5
      clear e3 e4 e5 e6 k0 k1 k2
      go_wp2_with fail
      refine (markOwn base _ x.needs (kk + 1 + x.has.length) _ HE5.out (by omega) (by omega)).mono ?_
      rintro e w4 ⟨rfl, hg4, ho4⟩
      have HB4 := hid (BK.tr HB3.out (BK.own hg4 HE5.out (Nat.le_refl _) HZ3.out))
      have HO4 := hid (HO3.out.needsTo HHR2.out HHX3.out hg4 ho4 (marksOf_short _ _ (by omega)))
      simp only at HO4
      clear hg4 ho4 HO3 HB3 HHX3 c2' HE5
      have HO5 : Hid (OB w4 base v1 (.slice (some ⟨g, 0, none⟩) bs.length c2) rs2 ⟨T, ms1⟩) := by rw [HF.out]; exact HO4.out
      clear HO4 HF
      go_wp2_with fail
      go_roundw
      case rel => exact ⟨m + 1, rs2, by omega, by go_num, by rw [HK.out]; go_num, HB4.out, by rw [HMS.out]; exact HO5.out⟩
      case measure => simp [intOf]; omega
    · have e : m = bs.length := by omega
      rw [e] at HO ⊢
      go_wp2_with fail
      go_ret
      exact ⟨rfl, HB.out, rs', HO.out⟩

set_option maxHeartbeats 1000000 in
theorem markBook_own (base k : Nat) (b : Book) (a1 a2 : Option Addr) (c1 c2 : Nat) (rs : List Row) (w : World) (h : OB w base (.slice a1 b.things.length c1) (.slice a2 b.batches.length c2) rs b) (hbz : base ≤ w.heap.size) (hk : 1 ≤ k) (hb : k + nMarks b ≤ 1000000000) :
    Calls Tryz.prog 14 #[.agg #[.slice a1 b.things.length c1, .slice a2 b.batches.length c2], .int .i64 (k : Int)] w fun e w' =>
      e = .returned (.int .i64 ((k + nMarks b : Nat) : Int)) ∧ BK base w w' ∧ ∃ rs', OB w' base (.slice a1 b.things.length c1) (.slice a2 b.batches.length c2) rs' (markBook b k) := by
  have HK : Hid (nMarks b = b.things.length + (b.batches.length + cntTo b.batches b.batches.length)) := rfl
  rw [HK.out] at hb
  have HM : Hid (markBook b k = ⟨marksOf k b.things.length, markTo b.batches (k + b.things.length) b.batches.length⟩) := rfl
  generalize markBook b k = mb at *
  generalize nMarks b = nm at *
  obtain ⟨T, bs⟩ := b
  simp only at *
  have HO : Hid (OB (w.alloc (.cells #[.slice a1 T.length c1, .slice a2 bs.length c2] 30)) base (.slice a1 T.length c1) (.slice a2 bs.length c2) rs ⟨T, bs⟩) := h.ext (ext_alloc _ _)
  have HL : Hid (∀ g, (Value.slice a1 T.length c1).ownBlock = some g → g < w.heap.size) := fun g hg => (h.ot.lt g hg).2
  clear h
  go_enter Tryz.func14, Tryz.ntmps14
  go_wp2_with fail
  refine (markOwn base _ T k _ HO.out.ot hk (by omega)).mono ?_
  rintro e w1 ⟨rfl, hg, ho⟩
  have HB1 : Hid (BK base w w1) := BK.tr (BK.ext (ext_alloc _ _) hbz) (BK.own hg HO.out.ot (Nat.le_refl _) (by simp; omega))
  have HO1 := hid (HO.out.thingsTo hg ho (marksOf_short _ _ (by omega)))
  have x0 : w1.cell? ⟨w.heap.size, 0, none⟩ = some (.slice a1 T.length c1) := by
    have e := hg.block w.heap.size (by simp) (fun e => by have := HL.out _ e.symm; omega)
    rw [World.cell?_of_block (w := w.alloc (.cells #[.slice a1 T.length c1, .slice a2 bs.length c2] 30)) (a := ⟨w.heap.size, 0, none⟩) e]; simp
  have x1 : w1.cell? ⟨w.heap.size, 1, none⟩ = some (.slice a2 bs.length c2) := by
    have e := hg.block w.heap.size (by simp) (fun e => by have := HL.out _ e.symm; omega)
    rw [World.cell?_of_block (w := w.alloc (.cells #[.slice a1 T.length c1, .slice a2 bs.length c2] 30)) (a := ⟨w.heap.size, 1, none⟩) e]; simp
  have hz1 : base ≤ w1.heap.size := Nat.le_trans hbz HB1.out.below.size
  clear hg ho HO
  go_wp2_with fail
  refine (markBs_own base (k + T.length) _ a2 c2 rs _ bs _ HO1.out hz1 (by omega) (by omega)).mono ?_
  rintro e w2 ⟨rfl, hb2, rs', ho2⟩
  have HB2 := hid (BK.tr HB1.out hb2)
  have HO2 := hid ho2
  clear hb2 ho2
  go_wp2_with fail
  go_ret
  refine ⟨?_, HB2.out, rs', ?_⟩
  · rw [HK.out]
    show Ending.returned (.int .i64 ((k : Int) + T.length + bs.length + (cntTo bs bs.length : Nat))) = _
    have e : ((k : Int) + T.length + bs.length + (cntTo bs bs.length : Nat)) = ((k + (T.length + (bs.length + cntTo bs bs.length)) : Nat) : Int) := by omega
    rw [e]
  · rw [HM.out]; exact HO2.out
end Go.Proofs.YtdafpnpfcmgfcabGreatDoor
