/- The walk over the law FnMoves, beside those that are only leaving. -/
import Derived.Test.YtdafpnpfcmgfcaaGreatKF
import Derived.Test.YtdafpnpfcmgfcaaGreatKK
import Derived.Test.YtdafpnpfcmgfcaaGreatJY
import Derived.Test.YtdafpnpfcmgfcaaGreatJZ
namespace Go.Proofs.YtdafpnpfcmgfcaaGreat
open Go Go.Conc Go.ConcN Go.RowKit
attribute [local go_sem] S_toList S_size S_get

theorem Grew.cell {a b : World} (h : Grew a b) {p : Addr} {x : Value} (hc : a.cell? p = some x) : b.cell? p = some x := Ext.keep (w := World.re a a.drawn b.tape) h.ext hc
theorem Grew.strs {a b : World} (h : Grew a b) {x : Option Addr} {ss : List Str} (hs : StrsAt a x ss) : StrsAt b x ss := StrsAt.ext (w := World.re a a.drawn b.tape) hs h.ext
theorem Grew.bytes {a b : World} (h : Grew a b) {x : Option Addr} {n : Nat} (hs : BytesAt a x n) : BytesAt b x n := fun i hi => by
  obtain ⟨bk, o, e, y, hy, hc⟩ := hs i hi
  exact ⟨bk, o, e, y, hy, h.cell hc⟩
/-- What the law holds of the world once it has its book. -/
structure StM [Floor] (v0 : World) (b : Book) (x1 x2 : Option Addr) (y1 y2 B : Nat) (a' : Option Addr) (n' : Nat) (z : World) : Prop where
  grew : Grew v0 z
  low : Floor.low ≤ z.heap.size
  c0 : z.cell? ⟨B, 0, none⟩ = some (.slice x1 b.things.length y1)
  c1 : z.cell? ⟨B, 1, none⟩ = some (.slice x2 b.batches.length y2)
  book : BookAt z x1 x2 b
  more : BytesAt z a' n'
theorem StM.on [Floor] {v0 : World} {b : Book} {x1 x2 : Option Addr} {y1 y2 B : Nat} {a' : Option Addr} {n' : Nat} {z z' : World} (h : StM v0 b x1 x2 y1 y2 B a' n' z) (g : Grew z z') : StM v0 b x1 x2 y1 y2 B a' n' z' :=
  ⟨h.grew.tr g, Nat.le_trans h.low g.size, g.cell h.c0, g.cell h.c1, g.book h.book, g.bytes h.more⟩
theorem own_at {w : World} {base : Nat} {r : Value} {ss : List Str} (h : OwnL w base r ss) (h1 : ss.length ≤ 8796093022208) (h2 : ShortP ss) : ∃ a cap, r = .slice a ss.length cap ∧ StrsAt w a ss := h.at h1 h2

set_option maxHeartbeats 4000000 in
set_option maxRecDepth 100000 in
theorem lawMv_m [Floor] (a a' : Option Addr) (n n' c c' : Nat) (v : World) (h1 : BytesAt v a n) (h2 : BytesAt v a' n') (hn : n ≤ c) (hc : c ≤ 140737488355328) (hn' : n' ≤ c') (hc' : c' ≤ 140737488355328) (hfl : Floor.low ≤ v.heap.size) :
    BodyM Tryz.prog Tryz.f3 #[.slice a n c, .slice a' n' c'] v (fun r v' => r = .bool true ∧ Grew v v') := by
  refine ⟨_, rfl, ?_⟩
  simp only [Tryz.ntmps3, List.size_toArray, List.length_cons, List.length_nil, Nat.reduceAdd, Nat.reduceSub, Array.replicate_succ, Array.replicate_zero, List.push_toArray, List.append_toArray, List.nil_append, List.cons_append]
  refine mw_front tamed 3 rfl (by kernel_rfl) (by kernel_rfl) (fun T => ?_)
  generalize hw : World.re v 0 T = w
  have HG0 : Hid (Grew v w) := by subst hw; exact Grew.re v 0 T
  replace h1 : BytesAt w a n := by subst hw; exact h1
  have H2 : Hid (BytesAt w a' n') := by subst hw; exact h2
  have HFL : Hid (Floor.low ≤ w.heap.size) := by subst hw; exact hfl
  clear hw hfl h2
  refine wpF_k (fun K hK => ?_)
  go_wp2_with fail
  refine wpF_k (fun K hK => ?_)
  by_cases hlong : 1048576 < n
  · go_wp2_with fail
    exact ⟨rfl, _, resultsC_tmp (t := 4) rfl _, rfl, HG0.out⟩
  by_cases hlong2 : 1048576 < n'
  · go_wp2_with fail
    exact ⟨rfl, _, resultsC_tmp (t := 4) rfl _, rfl, HG0.out⟩
  go_wp2_with fail
  clear hlong hlong2
  refine wpF_k (fun K hK => ?_)
  go_wp2_with fail
  refine (drawMoves_any a n c _ h1 hn hc).mono ?_
  rintro e w2 ⟨b, x1, x2, y1, y2, rfl, hE2, hb2, hsm⟩
  have HSM := hid hsm
  have HST : ∀ T2, Hid (StM v b x1 x2 y1 y2 w2.heap.size a' n' (World.re (w2.alloc (.cells #[.slice x1 b.things.length y1, .slice x2 b.batches.length y2] 26)) 0 T2)) := fun T2 => by
    have hg : Grew w2 (World.re (w2.alloc (.cells #[.slice x1 b.things.length y1, .slice x2 b.batches.length y2] 26)) 0 T2) := (Grew.of (ext_alloc _ _)).tr (Grew.re _ _ _)
    exact ⟨HG0.out.tr ((Grew.of hE2).tr hg), Nat.le_trans HFL.out ((Grew.of hE2).tr hg).size, box_cell (w := World.re w2 0 T2) (Ext.rfl' ((World.re w2 0 T2).alloc (.cells #[.slice x1 b.things.length y1, .slice x2 b.batches.length y2] 26))) (i := 0) rfl, box_cell (w := World.re w2 0 T2) (Ext.rfl' ((World.re w2 0 T2).alloc (.cells #[.slice x1 b.things.length y1, .slice x2 b.batches.length y2] 26))) (i := 1) rfl, hg.book hb2, ((Grew.of hE2).tr hg).bytes H2.out⟩
  have hshort : ShortP (movesL b) := by
    unfold movesL
    split
    · exact pickL_short hb2.2 _ _ (Nat.le_refl _)
    · exact fun i hi => by simp at hi
  have hlenM : (movesL b).length ≤ 8796093022208 := by
    have := hb2.2.1
    unfold movesL
    split
    · have := pickL_len (fun i => canB b i []) b.batches b.batches.length
      omega
    · simp
  have HSH := hid hshort
  have HLM := hid hlenM
  clear hE2 hb2 hsm hshort hlenM HG0 H2 HFL h1
  go_wp2_with fail
  refine wpF_0 (mw_seq (by kernel_rfl) (fun why h => by cases h) (mw_region ?_))
  refine mo_list tamed [0] [1, 2] rfl (by kernel_rfl) (by kernel_rfl) (fun T2 => ?_)
  simp only [List.filterMap, List.getElem?_toArray, List.getElem?_cons_zero]
  have hst := (HST T2).out
  generalize World.re (w2.alloc (.cells #[.slice x1 b.things.length y1, .slice x2 b.batches.length y2] 26)) 0 T2 = z at hst ⊢
  generalize w2.heap.size = B at hst ⊢
  clear HST
  have hc0 := hst.c0
  have hc1 := hst.c1
  have HS := hid hst
  clear hst
  go_wp2
  refine mo_call (by kernel_rfl) rfl rfl rfl rfl (by simp [Act.eval]) (moves_m b x1 x2 y1 y2 z HS.out.book HS.out.low) (fun r v5 hr => ?_)
  obtain ⟨hG5, ho5⟩ := hr
  obtain ⟨aM, cM, rfl, hsM⟩ := own_at ho5 HLM.out HSH.out
  have HS5 := hid (HS.out.on hG5)
  have HM5 := hid hsM
  clear hG5 ho5 hsM HS hc0 hc1
  walk_nrm
  refine mo_list tamed [2] [] rfl (by kernel_rfl) (by kernel_rfl) (fun T3 => ?_)
  simp only [List.filterMap, List.getElem?_toArray, List.getElem?_cons_zero, List.getElem?_cons_succ]
  go_wp2
  refine mo_nil ?_
  change MW _ _ _ _ _
  have HS6 : Hid (StM v b x1 x2 y1 y2 B a' n' (World.re v5 0 T3)) := HS5.out.on (Grew.re _ _ _)
  have HM6 : Hid (StrsAt (World.re v5 0 T3) aM (movesL b)) := HM5.out
  generalize World.re v5 0 T3 = v6 at HS6 HM6 ⊢
  clear HS5 HM5
  -- S5
  have es := eqS_self (movesL b)
  refine mw_mid (fun x z => FrM (.slice a n c) (.slice a' n' c') (.pointer (some ⟨B, 0, none⟩)) (.slice aM (movesL b).length cM) undef undef undef undef undef undef x ∧ StM v b x1 x2 y1 y2 B a' n' z ∧ StrsAt z aM (movesL b)) (by kernel_rfl) (fun why h => by cases h) (mw_seq (by kernel_rfl) (fun why h => by cases h) (mw_orders (by kernel_rfl) fun l hl => ?_)) ?_
  · have ho : l ∈ ([[0, 1, 2, 3, 4, 5, 6, 7, 8, 9, 10, 11, 12, 13, 14, 15, 16, 17, 18, 19], [0, 1, 2, 3, 4, 5, 6, 8, 7, 9, 10, 11, 12, 13, 14, 15, 16, 17, 18, 19], [0, 1, 2, 3, 4, 5, 8, 6, 7, 9, 10, 11, 12, 13, 14, 15, 16, 17, 18, 19], [1, 0, 2, 3, 4, 5, 6, 7, 8, 9, 10, 11, 12, 13, 14, 15, 16, 17, 18, 19], [1, 0, 2, 3, 4, 5, 6, 8, 7, 9, 10, 11, 12, 13, 14, 15, 16, 17, 18, 19], [1, 0, 2, 3, 4, 5, 8, 6, 7, 9, 10, 11, 12, 13, 14, 15, 16, 17, 18, 19], [1, 2, 0, 3, 4, 5, 6, 7, 8, 9, 10, 11, 12, 13, 14, 15, 16, 17, 18, 19], [1, 2, 0, 3, 4, 5, 6, 8, 7, 9, 10, 11, 12, 13, 14, 15, 16, 17, 18, 19], [1, 2, 0, 3, 4, 5, 8, 6, 7, 9, 10, 11, 12, 13, 14, 15, 16, 17, 18, 19]] : List (List Nat)) := by
      have e : ∀ A B : List (List Nat), A = B → l ∈ A → l ∈ B := fun A B h => h ▸ id
      exact e _ _ (by kernel_rfl) hl
    clear hl
    simp only [List.mem_cons, List.not_mem_nil, or_false] at ho
    have hA : (l = [0, 1, 2, 3, 4, 5, 6, 7, 8, 9, 10, 11, 12, 13, 14, 15, 16, 17, 18, 19] ∨ l = [1, 0, 2, 3, 4, 5, 6, 7, 8, 9, 10, 11, 12, 13, 14, 15, 16, 17, 18, 19] ∨ l = [1, 2, 0, 3, 4, 5, 6, 7, 8, 9, 10, 11, 12, 13, 14, 15, 16, 17, 18, 19]) ∨ (l = [0, 1, 2, 3, 4, 5, 6, 8, 7, 9, 10, 11, 12, 13, 14, 15, 16, 17, 18, 19] ∨ l = [0, 1, 2, 3, 4, 5, 8, 6, 7, 9, 10, 11, 12, 13, 14, 15, 16, 17, 18, 19] ∨ l = [1, 0, 2, 3, 4, 5, 6, 8, 7, 9, 10, 11, 12, 13, 14, 15, 16, 17, 18, 19] ∨ l = [1, 0, 2, 3, 4, 5, 8, 6, 7, 9, 10, 11, 12, 13, 14, 15, 16, 17, 18, 19] ∨ l = [1, 2, 0, 3, 4, 5, 6, 8, 7, 9, 10, 11, 12, 13, 14, 15, 16, 17, 18, 19] ∨ l = [1, 2, 0, 3, 4, 5, 8, 6, 7, 9, 10, 11, 12, 13, 14, 15, 16, 17, 18, 19]) := by
      rcases ho with h | h | h | h | h | h | h | h | h
      · exact .inl (.inl h)
      · exact .inr (.inl h)
      · exact .inr (.inr (.inl h))
      · exact .inl (.inr (.inl h))
      · exact .inr (.inr (.inr (.inl h)))
      · exact .inr (.inr (.inr (.inr (.inl h))))
      · exact .inl (.inr (.inr h))
      · exact .inr (.inr (.inr (.inr (.inr (.inl h)))))
      · exact .inr (.inr (.inr (.inr (.inr (.inr h)))))
    clear ho
    cases hsb : stuckB b
    · rcases hA with hA | hA
      · rcases hA with rfl | rfl | rfl
        all_goals
          refine mo_split tamed 7 _ rfl (by kernel_rfl) (by kernel_rfl) (fun T1 => ?_)
          simp only [List.take, List.drop, List.filterMap, List.getElem?_toArray, List.getElem?_cons_zero, List.getElem?_cons_succ]
          have hs1 : StM v b x1 x2 y1 y2 B a' n' (World.re v6 0 T1) := HS6.out.on (Grew.re _ _ _)
          have hm1 : StrsAt (World.re v6 0 T1) aM (movesL b) := HM6.out
          generalize World.re v6 0 T1 = z1 at hs1 hm1 ⊢
          have hc0 := hs1.c0
          have hc1 := hs1.c1
          have HS1 := hid hs1
          have HM1 := hid hm1
          clear hs1 hm1
          go_wp2_with (first | (go_at_call 7; refine (specMoves_any b _ _ _ _ _ HS1.out.book).mono ?_; rintro e z2 ⟨aS, cS, rfl, hext2, hsp2⟩; replace hc0 := hext2.keep hc0; replace hc1 := hext2.keep hc1) | (go_at_call 6; refine (wTexts_any _ _ _ _ _ _ _ (HM1.out.ext hext2) hsp2).mono ?_; rintro e z3 ⟨rfl, nq, hz3⟩; have hext3 : Ext z2 z3 := (by rw [hz3]; exact ext_drewN _ _); replace hc0 := hext3.keep hc0; replace hc1 := hext3.keep hc1; clear hz3))
          have HS3 := hid (HS1.out.on (Grew.of (Ext.tr hext2 hext3)))
          have HM3 := hid (HM1.out.ext (Ext.tr hext2 hext3))
          clear hext2 hext3 hsp2 hc0 hc1 HS1 HM1
          refine mo_call (by kernel_rfl) rfl rfl rfl rfl (by simp [Act.eval]) (stuck_m b x1 x2 y1 y2 z3 HS3.out.book HS3.out.low) (fun r v7 hr => ?_)
          obtain ⟨hG7, rfl⟩ := hr
          rw [hsb]
          have HS7 := hid (HS3.out.on hG7)
          have HM7 := hid (hG7.strs HM3.out)
          clear hG7 HS3 HM3
          walk_nrm
          refine mo_split tamed 6 _ rfl (by kernel_rfl) (by kernel_rfl) (fun T2 => ?_)
          simp only [List.take, List.drop, List.filterMap, List.getElem?_toArray, List.getElem?_cons_zero, List.getElem?_cons_succ]
          have hs1 : StM v b x1 x2 y1 y2 B a' n' (World.re v7 0 T2) := HS7.out.on (Grew.re _ _ _)
          have hm1 : StrsAt (World.re v7 0 T2) aM (movesL b) := HM7.out
          generalize World.re v7 0 T2 = z4 at hs1 hm1 ⊢
          have hc0 := hs1.c0
          have hc1 := hs1.c1
          have HS1 := hid hs1
          have HM1 := hid hm1
          clear hs1 hm1 HS7 HM7
          go_wp2_with (go_at_call 9; refine (specStuck_any b _ _ _ _ _ HS1.out.book).mono ?_; rintro e z5 ⟨rfl, hext5⟩; rw [hsb]; replace hc0 := hext5.keep hc0; replace hc1 := hext5.keep hc1)
          have HS5 := hid (HS1.out.on (Grew.of hext5))
          have HM5 := hid (HM1.out.ext hext5)
          clear hext5 hc0 hc1 HS1 HM1
          refine mo_call (by kernel_rfl) rfl rfl rfl rfl (by simp [Act.eval]) (stuck_m b x1 x2 y1 y2 z5 HS5.out.book HS5.out.low) (fun r v8 hr => ?_)
          obtain ⟨hG8, rfl⟩ := hr
          rw [hsb]
          have HS8 := hid (HS5.out.on hG8)
          have HM8 := hid (hG8.strs HM5.out)
          clear hG8 HS5 HM5
          walk_nrm
          refine mo_split tamed 5 _ rfl (by kernel_rfl) (by kernel_rfl) (fun T3 => ?_)
          simp only [List.take, List.drop, List.filterMap, List.getElem?_toArray, List.getElem?_cons_zero, List.getElem?_cons_succ]
          have hs1 : StM v b x1 x2 y1 y2 B a' n' (World.re v8 0 T3) := HS8.out.on (Grew.re _ _ _)
          have hm1 : StrsAt (World.re v8 0 T3) aM (movesL b) := HM8.out
          generalize World.re v8 0 T3 = z6 at hs1 hm1 ⊢
          have hc0 := hs1.c0
          have hc1 := hs1.c1
          have HS1 := hid hs1
          have HM1 := hid hm1
          clear hs1 hm1 HS8 HM8
          go_wp2_with fail
          refine mo_nil ?_
          change MW _ _ _ _ _
          refine mw_cond (t := false) rfl (mw_skip ⟨rfl, ?_, HS1.out, HM1.out⟩)
          exact ⟨_, _, _, _, _, _, _, _, _, _, _, _, _, _, _, _, _, _, _, _, _, _, _, _, _, _, _, _, _, _, _, _, _, _, _, _, _, _, _, _, _, _, _, _, _, _, _, _, _, _, _, _, _, _, _, _, _, _, _, _, _, _, _, _, _, _, _, _, _, _, _, _, _, _, _, _, _, _, _, _, _, _, _, _, _, _, rfl⟩
      · rcases hA with rfl | rfl | rfl | rfl | rfl | rfl
        all_goals
          refine mo_split tamed 8 _ rfl (by kernel_rfl) (by kernel_rfl) (fun T1 => ?_)
          simp only [List.take, List.drop, List.filterMap, List.getElem?_toArray, List.getElem?_cons_zero, List.getElem?_cons_succ]
          have hs1 : StM v b x1 x2 y1 y2 B a' n' (World.re v6 0 T1) := HS6.out.on (Grew.re _ _ _)
          have hm1 : StrsAt (World.re v6 0 T1) aM (movesL b) := HM6.out
          generalize World.re v6 0 T1 = z1 at hs1 hm1 ⊢
          have hc0 := hs1.c0
          have hc1 := hs1.c1
          have HS1 := hid hs1
          have HM1 := hid hm1
          clear hs1 hm1
          go_wp2_with (first | (go_at_call 7; refine (specMoves_any b _ _ _ _ _ HS1.out.book).mono ?_; rintro e z2 ⟨aS, cS, rfl, hext2, hsp2⟩; replace hc0 := hext2.keep hc0; replace hc1 := hext2.keep hc1) | (go_at_call 6; refine (wTexts_any _ _ _ _ _ _ _ (HM1.out.ext hext2) hsp2).mono ?_; rintro e z3 ⟨rfl, nq, hz3⟩; have hext3 : Ext z2 z3 := (by rw [hz3]; exact ext_drewN _ _); replace hc0 := hext3.keep hc0; replace hc1 := hext3.keep hc1; clear hz3))
          have HS3 := hid (HS1.out.on (Grew.of (Ext.tr hext2 hext3)))
          have HM3 := hid (HM1.out.ext (Ext.tr hext2 hext3))
          clear hext2 hext3 hsp2 hc0 hc1 HS1 HM1
          refine mo_call (by kernel_rfl) rfl rfl rfl rfl (by simp [Act.eval]) (stuck_m b x1 x2 y1 y2 z3 HS3.out.book HS3.out.low) (fun r v7 hr => ?_)
          obtain ⟨hG7, rfl⟩ := hr
          rw [hsb]
          have HS7 := hid (HS3.out.on hG7)
          have HM7 := hid (hG7.strs HM3.out)
          clear hG7 HS3 HM3
          walk_nrm
          refine mo_split tamed 5 _ rfl (by kernel_rfl) (by kernel_rfl) (fun T2 => ?_)
          simp only [List.take, List.drop, List.filterMap, List.getElem?_toArray, List.getElem?_cons_zero, List.getElem?_cons_succ]
          have hs1 : StM v b x1 x2 y1 y2 B a' n' (World.re v7 0 T2) := HS7.out.on (Grew.re _ _ _)
          have hm1 : StrsAt (World.re v7 0 T2) aM (movesL b) := HM7.out
          generalize World.re v7 0 T2 = z4 at hs1 hm1 ⊢
          have hc0 := hs1.c0
          have hc1 := hs1.c1
          have HS1 := hid hs1
          have HM1 := hid hm1
          clear hs1 hm1 HS7 HM7
          go_wp2_with (go_at_call 9; refine (specStuck_any b _ _ _ _ _ HS1.out.book).mono ?_; rintro e z5 ⟨rfl, hext5⟩; rw [hsb]; replace hc0 := hext5.keep hc0; replace hc1 := hext5.keep hc1)
          have HS5 := hid (HS1.out.on (Grew.of hext5))
          have HM5 := hid (HM1.out.ext hext5)
          clear hext5 hc0 hc1 HS1 HM1
          refine mo_call (by kernel_rfl) rfl rfl rfl rfl (by simp [Act.eval]) (stuck_m b x1 x2 y1 y2 z5 HS5.out.book HS5.out.low) (fun r v8 hr => ?_)
          obtain ⟨hG8, rfl⟩ := hr
          rw [hsb]
          have HS8 := hid (HS5.out.on hG8)
          have HM8 := hid (hG8.strs HM5.out)
          clear hG8 HS5 HM5
          walk_nrm
          refine mo_split tamed 5 _ rfl (by kernel_rfl) (by kernel_rfl) (fun T3 => ?_)
          simp only [List.take, List.drop, List.filterMap, List.getElem?_toArray, List.getElem?_cons_zero, List.getElem?_cons_succ]
          have hs1 : StM v b x1 x2 y1 y2 B a' n' (World.re v8 0 T3) := HS8.out.on (Grew.re _ _ _)
          have hm1 : StrsAt (World.re v8 0 T3) aM (movesL b) := HM8.out
          generalize World.re v8 0 T3 = z6 at hs1 hm1 ⊢
          have hc0 := hs1.c0
          have hc1 := hs1.c1
          have HS1 := hid hs1
          have HM1 := hid hm1
          clear hs1 hm1 HS8 HM8
          go_wp2_with fail
          refine mo_nil ?_
          change MW _ _ _ _ _
          refine mw_cond (t := false) rfl (mw_skip ⟨rfl, ?_, HS1.out, HM1.out⟩)
          exact ⟨_, _, _, _, _, _, _, _, _, _, _, _, _, _, _, _, _, _, _, _, _, _, _, _, _, _, _, _, _, _, _, _, _, _, _, _, _, _, _, _, _, _, _, _, _, _, _, _, _, _, _, _, _, _, _, _, _, _, _, _, _, _, _, _, _, _, _, _, _, _, _, _, _, _, _, _, _, _, _, _, _, _, _, _, _, _, rfl⟩
    · rcases hA with hA | hA
      · rcases hA with rfl | rfl | rfl
        all_goals
          refine mo_split tamed 7 _ rfl (by kernel_rfl) (by kernel_rfl) (fun T1 => ?_)
          simp only [List.take, List.drop, List.filterMap, List.getElem?_toArray, List.getElem?_cons_zero, List.getElem?_cons_succ]
          have hs1 : StM v b x1 x2 y1 y2 B a' n' (World.re v6 0 T1) := HS6.out.on (Grew.re _ _ _)
          have hm1 : StrsAt (World.re v6 0 T1) aM (movesL b) := HM6.out
          generalize World.re v6 0 T1 = z1 at hs1 hm1 ⊢
          have hc0 := hs1.c0
          have hc1 := hs1.c1
          have HS1 := hid hs1
          have HM1 := hid hm1
          clear hs1 hm1
          go_wp2_with (first | (go_at_call 7; refine (specMoves_any b _ _ _ _ _ HS1.out.book).mono ?_; rintro e z2 ⟨aS, cS, rfl, hext2, hsp2⟩; replace hc0 := hext2.keep hc0; replace hc1 := hext2.keep hc1) | (go_at_call 6; refine (wTexts_any _ _ _ _ _ _ _ (HM1.out.ext hext2) hsp2).mono ?_; rintro e z3 ⟨rfl, nq, hz3⟩; have hext3 : Ext z2 z3 := (by rw [hz3]; exact ext_drewN _ _); replace hc0 := hext3.keep hc0; replace hc1 := hext3.keep hc1; clear hz3))
          have HS3 := hid (HS1.out.on (Grew.of (Ext.tr hext2 hext3)))
          have HM3 := hid (HM1.out.ext (Ext.tr hext2 hext3))
          clear hext2 hext3 hsp2 hc0 hc1 HS1 HM1
          refine mo_call (by kernel_rfl) rfl rfl rfl rfl (by simp [Act.eval]) (stuck_m b x1 x2 y1 y2 z3 HS3.out.book HS3.out.low) (fun r v7 hr => ?_)
          obtain ⟨hG7, rfl⟩ := hr
          rw [hsb]
          have HS7 := hid (HS3.out.on hG7)
          have HM7 := hid (hG7.strs HM3.out)
          clear hG7 HS3 HM3
          walk_nrm
          refine mo_split tamed 6 _ rfl (by kernel_rfl) (by kernel_rfl) (fun T2 => ?_)
          simp only [List.take, List.drop, List.filterMap, List.getElem?_toArray, List.getElem?_cons_zero, List.getElem?_cons_succ]
          have hs1 : StM v b x1 x2 y1 y2 B a' n' (World.re v7 0 T2) := HS7.out.on (Grew.re _ _ _)
          have hm1 : StrsAt (World.re v7 0 T2) aM (movesL b) := HM7.out
          generalize World.re v7 0 T2 = z4 at hs1 hm1 ⊢
          have hc0 := hs1.c0
          have hc1 := hs1.c1
          have HS1 := hid hs1
          have HM1 := hid hm1
          clear hs1 hm1 HS7 HM7
          go_wp2_with (go_at_call 9; refine (specStuck_any b _ _ _ _ _ HS1.out.book).mono ?_; rintro e z5 ⟨rfl, hext5⟩; rw [hsb]; replace hc0 := hext5.keep hc0; replace hc1 := hext5.keep hc1)
          have HS5 := hid (HS1.out.on (Grew.of hext5))
          have HM5 := hid (HM1.out.ext hext5)
          clear hext5 hc0 hc1 HS1 HM1
          refine mo_call (by kernel_rfl) rfl rfl rfl rfl (by simp [Act.eval]) (stuck_m b x1 x2 y1 y2 z5 HS5.out.book HS5.out.low) (fun r v8 hr => ?_)
          obtain ⟨hG8, rfl⟩ := hr
          rw [hsb]
          have HS8 := hid (HS5.out.on hG8)
          have HM8 := hid (hG8.strs HM5.out)
          clear hG8 HS5 HM5
          walk_nrm
          refine mo_split tamed 5 _ rfl (by kernel_rfl) (by kernel_rfl) (fun T3 => ?_)
          simp only [List.take, List.drop, List.filterMap, List.getElem?_toArray, List.getElem?_cons_zero, List.getElem?_cons_succ]
          have hs1 : StM v b x1 x2 y1 y2 B a' n' (World.re v8 0 T3) := HS8.out.on (Grew.re _ _ _)
          have hm1 : StrsAt (World.re v8 0 T3) aM (movesL b) := HM8.out
          generalize World.re v8 0 T3 = z6 at hs1 hm1 ⊢
          have hc0 := hs1.c0
          have hc1 := hs1.c1
          have HS1 := hid hs1
          have HM1 := hid hm1
          clear hs1 hm1 HS8 HM8
          have hsf := stuck_unsafe hsb
          go_wp2_with (go_at_call 10; refine (implSafe_any b _ _ _ _ _ HS1.out.book).mono ?_; rintro e z7 ⟨rfl, hext7⟩; rw [hsf])
          refine mo_nil ?_
          change MW _ _ _ _ _
          refine mw_cond (t := false) rfl (mw_skip ⟨rfl, ?_, HS1.out.on (Grew.of hext7), HM1.out.ext hext7⟩)
          exact ⟨_, _, _, _, _, _, _, _, _, _, _, _, _, _, _, _, _, _, _, _, _, _, _, _, _, _, _, _, _, _, _, _, _, _, _, _, _, _, _, _, _, _, _, _, _, _, _, _, _, _, _, _, _, _, _, _, _, _, _, _, _, _, _, _, _, _, _, _, _, _, _, _, _, _, _, _, _, _, _, _, _, _, _, _, _, _, rfl⟩
      · rcases hA with rfl | rfl | rfl | rfl | rfl | rfl
        all_goals
          refine mo_split tamed 8 _ rfl (by kernel_rfl) (by kernel_rfl) (fun T1 => ?_)
          simp only [List.take, List.drop, List.filterMap, List.getElem?_toArray, List.getElem?_cons_zero, List.getElem?_cons_succ]
          have hs1 : StM v b x1 x2 y1 y2 B a' n' (World.re v6 0 T1) := HS6.out.on (Grew.re _ _ _)
          have hm1 : StrsAt (World.re v6 0 T1) aM (movesL b) := HM6.out
          generalize World.re v6 0 T1 = z1 at hs1 hm1 ⊢
          have hc0 := hs1.c0
          have hc1 := hs1.c1
          have HS1 := hid hs1
          have HM1 := hid hm1
          clear hs1 hm1
          go_wp2_with (first | (go_at_call 7; refine (specMoves_any b _ _ _ _ _ HS1.out.book).mono ?_; rintro e z2 ⟨aS, cS, rfl, hext2, hsp2⟩; replace hc0 := hext2.keep hc0; replace hc1 := hext2.keep hc1) | (go_at_call 6; refine (wTexts_any _ _ _ _ _ _ _ (HM1.out.ext hext2) hsp2).mono ?_; rintro e z3 ⟨rfl, nq, hz3⟩; have hext3 : Ext z2 z3 := (by rw [hz3]; exact ext_drewN _ _); replace hc0 := hext3.keep hc0; replace hc1 := hext3.keep hc1; clear hz3))
          have HS3 := hid (HS1.out.on (Grew.of (Ext.tr hext2 hext3)))
          have HM3 := hid (HM1.out.ext (Ext.tr hext2 hext3))
          clear hext2 hext3 hsp2 hc0 hc1 HS1 HM1
          refine mo_call (by kernel_rfl) rfl rfl rfl rfl (by simp [Act.eval]) (stuck_m b x1 x2 y1 y2 z3 HS3.out.book HS3.out.low) (fun r v7 hr => ?_)
          obtain ⟨hG7, rfl⟩ := hr
          rw [hsb]
          have HS7 := hid (HS3.out.on hG7)
          have HM7 := hid (hG7.strs HM3.out)
          clear hG7 HS3 HM3
          walk_nrm
          refine mo_split tamed 5 _ rfl (by kernel_rfl) (by kernel_rfl) (fun T2 => ?_)
          simp only [List.take, List.drop, List.filterMap, List.getElem?_toArray, List.getElem?_cons_zero, List.getElem?_cons_succ]
          have hs1 : StM v b x1 x2 y1 y2 B a' n' (World.re v7 0 T2) := HS7.out.on (Grew.re _ _ _)
          have hm1 : StrsAt (World.re v7 0 T2) aM (movesL b) := HM7.out
          generalize World.re v7 0 T2 = z4 at hs1 hm1 ⊢
          have hc0 := hs1.c0
          have hc1 := hs1.c1
          have HS1 := hid hs1
          have HM1 := hid hm1
          clear hs1 hm1 HS7 HM7
          go_wp2_with (go_at_call 9; refine (specStuck_any b _ _ _ _ _ HS1.out.book).mono ?_; rintro e z5 ⟨rfl, hext5⟩; rw [hsb]; replace hc0 := hext5.keep hc0; replace hc1 := hext5.keep hc1)
          have HS5 := hid (HS1.out.on (Grew.of hext5))
          have HM5 := hid (HM1.out.ext hext5)
          clear hext5 hc0 hc1 HS1 HM1
          refine mo_call (by kernel_rfl) rfl rfl rfl rfl (by simp [Act.eval]) (stuck_m b x1 x2 y1 y2 z5 HS5.out.book HS5.out.low) (fun r v8 hr => ?_)
          obtain ⟨hG8, rfl⟩ := hr
          rw [hsb]
          have HS8 := hid (HS5.out.on hG8)
          have HM8 := hid (hG8.strs HM5.out)
          clear hG8 HS5 HM5
          walk_nrm
          refine mo_split tamed 5 _ rfl (by kernel_rfl) (by kernel_rfl) (fun T3 => ?_)
          simp only [List.take, List.drop, List.filterMap, List.getElem?_toArray, List.getElem?_cons_zero, List.getElem?_cons_succ]
          have hs1 : StM v b x1 x2 y1 y2 B a' n' (World.re v8 0 T3) := HS8.out.on (Grew.re _ _ _)
          have hm1 : StrsAt (World.re v8 0 T3) aM (movesL b) := HM8.out
          generalize World.re v8 0 T3 = z6 at hs1 hm1 ⊢
          have hc0 := hs1.c0
          have hc1 := hs1.c1
          have HS1 := hid hs1
          have HM1 := hid hm1
          clear hs1 hm1 HS8 HM8
          have hsf := stuck_unsafe hsb
          go_wp2_with (go_at_call 10; refine (implSafe_any b _ _ _ _ _ HS1.out.book).mono ?_; rintro e z7 ⟨rfl, hext7⟩; rw [hsf])
          refine mo_nil ?_
          change MW _ _ _ _ _
          refine mw_cond (t := false) rfl (mw_skip ⟨rfl, ?_, HS1.out.on (Grew.of hext7), HM1.out.ext hext7⟩)
          exact ⟨_, _, _, _, _, _, _, _, _, _, _, _, _, _, _, _, _, _, _, _, _, _, _, _, _, _, _, _, _, _, _, _, _, _, _, _, _, _, _, _, _, _, _, _, _, _, _, _, _, _, _, _, _, _, _, _, _, _, _, _, _, _, _, _, _, _, _, _, _, _, _, _, _, _, _, _, _, _, _, _, _, _, _, _, _, _, rfl⟩
  · rintro x z ⟨hfr, hst, hsm⟩
    refine hfr.elim (C := fun x => MW _ _ _ x _) ?_
    clear hfr x
    intro u2 u3 u4 u13 u14 u15 u16 u17 u18 u19 u20 u21 u22 u23 u24 u25 u26 u27 u28 u29 u30 u31 u32 u33 u34 u35 u36 u37 u38 u39 u40 u41 u42 u43 u44 u45 u46 u47 u48 u49 u50 u51 u52 u53 u54 u55 u56 u57 u58 u59 u60 u61 u62 u63 u64 u65 u66 u67 u68 u69 u70 u71 u72 u73 u74 u75 u76 u77 u78 u79 u80 u81 u82 u83 u84 u85 u86 u87 u88 u89 u90 u91 u92 u93 u94 u95
    clear HS6 HM6 es
    refine mw_mid (fun x z => (∃ p7 p8, FrM (.slice a n c) (.slice a' n' c') (.pointer (some ⟨B, 0, none⟩)) (.slice aM (movesL b).length cM) p7 p8 undef undef undef undef x) ∧ StM v b x1 x2 y1 y2 B a' n' z) (by kernel_rfl) (fun why h => by cases h) ?_ ?_
    · -- who can have all they need waits on nobody
      refine mw_seq_wp tamed rfl (by kernel_rfl) (by kernel_rfl) (fun why h => by cases h) (fun T => ?_)
      go_wp2
      refine mw_block (mw_loop (by kernel_rfl) (fun m x z => ∃ (k : Nat) (p7 p8 : Value), p7 = .int .i64 (k : Int) ∧ k ≤ b.batches.length ∧ m = b.batches.length - k ∧ FrM (.slice a n c) (.slice a' n' c') (.pointer (some ⟨B, 0, none⟩)) (.slice aM (movesL b).length cM) p7 p8 undef undef undef undef x ∧ StM v b x1 x2 y1 y2 B a' n' z ∧ StrsAt z aM (movesL b)) (fun m x z hI => ?_) b.batches.length ⟨0, .int .i64 0, undef, rfl, Nat.zero_le _, rfl, ?_, hst.on (Grew.re _ _ _), hsm⟩)
      rotate_left
      · exact ⟨_, _, _, _, _, _, _, _, _, _, _, _, _, _, _, _, _, _, _, _, _, _, _, _, _, _, _, _, _, _, _, _, _, _, _, _, _, _, _, _, _, _, _, _, _, _, _, _, _, _, _, _, _, _, _, _, _, _, _, _, _, _, _, _, _, _, _, _, _, _, _, _, _, _, _, _, _, _, _, _, _, _, _, _, _, _, rfl⟩
      clear hst hsm
      obtain ⟨k, p7, p8, rfl, hk, rfl, hfr, hst, hsm⟩ := hI
      refine hfr.elim (C := fun x => MW _ _ _ x _) ?_
      clear hfr x
      intro u2 u3 u4 u13 u14 u15 u16 u17 u18 u19 u20 u21 u22 u23 u24 u25 u26 u27 u28 u29 u30 u31 u32 u33 u34 u35 u36 u37 u38 u39 u40 u41 u42 u43 u44 u45 u46 u47 u48 u49 u50 u51 u52 u53 u54 u55 u56 u57 u58 u59 u60 u61 u62 u63 u64 u65 u66 u67 u68 u69 u70 u71 u72 u73 u74 u75 u76 u77 u78 u79 u80 u81 u82 u83 u84 u85 u86 u87 u88 u89 u90 u91 u92 u93 u94 u95
      refine mw_seq_wp tamed rfl (by kernel_rfl) (by kernel_rfl) (fun why h => by cases h) (fun T2 => ?_)
      have hs1 : StM v b x1 x2 y1 y2 B a' n' (World.re z 0 T2) := hst.on (Grew.re _ _ _)
      have hm1 : StrsAt (World.re z 0 T2) aM (movesL b) := hsm
      generalize World.re z 0 T2 = z1 at hs1 hm1 ⊢
      have hc0 := hs1.c0
      have hc1 := hs1.c1
      have HS1 := hid hs1
      have HM1 := hid hm1
      clear hs1 hm1 hst hsm
      by_cases hlt : k < b.batches.length
      · cases hok : bookOk b
        · go_wp2_with (go_at_call 11; refine (specBookOk_any b _ _ _ _ _ HS1.out.book).mono ?_; rintro e z2 ⟨rfl, hext2⟩; rw [hok])
          exact ⟨rfl, ⟨_, _, ⟨_, _, _, _, _, _, _, _, _, _, _, _, _, _, _, _, _, _, _, _, _, _, _, _, _, _, _, _, _, _, _, _, _, _, _, _, _, _, _, _, _, _, _, _, _, _, _, _, _, _, _, _, _, _, _, _, _, _, _, _, _, _, _, _, _, _, _, _, _, _, _, _, _, _, _, _, _, _, _, _, _, _, _, _, _, _, rfl⟩⟩, HS1.out.on (Grew.of hext2)⟩
        · go_wp2_with (go_at_call 11; refine (specBookOk_any b _ _ _ _ _ HS1.out.book).mono ?_; rintro e z2 ⟨rfl, hext2⟩; rw [hok])
          have HS2 := hid (HS1.out.on (Grew.of hext2))
          have HM2 := hid (HM1.out.ext hext2)
          have HMW := hid (move_waits hok hlt)
          clear hext2 hc0 hc1 HS1 HM1
          refine mw_mid (fun x z => FrM (.slice a n c) (.slice a' n' c') (.pointer (some ⟨B, 0, none⟩)) (.slice aM (movesL b).length cM) (.int .i64 (k : Int)) (.string (S (nthB b.batches k).name)) undef undef undef undef x ∧ StM v b x1 x2 y1 y2 B a' n' z ∧ StrsAt z aM (movesL b)) (by kernel_rfl) (fun why h => by cases h) (mw_block ?_) ?_
          · refine mw_seq_wp tamed rfl (by kernel_rfl) (by kernel_rfl) (fun why h => by cases h) (fun T3 => ?_)
            have hs1 : StM v b x1 x2 y1 y2 B a' n' (World.re z2 0 T3) := HS2.out.on (Grew.re _ _ _)
            have hm1 : StrsAt (World.re z2 0 T3) aM (movesL b) := HM2.out
            generalize World.re z2 0 T3 = z3 at hs1 hm1 ⊢
            have hc0 := hs1.c0
            have hc1 := hs1.c1
            have HS3 := hid hs1
            have HM3 := hid hm1
            obtain ⟨ba, oa, rfl, hl, d1, g1, d2, g2, p0, p1, p2, s1, s2⟩ := hs1.book.2.2 k hlt
            clear hs1 hm1 HS2 HM2
            have hltI : (k : Int) < (b.batches.length : Int) := by omega
            go_wp2
            have hnm : (nthB b.batches k).name.length ≤ 140737488355328 := hl
            clear hc0 hc1 p0 p1 p2 s1 s2
            have hshW : ShortP (waitsL b (nthB b.batches k).name) := by
              unfold waitsL
              split
              · exact pickL_short HS3.out.book.2 _ _ (Nat.le_refl _)
              · exact fun i hi => by simp at hi
            have hlnW : (waitsL b (nthB b.batches k).name).length ≤ 8796093022208 := by
              have := HS3.out.book.2.1
              unfold waitsL
              split
              · have := pickL_len (waitY b (place (namesOf b.batches) (nthB b.batches k).name)) b.batches b.batches.length
                omega
              · simp
            have HSW := hid hshW
            have HLW := hid hlnW
            clear hshW hlnW hltI
            generalize hnme : (nthB b.batches k).name = nm at *
            clear hnme
            refine mw_seq (by kernel_rfl) (fun why h => by cases h) (mw_orders (by kernel_rfl) fun l hl2 => ?_)
            have ho : l ∈ ([[0, 1, 2, 3, 4, 5, 6, 7, 8], [0, 1, 2, 4, 3, 5, 6, 7, 8], [0, 1, 3, 2, 4, 5, 6, 7, 8], [0, 1, 3, 4, 2, 5, 6, 7, 8], [0, 1, 4, 2, 3, 5, 6, 7, 8], [0, 1, 4, 3, 2, 5, 6, 7, 8], [0, 3, 1, 2, 4, 5, 6, 7, 8], [0, 3, 1, 4, 2, 5, 6, 7, 8], [0, 3, 4, 1, 2, 5, 6, 7, 8], [0, 4, 1, 2, 3, 5, 6, 7, 8], [0, 4, 1, 3, 2, 5, 6, 7, 8], [0, 4, 3, 1, 2, 5, 6, 7, 8], [1, 0, 2, 3, 4, 5, 6, 7, 8], [1, 0, 2, 4, 3, 5, 6, 7, 8], [1, 0, 3, 2, 4, 5, 6, 7, 8], [1, 0, 3, 4, 2, 5, 6, 7, 8], [1, 0, 4, 2, 3, 5, 6, 7, 8], [1, 0, 4, 3, 2, 5, 6, 7, 8], [1, 3, 0, 2, 4, 5, 6, 7, 8], [1, 3, 0, 4, 2, 5, 6, 7, 8], [1, 3, 4, 0, 2, 5, 6, 7, 8], [1, 4, 0, 2, 3, 5, 6, 7, 8], [1, 4, 0, 3, 2, 5, 6, 7, 8], [1, 4, 3, 0, 2, 5, 6, 7, 8], [3, 0, 1, 2, 4, 5, 6, 7, 8], [3, 0, 1, 4, 2, 5, 6, 7, 8], [3, 0, 4, 1, 2, 5, 6, 7, 8], [3, 1, 0, 2, 4, 5, 6, 7, 8], [3, 1, 0, 4, 2, 5, 6, 7, 8], [3, 1, 4, 0, 2, 5, 6, 7, 8], [3, 4, 0, 1, 2, 5, 6, 7, 8], [3, 4, 1, 0, 2, 5, 6, 7, 8], [4, 0, 1, 2, 3, 5, 6, 7, 8], [4, 0, 1, 3, 2, 5, 6, 7, 8], [4, 0, 3, 1, 2, 5, 6, 7, 8], [4, 1, 0, 2, 3, 5, 6, 7, 8], [4, 1, 0, 3, 2, 5, 6, 7, 8], [4, 1, 3, 0, 2, 5, 6, 7, 8], [4, 3, 0, 1, 2, 5, 6, 7, 8], [4, 3, 1, 0, 2, 5, 6, 7, 8]] : List (List Nat)) := by
              have e : ∀ A B : List (List Nat), A = B → l ∈ A → l ∈ B := fun A B h => h ▸ id
              exact e _ _ (by kernel_rfl) hl2
            clear hl2
            simp only [List.mem_cons, List.not_mem_nil, or_false] at ho
            cases hq : hasB (movesL b) nm
            · have hL : ¬ (waitsL b nm).length = 0 := fun h => by
                have := HMW.out
                rw [hq, h] at this
                cases this
              have hLI : (((waitsL b nm).length : Int) == 0) = false := by rw [beq_eq_false_iff_ne]; omega
              have HLI := hid hLI
              clear hL hLI
              rcases ho with rfl | rfl | rfl | rfl | rfl | rfl | rfl | rfl | rfl | rfl | rfl | rfl | rfl | rfl | rfl | rfl | rfl | rfl | rfl | rfl | rfl | rfl | rfl | rfl | rfl | rfl | rfl | rfl | rfl | rfl | rfl | rfl | rfl | rfl | rfl | rfl | rfl | rfl | rfl | rfl
              all_goals
                refine mo_split tamed 5 _ rfl (by kernel_rfl) (by kernel_rfl) (fun T4 => ?_)
                simp only [List.take, List.drop, List.filterMap, List.getElem?_toArray, List.getElem?_cons_zero, List.getElem?_cons_succ]
                have hs1 : StM v b x1 (some ⟨ba, oa, none⟩) y1 y2 B a' n' (World.re z3 0 T4) := HS3.out.on (Grew.re _ _ _)
                have hm1 : StrsAt (World.re z3 0 T4) aM (movesL b) := HM3.out
                generalize World.re z3 0 T4 = z4 at hs1 hm1 ⊢
                have hc0 := hs1.c0
                have hc1 := hs1.c1
                have HS4 := hid hs1
                have HM4 := hid hm1
                clear hs1 hm1
                go_wp2_with (go_at_call 12; refine (wHas_v _ _ _ _ _ _ HM4.out hq).mono ?_; rintro e z5 ⟨rfl, rfl⟩)
                refine mo_call (by kernel_rfl) rfl rfl rfl rfl (by simp [Act.eval]) (waits_m b nm x1 (some ⟨ba, oa, none⟩) y1 y2 _ HS4.out.book HS4.out.low) (fun r v9 hr => ?_)
                obtain ⟨hG9, ho9⟩ := hr
                obtain ⟨aW, cW, rfl, _⟩ := own_at ho9 HLW.out HSW.out
                have HS9 := hid (HS4.out.on hG9)
                have HM9 := hid (hG9.strs HM4.out)
                clear hG9 ho9 HS4 HM4 hc0 hc1
                walk_nrm
                have hLI := HLI.out
                refine mo_split tamed 3 _ rfl (by kernel_rfl) (by kernel_rfl) (fun T5 => ?_)
                simp only [List.take, List.drop, List.filterMap, List.getElem?_toArray, List.getElem?_cons_zero, List.getElem?_cons_succ]
                go_wp2
                refine mo_nil ?_
                change MW _ _ _ _ _
                refine mw_cond (t := false) rfl (mw_skip ⟨rfl, ?_, HS9.out.on (Grew.re _ _ _), HM9.out⟩)
                exact ⟨_, _, _, _, _, _, _, _, _, _, _, _, _, _, _, _, _, _, _, _, _, _, _, _, _, _, _, _, _, _, _, _, _, _, _, _, _, _, _, _, _, _, _, _, _, _, _, _, _, _, _, _, _, _, _, _, _, _, _, _, _, _, _, _, _, _, _, _, _, _, _, _, _, _, _, _, _, _, _, _, _, _, _, _, _, _, rfl⟩
            · have hL : (waitsL b nm).length = 0 := by
                have := HMW.out
                rw [hq] at this
                exact of_decide_eq_true this.symm
              have HLI := hid hL
              clear hL
              rcases ho with rfl | rfl | rfl | rfl | rfl | rfl | rfl | rfl | rfl | rfl | rfl | rfl | rfl | rfl | rfl | rfl | rfl | rfl | rfl | rfl | rfl | rfl | rfl | rfl | rfl | rfl | rfl | rfl | rfl | rfl | rfl | rfl | rfl | rfl | rfl | rfl | rfl | rfl | rfl | rfl
              all_goals
                refine mo_split tamed 5 _ rfl (by kernel_rfl) (by kernel_rfl) (fun T4 => ?_)
                simp only [List.take, List.drop, List.filterMap, List.getElem?_toArray, List.getElem?_cons_zero, List.getElem?_cons_succ]
                have hs1 : StM v b x1 (some ⟨ba, oa, none⟩) y1 y2 B a' n' (World.re z3 0 T4) := HS3.out.on (Grew.re _ _ _)
                have hm1 : StrsAt (World.re z3 0 T4) aM (movesL b) := HM3.out
                generalize World.re z3 0 T4 = z4 at hs1 hm1 ⊢
                have hc0 := hs1.c0
                have hc1 := hs1.c1
                have HS4 := hid hs1
                have HM4 := hid hm1
                clear hs1 hm1
                go_wp2_with (go_at_call 12; refine (wHas_v _ _ _ _ _ _ HM4.out hq).mono ?_; rintro e z5 ⟨rfl, rfl⟩)
                refine mo_call (by kernel_rfl) rfl rfl rfl rfl (by simp [Act.eval]) (waits_m b nm x1 (some ⟨ba, oa, none⟩) y1 y2 _ HS4.out.book HS4.out.low) (fun r v9 hr => ?_)
                obtain ⟨hG9, ho9⟩ := hr
                obtain ⟨aW, cW, rfl, _⟩ := own_at ho9 HLW.out HSW.out
                rw [HLI.out]
                have HS9 := hid (HS4.out.on hG9)
                have HM9 := hid (hG9.strs HM4.out)
                clear hG9 ho9 HS4 HM4 hc0 hc1
                walk_nrm
                refine mo_split tamed 3 _ rfl (by kernel_rfl) (by kernel_rfl) (fun T5 => ?_)
                simp only [List.take, List.drop, List.filterMap, List.getElem?_toArray, List.getElem?_cons_zero, List.getElem?_cons_succ]
                go_wp2
                refine mo_nil ?_
                change MW _ _ _ _ _
                refine mw_cond (t := false) rfl (mw_skip ⟨rfl, ?_, HS9.out.on (Grew.re _ _ _), HM9.out⟩)
                exact ⟨_, _, _, _, _, _, _, _, _, _, _, _, _, _, _, _, _, _, _, _, _, _, _, _, _, _, _, _, _, _, _, _, _, _, _, _, _, _, _, _, _, _, _, _, _, _, _, _, _, _, _, _, _, _, _, _, _, _, _, _, _, _, _, _, _, _, _, _, _, _, _, _, _, _, _, _, _, _, _, _, _, _, _, _, _, _, rfl⟩
          · rintro x z4 ⟨hfr, hst, hsm⟩
            refine hfr.elim (C := fun x => MW _ _ _ x _) ?_
            clear hfr x
            intro u2 u3 u4 u13 u14 u15 u16 u17 u18 u19 u20 u21 u22 u23 u24 u25 u26 u27 u28 u29 u30 u31 u32 u33 u34 u35 u36 u37 u38 u39 u40 u41 u42 u43 u44 u45 u46 u47 u48 u49 u50 u51 u52 u53 u54 u55 u56 u57 u58 u59 u60 u61 u62 u63 u64 u65 u66 u67 u68 u69 u70 u71 u72 u73 u74 u75 u76 u77 u78 u79 u80 u81 u82 u83 u84 u85 u86 u87 u88 u89 u90 u91 u92 u93 u94 u95
            refine mw_wp tamed rfl (by kernel_rfl) (fun T4 => ?_)
            have hbl := hst.book.2.1
            go_wp2
            refine ⟨b.batches.length - (k + 1), by omega, k + 1, _, _, ?_, by omega, rfl, ⟨_, _, _, _, _, _, _, _, _, _, _, _, _, _, _, _, _, _, _, _, _, _, _, _, _, _, _, _, _, _, _, _, _, _, _, _, _, _, _, _, _, _, _, _, _, _, _, _, _, _, _, _, _, _, _, _, _, _, _, _, _, _, _, _, _, _, _, _, _, _, _, _, _, _, _, _, _, _, _, _, _, _, _, _, _, _, rfl⟩, hst.on (Grew.re _ _ _), hsm⟩
            go_num
      · have hnI : ¬ (k : Int) < (b.batches.length : Int) := by omega
        go_wp2_with fail
        exact ⟨rfl, ⟨_, _, ⟨_, _, _, _, _, _, _, _, _, _, _, _, _, _, _, _, _, _, _, _, _, _, _, _, _, _, _, _, _, _, _, _, _, _, _, _, _, _, _, _, _, _, _, _, _, _, _, _, _, _, _, _, _, _, _, _, _, _, _, _, _, _, _, _, _, _, _, _, _, _, _, _, _, _, _, _, _, _, _, _, _, _, _, _, _, _, rfl⟩⟩, HS1.out⟩
    · rintro x z2 ⟨⟨p7, p8, hfr⟩, hst2⟩
      refine hfr.elim (C := fun x => MW _ _ _ x _) ?_
      clear hfr x
      intro u2 u3 u4 u13 u14 u15 u16 u17 u18 u19 u20 u21 u22 u23 u24 u25 u26 u27 u28 u29 u30 u31 u32 u33 u34 u35 u36 u37 u38 u39 u40 u41 u42 u43 u44 u45 u46 u47 u48 u49 u50 u51 u52 u53 u54 u55 u56 u57 u58 u59 u60 u61 u62 u63 u64 u65 u66 u67 u68 u69 u70 u71 u72 u73 u74 u75 u76 u77 u78 u79 u80 u81 u82 u83 u84 u85 u86 u87 u88 u89 u90 u91 u92 u93 u94 u95
      clear hst hsm
      refine mw_seq_wp tamed rfl (by kernel_rfl) (by kernel_rfl) (fun why h => by cases h) (fun T => ?_)
      have hs1 : StM v b x1 x2 y1 y2 B a' n' (World.re z2 0 T) := hst2.on (Grew.re _ _ _)
      generalize World.re z2 0 T = z3 at hs1 ⊢
      have HS3 := hid hs1
      clear hs1 hst2
      go_wp2_with (go_at_call 14; refine (drawWaits_any a' n' c' _ HS3.out.more hn' hc').mono ?_; rintro e w3 ⟨d, X1, X2, Y1, Y2, nm, rfl, hE3, hb3, hsm3, hnl⟩)
      have HG3 : Hid (Grew v w3 ∧ Floor.low ≤ w3.heap.size) := ⟨HS3.out.grew.tr (Grew.of hE3), Nat.le_trans HS3.out.low hE3.size⟩
      have HB3 := hid hb3
      have hshW : ShortP (waitsL d nm) := by
        unfold waitsL
        split
        · exact pickL_short hb3.2 _ _ (Nat.le_refl _)
        · exact fun i hi => by simp at hi
      have hlnW : (waitsL d nm).length ≤ 8796093022208 := by
        have := hb3.2.1
        unfold waitsL
        split
        · have := pickL_len (waitY d (place (namesOf d.batches) nm)) d.batches d.batches.length
          omega
        · simp
      have HSW := hid hshW
      have HLW := hid hlnW
      clear hE3 hb3 hsm3 HS3 hshW hlnW
      refine mw_seq (by kernel_rfl) (fun why h => by cases h) (mw_region ?_)
      refine mo_list tamed [0, 1] [2, 3] rfl (by kernel_rfl) (by kernel_rfl) (fun T2 => ?_)
      simp only [List.filterMap, List.getElem?_toArray, List.getElem?_cons_zero, List.getElem?_cons_succ]
      have hg : Grew w3 (World.re (w3.alloc (.cells #[.slice X1 d.things.length Y1, .slice X2 d.batches.length Y2] 26)) 0 T2) := (Grew.of (ext_alloc _ _)).tr (Grew.re _ _ _)
      have hc0 : (World.re (w3.alloc (.cells #[.slice X1 d.things.length Y1, .slice X2 d.batches.length Y2] 26)) 0 T2).cell? ⟨w3.heap.size, 0, none⟩ = some (.slice X1 d.things.length Y1) := box_cell (w := World.re w3 0 T2) (Ext.rfl' ((World.re w3 0 T2).alloc (.cells #[.slice X1 d.things.length Y1, .slice X2 d.batches.length Y2] 26))) (i := 0) rfl
      have hc1 : (World.re (w3.alloc (.cells #[.slice X1 d.things.length Y1, .slice X2 d.batches.length Y2] 26)) 0 T2).cell? ⟨w3.heap.size, 1, none⟩ = some (.slice X2 d.batches.length Y2) := box_cell (w := World.re w3 0 T2) (Ext.rfl' ((World.re w3 0 T2).alloc (.cells #[.slice X1 d.things.length Y1, .slice X2 d.batches.length Y2] 26))) (i := 1) rfl
      generalize World.re (w3.alloc (.cells #[.slice X1 d.things.length Y1, .slice X2 d.batches.length Y2] 26)) 0 T2 = z4 at hg hc0 hc1 ⊢
      have HG4 : Hid (Grew v z4 ∧ Floor.low ≤ z4.heap.size) := ⟨HG3.out.1.tr hg, Nat.le_trans HG3.out.2 hg.size⟩
      have HB4 := hid (hg.book HB3.out)
      generalize w3.heap.size = B2 at hc0 hc1 ⊢
      clear hg HB3 HG3
      go_wp2
      refine mo_call (by kernel_rfl) rfl rfl rfl rfl (by simp [Act.eval]) (waits_m d nm X1 X2 Y1 Y2 z4 HB4.out HG4.out.2) (fun r v9 hr => ?_)
      obtain ⟨hG9, ho9⟩ := hr
      obtain ⟨aW, cW, rfl, hsW⟩ := own_at ho9 HLW.out HSW.out
      have hd0 := hG9.cell hc0
      have hd1 := hG9.cell hc1
      have HB9 := hid (hG9.book HB4.out)
      have HG9 := hid (HG4.out.1.tr hG9)
      clear hG9 ho9 hc0 hc1 HB4 HG4
      walk_nrm
      refine mo_list tamed [3] [] rfl (by kernel_rfl) (by kernel_rfl) (fun T3 => ?_)
      simp only [List.filterMap, List.getElem?_toArray, List.getElem?_cons_zero, List.getElem?_cons_succ]
      go_wp2
      refine mo_nil ?_
      change MW _ _ _ _ _
      refine mw_wp tamed rfl (by kernel_rfl) (fun T4 => ?_)
      have hg5 : Grew v9 (World.re (World.re v9 0 T3) 0 T4) := (Grew.re _ _ _).tr (Grew.re _ _ _)
      generalize World.re (World.re v9 0 T3) 0 T4 = z5 at hg5 ⊢
      replace hd0 := hg5.cell hd0
      replace hd1 := hg5.cell hd1
      replace hsW := hg5.strs hsW
      have HB5 := hid (hg5.book HB9.out)
      have HG5 := hid (HG9.out.tr hg5)
      clear hg5 HB9 HG9
      have es := eqS_self (waitsL d nm)
      have HWO := hid (waits_other d nm)
      generalize hWL : waitsL d nm = W at *
      have HWL := hid hWL
      clear hWL
      have hlW := HLW.out
      go_wp2
      go_loop [12] (fun i => ∃ k : Nat, k ≤ W.length ∧ i = .int .i64 k) (fun i => W.length - (intOf i).toNat)
      case atStart => exact ⟨0, Nat.zero_le _, rfl⟩
      case round =>
        obtain ⟨k, hk, rfl⟩ := hrel
        by_cases hlt : k < W.length
        · obtain ⟨hl, ba, oa, rfl, hcell⟩ := hsW.2 k hlt
          have hq := HWO.out k hlt
          go_wp2
          go_round
          case rel => exact ⟨k + 1, by omega, by go_num⟩
          case measure => simp [intOf]; omega
        · go_wp2_with fail
          refine (specWaits_any d nm _ _ _ _ _ HB5.out).mono ?_
          rintro e z6 ⟨aS, cS, rfl, hext6, hsp6⟩
          rw [HWL.out] at hsp6 ⊢
          have hsW6 := hsW.ext hext6
          have HG6 := hid (HG5.out.tr (Grew.of hext6))
          clear hext6
          go_wp2_with fail
          refine (wTexts_any _ _ _ _ _ _ _ hsW6 hsp6).mono ?_
          rintro e z7 ⟨rfl, nq, hz7⟩
          have hext7 : Ext z6 z7 := by rw [hz7]; exact ext_drewN _ _
          clear hz7
          go_wp2_with fail
          exact ⟨rfl, _, resultsC_tmp (t := 4) rfl _, rfl, HG6.out.tr (Grew.of hext7)⟩
end Go.Proofs.YtdafpnpfcmgfcaaGreat
