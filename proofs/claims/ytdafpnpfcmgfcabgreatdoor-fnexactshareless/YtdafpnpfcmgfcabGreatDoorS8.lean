/- The walk over the specification's ShareLess. -/
import Derived.Test.YtdafpnpfcmgfcabGreatDoorSA
namespace Go.Proofs.YtdafpnpfcmgfcabGreatDoor
open Go.RowKit
attribute [local go_sem] S_toList S_size S_get

theorem one_str' (w : World) (x : Str) (h : x.length ≤ 140737488355328) : StrsAt (w.alloc (.cells #[.string (S x)] 9)) (some ⟨w.heap.size, 0, none⟩) [x] :=
  ⟨by simp, fun i hi => by
    match i, hi with
    | 0, _ => exact ⟨by simpa [nth] using h, _, 0, rfl, (Rec.new w 9 [.string (S x)]).cell rfl⟩⟩

set_option maxRecDepth 100000 in
set_option maxHeartbeats 2000000 in
theorem specLess_any (b : Book) (n : Str) (needs : List Str) (a1 a2 a3 : Option Addr) (c1 c2 c3 : Nat) (w : World) (hb : BookAt w a1 a2 b) (hns : StrsAt w a3 needs) :
    Calls Tryz.prog 17 #[.agg #[.slice a1 b.things.length c1, .slice a2 b.batches.length c2], .string (S n), .slice a3 needs.length c3] w fun e w' => BookRes w (lessB b n needs) e w' := by
  have e2 : ∀ o1 o2, Ext w ((w.alloc o1).alloc o2) := fun o1 o2 => ((Below.refl _ _).alloc (Nat.le_refl _) _).alloc (by simp) _
  have hbn := hb.2.1
  go_enter Tryz.func17, Tryz.ntmps17
  go_wp2_with fail
  refine (specBookOk_any b _ _ _ _ _ (hb.ext (e2 _ _))).mono ?_
  rintro e w1 ⟨rfl, hE1⟩
  have hx0 : w1.cell? ⟨w.heap.size, 0, none⟩ = some (.slice a1 b.things.length c1) := (hE1.cell (p := ⟨w.heap.size, 0, none⟩) (by simp; omega)).trans (by simp)
  have hx1 : w1.cell? ⟨w.heap.size, 1, none⟩ = some (.slice a2 b.batches.length c2) := (hE1.cell (p := ⟨w.heap.size, 1, none⟩) (by simp; omega)).trans (by simp)
  have hx2 : w1.cell? ⟨w.heap.size + 1, 0, none⟩ = some (.slice none 0 0) := (hE1.cell (p := ⟨w.heap.size + 1, 0, none⟩) (by simp)).trans (by simp)
  have hx3 : w1.cell? ⟨w.heap.size + 1, 1, none⟩ = some (.slice none 0 0) := (hE1.cell (p := ⟨w.heap.size + 1, 1, none⟩) (by simp)).trans (by simp)
  have HR1 : Hid (Rec w1 (w.heap.size + 1) 30 [.slice none 0 0, .slice none 0 0]) := by
    have h := (Rec.new (w.alloc (.cells #[.slice a1 b.things.length c1, .slice a2 b.batches.length c2] 30)) 30 [.slice none 0 0, .slice none 0 0]).ext hE1
    have h' : Rec w1 (w.heap.size + 1) 30 [.slice none 0 0, .slice none 0 0] := by simpa using h
    exact h'
  have HE1 := hid hE1
  have HEW := hid (Ext.tr (e2 _ _) hE1)
  clear hE1
  cases hok : bookOk b
  · have hf2 := HR1.out.frozen 0
    have hf3 := HR1.out.frozen 1
    have HF : Hid (lessB b n needs = (emptyBook, 1)) := by show _ = _; simp [lessB, hok]
    go_wp2
    rw [HF.out]
    refine bodyPost_ret (v := .tuple #[.agg #[.slice none 0 0, .slice none 0 0], .int .i64 1]) (by simp [results, Tryz.results17, go_sem, hx2, hx3]) rfl ⟨none, 0, none, 0, rfl, ?_, StrsAt.nil _ _, by simp [emptyBook], fun i hi => by simp [emptyBook] at hi⟩
    exact (HEW.out.setCell (by simp) _).setCell (by simp) _
  · go_wp2_with fail
    refine (l1Copy_any b _ _ _ _ _ (hb.ext HEW.out)).mono ?_
    rintro e w2 ⟨v1, v2, rfl, hE2, ho1, ho2⟩
    obtain ⟨x1, y1, rfl⟩ := own_sl ho1
    obtain ⟨x2, y2, rfl⟩ := ho2.len
    have HS := hid (EnS.mk' HE1.out hE2 ho1 ho2)
    have hx20 := HS.out.rb.cell (i := 0) rfl
    have hx21 := HS.out.rb.cell (i := 1) rfl
    clear ho1 ho2 hx0 hx1 hx2 hx3 HR1 HE1 hE2
    go_wp2_with fail
    clear hx20 hx21
    generalize w2.alloc (.cells #[.slice x1 b.things.length y1, .slice x2 b.batches.length y2] 30) = w3 at HS ⊢
    generalize w2.heap.size = X at HS ⊢
    clear HEW
    refine (l1At_any b n _ _ _ _ _ (hb.ext HS.out.ext)).mono ?_
    rintro e w5 ⟨hres, hE5⟩
    have HS5 := hid (HS.out.next hE5)
    clear hE5 HS
    obtain ⟨p0, p1, t0, t1, f0, f1, q0, q1⟩ := HS5.out.facts
    rcases hres with ⟨k, rfl, hfa⟩ | ⟨rfl, hno⟩
    · have hh : hereB b n = true := hasB_of hfa.1 hfa.2.1
      have hw : whereB b n = k := place_of hfa
      have hkl : k < b.batches.length := by have := hfa.1; rwa [namesOf_length] at this
      have hb5 := hb.ext HS5.out.ext
      have hns5 := hns.ext HS5.out.ext
      obtain ⟨ba, oa, rfl, hl, d1, g1, d2, g2, z0, z1, z2, s1, s2⟩ := hb5.2.2 k hkl
      cases hnd : namesOk needs (nthB b.batches k).needs
      · have HF : Hid (lessB b n needs = (b, 2)) := by show _ = _; simp [lessB, hok, hh, hw, Book.at, hnd]
        go_wp2_with (first | (go_at_call 25; refine (l1NamesOk_v _ _ _ _ _ _ _ _ hns5 s2 hnd).mono ?_; rintro e w' ⟨rfl, n4, rfl⟩))
        refine bodyPost_ret (v := .tuple #[.agg #[.slice x1 b.things.length y1, .slice x2 b.batches.length y2], .int .i64 2]) (by simp [results, Tryz.results17, go_sem, t0, t1]) rfl (BookRes.mk HF.out ((HS5.out.next (ext_drewN _ n4)).fin hb _ _))
      · have HF : Hid (lessB b n needs = (fewerB b k needs, 0)) := by show _ = _; simp [lessB, hok, hh, hw, Book.at, hnd]
        go_upto_region 9 with (first | (go_at_call 25; refine (l1NamesOk_v _ _ _ _ _ _ _ _ hns5 s2 hnd).mono ?_; rintro e w' ⟨rfl, n4, rfl⟩))
        have HS6 := hid (HS5.out.next (ext_drewN w5 n4))
        clear HS5 p0 p1 t0 t1 f0 f1 q0 q1 hb5 hns5 z0 z1 z2 s1 s2
        generalize w5.drewN n4 = w6 at HS6 ⊢
        have HO := hid (OwnL.made w6 w6.heap.size (Nat.le_refl _))
        go_wp2_with fail
        go_loopw [10, 11] (fun v i wr => ∃ (j : Nat) (L : List Str), j ≤ (nthB b.batches k).has.length ∧ i = .int .i64 j ∧ Ext w6 wr ∧ OwnL wr w6.heap.size v L ∧ L = ((nthB b.batches k).has.take j).filter (hasB needs)) (fun _ i _ => (nthB b.batches k).has.length - (intOf i).toNat)
        case atStart => exact ⟨0, [], Nat.zero_le _, rfl, ext_alloc _ _, HO.out, by simp⟩
        case round =>
          clear HO
          obtain ⟨j, L, hj, rfl, hEr, hown, hL⟩ := hrel
          have HSr := hid (HS6.out.next hEr)
          have hbr := hb.ext HSr.out.ext
          have hnsr := hns.ext HSr.out.ext
          have hll : L.length ≤ j := by rw [hL]; exact Nat.le_trans (List.length_filter_le _ _) (by rw [List.length_take]; omega)
          obtain ⟨av, cv, rfl⟩ := own_sl hown
          have HER := hid hEr
          have HOW := hid hown
          have HL := hid hL
          clear hEr hown hL
          obtain ⟨ba', oa', e', hl', d1, g1, d2, g2, z0, z1, z2, s1, s2⟩ := hbr.2.2 k hkl
          cases e'
          have hsl := s1.1
          obtain ⟨p0, p1, t0, t1, f0, f1, q0, q1⟩ := HSr.out.facts
          have hz6 := HER.out.size
          by_cases hlt : j < (nthB b.batches k).has.length
          · obtain ⟨hln, bb, oo, rfl, hc⟩ := s1.2 j hlt
            have htake : (nthB b.batches k).has.take (j + 1) = (nthB b.batches k).has.take j ++ [nth (nthB b.batches k).has j] := by rw [List.take_succ_eq_append_getElem hlt, nth_get hlt]
            cases hin : hasB needs (nth (nthB b.batches k).has j)
            · go_wp2_with (go_at_call 36; refine (l1Has_v _ _ _ _ _ _ hnsr hin).mono ?_; rintro e w' ⟨rfl, rfl⟩)
              go_roundw
              case rel => exact ⟨j + 1, L, by omega, by go_num, HER.out, HOW.out, by rw [htake, List.filter_append, ← HL.out]; simp [hin]⟩
              case measure => simp [intOf]; omega
            · have HSTR := hid (one_str' wr (nth (nthB b.batches k).has j) hln)
              go_wp2_with (first | (go_at_call 36; refine (l1Has_v _ _ _ _ _ _ hnsr hin).mono ?_; rintro e w' ⟨rfl, rfl⟩) | (at_builtin; refine wpList_strs rfl _ _ rfl rfl (HOW.out.ext (ext_alloc _ _)) (M := [nth (nthB b.batches k).has j]) rfl HSTR.out ?q1 ?q2 ?_))
              case q1 => simp; omega
              case q2 => simp; omega
              · intro v' w2 hown hgrow hat
                have HE2 : Hid (Ext w6 w2) := (Ext.tr HER.out (ext_alloc _ _)).grown hgrow (by simp; omega) (fun g hg => (HOW.out.lt g hg).1)
                have HN := hid hown
                clear hown hgrow hat
                go_wp2
                go_roundw
                case rel => exact ⟨j + 1, L ++ [nth (nthB b.batches k).has j], by omega, by go_num, HE2.out, HN.out, by rw [htake, List.filter_append, ← HL.out]; simp [hin]⟩
                case measure => simp [intOf]; omega
          · have hje : j = (nthB b.batches k).has.length := by omega
            have hLf : L = (nthB b.batches k).has.filter (hasB needs) := by rw [HL.out, hje, List.take_length]
            have hshort : ShortS L := by
              rw [hLf]
              refine ⟨Nat.le_trans (List.length_filter_le _ _) hsl, fun i hi => ?_⟩
              have hm : nth ((nthB b.batches k).has.filter (hasB needs)) i ∈ (nthB b.batches k).has := by
                rw [nth_get hi]
                exact (List.mem_filter.1 (List.getElem_mem hi)).1
              obtain ⟨i', hi', ei⟩ := List.getElem_of_mem hm
              rw [← ei, ← nth_get hi']
              exact (s1.2 i' hi').1
            have HLF := hid hLf
            clear hLf
            rcases HSr.out.o2.shape with ⟨rfl, h0, rfl⟩ | ⟨g, rfl, hcap, hcm, hgb⟩
            · omega
            · have HOW' := hid (HOW.out.low (base' := w.heap.size) (Nat.le_trans HS6.out.ext.size (Nat.le_refl _)))
              clear HOW HL HS6 HER hbr
              go_wp2_with fail
              refine wp_region_T (fun w' => w'.cell? ⟨X, 1, none⟩ = some (.slice (some ⟨g, 0, none⟩) b.batches.length y2)) 7 (by kernel_rfl) q1 (fun hS => ?_)
              refine wpT_take 0 (v := ?_) rfl rfl (by kernel_rfl) (by kernel_rfl) (by kernel_rfl) (by kernel_rfl) (fun _ _ _ h => h) hS rfl (by intro w0 hw0; (try dsimp only at hw0); go_simp; try rfl) ?_
              try simp only [List.set]
              refine wpT_take 1 (v := ?_) rfl rfl (by kernel_rfl) (by kernel_rfl) (by kernel_rfl) (by kernel_rfl) (fun _ _ _ h => h) hS rfl (by intro w0 hw0; (try dsimp only at hw0); go_simp; try rfl) ?_
              try simp only [List.set]
              refine wpT_take 2 (v := ?_) rfl rfl (by kernel_rfl) (by kernel_rfl) (by kernel_rfl) (by kernel_rfl) (fun _ _ _ h => h) hS rfl (by intro w0 hw0; (try dsimp only at hw0); go_simp; try rfl) ?_
              try simp only [List.set]
              refine wpT_take 3 (v := ?_) rfl rfl (by kernel_rfl) (by kernel_rfl) (by kernel_rfl) (by kernel_rfl) (fun _ _ _ h => h) hS rfl (by intro w0 hw0; (try dsimp only at hw0); go_simp; try rfl) ?_
              try simp only [List.set]
              refine wpT_one 4 rfl (by kernel_rfl) rfl rfl (fun K hK => ?_)
              go_simp
              refine (l1Names_any _ _ _ _ (hnsr.ext (ext_drewN wr 1))).mono ?_
              rintro e wC ⟨u1, rfl, hEC, hoC⟩
              obtain ⟨xC, yC, rfl⟩ := own_sl hoC
              go_wp2_with fail
              refine hK.out _ _ (hEC.keep hS) (fun hS1 => ?_)
              clear hK hS
              have hS := hS1
              clear hS1
              try clear K
              try simp only [put_some, List.set]
              refine wpT_one 5 rfl (by kernel_rfl) rfl rfl (fun K hK => ?_)
              go_simp
              refine hK.out _ _ hS (fun hS1 => ?_)
              clear hK hS
              have hS := hS1
              clear hS1
              try clear K
              try simp only [put_some, List.set]
              refine wpT_one 6 rfl (by kernel_rfl) rfl rfl (fun K hK => ?_)
              go_simp
              refine hK.out _ _ hS (fun hS1 => ?_)
              clear hK hS
              have hS := hS1
              clear hS1
              try clear K
              try simp only [put_some, List.set]
              have hzr := HSr.out.ext.size
              have HX := hid ((HSr.out.xs.next (ext_drewN wr 1)).next hEC)
              have HOC := hid (hoC.low (base' := w.heap.size) hzr)
              have HOW2 := hid ((HOW'.out.ext (ext_drewN wr 1)).ext hEC)
              obtain ⟨_, ⟨un, hun, _⟩, _, hf2⟩ := HX.out.o2.cells hkl
              clear hoC hEC hS HSr HOW' z0 z1 z2 s1 s2 p0 p1 t0 t1 f0 f1 q0 q1 hnsr
              refine wpT_last rfl (by kernel_rfl) (by kernel_rfl) rfl (fun K hK => ?_)
              go_simp
              refine hK.out _ _ ?_
              clear hK hun hf2
              have HX1 := hid (HX.out.store (b' := ⟨b.things, b.batches.set k ⟨(nthB b.batches k).name, (nthB b.batches k).has, needs⟩⟩) rfl (by simp) (HX.out.o2.putNeeds rfl hkl HOC.out hns.short))
              have HOW3 := hid (HX.out.keepL (i := k * 3 + 2) (u := .slice xC needs.length yC) HOW2.out)
              clear HX HOC HOW2
              generalize wC.setCell ⟨g, k * 3 + 2, none⟩ (.slice xC needs.length yC) = wD at HX1 HOW3 ⊢
              have hkl1 : k < (b.batches.set k ⟨(nthB b.batches k).name, (nthB b.batches k).has, needs⟩).length := by simpa using hkl
              obtain ⟨⟨uh, huh, _⟩, _, hf1, _⟩ := HX1.out.o2.cells hkl1
              have q1 := HX1.out.rx.cell (i := 1) rfl
              simp only [List.length_set] at q1
              have hfb : (fewerB b k needs).batches = b.batches.set k ⟨(nthB b.batches k).name, L, needs⟩ := by rw [HLF.out]; rfl
              have HX2 := hid (HX1.out.store (b' := fewerB b k needs) (u := .slice av L.length cv) (i := k * 3 + 1) rfl (by simp [fewerB]) (by
                have h := HX1.out.o2.putHas rfl hkl1 HOW3.out hshort
                simp only [List.set_set, nthB_get hkl1, List.getElem_set_self] at h
                rw [hfb]
                exact h))
              have hfl : (fewerB b k needs).batches.length = b.batches.length := by simp [fewerB]
              have qq0 : (wD.setCell ⟨g, k * 3 + 1, none⟩ (.slice av L.length cv)).cell? ⟨X, 0, none⟩ = some (.slice x1 b.things.length y1) := HX2.out.rx.cell rfl
              have qq1 : (wD.setCell ⟨g, k * 3 + 1, none⟩ (.slice av L.length cv)).cell? ⟨X, 1, none⟩ = some (.slice (some ⟨g, 0, none⟩) b.batches.length y2) := by rw [← hfl]; exact HX2.out.rx.cell rfl
              clear HX1 HOW3
              go_wp2_with fail
              clear qq0 qq1 huh hf1 q1
              generalize wD.setCell ⟨g, k * 3 + 1, none⟩ (.slice av L.length cv) = wE at HX2 ⊢
              have hC := l1Copy_any (fewerB b k needs) x1 (some ⟨g, 0, none⟩) y1 y2 wE (HX2.out.at hb.1.short (by rw [hfl]; exact hbn))
              rw [hfl] at hC
              refine hC.mono ?_
              clear hC
              rintro e wG ⟨v1, v2, rfl, hEG, ho1, ho2⟩
              obtain ⟨m1, z1', rfl⟩ := own_sl ho1
              obtain ⟨m2, z2', rfl⟩ := ho2.len
              have HEG := hid (Ext.tr HX2.out.ext hEG)
              have HRG := hid (HX2.out.rr.ext hEG)
              have HO1 := hid (ho1.low HX2.out.ext.size)
              have HO2 := hid (ho2.low HX2.out.ext.size)
              clear ho1 ho2 hEG HX2
              have t0 := HRG.out.cell (i := 0) rfl
              have t1 := HRG.out.cell (i := 1) rfl
              have f0 := HRG.out.frozen 0
              have f1 := HRG.out.frozen 1
              go_wp2
              refine bodyPost_ret (v := .tuple #[.agg #[.slice m1 (fewerB b k needs).things.length z1', .slice m2 (fewerB b k needs).batches.length z2'], .int .i64 0]) (by simp [results, Tryz.results17, go_sem, t0, t1, hfl]) rfl (BookRes.mk HF.out (stored_book (b := fewerB b k needs) HEG.out HRG.out (by omega) HO1.out hb.1.short HO2.out (by rw [hfl]; exact hbn) _ _))
    · have HF : Hid (lessB b n needs = (b, 3)) := by
        have hh : hereB b n = false := hno
        show _ = _
        simp [lessB, hok, hh]
      go_wp2_with fail
      refine bodyPost_ret (v := .tuple #[.agg #[.slice x1 b.things.length y1, .slice x2 b.batches.length y2], .int .i64 3]) (by simp [results, Tryz.results17, go_sem, t0, t1]) rfl (BookRes.mk HF.out (HS5.out.fin hb _ _))
end Go.Proofs.YtdafpnpfcmgfcabGreatDoor
