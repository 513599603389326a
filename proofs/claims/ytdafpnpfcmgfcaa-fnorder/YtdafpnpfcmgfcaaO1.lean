/- The walks over the laws' wTexts and wSome. -/
import Derived.Test.YtdafpnpfcmgfcaaLFWho
import Derived.Test.YtdafpnpfcmgfcaaMath10
import Derived.Test.YtdafpnpfcmgfcaaJC
import Derived.Test.YtdafpnpfcmgfcaaH2
import Derived.Deep.RegionHeld3
namespace Go.Proofs.Ytdafpnpfcmgfcaa
open Go.RowKit
attribute [local go_sem] S_toList S_size S_get

set_option maxHeartbeats 400000 in
theorem wTexts_any (a b : Option Addr) (ca cb : Nat) (sa sb : List Str) (w : World) (ha : StrsAt w a sa) (hb : StrsAt w b sb) :
    Calls Try.prog 12 #[.slice a sa.length ca, .slice b sb.length cb] w fun e w' => e = .returned (.bool (eqS sa sb)) ∧ ∃ n, w' = w.drewN n := by
  have hn := ha.1
  have hn' := hb.1
  by_cases hl : sa.length = sb.length
  · have HL := hl
    have hl' : ((sa.length : Int) == (sb.length : Int)) = true := by simp; omega
    go_enter Try.func12, Try.ntmps12
    have HL : Hid (sa.length = sb.length) := hl
    have hle : sa.length ≤ sb.length := by omega
    clear hl
    go_wp2
    go_loopw [5] (fun i wr => ∃ k : Nat, k ≤ sa.length ∧ i = .int .i64 k ∧ (∃ m, wr = w.drewN m) ∧ ∀ j, j < k → (nth sa j == nth sb j) = true) (fun i _ => sa.length - (intOf i).toNat)
    case atStart => exact ⟨0, Nat.zero_le _, rfl, ⟨0, rfl⟩, fun j hj => by omega⟩
    case round =>
      obtain ⟨k, hk, rfl, hm, hx⟩ := hrel
      have HX : Hid (∀ j, j < k → (nth sa j == nth sb j) = true) := hx
      have ha' := ha.draws hm
      have hb' := hb.draws hm
      have HM : Hid (∃ m, wr = w.drewN m) := hm
      clear hx hm
      by_cases hlt : k < sa.length
      · have hltb : k < sb.length := by omega
        obtain ⟨_, ba, oa, rfl, hc⟩ := ha'.2 k hlt
        obtain ⟨_, bb, ob, rfl, hcb⟩ := hb'.2 k hltb
        cases hq : (nth sa k == nth sb k)
        · have HF : Hid (eqS sa sb = false) := eqS_no hq
          go_wp2
          go_quiet (fail)
          go_wp2
          go_ret
          exact ⟨ret_bool HF.out.symm, drewN_tr HM.out ⟨_, rfl⟩⟩
        · have HQ : Hid ((nth sa k == nth sb k) = true) := hq
          go_wp2
          go_quiet (fail)
          go_wp2
          go_roundw
          case rel => exact ⟨k + 1, by omega, by go_num, drewN_tr HM.out ⟨_, rfl⟩, fun j hj => by
            by_cases e : j = k
            · rw [e]; exact HQ.out
            · exact HX.out j (by omega)⟩
          case measure => simp [intOf]; omega
      · have HF : Hid (eqS sa sb = true) := eqS_yes HL.out (fun j hj => HX.out j (by omega))
        go_wp2
        go_ret
        exact ⟨ret_bool HF.out.symm, HM.out⟩
  · have hl' : ((sa.length : Int) == (sb.length : Int)) = false := by simp; omega
    have HF : Hid (eqS sa sb = false) := eqS_len hl
    go_enter Try.func12, Try.ntmps12
    go_wp2
    go_ret
    exact ⟨ret_bool HF.out.symm, 0, rfl⟩


set_option maxRecDepth 100000 in
set_option maxHeartbeats 2000000 in
theorem wSome_step (b : Book) (m : Nat) (IH : ∀ (gone : List Str) (x1 x2 x3 : Option Addr) (y1 y2 y3 : Nat) (w : World), BookAt w x1 x2 b → StrsAt w x3 gone → gone.length + m = b.batches.length →
      Calls Try.prog 16 #[.agg #[.slice x1 b.things.length y1, .slice x2 b.batches.length y2], .slice x3 gone.length y3] w fun e w' => e = .returned (.bool (someB b m gone)) ∧ Ext w w')
    (gone : List Str) (x1 x2 x3 : Option Addr) (y1 y2 y3 : Nat) (w : World) (hb : BookAt w x1 x2 b) (hg : StrsAt w x3 gone) (hl0 : gone.length + (m + 1) = b.batches.length) (hb5 : b.batches.length ≤ 7) :
      Calls Try.prog 16 #[.agg #[.slice x1 b.things.length y1, .slice x2 b.batches.length y2], .slice x3 gone.length y3] w fun e w' => e = .returned (.bool (someB b (m + 1) gone)) ∧ Ext w w' := by
  have hne : ((gone.length : Int) == (b.batches.length : Int)) = false := by rw [beq_eq_false_iff_ne]; omega
  have hshg := hg.short.2
  have HRX : Hid (Rec (w.alloc (.cells #[.slice x1 b.things.length y1, .slice x2 b.batches.length y2] 26)) w.heap.size 26 [.slice x1 b.things.length y1, .slice x2 b.batches.length y2]) := Rec.new w _ _
  have HE := hid (ext_alloc w (.cells #[.slice x1 b.things.length y1, .slice x2 b.batches.length y2] 26))
  have HL0 := hid hl0
  clear hl0
  go_enter Try.func16, Try.ntmps16
  go_wp2_with fail
  generalize w.alloc (.cells #[.slice x1 b.things.length y1, .slice x2 b.batches.length y2] 26) = w1 at HRX HE ⊢
  go_loopw [5] (fun i wr => ∃ k : Nat, k ≤ b.batches.length ∧ i = .int .i64 k ∧ Ext w1 wr ∧ ∀ j, j < k → (!hasB gone (b.at j).name && someB b m (gone ++ [(b.at j).name])) = false) (fun i _ => b.batches.length - (intOf i).toNat)
  case atStart => exact ⟨0, Nat.zero_le _, rfl, Ext.rfl' _, fun j hj => by omega⟩
  case round =>
    obtain ⟨k, hk, rfl, hEr, hno⟩ := hrel
    have HN := hid hno
    have HER := hid hEr
    have hrx := HRX.out.ext hEr
    have c0 := hrx.cell (i := 0) rfl
    have c1 := hrx.cell (i := 1) rfl
    have hbr := hb.ext (Ext.tr HE.out hEr)
    have hgr := hg.ext (Ext.tr HE.out hEr)
    clear hno hEr hrx
    by_cases hlt : k < b.batches.length
    · obtain ⟨ba, oa, rfl, hl, d1, g1, d2, g2, z0, z1, z2, s1, s2⟩ := hbr.2.2 k hlt
      cases hin : hasB gone (nthB b.batches k).name
      · go_upto_region 6 with fail
        go_cut [45] (fun v wx => v = .bool (someB b m (gone ++ [(b.at k).name])) ∧ Ext wr wx)
        case first =>
          refine wp_region_T (fun w' => w'.cell? ⟨w.heap.size, 0, none⟩ = some (.slice x1 b.things.length y1) ∧ w'.cell? ⟨w.heap.size, 1, none⟩ = some (.slice (some ⟨ba, oa, none⟩) b.batches.length y2) ∧ w'.cell? ⟨ba, oa + k * 3, none⟩ = some (.string (S (nthB b.batches k).name))) 24 (by kernel_rfl) ⟨c0, c1, z0⟩ (fun hS => ?_)
          refine wpT_takeN 0 (v := ?_) rfl rfl (by kernel_rfl) (by kernel_rfl) (by kernel_rfl) (by kernel_rfl) (fun _ _ _ h => h) hS rfl (by intro w0 hw0; (try dsimp only at hw0); go_simp; try rfl) ?_
          try simp only [List.set]
          refine wpT_takeN 1 (v := ?_) rfl rfl (by kernel_rfl) (by kernel_rfl) (by kernel_rfl) (by kernel_rfl) (fun _ _ _ h => h) hS rfl (by intro w0 hw0; (try dsimp only at hw0); go_simp; try rfl) ?_
          try simp only [List.set]
          refine wpT_takeN 2 (v := ?_) rfl rfl (by kernel_rfl) (by kernel_rfl) (by kernel_rfl) (by kernel_rfl) (fun _ _ _ h => h) hS rfl (by intro w0 hw0; (try dsimp only at hw0); go_simp; try rfl) ?_
          try simp only [List.set]
          refine wpT_takeN 3 (v := ?_) rfl rfl (by kernel_rfl) (by kernel_rfl) (by kernel_rfl) (by kernel_rfl) (fun _ _ _ h => h) hS rfl (by intro w0 hw0; (try dsimp only at hw0); go_simp; try rfl) ?_
          try simp only [List.set]
          refine wpT_takeN 4 (v := ?_) rfl rfl (by kernel_rfl) (by kernel_rfl) (by kernel_rfl) (by kernel_rfl) (fun _ _ _ h => h) hS rfl (by intro w0 hw0; (try dsimp only at hw0); go_simp; try rfl) ?_
          try simp only [List.set]
          refine wpT_takeN 5 (v := ?_) rfl rfl (by kernel_rfl) (by kernel_rfl) (by kernel_rfl) (by kernel_rfl) (fun _ _ _ h => h) hS rfl (by intro w0 hw0; (try dsimp only at hw0); go_simp; try rfl) ?_
          try simp only [List.set]
          refine wpT_takeN 6 (v := ?_) rfl rfl (by kernel_rfl) (by kernel_rfl) (by kernel_rfl) (by kernel_rfl) (fun _ _ _ h => h) hS rfl (by intro w0 hw0; (try dsimp only at hw0); go_simp; try rfl) ?_
          try simp only [List.set]
          refine wpT_one 7 rfl (by kernel_rfl) rfl rfl (fun K hK => ?_)
          go_simp
          refine (wHas_v _ _ _ _ _ _ (hgr.ext (ext_drewN wr 1)) hin).mono ?_
          rintro e w' ⟨rfl, rfl⟩
          go_wp2_with fail
          refine hK.out _ _ hS (fun hS1 => ?_)
          clear hK hS
          have hS := hS1
          clear hS1
          try clear K
          try simp only [put_some, List.set]
          refine wpT_takeN 8 (v := ?_) rfl rfl (by kernel_rfl) (by kernel_rfl) (by kernel_rfl) (by kernel_rfl) (fun _ _ _ h => h) hS rfl (by intro w0 hw0; (try dsimp only at hw0); go_simp; try rfl) ?_
          try simp only [List.set]
          refine wpT_takeN 9 (v := ?_) rfl rfl (by kernel_rfl) (by kernel_rfl) (by kernel_rfl) (by kernel_rfl) (fun _ _ _ h => h) hS rfl (by intro w0 hw0; (try dsimp only at hw0); go_simp; try rfl) ?_
          try simp only [List.set]
          refine wpT_takeN 10 (v := ?_) rfl rfl (by kernel_rfl) (by kernel_rfl) (by kernel_rfl) (by kernel_rfl) (fun _ _ _ h => h) hS rfl (by intro w0 hw0; (try dsimp only at hw0); go_simp; try rfl) ?_
          try simp only [List.set]
          refine wpT_takeN 12 (v := ?_) rfl rfl (by kernel_rfl) (by kernel_rfl) (by kernel_rfl) (by kernel_rfl) (fun _ _ _ h => h) hS rfl (by intro w0 hw0; (try dsimp only at hw0); go_simp; try rfl) ?_
          try simp only [List.set]
          refine wpT_takeN 14 (v := ?_) rfl rfl (by kernel_rfl) (by kernel_rfl) (by kernel_rfl) (by kernel_rfl) (fun _ _ _ h => h) hS rfl (by intro w0 hw0; (try dsimp only at hw0); go_simp; try rfl) ?_
          try simp only [List.set]
          refine wpT_takeN 15 (v := ?_) rfl rfl (by kernel_rfl) (by kernel_rfl) (by kernel_rfl) (by kernel_rfl) (fun _ _ _ h => h) hS rfl (by intro w0 hw0; (try dsimp only at hw0); go_simp; try rfl) ?_
          try simp only [List.set]
          refine wpT_takeN 16 (v := ?_) rfl rfl (by kernel_rfl) (by kernel_rfl) (by kernel_rfl) (by kernel_rfl) (fun _ _ _ h => h) hS rfl (by intro w0 hw0; (try dsimp only at hw0); go_simp; try rfl) ?_
          try simp only [List.set]
          refine wpT_takeN 17 (v := ?_) rfl rfl (by kernel_rfl) (by kernel_rfl) (by kernel_rfl) (by kernel_rfl) (fun _ _ _ h => h) hS rfl (by intro w0 hw0; (try dsimp only at hw0); go_simp; try rfl) ?_
          try simp only [List.set]
          refine wpT_takeN 18 (v := ?_) rfl rfl (by kernel_rfl) (by kernel_rfl) (by kernel_rfl) (by kernel_rfl) (fun _ _ _ h => h) hS rfl (by intro w0 hw0; (try dsimp only at hw0); go_simp; try rfl) ?_
          try simp only [List.set]
          refine wpT_takeN 19 (v := ?_) rfl rfl (by kernel_rfl) (by kernel_rfl) (by kernel_rfl) (by kernel_rfl) (fun _ _ _ h => h) hS rfl (by intro w0 hw0; (try dsimp only at hw0); go_simp; try rfl) ?_
          try simp only [List.set]
          refine wpT_two 11 20 rfl rfl (by kernel_rfl) rfl rfl rfl rfl (fun K hK => ?_) (fun K hK => ?_)
          · go_simp
            refine hK.out _ _ ⟨(ext_alloc _ _).keep hS.1, (ext_alloc _ _).keep hS.2.1, (ext_alloc _ _).keep hS.2.2⟩ (fun hS1 => ?_)
            clear hK hS
            have hS := hS1
            clear hS1
            try clear K
            try simp only [put_some, List.set]
            refine wpT_two 13 20 rfl rfl (by kernel_rfl) rfl rfl rfl rfl (fun K hK => ?_) (fun K hK => ?_)
            · have hE0 : Ext wr ((wr.drewN 1).alloc (.cells #[] 9)) := Ext.tr (ext_drewN wr 1) (ext_alloc _ _)
              have hO0 : OwnL ((wr.drewN 1).alloc (.cells #[] 9)) wr.heap.size (.slice (some ⟨wr.heap.size, 0, none⟩) 0 0) [] := OwnL.made (wr.drewN 1) wr.heap.size (Nat.le_refl _)
              refine wp_strs (L := []) (M := gone) _ _ rfl rfl hO0 rfl (hgr.ext hE0) (by simp; have := HL0.out; omega) (by simp; try omega) (fun v' wB h2 h3 h4 => ?_)
              rw [List.nil_append] at h2
              obtain ⟨aB, cB, rfl⟩ := own_sl h2
              have hobB : ∀ g', (Value.slice aB gone.length cB).ownBlock = some g' → wr.heap.size ≤ g' := fun g' e => by
                rcases h4 with h4 | h4
                · rw [h4] at e
                  have e' := Option.some.inj e
                  simp at e'
                  omega
                · rw [h4] at e
                  have e' := Option.some.inj e
                  simp at e'
                  omega
              have hEB : Ext wr wB := hE0.grown h3 (by simp; try omega) (fun g' e => by
                have e' := Option.some.inj e
                simp at e'
                omega)
              refine hK.out _ _ ⟨hEB.keep c0, hEB.keep c1, hEB.keep z0⟩ (fun hS1 => ?_)
              clear hK hS
              have hS := hS1
              clear hS1
              try clear K
              try simp only [put_some, List.set]
              refine wpT_one 20 rfl (by kernel_rfl) rfl rfl (fun K hK => ?_)
              go_simp
              refine hK.out _ _ ⟨(ext_alloc _ _).keep hS.1, (ext_alloc _ _).keep hS.2.1, (ext_alloc _ _).keep hS.2.2⟩ (fun hS1 => ?_)
              clear hK hS
              have hS := hS1
              clear hS1
              try clear K
              try simp only [put_some, List.set]
              have hET : Ext wr (wB.alloc (.cells #[.string (S (nthB b.batches k).name)] 9)) := Ext.tr hEB (ext_alloc _ _)
              have hST := one_str' wB (nthB b.batches k).name hl
              have hOT := h2.ext (ext_alloc wB (.cells #[.string (S (nthB b.batches k).name)] 9))
              have hzT := hET.size
              refine wpT_one 21 rfl (by kernel_rfl) rfl rfl (fun K hK => ?_)
              refine wp_strs (L := gone) (M := [(nthB b.batches k).name]) _ _ rfl rfl hOT rfl hST (by simp; have := HL0.out; omega) (by omega) (fun v' wC h5 h6 h7 => ?_)
              have hEC : Ext wr wC := hET.grown h6 hzT hobB
              obtain ⟨aC, cC, e7, hatC⟩ := h5.at (by simp; have := HL0.out; omega) (hshg.snoc hl)
              subst e7
              have hln : (gone ++ [(nthB b.batches k).name]).length = gone.length + 1 := by simp
              have hIH := IH (gone ++ [(nthB b.batches k).name]) x1 (some ⟨ba, oa, none⟩) aC y1 y2 cC wC (hbr.ext hEC) hatC (by rw [hln]; have := HL0.out; omega)
              rw [hln] at hIH ⊢
              refine hK.out _ _ ⟨hEC.keep c0, hEC.keep c1, hEC.keep z0⟩ (fun hS1 => ?_)
              clear hK hS
              have hS := hS1
              clear hS1
              try clear K
              try simp only [put_some, List.set]
              refine wpT_one 22 rfl (by kernel_rfl) rfl rfl (fun K hK => ?_)
              go_simp
              refine hIH.mono ?_
              rintro e wD ⟨rfl, hED⟩
              have HED := hid (Ext.tr hEC hED)
              go_wp2_with fail
              refine hK.out _ _ ⟨HED.out.keep c0, HED.out.keep c1, HED.out.keep z0⟩ (fun hS1 => ?_)
              clear hK hS
              have hS := hS1
              clear hS1
              try clear K
              try simp only [put_some, List.set]
              clear h2 h3 h4 h5 h6 h7 hEB hEC hET hobB hOT hST hO0 hE0 hIH hED hatC
              refine wpT_takeN 23 (v := ?_) rfl rfl (by kernel_rfl) (by kernel_rfl) (by kernel_rfl) (by kernel_rfl) (fun _ _ _ h => h) hS rfl (by intro w0 hw0; (try dsimp only at hw0); go_simp; try rfl) ?_
              try simp only [List.set]
              refine wpT_done (by kernel_rfl) ?_ _
              clear hS
              go_wp2_with fail
              go_meet
              exact ⟨rfl, HED.out⟩
            · go_simp
              refine hK.out _ _ ⟨(ext_alloc _ _).keep hS.1, (ext_alloc _ _).keep hS.2.1, (ext_alloc _ _).keep hS.2.2⟩ (fun hS1 => ?_)
              clear hK hS
              have hS := hS1
              clear hS1
              try clear K
              try simp only [put_some, List.set]
              refine wpT_one 13 rfl (by kernel_rfl) rfl rfl (fun K hK => ?_)
              have hE0 : Ext wr (((wr.drewN 1).alloc (.cells #[] 9)).alloc (.cells #[.string (S (nthB b.batches k).name)] 9)) := Ext.tr (Ext.tr (ext_drewN wr 1) (ext_alloc _ _)) (ext_alloc _ _)
              have hO0 : OwnL (((wr.drewN 1).alloc (.cells #[] 9)).alloc (.cells #[.string (S (nthB b.batches k).name)] 9)) wr.heap.size (.slice (some ⟨wr.heap.size, 0, none⟩) 0 0) [] := (OwnL.made (wr.drewN 1) wr.heap.size (Nat.le_refl _)).ext (ext_alloc _ _)
              have hS0 := one_str' ((wr.drewN 1).alloc (.cells #[] 9)) (nthB b.batches k).name hl
              refine wp_strs (L := []) (M := gone) _ _ rfl rfl hO0 rfl (hgr.ext hE0) (by simp; have := HL0.out; omega) (by simp; try omega) (fun v' wB h2 h3 h4 => ?_)
              rw [List.nil_append] at h2
              obtain ⟨aB, cB, rfl⟩ := own_sl h2
              have hobB : ∀ g', (Value.slice aB gone.length cB).ownBlock = some g' → wr.heap.size ≤ g' := fun g' e => by
                rcases h4 with h4 | h4
                · rw [h4] at e
                  have e' := Option.some.inj e
                  simp at e'
                  omega
                · rw [h4] at e
                  have e' := Option.some.inj e
                  simp at e'
                  omega
              have hEB : Ext wr wB := hE0.grown h3 (by simp; try omega) (fun g' e => by
                have e' := Option.some.inj e
                simp at e'
                omega)
              refine hK.out _ _ ⟨hEB.keep c0, hEB.keep c1, hEB.keep z0⟩ (fun hS1 => ?_)
              clear hK hS
              have hS := hS1
              clear hS1
              try clear K
              try simp only [put_some, List.set]
              have hST : StrsAt wB (some ⟨wr.heap.size + 1, 0, none⟩) [(nthB b.batches k).name] := by
                have h := hS0.gb h3 (fun _ b' o' e' => by
                  cases e'
                  intro er
                  have e' := Option.some.inj er
                  simp at e')
                simpa using h
              have hET : Ext wr wB := hEB
              have hOT := h2
              have hzT := hET.size
              refine wpT_one 21 rfl (by kernel_rfl) rfl rfl (fun K hK => ?_)
              refine wp_strs (L := gone) (M := [(nthB b.batches k).name]) _ _ rfl rfl hOT rfl hST (by simp; have := HL0.out; omega) (by omega) (fun v' wC h5 h6 h7 => ?_)
              have hEC : Ext wr wC := hET.grown h6 hzT hobB
              obtain ⟨aC, cC, e7, hatC⟩ := h5.at (by simp; have := HL0.out; omega) (hshg.snoc hl)
              subst e7
              have hln : (gone ++ [(nthB b.batches k).name]).length = gone.length + 1 := by simp
              have hIH := IH (gone ++ [(nthB b.batches k).name]) x1 (some ⟨ba, oa, none⟩) aC y1 y2 cC wC (hbr.ext hEC) hatC (by rw [hln]; have := HL0.out; omega)
              rw [hln] at hIH ⊢
              refine hK.out _ _ ⟨hEC.keep c0, hEC.keep c1, hEC.keep z0⟩ (fun hS1 => ?_)
              clear hK hS
              have hS := hS1
              clear hS1
              try clear K
              try simp only [put_some, List.set]
              refine wpT_one 22 rfl (by kernel_rfl) rfl rfl (fun K hK => ?_)
              go_simp
              refine hIH.mono ?_
              rintro e wD ⟨rfl, hED⟩
              have HED := hid (Ext.tr hEC hED)
              go_wp2_with fail
              refine hK.out _ _ ⟨HED.out.keep c0, HED.out.keep c1, HED.out.keep z0⟩ (fun hS1 => ?_)
              clear hK hS
              have hS := hS1
              clear hS1
              try clear K
              try simp only [put_some, List.set]
              clear h2 h3 h4 h5 h6 h7 hEB hEC hET hobB hOT hST hO0 hE0 hIH hED hatC
              refine wpT_takeN 23 (v := ?_) rfl rfl (by kernel_rfl) (by kernel_rfl) (by kernel_rfl) (by kernel_rfl) (fun _ _ _ h => h) hS rfl (by intro w0 hw0; (try dsimp only at hw0); go_simp; try rfl) ?_
              try simp only [List.set]
              refine wpT_done (by kernel_rfl) ?_ _
              clear hS
              go_wp2_with fail
              go_meet
              exact ⟨rfl, HED.out⟩
          · go_simp
            refine hK.out _ _ ⟨(ext_alloc _ _).keep hS.1, (ext_alloc _ _).keep hS.2.1, (ext_alloc _ _).keep hS.2.2⟩ (fun hS1 => ?_)
            clear hK hS
            have hS := hS1
            clear hS1
            try clear K
            try simp only [put_some, List.set]
            refine wpT_one 11 rfl (by kernel_rfl) rfl rfl (fun K hK => ?_)
            go_simp
            refine hK.out _ _ ⟨(ext_alloc _ _).keep hS.1, (ext_alloc _ _).keep hS.2.1, (ext_alloc _ _).keep hS.2.2⟩ (fun hS1 => ?_)
            clear hK hS
            have hS := hS1
            clear hS1
            try clear K
            try simp only [put_some, List.set]
            refine wpT_one 13 rfl (by kernel_rfl) rfl rfl (fun K hK => ?_)
            have hE0 : Ext wr (((wr.drewN 1).alloc (.cells #[.string (S (nthB b.batches k).name)] 9)).alloc (.cells #[] 9)) := Ext.tr (Ext.tr (ext_drewN wr 1) (ext_alloc _ _)) (ext_alloc _ _)
            have hO0 : OwnL (((wr.drewN 1).alloc (.cells #[.string (S (nthB b.batches k).name)] 9)).alloc (.cells #[] 9)) wr.heap.size (.slice (some ⟨wr.heap.size + 1, 0, none⟩) 0 0) [] := by have h := OwnL.made ((wr.drewN 1).alloc (.cells #[.string (S (nthB b.batches k).name)] 9)) wr.heap.size (by simp); simpa using h
            have hS0 := (one_str' (wr.drewN 1) (nthB b.batches k).name hl).ext (ext_alloc ((wr.drewN 1).alloc (.cells #[.string (S (nthB b.batches k).name)] 9)) (.cells #[] 9))
            refine wp_strs (L := []) (M := gone) _ _ rfl rfl hO0 rfl (hgr.ext hE0) (by simp; have := HL0.out; omega) (by simp; try omega) (fun v' wB h2 h3 h4 => ?_)
            rw [List.nil_append] at h2
            obtain ⟨aB, cB, rfl⟩ := own_sl h2
            have hobB : ∀ g', (Value.slice aB gone.length cB).ownBlock = some g' → wr.heap.size ≤ g' := fun g' e => by
              rcases h4 with h4 | h4
              · rw [h4] at e
                have e' := Option.some.inj e
                simp at e'
                omega
              · rw [h4] at e
                have e' := Option.some.inj e
                simp at e'
                omega
            have hEB : Ext wr wB := hE0.grown h3 (by simp; try omega) (fun g' e => by
              have e' := Option.some.inj e
              simp at e'
              omega)
            refine hK.out _ _ ⟨hEB.keep c0, hEB.keep c1, hEB.keep z0⟩ (fun hS1 => ?_)
            clear hK hS
            have hS := hS1
            clear hS1
            try clear K
            try simp only [put_some, List.set]
            have hST : StrsAt wB (some ⟨wr.heap.size, 0, none⟩) [(nthB b.batches k).name] := by
              have h := hS0.gb h3 (fun _ b' o' e' => by
                cases e'
                intro er
                have e' := Option.some.inj er
                simp at e')
              simpa using h
            have hET : Ext wr wB := hEB
            have hOT := h2
            have hzT := hET.size
            refine wpT_one 21 rfl (by kernel_rfl) rfl rfl (fun K hK => ?_)
            refine wp_strs (L := gone) (M := [(nthB b.batches k).name]) _ _ rfl rfl hOT rfl hST (by simp; have := HL0.out; omega) (by omega) (fun v' wC h5 h6 h7 => ?_)
            have hEC : Ext wr wC := hET.grown h6 hzT hobB
            obtain ⟨aC, cC, e7, hatC⟩ := h5.at (by simp; have := HL0.out; omega) (hshg.snoc hl)
            subst e7
            have hln : (gone ++ [(nthB b.batches k).name]).length = gone.length + 1 := by simp
            have hIH := IH (gone ++ [(nthB b.batches k).name]) x1 (some ⟨ba, oa, none⟩) aC y1 y2 cC wC (hbr.ext hEC) hatC (by rw [hln]; have := HL0.out; omega)
            rw [hln] at hIH ⊢
            refine hK.out _ _ ⟨hEC.keep c0, hEC.keep c1, hEC.keep z0⟩ (fun hS1 => ?_)
            clear hK hS
            have hS := hS1
            clear hS1
            try clear K
            try simp only [put_some, List.set]
            refine wpT_one 22 rfl (by kernel_rfl) rfl rfl (fun K hK => ?_)
            go_simp
            refine hIH.mono ?_
            rintro e wD ⟨rfl, hED⟩
            have HED := hid (Ext.tr hEC hED)
            go_wp2_with fail
            refine hK.out _ _ ⟨HED.out.keep c0, HED.out.keep c1, HED.out.keep z0⟩ (fun hS1 => ?_)
            clear hK hS
            have hS := hS1
            clear hS1
            try clear K
            try simp only [put_some, List.set]
            clear h2 h3 h4 h5 h6 h7 hEB hEC hET hobB hOT hST hO0 hE0 hIH hED hatC
            refine wpT_takeN 23 (v := ?_) rfl rfl (by kernel_rfl) (by kernel_rfl) (by kernel_rfl) (by kernel_rfl) (fun _ _ _ h => h) hS rfl (by intro w0 hw0; (try dsimp only at hw0); go_simp; try rfl) ?_
            try simp only [List.set]
            refine wpT_done (by kernel_rfl) ?_ _
            clear hS
            go_wp2_with fail
            go_meet
            exact ⟨rfl, HED.out⟩
        case rest =>
          obtain ⟨rfl, hEx⟩ := hcut
          have HE2 := hid (Ext.tr HER.out hEx)
          clear hEx
          cases hsm : someB b m (gone ++ [(b.at k).name])
          · go_wp2
            go_roundw
            case rel => exact ⟨k + 1, by omega, by go_num, HE2.out, fun j hj => by
              by_cases e : j = k
              · rw [e, hsm]; simp
              · exact HN.out j (by omega)⟩
            case measure => simp [intOf]; omega
          · have HF : Hid (someB b (m + 1) gone = true) := anyLt_of hlt (by rw [hsm]; simp [Book.at, hin])
            go_wp2
            go_ret
            exact ⟨by rw [HF.out]; rfl, Ext.tr HE.out HE2.out⟩
      · have hng : (!hasB gone (nthB b.batches k).name) = false := by rw [hin]; rfl
        go_upto_region 6 with fail
        go_cut [45] (fun v wx => v = .bool false ∧ Ext wr wx)
        case first =>
          go_quiet ((go_at_call 23; exact Calls.quiet_of_same (wHas_v _ _ _ _ _ _ (hgr.drewN _) hin)))
          go_wp2_with fail
          go_meet
          exact ⟨rfl, ext_drewN _ _⟩
        case rest =>
          obtain ⟨rfl, hEx⟩ := hcut
          have HE2 := hid (Ext.tr HER.out hEx)
          clear hEx
          go_wp2
          go_roundw
          case rel => exact ⟨k + 1, by omega, by go_num, HE2.out, fun j hj => by
            by_cases e : j = k
            · rw [e]; simp [Book.at, hin]
            · exact HN.out j (by omega)⟩
          case measure => simp [intOf]; omega
    · have HF : Hid (someB b (m + 1) gone = false) := anyLt_no (fun j hj => HN.out j (by omega))
      go_wp2
      go_ret
      exact ⟨by rw [HF.out]; rfl, Ext.tr HE.out HER.out⟩

set_option maxHeartbeats 400000 in
theorem wSome_zero (b : Book) (gone : List Str) (x1 x2 x3 : Option Addr) (y1 y2 y3 : Nat) (w : World) (hb : BookAt w x1 x2 b) (hg : StrsAt w x3 gone) (hl0 : gone.length = b.batches.length) :
      Calls Try.prog 16 #[.agg #[.slice x1 b.things.length y1, .slice x2 b.batches.length y2], .slice x3 gone.length y3] w fun e w' => e = .returned (.bool (someB b 0 gone)) ∧ Ext w w' := by
  have hne : ((gone.length : Int) == (b.batches.length : Int)) = true := by rw [beq_iff_eq]; omega
  have HRX : Hid (Rec (w.alloc (.cells #[.slice x1 b.things.length y1, .slice x2 b.batches.length y2] 26)) w.heap.size 26 [.slice x1 b.things.length y1, .slice x2 b.batches.length y2]) := Rec.new w _ _
  clear hl0
  go_enter Try.func16, Try.ntmps16
  go_wp2_with fail
  refine (implFits_any b gone _ _ _ _ _ _ _ (hb.ext (ext_alloc _ _)) (hg.ext (ext_alloc _ _))).mono ?_
  rintro e w1 ⟨rfl, hE1⟩
  have HE := hid (Ext.tr (ext_alloc _ _) hE1)
  clear hE1
  go_wp2
  go_ret
  exact ⟨rfl, HE.out⟩
theorem wSome_any (b : Book) (hb7 : b.batches.length ≤ 7) : ∀ (m : Nat) (gone : List Str) (x1 x2 x3 : Option Addr) (y1 y2 y3 : Nat) (w : World), BookAt w x1 x2 b → StrsAt w x3 gone → gone.length + m = b.batches.length →
      Calls Try.prog 16 #[.agg #[.slice x1 b.things.length y1, .slice x2 b.batches.length y2], .slice x3 gone.length y3] w fun e w' => e = .returned (.bool (someB b m gone)) ∧ Ext w w'
  | 0, gone, x1, x2, x3, y1, y2, y3, w, hb, hg, hl => wSome_zero b gone x1 x2 x3 y1 y2 y3 w hb hg (by omega)
  | m + 1, gone, x1, x2, x3, y1, y2, y3, w, hb, hg, hl => wSome_step b m (wSome_any b hb7 m) gone x1 x2 x3 y1 y2 y3 w hb hg hl hb7
end Go.Proofs.Ytdafpnpfcmgfcaa
