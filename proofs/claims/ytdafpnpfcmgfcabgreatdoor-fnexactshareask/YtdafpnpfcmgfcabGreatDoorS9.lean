/- The walks over the specification's l3Taken, l3Insert and ShareSafe. -/
import Derived.Test.YtdafpnpfcmgfcabGreatDoorS8
import Derived.Test.YtdafpnpfcmgfcabGreatDoorKA
namespace Go.Proofs.YtdafpnpfcmgfcabGreatDoor
open Go.RowKit
attribute [local go_sem] S_toList S_size S_get

set_option maxHeartbeats 400000 in
theorem specSafe_any (b : Book) (a1 a2 : Option Addr) (c1 c2 : Nat) (w : World) (hb : BookAt w a1 a2 b) :
    Calls Tryz.prog 28 #[.agg #[.slice a1 b.things.length c1, .slice a2 b.batches.length c2]] w fun e w' => e = .returned (.bool (safeB b)) ∧ Ext w w' := by
  go_enter Tryz.func28, Tryz.ntmps28
  go_wp2_with fail
  refine (specOrder_any b _ _ _ _ _ (hb.ext (ext_alloc _ _))).mono ?_
  rintro e w1 ⟨a, cap, rfl, hE1, _⟩
  have HE := hid (Ext.tr (ext_alloc _ _) hE1)
  clear hE1
  go_wp2
  go_ret
  exact ⟨rfl, HE.out⟩

set_option maxHeartbeats 1000000 in
theorem l3Taken_any (b : Book) (k : Nat) (things : List Str) (a1 a2 a3 : Option Addr) (c1 c2 c3 : Nat) (w : World) (hb : BookAt w a1 a2 b) (ht : StrsAt w a3 things) (hk : k < b.batches.length) :
    Calls Tryz.prog 26 #[.agg #[.slice a1 b.things.length c1, .slice a2 b.batches.length c2], .int .i64 (k : Int), .slice a3 things.length c3] w fun e w' => e = .returned (.bool (takenB b k things)) ∧ Ext w w' := by
  have hn := hb.2.1
  have hb' := hb.ext (ext_alloc w (.cells #[.slice a1 b.things.length c1, .slice a2 b.batches.length c2] 30))
  have ht' := ht.ext (ext_alloc w (.cells #[.slice a1 b.things.length c1, .slice a2 b.batches.length c2] 30))
  have HR := hid (Rec.new w 30 [.slice a1 b.things.length c1, .slice a2 b.batches.length c2])
  have HE := hid (ext_alloc w (.cells #[.slice a1 b.things.length c1, .slice a2 b.batches.length c2] 30))
  go_enter Tryz.func26, Tryz.ntmps26
  go_wp2_with fail
  have HR' : Hid (Rec (w.alloc (.cells #[.slice a1 b.things.length c1, .slice a2 b.batches.length c2] 30)) w.heap.size 30 [.slice a1 b.things.length c1, .slice a2 b.batches.length c2]) := HR.out
  clear HR
  generalize w.alloc (.cells #[.slice a1 b.things.length c1, .slice a2 b.batches.length c2] 30) = wA at hb' ht' HR' HE ⊢
  go_loopw [7] (fun i wr => ∃ j : Nat, j ≤ b.batches.length ∧ i = .int .i64 j ∧ wr = wA ∧ ∀ i', i' < j → (!(i' == k) && shareB (b.at i').has things) = false) (fun i _ => b.batches.length - (intOf i).toNat)
  case atStart => exact ⟨0, Nat.zero_le _, rfl, rfl, fun j hj => by omega⟩
  case round =>
    obtain ⟨j, hj, rfl, rfl, hno⟩ := hrel
    have HN := hid hno
    clear hno
    have p0 := HR'.out.cell (i := 0) rfl
    have p1 := HR'.out.cell (i := 1) rfl
    by_cases hlt : j < b.batches.length
    · obtain ⟨ba, oa, rfl, hl, d1, g1, d2, g2, z0, z1, z2, s1, s2⟩ := hb'.2.2 j hlt
      by_cases hjk : j = k
      · subst hjk
        go_wp2
        go_roundw
        case rel => exact ⟨j + 1, by omega, by go_num, by first | rfl | trivial, fun i' hi' => by
          by_cases e : i' = j
          · simp [e]
          · exact HN.out i' (by omega)⟩
        case measure => simp [intOf]; omega
      · have hjk' : ((j : Int) == (k : Int)) = false := by simp; omega
        cases hsh : shareB (nthB b.batches j).has things
        · go_wp2_with (go_at_call 41; refine (l1Share_v _ _ _ _ _ _ _ _ s1 ht' hsh).mono ?_; rintro e w' ⟨rfl, rfl⟩)
          go_roundw
          case rel => exact ⟨j + 1, by omega, by go_num, by first | rfl | trivial, fun i' hi' => by
            by_cases e : i' = j
            · subst e; simp [Book.at, hsh]
            · exact HN.out i' (by omega)⟩
          case measure => simp [intOf]; omega
        · have HF : Hid (takenB b k things = true) := anyLt_of hlt (by simp [Book.at, hsh, hjk])
          go_wp2_with (go_at_call 41; refine (l1Share_v _ _ _ _ _ _ _ _ s1 ht' hsh).mono ?_; rintro e w' ⟨rfl, rfl⟩)
          go_ret
          exact ⟨by rw [HF.out]; rfl, HE.out⟩
    · have HF : Hid (takenB b k things = false) := anyLt_no (fun i' hi' => HN.out i' (by omega))
      go_wp2
      go_ret
      exact ⟨by rw [HF.out]; rfl, HE.out⟩

theorem StrsAt.drop {w : World} {g o : Nat} {l : List Str} (h : StrsAt w (some ⟨g, o, none⟩) l) (k : Nat) : StrsAt w (some ⟨g, o + k, none⟩) (l.drop k) := by
  refine ⟨Nat.le_trans (by rw [List.length_drop]; omega) h.1, fun i hi => ?_⟩
  rw [List.length_drop] at hi
  have e : nth (l.drop k) i = nth l (k + i) := by rw [nth_get (by rw [List.length_drop]; exact hi), nth_get (by omega), List.getElem_drop]
  obtain ⟨h1, b, o', ea, hc⟩ := h.2 (k + i) (by omega)
  cases ea
  rw [e]; exact ⟨h1, g, o + k, rfl, by rw [Nat.add_assoc]; exact hc⟩

set_option maxRecDepth 100000 in
set_option maxHeartbeats 4000000 in
theorem l3Insert_any (a : Option Addr) (c base : Nat) (l : List Str) (n : Str) (w : World) (ho : OwnL w base (.slice a l.length c) l) (hs : ShortS l) (hl1 : l.length + 1 ≤ 8796093022208) (hnl : n.length ≤ 140737488355328) (hbase : base ≤ w.heap.size) :
    Calls Tryz.prog 27 #[.slice a l.length c, .string (S n)] w fun e w' => ∃ v, e = .returned v ∧ Ext w w' ∧ OwnL w' base v (insS l n) := by
  obtain ⟨a', c', ea, hat⟩ := ho.at' hs
  simp only [Value.slice.injEq] at ea
  obtain ⟨rfl, _, rfl⟩ := ea
  have HO := hid ho
  have hsh := ho.shape
  go_enter Tryz.func27, Tryz.ntmps27
  go_wp2_with fail
  go_loopw [5] (fun i wr => ∃ k : Nat, k ≤ l.length ∧ i = .int .i64 k ∧ wr = w ∧ ∀ j, j < k → Op.bytesLess (nth l j) n = true) (fun i _ => l.length - (intOf i).toNat)
  case atStart => exact ⟨0, Nat.zero_le _, rfl, rfl, fun j hj => by omega⟩
  case round =>
    obtain ⟨k, hk, rfl, rfl, hless⟩ := hrel
    have HL := hid hless
    clear hless
    by_cases hcont : k < l.length ∧ Op.bytesLess (nth l k) n = true
    · obtain ⟨hlt, hls⟩ := hcont
      obtain ⟨hln, ba, oa, rfl, hc⟩ := hat.2 k hlt
      go_wp2
      go_roundw
      case rel => exact ⟨k + 1, by omega, by go_num, by first | rfl | trivial, fun j hj => by
        by_cases e : j = k
        · rw [e]; exact hls
        · exact HL.out j (by omega)⟩
      case measure => simp [intOf]; omega
    · have hlead : leadS l n = k := leadS_of HL.out hk (fun hlt => by
        cases h : Op.bytesLess (nth l k) n
        · rfl
        · exact absurd ⟨hlt, h⟩ hcont)
      have hlk : (l.take k).length = k := by rw [List.length_take]; omega
      have HT := hid (hat.take k)
      rcases hsh with ⟨e, h0⟩ | ⟨g, cap, e, hgb, hcap, hcm, _⟩
      · simp only [Value.slice.injEq] at e
        obtain ⟨rfl, _, rfl⟩ := e
        have hk0 : k = 0 := by omega
        subst hk0
        have hlt : ¬ ((0 : Int) < (l.length : Int)) := by omega
        have hins : insS l n = l.take 0 ++ [n] ++ l.drop 0 := by unfold insS; rw [hlead, h0]; simp
        have HD : StrsAt wr none (l.drop 0) := by rw [List.drop_zero]; exact hat
        clear hcont
        go_wp2_with fail
        refine wp_region_T (fun _ => True) 12 (by kernel_rfl) trivial (fun hS => ?_)
        refine wpT_take 1 (v := ?_) rfl rfl (by kernel_rfl) (by kernel_rfl) (by kernel_rfl) (by kernel_rfl) (fun _ _ _ h => h) hS rfl (by intro w0 hw0; (try dsimp only at hw0); go_simp; try rfl) ?_
        try simp only [List.set]
        refine wpT_take 2 (v := ?_) rfl rfl (by kernel_rfl) (by kernel_rfl) (by kernel_rfl) (by kernel_rfl) (fun _ _ _ h => h) hS rfl (by intro w0 hw0; (try dsimp only at hw0); go_simp; try rfl) ?_
        try simp only [List.set]
        refine wpT_take 3 (v := ?_) rfl rfl (by kernel_rfl) (by kernel_rfl) (by kernel_rfl) (by kernel_rfl) (fun _ _ _ h => h) hS rfl (by intro w0 hw0; (try dsimp only at hw0); go_simp; try rfl) ?_
        try simp only [List.set]
        refine wpT_take 5 (v := ?_) rfl rfl (by kernel_rfl) (by kernel_rfl) (by kernel_rfl) (by kernel_rfl) (fun _ _ _ h => h) hS rfl (by intro w0 hw0; (try dsimp only at hw0); go_simp; try rfl) ?_
        try simp only [List.set]
        refine wpT_take 8 (v := ?_) rfl rfl (by kernel_rfl) (by kernel_rfl) (by kernel_rfl) (by kernel_rfl) (fun _ _ _ h => h) hS rfl (by intro w0 hw0; (try dsimp only at hw0); go_simp; try rfl) ?_
        try simp only [List.set]
        refine wpT_take 9 (v := ?_) rfl rfl (by kernel_rfl) (by kernel_rfl) (by kernel_rfl) (by kernel_rfl) (fun _ _ _ h => h) hS rfl (by intro w0 hw0; (try dsimp only at hw0); go_simp; try rfl) ?_
        try simp only [List.set]
        refine wpT_take 10 (v := ?_) rfl rfl (by kernel_rfl) (by kernel_rfl) (by kernel_rfl) (by kernel_rfl) (fun _ _ _ h => h) hS rfl (by intro w0 hw0; (try dsimp only at hw0); go_simp; try rfl) ?_
        try simp only [List.set]
        refine wpT_two 0 6 rfl rfl (by kernel_rfl) rfl rfl rfl rfl (fun K hK => ?_) (fun K hK => ?_)
        · go_simp
          refine hK.out _ _ trivial (fun hS1 => ?_)
          clear hK hS
          have hS := hS1
          clear hS1
          try clear K
          try simp only [put_some, List.set]
          refine wpT_two 4 6 rfl rfl (by kernel_rfl) rfl rfl rfl rfl (fun K hK => ?_) (fun K hK => ?_)
          · have hE0 : Ext wr (wr.drew.alloc (.cells #[] 9)) := Ext.tr (ext_drewN wr 1) (ext_alloc _ _)
            have hO0 : OwnL (wr.drew.alloc (.cells #[] 9)) wr.heap.size (.slice (some ⟨wr.heap.size, 0, none⟩) 0 0) [] := OwnL.made wr.drew wr.heap.size (Nat.le_refl _)
            refine wp_strs (L := []) (M := l.take 0) _ _ rfl rfl hO0 (by rw [hlk]; rfl) (HT.out.ext hE0) (by rw [hlk]; first | (simp; done) | (simp; omega)) (by simp; try omega) (fun v' wB h2 h3 h4 => ?_)
            rw [List.nil_append] at h2
            obtain ⟨aB, cB, rfl⟩ := own_sl h2
            rw [hlk] at h2 h4 ⊢
            have hobB : ∀ g', (Value.slice aB 0 cB).ownBlock = some g' → wr.heap.size ≤ g' := fun g' e => by
              rcases h4 with h4 | h4
              · rw [h4] at e
                have e' := Option.some.inj e
                simp at e'
                omega
              · rw [h4] at e
                have e' := Option.some.inj e
                simp at e'
                omega
            have hEB : Ext wr wB := hE0.grown h3 (by simp; try omega) (fun g' e => by
              have e' := Option.some.inj e
              simp at e'
              omega)
            refine hK.out _ _ trivial (fun hS1 => ?_)
            clear hK hS
            have hS := hS1
            clear hS1
            try clear K
            try simp only [put_some, List.set]
            refine wpT_one 6 rfl (by kernel_rfl) rfl rfl (fun K hK => ?_)
            go_simp
            refine hK.out _ _ trivial (fun hS1 => ?_)
            clear hK hS
            have hS := hS1
            clear hS1
            try clear K
            try simp only [put_some, List.set]
            have hET : Ext wr (wB.alloc (.cells #[.string (S n)] 9)) := Ext.tr hEB (ext_alloc _ _)
            have hST := one_str' wB n hnl
            have hOT := h2.ext (ext_alloc wB (.cells #[.string (S n)] 9))
            have hzT := hET.size
            refine wpT_one 7 rfl (by kernel_rfl) rfl rfl (fun K hK => ?_)
            refine wp_strs (L := l.take 0) (M := [n]) _ _ rfl rfl hOT rfl hST (by rw [hlk]; first | (simp; done) | (simp; omega)) (by omega) (fun v' wC h5 h6 h7 => ?_)
            obtain ⟨aC, cC, rfl⟩ := own_sl h5
            have hlC : (l.take 0 ++ [n]).length = 1 := by rw [List.length_append, hlk]; rfl
            rw [hlC] at h5 h7 ⊢
            have hobC : ∀ g', (Value.slice aC 1 cC).ownBlock = some g' → wr.heap.size ≤ g' := fun g' e => by
              rcases h7 with h7 | h7
              · rw [h7] at e; exact hobB g' e
              · rw [h7] at e
                have e' := Option.some.inj e
                omega
            have hEC : Ext wr wC := hET.grown h6 hzT hobB
            refine hK.out _ _ trivial (fun hS1 => ?_)
            clear hK hS
            have hS := hS1
            clear hS1
            try clear K
            try simp only [put_some, List.set]
            have hzC := hEC.size
            refine wpT_one 11 rfl (by kernel_rfl) rfl rfl (fun K hK => ?_)
            refine wp_strs (L := l.take 0 ++ [n]) (M := l.drop 0) _ _ rfl rfl h5 (by rw [List.drop_zero, h0]; rfl) (HD.ext hEC) (by rw [hlC, List.length_drop]; omega) (by omega) (fun v' wD h8 h9 h10 => ?_)
            have hED : Ext wr wD := hEC.grown h9 hzC hobC
            refine hK.out _ _ trivial (fun hS1 => ?_)
            clear hK hS
            have hS := hS1
            clear hS1
            try clear K
            try simp only [put_some, List.set]
            have HN : Hid (OwnL wD base v' (insS l n)) := by rw [hins]; exact h8.low hbase
            have HED := hid hED
            clear h2 h3 h4 h5 h6 h7 h8 h9 h10 hEB hEC hED hET hobB hobC hOT hST hO0 hE0 HD HT hS
            refine wpT_last rfl (by kernel_rfl) (by kernel_rfl) rfl (fun K hK => ?_)
            go_simp
            refine hK.out _ _ ?_
            clear hK
            go_wp2
            go_ret
            exact ⟨_, rfl, HED.out, HN.out⟩
          · go_simp
            refine hK.out _ _ trivial (fun hS1 => ?_)
            clear hK hS
            have hS := hS1
            clear hS1
            try clear K
            try simp only [put_some, List.set]
            refine wpT_one 4 rfl (by kernel_rfl) rfl rfl (fun K hK => ?_)
            have hE0 : Ext wr ((wr.drew.alloc (.cells #[] 9)).alloc (.cells #[.string (S n)] 9)) := Ext.tr (Ext.tr (ext_drewN wr 1) (ext_alloc _ _)) (ext_alloc _ _)
            have hO0 : OwnL ((wr.drew.alloc (.cells #[] 9)).alloc (.cells #[.string (S n)] 9)) wr.heap.size (.slice (some ⟨wr.heap.size, 0, none⟩) 0 0) [] := (OwnL.made wr.drew wr.heap.size (Nat.le_refl _)).ext (ext_alloc _ _)
            have hS0 := one_str' (wr.drew.alloc (.cells #[] 9)) n hnl
            refine wp_strs (L := []) (M := l.take 0) _ _ rfl rfl hO0 (by rw [hlk]; rfl) (HT.out.ext hE0) (by rw [hlk]; first | (simp; done) | (simp; omega)) (by simp; try omega) (fun v' wB h2 h3 h4 => ?_)
            rw [List.nil_append] at h2
            obtain ⟨aB, cB, rfl⟩ := own_sl h2
            rw [hlk] at h2 h4 ⊢
            have hobB : ∀ g', (Value.slice aB 0 cB).ownBlock = some g' → wr.heap.size ≤ g' := fun g' e => by
              rcases h4 with h4 | h4
              · rw [h4] at e
                have e' := Option.some.inj e
                simp at e'
                omega
              · rw [h4] at e
                have e' := Option.some.inj e
                simp at e'
                omega
            have hEB : Ext wr wB := hE0.grown h3 (by simp; try omega) (fun g' e => by
              have e' := Option.some.inj e
              simp at e'
              omega)
            refine hK.out _ _ trivial (fun hS1 => ?_)
            clear hK hS
            have hS := hS1
            clear hS1
            try clear K
            try simp only [put_some, List.set]
            have hET : Ext wr wB := hEB
            have hST : StrsAt wB (some ⟨wr.heap.size + 1, 0, none⟩) [n] := by
              have h := hS0.gb h3 (fun _ b o e => by
                cases e
                intro er
                have e' := Option.some.inj er
                simp at e')
              simpa using h
            have hOT := h2
            have hzT := hET.size
            refine wpT_one 7 rfl (by kernel_rfl) rfl rfl (fun K hK => ?_)
            refine wp_strs (L := l.take 0) (M := [n]) _ _ rfl rfl hOT rfl hST (by rw [hlk]; first | (simp; done) | (simp; omega)) (by omega) (fun v' wC h5 h6 h7 => ?_)
            obtain ⟨aC, cC, rfl⟩ := own_sl h5
            have hlC : (l.take 0 ++ [n]).length = 1 := by rw [List.length_append, hlk]; rfl
            rw [hlC] at h5 h7 ⊢
            have hobC : ∀ g', (Value.slice aC 1 cC).ownBlock = some g' → wr.heap.size ≤ g' := fun g' e => by
              rcases h7 with h7 | h7
              · rw [h7] at e; exact hobB g' e
              · rw [h7] at e
                have e' := Option.some.inj e
                omega
            have hEC : Ext wr wC := hET.grown h6 hzT hobB
            refine hK.out _ _ trivial (fun hS1 => ?_)
            clear hK hS
            have hS := hS1
            clear hS1
            try clear K
            try simp only [put_some, List.set]
            have hzC := hEC.size
            refine wpT_one 11 rfl (by kernel_rfl) rfl rfl (fun K hK => ?_)
            refine wp_strs (L := l.take 0 ++ [n]) (M := l.drop 0) _ _ rfl rfl h5 (by rw [List.drop_zero, h0]; rfl) (HD.ext hEC) (by rw [hlC, List.length_drop]; omega) (by omega) (fun v' wD h8 h9 h10 => ?_)
            have hED : Ext wr wD := hEC.grown h9 hzC hobC
            refine hK.out _ _ trivial (fun hS1 => ?_)
            clear hK hS
            have hS := hS1
            clear hS1
            try clear K
            try simp only [put_some, List.set]
            have HN : Hid (OwnL wD base v' (insS l n)) := by rw [hins]; exact h8.low hbase
            have HED := hid hED
            clear h2 h3 h4 h5 h6 h7 h8 h9 h10 hEB hEC hED hET hobB hobC hOT hST hO0 hE0 HD HT hS
            refine wpT_last rfl (by kernel_rfl) (by kernel_rfl) rfl (fun K hK => ?_)
            go_simp
            refine hK.out _ _ ?_
            clear hK
            go_wp2
            go_ret
            exact ⟨_, rfl, HED.out, HN.out⟩
        · go_simp
          refine hK.out _ _ trivial (fun hS1 => ?_)
          clear hK hS
          have hS := hS1
          clear hS1
          try clear K
          try simp only [put_some, List.set]
          refine wpT_one 0 rfl (by kernel_rfl) rfl rfl (fun K hK => ?_)
          go_simp
          refine hK.out _ _ trivial (fun hS1 => ?_)
          clear hK hS
          have hS := hS1
          clear hS1
          try clear K
          try simp only [put_some, List.set]
          refine wpT_one 4 rfl (by kernel_rfl) rfl rfl (fun K hK => ?_)
          have hE0 : Ext wr ((wr.drew.alloc (.cells #[.string (S n)] 9)).alloc (.cells #[] 9)) := Ext.tr (Ext.tr (ext_drewN wr 1) (ext_alloc _ _)) (ext_alloc _ _)
          have hO0 : OwnL ((wr.drew.alloc (.cells #[.string (S n)] 9)).alloc (.cells #[] 9)) wr.heap.size (.slice (some ⟨wr.heap.size + 1, 0, none⟩) 0 0) [] := by have h := OwnL.made (wr.drew.alloc (.cells #[.string (S n)] 9)) wr.heap.size (by simp); simpa using h
          have hS0 := (one_str' wr.drew n hnl).ext (ext_alloc (wr.drew.alloc (.cells #[.string (S n)] 9)) (.cells #[] 9))
          refine wp_strs (L := []) (M := l.take 0) _ _ rfl rfl hO0 (by rw [hlk]; rfl) (HT.out.ext hE0) (by rw [hlk]; first | (simp; done) | (simp; omega)) (by simp; try omega) (fun v' wB h2 h3 h4 => ?_)
          rw [List.nil_append] at h2
          obtain ⟨aB, cB, rfl⟩ := own_sl h2
          rw [hlk] at h2 h4 ⊢
          have hobB : ∀ g', (Value.slice aB 0 cB).ownBlock = some g' → wr.heap.size ≤ g' := fun g' e => by
            rcases h4 with h4 | h4
            · rw [h4] at e
              have e' := Option.some.inj e
              simp at e'
              omega
            · rw [h4] at e
              have e' := Option.some.inj e
              simp at e'
              omega
          have hEB : Ext wr wB := hE0.grown h3 (by simp; try omega) (fun g' e => by
            have e' := Option.some.inj e
            simp at e'
            omega)
          refine hK.out _ _ trivial (fun hS1 => ?_)
          clear hK hS
          have hS := hS1
          clear hS1
          try clear K
          try simp only [put_some, List.set]
          have hET : Ext wr wB := hEB
          have hST := hS0.gb h3 (fun _ b o e => by
            cases e
            intro er
            have e' := Option.some.inj er
            simp at e')
          have hOT := h2
          have hzT := hET.size
          refine wpT_one 7 rfl (by kernel_rfl) rfl rfl (fun K hK => ?_)
          refine wp_strs (L := l.take 0) (M := [n]) _ _ rfl rfl hOT rfl hST (by rw [hlk]; first | (simp; done) | (simp; omega)) (by omega) (fun v' wC h5 h6 h7 => ?_)
          obtain ⟨aC, cC, rfl⟩ := own_sl h5
          have hlC : (l.take 0 ++ [n]).length = 1 := by rw [List.length_append, hlk]; rfl
          rw [hlC] at h5 h7 ⊢
          have hobC : ∀ g', (Value.slice aC 1 cC).ownBlock = some g' → wr.heap.size ≤ g' := fun g' e => by
            rcases h7 with h7 | h7
            · rw [h7] at e; exact hobB g' e
            · rw [h7] at e
              have e' := Option.some.inj e
              omega
          have hEC : Ext wr wC := hET.grown h6 hzT hobB
          refine hK.out _ _ trivial (fun hS1 => ?_)
          clear hK hS
          have hS := hS1
          clear hS1
          try clear K
          try simp only [put_some, List.set]
          have hzC := hEC.size
          refine wpT_one 11 rfl (by kernel_rfl) rfl rfl (fun K hK => ?_)
          refine wp_strs (L := l.take 0 ++ [n]) (M := l.drop 0) _ _ rfl rfl h5 (by rw [List.drop_zero, h0]; rfl) (HD.ext hEC) (by rw [hlC, List.length_drop]; omega) (by omega) (fun v' wD h8 h9 h10 => ?_)
          have hED : Ext wr wD := hEC.grown h9 hzC hobC
          refine hK.out _ _ trivial (fun hS1 => ?_)
          clear hK hS
          have hS := hS1
          clear hS1
          try clear K
          try simp only [put_some, List.set]
          have HN : Hid (OwnL wD base v' (insS l n)) := by rw [hins]; exact h8.low hbase
          have HED := hid hED
          clear h2 h3 h4 h5 h6 h7 h8 h9 h10 hEB hEC hED hET hobB hobC hOT hST hO0 hE0 HD HT hS
          refine wpT_last rfl (by kernel_rfl) (by kernel_rfl) rfl (fun K hK => ?_)
          go_simp
          refine hK.out _ _ ?_
          clear hK
          go_wp2
          go_ret
          exact ⟨_, rfl, HED.out, HN.out⟩
      · simp only [Value.slice.injEq] at e
        obtain ⟨rfl, _, rfl⟩ := e
        have hky : k ≤ c := by omega
        by_cases hlt : k < l.length
        · have hls : Op.bytesLess (nth l k) n = false := by
            cases h : Op.bytesLess (nth l k) n
            · rfl
            · exact absurd ⟨hlt, h⟩ hcont
          obtain ⟨hln, ba, oa, ee, hc⟩ := hat.2 k hlt
          cases ee
          rw [Nat.zero_add] at hc
          cases heq : (nth l k == n)
          · have hins : insS l n = l.take k ++ [n] ++ l.drop k := by unfold insS; rw [hlead, heq]; simp
            have HD : StrsAt wr (some ⟨g, k, none⟩) (l.drop k) := by have h := hat.drop k; rwa [Nat.zero_add] at h
            have hck : ¬ (c = k) := by omega
            clear hcont
            go_wp2_with fail
            refine wp_region_T (fun _ => True) 12 (by kernel_rfl) trivial (fun hS => ?_)
            refine wpT_take 1 (v := ?_) rfl rfl (by kernel_rfl) (by kernel_rfl) (by kernel_rfl) (by kernel_rfl) (fun _ _ _ h => h) hS rfl (by intro w0 hw0; (try dsimp only at hw0); go_simp; try rfl) ?_
            try simp only [List.set]
            refine wpT_take 2 (v := ?_) rfl rfl (by kernel_rfl) (by kernel_rfl) (by kernel_rfl) (by kernel_rfl) (fun _ _ _ h => h) hS rfl (by intro w0 hw0; (try dsimp only at hw0); go_simp; try rfl) ?_
            try simp only [List.set]
            refine wpT_take 3 (v := ?_) rfl rfl (by kernel_rfl) (by kernel_rfl) (by kernel_rfl) (by kernel_rfl) (fun _ _ _ h => h) hS rfl (by intro w0 hw0; (try dsimp only at hw0); go_simp; try rfl) ?_
            try simp only [List.set]
            refine wpT_take 5 (v := ?_) rfl rfl (by kernel_rfl) (by kernel_rfl) (by kernel_rfl) (by kernel_rfl) (fun _ _ _ h => h) hS rfl (by intro w0 hw0; (try dsimp only at hw0); go_simp; try rfl) ?_
            try simp only [List.set]
            refine wpT_take 8 (v := ?_) rfl rfl (by kernel_rfl) (by kernel_rfl) (by kernel_rfl) (by kernel_rfl) (fun _ _ _ h => h) hS rfl (by intro w0 hw0; (try dsimp only at hw0); go_simp; try rfl) ?_
            try simp only [List.set]
            refine wpT_take 9 (v := ?_) rfl rfl (by kernel_rfl) (by kernel_rfl) (by kernel_rfl) (by kernel_rfl) (fun _ _ _ h => h) hS rfl (by intro w0 hw0; (try dsimp only at hw0); go_simp; try rfl) ?_
            try simp only [List.set]
            refine wpT_take 10 (v := ?_) rfl rfl (by kernel_rfl) (by kernel_rfl) (by kernel_rfl) (by kernel_rfl) (fun _ _ _ h => h) hS rfl (by intro w0 hw0; (try dsimp only at hw0); go_simp; try rfl) ?_
            try simp only [List.set]
            refine wpT_two 0 6 rfl rfl (by kernel_rfl) rfl rfl rfl rfl (fun K hK => ?_) (fun K hK => ?_)
            · go_simp
              refine hK.out _ _ trivial (fun hS1 => ?_)
              clear hK hS
              have hS := hS1
              clear hS1
              try clear K
              try simp only [put_some, List.set]
              refine wpT_two 4 6 rfl rfl (by kernel_rfl) rfl rfl rfl rfl (fun K hK => ?_) (fun K hK => ?_)
              · have hE0 : Ext wr (wr.drew.alloc (.cells #[] 9)) := Ext.tr (ext_drewN wr 1) (ext_alloc _ _)
                have hO0 : OwnL (wr.drew.alloc (.cells #[] 9)) wr.heap.size (.slice (some ⟨wr.heap.size, 0, none⟩) 0 0) [] := OwnL.made wr.drew wr.heap.size (Nat.le_refl _)
                refine wp_strs (L := []) (M := l.take k) _ _ rfl rfl hO0 (by rw [hlk]; rfl) (HT.out.ext hE0) (by rw [hlk]; first | (simp; done) | (simp; omega)) (by simp; try omega) (fun v' wB h2 h3 h4 => ?_)
                rw [List.nil_append] at h2
                obtain ⟨aB, cB, rfl⟩ := own_sl h2
                rw [hlk] at h2 h4 ⊢
                have hobB : ∀ g', (Value.slice aB k cB).ownBlock = some g' → wr.heap.size ≤ g' := fun g' e => by
                  rcases h4 with h4 | h4
                  · rw [h4] at e
                    have e' := Option.some.inj e
                    simp at e'
                    omega
                  · rw [h4] at e
                    have e' := Option.some.inj e
                    simp at e'
                    omega
                have hEB : Ext wr wB := hE0.grown h3 (by simp; try omega) (fun g' e => by
                  have e' := Option.some.inj e
                  simp at e'
                  omega)
                refine hK.out _ _ trivial (fun hS1 => ?_)
                clear hK hS
                have hS := hS1
                clear hS1
                try clear K
                try simp only [put_some, List.set]
                refine wpT_one 6 rfl (by kernel_rfl) rfl rfl (fun K hK => ?_)
                go_simp
                refine hK.out _ _ trivial (fun hS1 => ?_)
                clear hK hS
                have hS := hS1
                clear hS1
                try clear K
                try simp only [put_some, List.set]
                have hET : Ext wr (wB.alloc (.cells #[.string (S n)] 9)) := Ext.tr hEB (ext_alloc _ _)
                have hST := one_str' wB n hnl
                have hOT := h2.ext (ext_alloc wB (.cells #[.string (S n)] 9))
                have hzT := hET.size
                refine wpT_one 7 rfl (by kernel_rfl) rfl rfl (fun K hK => ?_)
                refine wp_strs (L := l.take k) (M := [n]) _ _ rfl rfl hOT rfl hST (by rw [hlk]; first | (simp; done) | (simp; omega)) (by omega) (fun v' wC h5 h6 h7 => ?_)
                obtain ⟨aC, cC, rfl⟩ := own_sl h5
                have hlC : (l.take k ++ [n]).length = k + 1 := by rw [List.length_append, hlk]; rfl
                rw [hlC] at h5 h7 ⊢
                have hobC : ∀ g', (Value.slice aC (k + 1) cC).ownBlock = some g' → wr.heap.size ≤ g' := fun g' e => by
                  rcases h7 with h7 | h7
                  · rw [h7] at e; exact hobB g' e
                  · rw [h7] at e
                    have e' := Option.some.inj e
                    omega
                have hEC : Ext wr wC := hET.grown h6 hzT hobB
                refine hK.out _ _ trivial (fun hS1 => ?_)
                clear hK hS
                have hS := hS1
                clear hS1
                try clear K
                try simp only [put_some, List.set]
                have hzC := hEC.size
                refine wpT_one 11 rfl (by kernel_rfl) rfl rfl (fun K hK => ?_)
                refine wp_strs (L := l.take k ++ [n]) (M := l.drop k) _ _ rfl rfl h5 (by rw [List.length_drop]; rfl) (HD.ext hEC) (by rw [hlC, List.length_drop]; omega) (by omega) (fun v' wD h8 h9 h10 => ?_)
                have hED : Ext wr wD := hEC.grown h9 hzC hobC
                refine hK.out _ _ trivial (fun hS1 => ?_)
                clear hK hS
                have hS := hS1
                clear hS1
                try clear K
                try simp only [put_some, List.set]
                have HN : Hid (OwnL wD base v' (insS l n)) := by rw [hins]; exact h8.low hbase
                have HED := hid hED
                clear h2 h3 h4 h5 h6 h7 h8 h9 h10 hEB hEC hED hET hobB hobC hOT hST hO0 hE0 HD HT hS
                refine wpT_last rfl (by kernel_rfl) (by kernel_rfl) rfl (fun K hK => ?_)
                go_simp
                refine hK.out _ _ ?_
                clear hK
                go_wp2
                go_ret
                exact ⟨_, rfl, HED.out, HN.out⟩
              · go_simp
                refine hK.out _ _ trivial (fun hS1 => ?_)
                clear hK hS
                have hS := hS1
                clear hS1
                try clear K
                try simp only [put_some, List.set]
                refine wpT_one 4 rfl (by kernel_rfl) rfl rfl (fun K hK => ?_)
                have hE0 : Ext wr ((wr.drew.alloc (.cells #[] 9)).alloc (.cells #[.string (S n)] 9)) := Ext.tr (Ext.tr (ext_drewN wr 1) (ext_alloc _ _)) (ext_alloc _ _)
                have hO0 : OwnL ((wr.drew.alloc (.cells #[] 9)).alloc (.cells #[.string (S n)] 9)) wr.heap.size (.slice (some ⟨wr.heap.size, 0, none⟩) 0 0) [] := (OwnL.made wr.drew wr.heap.size (Nat.le_refl _)).ext (ext_alloc _ _)
                have hS0 := one_str' (wr.drew.alloc (.cells #[] 9)) n hnl
                refine wp_strs (L := []) (M := l.take k) _ _ rfl rfl hO0 (by rw [hlk]; rfl) (HT.out.ext hE0) (by rw [hlk]; first | (simp; done) | (simp; omega)) (by simp; try omega) (fun v' wB h2 h3 h4 => ?_)
                rw [List.nil_append] at h2
                obtain ⟨aB, cB, rfl⟩ := own_sl h2
                rw [hlk] at h2 h4 ⊢
                have hobB : ∀ g', (Value.slice aB k cB).ownBlock = some g' → wr.heap.size ≤ g' := fun g' e => by
                  rcases h4 with h4 | h4
                  · rw [h4] at e
                    have e' := Option.some.inj e
                    simp at e'
                    omega
                  · rw [h4] at e
                    have e' := Option.some.inj e
                    simp at e'
                    omega
                have hEB : Ext wr wB := hE0.grown h3 (by simp; try omega) (fun g' e => by
                  have e' := Option.some.inj e
                  simp at e'
                  omega)
                refine hK.out _ _ trivial (fun hS1 => ?_)
                clear hK hS
                have hS := hS1
                clear hS1
                try clear K
                try simp only [put_some, List.set]
                have hET : Ext wr wB := hEB
                have hST : StrsAt wB (some ⟨wr.heap.size + 1, 0, none⟩) [n] := by
                  have h := hS0.gb h3 (fun _ b o e => by
                    cases e
                    intro er
                    have e' := Option.some.inj er
                    simp at e')
                  simpa using h
                have hOT := h2
                have hzT := hET.size
                refine wpT_one 7 rfl (by kernel_rfl) rfl rfl (fun K hK => ?_)
                refine wp_strs (L := l.take k) (M := [n]) _ _ rfl rfl hOT rfl hST (by rw [hlk]; first | (simp; done) | (simp; omega)) (by omega) (fun v' wC h5 h6 h7 => ?_)
                obtain ⟨aC, cC, rfl⟩ := own_sl h5
                have hlC : (l.take k ++ [n]).length = k + 1 := by rw [List.length_append, hlk]; rfl
                rw [hlC] at h5 h7 ⊢
                have hobC : ∀ g', (Value.slice aC (k + 1) cC).ownBlock = some g' → wr.heap.size ≤ g' := fun g' e => by
                  rcases h7 with h7 | h7
                  · rw [h7] at e; exact hobB g' e
                  · rw [h7] at e
                    have e' := Option.some.inj e
                    omega
                have hEC : Ext wr wC := hET.grown h6 hzT hobB
                refine hK.out _ _ trivial (fun hS1 => ?_)
                clear hK hS
                have hS := hS1
                clear hS1
                try clear K
                try simp only [put_some, List.set]
                have hzC := hEC.size
                refine wpT_one 11 rfl (by kernel_rfl) rfl rfl (fun K hK => ?_)
                refine wp_strs (L := l.take k ++ [n]) (M := l.drop k) _ _ rfl rfl h5 (by rw [List.length_drop]; rfl) (HD.ext hEC) (by rw [hlC, List.length_drop]; omega) (by omega) (fun v' wD h8 h9 h10 => ?_)
                have hED : Ext wr wD := hEC.grown h9 hzC hobC
                refine hK.out _ _ trivial (fun hS1 => ?_)
                clear hK hS
                have hS := hS1
                clear hS1
                try clear K
                try simp only [put_some, List.set]
                have HN : Hid (OwnL wD base v' (insS l n)) := by rw [hins]; exact h8.low hbase
                have HED := hid hED
                clear h2 h3 h4 h5 h6 h7 h8 h9 h10 hEB hEC hED hET hobB hobC hOT hST hO0 hE0 HD HT hS
                refine wpT_last rfl (by kernel_rfl) (by kernel_rfl) rfl (fun K hK => ?_)
                go_simp
                refine hK.out _ _ ?_
                clear hK
                go_wp2
                go_ret
                exact ⟨_, rfl, HED.out, HN.out⟩
            · go_simp
              refine hK.out _ _ trivial (fun hS1 => ?_)
              clear hK hS
              have hS := hS1
              clear hS1
              try clear K
              try simp only [put_some, List.set]
              refine wpT_one 0 rfl (by kernel_rfl) rfl rfl (fun K hK => ?_)
              go_simp
              refine hK.out _ _ trivial (fun hS1 => ?_)
              clear hK hS
              have hS := hS1
              clear hS1
              try clear K
              try simp only [put_some, List.set]
              refine wpT_one 4 rfl (by kernel_rfl) rfl rfl (fun K hK => ?_)
              have hE0 : Ext wr ((wr.drew.alloc (.cells #[.string (S n)] 9)).alloc (.cells #[] 9)) := Ext.tr (Ext.tr (ext_drewN wr 1) (ext_alloc _ _)) (ext_alloc _ _)
              have hO0 : OwnL ((wr.drew.alloc (.cells #[.string (S n)] 9)).alloc (.cells #[] 9)) wr.heap.size (.slice (some ⟨wr.heap.size + 1, 0, none⟩) 0 0) [] := by have h := OwnL.made (wr.drew.alloc (.cells #[.string (S n)] 9)) wr.heap.size (by simp); simpa using h
              have hS0 := (one_str' wr.drew n hnl).ext (ext_alloc (wr.drew.alloc (.cells #[.string (S n)] 9)) (.cells #[] 9))
              refine wp_strs (L := []) (M := l.take k) _ _ rfl rfl hO0 (by rw [hlk]; rfl) (HT.out.ext hE0) (by rw [hlk]; first | (simp; done) | (simp; omega)) (by simp; try omega) (fun v' wB h2 h3 h4 => ?_)
              rw [List.nil_append] at h2
              obtain ⟨aB, cB, rfl⟩ := own_sl h2
              rw [hlk] at h2 h4 ⊢
              have hobB : ∀ g', (Value.slice aB k cB).ownBlock = some g' → wr.heap.size ≤ g' := fun g' e => by
                rcases h4 with h4 | h4
                · rw [h4] at e
                  have e' := Option.some.inj e
                  simp at e'
                  omega
                · rw [h4] at e
                  have e' := Option.some.inj e
                  simp at e'
                  omega
              have hEB : Ext wr wB := hE0.grown h3 (by simp; try omega) (fun g' e => by
                have e' := Option.some.inj e
                simp at e'
                omega)
              refine hK.out _ _ trivial (fun hS1 => ?_)
              clear hK hS
              have hS := hS1
              clear hS1
              try clear K
              try simp only [put_some, List.set]
              have hET : Ext wr wB := hEB
              have hST := hS0.gb h3 (fun _ b o e => by
                cases e
                intro er
                have e' := Option.some.inj er
                simp at e')
              have hOT := h2
              have hzT := hET.size
              refine wpT_one 7 rfl (by kernel_rfl) rfl rfl (fun K hK => ?_)
              refine wp_strs (L := l.take k) (M := [n]) _ _ rfl rfl hOT rfl hST (by rw [hlk]; first | (simp; done) | (simp; omega)) (by omega) (fun v' wC h5 h6 h7 => ?_)
              obtain ⟨aC, cC, rfl⟩ := own_sl h5
              have hlC : (l.take k ++ [n]).length = k + 1 := by rw [List.length_append, hlk]; rfl
              rw [hlC] at h5 h7 ⊢
              have hobC : ∀ g', (Value.slice aC (k + 1) cC).ownBlock = some g' → wr.heap.size ≤ g' := fun g' e => by
                rcases h7 with h7 | h7
                · rw [h7] at e; exact hobB g' e
                · rw [h7] at e
                  have e' := Option.some.inj e
                  omega
              have hEC : Ext wr wC := hET.grown h6 hzT hobB
              refine hK.out _ _ trivial (fun hS1 => ?_)
              clear hK hS
              have hS := hS1
              clear hS1
              try clear K
              try simp only [put_some, List.set]
              have hzC := hEC.size
              refine wpT_one 11 rfl (by kernel_rfl) rfl rfl (fun K hK => ?_)
              refine wp_strs (L := l.take k ++ [n]) (M := l.drop k) _ _ rfl rfl h5 (by rw [List.length_drop]; rfl) (HD.ext hEC) (by rw [hlC, List.length_drop]; omega) (by omega) (fun v' wD h8 h9 h10 => ?_)
              have hED : Ext wr wD := hEC.grown h9 hzC hobC
              refine hK.out _ _ trivial (fun hS1 => ?_)
              clear hK hS
              have hS := hS1
              clear hS1
              try clear K
              try simp only [put_some, List.set]
              have HN : Hid (OwnL wD base v' (insS l n)) := by rw [hins]; exact h8.low hbase
              have HED := hid hED
              clear h2 h3 h4 h5 h6 h7 h8 h9 h10 hEB hEC hED hET hobB hobC hOT hST hO0 hE0 HD HT hS
              refine wpT_last rfl (by kernel_rfl) (by kernel_rfl) rfl (fun K hK => ?_)
              go_simp
              refine hK.out _ _ ?_
              clear hK
              go_wp2
              go_ret
              exact ⟨_, rfl, HED.out, HN.out⟩
          · have hins : insS l n = l := by unfold insS; rw [hlead, heq]; simp [hlt]
            have HE := hid (Ext.rfl' wr)
            clear hcont
            go_wp2
            go_ret
            exact ⟨_, rfl, HE.out, by rw [hins]; exact HO.out⟩
        · have hlt' : ¬ ((k : Int) < (l.length : Int)) := by omega
          have hins : insS l n = l.take k ++ [n] ++ l.drop k := by unfold insS; rw [hlead]; simp [hlt]
          have hd0 : l.drop k = [] := List.drop_eq_nil_of_le (by omega)
          clear hcont
          by_cases hck : c = k
          · subst hck
            have HD : StrsAt wr (some ⟨g, 0, none⟩) (l.drop c) := by rw [hd0]; exact StrsAt.nil _ _
            clear hd0
            go_wp2_with fail
            refine wp_region_T (fun _ => True) 12 (by kernel_rfl) trivial (fun hS => ?_)
            refine wpT_take 1 (v := ?_) rfl rfl (by kernel_rfl) (by kernel_rfl) (by kernel_rfl) (by kernel_rfl) (fun _ _ _ h => h) hS rfl (by intro w0 hw0; (try dsimp only at hw0); go_simp; try rfl) ?_
            try simp only [List.set]
            refine wpT_take 2 (v := ?_) rfl rfl (by kernel_rfl) (by kernel_rfl) (by kernel_rfl) (by kernel_rfl) (fun _ _ _ h => h) hS rfl (by intro w0 hw0; (try dsimp only at hw0); go_simp; try rfl) ?_
            try simp only [List.set]
            refine wpT_take 3 (v := ?_) rfl rfl (by kernel_rfl) (by kernel_rfl) (by kernel_rfl) (by kernel_rfl) (fun _ _ _ h => h) hS rfl (by intro w0 hw0; (try dsimp only at hw0); go_simp; try rfl) ?_
            try simp only [List.set]
            refine wpT_take 5 (v := ?_) rfl rfl (by kernel_rfl) (by kernel_rfl) (by kernel_rfl) (by kernel_rfl) (fun _ _ _ h => h) hS rfl (by intro w0 hw0; (try dsimp only at hw0); go_simp; try rfl) ?_
            try simp only [List.set]
            refine wpT_take 8 (v := ?_) rfl rfl (by kernel_rfl) (by kernel_rfl) (by kernel_rfl) (by kernel_rfl) (fun _ _ _ h => h) hS rfl (by intro w0 hw0; (try dsimp only at hw0); go_simp; try rfl) ?_
            try simp only [List.set]
            refine wpT_take 9 (v := ?_) rfl rfl (by kernel_rfl) (by kernel_rfl) (by kernel_rfl) (by kernel_rfl) (fun _ _ _ h => h) hS rfl (by intro w0 hw0; (try dsimp only at hw0); go_simp; try rfl) ?_
            try simp only [List.set]
            refine wpT_take 10 (v := ?_) rfl rfl (by kernel_rfl) (by kernel_rfl) (by kernel_rfl) (by kernel_rfl) (fun _ _ _ h => h) hS rfl (by intro w0 hw0; (try dsimp only at hw0); go_simp; try rfl) ?_
            try simp only [List.set]
            refine wpT_two 0 6 rfl rfl (by kernel_rfl) rfl rfl rfl rfl (fun K hK => ?_) (fun K hK => ?_)
            · go_simp
              refine hK.out _ _ trivial (fun hS1 => ?_)
              clear hK hS
              have hS := hS1
              clear hS1
              try clear K
              try simp only [put_some, List.set]
              refine wpT_two 4 6 rfl rfl (by kernel_rfl) rfl rfl rfl rfl (fun K hK => ?_) (fun K hK => ?_)
              · have hE0 : Ext wr (wr.drew.alloc (.cells #[] 9)) := Ext.tr (ext_drewN wr 1) (ext_alloc _ _)
                have hO0 : OwnL (wr.drew.alloc (.cells #[] 9)) wr.heap.size (.slice (some ⟨wr.heap.size, 0, none⟩) 0 0) [] := OwnL.made wr.drew wr.heap.size (Nat.le_refl _)
                refine wp_strs (L := []) (M := l.take c) _ _ rfl rfl hO0 (by rw [hlk]; rfl) (HT.out.ext hE0) (by rw [hlk]; first | (simp; done) | (simp; omega)) (by simp; try omega) (fun v' wB h2 h3 h4 => ?_)
                rw [List.nil_append] at h2
                obtain ⟨aB, cB, rfl⟩ := own_sl h2
                rw [hlk] at h2 h4 ⊢
                have hobB : ∀ g', (Value.slice aB c cB).ownBlock = some g' → wr.heap.size ≤ g' := fun g' e => by
                  rcases h4 with h4 | h4
                  · rw [h4] at e
                    have e' := Option.some.inj e
                    simp at e'
                    omega
                  · rw [h4] at e
                    have e' := Option.some.inj e
                    simp at e'
                    omega
                have hEB : Ext wr wB := hE0.grown h3 (by simp; try omega) (fun g' e => by
                  have e' := Option.some.inj e
                  simp at e'
                  omega)
                refine hK.out _ _ trivial (fun hS1 => ?_)
                clear hK hS
                have hS := hS1
                clear hS1
                try clear K
                try simp only [put_some, List.set]
                refine wpT_one 6 rfl (by kernel_rfl) rfl rfl (fun K hK => ?_)
                go_simp
                refine hK.out _ _ trivial (fun hS1 => ?_)
                clear hK hS
                have hS := hS1
                clear hS1
                try clear K
                try simp only [put_some, List.set]
                have hET : Ext wr (wB.alloc (.cells #[.string (S n)] 9)) := Ext.tr hEB (ext_alloc _ _)
                have hST := one_str' wB n hnl
                have hOT := h2.ext (ext_alloc wB (.cells #[.string (S n)] 9))
                have hzT := hET.size
                refine wpT_one 7 rfl (by kernel_rfl) rfl rfl (fun K hK => ?_)
                refine wp_strs (L := l.take c) (M := [n]) _ _ rfl rfl hOT rfl hST (by rw [hlk]; first | (simp; done) | (simp; omega)) (by omega) (fun v' wC h5 h6 h7 => ?_)
                obtain ⟨aC, cC, rfl⟩ := own_sl h5
                have hlC : (l.take c ++ [n]).length = c + 1 := by rw [List.length_append, hlk]; rfl
                rw [hlC] at h5 h7 ⊢
                have hobC : ∀ g', (Value.slice aC (c + 1) cC).ownBlock = some g' → wr.heap.size ≤ g' := fun g' e => by
                  rcases h7 with h7 | h7
                  · rw [h7] at e; exact hobB g' e
                  · rw [h7] at e
                    have e' := Option.some.inj e
                    omega
                have hEC : Ext wr wC := hET.grown h6 hzT hobB
                refine hK.out _ _ trivial (fun hS1 => ?_)
                clear hK hS
                have hS := hS1
                clear hS1
                try clear K
                try simp only [put_some, List.set]
                have hzC := hEC.size
                refine wpT_one 11 rfl (by kernel_rfl) rfl rfl (fun K hK => ?_)
                refine wp_strs (L := l.take c ++ [n]) (M := l.drop c) _ _ rfl rfl h5 (by rw [List.length_drop]; first | rfl | (rw [show l.length - c = 0 by omega]; rfl)) (HD.ext hEC) (by rw [hlC, List.length_drop]; omega) (by omega) (fun v' wD h8 h9 h10 => ?_)
                have hED : Ext wr wD := hEC.grown h9 hzC hobC
                refine hK.out _ _ trivial (fun hS1 => ?_)
                clear hK hS
                have hS := hS1
                clear hS1
                try clear K
                try simp only [put_some, List.set]
                have HN : Hid (OwnL wD base v' (insS l n)) := by rw [hins]; exact h8.low hbase
                have HED := hid hED
                clear h2 h3 h4 h5 h6 h7 h8 h9 h10 hEB hEC hED hET hobB hobC hOT hST hO0 hE0 HD HT hS
                refine wpT_last rfl (by kernel_rfl) (by kernel_rfl) rfl (fun K hK => ?_)
                go_simp
                refine hK.out _ _ ?_
                clear hK
                go_wp2
                go_ret
                exact ⟨_, rfl, HED.out, HN.out⟩
              · go_simp
                refine hK.out _ _ trivial (fun hS1 => ?_)
                clear hK hS
                have hS := hS1
                clear hS1
                try clear K
                try simp only [put_some, List.set]
                refine wpT_one 4 rfl (by kernel_rfl) rfl rfl (fun K hK => ?_)
                have hE0 : Ext wr ((wr.drew.alloc (.cells #[] 9)).alloc (.cells #[.string (S n)] 9)) := Ext.tr (Ext.tr (ext_drewN wr 1) (ext_alloc _ _)) (ext_alloc _ _)
                have hO0 : OwnL ((wr.drew.alloc (.cells #[] 9)).alloc (.cells #[.string (S n)] 9)) wr.heap.size (.slice (some ⟨wr.heap.size, 0, none⟩) 0 0) [] := (OwnL.made wr.drew wr.heap.size (Nat.le_refl _)).ext (ext_alloc _ _)
                have hS0 := one_str' (wr.drew.alloc (.cells #[] 9)) n hnl
                refine wp_strs (L := []) (M := l.take c) _ _ rfl rfl hO0 (by rw [hlk]; rfl) (HT.out.ext hE0) (by rw [hlk]; first | (simp; done) | (simp; omega)) (by simp; try omega) (fun v' wB h2 h3 h4 => ?_)
                rw [List.nil_append] at h2
                obtain ⟨aB, cB, rfl⟩ := own_sl h2
                rw [hlk] at h2 h4 ⊢
                have hobB : ∀ g', (Value.slice aB c cB).ownBlock = some g' → wr.heap.size ≤ g' := fun g' e => by
                  rcases h4 with h4 | h4
                  · rw [h4] at e
                    have e' := Option.some.inj e
                    simp at e'
                    omega
                  · rw [h4] at e
                    have e' := Option.some.inj e
                    simp at e'
                    omega
                have hEB : Ext wr wB := hE0.grown h3 (by simp; try omega) (fun g' e => by
                  have e' := Option.some.inj e
                  simp at e'
                  omega)
                refine hK.out _ _ trivial (fun hS1 => ?_)
                clear hK hS
                have hS := hS1
                clear hS1
                try clear K
                try simp only [put_some, List.set]
                have hET : Ext wr wB := hEB
                have hST : StrsAt wB (some ⟨wr.heap.size + 1, 0, none⟩) [n] := by
                  have h := hS0.gb h3 (fun _ b o e => by
                    cases e
                    intro er
                    have e' := Option.some.inj er
                    simp at e')
                  simpa using h
                have hOT := h2
                have hzT := hET.size
                refine wpT_one 7 rfl (by kernel_rfl) rfl rfl (fun K hK => ?_)
                refine wp_strs (L := l.take c) (M := [n]) _ _ rfl rfl hOT rfl hST (by rw [hlk]; first | (simp; done) | (simp; omega)) (by omega) (fun v' wC h5 h6 h7 => ?_)
                obtain ⟨aC, cC, rfl⟩ := own_sl h5
                have hlC : (l.take c ++ [n]).length = c + 1 := by rw [List.length_append, hlk]; rfl
                rw [hlC] at h5 h7 ⊢
                have hobC : ∀ g', (Value.slice aC (c + 1) cC).ownBlock = some g' → wr.heap.size ≤ g' := fun g' e => by
                  rcases h7 with h7 | h7
                  · rw [h7] at e; exact hobB g' e
                  · rw [h7] at e
                    have e' := Option.some.inj e
                    omega
                have hEC : Ext wr wC := hET.grown h6 hzT hobB
                refine hK.out _ _ trivial (fun hS1 => ?_)
                clear hK hS
                have hS := hS1
                clear hS1
                try clear K
                try simp only [put_some, List.set]
                have hzC := hEC.size
                refine wpT_one 11 rfl (by kernel_rfl) rfl rfl (fun K hK => ?_)
                refine wp_strs (L := l.take c ++ [n]) (M := l.drop c) _ _ rfl rfl h5 (by rw [List.length_drop]; first | rfl | (rw [show l.length - c = 0 by omega]; rfl)) (HD.ext hEC) (by rw [hlC, List.length_drop]; omega) (by omega) (fun v' wD h8 h9 h10 => ?_)
                have hED : Ext wr wD := hEC.grown h9 hzC hobC
                refine hK.out _ _ trivial (fun hS1 => ?_)
                clear hK hS
                have hS := hS1
                clear hS1
                try clear K
                try simp only [put_some, List.set]
                have HN : Hid (OwnL wD base v' (insS l n)) := by rw [hins]; exact h8.low hbase
                have HED := hid hED
                clear h2 h3 h4 h5 h6 h7 h8 h9 h10 hEB hEC hED hET hobB hobC hOT hST hO0 hE0 HD HT hS
                refine wpT_last rfl (by kernel_rfl) (by kernel_rfl) rfl (fun K hK => ?_)
                go_simp
                refine hK.out _ _ ?_
                clear hK
                go_wp2
                go_ret
                exact ⟨_, rfl, HED.out, HN.out⟩
            · go_simp
              refine hK.out _ _ trivial (fun hS1 => ?_)
              clear hK hS
              have hS := hS1
              clear hS1
              try clear K
              try simp only [put_some, List.set]
              refine wpT_one 0 rfl (by kernel_rfl) rfl rfl (fun K hK => ?_)
              go_simp
              refine hK.out _ _ trivial (fun hS1 => ?_)
              clear hK hS
              have hS := hS1
              clear hS1
              try clear K
              try simp only [put_some, List.set]
              refine wpT_one 4 rfl (by kernel_rfl) rfl rfl (fun K hK => ?_)
              have hE0 : Ext wr ((wr.drew.alloc (.cells #[.string (S n)] 9)).alloc (.cells #[] 9)) := Ext.tr (Ext.tr (ext_drewN wr 1) (ext_alloc _ _)) (ext_alloc _ _)
              have hO0 : OwnL ((wr.drew.alloc (.cells #[.string (S n)] 9)).alloc (.cells #[] 9)) wr.heap.size (.slice (some ⟨wr.heap.size + 1, 0, none⟩) 0 0) [] := by have h := OwnL.made (wr.drew.alloc (.cells #[.string (S n)] 9)) wr.heap.size (by simp); simpa using h
              have hS0 := (one_str' wr.drew n hnl).ext (ext_alloc (wr.drew.alloc (.cells #[.string (S n)] 9)) (.cells #[] 9))
              refine wp_strs (L := []) (M := l.take c) _ _ rfl rfl hO0 (by rw [hlk]; rfl) (HT.out.ext hE0) (by rw [hlk]; first | (simp; done) | (simp; omega)) (by simp; try omega) (fun v' wB h2 h3 h4 => ?_)
              rw [List.nil_append] at h2
              obtain ⟨aB, cB, rfl⟩ := own_sl h2
              rw [hlk] at h2 h4 ⊢
              have hobB : ∀ g', (Value.slice aB c cB).ownBlock = some g' → wr.heap.size ≤ g' := fun g' e => by
                rcases h4 with h4 | h4
                · rw [h4] at e
                  have e' := Option.some.inj e
                  simp at e'
                  omega
                · rw [h4] at e
                  have e' := Option.some.inj e
                  simp at e'
                  omega
              have hEB : Ext wr wB := hE0.grown h3 (by simp; try omega) (fun g' e => by
                have e' := Option.some.inj e
                simp at e'
                omega)
              refine hK.out _ _ trivial (fun hS1 => ?_)
              clear hK hS
              have hS := hS1
              clear hS1
              try clear K
              try simp only [put_some, List.set]
              have hET : Ext wr wB := hEB
              have hST := hS0.gb h3 (fun _ b o e => by
                cases e
                intro er
                have e' := Option.some.inj er
                simp at e')
              have hOT := h2
              have hzT := hET.size
              refine wpT_one 7 rfl (by kernel_rfl) rfl rfl (fun K hK => ?_)
              refine wp_strs (L := l.take c) (M := [n]) _ _ rfl rfl hOT rfl hST (by rw [hlk]; first | (simp; done) | (simp; omega)) (by omega) (fun v' wC h5 h6 h7 => ?_)
              obtain ⟨aC, cC, rfl⟩ := own_sl h5
              have hlC : (l.take c ++ [n]).length = c + 1 := by rw [List.length_append, hlk]; rfl
              rw [hlC] at h5 h7 ⊢
              have hobC : ∀ g', (Value.slice aC (c + 1) cC).ownBlock = some g' → wr.heap.size ≤ g' := fun g' e => by
                rcases h7 with h7 | h7
                · rw [h7] at e; exact hobB g' e
                · rw [h7] at e
                  have e' := Option.some.inj e
                  omega
              have hEC : Ext wr wC := hET.grown h6 hzT hobB
              refine hK.out _ _ trivial (fun hS1 => ?_)
              clear hK hS
              have hS := hS1
              clear hS1
              try clear K
              try simp only [put_some, List.set]
              have hzC := hEC.size
              refine wpT_one 11 rfl (by kernel_rfl) rfl rfl (fun K hK => ?_)
              refine wp_strs (L := l.take c ++ [n]) (M := l.drop c) _ _ rfl rfl h5 (by rw [List.length_drop]; first | rfl | (rw [show l.length - c = 0 by omega]; rfl)) (HD.ext hEC) (by rw [hlC, List.length_drop]; omega) (by omega) (fun v' wD h8 h9 h10 => ?_)
              have hED : Ext wr wD := hEC.grown h9 hzC hobC
              refine hK.out _ _ trivial (fun hS1 => ?_)
              clear hK hS
              have hS := hS1
              clear hS1
              try clear K
              try simp only [put_some, List.set]
              have HN : Hid (OwnL wD base v' (insS l n)) := by rw [hins]; exact h8.low hbase
              have HED := hid hED
              clear h2 h3 h4 h5 h6 h7 h8 h9 h10 hEB hEC hED hET hobB hobC hOT hST hO0 hE0 HD HT hS
              refine wpT_last rfl (by kernel_rfl) (by kernel_rfl) rfl (fun K hK => ?_)
              go_simp
              refine hK.out _ _ ?_
              clear hK
              go_wp2
              go_ret
              exact ⟨_, rfl, HED.out, HN.out⟩
          · have HD : StrsAt wr (some ⟨g, k, none⟩) (l.drop k) := by rw [hd0]; exact StrsAt.nil _ _
            clear hd0
            go_wp2_with fail
            refine wp_region_T (fun _ => True) 12 (by kernel_rfl) trivial (fun hS => ?_)
            refine wpT_take 1 (v := ?_) rfl rfl (by kernel_rfl) (by kernel_rfl) (by kernel_rfl) (by kernel_rfl) (fun _ _ _ h => h) hS rfl (by intro w0 hw0; (try dsimp only at hw0); go_simp; try rfl) ?_
            try simp only [List.set]
            refine wpT_take 2 (v := ?_) rfl rfl (by kernel_rfl) (by kernel_rfl) (by kernel_rfl) (by kernel_rfl) (fun _ _ _ h => h) hS rfl (by intro w0 hw0; (try dsimp only at hw0); go_simp; try rfl) ?_
            try simp only [List.set]
            refine wpT_take 3 (v := ?_) rfl rfl (by kernel_rfl) (by kernel_rfl) (by kernel_rfl) (by kernel_rfl) (fun _ _ _ h => h) hS rfl (by intro w0 hw0; (try dsimp only at hw0); go_simp; try rfl) ?_
            try simp only [List.set]
            refine wpT_take 5 (v := ?_) rfl rfl (by kernel_rfl) (by kernel_rfl) (by kernel_rfl) (by kernel_rfl) (fun _ _ _ h => h) hS rfl (by intro w0 hw0; (try dsimp only at hw0); go_simp; try rfl) ?_
            try simp only [List.set]
            refine wpT_take 8 (v := ?_) rfl rfl (by kernel_rfl) (by kernel_rfl) (by kernel_rfl) (by kernel_rfl) (fun _ _ _ h => h) hS rfl (by intro w0 hw0; (try dsimp only at hw0); go_simp; try rfl) ?_
            try simp only [List.set]
            refine wpT_take 9 (v := ?_) rfl rfl (by kernel_rfl) (by kernel_rfl) (by kernel_rfl) (by kernel_rfl) (fun _ _ _ h => h) hS rfl (by intro w0 hw0; (try dsimp only at hw0); go_simp; try rfl) ?_
            try simp only [List.set]
            refine wpT_take 10 (v := ?_) rfl rfl (by kernel_rfl) (by kernel_rfl) (by kernel_rfl) (by kernel_rfl) (fun _ _ _ h => h) hS rfl (by intro w0 hw0; (try dsimp only at hw0); go_simp; try rfl) ?_
            try simp only [List.set]
            refine wpT_two 0 6 rfl rfl (by kernel_rfl) rfl rfl rfl rfl (fun K hK => ?_) (fun K hK => ?_)
            · go_simp
              refine hK.out _ _ trivial (fun hS1 => ?_)
              clear hK hS
              have hS := hS1
              clear hS1
              try clear K
              try simp only [put_some, List.set]
              refine wpT_two 4 6 rfl rfl (by kernel_rfl) rfl rfl rfl rfl (fun K hK => ?_) (fun K hK => ?_)
              · have hE0 : Ext wr (wr.drew.alloc (.cells #[] 9)) := Ext.tr (ext_drewN wr 1) (ext_alloc _ _)
                have hO0 : OwnL (wr.drew.alloc (.cells #[] 9)) wr.heap.size (.slice (some ⟨wr.heap.size, 0, none⟩) 0 0) [] := OwnL.made wr.drew wr.heap.size (Nat.le_refl _)
                refine wp_strs (L := []) (M := l.take k) _ _ rfl rfl hO0 (by rw [hlk]; rfl) (HT.out.ext hE0) (by rw [hlk]; first | (simp; done) | (simp; omega)) (by simp; try omega) (fun v' wB h2 h3 h4 => ?_)
                rw [List.nil_append] at h2
                obtain ⟨aB, cB, rfl⟩ := own_sl h2
                rw [hlk] at h2 h4 ⊢
                have hobB : ∀ g', (Value.slice aB k cB).ownBlock = some g' → wr.heap.size ≤ g' := fun g' e => by
                  rcases h4 with h4 | h4
                  · rw [h4] at e
                    have e' := Option.some.inj e
                    simp at e'
                    omega
                  · rw [h4] at e
                    have e' := Option.some.inj e
                    simp at e'
                    omega
                have hEB : Ext wr wB := hE0.grown h3 (by simp; try omega) (fun g' e => by
                  have e' := Option.some.inj e
                  simp at e'
                  omega)
                refine hK.out _ _ trivial (fun hS1 => ?_)
                clear hK hS
                have hS := hS1
                clear hS1
                try clear K
                try simp only [put_some, List.set]
                refine wpT_one 6 rfl (by kernel_rfl) rfl rfl (fun K hK => ?_)
                go_simp
                refine hK.out _ _ trivial (fun hS1 => ?_)
                clear hK hS
                have hS := hS1
                clear hS1
                try clear K
                try simp only [put_some, List.set]
                have hET : Ext wr (wB.alloc (.cells #[.string (S n)] 9)) := Ext.tr hEB (ext_alloc _ _)
                have hST := one_str' wB n hnl
                have hOT := h2.ext (ext_alloc wB (.cells #[.string (S n)] 9))
                have hzT := hET.size
                refine wpT_one 7 rfl (by kernel_rfl) rfl rfl (fun K hK => ?_)
                refine wp_strs (L := l.take k) (M := [n]) _ _ rfl rfl hOT rfl hST (by rw [hlk]; first | (simp; done) | (simp; omega)) (by omega) (fun v' wC h5 h6 h7 => ?_)
                obtain ⟨aC, cC, rfl⟩ := own_sl h5
                have hlC : (l.take k ++ [n]).length = k + 1 := by rw [List.length_append, hlk]; rfl
                rw [hlC] at h5 h7 ⊢
                have hobC : ∀ g', (Value.slice aC (k + 1) cC).ownBlock = some g' → wr.heap.size ≤ g' := fun g' e => by
                  rcases h7 with h7 | h7
                  · rw [h7] at e; exact hobB g' e
                  · rw [h7] at e
                    have e' := Option.some.inj e
                    omega
                have hEC : Ext wr wC := hET.grown h6 hzT hobB
                refine hK.out _ _ trivial (fun hS1 => ?_)
                clear hK hS
                have hS := hS1
                clear hS1
                try clear K
                try simp only [put_some, List.set]
                have hzC := hEC.size
                refine wpT_one 11 rfl (by kernel_rfl) rfl rfl (fun K hK => ?_)
                refine wp_strs (L := l.take k ++ [n]) (M := l.drop k) _ _ rfl rfl h5 (by rw [List.length_drop]; first | rfl | (rw [show l.length - k = 0 by omega]; rfl)) (HD.ext hEC) (by rw [hlC, List.length_drop]; omega) (by omega) (fun v' wD h8 h9 h10 => ?_)
                have hED : Ext wr wD := hEC.grown h9 hzC hobC
                refine hK.out _ _ trivial (fun hS1 => ?_)
                clear hK hS
                have hS := hS1
                clear hS1
                try clear K
                try simp only [put_some, List.set]
                have HN : Hid (OwnL wD base v' (insS l n)) := by rw [hins]; exact h8.low hbase
                have HED := hid hED
                clear h2 h3 h4 h5 h6 h7 h8 h9 h10 hEB hEC hED hET hobB hobC hOT hST hO0 hE0 HD HT hS
                refine wpT_last rfl (by kernel_rfl) (by kernel_rfl) rfl (fun K hK => ?_)
                go_simp
                refine hK.out _ _ ?_
                clear hK
                go_wp2
                go_ret
                exact ⟨_, rfl, HED.out, HN.out⟩
              · go_simp
                refine hK.out _ _ trivial (fun hS1 => ?_)
                clear hK hS
                have hS := hS1
                clear hS1
                try clear K
                try simp only [put_some, List.set]
                refine wpT_one 4 rfl (by kernel_rfl) rfl rfl (fun K hK => ?_)
                have hE0 : Ext wr ((wr.drew.alloc (.cells #[] 9)).alloc (.cells #[.string (S n)] 9)) := Ext.tr (Ext.tr (ext_drewN wr 1) (ext_alloc _ _)) (ext_alloc _ _)
                have hO0 : OwnL ((wr.drew.alloc (.cells #[] 9)).alloc (.cells #[.string (S n)] 9)) wr.heap.size (.slice (some ⟨wr.heap.size, 0, none⟩) 0 0) [] := (OwnL.made wr.drew wr.heap.size (Nat.le_refl _)).ext (ext_alloc _ _)
                have hS0 := one_str' (wr.drew.alloc (.cells #[] 9)) n hnl
                refine wp_strs (L := []) (M := l.take k) _ _ rfl rfl hO0 (by rw [hlk]; rfl) (HT.out.ext hE0) (by rw [hlk]; first | (simp; done) | (simp; omega)) (by simp; try omega) (fun v' wB h2 h3 h4 => ?_)
                rw [List.nil_append] at h2
                obtain ⟨aB, cB, rfl⟩ := own_sl h2
                rw [hlk] at h2 h4 ⊢
                have hobB : ∀ g', (Value.slice aB k cB).ownBlock = some g' → wr.heap.size ≤ g' := fun g' e => by
                  rcases h4 with h4 | h4
                  · rw [h4] at e
                    have e' := Option.some.inj e
                    simp at e'
                    omega
                  · rw [h4] at e
                    have e' := Option.some.inj e
                    simp at e'
                    omega
                have hEB : Ext wr wB := hE0.grown h3 (by simp; try omega) (fun g' e => by
                  have e' := Option.some.inj e
                  simp at e'
                  omega)
                refine hK.out _ _ trivial (fun hS1 => ?_)
                clear hK hS
                have hS := hS1
                clear hS1
                try clear K
                try simp only [put_some, List.set]
                have hET : Ext wr wB := hEB
                have hST : StrsAt wB (some ⟨wr.heap.size + 1, 0, none⟩) [n] := by
                  have h := hS0.gb h3 (fun _ b o e => by
                    cases e
                    intro er
                    have e' := Option.some.inj er
                    simp at e')
                  simpa using h
                have hOT := h2
                have hzT := hET.size
                refine wpT_one 7 rfl (by kernel_rfl) rfl rfl (fun K hK => ?_)
                refine wp_strs (L := l.take k) (M := [n]) _ _ rfl rfl hOT rfl hST (by rw [hlk]; first | (simp; done) | (simp; omega)) (by omega) (fun v' wC h5 h6 h7 => ?_)
                obtain ⟨aC, cC, rfl⟩ := own_sl h5
                have hlC : (l.take k ++ [n]).length = k + 1 := by rw [List.length_append, hlk]; rfl
                rw [hlC] at h5 h7 ⊢
                have hobC : ∀ g', (Value.slice aC (k + 1) cC).ownBlock = some g' → wr.heap.size ≤ g' := fun g' e => by
                  rcases h7 with h7 | h7
                  · rw [h7] at e; exact hobB g' e
                  · rw [h7] at e
                    have e' := Option.some.inj e
                    omega
                have hEC : Ext wr wC := hET.grown h6 hzT hobB
                refine hK.out _ _ trivial (fun hS1 => ?_)
                clear hK hS
                have hS := hS1
                clear hS1
                try clear K
                try simp only [put_some, List.set]
                have hzC := hEC.size
                refine wpT_one 11 rfl (by kernel_rfl) rfl rfl (fun K hK => ?_)
                refine wp_strs (L := l.take k ++ [n]) (M := l.drop k) _ _ rfl rfl h5 (by rw [List.length_drop]; first | rfl | (rw [show l.length - k = 0 by omega]; rfl)) (HD.ext hEC) (by rw [hlC, List.length_drop]; omega) (by omega) (fun v' wD h8 h9 h10 => ?_)
                have hED : Ext wr wD := hEC.grown h9 hzC hobC
                refine hK.out _ _ trivial (fun hS1 => ?_)
                clear hK hS
                have hS := hS1
                clear hS1
                try clear K
                try simp only [put_some, List.set]
                have HN : Hid (OwnL wD base v' (insS l n)) := by rw [hins]; exact h8.low hbase
                have HED := hid hED
                clear h2 h3 h4 h5 h6 h7 h8 h9 h10 hEB hEC hED hET hobB hobC hOT hST hO0 hE0 HD HT hS
                refine wpT_last rfl (by kernel_rfl) (by kernel_rfl) rfl (fun K hK => ?_)
                go_simp
                refine hK.out _ _ ?_
                clear hK
                go_wp2
                go_ret
                exact ⟨_, rfl, HED.out, HN.out⟩
            · go_simp
              refine hK.out _ _ trivial (fun hS1 => ?_)
              clear hK hS
              have hS := hS1
              clear hS1
              try clear K
              try simp only [put_some, List.set]
              refine wpT_one 0 rfl (by kernel_rfl) rfl rfl (fun K hK => ?_)
              go_simp
              refine hK.out _ _ trivial (fun hS1 => ?_)
              clear hK hS
              have hS := hS1
              clear hS1
              try clear K
              try simp only [put_some, List.set]
              refine wpT_one 4 rfl (by kernel_rfl) rfl rfl (fun K hK => ?_)
              have hE0 : Ext wr ((wr.drew.alloc (.cells #[.string (S n)] 9)).alloc (.cells #[] 9)) := Ext.tr (Ext.tr (ext_drewN wr 1) (ext_alloc _ _)) (ext_alloc _ _)
              have hO0 : OwnL ((wr.drew.alloc (.cells #[.string (S n)] 9)).alloc (.cells #[] 9)) wr.heap.size (.slice (some ⟨wr.heap.size + 1, 0, none⟩) 0 0) [] := by have h := OwnL.made (wr.drew.alloc (.cells #[.string (S n)] 9)) wr.heap.size (by simp); simpa using h
              have hS0 := (one_str' wr.drew n hnl).ext (ext_alloc (wr.drew.alloc (.cells #[.string (S n)] 9)) (.cells #[] 9))
              refine wp_strs (L := []) (M := l.take k) _ _ rfl rfl hO0 (by rw [hlk]; rfl) (HT.out.ext hE0) (by rw [hlk]; first | (simp; done) | (simp; omega)) (by simp; try omega) (fun v' wB h2 h3 h4 => ?_)
              rw [List.nil_append] at h2
              obtain ⟨aB, cB, rfl⟩ := own_sl h2
              rw [hlk] at h2 h4 ⊢
              have hobB : ∀ g', (Value.slice aB k cB).ownBlock = some g' → wr.heap.size ≤ g' := fun g' e => by
                rcases h4 with h4 | h4
                · rw [h4] at e
                  have e' := Option.some.inj e
                  simp at e'
                  omega
                · rw [h4] at e
                  have e' := Option.some.inj e
                  simp at e'
                  omega
              have hEB : Ext wr wB := hE0.grown h3 (by simp; try omega) (fun g' e => by
                have e' := Option.some.inj e
                simp at e'
                omega)
              refine hK.out _ _ trivial (fun hS1 => ?_)
              clear hK hS
              have hS := hS1
              clear hS1
              try clear K
              try simp only [put_some, List.set]
              have hET : Ext wr wB := hEB
              have hST := hS0.gb h3 (fun _ b o e => by
                cases e
                intro er
                have e' := Option.some.inj er
                simp at e')
              have hOT := h2
              have hzT := hET.size
              refine wpT_one 7 rfl (by kernel_rfl) rfl rfl (fun K hK => ?_)
              refine wp_strs (L := l.take k) (M := [n]) _ _ rfl rfl hOT rfl hST (by rw [hlk]; first | (simp; done) | (simp; omega)) (by omega) (fun v' wC h5 h6 h7 => ?_)
              obtain ⟨aC, cC, rfl⟩ := own_sl h5
              have hlC : (l.take k ++ [n]).length = k + 1 := by rw [List.length_append, hlk]; rfl
              rw [hlC] at h5 h7 ⊢
              have hobC : ∀ g', (Value.slice aC (k + 1) cC).ownBlock = some g' → wr.heap.size ≤ g' := fun g' e => by
                rcases h7 with h7 | h7
                · rw [h7] at e; exact hobB g' e
                · rw [h7] at e
                  have e' := Option.some.inj e
                  omega
              have hEC : Ext wr wC := hET.grown h6 hzT hobB
              refine hK.out _ _ trivial (fun hS1 => ?_)
              clear hK hS
              have hS := hS1
              clear hS1
              try clear K
              try simp only [put_some, List.set]
              have hzC := hEC.size
              refine wpT_one 11 rfl (by kernel_rfl) rfl rfl (fun K hK => ?_)
              refine wp_strs (L := l.take k ++ [n]) (M := l.drop k) _ _ rfl rfl h5 (by rw [List.length_drop]; first | rfl | (rw [show l.length - k = 0 by omega]; rfl)) (HD.ext hEC) (by rw [hlC, List.length_drop]; omega) (by omega) (fun v' wD h8 h9 h10 => ?_)
              have hED : Ext wr wD := hEC.grown h9 hzC hobC
              refine hK.out _ _ trivial (fun hS1 => ?_)
              clear hK hS
              have hS := hS1
              clear hS1
              try clear K
              try simp only [put_some, List.set]
              have HN : Hid (OwnL wD base v' (insS l n)) := by rw [hins]; exact h8.low hbase
              have HED := hid hED
              clear h2 h3 h4 h5 h6 h7 h8 h9 h10 hEB hEC hED hET hobB hobC hOT hST hO0 hE0 HD HT hS
              refine wpT_last rfl (by kernel_rfl) (by kernel_rfl) rfl (fun K hK => ?_)
              go_simp
              refine hK.out _ _ ?_
              clear hK
              go_wp2
              go_ret
              exact ⟨_, rfl, HED.out, HN.out⟩
end Go.Proofs.YtdafpnpfcmgfcabGreatDoor
