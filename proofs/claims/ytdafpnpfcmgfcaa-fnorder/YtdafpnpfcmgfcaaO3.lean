/- The walk over DrawShareFits. -/
import Derived.Test.YtdafpnpfcmgfcaaO2
namespace Go.Proofs.Ytdafpnpfcmgfcaa
open Go.RowKit
attribute [local go_sem] S_toList S_size S_get

def wordsF : List Str := [[], [97, 108, 101], [122, 122]]
theorem wordsF_short : ShortS wordsF := ⟨by simp [wordsF], fun i hi => by
  match i, hi with
  | 0, _ => simp [wordsF, nth]
  | 1, _ => simp [wordsF, nth]
  | 2, _ => simp [wordsF, nth]⟩
theorem ShortL.app {l m : List Str} (h1 : ShortL l) (h2 : ShortL m) : ShortL (l ++ m) := by
  rw [short_iff] at *
  intro x hx
  rcases List.mem_append.1 hx with h | h
  · exact h1 x h
  · exact h2 x h
theorem ShortL.part {l m : List Str} (h : ShortL l) (hs : ∀ x ∈ m, x ∈ l) : ShortL m := by
  rw [short_iff] at *
  exact fun x hx => h x (hs x hx)

theorem greedy_mem {b : Book} : ∀ (m : Nat) (gone L : List Str), greedy b m gone = some L → ∀ x ∈ L, x ∈ gone ∨ ∃ i, i < b.batches.length ∧ x = (b.at i).name
  | 0, gone, L, h, x, hx => by
    simp [greedy] at h; subst h
    exact Or.inl hx
  | m + 1, gone, L, h, x, hx => by
    cases hn : nextOf b gone with
    | none => rw [greedy_none hn] at h; cases h
    | some p =>
      rw [greedy_some hn] at h
      rcases greedy_mem m _ L h x hx with h1 | h1
      · rcases List.mem_append.1 h1 with h2 | h2
        · exact Or.inl h2
        · simp at h2
          exact Or.inr ⟨p, nextOf_lt hn, h2⟩
      · exact Or.inr h1
theorem orderL_le (b : Book) : (orderL b).length ≤ b.batches.length := by
  cases hg : orderOf b with
  | none => simp [orderL, hg]
  | some L =>
    have hs : safeB b = true := by simp [safeB, hg]
    have := (fits_parts (order_fits hs)).2.1
    omega
theorem orderL_short {w : World} {a1 a2 : Option Addr} {b : Book} (h : BookAt w a1 a2 b) : ShortL (orderL b) := by
  rw [short_iff]
  intro x hx
  cases hg : orderOf b with
  | none => simp [orderL, hg] at hx
  | some L =>
    have e : orderL b = L := by simp [orderL, hg]
    rw [e] at hx
    have hok : bookOk b = true := safe_ok (by simp [safeB, hg])
    have hg' : greedy b b.batches.length [] = some L := by simpa [orderOf, hok] using hg
    rcases greedy_mem _ _ L hg' x hx with h1 | ⟨i, hi, rfl⟩
    · simp at h1
    · exact name_le h.2 hi

set_option maxRecDepth 100000 in
set_option maxHeartbeats 1000000 in
theorem drawFits_any (a : Option Addr) (n c : Nat) (w : World) (h : BytesAt w a n) (hn : n ≤ c) (hc : c ≤ 140737488355328) :
    Calls Try.prog 18 #[.slice a n c] w fun e w' =>
      ∃ (b : Book) (L : List Str) (x1 x2 x3 : Option Addr) (y1 y2 y3 : Nat), e = .returned (.tuple #[.agg #[.slice x1 b.things.length y1, .slice x2 b.batches.length y2], .slice x3 L.length y3]) ∧ Ext w w' ∧ BookAt w' x1 x2 b ∧ StrsAt w' x3 L ∧ L.length ≤ y3 ∧ SmB9 b := by
  have hby : BytesAt (w.alloc (.cells #[.slice none 0 0, .slice none 0 0] 26)) a n := h.gb (gb_none (ext_alloc _ _)) (fun b o e hp => by simp)
  go_enter Try.func18, Try.ntmps18
  go_wp2_with fail
  refine (l1Open_any a n c _ hby hn hc).mono ?_
  rintro e w1 ⟨rfl, hE1, hr1⟩
  have hz1 := hr1.lt
  simp at hr1 hz1
  have HRR : Hid (Rec w1 w.heap.size 26 [.slice none 0 0, .slice none 0 0]) := (Rec.new w _ _).ext hE1
  have HE1 := hid (Ext.tr (ext_alloc _ _) hE1)
  clear hE1
  go_wp2_with fail
  refine (l5Any_any (w.heap.size + 1) 0 w1 hr1 (by omega)).mono ?_
  rintro e w2 ⟨b, x1, x2, y1, y2, rfl, hg2, hr2, hb2, hsm⟩
  have hz2 := hg2.size
  have HE2 := hid (Ext.tr (on_new HE1.out (by omega) hg2) (ext_alloc w2 (.cells #[.slice x1 b.things.length y1, .slice x2 b.batches.length y2] 26)))
  have HRR2 := hid ((HRR.out.kept hg2 (by simp)).ext (ext_alloc w2 (.cells #[.slice x1 b.things.length y1, .slice x2 b.batches.length y2] 26)))
  have HB2 := hid (hb2.ext (ext_alloc w2 (.cells #[.slice x1 b.things.length y1, .slice x2 b.batches.length y2] 26)))
  have HRd2 := hid (hr2.ext (ext_alloc w2 (.cells #[.slice x1 b.things.length y1, .slice x2 b.batches.length y2] 26)))
  have HRX2 : Hid (Rec (w2.alloc (.cells #[.slice x1 b.things.length y1, .slice x2 b.batches.length y2] 26)) w2.heap.size 26 [.slice x1 b.things.length y1, .slice x2 b.batches.length y2]) := Rec.new w2 _ _
  clear hg2 hr2 hb2 HRR HE1 hr1
  have m0 := HRX2.out.cell (i := 0) rfl
  have m1 := HRX2.out.cell (i := 1) rfl
  go_wp2_with fail
  clear m0 m1
  generalize w2.alloc (.cells #[.slice x1 b.things.length y1, .slice x2 b.batches.length y2] 26) = w4 at HE2 HRR2 HB2 HRd2 HRX2 ⊢
  have hXw : w.heap.size + 1 + 1 ≤ w2.heap.size := by omega
  generalize w2.heap.size = X at HRX2 hXw ⊢
  have hX4 := HRX2.out.lt
  have hb7 := hsm.2.1
  refine (specOrder_own b _ _ _ _ _ HB2.out).mono ?_
  rintro e w5 ⟨v5, rfl, hE5, ho5⟩
  obtain ⟨a5, c5, rfl⟩ := own_sl ho5
  have hso : ShortL (orderL b) := orderL_short HB2.out
  have hlo : (orderL b).length ≤ 7 := Nat.le_trans (orderL_le b) hb7
  have HO5 := hid ho5
  have HG5 : Hid (w4.grownBy w5 (some (w.heap.size + 1))) := gb_ext hE5 _
  have HR5 := hid (HRd2.out.ext hE5)
  clear ho5 hE5
  generalize orderL b = L5 at hso hlo HO5 ⊢
  generalize safeB b = sb
  go_upto_region 4 with fail
  go_cut [6, 25] (fun s6 v wx => (s6 = .slice a5 L5.length c5 ∧ ∃ x : Bool, v = .bool x) ∧ w4.grownBy wx (some (w.heap.size + 1)) ∧ Rd wx (w.heap.size + 1) 3101 ∧ OwnL wx w4.heap.size (.slice a5 L5.length c5) L5)
  case first =>
    cases sb
    · go_wp2_with fail
      go_meet
      exact ⟨⟨rfl, _, rfl⟩, HG5.out, HR5.out.mono (by omega), HO5.out⟩
    · go_wp2_with fail
      refine (pick_any (w.heap.size + 1) (0 + 3100) 2 _ HR5.out (by omega) (by omega) (by omega)).mono ?_
      rintro e w6 ⟨j, rfl, hj, hg6, hr6⟩
      have HG6 := hid (gb_tr HG5.out hg6)
      have HR6 := hid hr6
      have HO6 := hid (HO5.out.far hg6 (fun k e => by cases e; omega))
      clear hg6 hr6
      go_wp2_with fail
      go_meet
      exact ⟨⟨rfl, _, rfl⟩, HG6.out, HR6.out.mono (by omega), HO6.out⟩
  case rest =>
    obtain ⟨⟨rfl, x, rfl⟩, hg, hr, ho⟩ := hcut
    have HG := hid hg
    have HR := hid hr
    have HO := hid ho
    clear hg hr ho HG5 HR5 HO5
    go_upto_if 25 with fail
    go_cut [6] (fun v wx => ∃ L : List Str, w4.grownBy wx (some (w.heap.size + 1)) ∧ Rd wx (w.heap.size + 1) 3120 ∧ OwnL wx w4.heap.size v L ∧ ShortL L ∧ L.length ≤ 7)
    case first =>
      cases x
      · go_wp2_with fail
        go_meet
        exact ⟨L5, HG.out, HR.out.mono (by omega), HO.out, hso, hlo⟩
      · go_wp2_with fail
        have HM0 : Hid (OwnL (wc.alloc (.cells #[] 9)) w4.heap.size (.slice (some ⟨wc.heap.size, 0, none⟩) 0 0) []) := OwnL.made wc w4.heap.size (by have := HG.out.size; omega)
        have HGm := hid (gb_tr HG.out (gb_ext (ext_alloc wc (.cells #[] 9)) _))
        have HRm := hid (HR.out.ext (ext_alloc wc (.cells #[] 9)))
        generalize wc.alloc (.cells #[] 9) = wd at HM0 HGm HRm ⊢
        clear HG HR HO
        go_loopw [6, 8] (fun v i wr => ∃ (m : Nat) (L : List Str), m ≤ b.batches.length ∧ i = .int .i64 m ∧ w4.grownBy wr (some (w.heap.size + 1)) ∧ Rd wr (w.heap.size + 1) (3101 + m) ∧ OwnL wr w4.heap.size v L ∧ ShortL L ∧ L.length = m) (fun _ i _ => b.batches.length - (intOf i).toNat)
        case atStart => exact ⟨0, [], Nat.zero_le _, rfl, HGm.out, HRm.out, HM0.out, short_iff.2 (fun x hx => by simp at hx), rfl⟩
        case round =>
          obtain ⟨m, L, hm, rfl, hg, hr, ho, hsl, hlm⟩ := hrel
          obtain ⟨aL, cL, rfl⟩ := own_sl ho
          have HGl := hid hg
          have HRl := hid hr
          have HOl := hid ho
          have HLM := hid hlm
          have hl7 : L.length ≤ 7 := by omega
          have q1 := (HRX2.out.kept hg (by simp; omega)).cell (i := 1) rfl
          clear hg hr ho hlm
          by_cases hlt : m < b.batches.length
          · go_wp2_with fail
            have hp := pick_any (w.heap.size + 1) (3101 + m) (L.length + 1) _ HRl.out (by omega) (by omega) (by omega)
            rw [Int.natCast_add] at hp
            refine hp.mono ?_
            clear hp
            rintro e w6 ⟨k, rfl, hk, hg6, hr6⟩
            have hkl : k ≤ L.length := by omega
            have HG6 := hid (gb_tr HGl.out hg6)
            have HR6 := hid hr6
            have HO6 := hid (HOl.out.far hg6 (fun k e => by cases e; omega))
            clear hg6 hr6 q1 hk
            obtain ⟨ba, oa, ex2, hln, d1, g1, d2, g2, z0, z1, z2, s1, s2⟩ := (HB2.out.on HRd2.out HG6.out).2.2 m hlt
            have q1 := (HRX2.out.kept HG6.out (by simp; omega)).cell (i := 1) rfl
            subst ex2
            clear z1 z2 s1 s2
            generalize (nthB b.batches m).name = nm at hln z0
            obtain ⟨a', c', ea, hat⟩ := HO6.out.at (by omega) hsl
            simp only [Value.slice.injEq] at ea
            obtain ⟨rfl, _, rfl⟩ := ea
            have hsh := HO6.out.shape
            have hlk : (L.take k).length = k := by rw [List.length_take]; omega
            have HT := hid (hat.take k)
            have hz6 : w4.heap.size ≤ w6.heap.size := HG6.out.size
            have hsN : ShortL (L.take k ++ [nm] ++ L.drop k) := (ShortL.app (hsl.part (fun x hx => List.mem_of_mem_take hx)) (short_iff.2 (fun x hx => by simp at hx; subst hx; exact hln))).app (hsl.part (fun x hx => List.mem_of_mem_drop hx))
            have HLN : Hid ((L.take k ++ [nm] ++ L.drop k).length = m + 1) := by
              show _ = _
              have := HLM.out
              simp only [List.length_append, List.length_take, List.length_drop, List.length_cons, List.length_nil]; omega
            rcases hsh with ⟨e, h0⟩ | ⟨g, cap, e, hgb, hcap, hcm, _⟩
            · simp only [Value.slice.injEq] at e
              obtain ⟨rfl, _, rfl⟩ := e
              have hk0 : k = 0 := by omega
              subst hk0
              have HD : StrsAt w6 none (L.drop 0) := by rw [List.drop_zero]; exact hat
              go_wp2_with fail
              refine wp_region_T (fun w' => w'.cell? ⟨X, 1, none⟩ = some (.slice (some ⟨ba, oa, none⟩) b.batches.length y2) ∧ w'.cell? ⟨ba, oa + m * 3, none⟩ = some (.string (S nm))) 17 (by kernel_rfl) ⟨q1, z0⟩ (fun hS => ?_)
              refine wpT_take 1 (v := ?_) rfl rfl (by kernel_rfl) (by kernel_rfl) (by kernel_rfl) (by kernel_rfl) (fun _ _ _ h => h) hS rfl (by intro w0 hw0; (try dsimp only at hw0); go_simp; try rfl) ?_
              try simp only [List.set]
              refine wpT_take 2 (v := ?_) rfl rfl (by kernel_rfl) (by kernel_rfl) (by kernel_rfl) (by kernel_rfl) (fun _ _ _ h => h) hS rfl (by intro w0 hw0; (try dsimp only at hw0); go_simp; try rfl) ?_
              try simp only [List.set]
              refine wpT_take 3 (v := ?_) rfl rfl (by kernel_rfl) (by kernel_rfl) (by kernel_rfl) (by kernel_rfl) (fun _ _ _ h => h) hS rfl (by intro w0 hw0; (try dsimp only at hw0); go_simp; try rfl) ?_
              try simp only [List.set]
              refine wpT_take 5 (v := ?_) rfl rfl (by kernel_rfl) (by kernel_rfl) (by kernel_rfl) (by kernel_rfl) (fun _ _ _ h => h) hS rfl (by intro w0 hw0; (try dsimp only at hw0); go_simp; try rfl) ?_
              try simp only [List.set]
              refine wpT_take 6 (v := ?_) rfl rfl (by kernel_rfl) (by kernel_rfl) (by kernel_rfl) (by kernel_rfl) (fun _ _ _ h => h) hS rfl (by intro w0 hw0; (try dsimp only at hw0); go_simp; try rfl) ?_
              try simp only [List.set]
              refine wpT_take 7 (v := ?_) rfl rfl (by kernel_rfl) (by kernel_rfl) (by kernel_rfl) (by kernel_rfl) (fun _ _ _ h => h) hS rfl (by intro w0 hw0; (try dsimp only at hw0); go_simp; try rfl) ?_
              try simp only [List.set]
              refine wpT_take 8 (v := ?_) rfl rfl (by kernel_rfl) (by kernel_rfl) (by kernel_rfl) (by kernel_rfl) (fun _ _ _ h => h) hS rfl (by intro w0 hw0; (try dsimp only at hw0); go_simp; try rfl) ?_
              try simp only [List.set]
              refine wpT_take 9 (v := ?_) rfl rfl (by kernel_rfl) (by kernel_rfl) (by kernel_rfl) (by kernel_rfl) (fun _ _ _ h => h) hS rfl (by intro w0 hw0; (try dsimp only at hw0); go_simp; try rfl) ?_
              try simp only [List.set]
              refine wpT_take 10 (v := ?_) rfl rfl (by kernel_rfl) (by kernel_rfl) (by kernel_rfl) (by kernel_rfl) (fun _ _ _ h => h) hS rfl (by intro w0 hw0; (try dsimp only at hw0); go_simp; try rfl) ?_
              try simp only [List.set]
              refine wpT_take 13 (v := ?_) rfl rfl (by kernel_rfl) (by kernel_rfl) (by kernel_rfl) (by kernel_rfl) (fun _ _ _ h => h) hS rfl (by intro w0 hw0; (try dsimp only at hw0); go_simp; try rfl) ?_
              try simp only [List.set]
              refine wpT_take 14 (v := ?_) rfl rfl (by kernel_rfl) (by kernel_rfl) (by kernel_rfl) (by kernel_rfl) (fun _ _ _ h => h) hS rfl (by intro w0 hw0; (try dsimp only at hw0); go_simp; try rfl) ?_
              try simp only [List.set]
              refine wpT_take 15 (v := ?_) rfl rfl (by kernel_rfl) (by kernel_rfl) (by kernel_rfl) (by kernel_rfl) (fun _ _ _ h => h) hS rfl (by intro w0 hw0; (try dsimp only at hw0); go_simp; try rfl) ?_
              try simp only [List.set]
              refine wpT_two 0 11 rfl rfl (by kernel_rfl) rfl rfl rfl rfl (fun K hK => ?_) (fun K hK => ?_)
              · go_simp
                refine hK.out _ _ ⟨(ext_alloc _ _).keep hS.1, (ext_alloc _ _).keep hS.2⟩ (fun hS1 => ?_)
                clear hK hS
                have hS := hS1
                clear hS1
                try clear K
                try simp only [put_some, List.set]
                refine wpT_two 4 11 rfl rfl (by kernel_rfl) rfl rfl rfl rfl (fun K hK => ?_) (fun K hK => ?_)
                · have hE0 : Ext w6 (w6.drew.alloc (.cells #[] 9)) := Ext.tr (ext_drewN w6 1) (ext_alloc _ _)
                  have hO0 : OwnL (w6.drew.alloc (.cells #[] 9)) w6.heap.size (.slice (some ⟨w6.heap.size, 0, none⟩) 0 0) [] := OwnL.made w6.drew w6.heap.size (Nat.le_refl _)
                  refine wp_strs (L := []) (M := L.take 0) _ _ rfl rfl hO0 (by rw [hlk]; rfl) (HT.out.ext hE0) (by rw [hlk]; first | (simp; done) | (simp; omega)) (by simp; try omega) (fun v' wB h2 h3 h4 => ?_)
                  rw [List.nil_append] at h2
                  obtain ⟨aB, cB, rfl⟩ := own_sl h2
                  rw [hlk] at h2 h4 ⊢
                  have hobB : ∀ g', (Value.slice aB 0 cB).ownBlock = some g' → w6.heap.size ≤ g' := fun g' e => by
                    rcases h4 with h4 | h4
                    · rw [h4] at e
                      have e' := Option.some.inj e
                      simp at e'
                      omega
                    · rw [h4] at e
                      have e' := Option.some.inj e
                      simp at e'
                      omega
                  have hEB : Ext w6 wB := hE0.grown h3 (by simp; try omega) (fun g' e => by
                    have e' := Option.some.inj e
                    simp at e'
                    omega)
                  refine hK.out _ _ ⟨hEB.keep q1, hEB.keep z0⟩ (fun hS1 => ?_)
                  clear hK hS
                  have hS := hS1
                  clear hS1
                  try clear K
                  try simp only [put_some, List.set]
                  refine wpT_one 11 rfl (by kernel_rfl) rfl rfl (fun K hK => ?_)
                  go_simp
                  refine hK.out _ _ ⟨(ext_alloc _ _).keep hS.1, (ext_alloc _ _).keep hS.2⟩ (fun hS1 => ?_)
                  clear hK hS
                  have hS := hS1
                  clear hS1
                  try clear K
                  try simp only [put_some, List.set]
                  have hET : Ext w6 (wB.alloc (.cells #[.string (S nm)] 9)) := Ext.tr hEB (ext_alloc _ _)
                  have hST := one_str' wB nm hln
                  have hOT := h2.ext (ext_alloc wB (.cells #[.string (S nm)] 9))
                  have hzT := hET.size
                  refine wpT_one 12 rfl (by kernel_rfl) rfl rfl (fun K hK => ?_)
                  refine wp_strs (L := L.take 0) (M := [nm]) _ _ rfl rfl hOT rfl hST (by rw [hlk]; first | (simp; done) | (simp; omega)) (by omega) (fun v' wC h5 h6 h7 => ?_)
                  obtain ⟨aC, cC, rfl⟩ := own_sl h5
                  have hlC : (L.take 0 ++ [nm]).length = 1 := by rw [List.length_append, hlk]; rfl
                  rw [hlC] at h5 h7 ⊢
                  have hobC : ∀ g', (Value.slice aC 1 cC).ownBlock = some g' → w6.heap.size ≤ g' := fun g' e => by
                    rcases h7 with h7 | h7
                    · rw [h7] at e; exact hobB g' e
                    · rw [h7] at e
                      have e' := Option.some.inj e
                      omega
                  have hEC : Ext w6 wC := hET.grown h6 hzT hobB
                  refine hK.out _ _ ⟨hEC.keep q1, hEC.keep z0⟩ (fun hS1 => ?_)
                  clear hK hS
                  have hS := hS1
                  clear hS1
                  try clear K
                  try simp only [put_some, List.set]
                  have hzC := hEC.size
                  refine wpT_one 16 rfl (by kernel_rfl) rfl rfl (fun K hK => ?_)
                  refine wp_strs (L := L.take 0 ++ [nm]) (M := L.drop 0) _ _ rfl rfl h5 (by rw [List.drop_zero, h0]; rfl) (HD.ext hEC) (by rw [hlC, List.length_drop]; omega) (by omega) (fun v' wD h8 h9 h10 => ?_)
                  have hED : Ext w6 wD := hEC.grown h9 hzC hobC
                  refine hK.out _ _ ⟨hED.keep q1, hED.keep z0⟩ (fun hS1 => ?_)
                  clear hK hS
                  have hS := hS1
                  clear hS1
                  try clear K
                  try simp only [put_some, List.set]
                  have HN : Hid (OwnL wD w4.heap.size v' (L.take 0 ++ [nm] ++ L.drop 0)) := h8.low hz6
                  have HED := hid hED
                  clear h2 h3 h4 h5 h6 h7 h8 h9 h10 hEB hEC hED hET hobB hobC hOT hST hO0 hE0 HD HT hS q1 z0
                  refine wpT_last rfl (by kernel_rfl) (by kernel_rfl) rfl (fun K hK => ?_)
                  go_simp
                  refine hK.out _ _ ?_
                  clear hK
                  go_wp2_with fail
                  go_roundw
                  case rel => exact ⟨m + 1, L.take 0 ++ [nm] ++ L.drop 0, by omega, by go_num, gb_tr HG6.out (gb_ext HED.out _), (HR6.out.ext HED.out).mono (by omega), HN.out, hsN, HLN.out⟩
                  case measure => simp [intOf]; omega
                · go_simp
                  refine hK.out _ _ ⟨(ext_alloc _ _).keep hS.1, (ext_alloc _ _).keep hS.2⟩ (fun hS1 => ?_)
                  clear hK hS
                  have hS := hS1
                  clear hS1
                  try clear K
                  try simp only [put_some, List.set]
                  refine wpT_one 4 rfl (by kernel_rfl) rfl rfl (fun K hK => ?_)
                  have hE0 : Ext w6 ((w6.drew.alloc (.cells #[] 9)).alloc (.cells #[.string (S nm)] 9)) := Ext.tr (Ext.tr (ext_drewN w6 1) (ext_alloc _ _)) (ext_alloc _ _)
                  have hO0 : OwnL ((w6.drew.alloc (.cells #[] 9)).alloc (.cells #[.string (S nm)] 9)) w6.heap.size (.slice (some ⟨w6.heap.size, 0, none⟩) 0 0) [] := (OwnL.made w6.drew w6.heap.size (Nat.le_refl _)).ext (ext_alloc _ _)
                  have hS0 := one_str' (w6.drew.alloc (.cells #[] 9)) nm hln
                  refine wp_strs (L := []) (M := L.take 0) _ _ rfl rfl hO0 (by rw [hlk]; rfl) (HT.out.ext hE0) (by rw [hlk]; first | (simp; done) | (simp; omega)) (by simp; try omega) (fun v' wB h2 h3 h4 => ?_)
                  rw [List.nil_append] at h2
                  obtain ⟨aB, cB, rfl⟩ := own_sl h2
                  rw [hlk] at h2 h4 ⊢
                  have hobB : ∀ g', (Value.slice aB 0 cB).ownBlock = some g' → w6.heap.size ≤ g' := fun g' e => by
                    rcases h4 with h4 | h4
                    · rw [h4] at e
                      have e' := Option.some.inj e
                      simp at e'
                      omega
                    · rw [h4] at e
                      have e' := Option.some.inj e
                      simp at e'
                      omega
                  have hEB : Ext w6 wB := hE0.grown h3 (by simp; try omega) (fun g' e => by
                    have e' := Option.some.inj e
                    simp at e'
                    omega)
                  refine hK.out _ _ ⟨hEB.keep q1, hEB.keep z0⟩ (fun hS1 => ?_)
                  clear hK hS
                  have hS := hS1
                  clear hS1
                  try clear K
                  try simp only [put_some, List.set]
                  have hET : Ext w6 wB := hEB
                  have hST : StrsAt wB (some ⟨w6.heap.size + 1, 0, none⟩) [nm] := by
                    have h := hS0.gb h3 (fun _ b o e => by
                      cases e
                      intro er
                      have e' := Option.some.inj er
                      simp at e')
                    simpa using h
                  have hOT := h2
                  have hzT := hET.size
                  refine wpT_one 12 rfl (by kernel_rfl) rfl rfl (fun K hK => ?_)
                  refine wp_strs (L := L.take 0) (M := [nm]) _ _ rfl rfl hOT rfl hST (by rw [hlk]; first | (simp; done) | (simp; omega)) (by omega) (fun v' wC h5 h6 h7 => ?_)
                  obtain ⟨aC, cC, rfl⟩ := own_sl h5
                  have hlC : (L.take 0 ++ [nm]).length = 1 := by rw [List.length_append, hlk]; rfl
                  rw [hlC] at h5 h7 ⊢
                  have hobC : ∀ g', (Value.slice aC 1 cC).ownBlock = some g' → w6.heap.size ≤ g' := fun g' e => by
                    rcases h7 with h7 | h7
                    · rw [h7] at e; exact hobB g' e
                    · rw [h7] at e
                      have e' := Option.some.inj e
                      omega
                  have hEC : Ext w6 wC := hET.grown h6 hzT hobB
                  refine hK.out _ _ ⟨hEC.keep q1, hEC.keep z0⟩ (fun hS1 => ?_)
                  clear hK hS
                  have hS := hS1
                  clear hS1
                  try clear K
                  try simp only [put_some, List.set]
                  have hzC := hEC.size
                  refine wpT_one 16 rfl (by kernel_rfl) rfl rfl (fun K hK => ?_)
                  refine wp_strs (L := L.take 0 ++ [nm]) (M := L.drop 0) _ _ rfl rfl h5 (by rw [List.drop_zero, h0]; rfl) (HD.ext hEC) (by rw [hlC, List.length_drop]; omega) (by omega) (fun v' wD h8 h9 h10 => ?_)
                  have hED : Ext w6 wD := hEC.grown h9 hzC hobC
                  refine hK.out _ _ ⟨hED.keep q1, hED.keep z0⟩ (fun hS1 => ?_)
                  clear hK hS
                  have hS := hS1
                  clear hS1
                  try clear K
                  try simp only [put_some, List.set]
                  have HN : Hid (OwnL wD w4.heap.size v' (L.take 0 ++ [nm] ++ L.drop 0)) := h8.low hz6
                  have HED := hid hED
                  clear h2 h3 h4 h5 h6 h7 h8 h9 h10 hEB hEC hED hET hobB hobC hOT hST hO0 hE0 HD HT hS q1 z0
                  refine wpT_last rfl (by kernel_rfl) (by kernel_rfl) rfl (fun K hK => ?_)
                  go_simp
                  refine hK.out _ _ ?_
                  clear hK
                  go_wp2_with fail
                  go_roundw
                  case rel => exact ⟨m + 1, L.take 0 ++ [nm] ++ L.drop 0, by omega, by go_num, gb_tr HG6.out (gb_ext HED.out _), (HR6.out.ext HED.out).mono (by omega), HN.out, hsN, HLN.out⟩
                  case measure => simp [intOf]; omega
              · go_simp
                refine hK.out _ _ ⟨(ext_alloc _ _).keep hS.1, (ext_alloc _ _).keep hS.2⟩ (fun hS1 => ?_)
                clear hK hS
                have hS := hS1
                clear hS1
                try clear K
                try simp only [put_some, List.set]
                refine wpT_one 0 rfl (by kernel_rfl) rfl rfl (fun K hK => ?_)
                go_simp
                refine hK.out _ _ ⟨(ext_alloc _ _).keep hS.1, (ext_alloc _ _).keep hS.2⟩ (fun hS1 => ?_)
                clear hK hS
                have hS := hS1
                clear hS1
                try clear K
                try simp only [put_some, List.set]
                refine wpT_one 4 rfl (by kernel_rfl) rfl rfl (fun K hK => ?_)
                have hE0 : Ext w6 ((w6.drew.alloc (.cells #[.string (S nm)] 9)).alloc (.cells #[] 9)) := Ext.tr (Ext.tr (ext_drewN w6 1) (ext_alloc _ _)) (ext_alloc _ _)
                have hO0 : OwnL ((w6.drew.alloc (.cells #[.string (S nm)] 9)).alloc (.cells #[] 9)) w6.heap.size (.slice (some ⟨w6.heap.size + 1, 0, none⟩) 0 0) [] := by have h := OwnL.made (w6.drew.alloc (.cells #[.string (S nm)] 9)) w6.heap.size (by simp); simpa using h
                have hS0 := (one_str' w6.drew nm hln).ext (ext_alloc (w6.drew.alloc (.cells #[.string (S nm)] 9)) (.cells #[] 9))
                refine wp_strs (L := []) (M := L.take 0) _ _ rfl rfl hO0 (by rw [hlk]; rfl) (HT.out.ext hE0) (by rw [hlk]; first | (simp; done) | (simp; omega)) (by simp; try omega) (fun v' wB h2 h3 h4 => ?_)
                rw [List.nil_append] at h2
                obtain ⟨aB, cB, rfl⟩ := own_sl h2
                rw [hlk] at h2 h4 ⊢
                have hobB : ∀ g', (Value.slice aB 0 cB).ownBlock = some g' → w6.heap.size ≤ g' := fun g' e => by
                  rcases h4 with h4 | h4
                  · rw [h4] at e
                    have e' := Option.some.inj e
                    simp at e'
                    omega
                  · rw [h4] at e
                    have e' := Option.some.inj e
                    simp at e'
                    omega
                have hEB : Ext w6 wB := hE0.grown h3 (by simp; try omega) (fun g' e => by
                  have e' := Option.some.inj e
                  simp at e'
                  omega)
                refine hK.out _ _ ⟨hEB.keep q1, hEB.keep z0⟩ (fun hS1 => ?_)
                clear hK hS
                have hS := hS1
                clear hS1
                try clear K
                try simp only [put_some, List.set]
                have hET : Ext w6 wB := hEB
                have hST := hS0.gb h3 (fun _ b o e => by
                  cases e
                  intro er
                  have e' := Option.some.inj er
                  simp at e')
                have hOT := h2
                have hzT := hET.size
                refine wpT_one 12 rfl (by kernel_rfl) rfl rfl (fun K hK => ?_)
                refine wp_strs (L := L.take 0) (M := [nm]) _ _ rfl rfl hOT rfl hST (by rw [hlk]; first | (simp; done) | (simp; omega)) (by omega) (fun v' wC h5 h6 h7 => ?_)
                obtain ⟨aC, cC, rfl⟩ := own_sl h5
                have hlC : (L.take 0 ++ [nm]).length = 1 := by rw [List.length_append, hlk]; rfl
                rw [hlC] at h5 h7 ⊢
                have hobC : ∀ g', (Value.slice aC 1 cC).ownBlock = some g' → w6.heap.size ≤ g' := fun g' e => by
                  rcases h7 with h7 | h7
                  · rw [h7] at e; exact hobB g' e
                  · rw [h7] at e
                    have e' := Option.some.inj e
                    omega
                have hEC : Ext w6 wC := hET.grown h6 hzT hobB
                refine hK.out _ _ ⟨hEC.keep q1, hEC.keep z0⟩ (fun hS1 => ?_)
                clear hK hS
                have hS := hS1
                clear hS1
                try clear K
                try simp only [put_some, List.set]
                have hzC := hEC.size
                refine wpT_one 16 rfl (by kernel_rfl) rfl rfl (fun K hK => ?_)
                refine wp_strs (L := L.take 0 ++ [nm]) (M := L.drop 0) _ _ rfl rfl h5 (by rw [List.drop_zero, h0]; rfl) (HD.ext hEC) (by rw [hlC, List.length_drop]; omega) (by omega) (fun v' wD h8 h9 h10 => ?_)
                have hED : Ext w6 wD := hEC.grown h9 hzC hobC
                refine hK.out _ _ ⟨hED.keep q1, hED.keep z0⟩ (fun hS1 => ?_)
                clear hK hS
                have hS := hS1
                clear hS1
                try clear K
                try simp only [put_some, List.set]
                have HN : Hid (OwnL wD w4.heap.size v' (L.take 0 ++ [nm] ++ L.drop 0)) := h8.low hz6
                have HED := hid hED
                clear h2 h3 h4 h5 h6 h7 h8 h9 h10 hEB hEC hED hET hobB hobC hOT hST hO0 hE0 HD HT hS q1 z0
                refine wpT_last rfl (by kernel_rfl) (by kernel_rfl) rfl (fun K hK => ?_)
                go_simp
                refine hK.out _ _ ?_
                clear hK
                go_wp2_with fail
                go_roundw
                case rel => exact ⟨m + 1, L.take 0 ++ [nm] ++ L.drop 0, by omega, by go_num, gb_tr HG6.out (gb_ext HED.out _), (HR6.out.ext HED.out).mono (by omega), HN.out, hsN, HLN.out⟩
                case measure => simp [intOf]; omega
            · simp only [Value.slice.injEq] at e
              obtain ⟨rfl, _, rfl⟩ := e
              have hky : k ≤ cL := by omega
              by_cases hck : cL = k
              · subst hck
                have hd0 : L.drop cL = [] := List.drop_eq_nil_of_le (by omega)
                have HD : StrsAt w6 (some ⟨g, 0, none⟩) (L.drop cL) := by rw [hd0]; exact StrsAt.nil _ _
                clear hd0
                go_wp2_with fail
                refine wp_region_T (fun w' => w'.cell? ⟨X, 1, none⟩ = some (.slice (some ⟨ba, oa, none⟩) b.batches.length y2) ∧ w'.cell? ⟨ba, oa + m * 3, none⟩ = some (.string (S nm))) 17 (by kernel_rfl) ⟨q1, z0⟩ (fun hS => ?_)
                refine wpT_take 1 (v := ?_) rfl rfl (by kernel_rfl) (by kernel_rfl) (by kernel_rfl) (by kernel_rfl) (fun _ _ _ h => h) hS rfl (by intro w0 hw0; (try dsimp only at hw0); go_simp; try rfl) ?_
                try simp only [List.set]
                refine wpT_take 2 (v := ?_) rfl rfl (by kernel_rfl) (by kernel_rfl) (by kernel_rfl) (by kernel_rfl) (fun _ _ _ h => h) hS rfl (by intro w0 hw0; (try dsimp only at hw0); go_simp; try rfl) ?_
                try simp only [List.set]
                refine wpT_take 3 (v := ?_) rfl rfl (by kernel_rfl) (by kernel_rfl) (by kernel_rfl) (by kernel_rfl) (fun _ _ _ h => h) hS rfl (by intro w0 hw0; (try dsimp only at hw0); go_simp; try rfl) ?_
                try simp only [List.set]
                refine wpT_take 5 (v := ?_) rfl rfl (by kernel_rfl) (by kernel_rfl) (by kernel_rfl) (by kernel_rfl) (fun _ _ _ h => h) hS rfl (by intro w0 hw0; (try dsimp only at hw0); go_simp; try rfl) ?_
                try simp only [List.set]
                refine wpT_take 6 (v := ?_) rfl rfl (by kernel_rfl) (by kernel_rfl) (by kernel_rfl) (by kernel_rfl) (fun _ _ _ h => h) hS rfl (by intro w0 hw0; (try dsimp only at hw0); go_simp; try rfl) ?_
                try simp only [List.set]
                refine wpT_take 7 (v := ?_) rfl rfl (by kernel_rfl) (by kernel_rfl) (by kernel_rfl) (by kernel_rfl) (fun _ _ _ h => h) hS rfl (by intro w0 hw0; (try dsimp only at hw0); go_simp; try rfl) ?_
                try simp only [List.set]
                refine wpT_take 8 (v := ?_) rfl rfl (by kernel_rfl) (by kernel_rfl) (by kernel_rfl) (by kernel_rfl) (fun _ _ _ h => h) hS rfl (by intro w0 hw0; (try dsimp only at hw0); go_simp; try rfl) ?_
                try simp only [List.set]
                refine wpT_take 9 (v := ?_) rfl rfl (by kernel_rfl) (by kernel_rfl) (by kernel_rfl) (by kernel_rfl) (fun _ _ _ h => h) hS rfl (by intro w0 hw0; (try dsimp only at hw0); go_simp; try rfl) ?_
                try simp only [List.set]
                refine wpT_take 10 (v := ?_) rfl rfl (by kernel_rfl) (by kernel_rfl) (by kernel_rfl) (by kernel_rfl) (fun _ _ _ h => h) hS rfl (by intro w0 hw0; (try dsimp only at hw0); go_simp; try rfl) ?_
                try simp only [List.set]
                refine wpT_take 13 (v := ?_) rfl rfl (by kernel_rfl) (by kernel_rfl) (by kernel_rfl) (by kernel_rfl) (fun _ _ _ h => h) hS rfl (by intro w0 hw0; (try dsimp only at hw0); go_simp; try rfl) ?_
                try simp only [List.set]
                refine wpT_take 14 (v := ?_) rfl rfl (by kernel_rfl) (by kernel_rfl) (by kernel_rfl) (by kernel_rfl) (fun _ _ _ h => h) hS rfl (by intro w0 hw0; (try dsimp only at hw0); go_simp; try rfl) ?_
                try simp only [List.set]
                refine wpT_take 15 (v := ?_) rfl rfl (by kernel_rfl) (by kernel_rfl) (by kernel_rfl) (by kernel_rfl) (fun _ _ _ h => h) hS rfl (by intro w0 hw0; (try dsimp only at hw0); go_simp; try rfl) ?_
                try simp only [List.set]
                refine wpT_two 0 11 rfl rfl (by kernel_rfl) rfl rfl rfl rfl (fun K hK => ?_) (fun K hK => ?_)
                · go_simp
                  refine hK.out _ _ ⟨(ext_alloc _ _).keep hS.1, (ext_alloc _ _).keep hS.2⟩ (fun hS1 => ?_)
                  clear hK hS
                  have hS := hS1
                  clear hS1
                  try clear K
                  try simp only [put_some, List.set]
                  refine wpT_two 4 11 rfl rfl (by kernel_rfl) rfl rfl rfl rfl (fun K hK => ?_) (fun K hK => ?_)
                  · have hE0 : Ext w6 (w6.drew.alloc (.cells #[] 9)) := Ext.tr (ext_drewN w6 1) (ext_alloc _ _)
                    have hO0 : OwnL (w6.drew.alloc (.cells #[] 9)) w6.heap.size (.slice (some ⟨w6.heap.size, 0, none⟩) 0 0) [] := OwnL.made w6.drew w6.heap.size (Nat.le_refl _)
                    refine wp_strs (L := []) (M := L.take cL) _ _ rfl rfl hO0 (by rw [hlk]; rfl) (HT.out.ext hE0) (by rw [hlk]; first | (simp; done) | (simp; omega)) (by simp; try omega) (fun v' wB h2 h3 h4 => ?_)
                    rw [List.nil_append] at h2
                    obtain ⟨aB, cB, rfl⟩ := own_sl h2
                    rw [hlk] at h2 h4 ⊢
                    have hobB : ∀ g', (Value.slice aB cL cB).ownBlock = some g' → w6.heap.size ≤ g' := fun g' e => by
                      rcases h4 with h4 | h4
                      · rw [h4] at e
                        have e' := Option.some.inj e
                        simp at e'
                        omega
                      · rw [h4] at e
                        have e' := Option.some.inj e
                        simp at e'
                        omega
                    have hEB : Ext w6 wB := hE0.grown h3 (by simp; try omega) (fun g' e => by
                      have e' := Option.some.inj e
                      simp at e'
                      omega)
                    refine hK.out _ _ ⟨hEB.keep q1, hEB.keep z0⟩ (fun hS1 => ?_)
                    clear hK hS
                    have hS := hS1
                    clear hS1
                    try clear K
                    try simp only [put_some, List.set]
                    refine wpT_one 11 rfl (by kernel_rfl) rfl rfl (fun K hK => ?_)
                    go_simp
                    refine hK.out _ _ ⟨(ext_alloc _ _).keep hS.1, (ext_alloc _ _).keep hS.2⟩ (fun hS1 => ?_)
                    clear hK hS
                    have hS := hS1
                    clear hS1
                    try clear K
                    try simp only [put_some, List.set]
                    have hET : Ext w6 (wB.alloc (.cells #[.string (S nm)] 9)) := Ext.tr hEB (ext_alloc _ _)
                    have hST := one_str' wB nm hln
                    have hOT := h2.ext (ext_alloc wB (.cells #[.string (S nm)] 9))
                    have hzT := hET.size
                    refine wpT_one 12 rfl (by kernel_rfl) rfl rfl (fun K hK => ?_)
                    refine wp_strs (L := L.take cL) (M := [nm]) _ _ rfl rfl hOT rfl hST (by rw [hlk]; first | (simp; done) | (simp; omega)) (by omega) (fun v' wC h5 h6 h7 => ?_)
                    obtain ⟨aC, cC, rfl⟩ := own_sl h5
                    have hlC : (L.take cL ++ [nm]).length = cL + 1 := by rw [List.length_append, hlk]; rfl
                    rw [hlC] at h5 h7 ⊢
                    have hobC : ∀ g', (Value.slice aC (cL + 1) cC).ownBlock = some g' → w6.heap.size ≤ g' := fun g' e => by
                      rcases h7 with h7 | h7
                      · rw [h7] at e; exact hobB g' e
                      · rw [h7] at e
                        have e' := Option.some.inj e
                        omega
                    have hEC : Ext w6 wC := hET.grown h6 hzT hobB
                    refine hK.out _ _ ⟨hEC.keep q1, hEC.keep z0⟩ (fun hS1 => ?_)
                    clear hK hS
                    have hS := hS1
                    clear hS1
                    try clear K
                    try simp only [put_some, List.set]
                    have hzC := hEC.size
                    refine wpT_one 16 rfl (by kernel_rfl) rfl rfl (fun K hK => ?_)
                    refine wp_strs (L := L.take cL ++ [nm]) (M := L.drop cL) _ _ rfl rfl h5 (by rw [List.length_drop]; first | rfl | (rw [show L.length - cL = 0 by omega]; rfl)) (HD.ext hEC) (by rw [hlC, List.length_drop]; omega) (by omega) (fun v' wD h8 h9 h10 => ?_)
                    have hED : Ext w6 wD := hEC.grown h9 hzC hobC
                    refine hK.out _ _ ⟨hED.keep q1, hED.keep z0⟩ (fun hS1 => ?_)
                    clear hK hS
                    have hS := hS1
                    clear hS1
                    try clear K
                    try simp only [put_some, List.set]
                    have HN : Hid (OwnL wD w4.heap.size v' (L.take cL ++ [nm] ++ L.drop cL)) := h8.low hz6
                    have HED := hid hED
                    clear h2 h3 h4 h5 h6 h7 h8 h9 h10 hEB hEC hED hET hobB hobC hOT hST hO0 hE0 HD HT hS q1 z0
                    refine wpT_last rfl (by kernel_rfl) (by kernel_rfl) rfl (fun K hK => ?_)
                    go_simp
                    refine hK.out _ _ ?_
                    clear hK
                    go_wp2_with fail
                    go_roundw
                    case rel => exact ⟨m + 1, L.take cL ++ [nm] ++ L.drop cL, by omega, by go_num, gb_tr HG6.out (gb_ext HED.out _), (HR6.out.ext HED.out).mono (by omega), HN.out, hsN, HLN.out⟩
                    case measure => simp [intOf]; omega
                  · go_simp
                    refine hK.out _ _ ⟨(ext_alloc _ _).keep hS.1, (ext_alloc _ _).keep hS.2⟩ (fun hS1 => ?_)
                    clear hK hS
                    have hS := hS1
                    clear hS1
                    try clear K
                    try simp only [put_some, List.set]
                    refine wpT_one 4 rfl (by kernel_rfl) rfl rfl (fun K hK => ?_)
                    have hE0 : Ext w6 ((w6.drew.alloc (.cells #[] 9)).alloc (.cells #[.string (S nm)] 9)) := Ext.tr (Ext.tr (ext_drewN w6 1) (ext_alloc _ _)) (ext_alloc _ _)
                    have hO0 : OwnL ((w6.drew.alloc (.cells #[] 9)).alloc (.cells #[.string (S nm)] 9)) w6.heap.size (.slice (some ⟨w6.heap.size, 0, none⟩) 0 0) [] := (OwnL.made w6.drew w6.heap.size (Nat.le_refl _)).ext (ext_alloc _ _)
                    have hS0 := one_str' (w6.drew.alloc (.cells #[] 9)) nm hln
                    refine wp_strs (L := []) (M := L.take cL) _ _ rfl rfl hO0 (by rw [hlk]; rfl) (HT.out.ext hE0) (by rw [hlk]; first | (simp; done) | (simp; omega)) (by simp; try omega) (fun v' wB h2 h3 h4 => ?_)
                    rw [List.nil_append] at h2
                    obtain ⟨aB, cB, rfl⟩ := own_sl h2
                    rw [hlk] at h2 h4 ⊢
                    have hobB : ∀ g', (Value.slice aB cL cB).ownBlock = some g' → w6.heap.size ≤ g' := fun g' e => by
                      rcases h4 with h4 | h4
                      · rw [h4] at e
                        have e' := Option.some.inj e
                        simp at e'
                        omega
                      · rw [h4] at e
                        have e' := Option.some.inj e
                        simp at e'
                        omega
                    have hEB : Ext w6 wB := hE0.grown h3 (by simp; try omega) (fun g' e => by
                      have e' := Option.some.inj e
                      simp at e'
                      omega)
                    refine hK.out _ _ ⟨hEB.keep q1, hEB.keep z0⟩ (fun hS1 => ?_)
                    clear hK hS
                    have hS := hS1
                    clear hS1
                    try clear K
                    try simp only [put_some, List.set]
                    have hET : Ext w6 wB := hEB
                    have hST : StrsAt wB (some ⟨w6.heap.size + 1, 0, none⟩) [nm] := by
                      have h := hS0.gb h3 (fun _ b o e => by
                        cases e
                        intro er
                        have e' := Option.some.inj er
                        simp at e')
                      simpa using h
                    have hOT := h2
                    have hzT := hET.size
                    refine wpT_one 12 rfl (by kernel_rfl) rfl rfl (fun K hK => ?_)
                    refine wp_strs (L := L.take cL) (M := [nm]) _ _ rfl rfl hOT rfl hST (by rw [hlk]; first | (simp; done) | (simp; omega)) (by omega) (fun v' wC h5 h6 h7 => ?_)
                    obtain ⟨aC, cC, rfl⟩ := own_sl h5
                    have hlC : (L.take cL ++ [nm]).length = cL + 1 := by rw [List.length_append, hlk]; rfl
                    rw [hlC] at h5 h7 ⊢
                    have hobC : ∀ g', (Value.slice aC (cL + 1) cC).ownBlock = some g' → w6.heap.size ≤ g' := fun g' e => by
                      rcases h7 with h7 | h7
                      · rw [h7] at e; exact hobB g' e
                      · rw [h7] at e
                        have e' := Option.some.inj e
                        omega
                    have hEC : Ext w6 wC := hET.grown h6 hzT hobB
                    refine hK.out _ _ ⟨hEC.keep q1, hEC.keep z0⟩ (fun hS1 => ?_)
                    clear hK hS
                    have hS := hS1
                    clear hS1
                    try clear K
                    try simp only [put_some, List.set]
                    have hzC := hEC.size
                    refine wpT_one 16 rfl (by kernel_rfl) rfl rfl (fun K hK => ?_)
                    refine wp_strs (L := L.take cL ++ [nm]) (M := L.drop cL) _ _ rfl rfl h5 (by rw [List.length_drop]; first | rfl | (rw [show L.length - cL = 0 by omega]; rfl)) (HD.ext hEC) (by rw [hlC, List.length_drop]; omega) (by omega) (fun v' wD h8 h9 h10 => ?_)
                    have hED : Ext w6 wD := hEC.grown h9 hzC hobC
                    refine hK.out _ _ ⟨hED.keep q1, hED.keep z0⟩ (fun hS1 => ?_)
                    clear hK hS
                    have hS := hS1
                    clear hS1
                    try clear K
                    try simp only [put_some, List.set]
                    have HN : Hid (OwnL wD w4.heap.size v' (L.take cL ++ [nm] ++ L.drop cL)) := h8.low hz6
                    have HED := hid hED
                    clear h2 h3 h4 h5 h6 h7 h8 h9 h10 hEB hEC hED hET hobB hobC hOT hST hO0 hE0 HD HT hS q1 z0
                    refine wpT_last rfl (by kernel_rfl) (by kernel_rfl) rfl (fun K hK => ?_)
                    go_simp
                    refine hK.out _ _ ?_
                    clear hK
                    go_wp2_with fail
                    go_roundw
                    case rel => exact ⟨m + 1, L.take cL ++ [nm] ++ L.drop cL, by omega, by go_num, gb_tr HG6.out (gb_ext HED.out _), (HR6.out.ext HED.out).mono (by omega), HN.out, hsN, HLN.out⟩
                    case measure => simp [intOf]; omega
                · go_simp
                  refine hK.out _ _ ⟨(ext_alloc _ _).keep hS.1, (ext_alloc _ _).keep hS.2⟩ (fun hS1 => ?_)
                  clear hK hS
                  have hS := hS1
                  clear hS1
                  try clear K
                  try simp only [put_some, List.set]
                  refine wpT_one 0 rfl (by kernel_rfl) rfl rfl (fun K hK => ?_)
                  go_simp
                  refine hK.out _ _ ⟨(ext_alloc _ _).keep hS.1, (ext_alloc _ _).keep hS.2⟩ (fun hS1 => ?_)
                  clear hK hS
                  have hS := hS1
                  clear hS1
                  try clear K
                  try simp only [put_some, List.set]
                  refine wpT_one 4 rfl (by kernel_rfl) rfl rfl (fun K hK => ?_)
                  have hE0 : Ext w6 ((w6.drew.alloc (.cells #[.string (S nm)] 9)).alloc (.cells #[] 9)) := Ext.tr (Ext.tr (ext_drewN w6 1) (ext_alloc _ _)) (ext_alloc _ _)
                  have hO0 : OwnL ((w6.drew.alloc (.cells #[.string (S nm)] 9)).alloc (.cells #[] 9)) w6.heap.size (.slice (some ⟨w6.heap.size + 1, 0, none⟩) 0 0) [] := by have h := OwnL.made (w6.drew.alloc (.cells #[.string (S nm)] 9)) w6.heap.size (by simp); simpa using h
                  have hS0 := (one_str' w6.drew nm hln).ext (ext_alloc (w6.drew.alloc (.cells #[.string (S nm)] 9)) (.cells #[] 9))
                  refine wp_strs (L := []) (M := L.take cL) _ _ rfl rfl hO0 (by rw [hlk]; rfl) (HT.out.ext hE0) (by rw [hlk]; first | (simp; done) | (simp; omega)) (by simp; try omega) (fun v' wB h2 h3 h4 => ?_)
                  rw [List.nil_append] at h2
                  obtain ⟨aB, cB, rfl⟩ := own_sl h2
                  rw [hlk] at h2 h4 ⊢
                  have hobB : ∀ g', (Value.slice aB cL cB).ownBlock = some g' → w6.heap.size ≤ g' := fun g' e => by
                    rcases h4 with h4 | h4
                    · rw [h4] at e
                      have e' := Option.some.inj e
                      simp at e'
                      omega
                    · rw [h4] at e
                      have e' := Option.some.inj e
                      simp at e'
                      omega
                  have hEB : Ext w6 wB := hE0.grown h3 (by simp; try omega) (fun g' e => by
                    have e' := Option.some.inj e
                    simp at e'
                    omega)
                  refine hK.out _ _ ⟨hEB.keep q1, hEB.keep z0⟩ (fun hS1 => ?_)
                  clear hK hS
                  have hS := hS1
                  clear hS1
                  try clear K
                  try simp only [put_some, List.set]
                  have hET : Ext w6 wB := hEB
                  have hST := hS0.gb h3 (fun _ b o e => by
                    cases e
                    intro er
                    have e' := Option.some.inj er
                    simp at e')
                  have hOT := h2
                  have hzT := hET.size
                  refine wpT_one 12 rfl (by kernel_rfl) rfl rfl (fun K hK => ?_)
                  refine wp_strs (L := L.take cL) (M := [nm]) _ _ rfl rfl hOT rfl hST (by rw [hlk]; first | (simp; done) | (simp; omega)) (by omega) (fun v' wC h5 h6 h7 => ?_)
                  obtain ⟨aC, cC, rfl⟩ := own_sl h5
                  have hlC : (L.take cL ++ [nm]).length = cL + 1 := by rw [List.length_append, hlk]; rfl
                  rw [hlC] at h5 h7 ⊢
                  have hobC : ∀ g', (Value.slice aC (cL + 1) cC).ownBlock = some g' → w6.heap.size ≤ g' := fun g' e => by
                    rcases h7 with h7 | h7
                    · rw [h7] at e; exact hobB g' e
                    · rw [h7] at e
                      have e' := Option.some.inj e
                      omega
                  have hEC : Ext w6 wC := hET.grown h6 hzT hobB
                  refine hK.out _ _ ⟨hEC.keep q1, hEC.keep z0⟩ (fun hS1 => ?_)
                  clear hK hS
                  have hS := hS1
                  clear hS1
                  try clear K
                  try simp only [put_some, List.set]
                  have hzC := hEC.size
                  refine wpT_one 16 rfl (by kernel_rfl) rfl rfl (fun K hK => ?_)
                  refine wp_strs (L := L.take cL ++ [nm]) (M := L.drop cL) _ _ rfl rfl h5 (by rw [List.length_drop]; first | rfl | (rw [show L.length - cL = 0 by omega]; rfl)) (HD.ext hEC) (by rw [hlC, List.length_drop]; omega) (by omega) (fun v' wD h8 h9 h10 => ?_)
                  have hED : Ext w6 wD := hEC.grown h9 hzC hobC
                  refine hK.out _ _ ⟨hED.keep q1, hED.keep z0⟩ (fun hS1 => ?_)
                  clear hK hS
                  have hS := hS1
                  clear hS1
                  try clear K
                  try simp only [put_some, List.set]
                  have HN : Hid (OwnL wD w4.heap.size v' (L.take cL ++ [nm] ++ L.drop cL)) := h8.low hz6
                  have HED := hid hED
                  clear h2 h3 h4 h5 h6 h7 h8 h9 h10 hEB hEC hED hET hobB hobC hOT hST hO0 hE0 HD HT hS q1 z0
                  refine wpT_last rfl (by kernel_rfl) (by kernel_rfl) rfl (fun K hK => ?_)
                  go_simp
                  refine hK.out _ _ ?_
                  clear hK
                  go_wp2_with fail
                  go_roundw
                  case rel => exact ⟨m + 1, L.take cL ++ [nm] ++ L.drop cL, by omega, by go_num, gb_tr HG6.out (gb_ext HED.out _), (HR6.out.ext HED.out).mono (by omega), HN.out, hsN, HLN.out⟩
                  case measure => simp [intOf]; omega
              · have HD : StrsAt w6 (some ⟨g, k, none⟩) (L.drop k) := by have h := hat.drop k; rwa [Nat.zero_add] at h
                go_wp2_with fail
                refine wp_region_T (fun w' => w'.cell? ⟨X, 1, none⟩ = some (.slice (some ⟨ba, oa, none⟩) b.batches.length y2) ∧ w'.cell? ⟨ba, oa + m * 3, none⟩ = some (.string (S nm))) 17 (by kernel_rfl) ⟨q1, z0⟩ (fun hS => ?_)
                refine wpT_take 1 (v := ?_) rfl rfl (by kernel_rfl) (by kernel_rfl) (by kernel_rfl) (by kernel_rfl) (fun _ _ _ h => h) hS rfl (by intro w0 hw0; (try dsimp only at hw0); go_simp; try rfl) ?_
                try simp only [List.set]
                refine wpT_take 2 (v := ?_) rfl rfl (by kernel_rfl) (by kernel_rfl) (by kernel_rfl) (by kernel_rfl) (fun _ _ _ h => h) hS rfl (by intro w0 hw0; (try dsimp only at hw0); go_simp; try rfl) ?_
                try simp only [List.set]
                refine wpT_take 3 (v := ?_) rfl rfl (by kernel_rfl) (by kernel_rfl) (by kernel_rfl) (by kernel_rfl) (fun _ _ _ h => h) hS rfl (by intro w0 hw0; (try dsimp only at hw0); go_simp; try rfl) ?_
                try simp only [List.set]
                refine wpT_take 5 (v := ?_) rfl rfl (by kernel_rfl) (by kernel_rfl) (by kernel_rfl) (by kernel_rfl) (fun _ _ _ h => h) hS rfl (by intro w0 hw0; (try dsimp only at hw0); go_simp; try rfl) ?_
                try simp only [List.set]
                refine wpT_take 6 (v := ?_) rfl rfl (by kernel_rfl) (by kernel_rfl) (by kernel_rfl) (by kernel_rfl) (fun _ _ _ h => h) hS rfl (by intro w0 hw0; (try dsimp only at hw0); go_simp; try rfl) ?_
                try simp only [List.set]
                refine wpT_take 7 (v := ?_) rfl rfl (by kernel_rfl) (by kernel_rfl) (by kernel_rfl) (by kernel_rfl) (fun _ _ _ h => h) hS rfl (by intro w0 hw0; (try dsimp only at hw0); go_simp; try rfl) ?_
                try simp only [List.set]
                refine wpT_take 8 (v := ?_) rfl rfl (by kernel_rfl) (by kernel_rfl) (by kernel_rfl) (by kernel_rfl) (fun _ _ _ h => h) hS rfl (by intro w0 hw0; (try dsimp only at hw0); go_simp; try rfl) ?_
                try simp only [List.set]
                refine wpT_take 9 (v := ?_) rfl rfl (by kernel_rfl) (by kernel_rfl) (by kernel_rfl) (by kernel_rfl) (fun _ _ _ h => h) hS rfl (by intro w0 hw0; (try dsimp only at hw0); go_simp; try rfl) ?_
                try simp only [List.set]
                refine wpT_take 10 (v := ?_) rfl rfl (by kernel_rfl) (by kernel_rfl) (by kernel_rfl) (by kernel_rfl) (fun _ _ _ h => h) hS rfl (by intro w0 hw0; (try dsimp only at hw0); go_simp; try rfl) ?_
                try simp only [List.set]
                refine wpT_take 13 (v := ?_) rfl rfl (by kernel_rfl) (by kernel_rfl) (by kernel_rfl) (by kernel_rfl) (fun _ _ _ h => h) hS rfl (by intro w0 hw0; (try dsimp only at hw0); go_simp; try rfl) ?_
                try simp only [List.set]
                refine wpT_take 14 (v := ?_) rfl rfl (by kernel_rfl) (by kernel_rfl) (by kernel_rfl) (by kernel_rfl) (fun _ _ _ h => h) hS rfl (by intro w0 hw0; (try dsimp only at hw0); go_simp; try rfl) ?_
                try simp only [List.set]
                refine wpT_take 15 (v := ?_) rfl rfl (by kernel_rfl) (by kernel_rfl) (by kernel_rfl) (by kernel_rfl) (fun _ _ _ h => h) hS rfl (by intro w0 hw0; (try dsimp only at hw0); go_simp; try rfl) ?_
                try simp only [List.set]
                refine wpT_two 0 11 rfl rfl (by kernel_rfl) rfl rfl rfl rfl (fun K hK => ?_) (fun K hK => ?_)
                · go_simp
                  refine hK.out _ _ ⟨(ext_alloc _ _).keep hS.1, (ext_alloc _ _).keep hS.2⟩ (fun hS1 => ?_)
                  clear hK hS
                  have hS := hS1
                  clear hS1
                  try clear K
                  try simp only [put_some, List.set]
                  refine wpT_two 4 11 rfl rfl (by kernel_rfl) rfl rfl rfl rfl (fun K hK => ?_) (fun K hK => ?_)
                  · have hE0 : Ext w6 (w6.drew.alloc (.cells #[] 9)) := Ext.tr (ext_drewN w6 1) (ext_alloc _ _)
                    have hO0 : OwnL (w6.drew.alloc (.cells #[] 9)) w6.heap.size (.slice (some ⟨w6.heap.size, 0, none⟩) 0 0) [] := OwnL.made w6.drew w6.heap.size (Nat.le_refl _)
                    refine wp_strs (L := []) (M := L.take k) _ _ rfl rfl hO0 (by rw [hlk]; rfl) (HT.out.ext hE0) (by rw [hlk]; first | (simp; done) | (simp; omega)) (by simp; try omega) (fun v' wB h2 h3 h4 => ?_)
                    rw [List.nil_append] at h2
                    obtain ⟨aB, cB, rfl⟩ := own_sl h2
                    rw [hlk] at h2 h4 ⊢
                    have hobB : ∀ g', (Value.slice aB k cB).ownBlock = some g' → w6.heap.size ≤ g' := fun g' e => by
                      rcases h4 with h4 | h4
                      · rw [h4] at e
                        have e' := Option.some.inj e
                        simp at e'
                        omega
                      · rw [h4] at e
                        have e' := Option.some.inj e
                        simp at e'
                        omega
                    have hEB : Ext w6 wB := hE0.grown h3 (by simp; try omega) (fun g' e => by
                      have e' := Option.some.inj e
                      simp at e'
                      omega)
                    refine hK.out _ _ ⟨hEB.keep q1, hEB.keep z0⟩ (fun hS1 => ?_)
                    clear hK hS
                    have hS := hS1
                    clear hS1
                    try clear K
                    try simp only [put_some, List.set]
                    refine wpT_one 11 rfl (by kernel_rfl) rfl rfl (fun K hK => ?_)
                    go_simp
                    refine hK.out _ _ ⟨(ext_alloc _ _).keep hS.1, (ext_alloc _ _).keep hS.2⟩ (fun hS1 => ?_)
                    clear hK hS
                    have hS := hS1
                    clear hS1
                    try clear K
                    try simp only [put_some, List.set]
                    have hET : Ext w6 (wB.alloc (.cells #[.string (S nm)] 9)) := Ext.tr hEB (ext_alloc _ _)
                    have hST := one_str' wB nm hln
                    have hOT := h2.ext (ext_alloc wB (.cells #[.string (S nm)] 9))
                    have hzT := hET.size
                    refine wpT_one 12 rfl (by kernel_rfl) rfl rfl (fun K hK => ?_)
                    refine wp_strs (L := L.take k) (M := [nm]) _ _ rfl rfl hOT rfl hST (by rw [hlk]; first | (simp; done) | (simp; omega)) (by omega) (fun v' wC h5 h6 h7 => ?_)
                    obtain ⟨aC, cC, rfl⟩ := own_sl h5
                    have hlC : (L.take k ++ [nm]).length = k + 1 := by rw [List.length_append, hlk]; rfl
                    rw [hlC] at h5 h7 ⊢
                    have hobC : ∀ g', (Value.slice aC (k + 1) cC).ownBlock = some g' → w6.heap.size ≤ g' := fun g' e => by
                      rcases h7 with h7 | h7
                      · rw [h7] at e; exact hobB g' e
                      · rw [h7] at e
                        have e' := Option.some.inj e
                        omega
                    have hEC : Ext w6 wC := hET.grown h6 hzT hobB
                    refine hK.out _ _ ⟨hEC.keep q1, hEC.keep z0⟩ (fun hS1 => ?_)
                    clear hK hS
                    have hS := hS1
                    clear hS1
                    try clear K
                    try simp only [put_some, List.set]
                    have hzC := hEC.size
                    refine wpT_one 16 rfl (by kernel_rfl) rfl rfl (fun K hK => ?_)
                    refine wp_strs (L := L.take k ++ [nm]) (M := L.drop k) _ _ rfl rfl h5 (by rw [List.length_drop]; rfl) (HD.ext hEC) (by rw [hlC, List.length_drop]; omega) (by omega) (fun v' wD h8 h9 h10 => ?_)
                    have hED : Ext w6 wD := hEC.grown h9 hzC hobC
                    refine hK.out _ _ ⟨hED.keep q1, hED.keep z0⟩ (fun hS1 => ?_)
                    clear hK hS
                    have hS := hS1
                    clear hS1
                    try clear K
                    try simp only [put_some, List.set]
                    have HN : Hid (OwnL wD w4.heap.size v' (L.take k ++ [nm] ++ L.drop k)) := h8.low hz6
                    have HED := hid hED
                    clear h2 h3 h4 h5 h6 h7 h8 h9 h10 hEB hEC hED hET hobB hobC hOT hST hO0 hE0 HD HT hS q1 z0
                    refine wpT_last rfl (by kernel_rfl) (by kernel_rfl) rfl (fun K hK => ?_)
                    go_simp
                    refine hK.out _ _ ?_
                    clear hK
                    go_wp2_with fail
                    go_roundw
                    case rel => exact ⟨m + 1, L.take k ++ [nm] ++ L.drop k, by omega, by go_num, gb_tr HG6.out (gb_ext HED.out _), (HR6.out.ext HED.out).mono (by omega), HN.out, hsN, HLN.out⟩
                    case measure => simp [intOf]; omega
                  · go_simp
                    refine hK.out _ _ ⟨(ext_alloc _ _).keep hS.1, (ext_alloc _ _).keep hS.2⟩ (fun hS1 => ?_)
                    clear hK hS
                    have hS := hS1
                    clear hS1
                    try clear K
                    try simp only [put_some, List.set]
                    refine wpT_one 4 rfl (by kernel_rfl) rfl rfl (fun K hK => ?_)
                    have hE0 : Ext w6 ((w6.drew.alloc (.cells #[] 9)).alloc (.cells #[.string (S nm)] 9)) := Ext.tr (Ext.tr (ext_drewN w6 1) (ext_alloc _ _)) (ext_alloc _ _)
                    have hO0 : OwnL ((w6.drew.alloc (.cells #[] 9)).alloc (.cells #[.string (S nm)] 9)) w6.heap.size (.slice (some ⟨w6.heap.size, 0, none⟩) 0 0) [] := (OwnL.made w6.drew w6.heap.size (Nat.le_refl _)).ext (ext_alloc _ _)
                    have hS0 := one_str' (w6.drew.alloc (.cells #[] 9)) nm hln
                    refine wp_strs (L := []) (M := L.take k) _ _ rfl rfl hO0 (by rw [hlk]; rfl) (HT.out.ext hE0) (by rw [hlk]; first | (simp; done) | (simp; omega)) (by simp; try omega) (fun v' wB h2 h3 h4 => ?_)
                    rw [List.nil_append] at h2
                    obtain ⟨aB, cB, rfl⟩ := own_sl h2
                    rw [hlk] at h2 h4 ⊢
                    have hobB : ∀ g', (Value.slice aB k cB).ownBlock = some g' → w6.heap.size ≤ g' := fun g' e => by
                      rcases h4 with h4 | h4
                      · rw [h4] at e
                        have e' := Option.some.inj e
                        simp at e'
                        omega
                      · rw [h4] at e
                        have e' := Option.some.inj e
                        simp at e'
                        omega
                    have hEB : Ext w6 wB := hE0.grown h3 (by simp; try omega) (fun g' e => by
                      have e' := Option.some.inj e
                      simp at e'
                      omega)
                    refine hK.out _ _ ⟨hEB.keep q1, hEB.keep z0⟩ (fun hS1 => ?_)
                    clear hK hS
                    have hS := hS1
                    clear hS1
                    try clear K
                    try simp only [put_some, List.set]
                    have hET : Ext w6 wB := hEB
                    have hST : StrsAt wB (some ⟨w6.heap.size + 1, 0, none⟩) [nm] := by
                      have h := hS0.gb h3 (fun _ b o e => by
                        cases e
                        intro er
                        have e' := Option.some.inj er
                        simp at e')
                      simpa using h
                    have hOT := h2
                    have hzT := hET.size
                    refine wpT_one 12 rfl (by kernel_rfl) rfl rfl (fun K hK => ?_)
                    refine wp_strs (L := L.take k) (M := [nm]) _ _ rfl rfl hOT rfl hST (by rw [hlk]; first | (simp; done) | (simp; omega)) (by omega) (fun v' wC h5 h6 h7 => ?_)
                    obtain ⟨aC, cC, rfl⟩ := own_sl h5
                    have hlC : (L.take k ++ [nm]).length = k + 1 := by rw [List.length_append, hlk]; rfl
                    rw [hlC] at h5 h7 ⊢
                    have hobC : ∀ g', (Value.slice aC (k + 1) cC).ownBlock = some g' → w6.heap.size ≤ g' := fun g' e => by
                      rcases h7 with h7 | h7
                      · rw [h7] at e; exact hobB g' e
                      · rw [h7] at e
                        have e' := Option.some.inj e
                        omega
                    have hEC : Ext w6 wC := hET.grown h6 hzT hobB
                    refine hK.out _ _ ⟨hEC.keep q1, hEC.keep z0⟩ (fun hS1 => ?_)
                    clear hK hS
                    have hS := hS1
                    clear hS1
                    try clear K
                    try simp only [put_some, List.set]
                    have hzC := hEC.size
                    refine wpT_one 16 rfl (by kernel_rfl) rfl rfl (fun K hK => ?_)
                    refine wp_strs (L := L.take k ++ [nm]) (M := L.drop k) _ _ rfl rfl h5 (by rw [List.length_drop]; rfl) (HD.ext hEC) (by rw [hlC, List.length_drop]; omega) (by omega) (fun v' wD h8 h9 h10 => ?_)
                    have hED : Ext w6 wD := hEC.grown h9 hzC hobC
                    refine hK.out _ _ ⟨hED.keep q1, hED.keep z0⟩ (fun hS1 => ?_)
                    clear hK hS
                    have hS := hS1
                    clear hS1
                    try clear K
                    try simp only [put_some, List.set]
                    have HN : Hid (OwnL wD w4.heap.size v' (L.take k ++ [nm] ++ L.drop k)) := h8.low hz6
                    have HED := hid hED
                    clear h2 h3 h4 h5 h6 h7 h8 h9 h10 hEB hEC hED hET hobB hobC hOT hST hO0 hE0 HD HT hS q1 z0
                    refine wpT_last rfl (by kernel_rfl) (by kernel_rfl) rfl (fun K hK => ?_)
                    go_simp
                    refine hK.out _ _ ?_
                    clear hK
                    go_wp2_with fail
                    go_roundw
                    case rel => exact ⟨m + 1, L.take k ++ [nm] ++ L.drop k, by omega, by go_num, gb_tr HG6.out (gb_ext HED.out _), (HR6.out.ext HED.out).mono (by omega), HN.out, hsN, HLN.out⟩
                    case measure => simp [intOf]; omega
                · go_simp
                  refine hK.out _ _ ⟨(ext_alloc _ _).keep hS.1, (ext_alloc _ _).keep hS.2⟩ (fun hS1 => ?_)
                  clear hK hS
                  have hS := hS1
                  clear hS1
                  try clear K
                  try simp only [put_some, List.set]
                  refine wpT_one 0 rfl (by kernel_rfl) rfl rfl (fun K hK => ?_)
                  go_simp
                  refine hK.out _ _ ⟨(ext_alloc _ _).keep hS.1, (ext_alloc _ _).keep hS.2⟩ (fun hS1 => ?_)
                  clear hK hS
                  have hS := hS1
                  clear hS1
                  try clear K
                  try simp only [put_some, List.set]
                  refine wpT_one 4 rfl (by kernel_rfl) rfl rfl (fun K hK => ?_)
                  have hE0 : Ext w6 ((w6.drew.alloc (.cells #[.string (S nm)] 9)).alloc (.cells #[] 9)) := Ext.tr (Ext.tr (ext_drewN w6 1) (ext_alloc _ _)) (ext_alloc _ _)
                  have hO0 : OwnL ((w6.drew.alloc (.cells #[.string (S nm)] 9)).alloc (.cells #[] 9)) w6.heap.size (.slice (some ⟨w6.heap.size + 1, 0, none⟩) 0 0) [] := by have h := OwnL.made (w6.drew.alloc (.cells #[.string (S nm)] 9)) w6.heap.size (by simp); simpa using h
                  have hS0 := (one_str' w6.drew nm hln).ext (ext_alloc (w6.drew.alloc (.cells #[.string (S nm)] 9)) (.cells #[] 9))
                  refine wp_strs (L := []) (M := L.take k) _ _ rfl rfl hO0 (by rw [hlk]; rfl) (HT.out.ext hE0) (by rw [hlk]; first | (simp; done) | (simp; omega)) (by simp; try omega) (fun v' wB h2 h3 h4 => ?_)
                  rw [List.nil_append] at h2
                  obtain ⟨aB, cB, rfl⟩ := own_sl h2
                  rw [hlk] at h2 h4 ⊢
                  have hobB : ∀ g', (Value.slice aB k cB).ownBlock = some g' → w6.heap.size ≤ g' := fun g' e => by
                    rcases h4 with h4 | h4
                    · rw [h4] at e
                      have e' := Option.some.inj e
                      simp at e'
                      omega
                    · rw [h4] at e
                      have e' := Option.some.inj e
                      simp at e'
                      omega
                  have hEB : Ext w6 wB := hE0.grown h3 (by simp; try omega) (fun g' e => by
                    have e' := Option.some.inj e
                    simp at e'
                    omega)
                  refine hK.out _ _ ⟨hEB.keep q1, hEB.keep z0⟩ (fun hS1 => ?_)
                  clear hK hS
                  have hS := hS1
                  clear hS1
                  try clear K
                  try simp only [put_some, List.set]
                  have hET : Ext w6 wB := hEB
                  have hST := hS0.gb h3 (fun _ b o e => by
                    cases e
                    intro er
                    have e' := Option.some.inj er
                    simp at e')
                  have hOT := h2
                  have hzT := hET.size
                  refine wpT_one 12 rfl (by kernel_rfl) rfl rfl (fun K hK => ?_)
                  refine wp_strs (L := L.take k) (M := [nm]) _ _ rfl rfl hOT rfl hST (by rw [hlk]; first | (simp; done) | (simp; omega)) (by omega) (fun v' wC h5 h6 h7 => ?_)
                  obtain ⟨aC, cC, rfl⟩ := own_sl h5
                  have hlC : (L.take k ++ [nm]).length = k + 1 := by rw [List.length_append, hlk]; rfl
                  rw [hlC] at h5 h7 ⊢
                  have hobC : ∀ g', (Value.slice aC (k + 1) cC).ownBlock = some g' → w6.heap.size ≤ g' := fun g' e => by
                    rcases h7 with h7 | h7
                    · rw [h7] at e; exact hobB g' e
                    · rw [h7] at e
                      have e' := Option.some.inj e
                      omega
                  have hEC : Ext w6 wC := hET.grown h6 hzT hobB
                  refine hK.out _ _ ⟨hEC.keep q1, hEC.keep z0⟩ (fun hS1 => ?_)
                  clear hK hS
                  have hS := hS1
                  clear hS1
                  try clear K
                  try simp only [put_some, List.set]
                  have hzC := hEC.size
                  refine wpT_one 16 rfl (by kernel_rfl) rfl rfl (fun K hK => ?_)
                  refine wp_strs (L := L.take k ++ [nm]) (M := L.drop k) _ _ rfl rfl h5 (by rw [List.length_drop]; rfl) (HD.ext hEC) (by rw [hlC, List.length_drop]; omega) (by omega) (fun v' wD h8 h9 h10 => ?_)
                  have hED : Ext w6 wD := hEC.grown h9 hzC hobC
                  refine hK.out _ _ ⟨hED.keep q1, hED.keep z0⟩ (fun hS1 => ?_)
                  clear hK hS
                  have hS := hS1
                  clear hS1
                  try clear K
                  try simp only [put_some, List.set]
                  have HN : Hid (OwnL wD w4.heap.size v' (L.take k ++ [nm] ++ L.drop k)) := h8.low hz6
                  have HED := hid hED
                  clear h2 h3 h4 h5 h6 h7 h8 h9 h10 hEB hEC hED hET hobB hobC hOT hST hO0 hE0 HD HT hS q1 z0
                  refine wpT_last rfl (by kernel_rfl) (by kernel_rfl) rfl (fun K hK => ?_)
                  go_simp
                  refine hK.out _ _ ?_
                  clear hK
                  go_wp2_with fail
                  go_roundw
                  case rel => exact ⟨m + 1, L.take k ++ [nm] ++ L.drop k, by omega, by go_num, gb_tr HG6.out (gb_ext HED.out _), (HR6.out.ext HED.out).mono (by omega), HN.out, hsN, HLN.out⟩
                  case measure => simp [intOf]; omega
          · have hge : ¬ ((m : Int) < (b.batches.length : Int)) := by omega
            go_wp2_with fail
            go_meet
            exact ⟨L, HGl.out, HRl.out.mono (by omega), HOl.out, hsl, hl7⟩
    case rest =>
      obtain ⟨L, hg, hr, ho, hsl, hll⟩ := hcut
      obtain ⟨aL, cL, rfl⟩ := own_sl ho
      have HG7 := hid hg
      have HR7 := hid hr
      have HO7 := hid ho
      clear hg hr ho HG HR HO
      go_upto_region 11 with fail
      go_cut [6, 63] (fun s6 v wx => s6 = .slice aL L.length cL ∧ (∃ x : Bool, v = .bool x ∧ (x = true → 0 < L.length)) ∧ w4.grownBy wx (some (w.heap.size + 1)) ∧ Rd wx (w.heap.size + 1) 3121 ∧ OwnL wx w4.heap.size (.slice aL L.length cL) L)
      case first =>
        by_cases hl0 : 0 < L.length
        · have hli : (0 : Int) < (L.length : Int) := by omega
          go_wp2_with fail
          refine (pick_any (w.heap.size + 1) 3120 12 _ HR7.out (by omega) (by omega) (by omega)).mono ?_
          rintro e w6 ⟨j, rfl, hj, hg6, hr6⟩
          have HG6 := hid (gb_tr HG7.out hg6)
          have HR6 := hid hr6
          have HO6 := hid (HO7.out.far hg6 (fun k e => by cases e; omega))
          clear hg6 hr6
          go_wp2_with fail
          go_meet
          exact ⟨rfl, ⟨_, rfl, fun _ => hl0⟩, HG6.out, HR6.out, HO6.out⟩
        · have hli : ¬ ((0 : Int) < (L.length : Int)) := by omega
          go_wp2_with fail
          go_meet
          exact ⟨rfl, ⟨false, rfl, (fun h => by cases h)⟩, HG7.out, HR7.out.mono (by omega), HO7.out⟩
      case rest =>
        obtain ⟨rfl, ⟨x', rfl, hx'⟩, hg, hr, ho⟩ := hcut
        have HG8 := hid hg
        have HR8 := hid hr
        have HO8 := hid ho
        clear hg hr ho HG7 HR7 HO7
        go_upto_if 63 with fail
        go_cut [6] (fun s6 wx => s6 = .slice aL L.length cL ∧ ∃ L' : List Str, L'.length = L.length ∧ w4.grownBy wx (some (w.heap.size + 1)) ∧ Rd wx (w.heap.size + 1) 3130 ∧ OwnL wx w4.heap.size (.slice aL L.length cL) L' ∧ ShortL L')
        case first =>
          cases x'
          · go_wp2_with fail
            go_meet
            exact ⟨rfl, L, rfl, HG8.out, HR8.out.mono (by omega), HO8.out, hsl⟩
          · have hl0 := hx' rfl
            go_wp2_with fail
            refine (pick_any (w.heap.size + 1) 3121 L.length _ HR8.out (by omega) hl0 (by omega)).mono ?_
            rintro e w6 ⟨k, rfl, hk, hg6, hr6⟩
            have HG6 := hid (gb_tr HG8.out hg6)
            have HR6 := hid hr6
            have HO6 := hid (HO8.out.far hg6 (fun k e => by cases e; omega))
            clear hg6 hr6
            go_wp2_with fail
            have hfA : StrsAt (w6.alloc (.cells #[.string (S []), .string (S [97, 108, 101]), .string (S [122, 122])] 9)) (some ⟨w6.heap.size, 0, none⟩) wordsF := rec_strs (Rec.new w6 _ _) wordsF_short
            have hrA := HR6.out.ext (ext_alloc w6 (.cells #[.string (S []), .string (S [97, 108, 101]), .string (S [122, 122])] 9))
            have hof := of_any (w.heap.size + 1) (3121 + 1) _ 3 wordsF _ hrA (by omega) hfA (by simp [wordsF]) (by simp [wordsF]) (fun b' o' e' => hfA.notR hrA (by simp [wordsF]) b' o' e')
            have e3 : wordsF.length = 3 := rfl
            rw [e3] at hof
            refine hof.mono ?_
            clear hof
            rintro e wB ⟨jB, hjB, rfl, hgB, hrB⟩
            have hwl : (nth wordsF jB).length ≤ 140737488355328 := wordsF_short.2 jB (by rw [e3]; exact hjB)
            have HGB := hid (gb_tr (gb_tr HG6.out (gb_ext (ext_alloc _ _) _)) hgB)
            have HRB := hid hrB
            have HOB := hid ((HO6.out.ext (ext_alloc w6 (.cells #[.string (S []), .string (S [97, 108, 101]), .string (S [122, 122])] 9))).far hgB (fun k e => by cases e; omega))
            clear hgB hrB hfA hrA
            obtain ⟨g, cap, ev, hgb, hqc, hqf⟩ := own_cell HOB.out (j := k) (u := .string (S (nth L k))) (by rw [List.getElem?_map, List.getElem?_eq_getElem hk, nth_get hk]; rfl)
            simp only [Value.slice.injEq] at ev
            have ev1 := ev.1
            clear ev
            subst ev1
            have HOS := hid (World.ownsRow.stored HOB.out k (.string (S (nth wordsF jB)))).1
            have hgs := gb_store wB g k (.string (S (nth wordsF jB)))
            have HGS := hid (on_grown HGB.out hgs (fun b' e' => by cases e'; omega))
            have HRS : Hid (Rd (wB.setCell ⟨g, k, none⟩ (.string (S (nth wordsF jB)))) (w.heap.size + 1) (3121 + 1 + 1)) := HRB.out.gb hgs (fun b' e' => by cases e'; omega)
            clear hgs
            go_wp2_with fail
            go_meet
            exact ⟨rfl, L.set k (nth wordsF jB), by simp, HGS.out, HRS.out.mono (by omega), by
              have h1 := HOS.out
              have e : (L.map fun s => Value.string (S s)).set k (.string (S (nth wordsF jB))) = (L.set k (nth wordsF jB)).map fun s => Value.string (S s) := by rw [List.map_set]
              rw [e] at h1
              unfold OwnL
              rw [List.length_set]
              exact h1, by
              rw [short_iff] at hsl ⊢
              intro y hy
              rcases List.mem_or_eq_of_mem_set hy with hy | rfl
              · exact hsl y hy
              · exact hwl⟩
        case rest =>
          obtain ⟨rfl, L', hlen', hg, hr, ho, hsl'⟩ := hcut
          have HB9 := hid (HB2.out.on HRd2.out hg)
          have HX9 := hid (HRX2.out.kept hg (by simp; omega))
          have HRR9 := hid (HRR2.out.kept hg (by simp))
          have HE9 := hid (on_new HE2.out (by omega) hg)
          have HO9 := hid ho
          have HLE := hid hlen'
          clear hg hr ho hlen'
          have q0 := HX9.out.cell (i := 0) rfl
          have q1 := HX9.out.cell (i := 1) rfl
          have t0 := HRR9.out.cell (i := 0) rfl
          have t1 := HRR9.out.cell (i := 1) rfl
          have f0 := HRR9.out.frozen 0
          have f1 := HRR9.out.frozen 1
          go_wp2
          have hE3 : Ext w ((wc.setCell ⟨w.heap.size, 0, none⟩ (.slice x1 b.things.length y1)).setCell ⟨w.heap.size, 1, none⟩ (.slice x2 b.batches.length y2)) := (HE9.out.setCell (by simp) _).setCell (by simp) _
          have hB3 : BookAt ((wc.setCell ⟨w.heap.size, 0, none⟩ (.slice x1 b.things.length y1)).setCell ⟨w.heap.size, 1, none⟩ (.slice x2 b.batches.length y2)) x1 x2 b := (HB9.out.box HRR9.out noStr2).box (HRR9.out.set 0 _) noStr2
          have hO3 := (HO9.out.stored HRR9.out rfl 0 (.slice x1 b.things.length y1)).stored (HRR9.out.set 0 _) rfl 1 (.slice x2 b.batches.length y2)
          obtain ⟨a3, c3, ee, hat⟩ := hO3.at (by rw [HLE.out]; omega) hsl'
          simp only [Value.slice.injEq] at ee
          obtain ⟨rfl, _, rfl⟩ := ee
          have hcap : L'.length ≤ cL := by
            rcases hO3.2 with ⟨e', h0⟩ | ⟨_, _, _, e', _, _, h1, _⟩
            · omega
            · simp only [Value.slice.injEq] at e'
              omega
          refine bodyPost_ret (v := .tuple #[.agg #[.slice x1 b.things.length y1, .slice x2 b.batches.length y2], .slice aL L'.length cL]) (by simp [results, Try.results18, go_sem, t0, t1, HLE.out]) rfl ⟨b, L', x1, x2, aL, y1, y2, cL, rfl, hE3, hB3, hat, hcap, hsm⟩
end Go.Proofs.Ytdafpnpfcmgfcaa
