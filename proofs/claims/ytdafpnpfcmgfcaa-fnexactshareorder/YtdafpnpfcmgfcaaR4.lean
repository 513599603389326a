/- The walk over the program's ShareOrder and ShareSafe. -/
import Derived.Test.YtdafpnpfcmgfcaaR5
namespace Go.Proofs.Ytdafpnpfcmgfcaa
open Go.RowKit Go.Shelf
attribute [local go_sem] Oper.semAt_some
attribute [local go_sem] S_toList S_size S_get

set_option maxHeartbeats 400000 in
theorem goers_any (b : Book) (a1 a2 : Option Addr) (c1 c2 : Nat) (w : World) :
    Calls Try.prog 35 #[.agg #[.slice a1 b.things.length c1, .slice a2 b.batches.length c2]] w fun e w' =>
      e = .returned (.func (.func 64) #[] #[.pointer (some ⟨w.heap.size, 0, none⟩)]) ∧ w' = w.alloc (.cells #[.slice a1 b.things.length c1, .slice a2 b.batches.length c2] 26) := by
  go_enter Try.func35, Try.ntmps35
  go_wp2
  go_ret
  exact ⟨rfl, rfl⟩

/-- The box of the order holds the names of those who have come. -/
def OrdX (b : Book) (w1 : World) (xs : List (At b)) (W : World) : Prop :=
  xs.length = b.batches.length ∧ (∃ v, Boxed W w1.heap.size 23 v ∧ OwnL W w1.heap.size v (namesAt b xs)) ∧ Below w1.heap.size w1 W
def OrdI (b : Book) (w1 : World) (xs : List (At b)) (W : World) : Prop :=
  (xs.length < b.batches.length ∨ b.batches.length = 0) ∧ (∃ v, Boxed W w1.heap.size 23 v ∧ OwnL W w1.heap.size v (namesAt b xs)) ∧ Below w1.heap.size w1 W
theorem ord_quiet {b : Book} {w1 A B : World} {n : Nat} {xs : List (At b)} (hn : w1.heap.size ≤ n) (q : Quieter n A B) (h : (∃ v, Boxed A w1.heap.size 23 v ∧ OwnL A w1.heap.size v (namesAt b xs)) ∧ Below w1.heap.size w1 A) :
    (∃ v, Boxed B w1.heap.size 23 v ∧ OwnL B w1.heap.size v (namesAt b xs)) ∧ Below w1.heap.size w1 B := by
  obtain ⟨⟨v, h1, h2⟩, h3⟩ := h
  exact ⟨⟨v, q.same _ _ h1 rfl rfl, ownsRow_block h2 (fun g c hg => q.same _ _ hg rfl rfl)⟩, h3.trans (q.below.mono hn)⟩
theorem OrdI.quiet {b : Book} {w1 : World} {n : Nat} (hn : w1.heap.size ≤ n) : ∀ s A B, OrdI b w1 s A → Quieter n A B → OrdI b w1 s B := fun _ _ _ h q => ⟨h.1, ord_quiet hn q h.2⟩
theorem OrdX.quiet {b : Book} {w1 : World} {n : Nat} (hn : w1.heap.size ≤ n) : ∀ s A B, OrdX b w1 s A → Quieter n A B → OrdX b w1 s B := fun _ _ _ h q => ⟨h.1, ord_quiet hn q h.2⟩

theorem own_len {w : World} {base : Nat} {v : Value} {ss : List Str} (h : OwnL w base v ss) : ∃ a cap, v = .slice a ss.length cap := by
  rcases h.2 with ⟨rfl, h0⟩ | ⟨g, cap, cur, rfl, _⟩
  · exact ⟨none, 0, by rw [h0]⟩
  · exact ⟨_, cap, rfl⟩
theorem Gr.none {b : Book} {xs : List (At b)} (hok : bookOk b = true) (h : Gr b xs) (hn : nextOf b (namesAt b xs) = none) (hlt : xs.length < b.batches.length) : orderL b = [] ∧ safeB b = false := by
  have e : orderOf b = Option.none := by
    have e1 : b.batches.length = (b.batches.length - xs.length - 1 + 1) + xs.length := by omega
    unfold orderOf
    rw [if_pos hok, e1, h, greedy_none hn]
  constructor
  · simp [orderL, e]
  · simp [safeB, e]
theorem Gr.all {b : Book} {xs : List (At b)} (hok : bookOk b = true) (h : Gr b xs) (hlen : xs.length = b.batches.length) : orderL b = namesAt b xs ∧ safeB b = true := by
  have e : orderOf b = some (namesAt b xs) := by
    have e1 : b.batches.length = 0 + xs.length := by omega
    unfold orderOf
    rw [if_pos hok, e1, h]; rfl
  constructor
  · simp [orderL, e]
  · simp [safeB, e]
theorem at_none {b : Book} (h : b.batches.length = 0) (xs : List (At b)) : xs.length = b.batches.length := by
  cases xs with
  | nil => simp [h]
  | cons x _ => exact absurd x.2 (by omega)
theorem own_base {w : World} {base base' : Nat} {v : Value} {ss : List Str} (h : OwnL w base v ss) (hb : base' ≤ base) : OwnL w base' v ss := by
  refine ⟨h.1, ?_⟩
  rcases h.2 with h2 | ⟨g, cap, cur, hv, hg, r⟩
  · exact Or.inl h2
  · exact Or.inr ⟨g, cap, cur, hv, by omega, r⟩

set_option maxHeartbeats 1000000 in
set_option maxRecDepth 100000 in
theorem implOrder_any (b : Book) (a1 a2 : Option Addr) (c1 c2 : Nat) (w : World) (hb : BookAt w a1 a2 b) :
    Calls Try.prog 10 #[.agg #[.slice a1 b.things.length c1, .slice a2 b.batches.length c2]] w fun e w' =>
      ∃ v, e = .returned (.tuple #[v, .bool (safeB b)]) ∧ Ext w w' ∧ OwnL w' w.heap.size v (orderL b) := by
  have hal : ∀ o, Ext w (w.alloc o) := fun o => (Below.refl _ _).alloc (Nat.le_refl _) _
  have hn := hb.2.1
  obtain ⟨i0, hi, hz0, hz1, hz2⟩ := info_str
  cases hok : bookOk b
  · have HF : Hid (orderL b = [] ∧ safeB b = false) := by constructor <;> simp [orderL, safeB, orderOf, hok]
    go_enter Try.func10, Try.ntmps10
    go_wp2_with fail
    refine (implBookOk_any b _ _ _ _ _ (hb.ext (hal _))).mono ?_
    rintro e w1 ⟨rfl, hext1⟩
    have HE1 := hid (Ext.tr (hal _) hext1)
    clear hext1
    go_wp2_with fail
    go_ret2
    refine ⟨.slice none 0 0, by rw [HF.out.2]; rfl, HE1.out, ?_⟩
    rw [HF.out.1]; exact World.ownsRow_nil _ _ _ _
  · have HOK := hid hok
    clear hok
    refine callsIn_wide.1 (callsIn_of_wp_marks (n := 0) Try.func10 rfl trivial (wpIn_wide.2 ?_) rfl)
    simp only [Try.ntmps10, List.size_toArray, List.length_cons, List.length_nil, Nat.reduceAdd, Nat.reduceSub, Array.replicate_succ, Array.replicate_zero, List.push_toArray, List.append_toArray, List.nil_append, List.cons_append]
    go_wp2_with fail
    refine (implBookOk_any b _ _ _ _ _ (hb.ext (hal _))).mono ?_
    rintro e w1 ⟨rfl, hext1⟩
    have HE1 := hid hext1
    clear hext1
    have hx0 := box_cell HE1.out (i := 0) rfl
    have hx1 := box_cell HE1.out (i := 1) rfl
    have hok := HOK.out
    have hzz := HE1.out.size
    simp at hzz
    have hzz' : w.heap.size < w1.heap.size := hzz
    go_wp2_with fail
    refine (goers_any b _ _ _ _ _).mono ?_
    rintro e w2 ⟨rfl, rfl⟩
    go_wp2_with fail
    have HE0 := hid (Ext.tr (hal _) HE1.out)
    have hbox := Boxed.new w1 23 (.slice none 0 0)
    have hB0 : Below w1.heap.size w1 ((w1.alloc (.cells #[.slice none 0 0] 23)).alloc (.cells #[.slice a1 b.things.length c1, .slice a2 b.batches.length c2] 26)) := ((Below.refl _ w1).alloc (Nat.le_refl _) _).alloc (by simp) _
    have hs0 : (w1.alloc (.cells #[.slice none 0 0] 23)).heap.size = w1.heap.size + 1 := by simp
    have g0 : ((w1.alloc (.cells #[.slice none 0 0] 23)).alloc (.cells #[.slice a1 b.things.length c1, .slice a2 b.batches.length c2] 26)).cell? ⟨w1.heap.size + 1, 0, none⟩ = some (.slice a1 b.things.length c1) := by
      rw [← hs0]; simp
    have g1 : ((w1.alloc (.cells #[.slice none 0 0] 23)).alloc (.cells #[.slice a1 b.things.length c1, .slice a2 b.batches.length c2] 26)).cell? ⟨w1.heap.size + 1, 1, none⟩ = some (.slice a2 b.batches.length c2) := by
      rw [← hs0]; simp
    refine wp_range_state (gf := 64) (lb := #[.pointer (some ⟨w1.heap.size + 1, 0, none⟩)]) rfl (enters_of Try.func64 (by kernel_rfl) rfl) (fun x : At b => .int .i64 ((x.val : Nat) : Int)) rfl
      (goers_state b (w1.heap.size + 1) a1 a2 c1 c2 _ g0 g1 (hb.ext (Ext.tr HE0.out hB0)) HOK.out)
      (OrdI b w1) (OrdX b w1) (OrdI.quiet (by simp; omega)) (OrdX.quiet (by simp; omega)) ?start
      (fun x => { tmps := #[.agg #[.slice a1 b.things.length c1, .slice a2 b.batches.length c2], .pointer (some ⟨w.heap.size, 0, none⟩), .slice none 0 0, .bool false, .pointer (some ⟨w1.heap.size, 0, none⟩), .int .i64 ((x.val : Nat) : Int), .agg #[.slice a1 b.things.length c1, .slice a2 b.batches.length c2], .bool true, .bool false, .agg #[.slice a1 b.things.length c1, .slice a2 b.batches.length c2], .func (.func 64) #[] #[.pointer (some ⟨w1.heap.size + 1, 0, none⟩)], .int .i64 ((x.val : Nat) : Int), undef, undef, undef, undef, undef, undef, undef, undef, undef, undef, undef, undef, undef, undef, undef, undef, undef, undef, undef, undef, undef, undef], defers := [] }) 0 ?assign ?body ?done ?stop
    case start =>
      refine ⟨by simp only [List.length_nil]; omega, ⟨.slice none 0 0, hbox.alloc _, World.ownsRow_nil _ _ _ _⟩, hB0⟩
    case assign =>
      intro l x W K hK
      gi_wp2
      exact hK
    case body =>
      rintro l pre x W ⟨hlen, ⟨v, hv, hrow⟩, hB⟩
      have hlt : pre.length < b.batches.length := by have := x.2; omega
      have hN : pre.length ≤ 5 := by have := ok_five HOK.out; omega
      have hb' := hb.ext (Ext.tr HE0.out hB)
      have p0 := (hB.cell (p := ⟨w.heap.size, 0, none⟩) hzz').trans hx0
      have p1 := (hB.cell (p := ⟨w.heap.size, 1, none⟩) hzz').trans hx1
      have hc := hv.cell
      have hxl := x.2
      have hlm : (namesAt b pre).length = pre.length := by simp [namesAt]
      obtain ⟨ba, oa, rfl, hl, d1, q1, d2, q2, n0, n1, n2, s1, s2⟩ := hb'.2.2 x.val x.2
      have hvl := hv.lt
      have HROW := hid hrow
      have HV := hid hv
      have HB := hid hB
      have HSM := hid s1
      clear hrow hv hB hb' s1 s2 n1 n2 hx0 hx1 g0 g1 hbox hB0 hs0
      gi_wp2_with fail
      refine wpIn_region_round l (by kernel_rfl) (by kernel_rfl) (by rintro ⟨_, _, h⟩; exact h) ?_
      refine with_tail (m := 2) (i := 8) (j := 9) (A := { tmps := #[.agg #[.slice a1 b.things.length c1, .slice (some ⟨ba, oa, none⟩) b.batches.length c2], .pointer (some ⟨w.heap.size, 0, none⟩), .slice none 0 0, .bool false, .pointer (some ⟨w1.heap.size, 0, none⟩), .int .i64 ((x.val : Nat) : Int), .agg #[.slice a1 b.things.length c1, .slice (some ⟨ba, oa, none⟩) b.batches.length c2], .bool true, .bool false, .agg #[.slice a1 b.things.length c1, .slice (some ⟨ba, oa, none⟩) b.batches.length c2], .func (.func 64) #[] #[.pointer (some ⟨w1.heap.size + 1, 0, none⟩)], .int .i64 ((x.val : Nat) : Int), v, .pointer (some ⟨w.heap.size, 1, none⟩), .slice (some ⟨ba, oa, none⟩) b.batches.length c2, .int .i64 ((x.val : Nat) : Int), .pointer (some ⟨ba, oa + x.val * 3, none⟩), .pointer (some ⟨ba, oa + x.val * 3, none⟩), .string (S (nthB b.batches x.val).name), .slice (some ⟨W.heap.size, 0, none⟩) 1 1, undef, undef, undef, undef, undef, undef, undef, undef, undef, undef, undef, undef, undef, undef], defers := [] }) (W' := W.drew.alloc (.cells #[.string (S (nthB b.batches x.val).name)] 9)) (fun ht => ?main) ?tail
      case main =>
        refine wpAny_take (i := 1) (v := ?_) rfl (by kernel_rfl) (by kernel_rfl) (by kernel_rfl) (fun _ _ _ h => h) (Or.inl ⟨by rfl, by intro w; go_simp; rfl⟩) ?_
        refine wpAny_take (i := 3) (v := ?_) rfl (by kernel_rfl) (by kernel_rfl) (by kernel_rfl) (fun _ _ _ h => h) (Or.inl ⟨by rfl, by intro w; go_simp; rfl⟩) ?_
        refine wpAny_ready (rs := [0, 2]) (by kernel_rfl) (by simp) (AllReady.cons rfl (fun K hK => ?_) (AllReady.cons rfl (fun K hK => ?_) AllReady.nil))
        · go_simp
          refine hK _ _ ?_
          clear hK K
          refine wpAny_ready (rs := [2]) (by kernel_rfl) (by simp) (AllReady.cons rfl (fun K hK => ?_) AllReady.nil)
          go_simp
          refine hK _ _ ?_
          clear hK K
          refine wpAny_ready (rs := [4]) (by kernel_rfl) (by simp) (AllReady.cons rfl (fun K hK => ?_) AllReady.nil)
          go_simp
          refine hK _ _ ?_
          clear hK K
          refine wpAny_ready (rs := [5]) (by kernel_rfl) (by simp) (AllReady.cons rfl (fun K hK => ?_) AllReady.nil)
          go_simp
          refine hK _ _ ?_
          clear hK K
          refine wpAny_ready (rs := [6]) (by kernel_rfl) (by simp) (AllReady.cons rfl (fun K hK => ?_) AllReady.nil)
          go_simp
          refine hK _ _ ?_
          clear hK K
          refine wpAny_ready (rs := [7]) (by kernel_rfl) (by simp) (AllReady.cons rfl (fun K hK => ?_) AllReady.nil)
          go_simp
          refine hK _ _ ?_
          clear hK K
          exact ht _ ⟨by kernel_rfl, by kernel_rfl, by kernel_rfl⟩
        · go_simp
          refine hK _ _ ?_
          clear hK K
          refine wpAny_take (i := 4) (v := ?_) rfl (by kernel_rfl) (by kernel_rfl) (by kernel_rfl) (fun _ _ _ h => h) (Or.inl ⟨by rfl, by intro w; go_simp; rfl⟩) ?_
          refine wpAny_take (i := 5) (v := ?_) rfl (by kernel_rfl) (by kernel_rfl) (by kernel_rfl) (fun _ _ _ h => h) (Or.inl ⟨by rfl, by intro w; go_simp; rfl⟩) ?_
          refine wpAny_ready (rs := [0, 6]) (by kernel_rfl) (by simp) (AllReady.cons rfl (fun K hK => ?_) (AllReady.cons rfl (fun K hK => ?_) AllReady.nil))
          · go_simp
            refine hK _ _ ?_
            clear hK K
            refine wpAny_ready (rs := [6]) (by kernel_rfl) (by simp) (AllReady.cons rfl (fun K hK => ?_) AllReady.nil)
            go_simp
            refine hK _ _ ?_
            clear hK K
            refine wpAny_ready (rs := [7]) (by kernel_rfl) (by simp) (AllReady.cons rfl (fun K hK => ?_) AllReady.nil)
            go_simp
            refine hK _ _ ?_
            clear hK K
            exact ht _ ⟨by kernel_rfl, by kernel_rfl, by kernel_rfl⟩
          · go_simp
            refine hK _ _ ?_
            clear hK K
            refine wpAny_ready (rs := [0, 7]) (by kernel_rfl) (by simp) (AllReady.cons rfl (fun K hK => ?_) (AllReady.cons rfl (fun K hK => ?_) AllReady.nil))
            · go_simp
              refine hK _ _ ?_
              clear hK K
              refine wpAny_ready (rs := [7]) (by kernel_rfl) (by simp) (AllReady.cons rfl (fun K hK => ?_) AllReady.nil)
              go_simp
              refine hK _ _ ?_
              clear hK K
              exact ht _ ⟨by kernel_rfl, by kernel_rfl, by kernel_rfl⟩
            · go_simp
              refine hK _ _ ?_
              clear hK K
              refine wpAny_ready (rs := [0]) (by kernel_rfl) (by simp) (AllReady.cons rfl (fun K hK => ?_) AllReady.nil)
              go_simp
              refine hK _ _ ?_
              clear hK K
              exact ht _ ⟨by kernel_rfl, by kernel_rfl, by kernel_rfl⟩
      case tail =>
        rintro L' ⟨r1, r2, r3⟩
        have hvd : Boxed W.drew w1.heap.size 23 v := HV.out
        have hrowd : W.drew.ownsRow w1.heap.size 9 1 v (namesAt b pre).length ((namesAt b pre).map fun s => .string (S s)) := HROW.out.drew
        have hsz : w1.heap.size ≤ W.drew.heap.size := HB.out.size
        refine wpAny_ready (rs := [8]) r1 (by simp) (AllReady.cons rfl (fun K hK => ?_) AllReady.nil)
        refine step_append_own_at rfl (.tmp 12) (.tmp 19) 23 rfl w1.heap.size 9 i0 (.string (S [])) 1 16 Try.underlying23 hi hz0 hz1 hz2 rfl (by decide) v _ _ rfl (hrowd.alloc _) ⟨W.heap.size, 0, none⟩ 1 1 [.string (S (nthB b.batches x.val).name)] rfl rfl (cell_one_new _ _ _) (by simp [Value.oneCell']) (by unfold maxLen; omega) (by omega) (by simp; omega) ?_
        intro v' w2 hown' hgrow _
        obtain ⟨g', cap', rfl⟩ := ownsRow_succ hown'
        obtain ⟨hv1, hv2, hr2, hk2, hb2⟩ := hvd.appended (by decide) hrowd hsz (Nat.le_refl _) hown' hgrow
        have hkp := kp_appended (v' := .slice (some ⟨g', 0, none⟩) ((namesAt b pre).length + 1) cap') rfl rfl hrowd hv1 hgrow
        have hown3 : OwnL (w2.setCell ⟨w1.heap.size, 0, none⟩ (.slice (some ⟨g', 0, none⟩) ((namesAt b pre).length + 1) cap')) w1.heap.size (.slice (some ⟨g', 0, none⟩) ((namesAt b pre).length + 1) cap') (namesAt b (pre ++ [x])) := by
          rw [namesAt_snoc]; exact OwnL.step hr2
        rw [hlm] at hv2 hk2 hb2 hkp hown3
        clear hr2 hown' hgrow
        have hc1 := hv1.cell
        have hf1 := hv1.frozen
        refine hK _ _ ?_
        clear hK K
        refine wpAny_ready (rs := [9]) r2 (by simp) (AllReady.cons rfl (fun K hK => ?_) AllReady.nil)
        go_simp
        refine hK _ _ ?_
        clear hK K
        refine wpAny_done r3 ?_ _
        generalize w2.setCell ⟨w1.heap.size, 0, none⟩ (.slice (some ⟨g', 0, none⟩) (pre.length + 1) cap') = W3 at hv2 hk2 hb2 hkp hown3 ⊢
        have HV3 := hid hv2
        have HO3 := hid hown3
        have HK3 : Hid (KeepsOthers W W3) := ⟨hk2.size, hk2.same⟩
        have HP3 : Hid (Kp W W3) := hkp
        have HB3 : Hid (Below w1.heap.size w1 W3) := Below.trans HB.out.drew hb2
        have hc3 := hv2.cell
        have t0 : W3.cell? ⟨w.heap.size, 0, none⟩ = some (.slice a1 b.things.length c1) := (hb2.cell (p := ⟨w.heap.size, 0, none⟩) hzz').trans p0
        have t1 : W3.cell? ⟨w.heap.size, 1, none⟩ = some (.slice (some ⟨ba, oa, none⟩) b.batches.length c2) := (hb2.cell (p := ⟨w.heap.size, 1, none⟩) hzz').trans p1
        have hls : (pre ++ [x]).length = pre.length + 1 := by simp
        clear hv2 hk2 hb2 hkp hown3 hv1 hc1 hf1 r1 r2 r3 hvd hrowd p0 p1 hc n0
        by_cases hlast : pre.length + 1 = b.batches.length
        · gi_wp2
          exact ⟨HK3.out, rfl, by rw [hls]; exact hlast, ⟨_, HV3.out, HO3.out⟩, HB3.out⟩
        · gi_wp2
          exact ⟨HK3.out, HP3.out, by rw [hls]; omega, ⟨_, HV3.out, HO3.out⟩, HB3.out⟩
    case done =>
      rintro D xs W hD ⟨hgr, hnone⟩ ⟨hlen, ⟨v, hv, hrow⟩, hB⟩ hK
      have p0 := (hB.cell (p := ⟨w.heap.size, 0, none⟩) hzz').trans hx0
      have p1 := (hB.cell (p := ⟨w.heap.size, 1, none⟩) hzz').trans hx1
      have hlm : (namesAt b xs).length = xs.length := by simp [namesAt]
      obtain ⟨av, cv, rfl⟩ := own_len hrow
      rw [hlm] at hv
      have hc := hv.cell
      have HROW := hid hrow
      have HB : Hid (Ext w (W.putObj D (.deferred none))) := Ext.tr HE0.out (hB.trans (belowK_b (w := w1) (Nat.le_refl _) W D _ _ (by simp at hD; omega) hK rfl rfl))
      have HN := hid hnone
      have HGR := hid hgr
      clear hnone hgr hrow hB hx0 hx1 g0 g1 hbox hB0 hs0 hv
      rcases hlen with hlt | hz
      · have HF := hid (Gr.none HOK.out HGR.out HN.out hlt)
        go_wp2
        refine ⟨by simp, .inl ⟨_, _, rfl, run_takeDeferred hK, ?_⟩⟩
        refine ⟨_, results_tmp2 rfl _ _ _, .slice none 0 0, by rw [HF.out.2]; rfl, HB.out, ?_⟩
        rw [HF.out.1]; exact World.ownsRow_nil _ _ _ _
      · have hall := at_none hz xs
        have HF := hid (Gr.all HOK.out HGR.out hall)
        have HR : Hid (OwnL (W.putObj D (.deferred none)) w.heap.size (.slice av (namesAt b xs).length cv) (namesAt b xs)) := own_base (ownsRow_putObj HROW.out _ hK rfl) (by omega)
        go_wp2
        refine ⟨by simp, .inl ⟨_, _, rfl, run_takeDeferred hK, ?_⟩⟩
        refine ⟨_, results_tmp2 rfl _ _ _, .slice av (namesAt b xs).length cv, by rw [HF.out.2, hlm, hall, hz]; rfl, HB.out, ?_⟩
        rw [HF.out.1]; exact HR.out
    case stop =>
      rintro D xs W hD hgr ⟨hlen, ⟨v, hv, hrow⟩, hB⟩ hK
      have p0 := (hB.cell (p := ⟨w.heap.size, 0, none⟩) hzz').trans hx0
      have p1 := (hB.cell (p := ⟨w.heap.size, 1, none⟩) hzz').trans hx1
      have hlm : (namesAt b xs).length = xs.length := by simp [namesAt]
      obtain ⟨av, cv, rfl⟩ := own_len hrow
      rw [hlm] at hv
      have hc := hv.cell
      have HROW := hid hrow
      have HB : Hid (Ext w (W.putObj D (.deferred none))) := Ext.tr HE0.out (hB.trans (belowK_b (w := w1) (Nat.le_refl _) W D _ _ (by simp at hD; omega) hK rfl rfl))
      have HF := hid (Gr.all HOK.out hgr hlen)
      have HR : Hid (OwnL (W.putObj D (.deferred none)) w.heap.size (.slice av (namesAt b xs).length cv) (namesAt b xs)) := own_base (ownsRow_putObj HROW.out _ hK rfl) (by omega)
      clear hgr hrow hB hx0 hx1 g0 g1 hbox hB0 hs0 hv
      go_wp2
      refine ⟨by simp, .inl ⟨_, _, rfl, run_takeDeferred hK, ?_⟩⟩
      refine ⟨_, results_tmp2 rfl _ _ _, .slice av (namesAt b xs).length cv, by rw [HF.out.2, hlm, hlen]; rfl, HB.out, ?_⟩
      rw [HF.out.1]; exact HR.out

set_option maxHeartbeats 400000 in
theorem implSafe_any (b : Book) (a1 a2 : Option Addr) (c1 c2 : Nat) (w : World) (hb : BookAt w a1 a2 b) :
    Calls Try.prog 13 #[.agg #[.slice a1 b.things.length c1, .slice a2 b.batches.length c2]] w fun e w' => e = .returned (.bool (safeB b)) ∧ Ext w w' := by
  go_enter Try.func13, Try.ntmps13
  go_wp2_with fail
  refine (implOrder_any b _ _ _ _ _ (hb.ext (ext_alloc _ _))).mono ?_
  rintro e w1 ⟨v, rfl, hext, _⟩
  have HE := hid (Ext.tr (ext_alloc _ _) hext)
  clear hext
  go_wp2_with fail
  go_ret
  exact ⟨rfl, HE.out⟩
end Go.Proofs.Ytdafpnpfcmgfcaa
