/- ShareStuck, beside those that are only leaving. The frame of the law FnMoves. -/
import Derived.Test.YtdafpnpfcmgfcaaGreatJK
import Derived.Test.YtdafpnpfcmgfcaaGreatKF
import Derived.Test.YtdafpnpfcmgfcaaGreatJX
namespace Go.Proofs.YtdafpnpfcmgfcaaGreat
open Go Go.Conc Go.ConcN Go.RowKit
attribute [local go_sem] S_toList S_size S_get

set_option maxHeartbeats 1000000 in
set_option maxRecDepth 100000 in
theorem stuck_m [Floor] (b : Book) (a1 a2 : Option Addr) (c1 c2 : Nat) (v : World) (hb : BookAt v a1 a2 b) (hfl : Floor.low ≤ v.heap.size) :
    CallsM Tryz.prog 8 #[.agg #[.slice a1 b.things.length c1, .slice a2 b.batches.length c2]] v (fun r v' => Grew v v' ∧ r = .bool (stuckB b)) := by
  refine callsM_of Tryz.func8 (by kernel_rfl) rfl ?_
  simp only [Tryz.ntmps8, List.size_toArray, List.length_cons, List.length_nil, Nat.reduceAdd, Nat.reduceSub, Array.replicate_succ, Array.replicate_zero, List.push_toArray, List.append_toArray, List.nil_append, List.cons_append]
  refine mw_front tamed 1 rfl (by kernel_rfl) (by kernel_rfl) (fun T => ?_)
  generalize hw : World.re v 0 T = w
  have HG0 : Hid (Grew v w) := by subst hw; exact Grew.re v 0 T
  replace hb : BookAt w a1 a2 b := by subst hw; exact hb
  have HFL : Hid (Floor.low ≤ w.heap.size) := by subst hw; exact hfl
  clear hw hfl
  have hal : ∀ o, Ext w (w.alloc o) := fun o => (Below.refl _ _).alloc (Nat.le_refl _) _
  refine wpF_k (fun K hK => ?_)
  go_wp2_with fail
  refine wpF_0 (mw_seq (by kernel_rfl) (fun why h => by cases h) (mw_region ?_))
  -- the box, with a new tape
  have start : ∀ T2, ∃ z, World.re (w.alloc (.cells #[.slice a1 b.things.length c1, .slice a2 b.batches.length c2] 26)) 0 T2 = z ∧ z.cell? ⟨w.heap.size, 0, none⟩ = some (.slice a1 b.things.length c1) ∧ z.cell? ⟨w.heap.size, 1, none⟩ = some (.slice a2 b.batches.length c2) ∧ BookAt z a1 a2 b ∧ Grew w z := fun T2 =>
    ⟨_, rfl, box_cell (w := World.re w 0 T2) (Ext.rfl' ((World.re w 0 T2).alloc (.cells #[.slice a1 b.things.length c1, .slice a2 b.batches.length c2] 26))) (i := 0) rfl, box_cell (w := World.re w 0 T2) (Ext.rfl' ((World.re w 0 T2).alloc (.cells #[.slice a1 b.things.length c1, .slice a2 b.batches.length c2] 26))) (i := 1) rfl, ((Grew.of (hal _)).tr (Grew.re _ 0 T2)).book hb, (Grew.of (hal _)).tr (Grew.re _ _ _)⟩
  cases hok : bookOk b
  · have HS := hid (stuck_no hok)
    refine mo_list tamed [0, 1, 2, 3, 4, 5, 6, 7, 8, 9, 10, 11, 12, 13, 14] [] rfl (by kernel_rfl) (by kernel_rfl) (fun T2 => ?_)
    simp only [List.filterMap, List.getElem?_toArray, List.getElem?_cons_zero, List.getElem?_cons_succ]
    obtain ⟨z, hz, hx0, hx1, hbz, hGz⟩ := start T2
    rw [hz]
    clear hz start
    have HGZ := hid hGz
    clear hGz
    go_wp2_with (go_at_call 18; refine (implBookOk_any b _ _ _ _ _ hbz).mono ?_; rintro e w1 ⟨rfl, hext1⟩; rw [hok])
    refine mo_nil ?_
    change MW _ _ _ _ _
    refine mw_wp tamed rfl (by kernel_rfl) (fun T3 => ?_)
    go_wp2_with fail
    exact ⟨rfl, _, resultsC_tmp (t := 2) rfl _, HG0.out.tr (HGZ.out.tr ((Grew.of hext1).tr ((Grew.re _ _ _)))), by rw [HS.out]; rfl⟩
  · by_cases hn : 0 < b.batches.length
    · have HS := hid (stuck_is hok hn)
      have hn' : (0 : Int) < (b.batches.length : Int) := by omega
      refine mo_list tamed [0, 1, 2, 3, 4, 5, 6, 7, 8, 9] [10, 11, 12, 13, 14] rfl (by kernel_rfl) (by kernel_rfl) (fun T2 => ?_)
      simp only [List.filterMap, List.getElem?_toArray, List.getElem?_cons_zero, List.getElem?_cons_succ]
      obtain ⟨z, hz, hx0, hx1, hbz, hGz⟩ := start T2
      rw [hz]
      clear hz start
      have HGZ := hid hGz
      clear hGz
      go_wp2_with (go_at_call 18; refine (implBookOk_any b _ _ _ _ _ hbz).mono ?_; rintro e w1 ⟨rfl, hext1⟩; rw [hok]; replace hx0 := hext1.keep hx0; replace hx1 := hext1.keep hx1)
      have HG1 := hid (HGZ.out.tr (Grew.of hext1))
      refine mo_call (by kernel_rfl) rfl rfl rfl rfl (by simp [Act.eval]) (moves_m b a1 a2 c1 c2 w1 (hbz.ext hext1) (Nat.le_trans HFL.out HG1.out.size)) (fun r v5 hr => ?_)
      obtain ⟨hG5, ho5⟩ := hr
      obtain ⟨aM, cM, rfl⟩ : ∃ aM cM, r = .slice aM (movesL b).length cM := by
        rcases ho5.2 with ⟨rfl, h0⟩ | ⟨g, cap, cur, rfl, _⟩
        · exact ⟨none, 0, by rw [← h0]⟩
        · exact ⟨_, _, rfl⟩
      have HG5 := hid (HG0.out.tr (HG1.out.tr hG5))
      clear hG5 ho5 hext1 hx0 hx1 hbz
      walk_nrm
      refine mo_list tamed [11, 12, 13, 14] [] rfl (by kernel_rfl) (by kernel_rfl) (fun T4 => ?_)
      simp only [List.filterMap, List.getElem?_toArray, List.getElem?_cons_zero, List.getElem?_cons_succ]
      go_wp2
      refine mo_nil ?_
      change MW _ _ _ _ _
      refine mw_wp tamed rfl (by kernel_rfl) (fun T5 => ?_)
      go_wp2
      exact ⟨rfl, _, resultsC_tmp (t := 2) rfl _, HG5.out.tr ((Grew.re _ _ _).tr (Grew.re _ _ _)), by rw [HS.out]; rfl⟩
    · have HS := hid (stuck_none hn)
      have hn' : ¬ (0 : Int) < (b.batches.length : Int) := by omega
      refine mo_list tamed [0, 1, 2, 3, 4, 5, 6, 7, 8, 9, 10, 11, 12, 13, 14] [] rfl (by kernel_rfl) (by kernel_rfl) (fun T2 => ?_)
      simp only [List.filterMap, List.getElem?_toArray, List.getElem?_cons_zero, List.getElem?_cons_succ]
      obtain ⟨z, hz, hx0, hx1, hbz, hGz⟩ := start T2
      rw [hz]
      clear hz start
      have HGZ := hid hGz
      clear hGz
      go_wp2_with (go_at_call 18; refine (implBookOk_any b _ _ _ _ _ hbz).mono ?_; rintro e w1 ⟨rfl, hext1⟩; rw [hok]; replace hx0 := hext1.keep hx0; replace hx1 := hext1.keep hx1)
      refine mo_nil ?_
      change MW _ _ _ _ _
      refine mw_wp tamed rfl (by kernel_rfl) (fun T3 => ?_)
      go_wp2_with fail
      exact ⟨rfl, _, resultsC_tmp (t := 2) rfl _, HG0.out.tr (HGZ.out.tr ((Grew.of hext1).tr ((Grew.re _ _ _)))), by rw [HS.out]; rfl⟩
end Go.Proofs.YtdafpnpfcmgfcaaGreat
namespace Go.Proofs.YtdafpnpfcmgfcaaGreat
open Go

/-- The law's frame: its variables; the rest is of no account. -/
def FrM (p0 p1 p5 p6 p7 p8 p9 p10 p11 p12 : Value) (x : Act) : Prop :=
  ∃ u2 u3 u4 u13 u14 u15 u16 u17 u18 u19 u20 u21 u22 u23 u24 u25 u26 u27 u28 u29 u30 u31 u32 u33 u34 u35 u36 u37 u38 u39 u40 u41 u42 u43 u44 u45 u46 u47 u48 u49 u50 u51 u52 u53 u54 u55 u56 u57 u58 u59 u60 u61 u62 u63 u64 u65 u66 u67 u68 u69 u70 u71 u72 u73 u74 u75 u76 u77 u78 u79 u80 u81 u82 u83 u84 u85 u86 u87 u88 u89 u90 u91 u92 u93 u94 u95 : Value, x = ⟨#[p0, p1, u2, u3, u4, p5, p6, p7, p8, p9, p10, p11, p12, u13, u14, u15, u16, u17, u18, u19, u20, u21, u22, u23, u24, u25, u26, u27, u28, u29, u30, u31, u32, u33, u34, u35, u36, u37, u38, u39, u40, u41, u42, u43, u44, u45, u46, u47, u48, u49, u50, u51, u52, u53, u54, u55, u56, u57, u58, u59, u60, u61, u62, u63, u64, u65, u66, u67, u68, u69, u70, u71, u72, u73, u74, u75, u76, u77, u78, u79, u80, u81, u82, u83, u84, u85, u86, u87, u88, u89, u90, u91, u92, u93, u94, u95], []⟩

theorem FrM.elim {p0 p1 p5 p6 p7 p8 p9 p10 p11 p12 : Value} {x : Act} (h : FrM p0 p1 p5 p6 p7 p8 p9 p10 p11 p12 x) {C : Act → Prop} (k : ∀ u2 u3 u4 u13 u14 u15 u16 u17 u18 u19 u20 u21 u22 u23 u24 u25 u26 u27 u28 u29 u30 u31 u32 u33 u34 u35 u36 u37 u38 u39 u40 u41 u42 u43 u44 u45 u46 u47 u48 u49 u50 u51 u52 u53 u54 u55 u56 u57 u58 u59 u60 u61 u62 u63 u64 u65 u66 u67 u68 u69 u70 u71 u72 u73 u74 u75 u76 u77 u78 u79 u80 u81 u82 u83 u84 u85 u86 u87 u88 u89 u90 u91 u92 u93 u94 u95 : Value, C ⟨#[p0, p1, u2, u3, u4, p5, p6, p7, p8, p9, p10, p11, p12, u13, u14, u15, u16, u17, u18, u19, u20, u21, u22, u23, u24, u25, u26, u27, u28, u29, u30, u31, u32, u33, u34, u35, u36, u37, u38, u39, u40, u41, u42, u43, u44, u45, u46, u47, u48, u49, u50, u51, u52, u53, u54, u55, u56, u57, u58, u59, u60, u61, u62, u63, u64, u65, u66, u67, u68, u69, u70, u71, u72, u73, u74, u75, u76, u77, u78, u79, u80, u81, u82, u83, u84, u85, u86, u87, u88, u89, u90, u91, u92, u93, u94, u95], []⟩) : C x := by
  obtain ⟨u2, u3, u4, u13, u14, u15, u16, u17, u18, u19, u20, u21, u22, u23, u24, u25, u26, u27, u28, u29, u30, u31, u32, u33, u34, u35, u36, u37, u38, u39, u40, u41, u42, u43, u44, u45, u46, u47, u48, u49, u50, u51, u52, u53, u54, u55, u56, u57, u58, u59, u60, u61, u62, u63, u64, u65, u66, u67, u68, u69, u70, u71, u72, u73, u74, u75, u76, u77, u78, u79, u80, u81, u82, u83, u84, u85, u86, u87, u88, u89, u90, u91, u92, u93, u94, u95, rfl⟩ := h
  exact k _ _ _ _ _ _ _ _ _ _ _ _ _ _ _ _ _ _ _ _ _ _ _ _ _ _ _ _ _ _ _ _ _ _ _ _ _ _ _ _ _ _ _ _ _ _ _ _ _ _ _ _ _ _ _ _ _ _ _ _ _ _ _ _ _ _ _ _ _ _ _ _ _ _ _ _ _ _ _ _ _ _ _ _ _ _
end Go.Proofs.YtdafpnpfcmgfcaaGreat
