/- The walk over l5Base: a book's things drawn. -/
import Derived.Test.YtdafpnpfcmgfcaaGreatKE
import Derived.Test.YtdafpnpfcmgfcaaGreatJS
import Derived.Test.YtdafpnpfcmgfcaaGreatJP
namespace Go.Proofs.YtdafpnpfcmgfcaaGreat
open Go.RowKit
attribute [local go_sem] S_toList S_size S_get

/-- An own row that changes: what is older does not, but for the reader. -/
theorem on_grown {w w1 w2 : World} {R : Nat} {row : Option Nat} (h : w.grownBy w1 (some R)) (g : w1.grownBy w2 row) (hr : ∀ k, row = some k → w.heap.size ≤ k) : w.grownBy w2 (some R) :=
  ⟨g.os.trans h.os, g.tape.trans h.tape, g.output.trans h.output, Nat.le_trans h.size g.size, fun b hb hne => by
    have := h.size
    rw [g.block b (by omega) (fun e => by have := hr b e.symm; omega)]
    exact h.block b hb hne⟩

def kegs : List Str := [[106], [107, 101, 103], [116, 117, 110], [118, 97, 116], [119]]
theorem kegs_short : ShortS kegs := ⟨by simp [kegs], fun i hi => by
  match i, hi with
  | 0, _ => simp [kegs, nth]
  | 1, _ => simp [kegs, nth]
  | 2, _ => simp [kegs, nth]
  | 3, _ => simp [kegs, nth]
  | 4, _ => simp [kegs, nth]⟩
theorem sub_short {l m : List Str} (h : l.Sublist m) (hm : ShortS m) : ShortS l :=
  ⟨Nat.le_trans h.length_le hm.1, fun i hi => by
    have hx : nth l i ∈ m := h.subset (by rw [nth_get hi]; exact List.getElem_mem hi)
    obtain ⟨j, hj, e⟩ := List.getElem_of_mem hx
    rw [← e, ← nth_get hj]; exact hm.2 j hj⟩
theorem kegs_ok {T : List Str} (h : T.Sublist kegs) : bookOk ⟨T, []⟩ = true := by
  have h1 : kegs.Pairwise LtS := by decide
  have h2 : ∀ x ∈ kegs, nameOk x = true := by decide
  have h3 := asc_iff.2 (h1.sublist h)
  refine ok_iff.2 ⟨?_, by simp, fun x hx => by simp at hx, List.Pairwise.nil, List.Pairwise.nil⟩
  unfold thingsOk
  rw [Bool.and_eq_true, decide_eq_true_eq]
  refine ⟨Nat.le_trans h.length_le (by decide), allLt_of (fun i hi => ?_)⟩
  rw [Bool.and_eq_true]
  exact ⟨h2 _ (h.subset (by rw [nth_get hi]; exact List.getElem_mem hi)), allLt_true.1 h3 i hi⟩

set_option maxRecDepth 100000 in
set_option maxHeartbeats 1000000 in
theorem l5Base_any (R q : Nat) (w : World) (h : Rd w R q) (hq : q ≤ 900000) :
    Calls Qry.prog 48 #[.pointer (some ⟨R, 0, none⟩)] w fun e w' =>
      ∃ v T, e = .returned (.agg #[v, .slice none 0 0]) ∧ w.grownBy w' (some R) ∧ Rd w' R (q + 5) ∧ OwnL w' w.heap.size v T ∧ T.Sublist kegs := by
  have hlt0 := h.lt
  go_enter Qry.func48, Tryz.ntmps48
  go_wp2_with fail
  have e3 : ∀ o1 o2 o3, Ext w (((w.alloc o1).alloc o2).alloc o3) := fun o1 o2 o3 => (((Below.refl _ _).alloc (Nat.le_refl _) _).alloc (by simp) _).alloc (by simp; omega) _
  have HG : Hid (w.grownBy (((w.alloc (.cells #[.slice none 0 0, .slice none 0 0] 26)).alloc (.cells #[.slice none 0 0, .slice none 0 0] 26)).alloc (.cells #[.string (S [106]), .string (S [107, 101, 103]), .string (S [116, 117, 110]), .string (S [118, 97, 116]), .string (S [119])] 9)) (some R)) := gb_ext (e3 _ _ _) _
  have HRd := hid (h.ext (e3 (.cells #[.slice none 0 0, .slice none 0 0] 26) (.cells #[.slice none 0 0, .slice none 0 0] 26) (.cells #[.string (S [106]), .string (S [107, 101, 103]), .string (S [116, 117, 110]), .string (S [118, 97, 116]), .string (S [119])] 9)))
  have HR0 : Hid (Rec (((w.alloc (.cells #[.slice none 0 0, .slice none 0 0] 26)).alloc (.cells #[.slice none 0 0, .slice none 0 0] 26)).alloc (.cells #[.string (S [106]), .string (S [107, 101, 103]), .string (S [116, 117, 110]), .string (S [118, 97, 116]), .string (S [119])] 9)) w.heap.size 26 [.slice none 0 0, .slice none 0 0]) := ((Rec.new w _ _).ext (ext_alloc _ _)).ext (ext_alloc _ _)
  have HR1 : Hid (Rec (((w.alloc (.cells #[.slice none 0 0, .slice none 0 0] 26)).alloc (.cells #[.slice none 0 0, .slice none 0 0] 26)).alloc (.cells #[.string (S [106]), .string (S [107, 101, 103]), .string (S [116, 117, 110]), .string (S [118, 97, 116]), .string (S [119])] 9)) (w.heap.size + 1) 26 [.slice none 0 0, .slice none 0 0]) := by
    have h := (Rec.new (w.alloc (.cells #[.slice none 0 0, .slice none 0 0] 26)) 26 [.slice none 0 0, .slice none 0 0]).ext (ext_alloc _ (.cells #[.string (S [106]), .string (S [107, 101, 103]), .string (S [116, 117, 110]), .string (S [118, 97, 116]), .string (S [119])] 9))
    have e : (w.alloc (.cells #[.slice none 0 0, .slice none 0 0] 26)).heap.size = w.heap.size + 1 := by simp
    rw [e] at h; exact h
  have HK : Hid (StrsAt (((w.alloc (.cells #[.slice none 0 0, .slice none 0 0] 26)).alloc (.cells #[.slice none 0 0, .slice none 0 0] 26)).alloc (.cells #[.string (S [106]), .string (S [107, 101, 103]), .string (S [116, 117, 110]), .string (S [118, 97, 116]), .string (S [119])] 9)) (some ⟨w.heap.size + 1 + 1, 0, none⟩) kegs) := by
    have h := rec_strs (ss := kegs) (Rec.new ((w.alloc (.cells #[.slice none 0 0, .slice none 0 0] 26)).alloc (.cells #[.slice none 0 0, .slice none 0 0] 26)) 9 (kegs.map fun s => .string (S s))) kegs_short
    have e : ((w.alloc (.cells #[.slice none 0 0, .slice none 0 0] 26)).alloc (.cells #[.slice none 0 0, .slice none 0 0] 26)).heap.size = w.heap.size + 1 + 1 := by simp
    rw [e] at h; exact h
  go_loopw [5] (fun i wr => ∃ (k : Nat) (v : Value) (T : List Str), k ≤ 5 ∧ i = .int .i64 k ∧ w.grownBy wr (some R) ∧ Rd wr R (q + k) ∧ Rec wr w.heap.size 26 [.slice none 0 0, .slice none 0 0] ∧ Rec wr (w.heap.size + 1) 26 [v, .slice none 0 0] ∧
    StrsAt wr (some ⟨w.heap.size + 1 + 1, 0, none⟩) kegs ∧ OwnL wr (w.heap.size + 3) v T ∧ T.Sublist (kegs.take k)) (fun i _ => 5 - (intOf i).toNat)
  case atStart => exact ⟨0, _, [], by omega, rfl, HG.out, HRd.out, HR0.out, HR1.out, HK.out, World.ownsRow_nil _ _ _ _, by simp⟩
  case round =>
    clear HG HRd HR0 HR1 HK
    obtain ⟨k, v, T, hk, rfl, hg, hrd, hr0, hr1, hks, hown, hsub⟩ := hrel
    have hll : T.length ≤ 5 := Nat.le_trans hsub.length_le (by rw [List.length_take]; simp [kegs]; omega)
    obtain ⟨av, cv, rfl⟩ := own_sl hown
    have HG := hid hg
    have HRD := hid hrd
    have HR0 := hid hr0
    have HR1 := hid hr1
    have HK := hid hks
    have HOW := hid hown
    have HSUB := hid hsub
    clear hg hrd hr0 hr1 hks hown hsub
    have hkl : kegs.length = 5 := rfl
    have hzw := HK.out.lt (by omega) _ _ rfl
    by_cases hlt : k < 5
    · go_wp2_with fail
      refine (pick_any R (q + k) 5 wr HRD.out (by omega) (by omega) (by omega)).mono ?_
      rintro e w1 ⟨j, rfl, hj, hg1, hr1⟩
      have hfar : ∀ b, some R = some b → b < w.heap.size + 3 := fun b e => by cases e; omega
      have HG1 := hid (gb_tr HG.out hg1)
      have HRD1 := hid hr1
      have HR01 := hid (HR0.out.kept hg1 (by simp; omega))
      have HR11 := hid (HR1.out.kept hg1 (by simp; omega))
      have HK1 : Hid (StrsAt w1 (some ⟨w.heap.size + 1 + 1, 0, none⟩) kegs) := HK.out.gb hg1 (fun _ b o e => by cases e; simp; omega)
      have HOW1 := hid (HOW.out.far hg1 hfar)
      clear HG HRD HR0 HR1 HK HOW hg1 hr1
      by_cases hj0 : j = 0
      · subst hj0
        go_wp2
        go_roundw
        case rel => exact ⟨k + 1, _, T, by omega, by go_num, HG1.out, HRD1.out, HR01.out, HR11.out, HK1.out, HOW1.out, by
          rw [List.take_succ_eq_append_getElem (by omega)]
          exact HSUB.out.trans (List.sublist_append_left _ _)⟩
        case measure => simp [intOf]; omega
      · have hj1 : (0 : Int) < (j : Int) := by omega
        obtain ⟨hln, bb, oo, ee, hc⟩ := HK1.out.2 k (by omega)
        cases ee
        rw [Nat.zero_add] at hc
        have hq0 := HR11.out.cell (i := 0) rfl
        have hz1 := HG1.out.size
        have hzx := HR11.out.lt
        have hz3 := HK1.out.lt (by omega) _ _ rfl
        go_wp2_with fail
        refine wp_region_T (fun w' => w'.cell? ⟨w.heap.size + 1, 0, none⟩ = some (.slice av T.length cv) ∧ w'.cell? ⟨w.heap.size + 1 + 1, k, none⟩ = some (.string (S (nth kegs k)))) 9 (by kernel_rfl) ⟨hq0, hc⟩ (fun hS => ?_)
        refine wpT_take 0 (v := ?_) rfl rfl (by kernel_rfl) (by kernel_rfl) (by kernel_rfl) (by kernel_rfl) (fun _ _ _ h => h) hS rfl (by intro w0 hw0; (try dsimp only at hw0); go_simp; try rfl) ?_
        try simp only [List.set]
        refine wpT_take 1 (v := ?_) rfl rfl (by kernel_rfl) (by kernel_rfl) (by kernel_rfl) (by kernel_rfl) (fun _ _ _ h => h) hS rfl (by intro w0 hw0; (try dsimp only at hw0); go_simp; try rfl) ?_
        try simp only [List.set]
        refine wpT_take 2 (v := ?_) rfl rfl (by kernel_rfl) (by kernel_rfl) (by kernel_rfl) (by kernel_rfl) (fun _ _ _ h => h) hS rfl (by intro w0 hw0; (try dsimp only at hw0); go_simp; try rfl) ?_
        try simp only [List.set]
        refine wpT_take 3 (v := ?_) rfl rfl (by kernel_rfl) (by kernel_rfl) (by kernel_rfl) (by kernel_rfl) (fun _ _ _ h => h) hS rfl (by intro w0 hw0; (try dsimp only at hw0); go_simp; try rfl) ?_
        try simp only [List.set]
        refine wpT_take 4 (v := ?_) rfl rfl (by kernel_rfl) (by kernel_rfl) (by kernel_rfl) (by kernel_rfl) (fun _ _ _ h => h) hS rfl (by intro w0 hw0; (try dsimp only at hw0); go_simp; try rfl) ?_
        try simp only [List.set]
        refine wpT_take 5 (v := ?_) rfl rfl (by kernel_rfl) (by kernel_rfl) (by kernel_rfl) (by kernel_rfl) (fun _ _ _ h => h) hS rfl (by intro w0 hw0; (try dsimp only at hw0); go_simp; try rfl) ?_
        try simp only [List.set]
        refine wpT_one 6 rfl (by kernel_rfl) rfl rfl (fun K hK => ?_)
        go_simp
        refine hK.out _ _ ⟨(ext_alloc _ _).keep hS.1, (ext_alloc _ _).keep hS.2⟩ (fun hS1 => ?_)
        clear hK hS
        have hS := hS1
        clear hS1
        try clear K
        try simp only [put_some, List.set]
        have hEA : Ext w1 (w1.drew.alloc (.cells #[.string (S (nth kegs k))] 9)) := Ext.tr (ext_drewN w1 1) (ext_alloc _ _)
        have hST := one_str w1.drew (nth kegs k) hln
        refine wpT_one 7 rfl (by kernel_rfl) rfl rfl (fun K hK => ?_)
        refine wp_strs (L := T) (M := [nth kegs k]) _ _ rfl rfl (HOW1.out.ext hEA) rfl hST (by simp; omega) (by simp; omega) (fun v' w2 h2 h3 h4 => ?_)
        obtain ⟨a2, c2, rfl⟩ := own_sl h2
        have hob : ∀ g, (Value.slice av T.length cv).ownBlock = some g → w.heap.size + 3 ≤ g := fun g hg => (HOW1.out.lt g hg).1
        have HG2 : Hid (w.grownBy w2 (some R)) := on_grown (gb_tr HG1.out (gb_ext hEA _)) h3 (fun g hg => by have := hob g hg; omega)
        have HRD2 : Hid (Rd w2 R (q + k + 1)) := (HRD1.out.ext hEA).gb h3 (fun g hg => by have := hob g hg; omega)
        have hne : ∀ b, b < w.heap.size + 3 → some b ≠ (Value.slice av T.length cv).ownBlock := fun b hb e => by have := hob b e.symm; omega
        have HR02 := hid ((HR01.out.ext hEA).kept h3 (hne _ (by omega)))
        have HR12 := hid ((HR11.out.ext hEA).kept h3 (hne _ (by omega)))
        have HK2 : Hid (StrsAt w2 (some ⟨w.heap.size + 1 + 1, 0, none⟩) kegs) := (HK1.out.ext hEA).gb h3 (fun _ b o e => by cases e; exact hne _ (by omega))
        have hlT : (T ++ [nth kegs k]).length = T.length + 1 := by simp
        rw [hlT] at h2 ⊢
        refine hK.out _ _ ⟨HR12.out.cell rfl, by have h := (HK2.out.2 k (by omega)).2; obtain ⟨_, _, e, hcc⟩ := h; cases e; rw [Nat.zero_add] at hcc; exact hcc⟩ (fun hS1 => ?_)
        clear hK hS
        have hS := hS1
        clear hS1
        try clear K
        try simp only [put_some, List.set]
        refine wpT_take 8 (v := ?_) rfl rfl (by kernel_rfl) (by kernel_rfl) (by kernel_rfl) (by kernel_rfl) (fun _ _ _ h => h) hS rfl (by intro w0 hw0; (try dsimp only at hw0); go_simp; try rfl) ?_
        try simp only [List.set]
        have hq1 := HR12.out.cell (i := 0) rfl
        have hf1 := HR12.out.frozen 0
        have HOW2 := hid (h2.stored HR12.out rfl 0 (.slice a2 (T.length + 1) c2))
        have HR13 := hid (HR12.out.set 0 (.slice a2 (T.length + 1) c2))
        have HS1 := gb_store w2 (w.heap.size + 1) 0 (.slice a2 (T.length + 1) c2)
        have HG3 : Hid (w.grownBy (w2.setCell ⟨w.heap.size + 1, 0, none⟩ (.slice a2 (T.length + 1) c2)) (some R)) := on_grown HG2.out HS1 (fun g hg => by cases hg; omega)
        have HRD3 : Hid (Rd (w2.setCell ⟨w.heap.size + 1, 0, none⟩ (.slice a2 (T.length + 1) c2)) R (q + k + 1)) := HRD2.out.gb HS1 (fun g hg => by cases hg; omega)
        have HR03 := hid (HR02.out.kept HS1 (by simp))
        have HK3 : Hid (StrsAt (w2.setCell ⟨w.heap.size + 1, 0, none⟩ (.slice a2 (T.length + 1) c2)) (some ⟨w.heap.size + 1 + 1, 0, none⟩) kegs) := HK2.out.gb HS1 (fun _ b o e => by cases e; simp)
        clear hS h2 h3 h4 HG1 HRD1 HR01 HR11 HK1 HOW1 HG2 HRD2 HR02 HR12 HK2 hEA hST hob hne hc hq0 HS1
        refine wpT_last rfl (by kernel_rfl) (by kernel_rfl) rfl (fun K hK => ?_)
        go_simp
        refine hK.out _ _ ?_
        clear hK
        go_wp2
        go_roundw
        case rel => exact ⟨k + 1, _, T ++ [nth kegs k], by omega, by go_num, HG3.out, HRD3.out, HR03.out, HR13.out, HK3.out, HOW2.out, by
          rw [List.take_succ_eq_append_getElem (by omega), nth_get (by omega)]
          exact List.Sublist.append HSUB.out (List.Sublist.refl _)⟩
        case measure => simp [intOf]; omega
    · have e : k = 5 := by omega
      subst e
      have q0 := HR1.out.cell (i := 0) rfl
      have q1 := HR1.out.cell (i := 1) rfl
      have t0 := HR0.out.cell (i := 0) rfl
      have t1 := HR0.out.cell (i := 1) rfl
      have f0 := HR0.out.frozen 0
      have f1 := HR0.out.frozen 1
      go_wp2
      refine bodyPost_ret (v := .agg #[.slice av T.length cv, .slice none 0 0]) (by simp [results, Tryz.results48, go_sem, t0, t1]) rfl ⟨_, T, rfl, ?_, ?_, ?_, ?_⟩
      · exact on_grown (on_grown HG.out (gb_store _ _ _ _) (fun g hg => by cases hg; omega)) (gb_store _ _ _ _) (fun g hg => by cases hg; omega)
      · exact (HRD.out.gb (gb_store _ _ _ _) (fun g hg => by cases hg; omega)).gb (gb_store _ _ _ _) (fun g hg => by cases hg; omega)
      · exact ((HOW.out.low (by omega)).stored HR0.out rfl _ _).stored (HR0.out.set _ _) rfl _ _
      · have := HSUB.out; rwa [← hkl, List.take_length] at this
end Go.Proofs.YtdafpnpfcmgfcaaGreat
