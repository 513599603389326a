/- The walks over l5Any, l5Thing, DrawShareWho and DrawShareOrder. -/
import Derived.Test.YtdafpnpfcmgfcaaD10
namespace Go.Proofs.Ytdafpnpfcmgfcaa
open Go.RowKit
attribute [local go_sem] S_toList S_size S_get

/-- Two stores into one box of slices. -/
theorem one_box {w wc : World} {RB R q : Nat} {r1 r2 : Value} {x1 x2 : Option Addr} {y1 y2 n1 n2 : Nat} {b : Book} (hE : w.grownBy wc (some R)) (hrd : Rd wc R q) (hR : Rec wc RB 26 [r1, r2]) (hr : NoStr [r1, r2]) (h2 : w.heap.size ≤ RB) (hlt : R < RB) (hb : BookAt wc x1 x2 b) :
    w.grownBy ((wc.setCell ⟨RB, 0, none⟩ (.slice x1 n1 y1)).setCell ⟨RB, 1, none⟩ (.slice x2 n2 y2)) (some R) ∧ Rd ((wc.setCell ⟨RB, 0, none⟩ (.slice x1 n1 y1)).setCell ⟨RB, 1, none⟩ (.slice x2 n2 y2)) R q ∧ BookAt ((wc.setCell ⟨RB, 0, none⟩ (.slice x1 n1 y1)).setCell ⟨RB, 1, none⟩ (.slice x2 n2 y2)) x1 x2 b := by
  refine ⟨on_grown (on_grown hE (gb_store _ _ _ _) (fun g hg => by cases hg; omega)) (gb_store _ _ _ _) (fun g hg => by cases hg; omega), (hrd.gb (gb_store _ _ _ _) (fun g hg => by cases hg; omega)).gb (gb_store _ _ _ _) (fun g hg => by cases hg; omega), ?_⟩
  have hr1 : NoStr [Value.slice x1 n1 y1, r2] := by
    intro v hv s e
    simp only [List.mem_cons, List.not_mem_nil, or_false] at hv
    rcases hv with rfl | rfl
    · cases e
    · exact hr _ (by simp) s e
  exact (hb.box hR hr).box (hR.set 0 _) hr1

set_option maxRecDepth 100000 in
set_option maxHeartbeats 1000000 in
theorem l5Any_any (R q : Nat) (w : World) (h : Rd w R q) (hq : q ≤ 600000) :
    Calls Try.prog 33 #[.pointer (some ⟨R, 0, none⟩)] w fun e w' =>
      ∃ (b : Book) (x1 x2 : Option Addr) (y1 y2 : Nat), e = .returned (.agg #[.slice x1 b.things.length y1, .slice x2 b.batches.length y2]) ∧ w.grownBy w' (some R) ∧ Rd w' R (q + 3100) ∧ BookAt w' x1 x2 b ∧ SmB9 b := by
  have hlt0 := h.lt
  go_enter Try.func33, Try.ntmps33
  go_wp2_with fail
  refine (l5Book_any R q _ (h.ext (ext_alloc _ _)) (by omega)).mono ?_
  rintro e w1 ⟨b, x1, x2, y1, y2, rfl, hg1, hr1, hb1, hsm⟩
  have hz1 := hg1.size
  simp at hz1
  have HG1 : Hid (w.grownBy (w1.alloc (.cells #[.slice x1 b.things.length y1, .slice x2 b.batches.length y2] 26)) (some R)) := gb_tr (gb_tr (gb_ext (ext_alloc _ _) _) hg1) (gb_ext (ext_alloc _ _) _)
  have HRd := hid (hr1.ext (ext_alloc w1 (.cells #[.slice x1 b.things.length y1, .slice x2 b.batches.length y2] 26)))
  have HRR : Hid (Rec (w1.alloc (.cells #[.slice x1 b.things.length y1, .slice x2 b.batches.length y2] 26)) w.heap.size 26 [.slice none 0 0, .slice none 0 0]) := ((Rec.new w _ _).kept hg1 (by simp; omega)).ext (ext_alloc _ _)
  have HRX : Hid (Rec (w1.alloc (.cells #[.slice x1 b.things.length y1, .slice x2 b.batches.length y2] 26)) w1.heap.size 26 [.slice x1 b.things.length y1, .slice x2 b.batches.length y2]) := Rec.new w1 _ _
  have HB := hid (hb1.ext (ext_alloc w1 (.cells #[.slice x1 b.things.length y1, .slice x2 b.batches.length y2] 26)))
  clear hg1 hr1 hb1
  go_wp2_with fail
  generalize w1.alloc (.cells #[.slice x1 b.things.length y1, .slice x2 b.batches.length y2] 26) = w2 at HG1 HRd HRR HRX HB ⊢
  generalize w1.heap.size = X at HRX hz1 ⊢
  refine (pick_any R (q + 3000) 20 w2 HRd.out (by omega) (by omega) (by omega)).mono ?_
  rintro e w3 ⟨j, rfl, hj, hg3, hr3⟩
  have HG3 := hid (gb_tr HG1.out hg3)
  have HRR3 := hid (HRR.out.kept hg3 (by simp; omega))
  have HRX3 := hid (HRX.out.kept hg3 (by simp; omega))
  have HB3 := hid (HB.out.on HRd.out hg3)
  have HRd3 := hid hr3
  clear HG1 HRR HRX HB HRd hg3 hr3
  have c0 := HRX3.out.cell (i := 0) rfl
  have c1 := HRX3.out.cell (i := 1) rfl
  by_cases hj0 : j = 0
  · subst hj0
    go_wp2_with fail
    refine (l5Spoil_any R (q + 3000 + 1) b x1 x2 y1 y2 w3 HRd3.out (by omega) HB3.out hsm).mono ?_
    rintro e w4 ⟨b', z1, z2, d1, d2, rfl, hg4, hr4, hb4, hsm4⟩
    have HG4 := hid (gb_tr HG3.out hg4)
    have HRR4 := hid (HRR3.out.kept hg4 (by simp; omega))
    have HBK := hid hb4
    have HRd4 := hid hr4
    have HSM := hid hsm4
    clear hg4 hr4 hb4 hsm4 HG3 HRR3 HRX3 HB3 HRd3 c0 c1
    have t0 := HRR4.out.cell (i := 0) rfl
    have t1 := HRR4.out.cell (i := 1) rfl
    have f0 := HRR4.out.frozen 0
    have f1 := HRR4.out.frozen 1
    go_wp2
    obtain ⟨k1, k2, k3⟩ := one_box (n1 := b'.things.length) (n2 := b'.batches.length) (y1 := d1) (y2 := d2) HG4.out HRd4.out HRR4.out noStr2 (Nat.le_refl _) hlt0 HBK.out
    refine bodyPost_ret (v := .agg #[.slice z1 b'.things.length d1, .slice z2 b'.batches.length d2]) (by simp [results, Try.results33, go_sem, t0, t1]) rfl (by
      refine ⟨b', z1, z2, ?_⟩
      first
        | exact ⟨d1, d2, rfl, k1, k2.mono (by omega), k3, HSM.out⟩
        | exact ⟨⟨d1, d2, rfl⟩, k1, k2.mono (by omega), k3, HSM.out⟩)
  · have hj1 : ((j : Int) == 0) = false := by simp; omega
    have t0 := HRR3.out.cell (i := 0) rfl
    have t1 := HRR3.out.cell (i := 1) rfl
    have f0 := HRR3.out.frozen 0
    have f1 := HRR3.out.frozen 1
    go_wp2
    obtain ⟨k1, k2, k3⟩ := one_box (n1 := b.things.length) (n2 := b.batches.length) (y1 := y1) (y2 := y2) HG3.out HRd3.out HRR3.out noStr2 (Nat.le_refl _) hlt0 HB3.out
    refine bodyPost_ret (v := .agg #[.slice x1 b.things.length y1, .slice x2 b.batches.length y2]) (by simp [results, Try.results33, go_sem, t0, t1]) rfl (by
      refine ⟨b, x1, x2, ?_⟩
      first
        | exact ⟨y1, y2, rfl, k1, k2.mono (by omega), k3, hsm.nine⟩
        | exact ⟨⟨y1, y2, rfl⟩, k1, k2.mono (by omega), k3, hsm.nine⟩)

def wordsT : List Str := [[], [122, 122], [107, 101, 103]]
theorem wordsT_short : ShortS wordsT := ⟨by simp [wordsT], fun i hi => by
  match i, hi with
  | 0, _ => simp [wordsT, nth]
  | 1, _ => simp [wordsT, nth]
  | 2, _ => simp [wordsT, nth]⟩

set_option maxRecDepth 100000 in
set_option maxHeartbeats 1000000 in
theorem l5Thing_any (R q : Nat) (b : Book) (a1 a2 : Option Addr) (c1 c2 : Nat) (w : World) (h : Rd w R q) (hq : q ≤ 700000) (hb : BookAt w a1 a2 b) (hsm : SmB9 b) :
    Calls Try.prog 56 #[.pointer (some ⟨R, 0, none⟩), .agg #[.slice a1 b.things.length c1, .slice a2 b.batches.length c2]] w fun e w' =>
      ∃ s : Str, e = .returned (.string (S s)) ∧ w.grownBy w' (some R) ∧ Rd w' R (q + 3) ∧ s.length ≤ 140737488355328 := by
  have hlt0 := h.lt
  have ht := hsm.1
  have HRX : Hid (Rec (w.alloc (.cells #[.slice a1 b.things.length c1, .slice a2 b.batches.length c2] 26)) w.heap.size 26 [.slice a1 b.things.length c1, .slice a2 b.batches.length c2]) := Rec.new w _ _
  have HE := hid (ext_alloc w (.cells #[.slice a1 b.things.length c1, .slice a2 b.batches.length c2] 26))
  go_enter Try.func56, Try.ntmps56
  go_upto_region 1 with fail
  generalize w.alloc (.cells #[.slice a1 b.things.length c1, .slice a2 b.batches.length c2] 26) = w1 at HRX HE ⊢
  go_cut [13] (fun v wx => ∃ x : Bool, v = .bool x ∧ (x = true → 0 < b.things.length) ∧ w.grownBy wx (some R) ∧ Rd wx R (q + 1) ∧ Rec wx w.heap.size 26 [.slice a1 b.things.length c1, .slice a2 b.batches.length c2])
  case first =>
    have p0 := HRX.out.cell (i := 0) rfl
    by_cases hbt : 0 < b.things.length
    · have hbi : (0 : Int) < (b.things.length : Int) := by omega
      go_wp2_with fail
      refine (pick_any R q 10 w1 (h.ext HE.out) (by omega) (by omega) (by omega)).mono ?_
      rintro e w4 ⟨j', rfl, hj', hg4, hr4⟩
      have HG4 := hid (gb_tr (gb_ext HE.out _) hg4)
      have HR4 := hid hr4
      have HX4 := hid (HRX.out.kept hg4 (by simp; omega))
      clear hg4 hr4 p0
      go_wp2_with fail
      go_meet
      exact ⟨_, rfl, fun _ => hbt, HG4.out, HR4.out, HX4.out⟩
    · have hbi : ¬ ((0 : Int) < (b.things.length : Int)) := by omega
      go_wp2_with fail
      go_meet
      exact ⟨false, rfl, (fun h => by cases h), gb_ext HE.out _, (h.ext HE.out).mono (by omega), HRX.out⟩
  case rest =>
    obtain ⟨x, rfl, hx, hg, hr, hrx⟩ := hcut
    have HG := hid hg
    have HR := hid hr
    have HX := hid hrx
    clear hg hr hrx
    cases x
    · go_wp2_with fail
      have hfA : StrsAt (wc.alloc (.cells #[.string (S []), .string (S [122, 122]), .string (S [107, 101, 103])] 9)) (some ⟨wc.heap.size, 0, none⟩) wordsT := rec_strs (Rec.new wc _ _) wordsT_short
      have hrA := HR.out.ext (ext_alloc wc (.cells #[.string (S []), .string (S [122, 122]), .string (S [107, 101, 103])] 9))
      have hof := of_any R (q + 1) _ 3 wordsT _ hrA (by omega) hfA (by simp [wordsT]) (by simp [wordsT]) (fun b' o' e' => hfA.notR hrA (by simp [wordsT]) b' o' e')
      have e3 : wordsT.length = 3 := rfl
      rw [e3] at hof
      refine hof.mono ?_
      clear hof
      rintro e wB ⟨jB, hjB, rfl, hgB, hrB⟩
      have HGB := hid (gb_tr (gb_tr HG.out (gb_ext (ext_alloc _ _) _)) hgB)
      have HRB := hid hrB
      clear hgB hrB hfA hrA
      go_wp2
      go_ret
      exact ⟨_, rfl, HGB.out, HRB.out.mono (by omega), wordsT_short.2 jB (by rw [e3]; exact hjB)⟩
    · have hbt := hx rfl
      have p0 := HX.out.cell (i := 0) rfl
      go_wp2_with fail
      refine wp_region_T (fun w' => w'.cell? ⟨w.heap.size, 0, none⟩ = some (.slice a1 b.things.length c1)) 9 (by kernel_rfl) p0 (fun hS => ?_)
      refine wpT_take 0 (v := ?_) rfl rfl (by kernel_rfl) (by kernel_rfl) (by kernel_rfl) (by kernel_rfl) (fun _ _ _ h => h) hS rfl (by intro w0 hw0; (try dsimp only at hw0); go_simp; try rfl) ?_
      try simp only [List.set]
      refine wpT_take 1 (v := ?_) rfl rfl (by kernel_rfl) (by kernel_rfl) (by kernel_rfl) (by kernel_rfl) (fun _ _ _ h => h) hS rfl (by intro w0 hw0; (try dsimp only at hw0); go_simp; try rfl) ?_
      try simp only [List.set]
      refine wpT_take 2 (v := ?_) rfl rfl (by kernel_rfl) (by kernel_rfl) (by kernel_rfl) (by kernel_rfl) (fun _ _ _ h => h) hS rfl (by intro w0 hw0; (try dsimp only at hw0); go_simp; try rfl) ?_
      try simp only [List.set]
      refine wpT_take 3 (v := ?_) rfl rfl (by kernel_rfl) (by kernel_rfl) (by kernel_rfl) (by kernel_rfl) (fun _ _ _ h => h) hS rfl (by intro w0 hw0; (try dsimp only at hw0); go_simp; try rfl) ?_
      try simp only [List.set]
      refine wpT_take 4 (v := ?_) rfl rfl (by kernel_rfl) (by kernel_rfl) (by kernel_rfl) (by kernel_rfl) (fun _ _ _ h => h) hS rfl (by intro w0 hw0; (try dsimp only at hw0); go_simp; try rfl) ?_
      try simp only [List.set]
      refine wpT_take 5 (v := ?_) rfl rfl (by kernel_rfl) (by kernel_rfl) (by kernel_rfl) (by kernel_rfl) (fun _ _ _ h => h) hS rfl (by intro w0 hw0; (try dsimp only at hw0); go_simp; try rfl) ?_
      try simp only [List.set]
      refine wpT_one 6 rfl (by kernel_rfl) rfl rfl (fun K hK => ?_)
      go_simp
      refine (pick_any R (q + 1) b.things.length _ (HR.out.ext (ext_drewN wc 1)) (by omega) hbt (by omega)).mono ?_
      rintro e w5 ⟨k, rfl, hk, hg5, hr5⟩
      have hth := hb.1.on h (gb_tr (gb_tr HG.out (gb_ext (ext_drewN wc 1) _)) hg5)
      obtain ⟨hkl, bb, oo, rfl, hc⟩ := hth.2 k hk
      have HG5 := hid (gb_tr (gb_tr HG.out (gb_ext (ext_drewN wc 1) _)) hg5)
      have HR5 := hid hr5
      have hx5 := ((HX.out.ext (ext_drewN wc 1)).kept hg5 (by simp; omega)).cell (i := 0) rfl
      go_wp2_with fail
      refine hK.out _ _ hx5 (fun hS1 => ?_)
      clear hK hS
      have hS := hS1
      clear hS1
      try clear K
      try simp only [put_some, List.set]
      refine wpT_one 7 rfl (by kernel_rfl) rfl rfl (fun K hK => ?_)
      go_simp
      refine hK.out _ _ hS (fun hS1 => ?_)
      clear hK hS
      have hS := hS1
      clear hS1
      try clear K
      try simp only [put_some, List.set]
      refine wpT_one 8 rfl (by kernel_rfl) rfl rfl (fun K hK => ?_)
      go_simp
      refine hK.out _ _ hS (fun hS1 => ?_)
      clear hK hS
      have hS := hS1
      clear hS1
      try clear K
      try simp only [put_some, List.set]
      clear hS hg5 hr5 hx5 hth hc p0 HX HG HR
      refine wpT_last rfl (by kernel_rfl) (by kernel_rfl) rfl (fun K hK => ?_)
      go_simp
      refine hK.out _ _ ?_
      clear hK
      go_wp2
      go_ret
      exact ⟨_, rfl, HG5.out, HR5.out.mono (by omega), hkl⟩

theorem on_new {w w1 w2 : World} {R : Nat} (h1 : Ext w w1) (hR : w.heap.size ≤ R) (g : w1.grownBy w2 (some R)) : Ext w w2 :=
  ⟨g.os.trans h1.os, g.tape.trans h1.tape, g.output.trans h1.output, Nat.le_trans h1.size g.size, fun k hk => by
    have := h1.size
    rw [g.block k (by omega) (by simp; omega)]
    exact h1.block k hk⟩

set_option maxRecDepth 100000 in
set_option maxHeartbeats 1000000 in
theorem drawOrder_any (a : Option Addr) (n c : Nat) (w : World) (h : BytesAt w a n) (hn : n ≤ c) (hc : c ≤ 140737488355328) :
    Calls Try.prog 9 #[.slice a n c] w fun e w' =>
      ∃ (b : Book) (x1 x2 : Option Addr) (y1 y2 : Nat), e = .returned (.agg #[.slice x1 b.things.length y1, .slice x2 b.batches.length y2]) ∧ Ext w w' ∧ BookAt w' x1 x2 b ∧ SmB9 b := by
  have hby : BytesAt (w.alloc (.cells #[.slice none 0 0, .slice none 0 0] 26)) a n := h.gb (gb_none (ext_alloc _ _)) (fun b o e hp => by simp)
  go_enter Try.func9, Try.ntmps9
  go_wp2_with fail
  refine (l1Open_any a n c _ hby hn hc).mono ?_
  rintro e w1 ⟨rfl, hE1, hr1⟩
  have hz1 := hr1.lt
  simp at hr1 hz1
  have HRR : Hid (Rec w1 w.heap.size 26 [.slice none 0 0, .slice none 0 0]) := (Rec.new w _ _).ext hE1
  have HE1 := hid (Ext.tr (ext_alloc _ _) hE1)
  clear hE1
  go_wp2_with fail
  refine (l5Any_any (w.heap.size + 1) 0 w1 hr1 (by omega)).mono ?_
  rintro e w2 ⟨b, x1, x2, y1, y2, rfl, hg2, hr2, hb2, hsm⟩
  have HE2 := hid (on_new HE1.out (by omega) hg2)
  have HRR2 := hid (HRR.out.kept hg2 (by simp))
  have HB2 := hid hb2
  clear hg2 hr2 hb2 HRR HE1 hr1
  have t0 := HRR2.out.cell (i := 0) rfl
  have t1 := HRR2.out.cell (i := 1) rfl
  have f0 := HRR2.out.frozen 0
  have f1 := HRR2.out.frozen 1
  go_wp2
  have hE3 : Ext w ((w2.setCell ⟨w.heap.size, 0, none⟩ (.slice x1 b.things.length y1)).setCell ⟨w.heap.size, 1, none⟩ (.slice x2 b.batches.length y2)) := (HE2.out.setCell (by simp) _).setCell (by simp) _
  have hB3 : BookAt ((w2.setCell ⟨w.heap.size, 0, none⟩ (.slice x1 b.things.length y1)).setCell ⟨w.heap.size, 1, none⟩ (.slice x2 b.batches.length y2)) x1 x2 b := (HB2.out.box HRR2.out noStr2).box (HRR2.out.set 0 _) noStr2
  refine bodyPost_ret (v := .agg #[.slice x1 b.things.length y1, .slice x2 b.batches.length y2]) (by simp [results, Try.results9, go_sem, t0, t1]) rfl (by
    refine ⟨b, x1, x2, ?_⟩
    first
      | exact ⟨y1, y2, rfl, hE3, hB3, hsm⟩
      | exact ⟨⟨y1, y2, rfl⟩, hE3, hB3, hsm⟩)

set_option maxRecDepth 100000 in
set_option maxHeartbeats 1000000 in
theorem drawWho_any (a : Option Addr) (n c : Nat) (w : World) (h : BytesAt w a n) (hn : n ≤ c) (hc : c ≤ 140737488355328) :
    Calls Try.prog 20 #[.slice a n c] w fun e w' =>
      ∃ (b : Book) (x1 x2 : Option Addr) (y1 y2 : Nat) (s : Str), e = .returned (.tuple #[.agg #[.slice x1 b.things.length y1, .slice x2 b.batches.length y2], .string (S s)]) ∧ Ext w w' ∧ BookAt w' x1 x2 b ∧ SmB9 b ∧ s.length ≤ 140737488355328 := by
  have hby : BytesAt (w.alloc (.cells #[.slice none 0 0, .slice none 0 0] 26)) a n := h.gb (gb_none (ext_alloc _ _)) (fun b o e hp => by simp)
  go_enter Try.func20, Try.ntmps20
  go_wp2_with fail
  refine (l1Open_any a n c _ hby hn hc).mono ?_
  rintro e w1 ⟨rfl, hE1, hr1⟩
  have hz1 := hr1.lt
  simp at hr1 hz1
  have HRR : Hid (Rec w1 w.heap.size 26 [.slice none 0 0, .slice none 0 0]) := (Rec.new w _ _).ext hE1
  have HE1 := hid (Ext.tr (ext_alloc _ _) hE1)
  clear hE1
  go_wp2_with fail
  refine (l5Any_any (w.heap.size + 1) 0 w1 hr1 (by omega)).mono ?_
  rintro e w2 ⟨b, x1, x2, y1, y2, rfl, hg2, hr2, hb2, hsm⟩
  have hz2 := hg2.size
  have HE2 := hid (Ext.tr (on_new HE1.out (by omega) hg2) (ext_alloc w2 (.cells #[.slice x1 b.things.length y1, .slice x2 b.batches.length y2] 26)))
  have HRR2 := hid ((HRR.out.kept hg2 (by simp)).ext (ext_alloc w2 (.cells #[.slice x1 b.things.length y1, .slice x2 b.batches.length y2] 26)))
  have HB2 := hid (hb2.ext (ext_alloc w2 (.cells #[.slice x1 b.things.length y1, .slice x2 b.batches.length y2] 26)))
  have HRd2 := hid (hr2.ext (ext_alloc w2 (.cells #[.slice x1 b.things.length y1, .slice x2 b.batches.length y2] 26)))
  have HRX2 : Hid (Rec (w2.alloc (.cells #[.slice x1 b.things.length y1, .slice x2 b.batches.length y2] 26)) w2.heap.size 26 [.slice x1 b.things.length y1, .slice x2 b.batches.length y2]) := Rec.new w2 _ _
  clear hg2 hr2 hb2 HRR HE1 hr1
  go_wp2_with fail
  generalize w2.alloc (.cells #[.slice x1 b.things.length y1, .slice x2 b.batches.length y2] 26) = w3 at HE2 HRR2 HB2 HRd2 HRX2 ⊢
  have hXw : w.heap.size + 1 + 1 ≤ w2.heap.size := by omega
  generalize w2.heap.size = X at HRX2 hXw ⊢
  have c0 := HRX2.out.cell (i := 0) rfl
  have c1 := HRX2.out.cell (i := 1) rfl
  refine wp_region_T (fun w' => w'.cell? ⟨X, 0, none⟩ = some (.slice x1 b.things.length y1) ∧ w'.cell? ⟨X, 1, none⟩ = some (.slice x2 b.batches.length y2)) 5 (by kernel_rfl) ⟨c0, c1⟩ (fun hS => ?_)
  refine wpT_take 0 (v := ?_) rfl rfl (by kernel_rfl) (by kernel_rfl) (by kernel_rfl) (by kernel_rfl) (fun _ _ _ h => h) hS rfl (by intro w0 hw0; (try dsimp only at hw0); go_simp; try rfl) ?_
  try simp only [List.set]
  refine wpT_take 1 (v := ?_) rfl rfl (by kernel_rfl) (by kernel_rfl) (by kernel_rfl) (by kernel_rfl) (fun _ _ _ h => h) hS rfl (by intro w0 hw0; (try dsimp only at hw0); go_simp; try rfl) ?_
  try simp only [List.set]
  refine wpT_take 2 (v := ?_) rfl rfl (by kernel_rfl) (by kernel_rfl) (by kernel_rfl) (by kernel_rfl) (fun _ _ _ h => h) hS rfl (by intro w0 hw0; (try dsimp only at hw0); go_simp; try rfl) ?_
  try simp only [List.set]
  refine wpT_one 3 rfl (by kernel_rfl) rfl rfl (fun K hK => ?_)
  go_simp
  refine (l5Thing_any (w.heap.size + 1) (0 + 3100) b _ _ _ _ _ (HRd2.out.ext (ext_drewN w3 1)) (by omega) (HB2.out.ext (ext_drewN w3 1)) hsm).mono ?_
  rintro e w4 ⟨s, rfl, hg4, hr4, hsl⟩
  have hrx4 := (HRX2.out.ext (ext_drewN w3 1)).kept hg4 (by simp; omega)
  have HRR4 := hid ((HRR2.out.ext (ext_drewN w3 1)).kept hg4 (by simp))
  have HE4 := hid (on_new (Ext.tr HE2.out (ext_drewN w3 1)) (by omega) hg4)
  have HB4 := hid ((HB2.out.ext (ext_drewN w3 1)).on (HRd2.out.ext (ext_drewN w3 1)) hg4)
  go_wp2_with fail
  refine hK.out _ _ ⟨hrx4.cell rfl, hrx4.cell rfl⟩ (fun hS1 => ?_)
  clear hK hS
  have hS := hS1
  clear hS1
  try clear K
  try simp only [put_some, List.set]
  have t0 := HRR4.out.cell (i := 0) rfl
  have t1 := HRR4.out.cell (i := 1) rfl
  have f0 := HRR4.out.frozen 0
  have f1 := HRR4.out.frozen 1
  have hS3 : Ext w ((w4.setCell ⟨w.heap.size, 0, none⟩ (.slice x1 b.things.length y1)).setCell ⟨w.heap.size, 1, none⟩ (.slice x2 b.batches.length y2)) := (HE4.out.setCell (by simp) _).setCell (by simp) _
  have hB3 : BookAt ((w4.setCell ⟨w.heap.size, 0, none⟩ (.slice x1 b.things.length y1)).setCell ⟨w.heap.size, 1, none⟩ (.slice x2 b.batches.length y2)) x1 x2 b := (HB4.out.box HRR4.out noStr2).box (HRR4.out.set 0 _) noStr2
  have hrx5 := (hrx4.kept (gb_store w4 w.heap.size 0 (.slice x1 b.things.length y1)) (by simp; omega)).kept (gb_store _ w.heap.size 1 (.slice x2 b.batches.length y2)) (by simp; omega)
  have HS3 := hid hS3
  have HB3 := hid hB3
  have HX5 := hid hrx5
  clear hS3 hB3 hrx5
  refine wpT_one 4 rfl (by kernel_rfl) rfl rfl (fun K hK => ?_)
  go_simp
  refine hK.out _ _ ⟨HX5.out.cell rfl, HX5.out.cell rfl⟩ (fun hS1 => ?_)
  clear hK hS
  have hS := hS1
  clear hS1
  try clear K
  try simp only [put_some, List.set]
  refine wpT_last rfl (by kernel_rfl) (by kernel_rfl) rfl (fun K hK => ?_)
  go_simp
  refine hK.out _ _ ?_
  clear hK hS
  go_wp2
  refine bodyPost_ret (v := .tuple #[.agg #[.slice x1 b.things.length y1, .slice x2 b.batches.length y2], .string (S s)]) (by simp [results, Try.results20, go_sem, t0, t1]) rfl (by
    refine ⟨b, x1, x2, ?_⟩
    first
      | exact ⟨y1, y2, s, rfl, HS3.out, HB3.out, hsm, hsl⟩
      | exact ⟨⟨y1, y2, s, rfl⟩, HS3.out, HB3.out, hsm, hsl⟩
      | (refine ⟨y1, y2, s, ?_⟩; simp; exact ⟨HS3.out, HB3.out, hsm, hsl⟩))
end Go.Proofs.Ytdafpnpfcmgfcaa
