/- The walks over l5Asks, DrawShareLess and DrawShareEnter. -/
import Derived.Test.YtdafpnpfcmgfcaaGreatDoorJB
namespace Go.Proofs.YtdafpnpfcmgfcaaGreatDoor
open Go.RowKit
attribute [local go_sem] S_toList S_size S_get

theorem SmB9.does {b : Book} (h : SmB9 b) : DoesSm b := ⟨h.1, h.2.1, fun i hi => by
  rw [nthB_get hi]
  exact (h.2.2 _ (List.getElem_mem hi)).2⟩
/-- A book, a name, a list. -/
def AskRes (w : World) (e : Ending) (w' : World) : Prop :=
  ∃ (b : Book) (x1 x2 x3 : Option Addr) (y1 y2 y3 : Nat) (s : Str) (L : List Str), e = .returned (.tuple #[.agg #[.slice x1 b.things.length y1, .slice x2 b.batches.length y2], .string (S s), .slice x3 L.length y3]) ∧ Ext w w' ∧ BookAt w' x1 x2 b ∧ StrsAt w' x3 L ∧ SmB9 b ∧ s.length ≤ 140737488355328

theorem StrsAt.box {w : World} {a : Option Addr} {ss : List Str} {X : Nat} {t : TypeId} {l : List Value} (h : StrsAt w a ss) (hr : Rec w X t l) (hn : NoStr l) (i : Nat) (u : Value) : StrsAt (w.setCell ⟨X, i, none⟩ u) a ss :=
  h.gb (gb_store _ _ _ _) (fun hp b o e => by
    obtain ⟨b', o', e', hc⟩ := (h.2 0 hp).2
    rw [e] at e'
    cases e'
    intro e2
    cases e2
    exact rec_ne hr hn hc rfl)

set_option maxRecDepth 100000 in
set_option maxHeartbeats 1000000 in
theorem asks_any (a : Option Addr) (n c : Nat) (w : World) (h : BytesAt w a n) (hn : n ≤ c) (hc : c ≤ 140737488355328) :
    Calls Tryz.prog 65 #[.slice a n c] w fun e w' => AskRes w e w' := by
  have hby : BytesAt (w.alloc (.cells #[.slice none 0 0, .slice none 0 0] 26)) a n := h.gb (gb_none (ext_alloc _ _)) (fun b o e hp => by simp)
  go_enter Tryz.func65, Tryz.ntmps65
  go_wp2_with fail
  refine (l1Open_any a n c _ hby hn hc).mono ?_
  rintro e w1 ⟨rfl, hE1, hr1⟩
  have hz1 := hr1.lt
  simp at hr1 hz1
  have HRR : Hid (Rec w1 w.heap.size 26 [.slice none 0 0, .slice none 0 0]) := (Rec.new w _ _).ext hE1
  have HE1 := hid (Ext.tr (ext_alloc _ _) hE1)
  clear hE1
  go_wp2_with fail
  refine (l5Any_any (w.heap.size + 1) 0 w1 hr1 (by omega)).mono ?_
  rintro e w2 ⟨b, x1, x2, y1, y2, rfl, hg2, hr2, hb2, hsm⟩
  have hz2 := hg2.size
  have HE2 := hid (Ext.tr (on_new HE1.out (by omega) hg2) (ext_alloc w2 (.cells #[.slice x1 b.things.length y1, .slice x2 b.batches.length y2] 26)))
  have HRR2 := hid ((HRR.out.kept hg2 (by simp)).ext (ext_alloc w2 (.cells #[.slice x1 b.things.length y1, .slice x2 b.batches.length y2] 26)))
  have HB2 := hid (hb2.ext (ext_alloc w2 (.cells #[.slice x1 b.things.length y1, .slice x2 b.batches.length y2] 26)))
  have HRd2 := hid (hr2.ext (ext_alloc w2 (.cells #[.slice x1 b.things.length y1, .slice x2 b.batches.length y2] 26)))
  have HRX2 : Hid (Rec (w2.alloc (.cells #[.slice x1 b.things.length y1, .slice x2 b.batches.length y2] 26)) w2.heap.size 26 [.slice x1 b.things.length y1, .slice x2 b.batches.length y2]) := Rec.new w2 _ _
  clear hg2 hr2 hb2 HRR HE1 hr1
  go_wp2_with fail
  generalize w2.alloc (.cells #[.slice x1 b.things.length y1, .slice x2 b.batches.length y2] 26) = w3 at HE2 HRR2 HB2 HRd2 HRX2 ⊢
  have hXw : w.heap.size + 1 + 1 ≤ w2.heap.size := by omega
  generalize w2.heap.size = X at HRX2 hXw ⊢
  refine (l5Does_any (w.heap.size + 1) (0 + 3100) b _ _ _ _ _ HRd2.out (by omega) HB2.out hsm.does).mono ?_
  rintro e w4 ⟨kind, s, L, x3, y3, rfl, hg4, hr4, hl4, hsl⟩
  have hX3 := HRX2.out.lt
  have hz4 := hg4.size
  have HRX4 := hid ((HRX2.out.kept hg4 (by simp; omega)).ext (ext_alloc w4 (.cells #[.int .i64 (kind : Int), .string (S s), .slice x3 L.length y3] 31)))
  have HRR4 := hid ((HRR2.out.kept hg4 (by simp)).ext (ext_alloc w4 (.cells #[.int .i64 (kind : Int), .string (S s), .slice x3 L.length y3] 31)))
  have HE4 := hid (Ext.tr (on_new HE2.out (by omega) hg4) (ext_alloc w4 (.cells #[.int .i64 (kind : Int), .string (S s), .slice x3 L.length y3] 31)))
  have HB4 := hid ((HB2.out.on HRd2.out hg4).ext (ext_alloc w4 (.cells #[.int .i64 (kind : Int), .string (S s), .slice x3 L.length y3] 31)))
  have HL4 := hid (hl4.ext (ext_alloc w4 (.cells #[.int .i64 (kind : Int), .string (S s), .slice x3 L.length y3] 31)))
  have HRD4 : Hid (Rec (w4.alloc (.cells #[.int .i64 (kind : Int), .string (S s), .slice x3 L.length y3] 31)) w4.heap.size 31 [.int .i64 (kind : Int), .string (S s), .slice x3 L.length y3]) := Rec.new w4 _ _
  clear hg4 hr4 hl4 HE2 HRR2 HB2 HRd2 HRX2
  go_wp2_with fail
  generalize w4.alloc (.cells #[.int .i64 (kind : Int), .string (S s), .slice x3 L.length y3] 31) = w5 at HRX4 HRR4 HE4 HB4 HL4 HRD4 ⊢
  have hDw : X < w4.heap.size := by omega
  generalize w4.heap.size = D at HRD4 hDw ⊢
  refine wp_region_T (fun w' => w'.cell? ⟨X, 0, none⟩ = some (.slice x1 b.things.length y1) ∧ w'.cell? ⟨X, 1, none⟩ = some (.slice x2 b.batches.length y2) ∧ w'.cell? ⟨D, 1, none⟩ = some (.string (S s)) ∧ w'.cell? ⟨D, 2, none⟩ = some (.slice x3 L.length y3)) 7 (by kernel_rfl) ⟨HRX4.out.cell rfl, HRX4.out.cell rfl, HRD4.out.cell rfl, HRD4.out.cell rfl⟩ (fun hS => ?_)
  refine wpT_take 0 (v := ?_) rfl rfl (by kernel_rfl) (by kernel_rfl) (by kernel_rfl) (by kernel_rfl) (fun _ _ _ h => h) hS rfl (by intro w0 hw0; (try dsimp only at hw0); go_simp; try rfl) ?_
  try simp only [List.set]
  refine wpT_take 1 (v := ?_) rfl rfl (by kernel_rfl) (by kernel_rfl) (by kernel_rfl) (by kernel_rfl) (fun _ _ _ h => h) hS rfl (by intro w0 hw0; (try dsimp only at hw0); go_simp; try rfl) ?_
  try simp only [List.set]
  refine wpT_take 2 (v := ?_) rfl rfl (by kernel_rfl) (by kernel_rfl) (by kernel_rfl) (by kernel_rfl) (fun _ _ _ h => h) hS rfl (by intro w0 hw0; (try dsimp only at hw0); go_simp; try rfl) ?_
  try simp only [List.set]
  refine wpT_take 3 (v := ?_) rfl rfl (by kernel_rfl) (by kernel_rfl) (by kernel_rfl) (by kernel_rfl) (fun _ _ _ h => h) hS rfl (by intro w0 hw0; (try dsimp only at hw0); go_simp; try rfl) ?_
  try simp only [List.set]
  refine wpT_take 4 (v := ?_) rfl rfl (by kernel_rfl) (by kernel_rfl) (by kernel_rfl) (by kernel_rfl) (fun _ _ _ h => h) hS rfl (by intro w0 hw0; (try dsimp only at hw0); go_simp; try rfl) ?_
  try simp only [List.set]
  have t0 := HRR4.out.cell (i := 0) rfl
  have t1 := HRR4.out.cell (i := 1) rfl
  have f0 := HRR4.out.frozen 0
  have f1 := HRR4.out.frozen 1
  have hRR5 := HRR4.out.ext (ext_drewN w5 1)
  have HS3 : Hid (Ext w (((w5.drewN 1).setCell ⟨w.heap.size, 0, none⟩ (.slice x1 b.things.length y1)).setCell ⟨w.heap.size, 1, none⟩ (.slice x2 b.batches.length y2))) := ((Ext.tr HE4.out (ext_drewN w5 1)).setCell (by simp) _).setCell (by simp) _
  have HB3 : Hid (BookAt (((w5.drewN 1).setCell ⟨w.heap.size, 0, none⟩ (.slice x1 b.things.length y1)).setCell ⟨w.heap.size, 1, none⟩ (.slice x2 b.batches.length y2)) x1 x2 b) := ((HB4.out.ext (ext_drewN w5 1)).box hRR5 noStr2).box (hRR5.set 0 _) noStr2
  have HL3 : Hid (StrsAt (((w5.drewN 1).setCell ⟨w.heap.size, 0, none⟩ (.slice x1 b.things.length y1)).setCell ⟨w.heap.size, 1, none⟩ (.slice x2 b.batches.length y2)) x3 L) := ((HL4.out.ext (ext_drewN w5 1)).box hRR5 noStr2 _ _).box (hRR5.set 0 _) noStr2 _ _
  have HX5 := hid (((HRX4.out.ext (ext_drewN w5 1)).kept (gb_store (w5.drewN 1) w.heap.size 0 (.slice x1 b.things.length y1)) (by simp; omega)).kept (gb_store _ w.heap.size 1 (.slice x2 b.batches.length y2)) (by simp; omega))
  have HD5 := hid (((HRD4.out.ext (ext_drewN w5 1)).kept (gb_store (w5.drewN 1) w.heap.size 0 (.slice x1 b.things.length y1)) (by simp; omega)).kept (gb_store _ w.heap.size 1 (.slice x2 b.batches.length y2)) (by simp; omega))
  refine wpT_one 5 rfl (by kernel_rfl) rfl rfl (fun K hK => ?_)
  go_simp
  refine hK.out _ _ ⟨HX5.out.cell rfl, HX5.out.cell rfl, HD5.out.cell rfl, HD5.out.cell rfl⟩ (fun hS1 => ?_)
  clear hK hS
  have hS := hS1
  clear hS1
  try clear K
  try simp only [put_some, List.set]
  refine wpT_take 6 (v := ?_) rfl rfl (by kernel_rfl) (by kernel_rfl) (by kernel_rfl) (by kernel_rfl) (fun _ _ _ h => h) hS rfl (by intro w0 hw0; (try dsimp only at hw0); go_simp; try rfl) ?_
  try simp only [List.set]
  refine wpT_last rfl (by kernel_rfl) (by kernel_rfl) rfl (fun K hK => ?_)
  go_simp
  refine hK.out _ _ ?_
  clear hK hS hRR5
  go_wp2
  exact bodyPost_ret (v := .tuple #[.agg #[.slice x1 b.things.length y1, .slice x2 b.batches.length y2], .string (S s), .slice x3 L.length y3]) (by simp [results, Tryz.results65, go_sem, t0, t1]) rfl ⟨b, x1, x2, x3, y1, y2, y3, s, L, rfl, HS3.out, HB3.out, HL3.out, hsm, hsl⟩

set_option maxRecDepth 100000 in
set_option maxHeartbeats 1000000 in
theorem drawLess_any (a : Option Addr) (n c : Nat) (w : World) (h : BytesAt w a n) (hn : n ≤ c) (hc : c ≤ 140737488355328) :
    Calls Tryz.prog 27 #[.slice a n c] w fun e w' => AskRes w e w' := by
  have hby : BytesAt (w.alloc (.cells #[.slice none 0 0, .slice none 0 0] 26)) a n := h.gb (gb_none (ext_alloc _ _)) (fun b o e hp => by simp)
  go_enter Tryz.func27, Tryz.ntmps27
  go_wp2_with fail
  refine (asks_any a n c _ hby hn hc).mono ?_
  rintro e w1 ⟨b, x1, x2, x3, y1, y2, y3, s, L, rfl, hE1, hb1, hl1, hsm, hsl⟩
  have hRR : Rec w1 w.heap.size 26 [.slice none 0 0, .slice none 0 0] := (Rec.new w _ _).ext hE1
  have t0 := hRR.cell (i := 0) rfl
  have t1 := hRR.cell (i := 1) rfl
  have f0 := hRR.frozen 0
  have f1 := hRR.frozen 1
  have HS3 : Hid (Ext w ((w1.setCell ⟨w.heap.size, 0, none⟩ (.slice x1 b.things.length y1)).setCell ⟨w.heap.size, 1, none⟩ (.slice x2 b.batches.length y2))) := ((Ext.tr (ext_alloc _ _) hE1).setCell (by simp) _).setCell (by simp) _
  have HB3 : Hid (BookAt ((w1.setCell ⟨w.heap.size, 0, none⟩ (.slice x1 b.things.length y1)).setCell ⟨w.heap.size, 1, none⟩ (.slice x2 b.batches.length y2)) x1 x2 b) := (hb1.box hRR noStr2).box (hRR.set 0 _) noStr2
  have HL3 : Hid (StrsAt ((w1.setCell ⟨w.heap.size, 0, none⟩ (.slice x1 b.things.length y1)).setCell ⟨w.heap.size, 1, none⟩ (.slice x2 b.batches.length y2)) x3 L) := (hl1.box hRR noStr2 _ _).box (hRR.set 0 _) noStr2 _ _
  clear hE1 hb1 hl1 hRR
  go_wp2_with fail
  exact bodyPost_ret (v := .tuple #[.agg #[.slice x1 b.things.length y1, .slice x2 b.batches.length y2], .string (S s), .slice x3 L.length y3]) (by simp [results, Tryz.results27, go_sem, t0, t1]) rfl ⟨b, x1, x2, x3, y1, y2, y3, s, L, rfl, HS3.out, HB3.out, HL3.out, hsm, hsl⟩

def wordsE : List Str := [[], [122, 122], [97]]
theorem wordsE_short : ShortS wordsE := ⟨by simp [wordsE], fun i hi => by
  match i, hi with
  | 0, _ => simp [wordsE, nth]
  | 1, _ => simp [wordsE, nth]
  | 2, _ => simp [wordsE, nth]⟩
def wordsN : List Str := [[97, 108, 101], [98], [99, 45, 99], [100, 97, 114, 107], [120, 57], [122, 122], [122, 122], []]
theorem wordsN_short : ShortS wordsN := ⟨by simp [wordsN], fun i hi => by
  match i, hi with
  | 0, _ => simp [wordsN, nth]
  | 1, _ => simp [wordsN, nth]
  | 2, _ => simp [wordsN, nth]
  | 3, _ => simp [wordsN, nth]
  | 4, _ => simp [wordsN, nth]
  | 5, _ => simp [wordsN, nth]
  | 6, _ => simp [wordsN, nth]
  | 7, _ => simp [wordsN, nth]⟩

theorem short_snoc {l : List Str} {x : Str} (h : ShortS l) (hx : x.length ≤ 140737488355328) (hl : l.length + 1 ≤ 8796093022208) : ShortS (l ++ [x]) := by
  refine ⟨by rw [List.length_append, List.length_singleton]; exact hl, fun i hi => ?_⟩
  rw [nth_get hi]
  rcases List.mem_append.1 (List.getElem_mem hi) with hm | hm
  · obtain ⟨j, hj, e⟩ := List.getElem_of_mem hm
    have := h.2 j hj
    rw [nth_get hj, e] at this; exact this
  · rw [List.mem_singleton] at hm
    rw [hm]; exact hx

set_option maxRecDepth 100000 in
set_option maxHeartbeats 2000000 in
theorem drawEnter_any (a : Option Addr) (n c : Nat) (w : World) (h : BytesAt w a n) (hn : n ≤ c) (hc : c ≤ 140737488355328) :
    Calls Tryz.prog 28 #[.slice a n c] w fun e w' => AskRes w e w' := by
  have hby : BytesAt (w.alloc (.cells #[.slice none 0 0, .slice none 0 0] 26)) a n := h.gb (gb_none (ext_alloc _ _)) (fun b o e hp => by simp)
  go_enter Tryz.func28, Tryz.ntmps28
  go_wp2_with fail
  refine (l1Open_any a n c _ hby hn hc).mono ?_
  rintro e w1 ⟨rfl, hE1, hr1⟩
  have hz1 := hr1.lt
  simp at hr1 hz1
  have HRR : Hid (Rec w1 w.heap.size 26 [.slice none 0 0, .slice none 0 0]) := (Rec.new w _ _).ext hE1
  have HE1 := hid (Ext.tr (ext_alloc _ _) hE1)
  clear hE1
  go_wp2_with fail
  refine (l5Any_any (w.heap.size + 1) 0 w1 hr1 (by omega)).mono ?_
  rintro e w2 ⟨b, x1, x2, y1, y2, rfl, hg2, hr2, hb2, hsm⟩
  have hz2 := hg2.size
  have HE2 := hid (Ext.tr (on_new HE1.out (by omega) hg2) (ext_alloc w2 (.cells #[.slice x1 b.things.length y1, .slice x2 b.batches.length y2] 26)))
  have HRR2 := hid ((HRR.out.kept hg2 (by simp)).ext (ext_alloc w2 (.cells #[.slice x1 b.things.length y1, .slice x2 b.batches.length y2] 26)))
  have HB2 := hid (hb2.ext (ext_alloc w2 (.cells #[.slice x1 b.things.length y1, .slice x2 b.batches.length y2] 26)))
  have HRd2 := hid (hr2.ext (ext_alloc w2 (.cells #[.slice x1 b.things.length y1, .slice x2 b.batches.length y2] 26)))
  have HRX2 : Hid (Rec (w2.alloc (.cells #[.slice x1 b.things.length y1, .slice x2 b.batches.length y2] 26)) w2.heap.size 26 [.slice x1 b.things.length y1, .slice x2 b.batches.length y2]) := Rec.new w2 _ _
  clear hg2 hr2 hb2 HRR HE1 hr1
  go_wp2_with fail
  generalize w2.alloc (.cells #[.slice x1 b.things.length y1, .slice x2 b.batches.length y2] 26) = w3 at HE2 HRR2 HB2 HRd2 HRX2 ⊢
  have hXw : w.heap.size + 1 + 1 ≤ w2.heap.size := by omega
  generalize w2.heap.size = X at HRX2 hXw ⊢
  have h9 := hsm.1
  have hX3 := HRX2.out.lt
  refine (l5Some_any (w.heap.size + 1) (0 + 3100) 2 _ _ b.things _ HRd2.out (by omega) (by omega) (by omega) HB2.out.1 (fun hp b' o' e' => HB2.out.1.notR HRd2.out hp b' o' e')).mono ?_
  rintro e w4 ⟨vl, L0, rfl, hg4, hr4, ho4, hsub⟩
  have HON4 := hid hg4
  have HRd4 := hid hr4
  have HO4 := hid ho4
  have HSH := hid (sub_short hsub HB2.out.1.short)
  have hlen := hsub.length_le
  clear hg4 hr4 ho4
  go_wp2_with fail
  refine (pick_any (w.heap.size + 1) (0 + 3100 + b.things.length) 12 w4 HRd4.out (by omega) (by omega) (by omega)).mono ?_
  rintro e w5 ⟨j, rfl, hj, hg5, hr5⟩
  have HON5 := hid (gb_tr HON4.out hg5)
  have HRd5 : Hid (Rd w5 (w.heap.size + 1) 3200) := hr5.mono (by omega)
  have HO5 : Hid (OwnL w5 w3.heap.size vl L0) := HO4.out.far hg5 (fun k hk => by cases hk; omega)
  have hz5 : w3.heap.size ≤ w5.heap.size := HON5.out.size
  clear hg5 hr5 HON4 HRd4 HO4
  go_upto_if 18 with fail
  go_cut [7] (fun v wx => ∃ L : List Str, OwnL wx w3.heap.size v L ∧ ShortS L ∧ w3.grownBy wx (some (w.heap.size + 1)) ∧ Rd wx (w.heap.size + 1) 3210)
  case first =>
    by_cases hj0 : j = 0
    · subst hj0
      go_wp2_with fail
      have hfA : StrsAt (w5.alloc (.cells #[.string (S []), .string (S [122, 122]), .string (S [97])] 9)) (some ⟨w5.heap.size, 0, none⟩) wordsE := rec_strs (Rec.new w5 _ _) wordsE_short
      have hrA := HRd5.out.ext (ext_alloc w5 (.cells #[.string (S []), .string (S [122, 122]), .string (S [97])] 9))
      have hof := of_any (w.heap.size + 1) 3200 _ 3 wordsE _ hrA (by omega) hfA (by simp [wordsE]) (by simp [wordsE]) (fun b' o' e' => hfA.notR hrA (by simp [wordsE]) b' o' e')
      have e3 : wordsE.length = 3 := rfl
      rw [e3] at hof
      refine hof.mono ?_
      clear hof
      rintro e wB ⟨jB, hjB, rfl, hgB, hrB⟩
      have hw4 : (nth wordsE jB).length ≤ 140737488355328 := wordsE_short.2 jB (by rw [e3]; exact hjB)
      have HST := hid (one_str wB (nth wordsE jB) hw4)
      have HOC : Hid (OwnL (wB.alloc (.cells #[.string (S (nth wordsE jB))] 9)) w3.heap.size vl L0) := ((HO5.out.ext (ext_alloc w5 (.cells #[.string (S []), .string (S [122, 122]), .string (S [97])] 9))).far hgB (fun k e => by cases e; omega)).ext (ext_alloc _ _)
      have HONB : Hid (w3.grownBy (wB.alloc (.cells #[.string (S (nth wordsE jB))] 9)) (some (w.heap.size + 1))) := gb_tr (gb_tr (gb_tr HON5.out (gb_ext (ext_alloc _ _) _)) hgB) (gb_ext (ext_alloc _ _) _)
      have HRdB := hid (hrB.ext (ext_alloc wB (.cells #[.string (S (nth wordsE jB))] 9)))
      have hzB := HONB.out.size
      have HSL : Hid (ShortS (L0 ++ [nth wordsE jB])) := by
        refine short_snoc HSH.out hw4 ?_
        omega
      clear hfA hrA hgB hrB
      go_wp2_with (at_builtin; refine wpList_strs rfl _ _ rfl rfl HOC.out rfl HST.out ?q1 ?q2 ?_)
      case q1 => simp; omega
      case q2 => exact hzB
      intro v' w6 h2 h3 h4
      have HN : Hid (OwnL w6 w3.heap.size v' (L0 ++ [nth wordsE jB])) := h2
      have HON6 : Hid (w3.grownBy w6 (some (w.heap.size + 1))) := on_grown HONB.out h3 (fun k e => (HOC.out.lt k e).1)
      have HRd6 := hid (HRdB.out.gb h3 (fun k e => by have := (HOC.out.lt k e).1; omega))
      clear h2 h3 h4
      go_wp2_with fail
      go_meet
      exact ⟨_, HN.out, HSL.out, HON6.out, HRd6.out.mono (by omega)⟩
    · have n0 : ((j : Int) == 0) = false := by simp; omega
      go_wp2_with fail
      go_meet
      exact ⟨_, HO5.out, HSH.out, HON5.out, HRd5.out.mono (by omega)⟩
  case rest =>
    obtain ⟨L, ho6, hsl6, hon6, hrd6⟩ := hcut
    obtain ⟨x3, y3, rfl⟩ := own_sl ho6
    have HRX6 := hid (HRX2.out.kept hon6 (by simp; omega))
    have HON6 := hid hon6
    have HRd6 := hid hrd6
    have HO6 := hid ho6
    have HSL := hid hsl6
    have hz6 := hon6.size
    clear ho6 hsl6 hon6 hrd6 HON5 HRd5 HO5
    go_wp2_with fail
    refine wp_region_T (fun w' => w'.cell? ⟨X, 0, none⟩ = some (.slice x1 b.things.length y1) ∧ w'.cell? ⟨X, 1, none⟩ = some (.slice x2 b.batches.length y2)) 7 (by kernel_rfl) ⟨HRX6.out.cell rfl, HRX6.out.cell rfl⟩ (fun hS => ?_)
    refine wpT_take 0 (v := ?_) rfl rfl (by kernel_rfl) (by kernel_rfl) (by kernel_rfl) (by kernel_rfl) (fun _ _ _ h => h) hS rfl (by intro w0 hw0; (try dsimp only at hw0); go_simp; try rfl) ?_
    try simp only [List.set]
    refine wpT_take 1 (v := ?_) rfl rfl (by kernel_rfl) (by kernel_rfl) (by kernel_rfl) (by kernel_rfl) (fun _ _ _ h => h) hS rfl (by intro w0 hw0; (try dsimp only at hw0); go_simp; try rfl) ?_
    try simp only [List.set]
    refine wpT_take 4 (v := ?_) rfl rfl (by kernel_rfl) (by kernel_rfl) (by kernel_rfl) (by kernel_rfl) (fun _ _ _ h => h) hS rfl (by intro w0 hw0; (try dsimp only at hw0); go_simp; try rfl) ?_
    try simp only [List.set]
    refine wpT_one 2 rfl (by kernel_rfl) rfl rfl (fun K hK => ?_)
    go_simp
    refine hK.out _ _ ⟨(ext_alloc _ _).keep hS.1, (ext_alloc _ _).keep hS.2⟩ (fun hS1 => ?_)
    clear hK hS
    have hS := hS1
    clear hS1
    try clear K
    try simp only [put_some, List.set]
    have hEA : Ext wc (wc.drew.alloc (.cells #[.string (S [97, 108, 101]), .string (S [98]), .string (S [99, 45, 99]), .string (S [100, 97, 114, 107]), .string (S [120, 57]), .string (S [122, 122]), .string (S [122, 122]), .string (S [])] 9)) := Ext.tr (ext_drewN wc 1) (ext_alloc _ _)
    have hfA : StrsAt (wc.drew.alloc (.cells #[.string (S [97, 108, 101]), .string (S [98]), .string (S [99, 45, 99]), .string (S [100, 97, 114, 107]), .string (S [120, 57]), .string (S [122, 122]), .string (S [122, 122]), .string (S [])] 9)) (some ⟨wc.heap.size, 0, none⟩) wordsN := rec_strs (Rec.new wc.drew _ _) wordsN_short
    have hrA := HRd6.out.ext hEA
    refine wpT_one 3 rfl (by kernel_rfl) rfl rfl (fun K hK => ?_)
    go_simp
    have hof := of_any (w.heap.size + 1) 3210 _ 8 wordsN _ hrA (by omega) hfA (by simp [wordsN]) (by simp [wordsN]) (fun b' o' e' => hfA.notR hrA (by simp [wordsN]) b' o' e')
    have e8 : wordsN.length = 8 := rfl
    rw [e8] at hof
    refine hof.mono ?_
    clear hof
    rintro e wB ⟨jB, hjB, rfl, hgB, hrB⟩
    have hw8 : (nth wordsN jB).length ≤ 140737488355328 := wordsN_short.2 jB (by rw [e8]; exact hjB)
    have hrx := (HRX6.out.ext hEA).kept hgB (by simp; omega)
    have hrr := ((HRR2.out.kept HON6.out (by simp)).ext hEA).kept hgB (by simp)
    have HONB : Hid (w3.grownBy wB (some (w.heap.size + 1))) := gb_tr (gb_tr HON6.out (gb_ext hEA _)) hgB
    have hEB := on_new HE2.out (by omega) HONB.out
    have hBB := HB2.out.on HRd2.out HONB.out
    have hoB : OwnL wB w3.heap.size (.slice x3 L.length y3) L := (HO6.out.ext hEA).far hgB (fun k e => by cases e; omega)
    obtain ⟨a', c', e', hLB⟩ := hoB.at' HSL.out
    simp only [Value.slice.injEq, true_and] at e'
    obtain ⟨rfl, rfl⟩ := e'
    have t0 := hrr.cell (i := 0) rfl
    have t1 := hrr.cell (i := 1) rfl
    have f0 := hrr.frozen 0
    have f1 := hrr.frozen 1
    have HS3 : Hid (Ext w ((wB.setCell ⟨w.heap.size, 0, none⟩ (.slice x1 b.things.length y1)).setCell ⟨w.heap.size, 1, none⟩ (.slice x2 b.batches.length y2))) := (hEB.setCell (by simp) _).setCell (by simp) _
    have HB3 : Hid (BookAt ((wB.setCell ⟨w.heap.size, 0, none⟩ (.slice x1 b.things.length y1)).setCell ⟨w.heap.size, 1, none⟩ (.slice x2 b.batches.length y2)) x1 x2 b) := (hBB.box hrr noStr2).box (hrr.set 0 _) noStr2
    have HL3 : Hid (StrsAt ((wB.setCell ⟨w.heap.size, 0, none⟩ (.slice x1 b.things.length y1)).setCell ⟨w.heap.size, 1, none⟩ (.slice x2 b.batches.length y2)) x3 L) := (hLB.box hrr noStr2 _ _).box (hrr.set 0 _) noStr2 _ _
    have HX5 := hid ((hrx.kept (gb_store wB w.heap.size 0 (.slice x1 b.things.length y1)) (by simp; omega)).kept (gb_store _ w.heap.size 1 (.slice x2 b.batches.length y2)) (by simp; omega))
    go_wp2_with fail
    refine hK.out _ _ ⟨hrx.cell rfl, hrx.cell rfl⟩ (fun hS1 => ?_)
    clear hK hS
    have hS := hS1
    clear hS1
    try clear K
    try simp only [put_some, List.set]
    clear hEB hBB hoB hLB hrx hrr hgB hrB hfA hrA hEA
    refine wpT_one 5 rfl (by kernel_rfl) rfl rfl (fun K hK => ?_)
    go_simp
    refine hK.out _ _ ⟨HX5.out.cell rfl, HX5.out.cell rfl⟩ (fun hS1 => ?_)
    clear hK hS
    have hS := hS1
    clear hS1
    try clear K
    try simp only [put_some, List.set]
    refine wpT_take 6 (v := ?_) rfl rfl (by kernel_rfl) (by kernel_rfl) (by kernel_rfl) (by kernel_rfl) (fun _ _ _ h => h) hS rfl (by intro w0 hw0; (try dsimp only at hw0); go_simp; try rfl) ?_
    try simp only [List.set]
    refine wpT_last rfl (by kernel_rfl) (by kernel_rfl) rfl (fun K hK => ?_)
    go_simp
    refine hK.out _ _ ?_
    clear hK hS
    go_wp2
    exact bodyPost_ret (v := .tuple #[.agg #[.slice x1 b.things.length y1, .slice x2 b.batches.length y2], .string (S (nth wordsN jB)), .slice x3 L.length y3]) (by simp [results, Tryz.results28, go_sem, t0, t1]) rfl ⟨b, x1, x2, x3, y1, y2, y3, nth wordsN jB, L, rfl, HS3.out, HB3.out, HL3.out, hsm, hw8⟩
end Go.Proofs.YtdafpnpfcmgfcaaGreatDoor
