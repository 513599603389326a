/- Walks over the copies of batches and books. Walks over the copies of lists of batches, and of books. Walks over whole books: their copies, their sizes. Walks over equality of batches and books, where both are the same. The walk over the specification's ShareBookOk. -/
import Derived.Test.YtdafpnpfcmgfcabGreatDoorWA
import Derived.Deep.RegionWith
import Derived.Deep.DeepCutAuto
namespace Go.Proofs.YtdafpnpfcmgfcabGreatDoor
open Go.RowKit
attribute [local go_sem] S_toList S_size S_get

set_option maxHeartbeats 400000 in
theorem toShareBatch_any (x : Batch) (a1 a2 : Option Addr) (c1 c2 : Nat) (w : World)
    (h1 : StrsAt w a1 x.has) (h2 : StrsAt w a2 x.needs) :
    Calls Tryz.prog 43 #[.agg #[.string (S x.name), .slice a1 x.has.length c1, .slice a2 x.needs.length c2]] w fun e w' =>
      ∃ b1 b2, e = .returned (.agg #[.string (S x.name), .slice (some ⟨b1, 0, none⟩) x.has.length x.has.length, .slice (some ⟨b2, 0, none⟩) x.needs.length x.needs.length]) ∧
        Ext w w' ∧ w.heap.size ≤ b1 ∧ b1 < b2 ∧ OwnStrs w' b1 x.has ∧ OwnStrs w' b2 x.needs := by
  go_enter Tryz.func43, Tryz.ntmps43
  go_wp2_with fail
  have e3 : ∀ o1 o2 o3, Ext w (((w.alloc o1).alloc o2).alloc o3) := fun o1 o2 o3 =>
    (((Below.refl _ _).alloc (Nat.le_refl _) _).alloc (by simp) _).alloc (by simp; omega) _
  refine (toStringS_any _ _ _ _ (h1.ext (e3 _ _ _))).mono ?_
  rintro e w1 ⟨rfl, hext, hown⟩
  obtain ⟨hc, hf⟩ := bcell hext
  have HO : Hid (OwnStrs w1 _ x.has) := hown
  have HE : Hid (Ext w w1) := Ext.tr (e3 _ _ _) hext
  have hz := hext.size
  simp at hz
  have z0 : w.heap.size < w1.heap.size := by omega
  have z1 : w.heap.size + 1 < w1.heap.size := by omega
  have z2 : w.heap.size + 1 + 1 < w1.heap.size := by omega
  have z3 : w.heap.size + 1 + 1 + 1 < w1.heap.size := by
    have h := hown.2.2.lt; simp at h; omega
  clear hown hext
  go_wp2_with fail
  have HS : Ext w (w1.setCell ⟨w.heap.size + 1 + 1, 1, none⟩ (.slice (some ⟨w.heap.size + 1 + 1 + 1, 0, none⟩) x.has.length x.has.length)) := HE.out.setCell (by simp; omega) _
  refine (toStringS_any _ _ _ _ (h2.ext HS)).mono ?_
  rintro e w2 ⟨rfl, hext2, hown2⟩
  obtain ⟨hc2, hf2⟩ := bcell hext2
  have HS2 : Hid (Ext w w2) := Ext.tr HS hext2
  have HO1 : Hid (OwnStrs w2 (w.heap.size + 1 + 1 + 1) x.has) := by
    have h := HO.out
    simp at h
    exact OwnStrs.ext (h.setOther (by simp) _) hext2
  have HO2 : Hid (OwnStrs w2 w1.heap.size x.needs) := by
    have e : (w1.setCell ⟨w.heap.size + 1 + 1, 1, none⟩ (.slice (some ⟨w.heap.size + 1 + 1 + 1, 0, none⟩) x.has.length x.has.length)).heap.size = w1.heap.size := by simp
    rw [e] at hown2; exact hown2
  have hz2 := hext2.size
  simp at hz2
  clear hown2 hext2 HS
  go_wp2
  refine bodyPost_ret (v := .agg #[.string (S x.name), .slice (some ⟨w.heap.size + 1 + 1 + 1, 0, none⟩) x.has.length x.has.length, .slice (some ⟨w1.heap.size, 0, none⟩) x.needs.length x.needs.length]) (by simp [results, Tryz.results43, go_sem, hc2, hc, z1]) rfl ⟨_, _, rfl, ?_, ?_, ?_, ?_, ?_⟩
  · exact (((HS2.out.setCell (by simp; omega) _).setCell (by simp) _).setCell (by simp) _).setCell (by simp) _
  · omega
  · omega
  · exact (((HO1.out.setOther (by simp) _).setOther (by simp; try omega) _).setOther (by simp; try omega) _).setOther (by simp; try omega) _
  · exact (((HO2.out.setOther (by simp; try omega) _).setOther (by simp; try omega) _).setOther (by simp; try omega) _).setOther (by simp; try omega) _
end Go.Proofs.YtdafpnpfcmgfcabGreatDoor
namespace Go.Proofs.YtdafpnpfcmgfcabGreatDoor
open Go.RowKit
attribute [local go_sem] S_toList S_size S_get

theorem Tryz.infoBatch : (Tryz.prog.info? 46).map (fun i => (i.zero, i.size, i.bytes)) = some (some (.agg #[.string (S []), .slice none 0 0, .slice none 0 0]), 3, 64) := by kernel_rfl

def zero3 (n : Nat) : Array Value := madeCells #[.string (S []), .slice none 0 0, .slice none 0 0] (n * 3)

theorem make_batches (n : Nat) (hn : n ≤ 2199023255552) (w : World) :
    (Instr.makeSlice 28 (.int .i64 (n : Int)) (.int .i64 (n : Int))).run Tryz.prog w = .ok (.slice (some ⟨w.heap.size, 0, none⟩) n n) (w.alloc (.cells (zero3 n) 46)) := by
  obtain ⟨i, hi, hzz⟩ := Option.map_eq_some_iff.1 Tryz.infoBatch
  simp only [Prod.mk.injEq] at hzz
  obtain ⟨hz, hs, hb⟩ := hzz
  have hr := run_make (P := Tryz.prog) w 28 46 i _ Tryz.underlying28 hi hz .i64 .i64 n n (by omega) (Int.le_refl _) (by rw [hb]; omega) (by omega)
  simp only [Int.toNat_natCast, hs] at hr
  exact hr

theorem row_zero3 (w : World) (n : Nat) : (w.alloc (.cells (zero3 n) 46)).rowIs w.heap.size 46 (n * 3) (fun j => (zero3 n)[j]?.getD undef) := by
  have hz : (zero3 n).size = n * 3 := size_madeCells _ _
  have h := World.rowIs_alloc w (zero3 n) 46 (fun j => (zero3 n)[j]?.getD undef) (fun j hj => by simp [hj])
  rw [hz] at h
  exact h

/-- The cells of new batches, as far as they are filled. -/
def HalfB (w : World) (B n k : Nat) (bs : List Batch) : Prop :=
  ∃ f, w.rowIs B 46 (n * 3) f ∧ ∀ i, i < k → f (i * 3) = .string (S (nthB bs i).name) ∧ (nthB bs i).name.length ≤ 140737488355328 ∧
    ∃ b1 b2, f (i * 3 + 1) = .slice (some ⟨b1, 0, none⟩) (nthB bs i).has.length (nthB bs i).has.length ∧ f (i * 3 + 2) = .slice (some ⟨b2, 0, none⟩) (nthB bs i).needs.length (nthB bs i).needs.length ∧
      B < b1 ∧ B < b2 ∧ OwnStrs w b1 (nthB bs i).has ∧ OwnStrs w b2 (nthB bs i).needs

theorem HalfB.ext {w w' : World} {B n k : Nat} {bs : List Batch} (h : HalfB w B n k bs) (e : Ext w w') : HalfB w' B n k bs := by
  obtain ⟨f, hr, hi⟩ := h
  refine ⟨f, hr.of_block (e.block B hr.lt), fun i hik => ?_⟩
  obtain ⟨g0, g1, b1, b2, g2, g3, g4, g5, g6, g7⟩ := hi i hik
  exact ⟨g0, g1, b1, b2, g2, g3, g4, g5, g6.ext e, g7.ext e⟩

theorem HalfB.store {w : World} {B n k : Nat} {bs : List Batch} (h : HalfB w B n k bs) (x : Batch) (hx : nthB bs k = x) (hl : x.name.length ≤ 140737488355328) {b1 b2 : Nat} (h1 : B < b1) (h2 : B < b2)
    (o1 : OwnStrs w b1 x.has) (o2 : OwnStrs w b2 x.needs) :
    HalfB (((w.setCell ⟨B, k * 3, none⟩ (.string (S x.name))).setCell ⟨B, k * 3 + 1, none⟩ (.slice (some ⟨b1, 0, none⟩) x.has.length x.has.length)).setCell ⟨B, k * 3 + 2, none⟩ (.slice (some ⟨b2, 0, none⟩) x.needs.length x.needs.length)) B n (k + 1) bs := by
  obtain ⟨f, hr, hi⟩ := h
  refine ⟨_, (((hr.set (k * 3) _).set (k * 3 + 1) _).set (k * 3 + 2) _), fun i hik => ?_⟩
  by_cases e : i = k
  · subst e
    rw [hx]
    refine ⟨by simp, hl, b1, b2, by simp, by simp, h1, h2, ?_, ?_⟩
    · exact ((o1.setOther (by simp; omega) _).setOther (by simp; omega) _).setOther (by simp; omega) _
    · exact ((o2.setOther (by simp; omega) _).setOther (by simp; omega) _).setOther (by simp; omega) _
  · obtain ⟨g0, g1, c1, c2, g2, g3, g4, g5, g6, g7⟩ := hi i (by omega)
    have n0 : ∀ j, j < 3 → i * 3 + j ≠ k * 3 ∧ i * 3 + j ≠ k * 3 + 1 ∧ i * 3 + j ≠ k * 3 + 2 := fun j hj => by omega
    have m0 := n0 0 (by omega)
    have m1 := n0 1 (by omega)
    have m2 := n0 2 (by omega)
    refine ⟨?_, g1, c1, c2, ?_, ?_, g4, g5, ?_, ?_⟩
    · have e0 : i * 3 + 0 = i * 3 := rfl
      rw [e0] at m0
      simp only [m0, if_false]; exact g0
    · simp only [m1, if_false]; exact g2
    · simp only [m2, if_false]; exact g3
    · exact ((g6.setOther (by simp; omega) _).setOther (by simp; omega) _).setOther (by simp; omega) _
    · exact ((g7.setOther (by simp; omega) _).setOther (by simp; omega) _).setOther (by simp; omega) _

set_option maxHeartbeats 400000 in
theorem toShareBatchS_any (a : Option Addr) (ca : Nat) (bs : List Batch) (w : World) (ha : BatchesAt w a bs) :
    Calls Tryz.prog 29 #[.slice a bs.length ca] w fun e w' =>
      e = .returned (.slice (some ⟨w.heap.size, 0, none⟩) bs.length bs.length) ∧ Ext w w' ∧ HalfB w' w.heap.size bs.length bs.length bs := by
  have hn := ha.1
  have hmk := make_batches bs.length hn
  go_enter Tryz.func29, Tryz.ntmps29
  go_wp2
  clear hmk
  go_loopw [4] (fun i wr => ∃ k : Nat, k ≤ bs.length ∧ i = .int .i64 k ∧ Below w.heap.size w wr ∧ HalfB wr w.heap.size bs.length k bs) (fun i _ => bs.length - (intOf i).toNat)
  case atStart => exact ⟨0, Nat.zero_le _, rfl, (Below.refl _ _).alloc (Nat.le_refl _) _, _, row_zero3 w _, fun i hi => by omega⟩
  case round =>
    obtain ⟨k, hk, rfl, hbel, hrow⟩ := hrel
    have ha' : BatchesAt wr a bs := ha.ext hbel
    have HB : Hid (Below w.heap.size w wr) := hbel
    by_cases hlt : k < bs.length
    · obtain ⟨ba, oa, rfl, hl, a1, c1, a2, c2, k0, k1, k2, s1, s2⟩ := ha'.2 k hlt
      have HH := hrow
      clear hrow hbel
      go_wp2_with fail
      refine (toShareBatch_any (nthB bs k) _ _ _ _ _ s1 s2).mono ?_
      rintro e w1 ⟨b1, b2, rfl, hext, hb1, hb2, ho1, ho2⟩
      have hh := HH.ext hext
      have HL : w.heap.size < b1 := by
        obtain ⟨f, hr, _⟩ := HH
        have := hr.lt; omega
      have HB1 : Hid (Below w.heap.size w w1) := Below.trans HB.out (Below.mono hext HB.out.size)
      have HN : Hid (HalfB _ w.heap.size bs.length (k + 1) bs) := hh.store (nthB bs k) rfl hl HL (by omega) ho1 ho2
      obtain ⟨f, hr, _⟩ := hh
      have q0 := hr.cell (i := k * 3) (by omega)
      have q1 := hr.cell (i := k * 3 + 1) (by omega)
      have q2 := hr.cell (i := k * 3 + 2) (by omega)
      have f0 := hr.frozen (k * 3)
      have f1 := hr.frozen (k * 3 + 1)
      have f2 := hr.frozen (k * 3 + 2)
      clear hr hext ho1 ho2
      go_wp2
      go_roundw
      case rel => exact ⟨k + 1, by omega, by go_num, ((HB1.out.setCell (Nat.le_refl _) _).setCell (Nat.le_refl _) _).setCell (Nat.le_refl _) _, HN.out⟩
      case measure => simp [intOf]; omega
    · have HH : Hid (HalfB wr w.heap.size bs.length k bs) := hrow
      have e : k = bs.length := by omega
      clear hrow hbel
      go_wp2
      go_ret
      refine ⟨rfl, HB.out, ?_⟩
      have h := HH.out
      rwa [e] at h
end Go.Proofs.YtdafpnpfcmgfcabGreatDoor
namespace Go.Proofs.YtdafpnpfcmgfcabGreatDoor
open Go.RowKit
attribute [local go_sem] S_toList S_size S_get

theorem HalfB.at {w : World} {B : Nat} {bs : List Batch} (h : HalfB w B bs.length bs.length bs) (hn : bs.length ≤ 2199023255552) : BatchesAt w (some ⟨B, 0, none⟩) bs := by
  obtain ⟨f, hr, hi⟩ := h
  refine ⟨hn, fun i hik => ⟨B, 0, rfl, ?_⟩⟩
  obtain ⟨g0, g1, b1, b2, g2, g3, _, _, g6, g7⟩ := hi i hik
  refine ⟨g1, some ⟨b1, 0, none⟩, (nthB bs i).has.length, some ⟨b2, 0, none⟩, (nthB bs i).needs.length, ?_, ?_, ?_, g6.at, g7.at⟩
  · rw [Nat.zero_add, ← g0]; exact hr.cell (by omega)
  · rw [Nat.zero_add, ← g2]; exact hr.cell (by omega)
  · rw [Nat.zero_add, ← g3]; exact hr.cell (by omega)

theorem HalfB.setOther {w : World} {B n k : Nat} {bs : List Batch} (h : HalfB w B n k bs) {a : Addr} (ha : a.block < B) (v : Value) : HalfB (w.setCell a v) B n k bs := by
  obtain ⟨f, hr, hi⟩ := h
  refine ⟨f, hr.setOther (by omega) v, fun i hik => ?_⟩
  obtain ⟨g0, g1, b1, b2, g2, g3, g4, g5, g6, g7⟩ := hi i hik
  exact ⟨g0, g1, b1, b2, g2, g3, g4, g5, g6.setOther (by omega) v, g7.setOther (by omega) v⟩

/-- A book in new memory: its things at block b1, its batches from block b2 on. -/
def OwnBook (w : World) (b1 b2 : Nat) (b : Book) : Prop :=
  b1 < b2 ∧ OwnStrs w b1 b.things ∧ b.batches.length ≤ 2199023255552 ∧ HalfB w b2 b.batches.length b.batches.length b.batches
theorem OwnBook.at {w : World} {b1 b2 : Nat} {b : Book} (h : OwnBook w b1 b2 b) : BookAt w (some ⟨b1, 0, none⟩) (some ⟨b2, 0, none⟩) b := ⟨h.2.1.at, h.2.2.2.at h.2.2.1⟩
theorem OwnBook.ext {w w' : World} {b1 b2 : Nat} {b : Book} (h : OwnBook w b1 b2 b) (e : Ext w w') : OwnBook w' b1 b2 b := ⟨h.1, h.2.1.ext e, h.2.2.1, h.2.2.2.ext e⟩

/-- A book as a value. -/
def bookV (a1 a2 : Option Addr) (c1 c2 : Nat) (b : Book) : Value := .agg #[.slice a1 b.things.length c1, .slice a2 b.batches.length c2]

set_option maxHeartbeats 400000 in
theorem toShareBook_any (b : Book) (a1 a2 : Option Addr) (c1 c2 : Nat) (w : World) (hb : BookAt w a1 a2 b) :
    Calls Tryz.prog 9 #[.agg #[.slice a1 b.things.length c1, .slice a2 b.batches.length c2]] w fun e w' =>
      ∃ b1 b2, e = .returned (.agg #[.slice (some ⟨b1, 0, none⟩) b.things.length b.things.length, .slice (some ⟨b2, 0, none⟩) b.batches.length b.batches.length]) ∧
        Ext w w' ∧ w.heap.size ≤ b1 ∧ OwnBook w' b1 b2 b := by
  obtain ⟨h1, h2⟩ := hb
  have hn2 := h2.1
  go_enter Tryz.func9, Tryz.ntmps9
  go_wp2_with fail
  have e3 : ∀ o1 o2 o3, Ext w (((w.alloc o1).alloc o2).alloc o3) := fun o1 o2 o3 =>
    (((Below.refl _ _).alloc (Nat.le_refl _) _).alloc (by simp) _).alloc (by simp; omega) _
  refine (toStringS_any _ _ _ _ (h1.ext (e3 _ _ _))).mono ?_
  rintro e w1 ⟨rfl, hext, hown⟩
  obtain ⟨hc, hf⟩ := bcell hext
  have HO : Hid (OwnStrs w1 _ b.things) := hown
  have HE : Hid (Ext w w1) := Ext.tr (e3 _ _ _) hext
  have hz := hext.size
  simp at hz
  have z0 : w.heap.size < w1.heap.size := by omega
  have z1 : w.heap.size + 1 < w1.heap.size := by omega
  have z2 : w.heap.size + 1 + 1 < w1.heap.size := by omega
  have z3 : w.heap.size + 1 + 1 + 1 < w1.heap.size := by
    have h := hown.2.2.lt; simp at h; omega
  clear hown hext
  go_wp2_with fail
  have HS : Ext w (w1.setCell ⟨w.heap.size + 1 + 1, 0, none⟩ (.slice (some ⟨w.heap.size + 1 + 1 + 1, 0, none⟩) b.things.length b.things.length)) := HE.out.setCell (by simp; omega) _
  refine (toShareBatchS_any _ _ _ _ (h2.ext HS)).mono ?_
  rintro e w2 ⟨rfl, hext2, hown2⟩
  obtain ⟨hc2, hf2⟩ := bcell hext2
  have HS2 : Hid (Ext w w2) := Ext.tr HS hext2
  have HO1 : Hid (OwnStrs w2 (w.heap.size + 1 + 1 + 1) b.things) := by
    have h := HO.out
    simp at h
    exact OwnStrs.ext (h.setOther (by simp) _) hext2
  have HO2 : Hid (HalfB w2 w1.heap.size b.batches.length b.batches.length b.batches) := by
    have e : (w1.setCell ⟨w.heap.size + 1 + 1, 0, none⟩ (.slice (some ⟨w.heap.size + 1 + 1 + 1, 0, none⟩) b.things.length b.things.length)).heap.size = w1.heap.size := by simp
    rw [e] at hown2; exact hown2
  have hz2 := hext2.size
  simp at hz2
  clear hown2 hext2 HS
  go_wp2
  refine bodyPost_ret (v := .agg #[.slice (some ⟨w.heap.size + 1 + 1 + 1, 0, none⟩) b.things.length b.things.length, .slice (some ⟨w1.heap.size, 0, none⟩) b.batches.length b.batches.length]) (by simp [results, Tryz.results9, go_sem, hc2, hc, z1]) rfl ⟨_, _, rfl, ?_, ?_, ?_, ?_, ?_, ?_⟩
  · exact ((HS2.out.setCell (by simp; omega) _).setCell (by simp) _).setCell (by simp) _
  · omega
  · omega
  · exact ((HO1.out.setOther (by simp) _).setOther (by simp; try omega) _).setOther (by simp; try omega) _
  · exact hn2
  · exact ((HO2.out.setOther (by simp; try omega) _).setOther (by simp; try omega) _).setOther (by simp; try omega) _

set_option maxHeartbeats 400000 in
theorem szShareBatchS_any (a : Option Addr) (ca : Nat) (bs : List Batch) (left : Int) (w : World) (ha : BatchesAt w a bs) (h0 : 0 ≤ left) (h1 : left ≤ 1048576) :
    Calls Tryz.prog 21 #[.slice a bs.length ca, .int .i64 left] w fun e w' => (∃ r : Int, e = .returned (.int .i64 r) ∧ -1 ≤ r ∧ r ≤ 1048576) ∧ Ext w w' := by
  have hn := ha.1
  by_cases hneg : left - bs.length < 0
  · go_enter Tryz.func21, Tryz.ntmps21
    go_wp2
    go_ret
    exact ⟨⟨-1, rfl, by omega, by omega⟩, Ext.rfl' _⟩
  · go_enter Tryz.func21, Tryz.ntmps21
    go_wp2
    go_loopw [1, 5] (fun l i wr => ∃ (k : Nat) (x : Int), k ≤ bs.length ∧ i = .int .i64 k ∧ l = .int .i64 x ∧ 0 ≤ x ∧ x ≤ 1048576 ∧ Ext w wr) (fun _ i _ => bs.length - (intOf i).toNat)
    case atStart => exact ⟨0, _, Nat.zero_le _, rfl, rfl, by omega, by omega, Ext.rfl' _⟩
    case round =>
      obtain ⟨k, x, hk, rfl, rfl, hx0, hx1, hext⟩ := hrel
      have ha' := ha.ext hext
      have HE : Hid (Ext w wr) := hext
      clear hext
      by_cases hlt : k < bs.length
      · obtain ⟨ba, oa, rfl, hl, a1, c1, a2, c2, k0, k1, k2, s1, s2⟩ := ha'.2 k hlt
        go_wp2_with fail
        refine (szShareBatch_any (nthB bs k) _ _ _ _ _ _ hl s1 s2 (by omega) (by omega)).mono ?_
        rintro e w1 ⟨⟨r, rfl, hr1, hr2⟩, hext⟩
        have HE1 : Hid (Ext w w1) := Ext.tr HE.out hext
        clear hext
        by_cases hr : r < 0
        · go_wp2
          go_ret
          exact ⟨⟨-1, rfl, by omega, by omega⟩, HE1.out⟩
        · go_wp2
          go_roundw
          case rel => exact ⟨k + 1, r, by omega, by go_num, rfl, by omega, by omega, HE1.out⟩
          case measure => simp [intOf]; omega
      · go_wp2
        go_ret
        exact ⟨⟨_, rfl, by omega, by omega⟩, HE.out⟩

set_option maxHeartbeats 400000 in
theorem szShareBook_any (b : Book) (a1 a2 : Option Addr) (c1 c2 : Nat) (left : Int) (w : World) (hb : BookAt w a1 a2 b) (g0 : 0 ≤ left) (g1 : left ≤ 1048576) :
    Calls Tryz.prog 6 #[.agg #[.slice a1 b.things.length c1, .slice a2 b.batches.length c2], .int .i64 left] w fun e w' =>
      (∃ r : Int, e = .returned (.int .i64 r) ∧ -1 ≤ r ∧ r ≤ 1048576) ∧ Ext w w' := by
  have hal : ∀ o, Ext w (w.alloc o) := fun o => (Below.refl _ _).alloc (Nat.le_refl _) _
  go_enter Tryz.func6, Tryz.ntmps6
  go_wp2_with fail
  refine (szStringS_any _ _ _ _ _ (hb.1.ext (hal _)) (by omega) (by omega)).mono ?_
  rintro e w' ⟨⟨r, rfl, hr1, hr2⟩, rfl⟩
  by_cases hr : r < 0
  · go_wp2_with fail
    go_ret
    exact ⟨⟨-1, rfl, by omega, by omega⟩, hal _⟩
  · go_wp2_with fail
    refine (szShareBatchS_any _ _ _ _ _ (hb.2.ext (hal _)) (by omega) (by omega)).mono ?_
    rintro e w1 ⟨⟨r', rfl, hr1', hr2'⟩, hext⟩
    have HE : Hid (Ext w w1) := Ext.tr (hal _) hext
    clear hext
    by_cases hr' : r' < 0
    · go_wp2_with fail
      go_ret
      exact ⟨⟨-1, rfl, by omega, by omega⟩, HE.out⟩
    · go_wp2_with fail
      go_ret
      exact ⟨⟨_, rfl, by omega, by omega⟩, HE.out⟩
end Go.Proofs.YtdafpnpfcmgfcabGreatDoor
namespace Go.Proofs.YtdafpnpfcmgfcabGreatDoor
open Go.RowKit
attribute [local go_sem] S_toList S_size S_get

theorem eqS_self (l : List Str) : eqS l l = true := by simp [eqS]

set_option maxHeartbeats 400000 in
theorem eqShareBatch_same (x : Batch) (a1 a2 d1 d2 : Option Addr) (c1 c2 g1 g2 : Nat) (w : World)
    (h1 : StrsAt w a1 x.has) (h2 : StrsAt w a2 x.needs) (k1 : StrsAt w d1 x.has) (k2 : StrsAt w d2 x.needs) :
    Calls Tryz.prog 48 #[.agg #[.string (S x.name), .slice a1 x.has.length c1, .slice a2 x.needs.length c2], .agg #[.string (S x.name), .slice d1 x.has.length g1, .slice d2 x.needs.length g2]] w fun e w' =>
      e = .returned (.bool true) ∧ Ext w w' := by
  have e2 : ∀ o1 o2, Ext w ((w.alloc o1).alloc o2) := fun o1 o2 => ((Below.refl _ _).alloc (Nat.le_refl _) _).alloc (by simp) _
  have es := eqS_self x.has
  have en := eqS_self x.needs
  have hb : (x.name == x.name) = true := by simp
  go_enter Tryz.func48, Tryz.ntmps48
  go_wp2_with fail
  refine (eqStringS_any _ _ _ _ _ _ _ (h1.ext (e2 _ _)) (k1.ext (e2 _ _))).mono ?_
  rintro e w1 ⟨rfl, n1, rfl⟩
  go_wp2_with fail
  refine (eqStringS_any _ _ _ _ _ _ _ ((h2.ext (e2 _ _)).drewN _) ((k2.ext (e2 _ _)).drewN _)).mono ?_
  rintro e w1 ⟨rfl, n2, rfl⟩
  go_wp2_with fail
  go_ret
  exact ⟨rfl, Ext.tr (e2 _ _) (ext_drewN _ _)⟩

set_option maxHeartbeats 400000 in
theorem eqShareBatchS_same (a d : Option Addr) (ca cd : Nat) (bs : List Batch) (w : World) (ha : BatchesAt w a bs) (hd : BatchesAt w d bs) :
    Calls Tryz.prog 31 #[.slice a bs.length ca, .slice d bs.length cd] w fun e w' => e = .returned (.bool true) ∧ Ext w w' := by
  have hn := ha.1
  have hl' : ((bs.length : Int) == (bs.length : Int)) = true := by simp
  go_enter Tryz.func31, Tryz.ntmps31
  go_wp2
  go_loopw [5] (fun i wr => ∃ k : Nat, k ≤ bs.length ∧ i = .int .i64 k ∧ Ext w wr) (fun i _ => bs.length - (intOf i).toNat)
  case atStart => exact ⟨0, Nat.zero_le _, rfl, Ext.rfl' _⟩
  case round =>
    obtain ⟨k, hk, rfl, hext⟩ := hrel
    have ha' := ha.ext hext
    have hd' := hd.ext hext
    have HE : Hid (Ext w wr) := hext
    clear hext
    by_cases hlt : k < bs.length
    · obtain ⟨ba, oa, rfl, hl, a1, c1, a2, c2, p0, p1, p2, s1, s2⟩ := ha'.2 k hlt
      obtain ⟨bd, od, rfl, _, d1, g1, d2, g2, q0, q1, q2, t1, t2⟩ := hd'.2 k hlt
      go_wp2
      go_region_with (go_at_call 48; refine (eqShareBatch_same (nthB bs k) _ _ _ _ _ _ _ _ _ (s1.draws ⟨1, rfl⟩) (s2.draws ⟨1, rfl⟩) (t1.draws ⟨1, rfl⟩) (t2.draws ⟨1, rfl⟩)).mono ?_; rintro e w1 ⟨rfl, hext⟩)
      all_goals
        have HE1 : Hid (Ext w w1) := Ext.tr HE.out (Ext.tr (ext_drewN wr 1) hext)
        clear hext
        go_wp2
        go_roundw
        case rel => exact ⟨k + 1, by omega, by go_num, HE1.out⟩
        case measure => simp [intOf]; omega
    · go_wp2
      go_ret
      exact ⟨rfl, HE.out⟩

set_option maxHeartbeats 400000 in
theorem eqShareBook_same (b : Book) (a1 a2 d1 d2 : Option Addr) (c1 c2 g1 g2 : Nat) (w : World) (ha : BookAt w a1 a2 b) (hd : BookAt w d1 d2 b) :
    Calls Tryz.prog 12 #[.agg #[.slice a1 b.things.length c1, .slice a2 b.batches.length c2], .agg #[.slice d1 b.things.length g1, .slice d2 b.batches.length g2]] w fun e w' =>
      e = .returned (.bool true) ∧ Ext w w' := by
  have e2 : ∀ o1 o2, Ext w ((w.alloc o1).alloc o2) := fun o1 o2 => ((Below.refl _ _).alloc (Nat.le_refl _) _).alloc (by simp) _
  have es := eqS_self b.things
  go_enter Tryz.func12, Tryz.ntmps12
  go_wp2_with fail
  refine (eqStringS_any _ _ _ _ _ _ _ (ha.1.ext (e2 _ _)) (hd.1.ext (e2 _ _))).mono ?_
  rintro e w1 ⟨rfl, n1, rfl⟩
  go_wp2_with fail
  refine (eqShareBatchS_same _ _ _ _ _ _ (ha.2.ext (Ext.tr (e2 _ _) (ext_drewN _ _))) (hd.2.ext (Ext.tr (e2 _ _) (ext_drewN _ _)))).mono ?_
  rintro e w1 ⟨rfl, hext⟩
  have HE : Hid (Ext w w1) := Ext.tr (Ext.tr (e2 _ _) (ext_drewN _ _)) hext
  clear hext
  go_wp2_with fail
  go_ret
  exact ⟨rfl, HE.out⟩
end Go.Proofs.YtdafpnpfcmgfcabGreatDoor
namespace Go.Proofs.YtdafpnpfcmgfcabGreatDoor
open Go.RowKit
attribute [local go_sem] S_toList S_size S_get

def goodB (b : Book) (i : Nat) : Bool := batchOk b i && allLt i (fun k => !shareB (b.at i).has (b.at k).has)
theorem bookOk_no1 {b : Book} (h : thingsOk b.things = false) : bookOk b = false := by simp [bookOk, h]
theorem bookOk_no2 {b : Book} (h : ¬ b.batches.length ≤ 5) : bookOk b = false := by simp [bookOk, h]
theorem bookOk_no3 {b : Book} {i : Nat} (hi : i < b.batches.length) (h : goodB b i = false) : bookOk b = false := by
  unfold bookOk; rw [allLt_no (p := fun i => batchOk b i && allLt i (fun k => !shareB (b.at i).has (b.at k).has)) hi h]; simp
theorem bookOk_yes {b : Book} (h1 : thingsOk b.things = true) (h2 : b.batches.length ≤ 5) (h3 : ∀ i, i < b.batches.length → goodB b i = true) : bookOk b = true := by
  unfold bookOk; rw [allLt_of (p := fun i => batchOk b i && allLt i (fun k => !shareB (b.at i).has (b.at k).has)) h3, h1]; simp [h2]
theorem goodB_no {b : Book} {i : Nat} (h : batchOk b i = false) : goodB b i = false := by simp [goodB, h]
theorem goodB_no' {b : Book} {i k : Nat} (hk : k < i) (h : shareB (b.at i).has (b.at k).has = true) : goodB b i = false := by
  unfold goodB; rw [allLt_no (p := fun k => !shareB (b.at i).has (b.at k).has) hk (by simp [h])]; simp

theorem box_cell {w wr : World} {c : Array Value} {T : TypeId} (h : Ext (w.alloc (.cells c T)) wr) {i : Nat} {v : Value} (hi : c[i]? = some v) : wr.cell? ⟨w.heap.size, i, none⟩ = some v := by
  refine Ext.keep h ?_
  have hh : (w.alloc (.cells c T)).heap[w.heap.size]? = some (.cells c T) := Go.Deep.blk_alloc_new _ _
  unfold World.cell?
  simp only [hh]
  exact hi
theorem ext_alloc (w : World) (o : Obj) : Ext w (w.alloc o) := (Below.refl _ _).alloc (Nat.le_refl _) _


theorem draws_ext {W wq : World} (h : ∃ n, wq = W.drewN n) : Ext W wq := by obtain ⟨n, rfl⟩ := h; exact ext_drewN _ _
theorem draws_cell {W wq : World} (h : ∃ n, wq = W.drewN n) {p : Addr} {v : Value} (hc : W.cell? p = some v) : wq.cell? p = some v := (draws_ext h).keep hc

theorem l1Share_v (a b : Option Addr) (ca cb : Nat) (sa sb : List Str) (v : Bool) (w : World) (ha : StrsAt w a sa) (hb : StrsAt w b sb) (hv : shareB sa sb = v) :
    Calls Tryz.prog 41 #[.slice a sa.length ca, .slice b sb.length cb] w fun e w' => e = .returned (.bool v) ∧ w' = w := by
  rw [← hv]; exact l1Share_any a b ca cb sa sb w ha hb

theorem l1NamesOk_v (a b : Option Addr) (ca cb : Nat) (sa sb : List Str) (v : Bool) (w : World) (ha : StrsAt w a sa) (hb : StrsAt w b sb) (hv : namesOk sa sb = v) :
    Calls Tryz.prog 25 #[.slice a sa.length ca, .slice b sb.length cb] w fun e w' => e = .returned (.bool v) ∧ ∃ n, w' = w.drewN n := by
  rw [← hv]; exact l1NamesOk_any a b ca cb sa sb w ha hb
theorem l1NameOk_v (s : Str) (v : Bool) (w : World) (hs : s.length ≤ 140737488355328) (hv : nameOk s = v) :
    Calls Tryz.prog 40 #[.string (S s)] w fun e w' => e = .returned (.bool v) ∧ w' = w := by
  rw [← hv]; exact l1NameOk_any s w hs

set_option maxHeartbeats 1000000 in
theorem specBookOk_any (b : Book) (a1 a2 : Option Addr) (c1 c2 : Nat) (w : World) (hb : BookAt w a1 a2 b) :
    Calls Tryz.prog 22 #[.agg #[.slice a1 b.things.length c1, .slice a2 b.batches.length c2]] w fun e w' =>
      e = .returned (.bool (bookOk b)) ∧ Ext w w' := by
  have hal : ∀ o, Ext w (w.alloc o) := fun o => (Below.refl _ _).alloc (Nat.le_refl _) _
  obtain ⟨ht, hbs⟩ := hb
  have hn := hbs.1
  cases hth : thingsOk b.things
  · have HF : Hid (bookOk b = false) := bookOk_no1 hth
    go_enter Tryz.func22, Tryz.ntmps22
    go_wp2_with fail
    refine (l1ThingsOk_any _ _ _ _ (ht.ext (hal _))).mono ?_
    rintro e w1 ⟨rfl, n1, rfl⟩
    go_wp2_with fail
    go_ret
    exact ⟨ret_bool HF.out.symm, Ext.tr (hal _) (ext_drewN _ _)⟩
  · by_cases h5 : b.batches.length ≤ 5
    · go_enter Tryz.func22, Tryz.ntmps22
      go_wp2_with fail
      refine (l1ThingsOk_any _ _ _ _ (ht.ext (hal _))).mono ?_
      rintro e w1 ⟨rfl, hq⟩
      have hex : Ext (w.alloc (.cells #[.slice a1 b.things.length c1, .slice a2 b.batches.length c2] 30)) w1 := by obtain ⟨n1, e⟩ := hq; rw [e]; exact ext_drewN _ _
      have hx0 := box_cell hex (i := 0) rfl
      have hx1 := box_cell hex (i := 1) rfl
      clear hq
      go_wp2_with fail
      go_loopw [3] (fun i wr => ∃ k : Nat, k ≤ b.batches.length ∧ i = .int .i64 k ∧ Ext (w.alloc (.cells #[.slice a1 b.things.length c1, .slice a2 b.batches.length c2] 30)) wr ∧ ∀ j, j < k → goodB b j = true) (fun i _ => b.batches.length - (intOf i).toNat)
      case atStart => exact ⟨0, Nat.zero_le _, rfl, hex, fun j hj => by omega⟩
      case round =>
        obtain ⟨k, hk, rfl, hext, hx⟩ := hrel
        clear hx0 hx1 hex
        have hx0 := box_cell hext (i := 0) rfl
        have hx1 := box_cell hext (i := 1) rfl
        have ht' := ht.ext (Ext.tr (hal _) hext)
        have hbs' := hbs.ext (Ext.tr (hal _) hext)
        have HX : Hid (∀ j, j < k → goodB b j = true) := hx
        have HE : Hid (Ext w wr) := Ext.tr (hal _) hext
        have HE0 : Hid (Ext (w.alloc (.cells #[.slice a1 b.things.length c1, .slice a2 b.batches.length c2] 30)) wr) := hext
        clear hx hext
        by_cases hlt : k < b.batches.length
        · obtain ⟨ba, oa, rfl, hl, d1, g1, d2, g2, p0, p1, p2, s1, s2⟩ := hbs'.2 k hlt
          cases hname : nameOk (nthB b.batches k).name
          · have HF : Hid (bookOk b = false) := bookOk_no3 hlt (goodB_no (by unfold batchOk; unfold Book.at; rw [hname]; rfl))
            go_wp2_with fail
            go_quiet ((go_at_call 40; exact Calls.quiet_of_same (l1NameOk_v _ _ _ hl hname)))
            go_wp2
            go_ret
            exact ⟨ret_bool HF.out.symm, Ext.tr HE.out (Ext.tr (ext_alloc _ _) (ext_drewN _ _))⟩
          · have hx0' : ∀ o, (wr.alloc o).cell? ⟨w.heap.size, 0, none⟩ = some (.slice a1 b.things.length c1) := fun o => (ext_alloc _ _).keep hx0
            have hx1' : ∀ o, (wr.alloc o).cell? ⟨w.heap.size, 1, none⟩ = some (.slice (some ⟨ba, oa, none⟩) b.batches.length c2) := fun o => (ext_alloc _ _).keep hx1
            have t1 : StrsAt (wr.alloc (.cells #[.string (S (nthB b.batches k).name), .slice d1 (nthB b.batches k).has.length g1, .slice d2 (nthB b.batches k).needs.length g2] 46)) d1 (nthB b.batches k).has := s1.ext (ext_alloc _ _)
            have t2 : StrsAt (wr.alloc (.cells #[.string (S (nthB b.batches k).name), .slice d1 (nthB b.batches k).has.length g1, .slice d2 (nthB b.batches k).needs.length g2] 46)) d2 (nthB b.batches k).needs := s2.ext (ext_alloc _ _)
            have t3 : StrsAt (wr.alloc (.cells #[.string (S (nthB b.batches k).name), .slice d1 (nthB b.batches k).has.length g1, .slice d2 (nthB b.batches k).needs.length g2] 46)) a1 b.things := ht'.ext (ext_alloc _ _)
            have hcase : (decide (0 < k) = false ∧ Hid (upB b k = true)) ∨ (decide (0 < k) = true ∧ ∃ (q : Nat) (nm : Str), IntKind.i64.wrap ((k : Int) - 1) = (q : Int) ∧ q < b.batches.length ∧ (∀ o, (wr.alloc o).cell? ⟨ba, oa + q * 3, none⟩ = some (.string (S nm))) ∧ Hid (upB b k = Op.bytesLess nm (nthB b.batches k).name)) := by
              by_cases h0 : k = 0
              · exact Or.inl ⟨by simp; omega, by show _ = true; simp [upB, h0]⟩
              · refine Or.inr ⟨by simp; omega, k - 1, (nthB b.batches (k - 1)).name, by rw [IntKind.wrap_i64]; omega, by omega, ?_, by show _ = _; simp [upB, h0, Book.at]⟩
                obtain ⟨ba', oa', e', _, _, _, _, _, q0, _⟩ := hbs'.2 (k - 1) (by omega)
                injection e' with e'; injection e' with e1 e2; subst e1 e2
                exact fun o => (ext_alloc _ _).keep q0
            rcases hcase with ⟨hd, HU⟩ | ⟨hd, q, nm, hwq, hqn, hprev, HU⟩
            rotate_left
            cases hu : Op.bytesLess nm (nthB b.batches k).name
            · have HF : Hid (bookOk b = false) := bookOk_no3 hlt (goodB_no (by unfold batchOk; rw [HU.out, hu]; simp))
              go_wp2_with fail
              go_quiet ((go_at_call 40; exact Calls.quiet_of_same (l1NameOk_v _ _ _ hl hname)))
              go_wp2
              go_ret
              exact ⟨ret_bool HF.out.symm, Ext.tr HE.out (Ext.tr (ext_alloc _ _) (ext_drewN _ _))⟩
            rotate_left
            all_goals
              cases hneeds : namesOk (nthB b.batches k).needs b.things
              · have HF : Hid (bookOk b = false) := bookOk_no3 hlt (goodB_no (by unfold batchOk; unfold Book.at; rw [hneeds]; simp))
                go_wp2_with fail
                go_quiet ((first | (go_at_call 40; exact Calls.quiet_of_same (l1NameOk_v _ _ _ hl hname)) | (go_at_call 25; exact Calls.quiet_of (l1NamesOk_v _ _ _ _ _ _ _ _ (t2.drewN _) (t3.drewN _) hneeds))))
                go_wp2
                go_ret
                exact ⟨ret_bool HF.out.symm, Ext.tr HE.out (Ext.tr (ext_alloc _ _) (ext_drewN _ _))⟩
              · cases hhas : namesOk (nthB b.batches k).has (nthB b.batches k).needs
                · have HF : Hid (bookOk b = false) := bookOk_no3 hlt (goodB_no (by unfold batchOk; unfold Book.at; rw [hhas]; simp))
                  go_wp2_with fail
                  go_quiet ((first | (go_at_call 40; exact Calls.quiet_of_same (l1NameOk_v _ _ _ hl hname)) | (go_at_call_of 25 (b.things); exact Calls.quiet_of (l1NamesOk_v _ _ _ _ _ _ _ _ (t2.drewN _) (t3.drewN _) hneeds)) | (go_at_call 25; exact Calls.quiet_of (l1NamesOk_v _ _ _ _ _ _ _ _ (t1.drewN _) (t2.drewN _) hhas))))
                  go_wp2
                  go_ret
                  exact ⟨ret_bool HF.out.symm, Ext.tr HE.out (Ext.tr (ext_alloc _ _) (ext_drewN _ _))⟩
                · have HG : Hid (batchOk b k = true) := by
                    show _ = true
                    unfold batchOk; rw [HU.out]; unfold Book.at; rw [hname, hneeds, hhas]; first | rfl | (rw [hu]; rfl)
                  go_wp2_with fail
                  go_quiet ((first | (go_at_call 40; exact Calls.quiet_of_same (l1NameOk_v _ _ _ hl hname)) | (go_at_call_of 25 (b.things); exact Calls.quiet_of (l1NamesOk_v _ _ _ _ _ _ _ _ (t2.drewN _) (t3.drewN _) hneeds)) | (go_at_call 25; exact Calls.quiet_of (l1NamesOk_v _ _ _ _ _ _ _ _ (t1.drewN _) (t2.drewN _) hhas))))
                  go_wp2
                  have hbx := box_cell (Ext.rfl' (wr.alloc (.cells #[.string (S (nthB b.batches k).name), .slice d1 (nthB b.batches k).has.length g1, .slice d2 (nthB b.batches k).needs.length g2] 46))) (i := 1) rfl
                  go_loopw [5] (fun kk wq => ∃ m : Nat, m ≤ k ∧ kk = .int .i64 m ∧ (∃ n, wq = (wr.alloc (.cells #[.string (S (nthB b.batches k).name), .slice d1 (nthB b.batches k).has.length g1, .slice d2 (nthB b.batches k).needs.length g2] 46)).drewN n) ∧ ∀ j, j < m → shareB (nthB b.batches k).has (nthB b.batches j).has = false) (fun kk _ => k - (intOf kk).toNat)
                  case atStart => exact ⟨0, Nat.zero_le _, rfl, ⟨_, rfl⟩, fun j hj => by omega⟩
                  case round =>
                    obtain ⟨m, hm, rfl, hq, hy⟩ := hrel
                    have HY : Hid (∀ j, j < m → shareB (nthB b.batches k).has (nthB b.batches j).has = false) := hy
                    have HW := hid hq
                    have y1 := draws_cell hq (hx1' _)
                    have y2 := draws_cell hq hbx
                    have t1q := t1.draws hq
                    clear hy
                    by_cases hmk : m < k
                    · obtain ⟨ba', oa', e', _, e1, f1, _, _, _, q1, _, t4, _⟩ := hbs'.2 m (by omega)
                      injection e' with e'; injection e' with ee1 ee2; subst ee1 ee2
                      have q1q := draws_cell hq ((ext_alloc _ _).keep q1)
                      have t4q := (t4.ext (ext_alloc _ _)).draws hq
                      have hmn : m < b.batches.length := by omega
                      clear hq q1 t4
                      cases hsh : shareB (nthB b.batches k).has (nthB b.batches m).has
                      · have HQ : Hid (shareB (nthB b.batches k).has (nthB b.batches m).has = false) := hsh
                        go_wp2
                        go_quiet ((go_at_call 41; exact Calls.quiet_of_same (l1Share_v _ _ _ _ _ _ _ _ (t1q.drewN _) (t4q.drewN _) hsh)))
                        go_wp2
                        have HZ : ∀ j, j < m + 1 → shareB (nthB b.batches k).has (nthB b.batches j).has = false := fun j hj => by
                          by_cases e : j = m
                          · rw [e]; exact HQ.out
                          · exact HY.out j (by omega)
                        go_roundw
                        case rel => exact ⟨m + 1, by omega, by go_num, drewN_tr HW.out ⟨_, rfl⟩, HZ⟩
                        case measure => simp [intOf]; omega
                      · have HF : Hid (bookOk b = false) := bookOk_no3 hlt (goodB_no' hmk hsh)
                        go_wp2
                        go_quiet ((go_at_call 41; exact Calls.quiet_of_same (l1Share_v _ _ _ _ _ _ _ _ (t1q.drewN _) (t4q.drewN _) hsh)))
                        go_wp2
                        go_ret
                        exact ⟨ret_bool HF.out.symm, Ext.tr HE.out (Ext.tr (ext_alloc _ _) (draws_ext (drewN_tr HW.out ⟨_, rfl⟩)))⟩
                    · have HK : Hid (goodB b k = true) := by
                        show _ = true
                        unfold goodB; rw [HG.out, allLt_of (fun j hj => by have := HY.out j (by omega); unfold Book.at; rw [this]; rfl)]; rfl
                      clear hq
                      go_wp2
                      go_roundw
                      case rel => exact ⟨k + 1, by omega, by go_num, Ext.tr HE0.out (Ext.tr (ext_alloc _ _) (draws_ext HW.out)), fun j hj => by
                        by_cases e : j = k
                        · rw [e]; exact HK.out
                        · exact HX.out j (by omega)⟩
                      case measure => simp [intOf]; omega
        · have HF : Hid (bookOk b = true) := bookOk_yes hth h5 (fun j hj => HX.out j (by omega))
          go_wp2
          go_ret
          exact ⟨ret_bool HF.out.symm, HE.out⟩
    · have HF : Hid (bookOk b = false) := bookOk_no2 h5
      go_enter Tryz.func22, Tryz.ntmps22
      go_wp2_with fail
      refine (l1ThingsOk_any _ _ _ _ (ht.ext (hal _))).mono ?_
      rintro e w1 ⟨rfl, n1, rfl⟩
      go_wp2_with fail
      go_ret
      exact ⟨ret_bool HF.out.symm, Ext.tr (hal _) (ext_drewN _ _)⟩
end Go.Proofs.YtdafpnpfcmgfcabGreatDoor
