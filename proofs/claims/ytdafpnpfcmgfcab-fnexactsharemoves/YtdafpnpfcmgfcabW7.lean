/- Walks over whole books: their copies, their sizes. -/
import Derived.Test.YtdafpnpfcmgfcabW6
namespace Go.Proofs.Ytdafpnpfcmgfcab
open Go.RowKit
attribute [local go_sem] S_toList S_size S_get

theorem HalfB.at {w : World} {B : Nat} {bs : List Batch} (h : HalfB w B bs.length bs.length bs) (hn : bs.length ≤ 2199023255552) : BatchesAt w (some ⟨B, 0, none⟩) bs := by
  obtain ⟨f, hr, hi⟩ := h
  refine ⟨hn, fun i hik => ⟨B, 0, rfl, ?_⟩⟩
  obtain ⟨g0, g1, b1, b2, g2, g3, _, _, g6, g7⟩ := hi i hik
  refine ⟨g1, some ⟨b1, 0, none⟩, (nthB bs i).has.length, some ⟨b2, 0, none⟩, (nthB bs i).needs.length, ?_, ?_, ?_, g6.at, g7.at⟩
  · rw [Nat.zero_add, ← g0]; exact hr.cell (by omega)
  · rw [Nat.zero_add, ← g2]; exact hr.cell (by omega)
  · rw [Nat.zero_add, ← g3]; exact hr.cell (by omega)

theorem HalfB.setOther {w : World} {B n k : Nat} {bs : List Batch} (h : HalfB w B n k bs) {a : Addr} (ha : a.block < B) (v : Value) : HalfB (w.setCell a v) B n k bs := by
  obtain ⟨f, hr, hi⟩ := h
  refine ⟨f, hr.setOther (by omega) v, fun i hik => ?_⟩
  obtain ⟨g0, g1, b1, b2, g2, g3, g4, g5, g6, g7⟩ := hi i hik
  exact ⟨g0, g1, b1, b2, g2, g3, g4, g5, g6.setOther (by omega) v, g7.setOther (by omega) v⟩

/-- A book in new memory: its things at block b1, its batches from block b2 on. -/
def OwnBook (w : World) (b1 b2 : Nat) (b : Book) : Prop :=
  b1 < b2 ∧ OwnStrs w b1 b.things ∧ b.batches.length ≤ 2199023255552 ∧ HalfB w b2 b.batches.length b.batches.length b.batches
theorem OwnBook.at {w : World} {b1 b2 : Nat} {b : Book} (h : OwnBook w b1 b2 b) : BookAt w (some ⟨b1, 0, none⟩) (some ⟨b2, 0, none⟩) b := ⟨h.2.1.at, h.2.2.2.at h.2.2.1⟩
theorem OwnBook.ext {w w' : World} {b1 b2 : Nat} {b : Book} (h : OwnBook w b1 b2 b) (e : Ext w w') : OwnBook w' b1 b2 b := ⟨h.1, h.2.1.ext e, h.2.2.1, h.2.2.2.ext e⟩

/-- A book as a value. -/
def bookV (a1 a2 : Option Addr) (c1 c2 : Nat) (b : Book) : Value := .agg #[.slice a1 b.things.length c1, .slice a2 b.batches.length c2]

set_option maxHeartbeats 400000 in
theorem toShareBook_any (b : Book) (a1 a2 : Option Addr) (c1 c2 : Nat) (w : World) (hb : BookAt w a1 a2 b) :
    Calls Qry.prog 7 #[.agg #[.slice a1 b.things.length c1, .slice a2 b.batches.length c2]] w fun e w' =>
      ∃ b1 b2, e = .returned (.agg #[.slice (some ⟨b1, 0, none⟩) b.things.length b.things.length, .slice (some ⟨b2, 0, none⟩) b.batches.length b.batches.length]) ∧
        Ext w w' ∧ w.heap.size ≤ b1 ∧ OwnBook w' b1 b2 b := by
  obtain ⟨h1, h2⟩ := hb
  have hn2 := h2.1
  go_enter Qry.func7, Try.ntmps7
  go_wp2_with fail
  have e3 : ∀ o1 o2 o3, Ext w (((w.alloc o1).alloc o2).alloc o3) := fun o1 o2 o3 =>
    (((Below.refl _ _).alloc (Nat.le_refl _) _).alloc (by simp) _).alloc (by simp; omega) _
  refine (toStringS_any _ _ _ _ (h1.ext (e3 _ _ _))).mono ?_
  rintro e w1 ⟨rfl, hext, hown⟩
  obtain ⟨hc, hf⟩ := bcell hext
  have HO : Hid (OwnStrs w1 _ b.things) := hown
  have HE : Hid (Ext w w1) := Ext.tr (e3 _ _ _) hext
  have hz := hext.size
  simp at hz
  have z0 : w.heap.size < w1.heap.size := by omega
  have z1 : w.heap.size + 1 < w1.heap.size := by omega
  have z2 : w.heap.size + 1 + 1 < w1.heap.size := by omega
  have z3 : w.heap.size + 1 + 1 + 1 < w1.heap.size := by
    have h := hown.2.2.lt; simp at h; omega
  clear hown hext
  go_wp2_with fail
  have HS : Ext w (w1.setCell ⟨w.heap.size + 1 + 1, 0, none⟩ (.slice (some ⟨w.heap.size + 1 + 1 + 1, 0, none⟩) b.things.length b.things.length)) := HE.out.setCell (by simp; omega) _
  refine (toShareBatchS_any _ _ _ _ (h2.ext HS)).mono ?_
  rintro e w2 ⟨rfl, hext2, hown2⟩
  obtain ⟨hc2, hf2⟩ := bcell hext2
  have HS2 : Hid (Ext w w2) := Ext.tr HS hext2
  have HO1 : Hid (OwnStrs w2 (w.heap.size + 1 + 1 + 1) b.things) := by
    have h := HO.out
    simp at h
    exact OwnStrs.ext (h.setOther (by simp) _) hext2
  have HO2 : Hid (HalfB w2 w1.heap.size b.batches.length b.batches.length b.batches) := by
    have e : (w1.setCell ⟨w.heap.size + 1 + 1, 0, none⟩ (.slice (some ⟨w.heap.size + 1 + 1 + 1, 0, none⟩) b.things.length b.things.length)).heap.size = w1.heap.size := by simp
    rw [e] at hown2; exact hown2
  have hz2 := hext2.size
  simp at hz2
  clear hown2 hext2 HS
  go_wp2
  refine bodyPost_ret (v := .agg #[.slice (some ⟨w.heap.size + 1 + 1 + 1, 0, none⟩) b.things.length b.things.length, .slice (some ⟨w1.heap.size, 0, none⟩) b.batches.length b.batches.length]) (by simp [results, Try.results7, go_sem, hc2, hc, z1]) rfl ⟨_, _, rfl, ?_, ?_, ?_, ?_, ?_, ?_⟩
  · exact ((HS2.out.setCell (by simp; omega) _).setCell (by simp) _).setCell (by simp) _
  · omega
  · omega
  · exact ((HO1.out.setOther (by simp) _).setOther (by simp; try omega) _).setOther (by simp; try omega) _
  · exact hn2
  · exact ((HO2.out.setOther (by simp; try omega) _).setOther (by simp; try omega) _).setOther (by simp; try omega) _

set_option maxHeartbeats 400000 in
theorem szShareBatchS_any (a : Option Addr) (ca : Nat) (bs : List Batch) (left : Int) (w : World) (ha : BatchesAt w a bs) (h0 : 0 ≤ left) (h1 : left ≤ 1048576) :
    Calls Qry.prog 17 #[.slice a bs.length ca, .int .i64 left] w fun e w' => (∃ r : Int, e = .returned (.int .i64 r) ∧ -1 ≤ r ∧ r ≤ 1048576) ∧ Ext w w' := by
  have hn := ha.1
  by_cases hneg : left - bs.length < 0
  · go_enter Qry.func17, Try.ntmps17
    go_wp2
    go_ret
    exact ⟨⟨-1, rfl, by omega, by omega⟩, Ext.rfl' _⟩
  · go_enter Qry.func17, Try.ntmps17
    go_wp2
    go_loopw [1, 5] (fun l i wr => ∃ (k : Nat) (x : Int), k ≤ bs.length ∧ i = .int .i64 k ∧ l = .int .i64 x ∧ 0 ≤ x ∧ x ≤ 1048576 ∧ Ext w wr) (fun _ i _ => bs.length - (intOf i).toNat)
    case atStart => exact ⟨0, _, Nat.zero_le _, rfl, rfl, by omega, by omega, Ext.rfl' _⟩
    case round =>
      obtain ⟨k, x, hk, rfl, rfl, hx0, hx1, hext⟩ := hrel
      have ha' := ha.ext hext
      have HE : Hid (Ext w wr) := hext
      clear hext
      by_cases hlt : k < bs.length
      · obtain ⟨ba, oa, rfl, hl, a1, c1, a2, c2, k0, k1, k2, s1, s2⟩ := ha'.2 k hlt
        go_wp2_with fail
        refine (szShareBatch_any (nthB bs k) _ _ _ _ _ _ hl s1 s2 (by omega) (by omega)).mono ?_
        rintro e w1 ⟨⟨r, rfl, hr1, hr2⟩, hext⟩
        have HE1 : Hid (Ext w w1) := Ext.tr HE.out hext
        clear hext
        by_cases hr : r < 0
        · go_wp2
          go_ret
          exact ⟨⟨-1, rfl, by omega, by omega⟩, HE1.out⟩
        · go_wp2
          go_roundw
          case rel => exact ⟨k + 1, r, by omega, by go_num, rfl, by omega, by omega, HE1.out⟩
          case measure => simp [intOf]; omega
      · go_wp2
        go_ret
        exact ⟨⟨_, rfl, by omega, by omega⟩, HE.out⟩

set_option maxHeartbeats 400000 in
theorem szShareBook_any (b : Book) (a1 a2 : Option Addr) (c1 c2 : Nat) (left : Int) (w : World) (hb : BookAt w a1 a2 b) (g0 : 0 ≤ left) (g1 : left ≤ 1048576) :
    Calls Qry.prog 5 #[.agg #[.slice a1 b.things.length c1, .slice a2 b.batches.length c2], .int .i64 left] w fun e w' =>
      (∃ r : Int, e = .returned (.int .i64 r) ∧ -1 ≤ r ∧ r ≤ 1048576) ∧ Ext w w' := by
  have hal : ∀ o, Ext w (w.alloc o) := fun o => (Below.refl _ _).alloc (Nat.le_refl _) _
  go_enter Qry.func5, Try.ntmps5
  go_wp2_with fail
  refine (szStringS_any _ _ _ _ _ (hb.1.ext (hal _)) (by omega) (by omega)).mono ?_
  rintro e w' ⟨⟨r, rfl, hr1, hr2⟩, rfl⟩
  by_cases hr : r < 0
  · go_wp2_with fail
    go_ret
    exact ⟨⟨-1, rfl, by omega, by omega⟩, hal _⟩
  · go_wp2_with fail
    refine (szShareBatchS_any _ _ _ _ _ (hb.2.ext (hal _)) (by omega) (by omega)).mono ?_
    rintro e w1 ⟨⟨r', rfl, hr1', hr2'⟩, hext⟩
    have HE : Hid (Ext w w1) := Ext.tr (hal _) hext
    clear hext
    by_cases hr' : r' < 0
    · go_wp2_with fail
      go_ret
      exact ⟨⟨-1, rfl, by omega, by omega⟩, HE.out⟩
    · go_wp2_with fail
      go_ret
      exact ⟨⟨_, rfl, by omega, by omega⟩, HE.out⟩
end Go.Proofs.Ytdafpnpfcmgfcab
