/- Walks over the copies of lists of names. Walks over the copies of batches and books. Walks over the copies of lists of batches, and of books. Walks over whole books: their copies, their sizes. -/
import Derived.Test.YtdafpnpfcmgfcabJI
import Derived.Deep.OwnRows
namespace Go.Proofs.Ytdafpnpfcmgfcab
open Go.RowKit
attribute [local go_sem] S_toList S_size S_get

theorem Qry.infoStr : (Qry.prog.info? 9).map (fun i => (i.zero, i.size, i.bytes)) = some (some (.string (S [])), 1, 16) := by kernel_rfl

/-- A new row of names. -/
def OwnStrs (w : World) (b : Nat) (ss : List Str) : Prop :=
  ss.length ≤ 8796093022208 ∧ (∀ i, i < ss.length → (nth ss i).length ≤ 140737488355328) ∧ w.rowIs b 9 ss.length (fun j => .string (S (nth ss j)))

theorem OwnStrs.at {w : World} {b : Nat} {ss : List Str} (h : OwnStrs w b ss) : StrsAt w (some ⟨b, 0, none⟩) ss :=
  ⟨h.1, fun i hi => ⟨h.2.1 i hi, b, 0, rfl, by rw [Nat.zero_add]; exact h.2.2.cell hi⟩⟩
theorem OwnStrs.ext {w w' : World} {b : Nat} {ss : List Str} (h : OwnStrs w b ss) (e : Ext w w') : OwnStrs w' b ss :=
  ⟨h.1, h.2.1, h.2.2.of_block (e.block b h.2.2.lt)⟩
theorem OwnStrs.setOther {w : World} {b : Nat} {ss : List Str} (h : OwnStrs w b ss) {a : Addr} (ha : b ≠ a.block) (v : Value) : OwnStrs (w.setCell a v) b ss :=
  ⟨h.1, h.2.1, h.2.2.setOther ha v⟩

def halfS (ss : List Str) (k : Nat) : Nat → Value := fun j => if j < k then .string (S (nth ss j)) else .string (S [])

set_option maxHeartbeats 400000 in
theorem toStringS_any (a : Option Addr) (ca : Nat) (sa : List Str) (w : World) (ha : StrsAt w a sa) :
    Calls Qry.prog 20 #[.slice a sa.length ca] w fun e w' =>
      e = .returned (.slice (some ⟨w.heap.size, 0, none⟩) sa.length sa.length) ∧ Ext w w' ∧ OwnStrs w' w.heap.size sa := by
  have hn := ha.1
  have hmk := run_make_row' (P := Qry.prog) 22 9 (.string (S [])) 16 (uQ Try.underlying22) Qry.infoStr rfl .i64 .i64 sa.length (by omega) (by omega)
  go_enter Qry.func20, Try.ntmps20
  go_wp2
  clear hmk
  go_loopw [4] (fun i wr => ∃ k : Nat, k ≤ sa.length ∧ i = .int .i64 k ∧ Below w.heap.size w wr ∧ wr.rowIs w.heap.size 9 sa.length (halfS sa k)) (fun i _ => sa.length - (intOf i).toNat)
  case atStart => exact ⟨0, Nat.zero_le _, rfl, (Below.refl _ _).alloc (Nat.le_refl _) _, (World.rowIs_made w (.string (S [])) sa.length 9).congr (fun i _ => by simp [halfS])⟩
  case round =>
    obtain ⟨k, hk, rfl, hbel, hrow⟩ := hrel
    have HB : Hid (Below w.heap.size w wr) := hbel
    have ha' : StrsAt wr a sa := ha.ext hbel
    by_cases hlt : k < sa.length
    · obtain ⟨hl, ba, oa, rfl, hc⟩ := ha'.2 k hlt
      have hcell := hrow.cell hlt
      have hfr := hrow.frozen k
      have HR : Hid (wr.rowIs w.heap.size 9 sa.length (halfS sa k)) := hrow
      clear hrow hbel
      go_wp2
      go_roundw
      case rel => exact ⟨k + 1, by omega, by go_num, HB.out.setCell (Nat.le_refl _) _, (HR.out.set k _).congr (fun j hj => by
        by_cases e : j = k
        · simp [e, halfS]
        · have : (j < k + 1) = (j < k) := by simp; omega
          simp [e, halfS, this])⟩
      case measure => simp [intOf]; omega
    · have HR : Hid (wr.rowIs w.heap.size 9 sa.length (halfS sa k)) := hrow
      clear hrow hbel
      go_wp2
      go_ret
      exact ⟨rfl, HB.out, ⟨hn, fun i hi => (ha.2 i hi).1, HR.out.congr (fun j hj => by simp [halfS]; omega)⟩⟩
end Go.Proofs.Ytdafpnpfcmgfcab
namespace Go.Proofs.Ytdafpnpfcmgfcab
open Go.RowKit
attribute [local go_sem] S_toList S_size S_get

set_option maxHeartbeats 400000 in
theorem toShareBatch_any (x : Batch) (a1 a2 : Option Addr) (c1 c2 : Nat) (w : World)
    (h1 : StrsAt w a1 x.has) (h2 : StrsAt w a2 x.needs) :
    Calls Qry.prog 38 #[.agg #[.string (S x.name), .slice a1 x.has.length c1, .slice a2 x.needs.length c2]] w fun e w' =>
      ∃ b1 b2, e = .returned (.agg #[.string (S x.name), .slice (some ⟨b1, 0, none⟩) x.has.length x.has.length, .slice (some ⟨b2, 0, none⟩) x.needs.length x.needs.length]) ∧
        Ext w w' ∧ w.heap.size ≤ b1 ∧ b1 < b2 ∧ OwnStrs w' b1 x.has ∧ OwnStrs w' b2 x.needs := by
  go_enter Qry.func38, Try.ntmps38
  go_wp2_with fail
  have e3 : ∀ o1 o2 o3, Ext w (((w.alloc o1).alloc o2).alloc o3) := fun o1 o2 o3 =>
    (((Below.refl _ _).alloc (Nat.le_refl _) _).alloc (by simp) _).alloc (by simp; omega) _
  refine (toStringS_any _ _ _ _ (h1.ext (e3 _ _ _))).mono ?_
  rintro e w1 ⟨rfl, hext, hown⟩
  obtain ⟨hc, hf⟩ := bcell hext
  have HO : Hid (OwnStrs w1 _ x.has) := hown
  have HE : Hid (Ext w w1) := Ext.tr (e3 _ _ _) hext
  have hz := hext.size
  simp at hz
  have z0 : w.heap.size < w1.heap.size := by omega
  have z1 : w.heap.size + 1 < w1.heap.size := by omega
  have z2 : w.heap.size + 1 + 1 < w1.heap.size := by omega
  have z3 : w.heap.size + 1 + 1 + 1 < w1.heap.size := by
    have h := hown.2.2.lt; simp at h; omega
  clear hown hext
  go_wp2_with fail
  have HS : Ext w (w1.setCell ⟨w.heap.size + 1 + 1, 1, none⟩ (.slice (some ⟨w.heap.size + 1 + 1 + 1, 0, none⟩) x.has.length x.has.length)) := HE.out.setCell (by simp; omega) _
  refine (toStringS_any _ _ _ _ (h2.ext HS)).mono ?_
  rintro e w2 ⟨rfl, hext2, hown2⟩
  obtain ⟨hc2, hf2⟩ := bcell hext2
  have HS2 : Hid (Ext w w2) := Ext.tr HS hext2
  have HO1 : Hid (OwnStrs w2 (w.heap.size + 1 + 1 + 1) x.has) := by
    have h := HO.out
    simp at h
    exact OwnStrs.ext (h.setOther (by simp) _) hext2
  have HO2 : Hid (OwnStrs w2 w1.heap.size x.needs) := by
    have e : (w1.setCell ⟨w.heap.size + 1 + 1, 1, none⟩ (.slice (some ⟨w.heap.size + 1 + 1 + 1, 0, none⟩) x.has.length x.has.length)).heap.size = w1.heap.size := by simp
    rw [e] at hown2; exact hown2
  have hz2 := hext2.size
  simp at hz2
  clear hown2 hext2 HS
  go_wp2
  refine bodyPost_ret (v := .agg #[.string (S x.name), .slice (some ⟨w.heap.size + 1 + 1 + 1, 0, none⟩) x.has.length x.has.length, .slice (some ⟨w1.heap.size, 0, none⟩) x.needs.length x.needs.length]) (by simp [results, Try.results38, go_sem, hc2, hc, z1]) rfl ⟨_, _, rfl, ?_, ?_, ?_, ?_, ?_⟩
  · exact (((HS2.out.setCell (by simp; omega) _).setCell (by simp) _).setCell (by simp) _).setCell (by simp) _
  · omega
  · omega
  · exact (((HO1.out.setOther (by simp) _).setOther (by simp; try omega) _).setOther (by simp; try omega) _).setOther (by simp; try omega) _
  · exact (((HO2.out.setOther (by simp; try omega) _).setOther (by simp; try omega) _).setOther (by simp; try omega) _).setOther (by simp; try omega) _
end Go.Proofs.Ytdafpnpfcmgfcab
namespace Go.Proofs.Ytdafpnpfcmgfcab
open Go.RowKit
attribute [local go_sem] S_toList S_size S_get

theorem Qry.infoBatch : (Qry.prog.info? 43).map (fun i => (i.zero, i.size, i.bytes)) = some (some (.agg #[.string (S []), .slice none 0 0, .slice none 0 0]), 3, 64) := by kernel_rfl

def zero3 (n : Nat) : Array Value := madeCells #[.string (S []), .slice none 0 0, .slice none 0 0] (n * 3)

theorem make_batches (n : Nat) (hn : n ≤ 2199023255552) (w : World) :
    (Instr.makeSlice 28 (.int .i64 (n : Int)) (.int .i64 (n : Int))).run Qry.prog w = .ok (.slice (some ⟨w.heap.size, 0, none⟩) n n) (w.alloc (.cells (zero3 n) 43)) := by
  obtain ⟨i, hi, hzz⟩ := Option.map_eq_some_iff.1 Qry.infoBatch
  simp only [Prod.mk.injEq] at hzz
  obtain ⟨hz, hs, hb⟩ := hzz
  have hr := run_make (P := Qry.prog) w 28 43 i _ (uQ Try.underlying28) hi hz .i64 .i64 n n (by omega) (Int.le_refl _) (by rw [hb]; omega) (by omega)
  simp only [Int.toNat_natCast, hs] at hr
  exact hr

theorem row_zero3 (w : World) (n : Nat) : (w.alloc (.cells (zero3 n) 43)).rowIs w.heap.size 43 (n * 3) (fun j => (zero3 n)[j]?.getD undef) := by
  have hz : (zero3 n).size = n * 3 := size_madeCells _ _
  have h := World.rowIs_alloc w (zero3 n) 43 (fun j => (zero3 n)[j]?.getD undef) (fun j hj => by simp [hj])
  rw [hz] at h
  exact h

/-- The cells of new batches, as far as they are filled. -/
def HalfB (w : World) (B n k : Nat) (bs : List Batch) : Prop :=
  ∃ f, w.rowIs B 43 (n * 3) f ∧ ∀ i, i < k → f (i * 3) = .string (S (nthB bs i).name) ∧ (nthB bs i).name.length ≤ 140737488355328 ∧
    ∃ b1 b2, f (i * 3 + 1) = .slice (some ⟨b1, 0, none⟩) (nthB bs i).has.length (nthB bs i).has.length ∧ f (i * 3 + 2) = .slice (some ⟨b2, 0, none⟩) (nthB bs i).needs.length (nthB bs i).needs.length ∧
      B < b1 ∧ B < b2 ∧ OwnStrs w b1 (nthB bs i).has ∧ OwnStrs w b2 (nthB bs i).needs

theorem HalfB.ext {w w' : World} {B n k : Nat} {bs : List Batch} (h : HalfB w B n k bs) (e : Ext w w') : HalfB w' B n k bs := by
  obtain ⟨f, hr, hi⟩ := h
  refine ⟨f, hr.of_block (e.block B hr.lt), fun i hik => ?_⟩
  obtain ⟨g0, g1, b1, b2, g2, g3, g4, g5, g6, g7⟩ := hi i hik
  exact ⟨g0, g1, b1, b2, g2, g3, g4, g5, g6.ext e, g7.ext e⟩

theorem HalfB.store {w : World} {B n k : Nat} {bs : List Batch} (h : HalfB w B n k bs) (x : Batch) (hx : nthB bs k = x) (hl : x.name.length ≤ 140737488355328) {b1 b2 : Nat} (h1 : B < b1) (h2 : B < b2)
    (o1 : OwnStrs w b1 x.has) (o2 : OwnStrs w b2 x.needs) :
    HalfB (((w.setCell ⟨B, k * 3, none⟩ (.string (S x.name))).setCell ⟨B, k * 3 + 1, none⟩ (.slice (some ⟨b1, 0, none⟩) x.has.length x.has.length)).setCell ⟨B, k * 3 + 2, none⟩ (.slice (some ⟨b2, 0, none⟩) x.needs.length x.needs.length)) B n (k + 1) bs := by
  obtain ⟨f, hr, hi⟩ := h
  refine ⟨_, (((hr.set (k * 3) _).set (k * 3 + 1) _).set (k * 3 + 2) _), fun i hik => ?_⟩
  by_cases e : i = k
  · subst e
    rw [hx]
    refine ⟨by simp, hl, b1, b2, by simp, by simp, h1, h2, ?_, ?_⟩
    · exact ((o1.setOther (by simp; omega) _).setOther (by simp; omega) _).setOther (by simp; omega) _
    · exact ((o2.setOther (by simp; omega) _).setOther (by simp; omega) _).setOther (by simp; omega) _
  · obtain ⟨g0, g1, c1, c2, g2, g3, g4, g5, g6, g7⟩ := hi i (by omega)
    have n0 : ∀ j, j < 3 → i * 3 + j ≠ k * 3 ∧ i * 3 + j ≠ k * 3 + 1 ∧ i * 3 + j ≠ k * 3 + 2 := fun j hj => by omega
    have m0 := n0 0 (by omega)
    have m1 := n0 1 (by omega)
    have m2 := n0 2 (by omega)
    refine ⟨?_, g1, c1, c2, ?_, ?_, g4, g5, ?_, ?_⟩
    · have e0 : i * 3 + 0 = i * 3 := rfl
      rw [e0] at m0
      simp only [m0, if_false]; exact g0
    · simp only [m1, if_false]; exact g2
    · simp only [m2, if_false]; exact g3
    · exact ((g6.setOther (by simp; omega) _).setOther (by simp; omega) _).setOther (by simp; omega) _
    · exact ((g7.setOther (by simp; omega) _).setOther (by simp; omega) _).setOther (by simp; omega) _

set_option maxHeartbeats 400000 in
theorem toShareBatchS_any (a : Option Addr) (ca : Nat) (bs : List Batch) (w : World) (ha : BatchesAt w a bs) :
    Calls Qry.prog 21 #[.slice a bs.length ca] w fun e w' =>
      e = .returned (.slice (some ⟨w.heap.size, 0, none⟩) bs.length bs.length) ∧ Ext w w' ∧ HalfB w' w.heap.size bs.length bs.length bs := by
  have hn := ha.1
  have hmk := make_batches bs.length hn
  go_enter Qry.func21, Try.ntmps21
  go_wp2
  clear hmk
  go_loopw [4] (fun i wr => ∃ k : Nat, k ≤ bs.length ∧ i = .int .i64 k ∧ Below w.heap.size w wr ∧ HalfB wr w.heap.size bs.length k bs) (fun i _ => bs.length - (intOf i).toNat)
  case atStart => exact ⟨0, Nat.zero_le _, rfl, (Below.refl _ _).alloc (Nat.le_refl _) _, _, row_zero3 w _, fun i hi => by omega⟩
  case round =>
    obtain ⟨k, hk, rfl, hbel, hrow⟩ := hrel
    have ha' : BatchesAt wr a bs := ha.ext hbel
    have HB : Hid (Below w.heap.size w wr) := hbel
    by_cases hlt : k < bs.length
    · obtain ⟨ba, oa, rfl, hl, a1, c1, a2, c2, k0, k1, k2, s1, s2⟩ := ha'.2 k hlt
      have HH := hrow
      clear hrow hbel
      go_wp2_with fail
      refine (toShareBatch_any (nthB bs k) _ _ _ _ _ s1 s2).mono ?_
      rintro e w1 ⟨b1, b2, rfl, hext, hb1, hb2, ho1, ho2⟩
      have hh := HH.ext hext
      have HL : w.heap.size < b1 := by
        obtain ⟨f, hr, _⟩ := HH
        have := hr.lt; omega
      have HB1 : Hid (Below w.heap.size w w1) := Below.trans HB.out (Below.mono hext HB.out.size)
      have HN : Hid (HalfB _ w.heap.size bs.length (k + 1) bs) := hh.store (nthB bs k) rfl hl HL (by omega) ho1 ho2
      obtain ⟨f, hr, _⟩ := hh
      have q0 := hr.cell (i := k * 3) (by omega)
      have q1 := hr.cell (i := k * 3 + 1) (by omega)
      have q2 := hr.cell (i := k * 3 + 2) (by omega)
      have f0 := hr.frozen (k * 3)
      have f1 := hr.frozen (k * 3 + 1)
      have f2 := hr.frozen (k * 3 + 2)
      clear hr hext ho1 ho2
      go_wp2
      go_roundw
      case rel => exact ⟨k + 1, by omega, by go_num, ((HB1.out.setCell (Nat.le_refl _) _).setCell (Nat.le_refl _) _).setCell (Nat.le_refl _) _, HN.out⟩
      case measure => simp [intOf]; omega
    · have HH : Hid (HalfB wr w.heap.size bs.length k bs) := hrow
      have e : k = bs.length := by omega
      clear hrow hbel
      go_wp2
      go_ret
      refine ⟨rfl, HB.out, ?_⟩
      have h := HH.out
      rwa [e] at h
end Go.Proofs.Ytdafpnpfcmgfcab
namespace Go.Proofs.Ytdafpnpfcmgfcab
open Go.RowKit
attribute [local go_sem] S_toList S_size S_get

theorem HalfB.at {w : World} {B : Nat} {bs : List Batch} (h : HalfB w B bs.length bs.length bs) (hn : bs.length ≤ 2199023255552) : BatchesAt w (some ⟨B, 0, none⟩) bs := by
  obtain ⟨f, hr, hi⟩ := h
  refine ⟨hn, fun i hik => ⟨B, 0, rfl, ?_⟩⟩
  obtain ⟨g0, g1, b1, b2, g2, g3, _, _, g6, g7⟩ := hi i hik
  refine ⟨g1, some ⟨b1, 0, none⟩, (nthB bs i).has.length, some ⟨b2, 0, none⟩, (nthB bs i).needs.length, ?_, ?_, ?_, g6.at, g7.at⟩
  · rw [Nat.zero_add, ← g0]; exact hr.cell (by omega)
  · rw [Nat.zero_add, ← g2]; exact hr.cell (by omega)
  · rw [Nat.zero_add, ← g3]; exact hr.cell (by omega)

theorem HalfB.setOther {w : World} {B n k : Nat} {bs : List Batch} (h : HalfB w B n k bs) {a : Addr} (ha : a.block < B) (v : Value) : HalfB (w.setCell a v) B n k bs := by
  obtain ⟨f, hr, hi⟩ := h
  refine ⟨f, hr.setOther (by omega) v, fun i hik => ?_⟩
  obtain ⟨g0, g1, b1, b2, g2, g3, g4, g5, g6, g7⟩ := hi i hik
  exact ⟨g0, g1, b1, b2, g2, g3, g4, g5, g6.setOther (by omega) v, g7.setOther (by omega) v⟩

/-- A book in new memory: its things at block b1, its batches from block b2 on. -/
def OwnBook (w : World) (b1 b2 : Nat) (b : Book) : Prop :=
  b1 < b2 ∧ OwnStrs w b1 b.things ∧ b.batches.length ≤ 2199023255552 ∧ HalfB w b2 b.batches.length b.batches.length b.batches
theorem OwnBook.at {w : World} {b1 b2 : Nat} {b : Book} (h : OwnBook w b1 b2 b) : BookAt w (some ⟨b1, 0, none⟩) (some ⟨b2, 0, none⟩) b := ⟨h.2.1.at, h.2.2.2.at h.2.2.1⟩
theorem OwnBook.ext {w w' : World} {b1 b2 : Nat} {b : Book} (h : OwnBook w b1 b2 b) (e : Ext w w') : OwnBook w' b1 b2 b := ⟨h.1, h.2.1.ext e, h.2.2.1, h.2.2.2.ext e⟩

/-- A book as a value. -/
def bookV (a1 a2 : Option Addr) (c1 c2 : Nat) (b : Book) : Value := .agg #[.slice a1 b.things.length c1, .slice a2 b.batches.length c2]

set_option maxHeartbeats 400000 in
theorem toShareBook_any (b : Book) (a1 a2 : Option Addr) (c1 c2 : Nat) (w : World) (hb : BookAt w a1 a2 b) :
    Calls Qry.prog 7 #[.agg #[.slice a1 b.things.length c1, .slice a2 b.batches.length c2]] w fun e w' =>
      ∃ b1 b2, e = .returned (.agg #[.slice (some ⟨b1, 0, none⟩) b.things.length b.things.length, .slice (some ⟨b2, 0, none⟩) b.batches.length b.batches.length]) ∧
        Ext w w' ∧ w.heap.size ≤ b1 ∧ OwnBook w' b1 b2 b := by
  obtain ⟨h1, h2⟩ := hb
  have hn2 := h2.1
  go_enter Qry.func7, Try.ntmps7
  go_wp2_with fail
  have e3 : ∀ o1 o2 o3, Ext w (((w.alloc o1).alloc o2).alloc o3) := fun o1 o2 o3 =>
    (((Below.refl _ _).alloc (Nat.le_refl _) _).alloc (by simp) _).alloc (by simp; omega) _
  refine (toStringS_any _ _ _ _ (h1.ext (e3 _ _ _))).mono ?_
  rintro e w1 ⟨rfl, hext, hown⟩
  obtain ⟨hc, hf⟩ := bcell hext
  have HO : Hid (OwnStrs w1 _ b.things) := hown
  have HE : Hid (Ext w w1) := Ext.tr (e3 _ _ _) hext
  have hz := hext.size
  simp at hz
  have z0 : w.heap.size < w1.heap.size := by omega
  have z1 : w.heap.size + 1 < w1.heap.size := by omega
  have z2 : w.heap.size + 1 + 1 < w1.heap.size := by omega
  have z3 : w.heap.size + 1 + 1 + 1 < w1.heap.size := by
    have h := hown.2.2.lt; simp at h; omega
  clear hown hext
  go_wp2_with fail
  have HS : Ext w (w1.setCell ⟨w.heap.size + 1 + 1, 0, none⟩ (.slice (some ⟨w.heap.size + 1 + 1 + 1, 0, none⟩) b.things.length b.things.length)) := HE.out.setCell (by simp; omega) _
  refine (toShareBatchS_any _ _ _ _ (h2.ext HS)).mono ?_
  rintro e w2 ⟨rfl, hext2, hown2⟩
  obtain ⟨hc2, hf2⟩ := bcell hext2
  have HS2 : Hid (Ext w w2) := Ext.tr HS hext2
  have HO1 : Hid (OwnStrs w2 (w.heap.size + 1 + 1 + 1) b.things) := by
    have h := HO.out
    simp at h
    exact OwnStrs.ext (h.setOther (by simp) _) hext2
  have HO2 : Hid (HalfB w2 w1.heap.size b.batches.length b.batches.length b.batches) := by
    have e : (w1.setCell ⟨w.heap.size + 1 + 1, 0, none⟩ (.slice (some ⟨w.heap.size + 1 + 1 + 1, 0, none⟩) b.things.length b.things.length)).heap.size = w1.heap.size := by simp
    rw [e] at hown2; exact hown2
  have hz2 := hext2.size
  simp at hz2
  clear hown2 hext2 HS
  go_wp2
  refine bodyPost_ret (v := .agg #[.slice (some ⟨w.heap.size + 1 + 1 + 1, 0, none⟩) b.things.length b.things.length, .slice (some ⟨w1.heap.size, 0, none⟩) b.batches.length b.batches.length]) (by simp [results, Try.results7, go_sem, hc2, hc, z1]) rfl ⟨_, _, rfl, ?_, ?_, ?_, ?_, ?_, ?_⟩
  · exact ((HS2.out.setCell (by simp; omega) _).setCell (by simp) _).setCell (by simp) _
  · omega
  · omega
  · exact ((HO1.out.setOther (by simp) _).setOther (by simp; try omega) _).setOther (by simp; try omega) _
  · exact hn2
  · exact ((HO2.out.setOther (by simp; try omega) _).setOther (by simp; try omega) _).setOther (by simp; try omega) _

set_option maxHeartbeats 400000 in
theorem szShareBatchS_any (a : Option Addr) (ca : Nat) (bs : List Batch) (left : Int) (w : World) (ha : BatchesAt w a bs) (h0 : 0 ≤ left) (h1 : left ≤ 1048576) :
    Calls Qry.prog 17 #[.slice a bs.length ca, .int .i64 left] w fun e w' => (∃ r : Int, e = .returned (.int .i64 r) ∧ -1 ≤ r ∧ r ≤ 1048576) ∧ Ext w w' := by
  have hn := ha.1
  by_cases hneg : left - bs.length < 0
  · go_enter Qry.func17, Try.ntmps17
    go_wp2
    go_ret
    exact ⟨⟨-1, rfl, by omega, by omega⟩, Ext.rfl' _⟩
  · go_enter Qry.func17, Try.ntmps17
    go_wp2
    go_loopw [1, 5] (fun l i wr => ∃ (k : Nat) (x : Int), k ≤ bs.length ∧ i = .int .i64 k ∧ l = .int .i64 x ∧ 0 ≤ x ∧ x ≤ 1048576 ∧ Ext w wr) (fun _ i _ => bs.length - (intOf i).toNat)
    case atStart => exact ⟨0, _, Nat.zero_le _, rfl, rfl, by omega, by omega, Ext.rfl' _⟩
    case round =>
      obtain ⟨k, x, hk, rfl, rfl, hx0, hx1, hext⟩ := hrel
      have ha' := ha.ext hext
      have HE : Hid (Ext w wr) := hext
      clear hext
      by_cases hlt : k < bs.length
      · obtain ⟨ba, oa, rfl, hl, a1, c1, a2, c2, k0, k1, k2, s1, s2⟩ := ha'.2 k hlt
        go_wp2_with fail
        refine (szShareBatch_any (nthB bs k) _ _ _ _ _ _ hl s1 s2 (by omega) (by omega)).mono ?_
        rintro e w1 ⟨⟨r, rfl, hr1, hr2⟩, hext⟩
        have HE1 : Hid (Ext w w1) := Ext.tr HE.out hext
        clear hext
        by_cases hr : r < 0
        · go_wp2
          go_ret
          exact ⟨⟨-1, rfl, by omega, by omega⟩, HE1.out⟩
        · go_wp2
          go_roundw
          case rel => exact ⟨k + 1, r, by omega, by go_num, rfl, by omega, by omega, HE1.out⟩
          case measure => simp [intOf]; omega
      · go_wp2
        go_ret
        exact ⟨⟨_, rfl, by omega, by omega⟩, HE.out⟩

set_option maxHeartbeats 400000 in
theorem szShareBook_any (b : Book) (a1 a2 : Option Addr) (c1 c2 : Nat) (left : Int) (w : World) (hb : BookAt w a1 a2 b) (g0 : 0 ≤ left) (g1 : left ≤ 1048576) :
    Calls Qry.prog 5 #[.agg #[.slice a1 b.things.length c1, .slice a2 b.batches.length c2], .int .i64 left] w fun e w' =>
      (∃ r : Int, e = .returned (.int .i64 r) ∧ -1 ≤ r ∧ r ≤ 1048576) ∧ Ext w w' := by
  have hal : ∀ o, Ext w (w.alloc o) := fun o => (Below.refl _ _).alloc (Nat.le_refl _) _
  go_enter Qry.func5, Try.ntmps5
  go_wp2_with fail
  refine (szStringS_any _ _ _ _ _ (hb.1.ext (hal _)) (by omega) (by omega)).mono ?_
  rintro e w' ⟨⟨r, rfl, hr1, hr2⟩, rfl⟩
  by_cases hr : r < 0
  · go_wp2_with fail
    go_ret
    exact ⟨⟨-1, rfl, by omega, by omega⟩, hal _⟩
  · go_wp2_with fail
    refine (szShareBatchS_any _ _ _ _ _ (hb.2.ext (hal _)) (by omega) (by omega)).mono ?_
    rintro e w1 ⟨⟨r', rfl, hr1', hr2'⟩, hext⟩
    have HE : Hid (Ext w w1) := Ext.tr (hal _) hext
    clear hext
    by_cases hr' : r' < 0
    · go_wp2_with fail
      go_ret
      exact ⟨⟨-1, rfl, by omega, by omega⟩, HE.out⟩
    · go_wp2_with fail
      go_ret
      exact ⟨⟨_, rfl, by omega, by omega⟩, HE.out⟩
end Go.Proofs.Ytdafpnpfcmgfcab
