/- Walks over the copies of lists of batches, and of books. -/
import Derived.Test.YtdafpnpfcmgfcabW5
namespace Go.Proofs.Ytdafpnpfcmgfcab
open Go.RowKit
attribute [local go_sem] S_toList S_size S_get

theorem Qry.infoBatch : (Qry.prog.info? 43).map (fun i => (i.zero, i.size, i.bytes)) = some (some (.agg #[.string (S []), .slice none 0 0, .slice none 0 0]), 3, 64) := by kernel_rfl

def zero3 (n : Nat) : Array Value := madeCells #[.string (S []), .slice none 0 0, .slice none 0 0] (n * 3)

theorem make_batches (n : Nat) (hn : n ≤ 2199023255552) (w : World) :
    (Instr.makeSlice 28 (.int .i64 (n : Int)) (.int .i64 (n : Int))).run Qry.prog w = .ok (.slice (some ⟨w.heap.size, 0, none⟩) n n) (w.alloc (.cells (zero3 n) 43)) := by
  obtain ⟨i, hi, hzz⟩ := Option.map_eq_some_iff.1 Qry.infoBatch
  simp only [Prod.mk.injEq] at hzz
  obtain ⟨hz, hs, hb⟩ := hzz
  have hr := run_make (P := Qry.prog) w 28 43 i _ (uQ Try.underlying28) hi hz .i64 .i64 n n (by omega) (Int.le_refl _) (by rw [hb]; omega) (by omega)
  simp only [Int.toNat_natCast, hs] at hr
  exact hr

theorem row_zero3 (w : World) (n : Nat) : (w.alloc (.cells (zero3 n) 43)).rowIs w.heap.size 43 (n * 3) (fun j => (zero3 n)[j]?.getD undef) := by
  have hz : (zero3 n).size = n * 3 := size_madeCells _ _
  have h := World.rowIs_alloc w (zero3 n) 43 (fun j => (zero3 n)[j]?.getD undef) (fun j hj => by simp [hj])
  rw [hz] at h
  exact h

/-- The cells of new batches, as far as they are filled. -/
def HalfB (w : World) (B n k : Nat) (bs : List Batch) : Prop :=
  ∃ f, w.rowIs B 43 (n * 3) f ∧ ∀ i, i < k → f (i * 3) = .string (S (nthB bs i).name) ∧ (nthB bs i).name.length ≤ 140737488355328 ∧
    ∃ b1 b2, f (i * 3 + 1) = .slice (some ⟨b1, 0, none⟩) (nthB bs i).has.length (nthB bs i).has.length ∧ f (i * 3 + 2) = .slice (some ⟨b2, 0, none⟩) (nthB bs i).needs.length (nthB bs i).needs.length ∧
      B < b1 ∧ B < b2 ∧ OwnStrs w b1 (nthB bs i).has ∧ OwnStrs w b2 (nthB bs i).needs

theorem HalfB.ext {w w' : World} {B n k : Nat} {bs : List Batch} (h : HalfB w B n k bs) (e : Ext w w') : HalfB w' B n k bs := by
  obtain ⟨f, hr, hi⟩ := h
  refine ⟨f, hr.of_block (e.block B hr.lt), fun i hik => ?_⟩
  obtain ⟨g0, g1, b1, b2, g2, g3, g4, g5, g6, g7⟩ := hi i hik
  exact ⟨g0, g1, b1, b2, g2, g3, g4, g5, g6.ext e, g7.ext e⟩

theorem HalfB.store {w : World} {B n k : Nat} {bs : List Batch} (h : HalfB w B n k bs) (x : Batch) (hx : nthB bs k = x) (hl : x.name.length ≤ 140737488355328) {b1 b2 : Nat} (h1 : B < b1) (h2 : B < b2)
    (o1 : OwnStrs w b1 x.has) (o2 : OwnStrs w b2 x.needs) :
    HalfB (((w.setCell ⟨B, k * 3, none⟩ (.string (S x.name))).setCell ⟨B, k * 3 + 1, none⟩ (.slice (some ⟨b1, 0, none⟩) x.has.length x.has.length)).setCell ⟨B, k * 3 + 2, none⟩ (.slice (some ⟨b2, 0, none⟩) x.needs.length x.needs.length)) B n (k + 1) bs := by
  obtain ⟨f, hr, hi⟩ := h
  refine ⟨_, (((hr.set (k * 3) _).set (k * 3 + 1) _).set (k * 3 + 2) _), fun i hik => ?_⟩
  by_cases e : i = k
  · subst e
    rw [hx]
    refine ⟨by simp, hl, b1, b2, by simp, by simp, h1, h2, ?_, ?_⟩
    · exact ((o1.setOther (by simp; omega) _).setOther (by simp; omega) _).setOther (by simp; omega) _
    · exact ((o2.setOther (by simp; omega) _).setOther (by simp; omega) _).setOther (by simp; omega) _
  · obtain ⟨g0, g1, c1, c2, g2, g3, g4, g5, g6, g7⟩ := hi i (by omega)
    have n0 : ∀ j, j < 3 → i * 3 + j ≠ k * 3 ∧ i * 3 + j ≠ k * 3 + 1 ∧ i * 3 + j ≠ k * 3 + 2 := fun j hj => by omega
    have m0 := n0 0 (by omega)
    have m1 := n0 1 (by omega)
    have m2 := n0 2 (by omega)
    refine ⟨?_, g1, c1, c2, ?_, ?_, g4, g5, ?_, ?_⟩
    · have e0 : i * 3 + 0 = i * 3 := rfl
      rw [e0] at m0
      simp only [m0, if_false]; exact g0
    · simp only [m1, if_false]; exact g2
    · simp only [m2, if_false]; exact g3
    · exact ((g6.setOther (by simp; omega) _).setOther (by simp; omega) _).setOther (by simp; omega) _
    · exact ((g7.setOther (by simp; omega) _).setOther (by simp; omega) _).setOther (by simp; omega) _

set_option maxHeartbeats 400000 in
theorem toShareBatchS_any (a : Option Addr) (ca : Nat) (bs : List Batch) (w : World) (ha : BatchesAt w a bs) :
    Calls Qry.prog 21 #[.slice a bs.length ca] w fun e w' =>
      e = .returned (.slice (some ⟨w.heap.size, 0, none⟩) bs.length bs.length) ∧ Ext w w' ∧ HalfB w' w.heap.size bs.length bs.length bs := by
  have hn := ha.1
  have hmk := make_batches bs.length hn
  go_enter Qry.func21, Try.ntmps21
  go_wp2
  clear hmk
  go_loopw [4] (fun i wr => ∃ k : Nat, k ≤ bs.length ∧ i = .int .i64 k ∧ Below w.heap.size w wr ∧ HalfB wr w.heap.size bs.length k bs) (fun i _ => bs.length - (intOf i).toNat)
  case atStart => exact ⟨0, Nat.zero_le _, rfl, (Below.refl _ _).alloc (Nat.le_refl _) _, _, row_zero3 w _, fun i hi => by omega⟩
  case round =>
    obtain ⟨k, hk, rfl, hbel, hrow⟩ := hrel
    have ha' : BatchesAt wr a bs := ha.ext hbel
    have HB : Hid (Below w.heap.size w wr) := hbel
    by_cases hlt : k < bs.length
    · obtain ⟨ba, oa, rfl, hl, a1, c1, a2, c2, k0, k1, k2, s1, s2⟩ := ha'.2 k hlt
      have HH := hrow
      clear hrow hbel
      go_wp2_with fail
      refine (toShareBatch_any (nthB bs k) _ _ _ _ _ s1 s2).mono ?_
      rintro e w1 ⟨b1, b2, rfl, hext, hb1, hb2, ho1, ho2⟩
      have hh := HH.ext hext
      have HL : w.heap.size < b1 := by
        obtain ⟨f, hr, _⟩ := HH
        have := hr.lt; omega
      have HB1 : Hid (Below w.heap.size w w1) := Below.trans HB.out (Below.mono hext HB.out.size)
      have HN : Hid (HalfB _ w.heap.size bs.length (k + 1) bs) := hh.store (nthB bs k) rfl hl HL (by omega) ho1 ho2
      obtain ⟨f, hr, _⟩ := hh
      have q0 := hr.cell (i := k * 3) (by omega)
      have q1 := hr.cell (i := k * 3 + 1) (by omega)
      have q2 := hr.cell (i := k * 3 + 2) (by omega)
      have f0 := hr.frozen (k * 3)
      have f1 := hr.frozen (k * 3 + 1)
      have f2 := hr.frozen (k * 3 + 2)
      clear hr hext ho1 ho2
      go_wp2
      go_roundw
      case rel => exact ⟨k + 1, by omega, by go_num, ((HB1.out.setCell (Nat.le_refl _) _).setCell (Nat.le_refl _) _).setCell (Nat.le_refl _) _, HN.out⟩
      case measure => simp [intOf]; omega
    · have HH : Hid (HalfB wr w.heap.size bs.length k bs) := hrow
      have e : k = bs.length := by omega
      clear hrow hbel
      go_wp2
      go_ret
      refine ⟨rfl, HB.out, ?_⟩
      have h := HH.out
      rwa [e] at h
end Go.Proofs.Ytdafpnpfcmgfcab
