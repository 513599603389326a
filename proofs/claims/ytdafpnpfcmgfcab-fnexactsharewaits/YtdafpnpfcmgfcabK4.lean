/- Walks over the laws' marks of books. -/
import Derived.Test.YtdafpnpfcmgfcabJH
import Derived.Test.YtdafpnpfcmgfcabW9
namespace Go.Proofs.Ytdafpnpfcmgfcab
open Go.RowKit
attribute [local go_sem] S_toList S_size S_get

/-- Between two block numbers anything may have turned; all else is as it was. -/
structure Mid (lo hi : Nat) (w w' : World) : Prop where
  os : w'.os = w.os
  tape : w'.tape = w.tape
  output : w'.output = w.output
  size : w.heap.size ≤ w'.heap.size
  block : ∀ j, j < w.heap.size → (j < lo ∨ hi ≤ j) → w'.heap[j]? = w.heap[j]?
theorem Mid.rfl' (lo hi : Nat) (w : World) : Mid lo hi w w := ⟨rfl, rfl, rfl, Nat.le_refl _, fun _ _ _ => rfl⟩
theorem Mid.tr {lo hi : Nat} {a b c : World} (h : Mid lo hi a b) (k : Mid lo hi b c) : Mid lo hi a c :=
  ⟨k.os.trans h.os, k.tape.trans h.tape, k.output.trans h.output, Nat.le_trans h.size k.size, fun i hi' ho => (k.block i (by have := h.size; omega) ho).trans (h.block i hi' ho)⟩
theorem Mid.of_ext {lo hi : Nat} {w w' : World} (e : Ext w w') : Mid lo hi w w' := ⟨e.os, e.tape, e.output, e.size, fun k hk _ => e.block k hk⟩
theorem Mid.of_gb {lo hi b : Nat} {w w' : World} (g : w.grownBy w' (some b)) (h1 : lo ≤ b) (h2 : b < hi) : Mid lo hi w w' :=
  ⟨g.os, g.tape, g.output, g.size, fun j hj ho => g.block j hj (fun e => by cases e; omega)⟩
theorem Mid.below {lo hi : Nat} {w w' : World} (h : Mid lo hi w w') (hl : lo ≤ w.heap.size) : Below lo w w' := ⟨h.os, h.tape, h.output, h.size, fun k hk => h.block k (by omega) (Or.inl hk)⟩
/-- A list of names that lies beyond. -/
theorem StrsAt.mid {w w' : World} {lo hi : Nat} {a : Option Addr} {ss : List Str} (h : StrsAt w a ss) (m : Mid lo hi w w') (ha : 0 < ss.length → ∀ b o, a = some ⟨b, o, none⟩ → b < lo ∨ hi ≤ b) : StrsAt w' a ss :=
  ⟨h.1, fun i hi' => ⟨(h.2 i hi').1, by
    obtain ⟨b, o, e, hc⟩ := (h.2 i hi').2
    exact ⟨b, o, e, (World.cell?_of_block (w := w) (a := ⟨b, o + i, none⟩) (m.block b (cell_lt hc) (ha (by omega) b o e))).trans hc⟩⟩⟩
theorem StrsAt.lt {w : World} {a : Option Addr} {ss : List Str} (h : StrsAt w a ss) (hp : 0 < ss.length) (b o : Nat) (e : a = some ⟨b, o, none⟩) : b < w.heap.size := by
  obtain ⟨_, b', o', e', hc⟩ := h.2 0 hp
  rw [e] at e'; cases e'
  exact cell_lt hc
theorem OwnL.mid {w w' : World} {lo hi base : Nat} {v : Value} {ss : List Str} (h : OwnL w base v ss) (m : Mid lo hi w w') (hb : hi ≤ base) : OwnL w' base v ss := by
  refine ⟨h.1, ?_⟩
  rcases h.2 with h2 | ⟨g, cap, cur, hv, hg, hc, r⟩
  · exact Or.inl h2
  · exact Or.inr ⟨g, cap, cur, hv, hg, (m.block g (Array.getElem?_eq_some_iff.1 hc).1 (Or.inr (by omega))).trans hc, r⟩
theorem StrsAt.gb {w w' : World} {row : Option Nat} {a : Option Addr} {ss : List Str} (h : StrsAt w a ss) (g : w.grownBy w' row) (ha : 0 < ss.length → ∀ b o, a = some ⟨b, o, none⟩ → some b ≠ row) : StrsAt w' a ss :=
  ⟨h.1, fun i hi' => ⟨(h.2 i hi').1, by
    obtain ⟨b, o, e, hc⟩ := (h.2 i hi').2
    exact ⟨b, o, e, (World.cell?_of_block (w := w) (a := ⟨b, o + i, none⟩) (g.block b (cell_lt hc) (ha (by omega) b o e))).trans hc⟩⟩⟩

def RowN (w : World) (b n : Nat) : Prop := ∃ f, w.rowIs b 9 n f
theorem RowN.len {w : World} {b n m : Nat} (h : RowN w b n) (k : RowN w b m) : n = m := by
  obtain ⟨f, c, hc, hs, _⟩ := h
  obtain ⟨g, d, hd, hs', _⟩ := k
  rw [hc] at hd; cases hd
  omega
theorem RowN.ext {w w' : World} {b n : Nat} (h : RowN w b n) (e : Ext w w') : RowN w' b n := by
  obtain ⟨f, hf⟩ := h
  exact ⟨f, hf.of_block (e.block b hf.lt)⟩
theorem RowN.gb {w w' : World} {b n c m : Nat} (h : RowN w b n) (g : w.grownBy w' (some c)) (h1 : RowN w c m) (h2 : RowN w' c m) : RowN w' b n := by
  by_cases e : b = c
  · subst e
    rw [h.len h1]; exact h2
  · obtain ⟨f, hf⟩ := h
    exact ⟨f, hf.of_block (g.block b hf.lt (fun e' => e (by cases e'; rfl)))⟩
theorem RowN.lt {w : World} {b n : Nat} (h : RowN w b n) : b < w.heap.size := by
  obtain ⟨f, hf⟩ := h
  exact hf.lt

/-- New batches, all within a span of blocks: what of them the marks want. -/
def BShape (w : World) (lo hi B : Nat) (bs : List Batch) : Prop :=
  lo ≤ B ∧ B < hi ∧ ∃ f, w.rowIs B 43 (bs.length * 3) f ∧ ∀ i, i < bs.length → ∃ b1 b2, f (i * 3 + 1) = .slice (some ⟨b1, 0, none⟩) (nthB bs i).has.length (nthB bs i).has.length ∧
    f (i * 3 + 2) = .slice (some ⟨b2, 0, none⟩) (nthB bs i).needs.length (nthB bs i).needs.length ∧ B ≠ b1 ∧ B ≠ b2 ∧ (lo ≤ b1 ∧ b1 < hi) ∧ (lo ≤ b2 ∧ b2 < hi) ∧ RowN w b1 (nthB bs i).has.length ∧ RowN w b2 (nthB bs i).needs.length
theorem BShape.ext {w w' : World} {lo hi B : Nat} {bs : List Batch} (h : BShape w lo hi B bs) (e : Ext w w') : BShape w' lo hi B bs := by
  obtain ⟨h1, h2, f, hr, hi'⟩ := h
  refine ⟨h1, h2, f, hr.of_block (e.block B hr.lt), fun i hik => ?_⟩
  obtain ⟨b1, b2, g1, g2, g3, g4, g5, g6, g7, g8⟩ := hi' i hik
  exact ⟨b1, b2, g1, g2, g3, g4, g5, g6, g7.ext e, g8.ext e⟩
theorem BShape.gb {w w' : World} {lo hi B c m : Nat} {bs : List Batch} (h : BShape w lo hi B bs) (g : w.grownBy w' (some c)) (hc : B ≠ c) (k1 : RowN w c m) (k2 : RowN w' c m) : BShape w' lo hi B bs := by
  obtain ⟨h1, h2, f, hr, hi'⟩ := h
  refine ⟨h1, h2, f, hr.of_block (g.block B hr.lt (fun e => hc (by cases e; rfl))), fun i hik => ?_⟩
  obtain ⟨b1, b2, g1, g2, g3, g4, g5, g6, g7, g8⟩ := hi' i hik
  exact ⟨b1, b2, g1, g2, g3, g4, g5, g6, g7.gb g k1 k2, g8.gb g k1 k2⟩
theorem BShape.name {w : World} {lo hi B : Nat} {bs : List Batch} (h : BShape w lo hi B bs) (i : Nat) (v : Value) : BShape (w.setCell ⟨B, i * 3, none⟩ v) lo hi B bs := by
  obtain ⟨h1, h2, f, hr, hi'⟩ := h
  refine ⟨h1, h2, _, hr.set (i * 3) v, fun j hj => ?_⟩
  obtain ⟨b1, b2, g1, g2, g3, g4, g5, g6, ⟨f1, g7⟩, ⟨f2, g8⟩⟩ := hi' j hj
  have n1 : j * 3 + 1 ≠ i * 3 := by omega
  have n2 : j * 3 + 2 ≠ i * 3 := by omega
  exact ⟨b1, b2, by simp only [n1, if_false]; exact g1, by simp only [n2, if_false]; exact g2, g3, g4, g5, g6, ⟨f1, g7.setOther (Ne.symm g3) v⟩, ⟨f2, g8.setOther (Ne.symm g4) v⟩⟩
theorem BShape.has {w : World} {lo hi B : Nat} {bs : List Batch} (h : BShape w lo hi B bs) {i : Nat} (hi' : i < bs.length) :
    ∃ b1, w.cell? ⟨B, i * 3 + 1, none⟩ = some (.slice (some ⟨b1, 0, none⟩) (nthB bs i).has.length (nthB bs i).has.length) ∧ B ≠ b1 ∧ lo ≤ b1 ∧ b1 < hi ∧ RowN w b1 (nthB bs i).has.length := by
  obtain ⟨_, _, f, hr, hall⟩ := h
  obtain ⟨b1, b2, g1, g2, g3, g4, g5, g6, g7, g8⟩ := hall i hi'
  exact ⟨b1, by rw [← g1]; exact hr.cell (by omega), g3, g5.1, g5.2, g7⟩
theorem BShape.needs {w : World} {lo hi B : Nat} {bs : List Batch} (h : BShape w lo hi B bs) {i : Nat} (hi' : i < bs.length) :
    ∃ b2, w.cell? ⟨B, i * 3 + 2, none⟩ = some (.slice (some ⟨b2, 0, none⟩) (nthB bs i).needs.length (nthB bs i).needs.length) ∧ B ≠ b2 ∧ lo ≤ b2 ∧ b2 < hi ∧ RowN w b2 (nthB bs i).needs.length := by
  obtain ⟨_, _, f, hr, hall⟩ := h
  obtain ⟨b1, b2, g1, g2, g3, g4, g5, g6, g7, g8⟩ := hall i hi'
  exact ⟨b2, by rw [← g2]; exact hr.cell (by omega), g4, g6.1, g6.2, g8⟩
theorem HalfB.shape {w w' : World} {B lo : Nat} {bs : List Batch} (h : HalfB w B bs.length bs.length bs) (hlo : lo ≤ B) (e : Ext w w') : BShape w' lo w.heap.size B bs := by
  obtain ⟨f, hr, hi⟩ := h
  refine BShape.ext ⟨hlo, hr.lt, f, hr, fun i hik => ?_⟩ e
  obtain ⟨_, _, b1, b2, g2, g3, g4, g5, g6, g7⟩ := hi i hik
  exact ⟨b1, b2, g2, g3, by omega, by omega, ⟨by omega, g6.2.2.lt⟩, ⟨by omega, g7.2.2.lt⟩, ⟨_, g6.2.2⟩, ⟨_, g7.2.2⟩⟩

theorem markStringS_n (B n cap k : Nat) (w : World) (h : RowN w B n) (hk : 1 ≤ k) (hb : k + n ≤ 1000000000) :
    Calls Qry.prog 12 #[.slice (some ⟨B, 0, none⟩) n cap, .int .i64 (k : Int)] w fun e w' =>
      e = .returned (.int .i64 ((k + n : Nat) : Int)) ∧ w.grownBy w' (some B) ∧ RowN w' B n := by
  obtain ⟨f, hf⟩ := h
  refine (markStringS_row B n f n cap k w hf (Nat.le_refl _) hk hb).mono ?_
  rintro e w' ⟨rfl, hg, hr⟩
  exact ⟨rfl, hg, _, hr⟩

set_option maxHeartbeats 1000000 in
theorem markShareBatchS_n (lo hi B cap k : Nat) (bs : List Batch) (w : World) (h : BShape w lo hi B bs) (hk : 1 ≤ k) (hb : k + bs.length + cntTo bs bs.length ≤ 1000000000) :
    Calls Qry.prog 27 #[.slice (some ⟨B, 0, none⟩) bs.length cap, .int .i64 (k : Int)] w fun e w' =>
      e = .returned (.int .i64 ((k + bs.length + cntTo bs bs.length : Nat) : Int)) ∧ Mid lo hi w w' := by
  have hmono : ∀ n m, n ≤ m → cntTo bs n ≤ cntTo bs m := by
    intro n m hnm
    induction hnm with
    | refl => exact Nat.le_refl _
    | step _ ih => exact Nat.le_trans ih (Nat.le_add_right _ _)
  have HMO := hid hmono
  clear hmono
  go_enter Qry.func27, Try.ntmps27
  go_wp2_with fail
  go_loopw [1, 5] (fun ki i wr => ∃ m : Nat, m ≤ bs.length ∧ i = .int .i64 m ∧ ki = .int .i64 ((k + m + cntTo bs m : Nat) : Int) ∧ Mid lo hi w wr ∧ BShape wr lo hi B bs) (fun _ i _ => bs.length - (intOf i).toNat)
  case atStart => exact ⟨0, Nat.zero_le _, rfl, by simp [cntTo], Mid.rfl' _ _ _, h⟩
  case round =>
    obtain ⟨m, hm, rfl, rfl, hmid, hsh⟩ := hrel
    have HM := hid hmid
    have HS := hid hsh
    clear hmid hsh
    by_cases hlt : m < bs.length
    · have hle := HMO.out (m + 1) bs.length hlt
      have hst : cntTo bs (m + 1) = cntTo bs m + ((nthB bs m).has.length + (nthB bs m).needs.length) := rfl
      have HST := hid hst
      rw [hst] at hle
      clear hst
      generalize cntTo bs m = cm at *
      have h1k : 1 ≤ k + m + cm := by omega
      have hsum : (k + m + cm) + 1 + (nthB bs m).has.length + (nthB bs m).needs.length ≤ 1000000000 := by omega
      have HK : Hid (k + (m + 1) + cntTo bs (m + 1) = (k + m + cm) + 1 + (nthB bs m).has.length + (nthB bs m).needs.length) := by
        show _ = _
        rw [HST.out]; omega
      generalize k + m + cm = kk at *
      go_wp2_with fail
      refine (markText_any kk _ (by omega) (by omega)).mono ?_
      rintro e w1 ⟨rfl, hext⟩
      have HM1 := hid (HM.out.tr (Mid.of_ext hext))
      have HS1 := hid (HS.out.ext hext)
      obtain ⟨hlo, hhi, f, hrow, hall⟩ := HS1.out
      have c0 := hrow.cell (i := m * 3) (by omega)
      have f0 := hrow.frozen (m * 3)
      have HM2 : Hid (Mid lo hi w (w1.setCell ⟨B, m * 3, none⟩ (.string (S (markT kk))))) := HM1.out.tr (Mid.of_gb (gb_set _ _ _ _) hlo hhi)
      have HS2 : Hid (BShape (w1.setCell ⟨B, m * 3, none⟩ (.string (S (markT kk)))) lo hi B bs) := HS1.out.name m _
      obtain ⟨b1, c1, n1, l1, h1, r1⟩ := HS2.out.has hlt
      have HR1 := hid r1
      clear hext hrow hall r1
      go_upto_region 6 with fail
      generalize w1.setCell ⟨B, m * 3, none⟩ (.string (S (markT kk))) = w2 at *
      go_wp2_with fail
      refine (markStringS_n b1 _ _ (kk + 1) _ HR1.out (by omega) (by omega)).mono ?_
      rintro e w3 ⟨rfl, hg3, hr3⟩
      have HM3 := hid (HM2.out.tr (Mid.of_gb hg3 l1 h1))
      have HS3 := hid (HS2.out.gb hg3 n1 HR1.out hr3)
      obtain ⟨b2, c2, n2, l2, h2, r2⟩ := HS3.out.needs hlt
      have HR2 := hid r2
      clear hg3 hr3 r2 c0 f0 c1
      go_wp2_with fail
      refine (markStringS_n b2 _ _ (kk + 1 + (nthB bs m).has.length) _ HR2.out (by omega) (by omega)).mono ?_
      rintro e w4 ⟨rfl, hg4, hr4⟩
      have HM4 := hid (HM3.out.tr (Mid.of_gb hg4 l2 h2))
      have HS4 := hid (HS3.out.gb hg4 n2 HR2.out hr4)
      clear hg4 hr4 c2
      go_wp2_with fail
      go_roundw
      case rel => exact ⟨m + 1, by omega, by go_num, by rw [HK.out]; go_num, HM4.out, HS4.out⟩
      case measure => simp [intOf]; omega
    · have e : m = bs.length := by omega
      rw [e]
      go_wp2_with fail
      go_ret
      exact ⟨rfl, HM.out⟩

set_option maxHeartbeats 1000000 in
theorem markShareBook_n (lo : Nat) (b : Book) (b1 b2 : Nat) (c1 c2 k : Nat) (w0 w : World) (h : OwnBook w0 b1 b2 b) (hlo : lo ≤ b1) (he : Ext w0 w) (hk : 1 ≤ k) (hb : k + nMarks b ≤ 1000000000) :
    Calls Qry.prog 11 #[.agg #[.slice (some ⟨b1, 0, none⟩) b.things.length c1, .slice (some ⟨b2, 0, none⟩) b.batches.length c2], .int .i64 (k : Int)] w fun e w' =>
      e = .returned (.int .i64 ((k + nMarks b : Nat) : Int)) ∧ Mid lo w0.heap.size w w' := by
  obtain ⟨h12, ho, _, hh⟩ := h
  have HK : Hid (nMarks b = b.things.length + (b.batches.length + cntTo b.batches b.batches.length)) := rfl
  rw [HK.out] at hb
  have hlt1 := ho.2.2.lt
  have HR : Hid (RowN (w.alloc (.cells #[.slice (some ⟨b1, 0, none⟩) b.things.length c1, .slice (some ⟨b2, 0, none⟩) b.batches.length c2] 30)) b1 b.things.length) := RowN.ext (RowN.ext ⟨_, ho.2.2⟩ he) (ext_alloc _ _)
  have HS : Hid (BShape (w.alloc (.cells #[.slice (some ⟨b1, 0, none⟩) b.things.length c1, .slice (some ⟨b2, 0, none⟩) b.batches.length c2] 30)) lo w0.heap.size b2 b.batches) := (hh.shape (lo := lo) (by omega) he).ext (ext_alloc _ _)
  have hsz := he.size
  go_enter Qry.func11, Try.ntmps11
  go_wp2_with fail
  refine (markStringS_n b1 _ _ k _ HR.out hk (by omega)).mono ?_
  rintro e w1 ⟨rfl, hg, hr⟩
  have HM1 : Hid (Mid lo w0.heap.size w w1) := (Mid.of_ext (ext_alloc _ _)).tr (Mid.of_gb hg hlo hlt1)
  have HS1 := hid (HS.out.gb hg (by omega) HR.out hr)
  have x0 : w1.cell? ⟨w.heap.size, 0, none⟩ = some (.slice (some ⟨b1, 0, none⟩) b.things.length c1) := by
    have e := hg.block w.heap.size (by simp) (fun e => by cases e; omega)
    rw [World.cell?_of_block (w := w.alloc (.cells #[.slice (some ⟨b1, 0, none⟩) b.things.length c1, .slice (some ⟨b2, 0, none⟩) b.batches.length c2] 30)) (a := ⟨w.heap.size, 0, none⟩) e]; simp
  have x1 : w1.cell? ⟨w.heap.size, 1, none⟩ = some (.slice (some ⟨b2, 0, none⟩) b.batches.length c2) := by
    have e := hg.block w.heap.size (by simp) (fun e => by cases e; omega)
    rw [World.cell?_of_block (w := w.alloc (.cells #[.slice (some ⟨b1, 0, none⟩) b.things.length c1, .slice (some ⟨b2, 0, none⟩) b.batches.length c2] 30)) (a := ⟨w.heap.size, 1, none⟩) e]; simp
  clear hg hr
  go_wp2_with fail
  refine (markShareBatchS_n lo w0.heap.size b2 _ (k + b.things.length) b.batches _ HS1.out (by omega) (by omega)).mono ?_
  rintro e w2 ⟨rfl, hm2⟩
  have HM2 := hid (HM1.out.tr hm2)
  clear hm2
  go_wp2_with fail
  go_ret
  refine ⟨?_, HM2.out⟩
  rw [HK.out]
  show Ending.returned (.int .i64 ((k : Int) + b.things.length + b.batches.length + (cntTo b.batches b.batches.length : Nat))) = _
  have e : ((k : Int) + b.things.length + b.batches.length + (cntTo b.batches b.batches.length : Nat)) = ((k + (b.things.length + (b.batches.length + cntTo b.batches b.batches.length)) : Nat) : Int) := by omega
  rw [e]
end Go.Proofs.Ytdafpnpfcmgfcab
