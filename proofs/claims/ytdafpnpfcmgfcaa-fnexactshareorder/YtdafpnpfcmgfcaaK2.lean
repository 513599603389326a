/- Walks over the laws' sizes, told how many names there are. -/
import Derived.Test.YtdafpnpfcmgfcaaK1
namespace Go.Proofs.Ytdafpnpfcmgfcaa
open Go.RowKit
attribute [local go_sem] S_toList S_size S_get

def cntB (x : Batch) : Nat := x.has.length + x.needs.length
def cntTo (bs : List Batch) : Nat → Nat
  | 0 => 0
  | k + 1 => cntTo bs k + cntB (nthB bs k)
/-- How many names there are in a book. -/
def nMarks (b : Book) : Nat := b.things.length + (b.batches.length + cntTo b.batches b.batches.length)

set_option maxHeartbeats 400000 in
theorem szStringS_n (a : Option Addr) (ca : Nat) (sa : List Str) (left : Int) (w : World) (ha : StrsAt w a sa) (h0 : 0 ≤ left) (h1 : left ≤ 1048576) :
    Calls Try.prog 27 #[.slice a sa.length ca, .int .i64 left] w fun e w' => (∃ r : Int, e = .returned (.int .i64 r) ∧ -1 ≤ r ∧ r ≤ 1048576 ∧ (0 ≤ r → r + sa.length ≤ left)) ∧ w' = w := by
  have hn := ha.1
  by_cases hneg : left - sa.length < 0
  · go_enter Try.func27, Try.ntmps27
    go_wp2
    go_ret
    exact ⟨⟨-1, rfl, by omega, by omega, by omega⟩, rfl⟩
  · go_enter Try.func27, Try.ntmps27
    go_wp2
    go_loop [1, 5] (fun l i => ∃ (k : Nat) (x : Int), k ≤ sa.length ∧ i = .int .i64 k ∧ l = .int .i64 x ∧ 0 ≤ x ∧ x + sa.length ≤ left) (fun _ i => sa.length - (intOf i).toNat)
    case atStart => exact ⟨0, _, Nat.zero_le _, rfl, rfl, by omega, by omega⟩
    case round =>
      obtain ⟨k, x, hk, rfl, rfl, hx0, hx1⟩ := hrel
      by_cases hlt : k < sa.length
      · obtain ⟨hl, ba, oa, rfl, hc⟩ := ha.2 k hlt
        by_cases hq : x - (nth sa k).length < 0
        · go_wp2
          go_ret
          exact ⟨⟨-1, rfl, by omega, by omega, by omega⟩, rfl⟩
        · go_wp2
          go_round
          case rel => exact ⟨k + 1, _, by omega, by go_num, rfl, by omega, by omega⟩
          case measure => simp [intOf]; omega
      · go_wp2
        go_ret
        exact ⟨⟨_, rfl, by omega, by omega, by omega⟩, rfl⟩

set_option maxHeartbeats 400000 in
theorem szShareBatch_n (x : Batch) (a1 a2 : Option Addr) (c1 c2 : Nat) (left : Int) (w : World) (hl : x.name.length ≤ 140737488355328)
    (h1 : StrsAt w a1 x.has) (h2 : StrsAt w a2 x.needs) (g0 : 0 ≤ left) (g1 : left ≤ 1048576) :
    Calls Try.prog 70 #[.agg #[.string (S x.name), .slice a1 x.has.length c1, .slice a2 x.needs.length c2], .int .i64 left] w fun e w' =>
      (∃ r : Int, e = .returned (.int .i64 r) ∧ -1 ≤ r ∧ r ≤ 1048576 ∧ (0 ≤ r → r + cntB x ≤ left)) ∧ Ext w w' := by
  have hal : ∀ o, Ext w (w.alloc o) := fun o => (Below.refl _ _).alloc (Nat.le_refl _) _
  have HC : Hid (cntB x = x.has.length + x.needs.length) := rfl
  by_cases hneg : left - x.name.length < 0
  · go_enter Try.func70, Try.ntmps70
    go_wp2
    go_ret
    exact ⟨⟨-1, rfl, by omega, by omega, by omega⟩, hal _⟩
  · go_enter Try.func70, Try.ntmps70
    go_wp2_with fail
    refine (szStringS_n _ _ _ _ _ (h1.ext (hal _)) (by omega) (by omega)).mono ?_
    rintro e w' ⟨⟨r, rfl, hr1, hr2, hr3⟩, rfl⟩
    by_cases hr : r < 0
    · go_wp2_with fail
      go_ret
      exact ⟨⟨-1, rfl, by omega, by omega, by omega⟩, hal _⟩
    · go_wp2_with fail
      refine (szStringS_n _ _ _ _ _ (h2.ext (hal _)) (by omega) (by omega)).mono ?_
      rintro e w' ⟨⟨r', rfl, hr1', hr2', hr3'⟩, rfl⟩
      by_cases hr' : r' < 0
      · go_wp2_with fail
        go_ret
        exact ⟨⟨-1, rfl, by omega, by omega, by omega⟩, hal _⟩
      · go_wp2_with fail
        go_ret
        exact ⟨⟨_, rfl, by omega, by omega, by rw [HC.out]; omega⟩, hal _⟩

set_option maxHeartbeats 400000 in
theorem szShareBatchS_n (a : Option Addr) (ca : Nat) (bs : List Batch) (left : Int) (w : World) (ha : BatchesAt w a bs) (h0 : 0 ≤ left) (h1 : left ≤ 1048576) :
    Calls Try.prog 57 #[.slice a bs.length ca, .int .i64 left] w fun e w' => (∃ r : Int, e = .returned (.int .i64 r) ∧ -1 ≤ r ∧ r ≤ 1048576 ∧ (0 ≤ r → r + bs.length + cntTo bs bs.length ≤ left)) ∧ Ext w w' := by
  have hn := ha.1
  by_cases hneg : left - bs.length < 0
  · go_enter Try.func57, Try.ntmps57
    go_wp2
    go_ret
    exact ⟨⟨-1, rfl, by omega, by omega, by omega⟩, Ext.rfl' _⟩
  · go_enter Try.func57, Try.ntmps57
    go_wp2
    go_loopw [1, 5] (fun l i wr => ∃ (k : Nat) (x : Int), k ≤ bs.length ∧ i = .int .i64 k ∧ l = .int .i64 x ∧ 0 ≤ x ∧ x + bs.length + cntTo bs k ≤ left ∧ Ext w wr) (fun _ i _ => bs.length - (intOf i).toNat)
    case atStart => exact ⟨0, _, Nat.zero_le _, rfl, rfl, by omega, by simp only [cntTo]; omega, Ext.rfl' _⟩
    case round =>
      obtain ⟨k, x, hk, rfl, rfl, hx0, hx1, hext⟩ := hrel
      have ha' := ha.ext hext
      have HE : Hid (Ext w wr) := hext
      have HS : Hid (cntTo bs (k + 1) = cntTo bs k + cntB (nthB bs k)) := rfl
      clear hext
      by_cases hlt : k < bs.length
      · obtain ⟨ba, oa, rfl, hl, a1, c1, a2, c2, k0, k1, k2, s1, s2⟩ := ha'.2 k hlt
        go_wp2_with fail
        refine (szShareBatch_n (nthB bs k) _ _ _ _ _ _ hl s1 s2 (by omega) (by omega)).mono ?_
        rintro e w1 ⟨⟨r, rfl, hr1, hr2, hr3⟩, hext⟩
        have HE1 : Hid (Ext w w1) := Ext.tr HE.out hext
        clear hext
        by_cases hr : r < 0
        · go_wp2
          go_ret
          exact ⟨⟨-1, rfl, by omega, by omega, by omega⟩, HE1.out⟩
        · go_wp2
          go_roundw
          case rel => exact ⟨k + 1, r, by omega, by go_num, rfl, by omega, by rw [HS.out]; have := hr3 (by omega); omega, HE1.out⟩
          case measure => simp [intOf]; omega
      · have e : k = bs.length := by omega
        go_wp2
        go_ret
        exact ⟨⟨_, rfl, by omega, by omega, fun _ => by rw [← e]; rw [← e] at hx1; exact hx1⟩, HE.out⟩

set_option maxHeartbeats 400000 in
theorem szShareBook_n (b : Book) (a1 a2 : Option Addr) (c1 c2 : Nat) (left : Int) (w : World) (hb : BookAt w a1 a2 b) (g0 : 0 ≤ left) (g1 : left ≤ 1048576) :
    Calls Try.prog 24 #[.agg #[.slice a1 b.things.length c1, .slice a2 b.batches.length c2], .int .i64 left] w fun e w' =>
      (∃ r : Int, e = .returned (.int .i64 r) ∧ -1 ≤ r ∧ r ≤ 1048576 ∧ (0 ≤ r → r + nMarks b ≤ left)) ∧ Ext w w' := by
  have hal : ∀ o, Ext w (w.alloc o) := fun o => (Below.refl _ _).alloc (Nat.le_refl _) _
  have HC : Hid (nMarks b = b.things.length + (b.batches.length + cntTo b.batches b.batches.length)) := rfl
  go_enter Try.func24, Try.ntmps24
  go_wp2_with fail
  refine (szStringS_n _ _ _ _ _ (hb.1.ext (hal _)) (by omega) (by omega)).mono ?_
  rintro e w' ⟨⟨r, rfl, hr1, hr2, hr3⟩, rfl⟩
  by_cases hr : r < 0
  · go_wp2_with fail
    go_ret
    exact ⟨⟨-1, rfl, by omega, by omega, by omega⟩, hal _⟩
  · go_wp2_with fail
    refine (szShareBatchS_n _ _ _ _ _ (hb.2.ext (hal _)) (by omega) (by omega)).mono ?_
    rintro e w1 ⟨⟨r', rfl, hr1', hr2', hr3'⟩, hext⟩
    have HE : Hid (Ext w w1) := Ext.tr (hal _) hext
    clear hext
    by_cases hr' : r' < 0
    · go_wp2_with fail
      go_ret
      exact ⟨⟨-1, rfl, by omega, by omega, by omega⟩, HE.out⟩
    · go_wp2_with fail
      go_ret
      exact ⟨⟨_, rfl, by omega, by omega, by rw [HC.out]; have := hr3' (by omega); omega⟩, HE.out⟩
end Go.Proofs.Ytdafpnpfcmgfcaa
