/- Walks over equality of lists, and over sizes of batches and books. -/
import Derived.Test.YtdafpnpfcmgfcaaW2
namespace Go.Proofs.Ytdafpnpfcmgfcaa
open Go.RowKit
attribute [local go_sem] S_toList S_size S_get

def eqS (a b : List Str) : Bool := decide (a = b)
theorem eqS_len {a b : List Str} (h : a.length ≠ b.length) : eqS a b = false := by
  simp only [eqS, decide_eq_false_iff_not]; exact fun e => h (by rw [e])
theorem eqS_no {a b : List Str} {k : Nat} (h : (nth a k == nth b k) = false) : eqS a b = false := by
  simp only [eqS, decide_eq_false_iff_not]; intro e; rw [e] at h; simp at h
theorem eqS_yes {a b : List Str} (hl : a.length = b.length) (h : ∀ k, k < a.length → (nth a k == nth b k) = true) : eqS a b = true := by
  simp only [eqS, decide_eq_true_eq]
  refine List.ext_getElem hl (fun i h1 h2 => ?_)
  have := eq_of_beq (h i h1)
  rwa [nth_get h1, nth_get h2] at this

set_option maxHeartbeats 400000 in
theorem eqStringS_any (a b : Option Addr) (ca cb : Nat) (sa sb : List Str) (w : World) (ha : StrsAt w a sa) (hb : StrsAt w b sb) :
    Calls Try.prog 29 #[.slice a sa.length ca, .slice b sb.length cb] w fun e w' => e = .returned (.bool (eqS sa sb)) ∧ ∃ n, w' = w.drewN n := by
  have hn := ha.1
  have hn' := hb.1
  by_cases hl : sa.length = sb.length
  · have HL := hl
    have hl' : ((sa.length : Int) == (sb.length : Int)) = true := by simp; omega
    go_enter Try.func29, Try.ntmps29
    have HL : Hid (sa.length = sb.length) := hl
    have hle : sa.length ≤ sb.length := by omega
    clear hl
    go_wp2
    go_loopw [5] (fun i wr => ∃ k : Nat, k ≤ sa.length ∧ i = .int .i64 k ∧ (∃ m, wr = w.drewN m) ∧ ∀ j, j < k → (nth sa j == nth sb j) = true) (fun i _ => sa.length - (intOf i).toNat)
    case atStart => exact ⟨0, Nat.zero_le _, rfl, ⟨0, rfl⟩, fun j hj => by omega⟩
    case round =>
      obtain ⟨k, hk, rfl, hm, hx⟩ := hrel
      have HX : Hid (∀ j, j < k → (nth sa j == nth sb j) = true) := hx
      have ha' := ha.draws hm
      have hb' := hb.draws hm
      have HM : Hid (∃ m, wr = w.drewN m) := hm
      clear hx hm
      by_cases hlt : k < sa.length
      · have hltb : k < sb.length := by omega
        obtain ⟨_, ba, oa, rfl, hc⟩ := ha'.2 k hlt
        obtain ⟨_, bb, ob, rfl, hcb⟩ := hb'.2 k hltb
        cases hq : (nth sa k == nth sb k)
        · have HF : Hid (eqS sa sb = false) := eqS_no hq
          go_wp2
          go_quiet (fail)
          go_wp2
          go_ret
          exact ⟨ret_bool HF.out.symm, drewN_tr HM.out ⟨_, rfl⟩⟩
        · have HQ : Hid ((nth sa k == nth sb k) = true) := hq
          go_wp2
          go_quiet (fail)
          go_wp2
          go_roundw
          case rel => exact ⟨k + 1, by omega, by go_num, drewN_tr HM.out ⟨_, rfl⟩, fun j hj => by
            by_cases e : j = k
            · rw [e]; exact HQ.out
            · exact HX.out j (by omega)⟩
          case measure => simp [intOf]; omega
      · have HF : Hid (eqS sa sb = true) := eqS_yes HL.out (fun j hj => HX.out j (by omega))
        go_wp2
        go_ret
        exact ⟨ret_bool HF.out.symm, HM.out⟩
  · have hl' : ((sa.length : Int) == (sb.length : Int)) = false := by simp; omega
    have HF : Hid (eqS sa sb = false) := eqS_len hl
    go_enter Try.func29, Try.ntmps29
    go_wp2
    go_ret
    exact ⟨ret_bool HF.out.symm, 0, rfl⟩

set_option maxHeartbeats 400000 in
theorem szShareBatch_any (x : Batch) (a1 a2 : Option Addr) (c1 c2 : Nat) (left : Int) (w : World) (hl : x.name.length ≤ 140737488355328)
    (h1 : StrsAt w a1 x.has) (h2 : StrsAt w a2 x.needs) (g0 : 0 ≤ left) (g1 : left ≤ 1048576) :
    Calls Try.prog 70 #[.agg #[.string (S x.name), .slice a1 x.has.length c1, .slice a2 x.needs.length c2], .int .i64 left] w fun e w' =>
      (∃ r : Int, e = .returned (.int .i64 r) ∧ -1 ≤ r ∧ r ≤ 1048576) ∧ Ext w w' := by
  have hal : ∀ o, Ext w (w.alloc o) := fun o => (Below.refl _ _).alloc (Nat.le_refl _) _
  by_cases hneg : left - x.name.length < 0
  · go_enter Try.func70, Try.ntmps70
    go_wp2
    go_ret
    exact ⟨⟨-1, rfl, by omega, by omega⟩, hal _⟩
  · go_enter Try.func70, Try.ntmps70
    go_wp2_with fail
    refine (szStringS_any _ _ _ _ _ (h1.ext (hal _)) (by omega) (by omega)).mono ?_
    rintro e w' ⟨⟨r, rfl, hr1, hr2⟩, rfl⟩
    by_cases hr : r < 0
    · go_wp2_with fail
      go_ret
      exact ⟨⟨-1, rfl, by omega, by omega⟩, hal _⟩
    · go_wp2_with fail
      refine (szStringS_any _ _ _ _ _ (h2.ext (hal _)) (by omega) (by omega)).mono ?_
      rintro e w' ⟨⟨r', rfl, hr1', hr2'⟩, rfl⟩
      by_cases hr' : r' < 0
      · go_wp2_with fail
        go_ret
        exact ⟨⟨-1, rfl, by omega, by omega⟩, hal _⟩
      · go_wp2_with fail
        go_ret
        exact ⟨⟨_, rfl, by omega, by omega⟩, hal _⟩

end Go.Proofs.Ytdafpnpfcmgfcaa
