/- The program's search for a place, by halves. -/
import Derived.Test.YtdafpnpfcmgfcabGreatDoorV6
import Derived.Test.YtdafpnpfcmgfcabGreatDoorMB
namespace Go.Proofs.YtdafpnpfcmgfcabGreatDoor
open Go.RowKit
attribute [local go_sem] S_toList S_size S_get

theorem cmpIsNaN_any (x : Str) (w : World) : Calls Tryz.prog 84 #[.string (S x)] w fun e w' => e = .returned (.bool false) ∧ w' = w := by
  have hq : (x == x) = true := by simp
  go_enter Tryz.func84, Tryz.ntmps84
  go_wp2
  go_ret
  exact ⟨rfl, rfl⟩
theorem slicesIsNaN_any (x : Str) (w : World) : Calls Tryz.prog 80 #[.string (S x)] w fun e w' => e = .returned (.bool false) ∧ w' = w := by
  have hq : (x == x) = true := by simp
  go_enter Tryz.func80, Tryz.ntmps80
  go_wp2
  go_ret
  exact ⟨rfl, rfl⟩
theorem cmpLess_v (x y : Str) (v : Bool) (w : World) (hv : Op.bytesLess x y = v) : Calls Tryz.prog 79 #[.string (S x), .string (S y)] w fun e w' => e = .returned (.bool v) ∧ w' = w := by
  go_enter Tryz.func79, Tryz.ntmps79
  go_wp2_with (go_at_call 84; refine (cmpIsNaN_any _ _).mono ?_; rintro e w' ⟨rfl, rfl⟩)
  go_ret
  exact ⟨rfl, rfl⟩

theorem asc_nth {l : List Str} (h : l.Pairwise LtS) {i j : Nat} (hij : i < j) (hj : j < l.length) : Op.bytesLess (nth l i) (nth l j) = true := by
  rw [List.pairwise_iff_getElem] at h
  have := h i j (by omega) hj hij
  rwa [nth_get (by omega), nth_get hj]
theorem below_less {l : List Str} {n : Str} (h : l.Pairwise LtS) {k p : Nat} (hp : p < l.length) (hk : k ≤ p) (hl : Op.bytesLess (nth l p) n = true) : Op.bytesLess (nth l k) n = true := by
  rcases Nat.lt_or_ge k p with h1 | h1
  · exact less_trans (asc_nth h h1 hp) hl
  · have e : k = p := by omega
    rw [e]; exact hl
theorem above_not {l : List Str} {n : Str} (h : l.Pairwise LtS) {k p : Nat} (hk : k < l.length) (hp : p ≤ k) (hl : Op.bytesLess (nth l p) n = false) : Op.bytesLess (nth l k) n = false := by
  cases hq : Op.bytesLess (nth l k) n
  · rfl
  · rw [below_less h hk hp hq] at hl; cases hl

set_option maxHeartbeats 1000000 in
theorem search_any (a : Option Addr) (ca : Nat) (ss : List Str) (n : Str) (w : World) (hs : StrsAt w a ss) (hasc : ss.Pairwise LtS) :
    Calls Tryz.prog 72 #[.slice a ss.length ca, .string (S n)] w fun e w' =>
      e = .returned (.tuple #[.int .i64 ((leadS ss n : Nat) : Int), .bool (hasB ss n)]) ∧ w' = w := by
  have hn := hs.1
  have HA := hid hasc
  clear hasc
  go_enter Tryz.func72, Tryz.ntmps72
  go_wp2
  go_loop [7, 8] (fun ii jj => ∃ i j : Nat, i ≤ j ∧ j ≤ ss.length ∧ ii = .int .i64 i ∧ jj = .int .i64 j ∧ (∀ k, k < i → Op.bytesLess (nth ss k) n = true) ∧ ∀ k, j ≤ k → k < ss.length → Op.bytesLess (nth ss k) n = false) (fun ii jj => (intOf jj).toNat - (intOf ii).toNat)
  case atStart => exact ⟨0, ss.length, Nat.zero_le _, Nat.le_refl _, rfl, rfl, fun k hk => by omega, fun k h1 h2 => by omega⟩
  case round =>
    obtain ⟨i, j, hij, hj, rfl, rfl, h1, h2⟩ := hrel
    have H1 := hid h1
    have H2 := hid h2
    clear h1 h2
    by_cases hlt : i < j
    · obtain ⟨_, b, o, rfl, hc⟩ := hs.2 ((i + j) / 2) (by omega)
      cases hq : Op.bytesLess (nth ss ((i + j) / 2)) n
      · go_wp2_with (go_at_call 79; refine (cmpLess_v _ _ _ _ hq).mono ?_; rintro e w' ⟨rfl, rfl⟩)
        go_round
        case rel => exact ⟨i, (i + j) / 2, by omega, by omega, rfl, by go_num, H1.out, fun k h1 h2 => above_not HA.out h2 h1 hq⟩
        case measure => simp [intOf]; omega
      · go_wp2_with (go_at_call 79; refine (cmpLess_v _ _ _ _ hq).mono ?_; rintro e w' ⟨rfl, rfl⟩)
        go_round
        case rel => exact ⟨(i + j) / 2 + 1, j, by omega, by omega, by go_num, rfl, fun k _ => below_less HA.out (by omega) (by omega) hq, H2.out⟩
        case measure => simp [intOf]; omega
    · have e : j = i := by omega
      subst e
      have HL : Hid (leadS ss n = j) := leadS_of H1.out hj (fun h => H2.out j (Nat.le_refl _) h)
      have HF : Hid (hasB ss n = (decide (j < ss.length) && (nth ss j == n))) := by
        have := found_iff (n := n) HA.out
        rw [HL.out] at this; exact this
      by_cases hjl : j < ss.length
      · obtain ⟨_, b, o, rfl, hc⟩ := hs.2 j hjl
        cases hq : (nth ss j == n)
        · have HR : Hid (hasB ss n = false) := by show _ = _; rw [HF.out, hq]; simp
          go_wp2_with (go_at_call 80; refine (slicesIsNaN_any _ _).mono ?_; rintro e w' ⟨rfl, rfl⟩)
          refine bodyPost_ret (v := .tuple #[.int .i64 (j : Int), .bool false]) (by simp [results, Tryz.results72, go_sem]) rfl ?_
          rw [HR.out, HL.out]
          exact ⟨rfl, rfl⟩
        · have HR : Hid (hasB ss n = true) := by show _ = _; rw [HF.out, hq]; simp [hjl]
          go_wp2_with fail
          refine bodyPost_ret (v := .tuple #[.int .i64 (j : Int), .bool true]) (by simp [results, Tryz.results72, go_sem]) rfl ?_
          rw [HR.out, HL.out]
          exact ⟨rfl, rfl⟩
      · have HR : Hid (hasB ss n = false) := by show _ = _; rw [HF.out]; simp [hjl]
        go_wp2_with fail
        refine bodyPost_ret (v := .tuple #[.int .i64 (j : Int), .bool false]) (by simp [results, Tryz.results72, go_sem]) rfl ?_
        rw [HR.out, HL.out]
        exact ⟨rfl, rfl⟩

set_option maxHeartbeats 400000 in
theorem placeOf_any (b : Book) (n : Str) (a1 a2 : Option Addr) (c1 c2 : Nat) (w : World) (hb : BookAt w a1 a2 b) (hok : bookOk b = true) :
    Calls Tryz.prog 56 #[.agg #[.slice a1 b.things.length c1, .slice a2 b.batches.length c2], .string (S n)] w fun e w' =>
      e = .returned (.tuple #[.int .i64 ((leadS (namesOf b.batches) n : Nat) : Int), .bool (hereB b n)]) ∧ Ext w w' := by
  have HA := hid (ok_names hok)
  have hal : ∀ o, Ext w (w.alloc o) := fun o => (Below.refl _ _).alloc (Nat.le_refl _) _
  go_enter Tryz.func56, Tryz.ntmps56
  go_wp2_with fail
  refine (batchNames_any _ _ _ _ (hb.ext (hal _)).2).mono ?_
  rintro e w1 ⟨a', cap', rfl, hE1, hs1⟩
  have HE1 := hid (Ext.tr (hal _) hE1)
  have HS1 := hid hs1
  clear hE1 hs1
  go_wp2_with fail
  refine (search_any _ _ _ n _ HS1.out HA.out).mono ?_
  rintro e w2 ⟨rfl, rfl⟩
  go_wp2_with fail
  refine bodyPost_ret (v := .tuple #[.int .i64 ((leadS (namesOf b.batches) n : Nat) : Int), .bool (hereB b n)]) (by simp [results, Tryz.results56, go_sem, hereB]) rfl ⟨rfl, HE1.out⟩
end Go.Proofs.YtdafpnpfcmgfcabGreatDoor
