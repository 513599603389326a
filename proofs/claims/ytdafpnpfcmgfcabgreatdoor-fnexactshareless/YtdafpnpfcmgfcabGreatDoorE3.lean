/- Who else has one of some things, the program's way. -/
import Derived.Test.YtdafpnpfcmgfcabGreatDoorE2
import Derived.Test.YtdafpnpfcmgfcabGreatDoorV7
namespace Go.Proofs.YtdafpnpfcmgfcabGreatDoor
open Go.RowKit Go.Maps
attribute [local go_sem] S_toList S_size S_get

theorem in_pairs {bs : List Batch} {t : Str} {p : Nat} (hmem : t ∈ (nthB bs p).has) : ∀ {n : Nat}, p < n → (t, p) ∈ pairsTo bs n := by
  intro n
  induction n with
  | zero => intro h; omega
  | succ n ih =>
    intro h
    rw [pairsTo, List.mem_append]
    by_cases e : p = n
    · subst e
      exact Or.inr (List.mem_map.2 ⟨t, hmem, rfl⟩)
    · exact Or.inl (ih (by omega))
theorem ret_b {a b : Bool} (h : a = b) : Ending.returned (.bool a) = .returned (.bool b) := by rw [h]

set_option maxRecDepth 100000 in
set_option maxHeartbeats 1000000 in
theorem hadBy_v (b : Book) (k : Nat) (things : List Str) (v : Bool) (a1 a2 a3 : Option Addr) (c1 c2 c3 : Nat) (w : World) (hb : BookAt w a1 a2 b) (ht : StrsAt w a3 things) (hok : bookOk b = true) (hk : k < b.batches.length) (hv : takenB b k things = v) :
    Calls Tryz.prog 106 #[.agg #[.slice a1 b.things.length c1, .slice a2 b.batches.length c2], .int .i64 (k : Int), .slice a3 things.length c3] w fun e w' => e = .returned (.bool v) ∧ Ext w w' := by
  have hal : ∀ o, Ext w (w.alloc o) := fun o => (Below.refl _ _).alloc (Nat.le_refl _) _
  have HV : Hid (otherB b k things = v) := by show _ = _; rw [other_taken]; exact hv
  have h5 := ok_five hok
  have htn := ht.1
  clear hv
  go_enter Tryz.func106, Tryz.ntmps106
  go_wp2_with fail
  refine (holders_any _ _ _ _ (hb.ext (hal _)).2 h5).mono ?_
  rintro e w2 ⟨hext2, (⟨rfl, ho⟩ | ⟨B, rfl, _, m, D, hom, _, hmap⟩)⟩
  · rw [ok_once hok] at ho; cases ho
  · have HE2 : Hid (Ext w w2) := Ext.tr (hal _) hext2
    have ht2 := ht.ext HE2.out
    have HM := hid hmap
    clear hext2 hmap
    go_wp2_with fail
    go_loop [21] (fun i => ∃ j : Nat, j ≤ things.length ∧ i = .int .i64 j ∧ ∀ q, q < j → hadAt b k (nth things q) = false) (fun i => things.length - (intOf i).toNat)
    case atStart => exact ⟨0, Nat.zero_le _, rfl, fun q hq => by omega⟩
    case round =>
      obtain ⟨j, hj, rfl, hx⟩ := hrel
      have HX := hid hx
      clear hx
      by_cases hlt : j < things.length
      · obtain ⟨hl, bo, oo, rfl, hc⟩ := ht2.2 j hlt
        have hkey := keyStr hl
        cases hq : hasB (keys (pairsTo b.batches b.batches.length)) (nth things j)
        · have hhas : Maps.has D (.string (nth things j)) = false := by rw [HM.out.2.1, hq]
          have HN : Hid (hadAt b k (nth things j) = false) := had_none (fun i hi hm => by
            rw [← Bool.not_eq_true, hasB_true] at hq
            exact hq (mem_keys.2 ⟨i, hi, hm⟩))
          clear hq
          go_wp2_with (at_lookup; refine wpList_lookup_own_ok_int _ rfl _ _ 127 rfl 9 3 .i64 lawStr Tryz.underlying127 Tryz.underlying3 (zeroInt _) B m D rfl hom _ _ rfl hkey ?_; intro c hat hwc; rw [hhas])
          go_round
          case rel => exact ⟨j + 1, by omega, by go_num, fun q hq => by
            by_cases e : q = j
            · rw [e]; exact HN.out
            · exact HX.out q (by omega)⟩
          case measure => simp [intOf]; omega
        · have hhas : Maps.has D (.string (nth things j)) = true := by rw [HM.out.2.1, hq]
          obtain ⟨p, hp, hmem⟩ := mem_keys.1 (hasB_true.1 hq)
          have HAT := hid (HM.out.2.2 (nth things j) p (.lit (.int .i64 0)) (in_pairs hmem hp))
          clear hq
          by_cases hpk : p = k
          · have HN : Hid (hadAt b k (nth things j) = false) := had_own hok hk (by rw [← hpk]; exact hmem)
            rw [hpk] at HAT
            clear hmem
            go_wp2_with (at_lookup; refine wpList_lookup_own_ok_int _ rfl _ _ 127 rfl 9 3 .i64 lawStr Tryz.underlying127 Tryz.underlying3 (zeroInt _) B m D rfl hom _ _ rfl hkey ?_; intro c hat hwc; rw [hhas, lit_inj HAT.out hat])
            go_round
            case rel => exact ⟨j + 1, by omega, by go_num, fun q hq => by
              by_cases e : q = j
              · rw [e]; exact HN.out
              · exact HX.out q (by omega)⟩
            case measure => simp [intOf]; omega
          · have HN : Hid (v = true) := by
              show _ = _
              rw [← HV.out]
              exact anyLt_of hlt (had_other hp hpk hmem)
            clear hmem
            go_wp2_with (at_lookup; refine wpList_lookup_own_ok_int _ rfl _ _ 127 rfl 9 3 .i64 lawStr Tryz.underlying127 Tryz.underlying3 (zeroInt _) B m D rfl hom _ _ rfl hkey ?_; intro c hat hwc; rw [hhas, lit_inj HAT.out hat])
            go_ret
            exact ⟨ret_b HN.out.symm, HE2.out⟩
      · have HN : Hid (v = false) := by
          show _ = _
          rw [← HV.out]
          exact anyLt_no (fun q hq => HX.out q (by omega))
        go_wp2_with fail
        go_ret
        exact ⟨ret_b HN.out.symm, HE2.out⟩
end Go.Proofs.YtdafpnpfcmgfcabGreatDoor
