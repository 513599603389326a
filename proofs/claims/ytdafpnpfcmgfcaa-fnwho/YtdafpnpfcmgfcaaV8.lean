/- Who has a thing: the specification's ShareWho. -/
import Derived.Test.YtdafpnpfcmgfcaaV7
namespace Go.Proofs.Ytdafpnpfcmgfcaa
open Go.RowKit Go.Maps
attribute [local go_sem] S_toList S_size S_get

set_option maxHeartbeats 1000000 in
theorem specWho_any (b : Book) (t : Str) (a1 a2 : Option Addr) (c1 c2 : Nat) (w : World) (hb : BookAt w a1 a2 b) :
    Calls Try.prog 22 #[.agg #[.slice a1 b.things.length c1, .slice a2 b.batches.length c2], .string (S t)] w fun e w' =>
      e = .returned (.string (S (whoOf b t))) ∧ Ext w w' := by
  have hal : ∀ o, Ext w (w.alloc o) := fun o => (Below.refl _ _).alloc (Nat.le_refl _) _
  have hn := hb.2.1
  go_enter Try.func22, Try.ntmps22
  go_wp2_with fail
  go_loopw [5] (fun i wr => ∃ k : Nat, k ≤ b.batches.length ∧ i = .int .i64 k ∧ Ext (w.alloc (.cells #[.slice a1 b.things.length c1, .slice a2 b.batches.length c2] 26)) wr ∧ ∀ j, j < k → hasB (nthB b.batches j).has t = false) (fun i _ => b.batches.length - (intOf i).toNat)
  case atStart => exact ⟨0, Nat.zero_le _, rfl, Ext.rfl' _, fun j hj => by omega⟩
  case round =>
    obtain ⟨k, hk, rfl, hext, hx⟩ := hrel
    have hx0 := box_cell hext (i := 0) rfl
    have hx1 := box_cell hext (i := 1) rfl
    have hb' := hb.ext (Ext.tr (hal _) hext)
    have HX := hid hx
    have HE := hid hext
    clear hx hext
    by_cases hlt : k < b.batches.length
    · cases hok : bookOk b
      · have HF : Hid ([] = whoOf b t) := by show _ = _; simp [whoOf, hok]
        go_wp2_with fail
        refine (specBookOk_any b _ _ _ _ _ hb').mono ?_
        rintro e w1 ⟨rfl, hext1⟩
        have HE1 := hid (Ext.tr HE.out hext1)
        clear hext1
        go_wp2_with fail
        go_ret
        exact ⟨ret_str HF.out, Ext.tr (hal _) HE1.out⟩
      · go_wp2_with fail
        refine (specBookOk_any b _ _ _ _ _ hb').mono ?_
        rintro e w1 ⟨rfl, hext1⟩
        have HE1 := hid (Ext.tr HE.out hext1)
        have hb1 := hb'.ext hext1
        clear hext1 hx0 hx1 hb'
        have hx0 := box_cell HE1.out (i := 0) rfl
        have hx1 := box_cell HE1.out (i := 1) rfl
        obtain ⟨ba, oa, rfl, hl, d1, g1, d2, g2, p0, p1, p2, s1, s2⟩ := hb1.2.2 k hlt
        cases hq : hasB (nthB b.batches k).has t
        · have HQ := hid hq
          go_wp2_with (go_at_call 54; refine (l1Has_any _ _ _ _ _ s1).mono ?_; rintro e w' ⟨rfl, rfl⟩)
          go_roundw
          case rel => exact ⟨k + 1, by omega, by go_num, HE1.out, fun j hj => by
            by_cases e : j = k
            · rw [e]; exact HQ.out
            · exact HX.out j (by omega)⟩
          case measure => simp [intOf]; omega
        · have HF : Hid ((nthB b.batches k).name = whoOf b t) := by
            show _ = _
            simp only [whoOf, hok, if_true]
            exact (whoFrom_at hlt hq HX.out).symm
          go_wp2_with (go_at_call 54; refine (l1Has_any _ _ _ _ _ s1).mono ?_; rintro e w' ⟨rfl, rfl⟩)
          go_ret
          exact ⟨ret_str HF.out, Ext.tr (hal _) HE1.out⟩
    · have HF : Hid ([] = whoOf b t) := by
        show _ = _
        unfold whoOf; split
        · exact (whoFrom_no (fun j hj => HX.out j (by omega))).symm
        · rfl
      go_wp2_with fail
      go_ret
      exact ⟨ret_str HF.out, Ext.tr (hal _) HE.out⟩
end Go.Proofs.Ytdafpnpfcmgfcaa
