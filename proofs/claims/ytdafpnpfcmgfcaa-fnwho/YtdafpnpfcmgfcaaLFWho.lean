/- The walk over the law FnWho. -/
import Derived.Test.YtdafpnpfcmgfcaaD11
import Derived.Test.YtdafpnpfcmgfcaaV8
namespace Go.Proofs.Ytdafpnpfcmgfcaa
open Go.RowKit
attribute [local go_sem] S_toList S_size S_get

set_option maxHeartbeats 400000 in
theorem wHas_any (a : Option Addr) (cap : Nat) (ss : List Str) (x : Str) (w : World) (hs : StrsAt w a ss) :
    Calls Try.prog 23 #[.slice a ss.length cap, .string (S x)] w fun e w' => e = .returned (.bool (hasB ss x)) ∧ w' = w := by
  have hn := hs.1
  go_enter Try.func23, Try.ntmps23
  go_wp2
  go_loop [5] (fun i => ∃ k : Nat, k ≤ ss.length ∧ i = .int .i64 k ∧ ∀ j, j < k → (nth ss j == x) = false) (fun i => ss.length - (intOf i).toNat)
  case atStart => exact ⟨0, Nat.zero_le _, rfl, fun j hj => by omega⟩
  case round =>
    obtain ⟨k, hk, rfl, hx⟩ := hrel
    have HX : Hid (∀ j, j < k → (nth ss j == x) = false) := hx
    clear hx
    by_cases hlt : k < ss.length
    · obtain ⟨_, b, o, rfl, hc⟩ := hs.2 k hlt
      cases hq : (nth ss k == x)
      · go_wp2
        go_round
        case rel => exact ⟨k + 1, by omega, by go_num, fun j hj => by
          by_cases e : j = k
          · rw [e]; exact hq
          · exact HX.out j (by omega)⟩
        case measure => simp [intOf]; omega
      · have HF : Hid (hasB ss x = true) := hasB_of hlt hq
        go_wp2
        go_ret
        exact ⟨ret_bool HF.out.symm, rfl⟩
    · have HF : Hid (hasB ss x = false) := hasB_no (fun j hj => HX.out j (by omega))
      go_wp2
      go_ret
      exact ⟨ret_bool HF.out.symm, rfl⟩

theorem wHas_v (a : Option Addr) (cap : Nat) (ss : List Str) (x : Str) (v : Bool) (w : World) (hs : StrsAt w a ss) (hv : hasB ss x = v) :
    Calls Try.prog 23 #[.slice a ss.length cap, .string (S x)] w fun e w' => e = .returned (.bool v) ∧ w' = w := by
  rw [← hv]; exact wHas_any a cap ss x w hs
/-- How many have it, so far. -/
def CntOk (b : Book) (t : Str) (k c : Nat) : Prop := (c = 0 ∧ ∀ j, j < k → hasB (nthB b.batches j).has t = false) ∨ (c = 1 ∧ ∃ j, j < k ∧ hasB (nthB b.batches j).has t = true)

theorem str_self (s : Str) : (s == s) = true := by simp

set_option maxRecDepth 100000 in
set_option maxHeartbeats 1000000 in
theorem fnWho_any (a : Option Addr) (n c : Nat) (w : World) (h : BytesAt w a n) (hn : n ≤ c) (hc : c ≤ 140737488355328) :
    Calls Try.prog 4 #[.slice a n c] w fun e w' => e = .returned (.bool true) ∧ Ext w w' := by
  go_enter Try.func4, Try.ntmps4
  by_cases hbig : 1048576 < n
  · have hb1 : (1048576 : Int) < (n : Int) := by omega
    go_wp2
    go_ret
    exact ⟨rfl, Ext.rfl' _⟩
  · have hb1 : ¬ ((1048576 : Int) < (n : Int)) := by omega
    go_wp2_with fail
    refine (drawWho_any a n c w h hn hc).mono ?_
    rintro e w1 ⟨b, x1, x2, y1, y2, s, rfl, hE1, hb2, hsm, hsl⟩
    have HE : Hid (Ext w (w1.alloc (.cells #[.slice x1 b.things.length y1, .slice x2 b.batches.length y2] 26))) := Ext.tr hE1 (ext_alloc _ _)
    have HRX : Hid (Rec (w1.alloc (.cells #[.slice x1 b.things.length y1, .slice x2 b.batches.length y2] 26)) w1.heap.size 26 [.slice x1 b.things.length y1, .slice x2 b.batches.length y2]) := Rec.new w1 _ _
    have HB := hid (hb2.ext (ext_alloc w1 (.cells #[.slice x1 b.things.length y1, .slice x2 b.batches.length y2] 26)))
    clear hE1 hb2
    have hx0 := HRX.out.cell (i := 0) rfl
    have hx1 := HRX.out.cell (i := 1) rfl
    go_wp2_with fail
    clear hx0 hx1
    generalize w1.alloc (.cells #[.slice x1 b.things.length y1, .slice x2 b.batches.length y2] 26) = w2 at HE HRX HB ⊢
    generalize w1.heap.size = X at HRX ⊢
    refine (implWho_any b s _ _ _ _ _ HB.out hsl).mono ?_
    rintro e w3 ⟨rfl, hE3⟩
    have HE3 := hid (Ext.tr HE.out hE3)
    have HRX3 := hid (HRX.out.ext hE3)
    have HB3 := hid (HB.out.ext hE3)
    clear HE HRX HB hE3
    have c0 := HRX3.out.cell (i := 0) rfl
    have c1 := HRX3.out.cell (i := 1) rfl
    go_wp2_with fail
    refine (specWho_any b s _ _ _ _ _ HB3.out).mono ?_
    rintro e w4 ⟨rfl, hE4⟩
    have HE4 := hid (Ext.tr HE3.out hE4)
    have HRX4 := hid (HRX3.out.ext hE4)
    have HB4 := hid (HB3.out.ext hE4)
    clear HE3 HRX3 HB3 hE4 c0 c1
    have c0 := HRX4.out.cell (i := 0) rfl
    have c1 := HRX4.out.cell (i := 1) rfl
    have hself := str_self (whoOf b s)
    go_wp2_with fail
    refine (specBookOk_any b _ _ _ _ _ HB4.out).mono ?_
    rintro e w5 ⟨rfl, hE5⟩
    have HE5 := hid (Ext.tr HE4.out hE5)
    have HRX5 := hid (HRX4.out.ext hE5)
    have HB5 := hid (HB4.out.ext hE5)
    clear HE4 HRX4 HB4 hE5 c0 c1
    have c0 := HRX5.out.cell (i := 0) rfl
    have c1 := HRX5.out.cell (i := 1) rfl
    cases hok : bookOk b
    · have hwe : whoOf b s = [] := by simp [whoOf, hok]
      go_wp2_with fail
      refine (specWho_any b s _ _ _ _ _ HB5.out).mono ?_
      rintro e w6 ⟨rfl, hE6⟩
      have HE6 := hid (Ext.tr HE5.out hE6)
      clear hE6
      go_wp2
      go_ret
      exact ⟨by first | rfl | simp [hwe], HE6.out⟩
    · have hwf : whoOf b s = whoFrom b.batches s := by simp [whoOf, hok]
      have HWF := hid hwf
      clear hwf
      have hbn := hsm.2.1
      go_wp2_with fail
      go_loopw [6, 7] (fun v i wr => ∃ (k c : Nat), k ≤ b.batches.length ∧ i = .int .i64 k ∧ v = .int .i64 (c : Int) ∧ wr = w5 ∧ CntOk b s k c) (fun _ i _ => b.batches.length - (intOf i).toNat)
      case atStart => exact ⟨0, 0, Nat.zero_le _, rfl, rfl, rfl, Or.inl ⟨rfl, fun j hj => by omega⟩⟩
      case round =>
        obtain ⟨k, cc, hk, rfl, rfl, rfl, hcnt⟩ := hrel
        have HCNT := hid hcnt
        clear hcnt
        have hc1 : cc ≤ 1 := by rcases HCNT.out with h | h <;> omega
        by_cases hlt : k < b.batches.length
        · obtain ⟨ba, oa, rfl, hl, d1, g1, d2, g2, z0, z1, z2, s1, s2⟩ := HB5.out.2.2 k hlt
          cases hh : hasB (nthB b.batches k).has s
          · go_wp2_with (go_at_call 23; refine (wHas_v _ _ _ _ _ _ s1 hh).mono ?_; rintro e w' ⟨rfl, rfl⟩)
            go_roundw
            case rel => exact ⟨k + 1, cc, by omega, by go_num, by first | rfl | trivial, by first | rfl | trivial, by
              rcases HCNT.out with ⟨h1, h2⟩ | ⟨h1, j, hj, h2⟩
              · exact Or.inl ⟨h1, fun j hj => by
                  by_cases e : j = k
                  · rw [e]; exact hh
                  · exact h2 j (by omega)⟩
              · exact Or.inr ⟨h1, j, by omega, h2⟩⟩
            case measure => simp [intOf]; omega
          · have hmem := hasB_true.1 hh
            have hwho : (whoOf b s == (nthB b.batches k).name) = true := by rw [HWF.out, who_unique hok hlt hmem]; simp
            have hnd : hasB (nthB b.batches k).needs s = true := by
              have h1 := (ok_batch hok hlt).2.2.2
              exact hasB_true.2 (namesOk_sub h1 s hmem)
            have hc0 : cc = 0 := by
              rcases HCNT.out with ⟨h1, _⟩ | ⟨_, j, hj, h2⟩
              · exact h1
              · exact (ok_apart hok hlt hj hmem (hasB_true.1 h2)).elim
            subst hc0
            go_wp2_with (first | (go_at_call_of 23 ((nthB b.batches k).has); refine (wHas_v _ _ _ _ _ _ s1 hh).mono ?_; rintro e w' ⟨rfl, rfl⟩) | (go_at_call 23; refine (wHas_v _ _ _ _ _ _ s2 hnd).mono ?_; rintro e w' ⟨rfl, rfl⟩))
            go_roundw
            case rel => exact ⟨k + 1, 1, by omega, by go_num, by first | rfl | trivial, by first | rfl | trivial, Or.inr ⟨rfl, k, by omega, hh⟩⟩
            case measure => simp [intOf]; omega
        · have hke : k = b.batches.length := by omega
          rcases HCNT.out with ⟨h1, h2⟩ | ⟨h1, _⟩
          · subst h1
            have hwe : whoOf b s = [] := by rw [HWF.out]; exact whoFrom_no (fun j hj => h2 j (by omega))
            go_wp2
            go_ret
            exact ⟨by first | rfl | simp [hwe], HE5.out⟩
          · subst h1
            go_wp2
            go_ret
            exact ⟨by first | rfl | simp, HE5.out⟩
end Go.Proofs.Ytdafpnpfcmgfcaa
