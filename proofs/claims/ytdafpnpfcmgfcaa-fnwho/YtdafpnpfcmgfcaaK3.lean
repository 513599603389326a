/- Walks over the laws' marks of lists. -/
import Derived.Test.YtdafpnpfcmgfcaaK2
import Derived.Test.YtdafpnpfcmgfcaaV3
import Derived.Test.YtdafpnpfcmgfcaaGrow
namespace Go.Proofs.Ytdafpnpfcmgfcaa
open Go.RowKit
attribute [local go_sem] S_toList S_size S_get

theorem gb_tr {a b c : World} {row : Option Nat} (h : a.grownBy b row) (k : b.grownBy c row) : a.grownBy c row :=
  ⟨k.os.trans h.os, k.tape.trans h.tape, k.output.trans h.output, Nat.le_trans h.size k.size, fun i hi hr => (k.block i (by have := h.size; omega) hr).trans (h.block i hi hr)⟩
theorem gb_ext {w w' : World} (e : Ext w w') (row : Option Nat) : w.grownBy w' row := ⟨e.os, e.tape, e.output, e.size, fun k hk _ => e.block k hk⟩
theorem gb_set (w : World) (B i : Nat) (v : Value) : w.grownBy (w.setCell ⟨B, i, none⟩ v) (some B) :=
  ⟨rfl, rfl, rfl, by simp [World.setCell], fun k _ hk => Below.heap_setCell _ _ _ k (fun e => hk (by rw [e]))⟩
theorem gb_rfl (w : World) (row : Option Nat) : w.grownBy w row := gb_ext (Ext.rfl' w) row

def marked (f : Nat → Value) (k m : Nat) : Nat → Value := fun j => if j < m then .string (S (markT (k + j))) else f j

set_option maxHeartbeats 400000 in
theorem markStringS_row (B n : Nat) (f : Nat → Value) (len cap k : Nat) (w : World) (h : w.rowIs B 9 n f) (hl : len ≤ n) (hk : 1 ≤ k) (hb : k + len ≤ 1000000000) :
    Calls Try.prog 31 #[.slice (some ⟨B, 0, none⟩) len cap, .int .i64 (k : Int)] w fun e w' =>
      e = .returned (.int .i64 ((k + len : Nat) : Int)) ∧ w.grownBy w' (some B) ∧ w'.rowIs B 9 n (marked f k len) := by
  go_enter Try.func31, Try.ntmps31
  go_wp2_with fail
  go_loopw [1, 5] (fun ki i wr => ∃ m : Nat, m ≤ len ∧ i = .int .i64 m ∧ ki = .int .i64 ((k + m : Nat) : Int) ∧ w.grownBy wr (some B) ∧ wr.rowIs B 9 n (marked f k m)) (fun _ i _ => len - (intOf i).toNat)
  case atStart => exact ⟨0, Nat.zero_le _, rfl, rfl, gb_rfl _ _, h.congr (fun j _ => by simp [marked])⟩
  case round =>
    obtain ⟨m, hm, rfl, rfl, hgb, hrow⟩ := hrel
    have HG := hid hgb
    have HR := hid hrow
    clear hgb hrow
    by_cases hlt : m < len
    · go_wp2_with fail
      refine (markText_any (k + m) _ (by omega) (by omega)).mono ?_
      rintro e w1 ⟨rfl, hext⟩
      have hr1 : w1.rowIs B 9 n (marked f k m) := HR.out.of_block (hext.block B HR.out.lt)
      have hc := hr1.cell (i := m) (by omega)
      have hf := hr1.frozen m
      have HR1 := hid hr1
      have HG1 := hid (gb_tr HG.out (gb_ext hext _))
      clear hr1 hext
      go_wp2_with fail
      go_roundw
      case rel => exact ⟨m + 1, by omega, by go_num, by go_num, gb_tr HG1.out (gb_set _ _ _ _), (HR1.out.set m _).congr (fun j hj => by
        by_cases e : j = m
        · simp [e, marked]
        · have : (j < m + 1) = (j < m) := by simp; omega
          simp [e, marked, this])⟩
      case measure => simp [intOf]; omega
    · have e : m = len := by omega
      subst e
      go_wp2_with fail
      go_ret
      exact ⟨rfl, HG.out, HR.out⟩

set_option maxHeartbeats 400000 in
theorem markStringS_nil (a : Option Addr) (cap k : Nat) (w : World) :
    Calls Try.prog 31 #[.slice a 0 cap, .int .i64 (k : Int)] w fun e w' => e = .returned (.int .i64 (k : Int)) ∧ w' = w := by
  go_enter Try.func31, Try.ntmps31
  go_wp2_with fail
  go_loop [1, 5] (fun ki i => ki = .int .i64 (k : Int) ∧ i = .int .i64 0) (fun _ _ => 0)
  case atStart => exact ⟨rfl, rfl⟩
  case round =>
    obtain ⟨rfl, rfl⟩ := hrel
    go_wp2_with fail
    go_ret
    exact ⟨rfl, rfl⟩

set_option maxHeartbeats 400000 in
theorem heldStringS_any (a : Option Addr) (cap k : Nat) (ss : List Str) (w : World) (h : StrsAt w a ss) (hm : ∀ i, i < ss.length → nth ss i = markT (k + i)) (hk : 1 ≤ k) (hb : k + ss.length ≤ 1000000000) :
    Calls Try.prog 32 #[.slice a ss.length cap, .int .i64 (k : Int)] w fun e w' =>
      e = .returned (.int .i64 ((k + ss.length : Nat) : Int)) ∧ Ext w w' := by
  have hn := h.1
  have HM := hid hm
  clear hm
  go_enter Try.func32, Try.ntmps32
  go_wp2_with fail
  go_loopw [1, 5] (fun ki i wr => ∃ m : Nat, m ≤ ss.length ∧ i = .int .i64 m ∧ ki = .int .i64 ((k + m : Nat) : Int) ∧ Ext w wr) (fun _ i _ => ss.length - (intOf i).toNat)
  case atStart => exact ⟨0, Nat.zero_le _, rfl, rfl, Ext.rfl' _⟩
  case round =>
    obtain ⟨m, hm, rfl, rfl, hext⟩ := hrel
    have h' := h.ext hext
    have HE := hid hext
    clear hext
    by_cases hlt : m < ss.length
    · obtain ⟨hl, bo, oo, rfl, hc⟩ := h'.2 m hlt
      rw [HM.out m hlt] at hc
      have HMT : Hid (∀ w, Calls Try.prog 61 #[.int .i64 ((k + m : Nat) : Int)] w fun e w' => e = .returned (.string (S (markT (k + m)))) ∧ Ext w w') := fun w => markText_any (k + m) w (by omega) (by omega)
      have hne : Nonempty (Grow wr) := ⟨⟨wr, Ext.rfl' wr⟩⟩
      have gc := fun x : Grow wr => x.cell hc
      generalize markT (k + m) = t at hc gc HMT
      have hq : (t == t) = true := by simp
      go_wp2_with fail
      refine wp_region_grow (by kernel_rfl) (by kernel_rfl) ?_
      repeat (go_big_quiet_step ((go_at_call 61; exact grow_of (HMT.out _))))
      refine wpQuiet_nil ?_
      intro _ hw'
      obtain ⟨x3, hw''⟩ := hw'
      subst hw''
      go_wp2_with fail
      go_roundw
      case rel => exact ⟨m + 1, by omega, by go_num, by go_num, Ext.tr HE.out x3.e⟩
      case measure => simp [intOf]; omega
    · have e : m = ss.length := by omega
      rw [e]
      go_wp2_with fail
      go_ret
      exact ⟨rfl, HE.out⟩
end Go.Proofs.Ytdafpnpfcmgfcaa
