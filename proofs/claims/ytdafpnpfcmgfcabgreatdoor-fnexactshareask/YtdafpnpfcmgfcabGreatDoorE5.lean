/- slices.Grow at nil and slices.Concat of two lists. -/
import Derived.Test.YtdafpnpfcmgfcabGreatDoorE2
import Derived.Lib.AppendZerosOnto
namespace Go.Proofs.YtdafpnpfcmgfcabGreatDoor
open Go.RowKit
attribute [local go_sem] S_toList S_size S_get

theorem own_less {w : World} {base : Nat} {t : TypeId} {z : Nat} {a : Option Addr} {n c m : Nat} {xs : List Value} (h : w.ownsRow base t z (.slice a n c) n xs) (hm : m ≤ n) : w.ownsRow base t z (.slice a m c) m (xs.take (m * z)) := by
  have hle : m * z ≤ n * z := Nat.mul_le_mul_right _ hm
  refine ⟨by rw [List.length_take, h.1]; omega, ?_⟩
  rcases h.2 with ⟨e, h0⟩ | ⟨g, cap, cur, e, hb, hg, hc, hx, hs, ht⟩
  · simp only [Value.slice.injEq] at e
    obtain ⟨rfl, _, rfl⟩ := e
    have e0 : m = 0 := by omega
    subst e0
    exact Or.inl ⟨rfl, rfl⟩
  · simp only [Value.slice.injEq] at e
    obtain ⟨rfl, _, rfl⟩ := e
    refine Or.inr ⟨g, c, cur, rfl, hb, hg, by omega, hx, hs, ?_⟩
    rw [← ht, List.take_take, Nat.min_eq_left hle]

set_option maxRecDepth 100000 in
set_option maxHeartbeats 1000000 in
theorem grow_any (n : Nat) (w : World) (hn : n ≤ 17592186044416) : Calls Tryz.prog 76 #[.slice none 0 0, .int .i64 (n : Int)] w fun e w' => ∃ v, e = .returned v ∧ Ext w w' ∧ OwnL w' w.heap.size v [] := by
  by_cases h0 : 0 < n
  · obtain ⟨i0, hi, hz0, hz1, hz2⟩ := info_str
    have hr := Lib.run_append_nil_zeros (P := Tryz.prog) w 22 3 22 9 i0 (.string (S [])) .i64 .i64 Tryz.underlying22 Tryz.underlying3 hi hz0 n h0 (by omega) (by omega) (by rw [hz2]; omega)
    have hge := grownCap_ge w n 0 9
    have hmx := grownCap_le_maxLen w n 0 9 (by unfold maxLen; omega)
    have HO : Hid (OwnL (w.drew.alloc (.cells (Builtin.zeroCells (Value.string (S [])).cells n ++ Builtin.zeroCells (Value.string (S [])).cells (grownCap w n 0 9 - n)) 9)) w.heap.size (.slice (some ⟨w.heap.size, 0, none⟩) 0 (grownCap w n 0 9)) []) := by
      refine ⟨by simp, Or.inr ⟨w.heap.size, _, _, rfl, Nat.le_refl _, heap_alloc_new w.drew _, Nat.zero_le _, hmx, ?_, by simp⟩⟩
      rw [Array.size_append, size_zeroCells, size_zeroCells]
      have e : (Value.string (S [])).cells.size = 1 := rfl
      rw [e]; omega
    have HE : Hid (Ext w (w.drew.alloc (.cells (Builtin.zeroCells (Value.string (S [])).cells n ++ Builtin.zeroCells (Value.string (S [])).cells (grownCap w n 0 9 - n)) 9))) := Ext.tr (ext_drewN w 1) (ext_alloc _ _)
    have HR := hid hr
    clear hr
    generalize w.drew.alloc (.cells (Builtin.zeroCells (Value.string (S [])).cells n ++ Builtin.zeroCells (Value.string (S [])).cells (grownCap w n 0 9 - n)) 9) = w1 at *
    generalize grownCap w n 0 9 = cap at *
    go_enter Tryz.func76, Tryz.ntmps76
    go_wp2_with (at_builtin; refine Lib.wpList_append_run _ rfl _ _ _ _ rfl _ _ rfl rfl _ _ HR.out ?_)
    go_ret
    exact ⟨_, rfl, HE.out, HO.out⟩
  · have e : n = 0 := by omega
    subst e
    go_enter Tryz.func76, Tryz.ntmps76
    go_wp2
    go_ret
    exact ⟨_, rfl, Ext.rfl' _, World.ownsRow_nil _ _ _ _⟩

set_option maxRecDepth 100000 in
set_option maxHeartbeats 1000000 in
theorem concat_any (V cV : Nat) (A B : List Str) (a b : Option Addr) (ca cb : Nat) (w : World) (h0 : w.cell? ⟨V, 0, none⟩ = some (.slice a A.length ca)) (h1 : w.cell? ⟨V, 1, none⟩ = some (.slice b B.length cb)) (hA : StrsAt w a A) (hB : StrsAt w b B) (hl : A.length + B.length ≤ 8796093022208) :
    Calls Tryz.prog 60 #[.slice (some ⟨V, 0, none⟩) 2 cV] w fun e w' => ∃ v, e = .returned v ∧ Ext w w' ∧ OwnL w' w.heap.size v (A ++ B) := by
  go_enter Tryz.func60, Tryz.ntmps60
  go_wp2_with fail
  refine wp_loop_rounds 3 ?_
  rw [rounds_succ]
  go_wp2_with fail
  rw [rounds_succ]
  go_wp2_with fail
  rw [rounds_succ]
  go_wp2_with fail
  refine (grow_any (A.length + B.length) _ (by omega)).mono ?_
  rintro e w1 ⟨v, rfl, hE1, ho1⟩
  have g0 := hE1.keep h0
  have g1 := hE1.keep h1
  have HE1 := hid hE1
  have HO1 := hid ho1
  have HA1 := hid (hA.ext hE1)
  have hz1 := hE1.size
  clear hE1 ho1
  go_wp2_with fail
  refine wp_loop_rounds 3 ?_
  rw [rounds_succ]
  go_wp2_with (at_builtin; refine wpList_strs rfl _ _ rfl rfl HO1.out rfl HA1.out ?q1 ?q2 ?_)
  case q1 => simp; omega
  case q2 => omega
  intro v2 w2 ho2 hg2 _
  have HE2 : Hid (Ext w w2) := HE1.out.grown hg2 hz1 (fun g hg => (HO1.out.lt g hg).1)
  have ho2' : OwnL w2 w.heap.size v2 A := by simpa using ho2
  have HO2 := hid ho2'
  clear ho2'
  have k0 := HE2.out.keep h0
  have k1 := HE2.out.keep h1
  have HB2 := hid (hB.ext HE2.out)
  have hz2 := HE2.out.size
  clear ho2 hg2
  go_wp2_with fail
  rw [rounds_succ]
  go_wp2_with (at_builtin; refine wpList_strs rfl _ _ rfl rfl HO2.out rfl HB2.out ?q1 ?q2 ?_)
  case q1 => omega
  case q2 => omega
  intro v3 w3 ho3 hg3 _
  have HE3 : Hid (Ext w w3) := HE2.out.grown hg3 hz2 (fun g hg => (HO2.out.lt g hg).1)
  have HO3 := hid ho3
  clear ho3 hg3
  go_wp2_with fail
  rw [rounds_succ]
  go_wp2_with fail
  go_ret
  exact ⟨v3, rfl, HE3.out, HO3.out⟩
end Go.Proofs.YtdafpnpfcmgfcabGreatDoor
