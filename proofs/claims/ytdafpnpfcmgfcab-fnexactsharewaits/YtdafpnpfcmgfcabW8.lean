/- Walks over equality of batches and books, where both are the same. -/
import Derived.Test.YtdafpnpfcmgfcabJK
import Derived.Deep.RegionWith
import Derived.Deep.DeepCutAuto
namespace Go.Proofs.Ytdafpnpfcmgfcab
open Go.RowKit
attribute [local go_sem] S_toList S_size S_get

theorem eqS_self (l : List Str) : eqS l l = true := by simp [eqS]

set_option maxHeartbeats 400000 in
theorem eqShareBatch_same (x : Batch) (a1 a2 d1 d2 : Option Addr) (c1 c2 g1 g2 : Nat) (w : World)
    (h1 : StrsAt w a1 x.has) (h2 : StrsAt w a2 x.needs) (k1 : StrsAt w d1 x.has) (k2 : StrsAt w d2 x.needs) :
    Calls Qry.prog 47 #[.agg #[.string (S x.name), .slice a1 x.has.length c1, .slice a2 x.needs.length c2], .agg #[.string (S x.name), .slice d1 x.has.length g1, .slice d2 x.needs.length g2]] w fun e w' =>
      e = .returned (.bool true) ∧ Ext w w' := by
  have e2 : ∀ o1 o2, Ext w ((w.alloc o1).alloc o2) := fun o1 o2 => ((Below.refl _ _).alloc (Nat.le_refl _) _).alloc (by simp) _
  have es := eqS_self x.has
  have en := eqS_self x.needs
  have hb : (x.name == x.name) = true := by simp
  go_enter Qry.func47, Try.ntmps47
  go_wp2_with fail
  refine (eqStringS_any _ _ _ _ _ _ _ (h1.ext (e2 _ _)) (k1.ext (e2 _ _))).mono ?_
  rintro e w1 ⟨rfl, n1, rfl⟩
  go_wp2_with fail
  refine (eqStringS_any _ _ _ _ _ _ _ ((h2.ext (e2 _ _)).drewN _) ((k2.ext (e2 _ _)).drewN _)).mono ?_
  rintro e w1 ⟨rfl, n2, rfl⟩
  go_wp2_with fail
  go_ret
  exact ⟨rfl, Ext.tr (e2 _ _) (ext_drewN _ _)⟩

set_option maxHeartbeats 400000 in
theorem eqShareBatchS_same (a d : Option Addr) (ca cd : Nat) (bs : List Batch) (w : World) (ha : BatchesAt w a bs) (hd : BatchesAt w d bs) :
    Calls Qry.prog 26 #[.slice a bs.length ca, .slice d bs.length cd] w fun e w' => e = .returned (.bool true) ∧ Ext w w' := by
  have hn := ha.1
  have hl' : ((bs.length : Int) == (bs.length : Int)) = true := by simp
  go_enter Qry.func26, Try.ntmps26
  go_wp2
  go_loopw [5] (fun i wr => ∃ k : Nat, k ≤ bs.length ∧ i = .int .i64 k ∧ Ext w wr) (fun i _ => bs.length - (intOf i).toNat)
  case atStart => exact ⟨0, Nat.zero_le _, rfl, Ext.rfl' _⟩
  case round =>
    obtain ⟨k, hk, rfl, hext⟩ := hrel
    have ha' := ha.ext hext
    have hd' := hd.ext hext
    have HE : Hid (Ext w wr) := hext
    clear hext
    by_cases hlt : k < bs.length
    · obtain ⟨ba, oa, rfl, hl, a1, c1, a2, c2, p0, p1, p2, s1, s2⟩ := ha'.2 k hlt
      obtain ⟨bd, od, rfl, _, d1, g1, d2, g2, q0, q1, q2, t1, t2⟩ := hd'.2 k hlt
      go_wp2
      go_region_with (go_at_call 47; refine (eqShareBatch_same (nthB bs k) _ _ _ _ _ _ _ _ _ (s1.draws ⟨1, rfl⟩) (s2.draws ⟨1, rfl⟩) (t1.draws ⟨1, rfl⟩) (t2.draws ⟨1, rfl⟩)).mono ?_; rintro e w1 ⟨rfl, hext⟩)
      all_goals
        have HE1 : Hid (Ext w w1) := Ext.tr HE.out (Ext.tr (ext_drewN wr 1) hext)
        clear hext
        go_wp2
        go_roundw
        case rel => exact ⟨k + 1, by omega, by go_num, HE1.out⟩
        case measure => simp [intOf]; omega
    · go_wp2
      go_ret
      exact ⟨rfl, HE.out⟩

set_option maxHeartbeats 400000 in
theorem eqShareBook_same (b : Book) (a1 a2 d1 d2 : Option Addr) (c1 c2 g1 g2 : Nat) (w : World) (ha : BookAt w a1 a2 b) (hd : BookAt w d1 d2 b) :
    Calls Qry.prog 10 #[.agg #[.slice a1 b.things.length c1, .slice a2 b.batches.length c2], .agg #[.slice d1 b.things.length g1, .slice d2 b.batches.length g2]] w fun e w' =>
      e = .returned (.bool true) ∧ Ext w w' := by
  have e2 : ∀ o1 o2, Ext w ((w.alloc o1).alloc o2) := fun o1 o2 => ((Below.refl _ _).alloc (Nat.le_refl _) _).alloc (by simp) _
  have es := eqS_self b.things
  go_enter Qry.func10, Try.ntmps10
  go_wp2_with fail
  refine (eqStringS_any _ _ _ _ _ _ _ (ha.1.ext (e2 _ _)) (hd.1.ext (e2 _ _))).mono ?_
  rintro e w1 ⟨rfl, n1, rfl⟩
  go_wp2_with fail
  refine (eqShareBatchS_same _ _ _ _ _ _ (ha.2.ext (Ext.tr (e2 _ _) (ext_drewN _ _))) (hd.2.ext (Ext.tr (e2 _ _) (ext_drewN _ _)))).mono ?_
  rintro e w1 ⟨rfl, hext⟩
  have HE : Hid (Ext w w1) := Ext.tr (Ext.tr (e2 _ _) (ext_drewN _ _)) hext
  clear hext
  go_wp2_with fail
  go_ret
  exact ⟨rfl, HE.out⟩
end Go.Proofs.Ytdafpnpfcmgfcab
