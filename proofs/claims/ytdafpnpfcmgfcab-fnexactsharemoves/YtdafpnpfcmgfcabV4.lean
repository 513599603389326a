/- Walks over the program's batchOk and holders. -/
import Derived.Test.YtdafpnpfcmgfcabJG
import Derived.Test.YtdafpnpfcmgfcabJF
namespace Go.Proofs.Ytdafpnpfcmgfcab
open Go.RowKit
attribute [local go_sem] S_toList S_size S_get

theorem namesOk_eq (l all : List Str) : namesOk l all = (partB l all && ascB l) := by
  unfold namesOk partB ascB
  rw [Bool.eq_iff_iff]
  simp only [Bool.and_eq_true, allLt_true]
  exact ⟨fun k => ⟨fun i hi => (k i hi).1, fun i hi => (k i hi).2⟩, fun ⟨h, m⟩ i hi => ⟨h i hi, m i hi⟩⟩

theorem ext_alloc' (w : World) (o : Obj) : Ext w (w.alloc o) := (Below.refl _ _).alloc (Nat.le_refl _) _

theorem isPartOf_v (a b : Option Addr) (ca cb : Nat) (sa sb : List Str) (v : Bool) (w : World) (ha : StrsAt w a sa) (hb : StrsAt w b sb) (hv : partB sa sb = v) :
    Calls Qry.prog 51 #[.slice a sa.length ca, .slice b sb.length cb] w fun e w' => e = .returned (.bool v) ∧ w' = w := by
  rw [← hv]; exact isPartOf_any a b ca cb sa sb w ha hb
theorem ascending_v (a : Option Addr) (ca : Nat) (sa : List Str) (v : Bool) (w : World) (ha : StrsAt w a sa) (hv : ascB sa = v) :
    Calls Qry.prog 42 #[.slice a sa.length ca] w fun e w' => e = .returned (.bool v) ∧ ∃ n, w' = w.drewN n := by
  rw [← hv]; exact ascending_any a ca sa w ha

set_option maxHeartbeats 400000 in
theorem implBatchOk_any (x : Batch) (a1 a2 a3 : Option Addr) (c1 c2 c3 : Nat) (things : List Str) (w : World) (h1 : StrsAt w a1 x.has) (h2 : StrsAt w a2 x.needs) (h3 : StrsAt w a3 things) :
    Calls Qry.prog 43 #[.agg #[.string (S x.name), .slice a1 x.has.length c1, .slice a2 x.needs.length c2], .slice a3 things.length c3] w fun e w' =>
      e = .returned (.bool (namesOk x.needs things && namesOk x.has x.needs)) ∧ Ext w w' := by
  have hal : ∀ o n, Ext w ((w.alloc o).drewN n) := fun o n => Ext.tr ((Below.refl _ _).alloc (Nat.le_refl _) _) (ext_drewN _ _)
  have HV : Hid ((namesOk x.needs things && namesOk x.has x.needs) = (partB x.needs things && ascB x.needs && partB x.has x.needs && ascB x.has)) := by
    show _ = _
    rw [namesOk_eq, namesOk_eq, Bool.and_assoc, Bool.and_assoc, Bool.and_assoc]
  cases g1 : partB x.needs things
  · have HF := hid g1
    go_enter Qry.func43, Try.ntmps43
    go_wp2
    go_quiet (fail)
    go_wp2_with fail
    refine (isPartOf_v _ _ _ _ _ _ _ _ (h2.ext (hal _ _)) (h3.ext (hal _ _)) g1).mono ?_
    rintro e w1 ⟨rfl, rfl⟩
    go_wp2_with fail
    go_ret
    exact ⟨ret_bool (by rw [HV.out, HF.out]; rfl), hal _ _⟩
  · cases g2 : ascB x.needs
    · have HF := hid (And.intro g1 g2)
      go_enter Qry.func43, Try.ntmps43
      go_wp2
      go_quiet (fail)
      go_wp2_with fail
      refine (isPartOf_v _ _ _ _ _ _ _ _ (h2.ext (hal _ _)) (h3.ext (hal _ _)) g1).mono ?_
      rintro e w1 ⟨rfl, rfl⟩
      go_wp2_with fail
      refine (ascending_v _ _ _ _ _ (h2.ext (hal _ _)) g2).mono ?_
      rintro e w1 ⟨rfl, n1, rfl⟩
      go_wp2_with fail
      go_ret
      exact ⟨ret_bool (by rw [HV.out, HF.out.1, HF.out.2]; rfl), Ext.tr (ext_alloc' _ _) (ext_drewN _ _)⟩
    · cases g3 : partB x.has x.needs
      · have HF := hid (And.intro g1 (And.intro g2 g3))
        go_enter Qry.func43, Try.ntmps43
        go_wp2
        go_quiet (fail)
        go_wp2_with fail
        refine (isPartOf_v _ _ _ _ _ _ _ _ (h2.ext (hal _ _)) (h3.ext (hal _ _)) g1).mono ?_
        rintro e w1 ⟨rfl, rfl⟩
        go_wp2_with fail
        refine (ascending_v _ _ _ _ _ (h2.ext (hal _ _)) g2).mono ?_
        rintro e w1 ⟨rfl, n1, rfl⟩
        go_wp2_with fail
        refine (isPartOf_v _ _ _ _ _ _ _ _ (h1.ext (hal _ _)) (h2.ext (hal _ _)) g3).mono ?_
        rintro e w1 ⟨rfl, rfl⟩
        go_wp2_with fail
        go_ret
        exact ⟨ret_bool (by rw [HV.out, HF.out.1, HF.out.2.1, HF.out.2.2]; rfl), Ext.tr (ext_alloc' _ _) (ext_drewN _ _)⟩
      · have HF := hid (And.intro g1 (And.intro g2 g3))
        go_enter Qry.func43, Try.ntmps43
        go_wp2
        go_quiet (fail)
        go_wp2_with fail
        refine (isPartOf_v _ _ _ _ _ _ _ _ (h2.ext (hal _ _)) (h3.ext (hal _ _)) g1).mono ?_
        rintro e w1 ⟨rfl, rfl⟩
        go_wp2_with fail
        refine (ascending_v _ _ _ _ _ (h2.ext (hal _ _)) g2).mono ?_
        rintro e w1 ⟨rfl, n1, rfl⟩
        go_wp2_with fail
        refine (isPartOf_v _ _ _ _ _ _ _ _ (h1.ext (hal _ _)) (h2.ext (hal _ _)) g3).mono ?_
        rintro e w1 ⟨rfl, rfl⟩
        go_wp2_with fail
        refine (ascending_any _ _ _ _ (h1.ext (hal _ _))).mono ?_
        rintro e w1 ⟨rfl, n2, rfl⟩
        go_wp2_with fail
        go_ret
        exact ⟨ret_bool (by rw [HV.out, HF.out.1, HF.out.2.1, HF.out.2.2]; rfl), Ext.tr (ext_alloc' _ _) (ext_drewN _ _)⟩

end Go.Proofs.Ytdafpnpfcmgfcab
