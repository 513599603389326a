/- ShareEnter, whole. -/
import Derived.Test.YtdafpnpfcmgfcaaGreatDoorE17
import Derived.Test.YtdafpnpfcmgfcaaGreatDoorEC
namespace Go.Proofs.YtdafpnpfcmgfcaaGreatDoor
open Go.RowKit
attribute [local go_sem] S_toList S_size S_get

set_option maxRecDepth 100000 in
set_option maxHeartbeats 1000000 in
theorem implEnter_any (b : Book) (n : Str) (needs : List Str) (a1 a2 a3 : Option Addr) (c1 c2 c3 : Nat) (w : World) (hb : BookAt w a1 a2 b) (hn : StrsAt w a3 needs) (hnl : n.length ≤ 140737488355328)
    (hg : w.cell? ⟨0, 0, none⟩ = some (.iface 176 (.agg #[.pointer (some ⟨1, 110, none⟩)]))) :
    Calls Tryz.prog 8 #[.agg #[.slice a1 b.things.length c1, .slice a2 b.batches.length c2], .string (S n), .slice a3 needs.length c3] w fun e w' => OutA w (enterB b n needs).1 (enterB b n needs).2 e w' := by
  have hA : ∀ w', Ext w w' → Calls Tryz.prog 43 #[.agg #[.slice a1 b.things.length c1, .slice a2 b.batches.length c2], .iface 68 (.agg #[.string (S n), .slice a3 needs.length c3])] w' fun e w2 => OutA w' (enterB b n needs).1 (enterB b n needs).2 e w2 := fun w' hE =>
    answered_any _ b _ _ n _ a1 a2 c1 c2 w' (hb.ext hE) (enter_book b n needs) (hE.keep hg)
      (fun w2 hE2 => refusalOfE _ b n _ _ a1 a2 c1 c2 w2 (hb.ext (Ext.tr hE hE2)) (enter_code b n needs) (fun w => mWhoE _ _ w) (fun w => mRefE _ w) (fun hok w3 hE3 => enterRef_any b n needs a1 a2 a3 c1 c2 c3 w3 (hb.ext (Ext.tr hE (Ext.tr hE2 hE3))) (hn.ext (Ext.tr hE (Ext.tr hE2 hE3))) hnl hok))
      (fun hz w2 hE2 => doneE_any b n needs a1 a2 a3 c1 c2 c3 w2 (hb.ext (Ext.tr hE hE2)) (hn.ext (Ext.tr hE hE2)) hnl (enter_zero hz))
  generalize (enterB b n needs).1 = B at *
  generalize (enterB b n needs).2 = c at *
  have HA := hid hA
  clear hA
  go_enter Tryz.func8, Tryz.ntmps8
  go_wp2_with fail
  refine (HA.out _ (ext_two _ _ _)).mono ?_
  rintro e w1 ⟨v1, v2, rs, rfl, hE1, hO1⟩
  have rr := rec_second (l := [.slice none 0 0, .slice none 0 0]) hE1
  have HRR := hid rr
  have HO1 : Hid (OB w1 w.heap.size v1 v2 rs B) := hO1.low (by simp; omega)
  have HE1 := hid (Ext.tr (ext_two _ _ _) hE1)
  have t0 := rr.cell (i := 0) rfl
  have t1 := rr.cell (i := 1) rfl
  have g0 := rr.frozen 0
  have g1 := rr.frozen 1
  obtain ⟨x1, y1, rfl⟩ := own_sl hO1.ot
  obtain ⟨x2, y2, rfl⟩ := own_shape3 hO1.ob
  clear hE1 hO1 rr
  go_wp2_with fail
  refine bodyPost_ret (v := .tuple #[.agg #[.slice x1 B.things.length y1, .slice x2 rs.length y2], .int .i64 (c : Int)]) (by simp [results, Tryz.results8, go_sem, t0, t1]) rfl ⟨_, _, rs, rfl, ?_, ?_⟩
  · exact (HE1.out.setCell (by simp) _).setCell (by simp) _
  · exact (HO1.out.stored HRR.out rfl rfl _ _).stored (HRR.out.set _ _) rfl rfl _ _

end Go.Proofs.YtdafpnpfcmgfcaaGreatDoor
