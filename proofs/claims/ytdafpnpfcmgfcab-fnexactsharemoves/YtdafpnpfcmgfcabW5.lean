/- Walks over the copies of batches and books. -/
import Derived.Test.YtdafpnpfcmgfcabW4
namespace Go.Proofs.Ytdafpnpfcmgfcab
open Go.RowKit
attribute [local go_sem] S_toList S_size S_get

set_option maxHeartbeats 400000 in
theorem toShareBatch_any (x : Batch) (a1 a2 : Option Addr) (c1 c2 : Nat) (w : World)
    (h1 : StrsAt w a1 x.has) (h2 : StrsAt w a2 x.needs) :
    Calls Qry.prog 38 #[.agg #[.string (S x.name), .slice a1 x.has.length c1, .slice a2 x.needs.length c2]] w fun e w' =>
      ∃ b1 b2, e = .returned (.agg #[.string (S x.name), .slice (some ⟨b1, 0, none⟩) x.has.length x.has.length, .slice (some ⟨b2, 0, none⟩) x.needs.length x.needs.length]) ∧
        Ext w w' ∧ w.heap.size ≤ b1 ∧ b1 < b2 ∧ OwnStrs w' b1 x.has ∧ OwnStrs w' b2 x.needs := by
  go_enter Qry.func38, Try.ntmps38
  go_wp2_with fail
  have e3 : ∀ o1 o2 o3, Ext w (((w.alloc o1).alloc o2).alloc o3) := fun o1 o2 o3 =>
    (((Below.refl _ _).alloc (Nat.le_refl _) _).alloc (by simp) _).alloc (by simp; omega) _
  refine (toStringS_any _ _ _ _ (h1.ext (e3 _ _ _))).mono ?_
  rintro e w1 ⟨rfl, hext, hown⟩
  obtain ⟨hc, hf⟩ := bcell hext
  have HO : Hid (OwnStrs w1 _ x.has) := hown
  have HE : Hid (Ext w w1) := Ext.tr (e3 _ _ _) hext
  have hz := hext.size
  simp at hz
  have z0 : w.heap.size < w1.heap.size := by omega
  have z1 : w.heap.size + 1 < w1.heap.size := by omega
  have z2 : w.heap.size + 1 + 1 < w1.heap.size := by omega
  have z3 : w.heap.size + 1 + 1 + 1 < w1.heap.size := by
    have h := hown.2.2.lt; simp at h; omega
  clear hown hext
  go_wp2_with fail
  have HS : Ext w (w1.setCell ⟨w.heap.size + 1 + 1, 1, none⟩ (.slice (some ⟨w.heap.size + 1 + 1 + 1, 0, none⟩) x.has.length x.has.length)) := HE.out.setCell (by simp; omega) _
  refine (toStringS_any _ _ _ _ (h2.ext HS)).mono ?_
  rintro e w2 ⟨rfl, hext2, hown2⟩
  obtain ⟨hc2, hf2⟩ := bcell hext2
  have HS2 : Hid (Ext w w2) := Ext.tr HS hext2
  have HO1 : Hid (OwnStrs w2 (w.heap.size + 1 + 1 + 1) x.has) := by
    have h := HO.out
    simp at h
    exact OwnStrs.ext (h.setOther (by simp) _) hext2
  have HO2 : Hid (OwnStrs w2 w1.heap.size x.needs) := by
    have e : (w1.setCell ⟨w.heap.size + 1 + 1, 1, none⟩ (.slice (some ⟨w.heap.size + 1 + 1 + 1, 0, none⟩) x.has.length x.has.length)).heap.size = w1.heap.size := by simp
    rw [e] at hown2; exact hown2
  have hz2 := hext2.size
  simp at hz2
  clear hown2 hext2 HS
  go_wp2
  refine bodyPost_ret (v := .agg #[.string (S x.name), .slice (some ⟨w.heap.size + 1 + 1 + 1, 0, none⟩) x.has.length x.has.length, .slice (some ⟨w1.heap.size, 0, none⟩) x.needs.length x.needs.length]) (by simp [results, Try.results38, go_sem, hc2, hc, z1]) rfl ⟨_, _, rfl, ?_, ?_, ?_, ?_, ?_⟩
  · exact (((HS2.out.setCell (by simp; omega) _).setCell (by simp) _).setCell (by simp) _).setCell (by simp) _
  · omega
  · omega
  · exact (((HO1.out.setOther (by simp) _).setOther (by simp; try omega) _).setOther (by simp; try omega) _).setOther (by simp; try omega) _
  · exact (((HO2.out.setOther (by simp; try omega) _).setOther (by simp; try omega) _).setOther (by simp; try omega) _).setOther (by simp; try omega) _
end Go.Proofs.Ytdafpnpfcmgfcab
