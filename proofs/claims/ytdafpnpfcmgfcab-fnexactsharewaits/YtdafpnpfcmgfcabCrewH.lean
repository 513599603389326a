/- The looks, in company: who has what another needs. -/
import Derived.Test.YtdafpnpfcmgfcabCrewG
namespace Go.Proofs.Ytdafpnpfcmgfcab
open Go Go.Conc Go.ConcN Go.RowKit Go.Conc.Lib Go.ConcR.Gen Go.ConcN.Gen
open Go.ConcR (Payload)

set_option maxRecDepth 100000 in
set_option maxHeartbeats 2000000 in
theorem waits_c {S : Nat → Prop} {B0 bs i : Nat} {w0 : World} {wb gb g b1 b2 k1 k2 n1 n2 x : Nat} {h d : Int} (hS : ∀ b, S b → b < B0) (hwb : wb ≤ B0 ∧ ¬ S wb) (hgb : gb ≤ B0 ∧ ¬ S gb) (hg : g ≤ B0 ∧ ¬ S g) (hb1 : b1 ≤ B0 ∧ ¬ S b1) (hb2 : b2 ≤ B0 ∧ ¬ S b2)
    (cw : w0.cell? ⟨wb, 0, none⟩ = some (.int .i64 x)) (cg : w0.cell? ⟨gb, 0, none⟩ = some (.pointer (some ⟨g, 0, none⟩))) (c0 : w0.cell? ⟨g, 0, none⟩ = some (.slice (some ⟨b1, 0, none⟩) n1 k1)) (c1 : w0.cell? ⟨g, 1, none⟩ = some (.slice (some ⟨b2, 0, none⟩) n2 k2))
    (q1 : w0.cell? ⟨b1, i, none⟩ = some (.int .u64 h)) (q2 : w0.cell? ⟨b2, x, none⟩ = some (.int .u64 d)) (h1 : i < n1) (h2 : x < n2) :
    ∃ nf, ∀ w, (∀ b k x, b ≤ B0 → w0.cell? ⟨b, k, none⟩ = some x → w.cell? ⟨b, k, none⟩ = some x) → CallsC Try.prog false (RWk 93 B0 i) (DWk S B0 bs i) 32 #[.int .i64 i, .pointer (some ⟨wb, 0, none⟩), .pointer (some ⟨gb, 0, none⟩)] nf w (fun r w' => r = .bool (!(i == x) && (bits .and .u64 h d != 0)) ∧ RWk 93 B0 i w w') := by
  have hi0 : (0 : Int) ≤ (i : Int) := by omega
  have hi1 : (i : Int) < (n1 : Int) := by omega
  have hx0 : (0 : Int) ≤ (x : Int) := by omega
  have hx1 : (x : Int) < (n2 : Int) := by omega
  unfold RWk DWk
  by_cases hix : i = x
  · subst hix
    co_apply Exists.intro
    intro wS hlow
    have hF : Hg B0 i w0 wS wS := ⟨hlow, RW.refl _⟩
    clear hlow
    co_apply callsC_of_wpC Try.func32 (by rfl) rfl
    simp only [Try.ntmps32, List.size_toArray, List.length_cons, List.length_nil, Nat.reduceAdd, Nat.reduceSub, Array.replicate_succ, Array.replicate_zero, List.push_toArray, List.append_toArray, List.nil_append, List.cons_append]
    co_stmt termsW Hg.rely hF (co_quiet termsW)
    co_apply wpC_seq termsW
    co_held termsW drawW ownDrawW (Hg B0 i w0 wS) Hg.rely hF
    co_take 0 termsW Hg.rely hF hw (skip) (co_quiet termsW)
    co_take 1 termsW Hg.rely hF hw (have hc := hw.cell hwb cw) (refine ⟨AsideCell.refl _ _ _ _, ?_⟩; co_evs (exact evW_rd hS _ _ (.inl (by assumption))))
    co_take 2 termsW Hg.rely hF hw (skip) (co_still termsW)
    co_take 3 termsW Hg.rely hF hw (skip) (co_quiet termsW)
    co_applyP anyCH_take termsW (fun _ _ h r => Hg.rely h r) (fun _ _ _ h r => wpC_rely termsW h r) (i := 4) rfl (by kernel_rfl) (by kernel_rfl) (by kernel_rfl) (.inr ⟨by rfl, rfl⟩) hF ?_
    try walk_nrm
    co_applyP anyCH_take termsW (fun _ _ h r => Hg.rely h r) (fun _ _ _ h r => wpC_rely termsW h r) (i := 5) rfl (by kernel_rfl) (by kernel_rfl) (by kernel_rfl) (.inr ⟨by rfl, rfl⟩) hF ?_
    try walk_nrm
    co_applyP anyCH_take termsW (fun _ _ h r => Hg.rely h r) (fun _ _ _ h r => wpC_rely termsW h r) (i := 6) rfl (by kernel_rfl) (by kernel_rfl) (by kernel_rfl) (.inr ⟨by rfl, rfl⟩) hF ?_
    try walk_nrm
    co_applyP anyCH_take termsW (fun _ _ h r => Hg.rely h r) (fun _ _ _ h r => wpC_rely termsW h r) (i := 7) rfl (by kernel_rfl) (by kernel_rfl) (by kernel_rfl) (.inr ⟨by rfl, rfl⟩) hF ?_
    try walk_nrm
    co_applyP anyCH_take termsW (fun _ _ h r => Hg.rely h r) (fun _ _ _ h r => wpC_rely termsW h r) (i := 8) rfl (by kernel_rfl) (by kernel_rfl) (by kernel_rfl) (.inr ⟨by rfl, rfl⟩) hF ?_
    try walk_nrm
    co_applyP anyCH_take termsW (fun _ _ h r => Hg.rely h r) (fun _ _ _ h r => wpC_rely termsW h r) (i := 9) rfl (by kernel_rfl) (by kernel_rfl) (by kernel_rfl) (.inr ⟨by rfl, rfl⟩) hF ?_
    try walk_nrm
    co_applyP anyCH_take termsW (fun _ _ h r => Hg.rely h r) (fun _ _ _ h r => wpC_rely termsW h r) (i := 10) rfl (by kernel_rfl) (by kernel_rfl) (by kernel_rfl) (.inr ⟨by rfl, rfl⟩) hF ?_
    try walk_nrm
    co_applyP anyCH_take termsW (fun _ _ h r => Hg.rely h r) (fun _ _ _ h r => wpC_rely termsW h r) (i := 11) rfl (by kernel_rfl) (by kernel_rfl) (by kernel_rfl) (.inr ⟨by rfl, rfl⟩) hF ?_
    try walk_nrm
    co_applyP anyCH_take termsW (fun _ _ h r => Hg.rely h r) (fun _ _ _ h r => wpC_rely termsW h r) (i := 12) rfl (by kernel_rfl) (by kernel_rfl) (by kernel_rfl) (.inr ⟨by rfl, rfl⟩) hF ?_
    try walk_nrm
    co_applyP anyCH_take termsW (fun _ _ h r => Hg.rely h r) (fun _ _ _ h r => wpC_rely termsW h r) (i := 13) rfl (by kernel_rfl) (by kernel_rfl) (by kernel_rfl) (.inr ⟨by rfl, rfl⟩) hF ?_
    try walk_nrm
    co_applyP anyCH_take termsW (fun _ _ h r => Hg.rely h r) (fun _ _ _ h r => wpC_rely termsW h r) (i := 14) rfl (by kernel_rfl) (by kernel_rfl) (by kernel_rfl) (.inr ⟨by rfl, rfl⟩) hF ?_
    try walk_nrm
    co_applyP anyCH_take termsW (fun _ _ h r => Hg.rely h r) (fun _ _ _ h r => wpC_rely termsW h r) (i := 15) rfl (by kernel_rfl) (by kernel_rfl) (by kernel_rfl) (.inr ⟨by rfl, rfl⟩) hF ?_
    try walk_nrm
    co_applyP anyCH_take termsW (fun _ _ h r => Hg.rely h r) (fun _ _ _ h r => wpC_rely termsW h r) (i := 16) rfl (by kernel_rfl) (by kernel_rfl) (by kernel_rfl) (.inr ⟨by rfl, rfl⟩) hF ?_
    try walk_nrm
    co_applyP anyCH_take termsW (fun _ _ h r => Hg.rely h r) (fun _ _ _ h r => wpC_rely termsW h r) (i := 17) rfl (by kernel_rfl) (by kernel_rfl) (by kernel_rfl) (.inr ⟨by rfl, rfl⟩) hF ?_
    try walk_nrm
    co_applyP anyCH_take termsW (fun _ _ h r => Hg.rely h r) (fun _ _ _ h r => wpC_rely termsW h r) (i := 18) rfl (by kernel_rfl) (by kernel_rfl) (by kernel_rfl) (.inr ⟨by rfl, rfl⟩) hF ?_
    try walk_nrm
    co_applyP anyCH_take termsW (fun _ _ h r => Hg.rely h r) (fun _ _ _ h r => wpC_rely termsW h r) (i := 19) rfl (by kernel_rfl) (by kernel_rfl) (by kernel_rfl) (.inr ⟨by rfl, rfl⟩) hF ?_
    try walk_nrm
    co_take 20 termsW Hg.rely hF hw (skip) (co_quiet termsW)
    co_take 21 termsW Hg.rely hF hw (skip) (co_quiet termsW)
    co_done
    co_ctl termsW
    exact ⟨rfl, _, resultsC_tmp (by rfl) _, by simp, hF.st⟩
  · have hne : ¬ ((i : Int) = (x : Int)) := by omega
    have hbe : ((i : Int) == (x : Int)) = false := by simp; omega
    have hb2' : (i == x) = false := by simp; omega
    have hbn : ((i : Int) != (x : Int)) = true := by simp; omega
    have hbd : decide ((i : Int) = (x : Int)) = false := by simp; omega
    have hbd2 : decide (i = x) = false := by simp; omega
    co_apply Exists.intro
    intro wS hlow
    have hF : Hg B0 i w0 wS wS := ⟨hlow, RW.refl _⟩
    clear hlow
    co_apply callsC_of_wpC Try.func32 (by rfl) rfl
    simp only [Try.ntmps32, List.size_toArray, List.length_cons, List.length_nil, Nat.reduceAdd, Nat.reduceSub, Array.replicate_succ, Array.replicate_zero, List.push_toArray, List.append_toArray, List.nil_append, List.cons_append]
    co_stmt termsW Hg.rely hF (co_quiet termsW)
    co_apply wpC_seq termsW
    co_held termsW drawW ownDrawW (Hg B0 i w0 wS) Hg.rely hF
    co_take 0 termsW Hg.rely hF hw (skip) (co_quiet termsW)
    co_take 1 termsW Hg.rely hF hw (have hc := hw.cell hwb cw) (refine ⟨AsideCell.refl _ _ _ _, ?_⟩; co_evs (exact evW_rd hS _ _ (.inl (by assumption))))
    co_take 2 termsW Hg.rely hF hw (skip) (co_still termsW)
    co_take 3 termsW Hg.rely hF hw (skip) (co_quiet termsW)
    co_take 4 termsW Hg.rely hF hw (have hc := hw.cell hgb cg) (refine ⟨AsideCell.refl _ _ _ _, ?_⟩; co_evs (exact evW_rd hS _ _ (.inl (by assumption))))
    co_take 5 termsW Hg.rely hF hw (skip) (co_quiet termsW)
    co_take 6 termsW Hg.rely hF hw (skip) (co_quiet termsW)
    co_take 7 termsW Hg.rely hF hw (have hc := hw.cell hg c0) (refine ⟨AsideCell.refl _ _ _ _, ?_⟩; co_evs (exact evW_rd hS _ _ (.inl (by assumption))))
    co_take 8 termsW Hg.rely hF hw (skip) (co_quiet termsW)
    co_take 9 termsW Hg.rely hF hw (skip) (co_still termsW)
    co_take 10 termsW Hg.rely hF hw (have hc := hw.cell hb1 q1) (refine ⟨AsideCell.refl _ _ _ _, ?_⟩; co_evs (exact evW_rd hS _ _ (.inl (by assumption))))
    co_take 11 termsW Hg.rely hF hw (have hc := hw.cell hgb cg) (refine ⟨AsideCell.refl _ _ _ _, ?_⟩; co_evs (exact evW_rd hS _ _ (.inl (by assumption))))
    co_take 12 termsW Hg.rely hF hw (skip) (co_quiet termsW)
    co_take 13 termsW Hg.rely hF hw (skip) (co_quiet termsW)
    co_take 14 termsW Hg.rely hF hw (have hc := hw.cell hg c1) (refine ⟨AsideCell.refl _ _ _ _, ?_⟩; co_evs (exact evW_rd hS _ _ (.inl (by assumption))))
    co_take 15 termsW Hg.rely hF hw (have hc := hw.cell hwb cw) (refine ⟨AsideCell.refl _ _ _ _, ?_⟩; co_evs (exact evW_rd hS _ _ (.inl (by assumption))))
    co_take 16 termsW Hg.rely hF hw (skip) (co_still termsW)
    co_take 17 termsW Hg.rely hF hw (have hc := hw.cell hb2 q2) (refine ⟨AsideCell.refl _ _ _ _, ?_⟩; co_evs (exact evW_rd hS _ _ (.inl (by assumption))))
    co_take 18 termsW Hg.rely hF hw (skip) (co_quiet termsW)
    co_take 19 termsW Hg.rely hF hw (skip) (co_still termsW)
    co_take 20 termsW Hg.rely hF hw (skip) (co_quiet termsW)
    co_take 21 termsW Hg.rely hF hw (skip) (co_quiet termsW)
    co_done
    co_ctl termsW
    exact ⟨rfl, _, resultsC_tmp (by rfl) _, by simp [hb2'], hF.st⟩
end Go.Proofs.Ytdafpnpfcmgfcab
