/- The looks, in company: canGo. The looks, in company: who has what another needs. A program with refused bodies, by reckoning. -/
import Derived.Test.YtdafpnpfcmgfcaaGreatCrewW
import Derived.Conc.CompanyMem
import Derived.Test.YtdafpnpfcmgfcaaGreatJB
namespace Go.Proofs.YtdafpnpfcmgfcaaGreat
open Go Go.Conc Go.ConcN Go.RowKit Go.Conc.Lib Go.ConcR.Gen Go.ConcN.Gen
open Go.ConcR (Payload)

/-- What is held while a worker looks. -/
structure Hg (B0 i : Nat) (w0 wS w : World) : Prop where
  low : ∀ b k x, b ≤ B0 → w0.cell? ⟨b, k, none⟩ = some x → w.cell? ⟨b, k, none⟩ = some x
  st : RW 98 (B0 + 2) (B0 + 3 + i) 1 (B0 + 1) 0 wS w
section
variable {S : Sh} {B0 bs i : Nat} {w0 wS w w₁ : World}
theorem Hg.rely (h : Hg B0 i w0 wS w) (r : RW 98 (B0 + 2) (B0 + 3 + i) 1 (B0 + 1) 0 w w₁) : Hg B0 i w0 wS w₁ :=
  ⟨fun b k x hb hx => (cell_of_block (r.low b (by omega) (by omega) (by omega)) k).trans (h.low b k x hb hx), RW.trans h.st r⟩
theorem Hg.cell (h : Hg B0 i w0 wS w) {b k : Nat} {x : Value} (hb : b ≤ B0 ∧ ¬ S b) (hc : w0.cell? ⟨b, k, none⟩ = some x) : w.cell? ⟨b, k, none⟩ = some x := h.low b k x hb.1 hc
theorem drawW : LetsDraw (DWs (B0 + 2) NoOwn (RdW S B0 bs i) (B0 + 3 + i) 1 1) := fun _ => ⟨⟨rfl, rfl, rfl, rfl, fun _ _ => rfl, id, fun _ _ => rfl⟩, by simp⟩
theorem ownDrawW (w : World) : RW 98 (B0 + 2) (B0 + 3 + i) 1 (B0 + 1) 0 w { w with drawn := w.drawn + 1 } := ⟨fun _ _ _ _ => rfl, id, id, rfl⟩
end

set_option maxRecDepth 100000 in
set_option maxHeartbeats 2000000 in
theorem canGo_c {S : Sh} {B0 bs i : Nat} {w0 : World} {g bg b1 b2 k1 k2 n1 n2 n3 : Nat} {free h d : Int} {gone : Bool} (hS : ∀ b, S b → b < B0) (hg : g ≤ B0 ∧ ¬ S g) (hbg : bg ≤ B0 ∧ ¬ S bg) (hb1 : b1 ≤ B0 ∧ ¬ S b1) (hb2 : b2 ≤ B0 ∧ ¬ S b2)
    (c0 : w0.cell? ⟨g, 0, none⟩ = some (.slice (some ⟨b1, 0, none⟩) n1 k1)) (c1 : w0.cell? ⟨g, 1, none⟩ = some (.slice (some ⟨b2, 0, none⟩) n2 k2)) (c2 : w0.cell? ⟨g, 2, none⟩ = some (.slice (some ⟨bg, 0, none⟩) n3 n3)) (c3 : w0.cell? ⟨g, 3, none⟩ = some (.int .u64 free))
    (r : w0.cell? ⟨bg, i, none⟩ = some (.bool gone)) (q1 : w0.cell? ⟨b1, i, none⟩ = some (.int .u64 h)) (q2 : w0.cell? ⟨b2, i, none⟩ = some (.int .u64 d)) (h1 : i < n1) (h2 : i < n2) (h3 : i < n3) (hwr : IntKind.u64.wrap (free + h) = free + h) :
    ∃ nf, ∀ w, (∀ b k x, b ≤ B0 → w0.cell? ⟨b, k, none⟩ = some x → w.cell? ⟨b, k, none⟩ = some x) → CallsC Tryz.prog false (RWk 98 B0 i) (DWk S B0 bs i) 21 #[.pointer (some ⟨g, 0, none⟩), .int .i64 i] nf w (fun r w' => r = .bool (!gone && (bits .andNot .u64 d (free + h) == 0)) ∧ RWk 98 B0 i w w') := by
  have hi0 : (0 : Int) ≤ (i : Int) := by omega
  have hi1 : (i : Int) < (n1 : Int) := by omega
  have hi2 : (i : Int) < (n2 : Int) := by omega
  have hi3 : (i : Int) < (n3 : Int) := by omega
  unfold RWk DWk
  cases gone with
  | false =>
    co_apply Exists.intro
    intro wS hlow
    have hF : Hg B0 i w0 wS wS := ⟨hlow, RW.refl _⟩
    clear hlow
    co_apply callsC_of_wpC Tryz.func21 (by rfl) rfl
    simp only [Tryz.ntmps21, List.size_toArray, List.length_cons, List.length_nil, Nat.reduceAdd, Nat.reduceSub, Array.replicate_succ, Array.replicate_zero, List.push_toArray, List.append_toArray, List.nil_append, List.cons_append]
    co_stmt termsW Hg.rely hF (co_quiet termsW)
    co_apply wpC_seq termsW
    co_held termsW drawW ownDrawW (Hg B0 i w0 wS) Hg.rely hF
    co_take 0 termsW Hg.rely hF hw (skip) (co_quiet termsW)
    co_take 1 termsW Hg.rely hF hw (skip) (co_quiet termsW)
    co_take 2 termsW Hg.rely hF hw (skip) (co_quiet termsW)
    co_take 3 termsW Hg.rely hF hw (have hc := hw.cell hg c3) (refine ⟨AsideCell.refl _ _ _ _, ?_⟩; co_evs (exact evW_rd hS _ _ (Or.inl (by assumption))))
    co_take 4 termsW Hg.rely hF hw (skip) (co_quiet termsW)
    co_take 5 termsW Hg.rely hF hw (skip) (co_quiet termsW)
    co_take 6 termsW Hg.rely hF hw (skip) (co_quiet termsW)
    co_take 7 termsW Hg.rely hF hw (have hc := hw.cell hg c0) (refine ⟨AsideCell.refl _ _ _ _, ?_⟩; co_evs (exact evW_rd hS _ _ (Or.inl (by assumption))))
    co_take 8 termsW Hg.rely hF hw (skip) (co_quiet termsW)
    co_take 9 termsW Hg.rely hF hw (skip) (co_still termsW)
    co_take 10 termsW Hg.rely hF hw (have hc := hw.cell hb1 q1) (refine ⟨AsideCell.refl _ _ _ _, ?_⟩; co_evs (exact evW_rd hS _ _ (Or.inl (by assumption))))
    co_take 11 termsW Hg.rely hF hw (skip) (co_still termsW)
    co_take 12 termsW Hg.rely hF hw (skip) (co_quiet termsW)
    co_done
    co_apply wpC_seq termsW
    co_reg termsW
    co_op Hg.rely hF (co_quiet termsW)
    co_op Hg.rely hF (co_quiet termsW)
    co_op Hg.rely hF (co_quiet termsW)
    co_opw Hg.rely hF (have hc := hF.cell hg c2) (refine ⟨AsideCell.refl _ _ _ _, ?_⟩; co_evs (exact evW_rd hS _ _ (Or.inl (by assumption))))
    co_op Hg.rely hF (co_quiet termsW)
    co_op Hg.rely hF (co_still termsW)
    co_opw Hg.rely hF (have hc := hF.cell hbg r) (refine ⟨AsideCell.refl _ _ _ _, ?_⟩; co_evs (exact evW_rd hS _ _ (Or.inl (by assumption))))
    co_op Hg.rely hF (co_quiet termsW)
    co_op Hg.rely hF (co_quiet termsW)
    co_op Hg.rely hF (co_quiet termsW)
    co_op Hg.rely hF (co_quiet termsW)
    co_op Hg.rely hF (co_quiet termsW)
    co_opw Hg.rely hF (have hc := hF.cell hg c1) (refine ⟨AsideCell.refl _ _ _ _, ?_⟩; co_evs (exact evW_rd hS _ _ (Or.inl (by assumption))))
    co_op Hg.rely hF (co_quiet termsW)
    co_op Hg.rely hF (co_still termsW)
    co_opw Hg.rely hF (have hc := hF.cell hb2 q2) (refine ⟨AsideCell.refl _ _ _ _, ?_⟩; co_evs (exact evW_rd hS _ _ (Or.inl (by assumption))))
    co_op Hg.rely hF (co_quiet termsW)
    co_op Hg.rely hF (co_still termsW)
    co_op Hg.rely hF (co_still termsW)
    co_op Hg.rely hF (co_quiet termsW)
    co_op Hg.rely hF (co_quiet termsW)
    co_apply opsC_nil termsW
    co_then
    co_ctl termsW
    exact ⟨rfl, _, resultsC_tmp (by rfl) _, by simp, hF.st⟩
  | true =>
    co_apply Exists.intro
    intro wS hlow
    have hF : Hg B0 i w0 wS wS := ⟨hlow, RW.refl _⟩
    clear hlow
    co_apply callsC_of_wpC Tryz.func21 (by rfl) rfl
    simp only [Tryz.ntmps21, List.size_toArray, List.length_cons, List.length_nil, Nat.reduceAdd, Nat.reduceSub, Array.replicate_succ, Array.replicate_zero, List.push_toArray, List.append_toArray, List.nil_append, List.cons_append]
    co_stmt termsW Hg.rely hF (co_quiet termsW)
    co_apply wpC_seq termsW
    co_held termsW drawW ownDrawW (Hg B0 i w0 wS) Hg.rely hF
    co_take 0 termsW Hg.rely hF hw (skip) (co_quiet termsW)
    co_take 1 termsW Hg.rely hF hw (skip) (co_quiet termsW)
    co_take 2 termsW Hg.rely hF hw (skip) (co_quiet termsW)
    co_take 3 termsW Hg.rely hF hw (have hc := hw.cell hg c3) (refine ⟨AsideCell.refl _ _ _ _, ?_⟩; co_evs (exact evW_rd hS _ _ (Or.inl (by assumption))))
    co_take 4 termsW Hg.rely hF hw (skip) (co_quiet termsW)
    co_take 5 termsW Hg.rely hF hw (skip) (co_quiet termsW)
    co_take 6 termsW Hg.rely hF hw (skip) (co_quiet termsW)
    co_take 7 termsW Hg.rely hF hw (have hc := hw.cell hg c0) (refine ⟨AsideCell.refl _ _ _ _, ?_⟩; co_evs (exact evW_rd hS _ _ (Or.inl (by assumption))))
    co_take 8 termsW Hg.rely hF hw (skip) (co_quiet termsW)
    co_take 9 termsW Hg.rely hF hw (skip) (co_still termsW)
    co_take 10 termsW Hg.rely hF hw (have hc := hw.cell hb1 q1) (refine ⟨AsideCell.refl _ _ _ _, ?_⟩; co_evs (exact evW_rd hS _ _ (Or.inl (by assumption))))
    co_take 11 termsW Hg.rely hF hw (skip) (co_still termsW)
    co_take 12 termsW Hg.rely hF hw (skip) (co_quiet termsW)
    co_done
    co_apply wpC_seq termsW
    co_reg termsW
    co_op Hg.rely hF (co_quiet termsW)
    co_op Hg.rely hF (co_quiet termsW)
    co_op Hg.rely hF (co_quiet termsW)
    co_opw Hg.rely hF (have hc := hF.cell hg c2) (refine ⟨AsideCell.refl _ _ _ _, ?_⟩; co_evs (exact evW_rd hS _ _ (Or.inl (by assumption))))
    co_op Hg.rely hF (co_quiet termsW)
    co_op Hg.rely hF (co_still termsW)
    co_opw Hg.rely hF (have hc := hF.cell hbg r) (refine ⟨AsideCell.refl _ _ _ _, ?_⟩; co_evs (exact evW_rd hS _ _ (Or.inl (by assumption))))
    co_op Hg.rely hF (co_quiet termsW)
    co_op Hg.rely hF (co_quiet termsW)
    co_apply opsC_unwanted termsW rfl (by rfl)
    walk_nrm
    co_apply opsC_unwanted termsW rfl (by rfl)
    walk_nrm
    co_apply opsC_unwanted termsW rfl (by rfl)
    walk_nrm
    co_apply opsC_unwanted termsW rfl (by rfl)
    walk_nrm
    co_apply opsC_unwanted termsW rfl (by rfl)
    walk_nrm
    co_apply opsC_unwanted termsW rfl (by rfl)
    walk_nrm
    co_apply opsC_unwanted termsW rfl (by rfl)
    walk_nrm
    co_apply opsC_unwanted termsW rfl (by rfl)
    walk_nrm
    co_apply opsC_unwanted termsW rfl (by rfl)
    walk_nrm
    co_apply opsC_unwanted termsW rfl (by rfl)
    walk_nrm
    co_op Hg.rely hF (co_quiet termsW)
    co_op Hg.rely hF (co_quiet termsW)
    co_apply opsC_nil termsW
    co_then
    co_ctl termsW
    exact ⟨rfl, _, resultsC_tmp (by rfl) _, by simp, hF.st⟩
end Go.Proofs.YtdafpnpfcmgfcaaGreat
namespace Go.Proofs.YtdafpnpfcmgfcaaGreat
open Go Go.Conc Go.ConcN Go.RowKit Go.Conc.Lib Go.ConcR.Gen Go.ConcN.Gen
open Go.ConcR (Payload)

set_option maxRecDepth 100000 in
set_option maxHeartbeats 2000000 in
theorem waits_c {S : Sh} {B0 bs i : Nat} {w0 : World} {wb gb g b1 b2 k1 k2 n1 n2 x : Nat} {h d : Int} (hS : ∀ b, S b → b < B0) (hwb : wb ≤ B0 ∧ ¬ S wb) (hgb : gb ≤ B0 ∧ ¬ S gb) (hg : g ≤ B0 ∧ ¬ S g) (hb1 : b1 ≤ B0 ∧ ¬ S b1) (hb2 : b2 ≤ B0 ∧ ¬ S b2)
    (cw : w0.cell? ⟨wb, 0, none⟩ = some (.int .i64 x)) (cg : w0.cell? ⟨gb, 0, none⟩ = some (.pointer (some ⟨g, 0, none⟩))) (c0 : w0.cell? ⟨g, 0, none⟩ = some (.slice (some ⟨b1, 0, none⟩) n1 k1)) (c1 : w0.cell? ⟨g, 1, none⟩ = some (.slice (some ⟨b2, 0, none⟩) n2 k2))
    (q1 : w0.cell? ⟨b1, i, none⟩ = some (.int .u64 h)) (q2 : w0.cell? ⟨b2, x, none⟩ = some (.int .u64 d)) (h1 : i < n1) (h2 : x < n2) :
    ∃ nf, ∀ w, (∀ b k x, b ≤ B0 → w0.cell? ⟨b, k, none⟩ = some x → w.cell? ⟨b, k, none⟩ = some x) → CallsC Tryz.prog false (RWk 98 B0 i) (DWk S B0 bs i) 29 #[.int .i64 i, .pointer (some ⟨wb, 0, none⟩), .pointer (some ⟨gb, 0, none⟩)] nf w (fun r w' => r = .bool (!(i == x) && (bits .and .u64 h d != 0)) ∧ RWk 98 B0 i w w') := by
  have hi0 : (0 : Int) ≤ (i : Int) := by omega
  have hi1 : (i : Int) < (n1 : Int) := by omega
  have hx0 : (0 : Int) ≤ (x : Int) := by omega
  have hx1 : (x : Int) < (n2 : Int) := by omega
  unfold RWk DWk
  by_cases hix : i = x
  · subst hix
    co_apply Exists.intro
    intro wS hlow
    have hF : Hg B0 i w0 wS wS := ⟨hlow, RW.refl _⟩
    clear hlow
    co_apply callsC_of_wpC Tryz.func29 (by rfl) rfl
    simp only [Tryz.ntmps29, List.size_toArray, List.length_cons, List.length_nil, Nat.reduceAdd, Nat.reduceSub, Array.replicate_succ, Array.replicate_zero, List.push_toArray, List.append_toArray, List.nil_append, List.cons_append]
    co_stmt termsW Hg.rely hF (co_quiet termsW)
    co_apply wpC_seq termsW
    co_held termsW drawW ownDrawW (Hg B0 i w0 wS) Hg.rely hF
    co_take 0 termsW Hg.rely hF hw (skip) (co_quiet termsW)
    co_take 1 termsW Hg.rely hF hw (have hc := hw.cell hwb cw) (refine ⟨AsideCell.refl _ _ _ _, ?_⟩; co_evs (exact evW_rd hS _ _ (Or.inl (by assumption))))
    co_take 2 termsW Hg.rely hF hw (skip) (co_still termsW)
    co_take 3 termsW Hg.rely hF hw (skip) (co_quiet termsW)
    co_applyP anyCH_take termsW (fun _ _ h r => Hg.rely h r) (fun _ _ _ h r => wpC_rely termsW h r) (i := 4) rfl (by kernel_rfl) (by kernel_rfl) (by kernel_rfl) (Or.inr ⟨by rfl, rfl⟩) hF ?_
    try walk_nrm
    co_applyP anyCH_take termsW (fun _ _ h r => Hg.rely h r) (fun _ _ _ h r => wpC_rely termsW h r) (i := 5) rfl (by kernel_rfl) (by kernel_rfl) (by kernel_rfl) (Or.inr ⟨by rfl, rfl⟩) hF ?_
    try walk_nrm
    co_applyP anyCH_take termsW (fun _ _ h r => Hg.rely h r) (fun _ _ _ h r => wpC_rely termsW h r) (i := 6) rfl (by kernel_rfl) (by kernel_rfl) (by kernel_rfl) (Or.inr ⟨by rfl, rfl⟩) hF ?_
    try walk_nrm
    co_applyP anyCH_take termsW (fun _ _ h r => Hg.rely h r) (fun _ _ _ h r => wpC_rely termsW h r) (i := 7) rfl (by kernel_rfl) (by kernel_rfl) (by kernel_rfl) (Or.inr ⟨by rfl, rfl⟩) hF ?_
    try walk_nrm
    co_applyP anyCH_take termsW (fun _ _ h r => Hg.rely h r) (fun _ _ _ h r => wpC_rely termsW h r) (i := 8) rfl (by kernel_rfl) (by kernel_rfl) (by kernel_rfl) (Or.inr ⟨by rfl, rfl⟩) hF ?_
    try walk_nrm
    co_applyP anyCH_take termsW (fun _ _ h r => Hg.rely h r) (fun _ _ _ h r => wpC_rely termsW h r) (i := 9) rfl (by kernel_rfl) (by kernel_rfl) (by kernel_rfl) (Or.inr ⟨by rfl, rfl⟩) hF ?_
    try walk_nrm
    co_applyP anyCH_take termsW (fun _ _ h r => Hg.rely h r) (fun _ _ _ h r => wpC_rely termsW h r) (i := 10) rfl (by kernel_rfl) (by kernel_rfl) (by kernel_rfl) (Or.inr ⟨by rfl, rfl⟩) hF ?_
    try walk_nrm
    co_applyP anyCH_take termsW (fun _ _ h r => Hg.rely h r) (fun _ _ _ h r => wpC_rely termsW h r) (i := 11) rfl (by kernel_rfl) (by kernel_rfl) (by kernel_rfl) (Or.inr ⟨by rfl, rfl⟩) hF ?_
    try walk_nrm
    co_applyP anyCH_take termsW (fun _ _ h r => Hg.rely h r) (fun _ _ _ h r => wpC_rely termsW h r) (i := 12) rfl (by kernel_rfl) (by kernel_rfl) (by kernel_rfl) (Or.inr ⟨by rfl, rfl⟩) hF ?_
    try walk_nrm
    co_applyP anyCH_take termsW (fun _ _ h r => Hg.rely h r) (fun _ _ _ h r => wpC_rely termsW h r) (i := 13) rfl (by kernel_rfl) (by kernel_rfl) (by kernel_rfl) (Or.inr ⟨by rfl, rfl⟩) hF ?_
    try walk_nrm
    co_applyP anyCH_take termsW (fun _ _ h r => Hg.rely h r) (fun _ _ _ h r => wpC_rely termsW h r) (i := 14) rfl (by kernel_rfl) (by kernel_rfl) (by kernel_rfl) (Or.inr ⟨by rfl, rfl⟩) hF ?_
    try walk_nrm
    co_applyP anyCH_take termsW (fun _ _ h r => Hg.rely h r) (fun _ _ _ h r => wpC_rely termsW h r) (i := 15) rfl (by kernel_rfl) (by kernel_rfl) (by kernel_rfl) (Or.inr ⟨by rfl, rfl⟩) hF ?_
    try walk_nrm
    co_applyP anyCH_take termsW (fun _ _ h r => Hg.rely h r) (fun _ _ _ h r => wpC_rely termsW h r) (i := 16) rfl (by kernel_rfl) (by kernel_rfl) (by kernel_rfl) (Or.inr ⟨by rfl, rfl⟩) hF ?_
    try walk_nrm
    co_applyP anyCH_take termsW (fun _ _ h r => Hg.rely h r) (fun _ _ _ h r => wpC_rely termsW h r) (i := 17) rfl (by kernel_rfl) (by kernel_rfl) (by kernel_rfl) (Or.inr ⟨by rfl, rfl⟩) hF ?_
    try walk_nrm
    co_applyP anyCH_take termsW (fun _ _ h r => Hg.rely h r) (fun _ _ _ h r => wpC_rely termsW h r) (i := 18) rfl (by kernel_rfl) (by kernel_rfl) (by kernel_rfl) (Or.inr ⟨by rfl, rfl⟩) hF ?_
    try walk_nrm
    co_applyP anyCH_take termsW (fun _ _ h r => Hg.rely h r) (fun _ _ _ h r => wpC_rely termsW h r) (i := 19) rfl (by kernel_rfl) (by kernel_rfl) (by kernel_rfl) (Or.inr ⟨by rfl, rfl⟩) hF ?_
    try walk_nrm
    co_take 20 termsW Hg.rely hF hw (skip) (co_quiet termsW)
    co_take 21 termsW Hg.rely hF hw (skip) (co_quiet termsW)
    co_done
    co_ctl termsW
    exact ⟨rfl, _, resultsC_tmp (by rfl) _, by simp, hF.st⟩
  · have hne : ¬ ((i : Int) = (x : Int)) := by omega
    have hbe : ((i : Int) == (x : Int)) = false := by simp; omega
    have hb2' : (i == x) = false := by simp; omega
    have hbn : ((i : Int) != (x : Int)) = true := by simp; omega
    have hbd : decide ((i : Int) = (x : Int)) = false := by simp; omega
    have hbd2 : decide (i = x) = false := by simp; omega
    co_apply Exists.intro
    intro wS hlow
    have hF : Hg B0 i w0 wS wS := ⟨hlow, RW.refl _⟩
    clear hlow
    co_apply callsC_of_wpC Tryz.func29 (by rfl) rfl
    simp only [Tryz.ntmps29, List.size_toArray, List.length_cons, List.length_nil, Nat.reduceAdd, Nat.reduceSub, Array.replicate_succ, Array.replicate_zero, List.push_toArray, List.append_toArray, List.nil_append, List.cons_append]
    co_stmt termsW Hg.rely hF (co_quiet termsW)
    co_apply wpC_seq termsW
    co_held termsW drawW ownDrawW (Hg B0 i w0 wS) Hg.rely hF
    co_take 0 termsW Hg.rely hF hw (skip) (co_quiet termsW)
    co_take 1 termsW Hg.rely hF hw (have hc := hw.cell hwb cw) (refine ⟨AsideCell.refl _ _ _ _, ?_⟩; co_evs (exact evW_rd hS _ _ (Or.inl (by assumption))))
    co_take 2 termsW Hg.rely hF hw (skip) (co_still termsW)
    co_take 3 termsW Hg.rely hF hw (skip) (co_quiet termsW)
    co_take 4 termsW Hg.rely hF hw (have hc := hw.cell hgb cg) (refine ⟨AsideCell.refl _ _ _ _, ?_⟩; co_evs (exact evW_rd hS _ _ (Or.inl (by assumption))))
    co_take 5 termsW Hg.rely hF hw (skip) (co_quiet termsW)
    co_take 6 termsW Hg.rely hF hw (skip) (co_quiet termsW)
    co_take 7 termsW Hg.rely hF hw (have hc := hw.cell hg c0) (refine ⟨AsideCell.refl _ _ _ _, ?_⟩; co_evs (exact evW_rd hS _ _ (Or.inl (by assumption))))
    co_take 8 termsW Hg.rely hF hw (skip) (co_quiet termsW)
    co_take 9 termsW Hg.rely hF hw (skip) (co_still termsW)
    co_take 10 termsW Hg.rely hF hw (have hc := hw.cell hb1 q1) (refine ⟨AsideCell.refl _ _ _ _, ?_⟩; co_evs (exact evW_rd hS _ _ (Or.inl (by assumption))))
    co_take 11 termsW Hg.rely hF hw (have hc := hw.cell hgb cg) (refine ⟨AsideCell.refl _ _ _ _, ?_⟩; co_evs (exact evW_rd hS _ _ (Or.inl (by assumption))))
    co_take 12 termsW Hg.rely hF hw (skip) (co_quiet termsW)
    co_take 13 termsW Hg.rely hF hw (skip) (co_quiet termsW)
    co_take 14 termsW Hg.rely hF hw (have hc := hw.cell hg c1) (refine ⟨AsideCell.refl _ _ _ _, ?_⟩; co_evs (exact evW_rd hS _ _ (Or.inl (by assumption))))
    co_take 15 termsW Hg.rely hF hw (have hc := hw.cell hwb cw) (refine ⟨AsideCell.refl _ _ _ _, ?_⟩; co_evs (exact evW_rd hS _ _ (Or.inl (by assumption))))
    co_take 16 termsW Hg.rely hF hw (skip) (co_still termsW)
    co_take 17 termsW Hg.rely hF hw (have hc := hw.cell hb2 q2) (refine ⟨AsideCell.refl _ _ _ _, ?_⟩; co_evs (exact evW_rd hS _ _ (Or.inl (by assumption))))
    co_take 18 termsW Hg.rely hF hw (skip) (co_quiet termsW)
    co_take 19 termsW Hg.rely hF hw (skip) (co_still termsW)
    co_take 20 termsW Hg.rely hF hw (skip) (co_quiet termsW)
    co_take 21 termsW Hg.rely hF hw (skip) (co_quiet termsW)
    co_done
    co_ctl termsW
    exact ⟨rfl, _, resultsC_tmp (by rfl) _, by simp [hb2'], hF.st⟩
end Go.Proofs.YtdafpnpfcmgfcaaGreat
namespace Go.Proofs.YtdafpnpfcmgfcaaGreat
open Go
inductive StubL : List Func → List Func → Prop
  | nil : StubL [] []
  | same {f : Func} {l m : List Func} : StubL l m → StubL (f :: l) (f :: m)
  | stub {f : Func} {why : String} {l m : List Func} : StubL l m → StubL ({ f with body := some (.refuse why) } :: l) (f :: m)
theorem StubL.get {l m : List Func} (h : StubL l m) : l.length = m.length ∧ ∀ f : Nat, l[f]? = m[f]? ∨ ∃ (g : Func) (why : String), m[f]? = some g ∧ l[f]? = some { g with body := some (.refuse why) } := by
  induction h with
  | nil => exact ⟨rfl, fun _ => .inl rfl⟩
  | same _ ih =>
    refine ⟨by simp [ih.1], fun f => ?_⟩
    cases f with
    | zero => exact .inl rfl
    | succ f => simpa using ih.2 f
  | @stub g why _ _ _ ih =>
    refine ⟨by simp [ih.1], fun f => ?_⟩
    cases f with
    | zero => exact .inr ⟨g, why, rfl, rfl⟩
    | succ f => simpa using ih.2 f
theorem tamed_of {Q P : Program} (ht : Q.toTables = P.toTables) (hs : StubL Q.funcs.toList P.funcs.toList) (hb : Q.funcs.all (fun fn => !fn.body.isNone && !(fn.name == "runtime.NumGoroutine")) = true)
    (hc : Q.funcs.all (fun fn => match fn.body with | some c => okCode P c | none => true) = true) (hp : (basic P 3 && basic P 4 && basic P 9) = true) : Tamed Q P := by
  obtain ⟨h1, h2⟩ := hs.get
  refine ⟨⟨?_, by simpa using h1, fun f => ?_⟩, fun f fn hf => ?_, fun f fn c hf hcd => ?_, by simpa [and_assoc] using hp⟩
  · cases Q; cases P
    simp only [Program.mk.injEq] at ht ⊢
    exact ⟨ht, trivial⟩
  · have := h2 f
    simpa using this
  · have := (Array.all_eq_true'.1 hb) fn (Array.mem_of_getElem? hf)
    simp only [Bool.and_eq_true, Bool.not_eq_true'] at this
    exact this
  · have := (Array.all_eq_true'.1 hc) fn (Array.mem_of_getElem? hf)
    rw [hcd] at this
    exact this
section
variable {T : Tables} {F F1 : Array Func} (t : TypeId) (w : World)
theorem same_underlying : (Program.mk T F).underlying t = (Program.mk T F1).underlying t := rfl
theorem same_info : (Program.mk T F).info? t = (Program.mk T F1).info? t := rfl
theorem same_run_underlying : (Go.underlying t).run (Program.mk T F) w = (Go.underlying t).run (Program.mk T F1) w := by
  have e := same_underlying (T := T) (F := F) (F1 := F1) t
  cases h : (Program.mk T F1).underlying t with
  | none => rw [h] at e; simp [Go.underlying, e, h]
  | some d => rw [h] at e; simp [Go.underlying, e, h]
theorem same_run_typeInfo : (Go.typeInfo t).run (Program.mk T F) w = (Go.typeInfo t).run (Program.mk T F1) w := by
  cases h : (Program.mk T F1).info? t with
  | none => simp [Go.typeInfo, h]
  | some d => simp [Go.typeInfo, h]
theorem same_run_sizeOf : (Go.sizeOf t).run (Program.mk T F) w = (Go.sizeOf t).run (Program.mk T F1) w := by
  cases h : (Program.mk T F1).info? t with
  | none => simp [Go.sizeOf, Go.typeInfo, h]
  | some d => simp [Go.sizeOf, Go.typeInfo, h]
theorem same_run_isAgg : (Go.isAgg t).run (Program.mk T F) w = (Go.isAgg t).run (Program.mk T F1) w := by
  have e := same_underlying (T := T) (F := F) (F1 := F1) t
  cases h : (Program.mk T F1).underlying t with
  | none => rw [h] at e; simp [Go.isAgg, Go.underlying, e, h]
  | some d => rw [h] at e; cases d <;> simp [Go.isAgg, Go.underlying, e, h]
theorem same_run_zeroValue : (Go.zeroValue t).run (Program.mk T F) w = (Go.zeroValue t).run (Program.mk T F1) w := by
  cases h : (Program.mk T F1).info? t with
  | none => simp [Go.zeroValue, Go.typeInfo, h]
  | some d => cases hz : d.zero <;> simp [Go.zeroValue, Go.typeInfo, h, hz]
end
end Go.Proofs.YtdafpnpfcmgfcaaGreat
