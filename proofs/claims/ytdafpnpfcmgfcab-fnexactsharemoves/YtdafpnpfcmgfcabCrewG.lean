/- The looks, in company: canGo. -/
import Derived.Test.YtdafpnpfcmgfcabCrewW
import Derived.Conc.CompanyMem
namespace Go.Proofs.Ytdafpnpfcmgfcab
open Go Go.Conc Go.ConcN Go.RowKit Go.Conc.Lib Go.ConcR.Gen Go.ConcN.Gen
open Go.ConcR (Payload)

/-- What is held while a worker looks. -/
structure Hg (B0 i : Nat) (w0 wS w : World) : Prop where
  low : ∀ b k x, b ≤ B0 → w0.cell? ⟨b, k, none⟩ = some x → w.cell? ⟨b, k, none⟩ = some x
  st : RW 93 (B0 + 2) (B0 + 3 + i) 1 (B0 + 1) 0 wS w
section
variable {S : Nat → Prop} {B0 bs i : Nat} {w0 wS w w₁ : World}
theorem Hg.rely (h : Hg B0 i w0 wS w) (r : RW 93 (B0 + 2) (B0 + 3 + i) 1 (B0 + 1) 0 w w₁) : Hg B0 i w0 wS w₁ :=
  ⟨fun b k x hb hx => (cell_of_block (r.low b (by omega) (by omega) (by omega)) k).trans (h.low b k x hb hx), RW.trans h.st r⟩
theorem Hg.cell (h : Hg B0 i w0 wS w) {b k : Nat} {x : Value} (hb : b ≤ B0 ∧ ¬ S b) (hc : w0.cell? ⟨b, k, none⟩ = some x) : w.cell? ⟨b, k, none⟩ = some x := h.low b k x hb.1 hc
theorem drawW : LetsDraw (DWs (B0 + 2) NoOwn (RdW S B0 bs i) (B0 + 3 + i) 1 1) := fun _ => ⟨⟨rfl, rfl, rfl, rfl, fun _ _ => rfl, id, fun _ _ => rfl⟩, by simp⟩
theorem ownDrawW (w : World) : RW 93 (B0 + 2) (B0 + 3 + i) 1 (B0 + 1) 0 w { w with drawn := w.drawn + 1 } := ⟨fun _ _ _ _ => rfl, id, id, rfl⟩
end

set_option maxRecDepth 100000 in
set_option maxHeartbeats 2000000 in
theorem canGo_c {S : Nat → Prop} {B0 bs i : Nat} {w0 : World} {g bg b1 b2 k1 k2 n1 n2 n3 : Nat} {free h d : Int} {gone : Bool} (hS : ∀ b, S b → b < B0) (hg : g ≤ B0 ∧ ¬ S g) (hbg : bg ≤ B0 ∧ ¬ S bg) (hb1 : b1 ≤ B0 ∧ ¬ S b1) (hb2 : b2 ≤ B0 ∧ ¬ S b2)
    (c0 : w0.cell? ⟨g, 0, none⟩ = some (.slice (some ⟨b1, 0, none⟩) n1 k1)) (c1 : w0.cell? ⟨g, 1, none⟩ = some (.slice (some ⟨b2, 0, none⟩) n2 k2)) (c2 : w0.cell? ⟨g, 2, none⟩ = some (.slice (some ⟨bg, 0, none⟩) n3 n3)) (c3 : w0.cell? ⟨g, 3, none⟩ = some (.int .u64 free))
    (r : w0.cell? ⟨bg, i, none⟩ = some (.bool gone)) (q1 : w0.cell? ⟨b1, i, none⟩ = some (.int .u64 h)) (q2 : w0.cell? ⟨b2, i, none⟩ = some (.int .u64 d)) (h1 : i < n1) (h2 : i < n2) (h3 : i < n3) (hwr : IntKind.u64.wrap (free + h) = free + h) :
    ∃ nf, ∀ w, (∀ b k x, b ≤ B0 → w0.cell? ⟨b, k, none⟩ = some x → w.cell? ⟨b, k, none⟩ = some x) → CallsC Try.prog false (RWk 93 B0 i) (DWk S B0 bs i) 25 #[.pointer (some ⟨g, 0, none⟩), .int .i64 i] nf w (fun r w' => r = .bool (!gone && (bits .andNot .u64 d (free + h) == 0)) ∧ RWk 93 B0 i w w') := by
  have hi0 : (0 : Int) ≤ (i : Int) := by omega
  have hi1 : (i : Int) < (n1 : Int) := by omega
  have hi2 : (i : Int) < (n2 : Int) := by omega
  have hi3 : (i : Int) < (n3 : Int) := by omega
  unfold RWk DWk
  cases gone with
  | false =>
    co_apply Exists.intro
    intro wS hlow
    have hF : Hg B0 i w0 wS wS := ⟨hlow, RW.refl _⟩
    clear hlow
    co_apply callsC_of_wpC Try.func25 (by rfl) rfl
    simp only [Try.ntmps25, List.size_toArray, List.length_cons, List.length_nil, Nat.reduceAdd, Nat.reduceSub, Array.replicate_succ, Array.replicate_zero, List.push_toArray, List.append_toArray, List.nil_append, List.cons_append]
    co_stmt termsW Hg.rely hF (co_quiet termsW)
    co_apply wpC_seq termsW
    co_held termsW drawW ownDrawW (Hg B0 i w0 wS) Hg.rely hF
    co_take 0 termsW Hg.rely hF hw (skip) (co_quiet termsW)
    co_take 1 termsW Hg.rely hF hw (skip) (co_quiet termsW)
    co_take 2 termsW Hg.rely hF hw (skip) (co_quiet termsW)
    co_take 3 termsW Hg.rely hF hw (have hc := hw.cell hg c3) (refine ⟨AsideCell.refl _ _ _ _, ?_⟩; co_evs (exact evW_rd hS _ _ (.inl (by assumption))))
    co_take 4 termsW Hg.rely hF hw (skip) (co_quiet termsW)
    co_take 5 termsW Hg.rely hF hw (skip) (co_quiet termsW)
    co_take 6 termsW Hg.rely hF hw (skip) (co_quiet termsW)
    co_take 7 termsW Hg.rely hF hw (have hc := hw.cell hg c0) (refine ⟨AsideCell.refl _ _ _ _, ?_⟩; co_evs (exact evW_rd hS _ _ (.inl (by assumption))))
    co_take 8 termsW Hg.rely hF hw (skip) (co_quiet termsW)
    co_take 9 termsW Hg.rely hF hw (skip) (co_still termsW)
    co_take 10 termsW Hg.rely hF hw (have hc := hw.cell hb1 q1) (refine ⟨AsideCell.refl _ _ _ _, ?_⟩; co_evs (exact evW_rd hS _ _ (.inl (by assumption))))
    co_take 11 termsW Hg.rely hF hw (skip) (co_still termsW)
    co_take 12 termsW Hg.rely hF hw (skip) (co_quiet termsW)
    co_done
    co_apply wpC_seq termsW
    co_reg termsW
    co_op Hg.rely hF (co_quiet termsW)
    co_op Hg.rely hF (co_quiet termsW)
    co_op Hg.rely hF (co_quiet termsW)
    co_opw Hg.rely hF (have hc := hF.cell hg c2) (refine ⟨AsideCell.refl _ _ _ _, ?_⟩; co_evs (exact evW_rd hS _ _ (.inl (by assumption))))
    co_op Hg.rely hF (co_quiet termsW)
    co_op Hg.rely hF (co_still termsW)
    co_opw Hg.rely hF (have hc := hF.cell hbg r) (refine ⟨AsideCell.refl _ _ _ _, ?_⟩; co_evs (exact evW_rd hS _ _ (.inl (by assumption))))
    co_op Hg.rely hF (co_quiet termsW)
    co_op Hg.rely hF (co_quiet termsW)
    co_op Hg.rely hF (co_quiet termsW)
    co_op Hg.rely hF (co_quiet termsW)
    co_op Hg.rely hF (co_quiet termsW)
    co_opw Hg.rely hF (have hc := hF.cell hg c1) (refine ⟨AsideCell.refl _ _ _ _, ?_⟩; co_evs (exact evW_rd hS _ _ (.inl (by assumption))))
    co_op Hg.rely hF (co_quiet termsW)
    co_op Hg.rely hF (co_still termsW)
    co_opw Hg.rely hF (have hc := hF.cell hb2 q2) (refine ⟨AsideCell.refl _ _ _ _, ?_⟩; co_evs (exact evW_rd hS _ _ (.inl (by assumption))))
    co_op Hg.rely hF (co_quiet termsW)
    co_op Hg.rely hF (co_still termsW)
    co_op Hg.rely hF (co_still termsW)
    co_op Hg.rely hF (co_quiet termsW)
    co_op Hg.rely hF (co_quiet termsW)
    co_apply opsC_nil termsW
    co_then
    co_ctl termsW
    exact ⟨rfl, _, resultsC_tmp (by rfl) _, by simp, hF.st⟩
  | true =>
    co_apply Exists.intro
    intro wS hlow
    have hF : Hg B0 i w0 wS wS := ⟨hlow, RW.refl _⟩
    clear hlow
    co_apply callsC_of_wpC Try.func25 (by rfl) rfl
    simp only [Try.ntmps25, List.size_toArray, List.length_cons, List.length_nil, Nat.reduceAdd, Nat.reduceSub, Array.replicate_succ, Array.replicate_zero, List.push_toArray, List.append_toArray, List.nil_append, List.cons_append]
    co_stmt termsW Hg.rely hF (co_quiet termsW)
    co_apply wpC_seq termsW
    co_held termsW drawW ownDrawW (Hg B0 i w0 wS) Hg.rely hF
    co_take 0 termsW Hg.rely hF hw (skip) (co_quiet termsW)
    co_take 1 termsW Hg.rely hF hw (skip) (co_quiet termsW)
    co_take 2 termsW Hg.rely hF hw (skip) (co_quiet termsW)
    co_take 3 termsW Hg.rely hF hw (have hc := hw.cell hg c3) (refine ⟨AsideCell.refl _ _ _ _, ?_⟩; co_evs (exact evW_rd hS _ _ (.inl (by assumption))))
    co_take 4 termsW Hg.rely hF hw (skip) (co_quiet termsW)
    co_take 5 termsW Hg.rely hF hw (skip) (co_quiet termsW)
    co_take 6 termsW Hg.rely hF hw (skip) (co_quiet termsW)
    co_take 7 termsW Hg.rely hF hw (have hc := hw.cell hg c0) (refine ⟨AsideCell.refl _ _ _ _, ?_⟩; co_evs (exact evW_rd hS _ _ (.inl (by assumption))))
    co_take 8 termsW Hg.rely hF hw (skip) (co_quiet termsW)
    co_take 9 termsW Hg.rely hF hw (skip) (co_still termsW)
    co_take 10 termsW Hg.rely hF hw (have hc := hw.cell hb1 q1) (refine ⟨AsideCell.refl _ _ _ _, ?_⟩; co_evs (exact evW_rd hS _ _ (.inl (by assumption))))
    co_take 11 termsW Hg.rely hF hw (skip) (co_still termsW)
    co_take 12 termsW Hg.rely hF hw (skip) (co_quiet termsW)
    co_done
    co_apply wpC_seq termsW
    co_reg termsW
    co_op Hg.rely hF (co_quiet termsW)
    co_op Hg.rely hF (co_quiet termsW)
    co_op Hg.rely hF (co_quiet termsW)
    co_opw Hg.rely hF (have hc := hF.cell hg c2) (refine ⟨AsideCell.refl _ _ _ _, ?_⟩; co_evs (exact evW_rd hS _ _ (.inl (by assumption))))
    co_op Hg.rely hF (co_quiet termsW)
    co_op Hg.rely hF (co_still termsW)
    co_opw Hg.rely hF (have hc := hF.cell hbg r) (refine ⟨AsideCell.refl _ _ _ _, ?_⟩; co_evs (exact evW_rd hS _ _ (.inl (by assumption))))
    co_op Hg.rely hF (co_quiet termsW)
    co_op Hg.rely hF (co_quiet termsW)
    co_apply opsC_unwanted termsW rfl (by rfl)
    walk_nrm
    co_apply opsC_unwanted termsW rfl (by rfl)
    walk_nrm
    co_apply opsC_unwanted termsW rfl (by rfl)
    walk_nrm
    co_apply opsC_unwanted termsW rfl (by rfl)
    walk_nrm
    co_apply opsC_unwanted termsW rfl (by rfl)
    walk_nrm
    co_apply opsC_unwanted termsW rfl (by rfl)
    walk_nrm
    co_apply opsC_unwanted termsW rfl (by rfl)
    walk_nrm
    co_apply opsC_unwanted termsW rfl (by rfl)
    walk_nrm
    co_apply opsC_unwanted termsW rfl (by rfl)
    walk_nrm
    co_apply opsC_unwanted termsW rfl (by rfl)
    walk_nrm
    co_op Hg.rely hF (co_quiet termsW)
    co_op Hg.rely hF (co_quiet termsW)
    co_apply opsC_nil termsW
    co_then
    co_ctl termsW
    exact ⟨rfl, _, resultsC_tmp (by rfl) _, by simp, hF.st⟩
end Go.Proofs.Ytdafpnpfcmgfcab
