/- From a book as the call meets it to the whole run: what rows of calls that go have in common. -/
import Derived.Test.YtdafpnpfcmgfcabSk5
import Derived.Test.YtdafpnpfcmgfcabSk3
import Derived.Test.YtdafpnpfcmgfcabOpen
import Derived.Conc.LeavingOf
namespace Go.Proofs.Ytdafpnpfcmgfcab
open Go.ChangeShapes Go.WideShapes Go.ChangeAt Go.RowKit Go.Conc Go.ConcN

theorem moves_own : ownKnob Try.prog.godebug = none := by kernel_rfl
theorem moves_laidOut : laidOutB Try.prog = true := by kernel_rfl

theorem BookAt.veiled {W : World} {a1 a2 : Option Addr} {b : Book} (h : BookAt W a1 a2 b) : BookAt (veiled W) a1 a2 b := by
  have hc : ∀ p, (Go.Proofs.Ytdafpnpfcmgfcab.veiled W).cell? p = W.cell? p := fun p => (cp_veiled W).cell (fun h => h)
  simp only [BookAt, StrsAt, BatchesAt, BatchCells, hc] at h ⊢
  exact h
theorem same_of_blocks {W w' : World} (h : ∀ k, k < W.heap.size → w'.heap[k]? = W.heap[k]?) {p : MemPlace} (hp : p.block < W.heap.size) : W.sameAt w' p := by
  cases p with
  | cell b o => exact World.cell?_of_block (w := W) (h b hp)
  | map b => exact h b hp
theorem kept_of_blocks {W w' : World} (h1 : w'.os = W.os) (h2 : w'.output = W.output) (h : ∀ k, k < W.heap.size → w'.heap[k]? = W.heap[k]?) (may : MemPlace → Prop) : W.keptBut w' may := by
  refine ⟨h1, h2, fun i hi => ?_⟩
  rw [h i hi]
  split <;> simp_all

/-- From the law's walk to its run. -/
theorem run_of_law {f : FuncId} {fn : Func} {args : Array Value} {W : World} (hf : Try.prog.funcs[f]? = some fn) (hi : Try.prog.inits.idxOf? f = none)
    (H : ∀ [Floor], Floor.low ≤ (veiled W).heap.size → BodyM Try.prog fn args (veiled W) (fun r v' => r = .bool true ∧ Grew (veiled W) v')) :
    ∃ M last o w' t', runNT Try.prog (M + 1) (solo (G (Frame.enter Try.prog f args .normal) []) W) #[] = (.ended o w', t') ∧ runN Try.prog M (solo (G (Frame.enter Try.prog f args .normal) []) W) = .next last ∧ step Try.prog last = .ended o w' ∧ Conc.Good Try.prog (Kept0 W (fun r => r = .bool true)) last o w' t' :=
  mw_top hf hi (fun hfl => by
    obtain ⟨c, hc, hm⟩ := H (by rw [veiled_size, hfl]; exact Nat.le_refl _)
    exact ⟨c, hc, hm.mono fun e a' v' h => by
      cases e with
      | normal => obtain ⟨h1, r, h2, h3, h4⟩ := h; exact ⟨h1, r, h2, h3, h4.size, h4.low, h4.os, h4.output⟩
      | ret => obtain ⟨h1, r, h2, h3, h4⟩ := h; exact ⟨h1, r, h2, h3, h4.size, h4.low, h4.os, h4.output⟩
      | _ => exact h⟩)
end Go.Proofs.Ytdafpnpfcmgfcab
