/- Proved: at every book the exact law of ShareMoves returns true on every schedule, without a data race, every other goroutine by then only leaving, and the book reads behind the call as it read before; no conditions. -/
import Derived.Test.YtdafpnpfcmgfcabRows
import Derived.Test.YtdafpnpfcmgfcabSk6
import Derived.Test.YtdafpnpfcmgfcabOpen
import Derived.Conc.LeavingOf
namespace Go.Proofs.Ytdafpnpfcmgfcab
open Go.ChangeShapes Go.WideShapes Go.ChangeAt Go.RowKit Go.Conc Go.ConcN

theorem moves_own : ownKnob Try.prog.godebug = none := by kernel_rfl
theorem moves_laidOut : laidOutB Try.prog = true := by kernel_rfl

theorem BookAt.veiled {W : World} {a1 a2 : Option Addr} {b : Book} (h : BookAt W a1 a2 b) : BookAt (veiled W) a1 a2 b := by
  have hc : ∀ p, (Go.Proofs.Ytdafpnpfcmgfcab.veiled W).cell? p = W.cell? p := fun p => (cp_veiled W).cell (fun h => h)
  simp only [BookAt, StrsAt, BatchesAt, BatchCells, hc] at h ⊢
  exact h
theorem same_of_blocks {W w' : World} (h : ∀ k, k < W.heap.size → w'.heap[k]? = W.heap[k]?) {p : MemPlace} (hp : p.block < W.heap.size) : W.sameAt w' p := by
  cases p with
  | cell b o => exact World.cell?_of_block (w := W) (h b hp)
  | map b => exact h b hp
theorem kept_of_blocks {W w' : World} (h1 : w'.os = W.os) (h2 : w'.output = W.output) (h : ∀ k, k < W.heap.size → w'.heap[k]? = W.heap[k]?) (may : MemPlace → Prop) : W.keptBut w' may := by
  refine ⟨h1, h2, fun i hi => ?_⟩
  rw [h i hi]
  split <;> simp_all

set_option maxRecDepth 100000 in
theorem moves_lifted (os : Os) (started : os.Started) (H : Type) (enc : TypeId × Value → H) :
    ReturnsInLeavingWide {} Try.checked os 3 .any (Rows.fnExactShareMovesSpec.pre6 enc Try.prog Try.f3 Rows.fnExactShareMovesRow.domain false) (Rows.fnExactShareMovesSpec.post enc Try.prog Try.f3 false true false false) := by
  refine returnsInLeavingWide_of_change_sized (C := Try.checked) moves_own started Try.func3
    (ChangeSpec.witness6 (enc := enc) (C := Try.checked) false ⟨#[], #[.agg #[.slice none 0 0, .slice none 0 0]], []⟩ 8 (by kernel_rfl) (by kernel_rfl) (by kernel_rfl) (by kernel_rfl)) ?_
  intro W base args ds gs before hval0 hW _ hsz0 _
  have hsz : (DataW.weightsEach Try.prog (Try.f3.params.toList ++ Rows.fnExactShareMovesSpec.plain.varTypes Try.prog) (ds ++ gs)).all (· ≤ reachBytes) = true := hsz0
  clear hsz0
  have hval : ∀ (j : Nat) t v, Try.f3.params[j]? = some t → args[j]? = some v → Value.okWide Try.prog W .any base t v := hval0
  have hW' := hW
  obtain ⟨p, q, hA0, hV, rfl, _, _⟩ := hW
  have hA : DataW.TrodAll enc Try.prog W 0 (fun _ => true) true Try.f3.params.toList args.toList ds p := hA0
  rw [Try.params3] at hA hval hsz
  obtain ⟨v0, d0, rfl, rfl, h0⟩ := trodAll_one hA
  obtain ⟨rfl, rfl⟩ := trodVars_none hV
  have h0k := h0
  clear hA0 hval0
  simp only [List.append_nil] at hW'
  have hlt : ∀ x ∈ p, x.block < W.heap.size := fun x hx => by simpa using hW'.lt x hx
  have hargs : ∀ (W' : World), (∀ k, k < W.heap.size → W'.heap[k]? = W.heap[k]?) → DataW.Trod enc Try.prog W' 0 (fun b => decide (b < W.heap.size)) true 25 v0 d0 p :=
    fun W' hn => WideElems.Trod_stays moves_laidOut (by kernel_rfl) (of_decide_eq_true (by kernel_rfl)) h0k (fun x hx => same_of_blocks hn (hlt x hx)) (fun x hx => by simpa using hlt x hx)
  have hwt : ∀ n, n ∈ DataW.weights Try.prog 25 d0 → n ≤ 140737488351232 := fun n hn => by
    have := List.all_eq_true.1 hsz n (DataW.weights_mem_each (j := 0) (t := 25) rfl rfl n hn)
    exact of_decide_eq_true this
  obtain ⟨b, a1, a2, c1, c2, rfl, hb⟩ := open_book (hval 0 25 v0 rfl rfl) h0 hwt
  obtain ⟨M, last, o, w', t', h1, h2, h3, h4⟩ := mw_top (P := Try.prog) (Post := fun r => r = .bool true) (args := #[.agg #[.slice a1 b.things.length c1, .slice a2 b.batches.length c2]]) (W := W) Try.func3 (by kernel_rfl) (fun hfl => by
    obtain ⟨c, hc, hm⟩ := lawMoves_m b a1 a2 c1 c2 (veiled W) hb.veiled (by rw [veiled_size, hfl]; exact Nat.le_refl _)
    exact ⟨c, hc, hm.mono fun e a' v' h => by
      cases e with
      | normal => obtain ⟨h1, r, h2, h3, h4⟩ := h; exact ⟨h1, r, h2, h3, h4.size, h4.low, h4.os, h4.output⟩
      | ret => obtain ⟨h1, r, h2, h3, h4⟩ := h; exact ⟨h1, r, h2, h3, h4.size, h4.low, h4.os, h4.output⟩
      | _ => exact h⟩)
  refine ⟨M, last, o, w', t', h1, h2, h3, h4.mono fun v hF => ?_⟩
  obtain ⟨rfl, hos, hout, _, hlow⟩ := hF
  refine ⟨_, _, _, [], p, [], hW', ?_, ?_, rfl, kept_of_blocks hos hout hlow _, fun h => by cases h⟩
  · exact trodAll_mk1 (shut_bool Try.underlying4 true)
  · exact trodAll_mk1 (hargs _ hlow)

theorem fnExactShareMoves_holds : Rows.FnExactShareMovesSaid :=
  OpenClaim.holds_of_wide_leaving 3 Try.f3 rfl rfl rfl rfl rfl rfl rfl ⟨rfl, rfl, rfl, rfl, rfl⟩ rfl rfl rfl rfl rfl (by kernel_rfl) Try.func3 (by kernel_rfl)
    (of_decide_eq_true (by kernel_rfl)) (by unfold Func.isWrapper; first | (rw [if_pos (by decide +kernel)]; kernel_rfl) | (rw [if_neg (by decide +kernel)]; exact ⟨rfl, rfl⟩))
    (fun os started H enc _ => moves_lifted os started H enc)
end Go.Proofs.Ytdafpnpfcmgfcab
