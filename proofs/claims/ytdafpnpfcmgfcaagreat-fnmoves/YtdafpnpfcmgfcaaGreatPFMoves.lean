/- Proved: at every two codes the law FnMoves returns true on every schedule, without a data race, every other goroutine by then only leaving (who of a drawn book can have all they need waits on nobody; one that is stuck is not safe), and both read behind the call as they read before; no conditions. -/
import Derived.Test.YtdafpnpfcmgfcaaGreatRows
import Derived.Test.YtdafpnpfcmgfcaaGreatSk11
import Derived.Test.YtdafpnpfcmgfcaaGreatKA
namespace Go.Proofs.YtdafpnpfcmgfcaaGreat
open Go.ChangeShapes Go.WideShapes Go.ChangeAt Go.RowKit Go.Conc Go.ConcN

theorem BytesAt.veiled {W : World} {a : Option Addr} {n : Nat} (h : BytesAt W a n) : BytesAt (veiled W) a n := by
  have hc : ∀ p, (Go.Proofs.YtdafpnpfcmgfcaaGreat.veiled W).cell? p = W.cell? p := fun p => (cp_veiled W).cell (fun h => h)
  simp only [BytesAt, hc] at h ⊢
  exact h

set_option maxRecDepth 100000 in
theorem fnMoves_lifted (os : Os) (started : os.Started) (H : Type) (enc : TypeId × Value → H) :
    ReturnsInLeavingWide {} Tryz.checked os 3 .any (Rows.fnMovesSpec.pre6 enc Tryz.prog Tryz.f3 Rows.fnMovesRow.domain false) (Rows.fnMovesSpec.post enc Tryz.prog Tryz.f3 false true false false) := by
  refine returnsInLeavingWide_of_change_sized (C := Tryz.checked) moves_own started Tryz.func3
    (ChangeSpec.witness6 (enc := enc) (C := Tryz.checked) false ⟨#[], #[.slice none 0 0, .slice none 0 0], []⟩ 8 (by kernel_rfl) (by kernel_rfl) (by kernel_rfl) (by kernel_rfl)) ?_
  intro W base args ds gs before hval0 hW _ hsz0 _
  have hsz : (DataW.weightsEach Tryz.prog (Tryz.f3.params.toList ++ Rows.fnMovesSpec.plain.varTypes Tryz.prog) (ds ++ gs)).all (· ≤ reachBytes) = true := hsz0
  clear hsz0
  have hval : ∀ (j : Nat) t v, Tryz.f3.params[j]? = some t → args[j]? = some v → Value.okWide Tryz.prog W .any base t v := hval0
  have hW' := hW
  obtain ⟨p, q, hA0, hV, rfl, _, _⟩ := hW
  have hA : DataW.TrodAll enc Tryz.prog W 0 (fun _ => true) true Tryz.f3.params.toList args.toList ds p := hA0
  rw [Tryz.params3] at hA hval hsz
  obtain ⟨v0, v1, d0, d1, p0, p1, rfl, rfl, rfl, h0, h1⟩ := trodAll_two hA
  obtain ⟨rfl, rfl⟩ := trodVars_none hV
  have h0k := h0
  have h1k := h1
  clear hA0 hval0
  simp only [List.append_nil] at hW'
  have hlt : ∀ x ∈ p0 ++ p1, x.block < W.heap.size := fun x hx => by simpa using hW'.lt x hx
  have hargs0 : ∀ (W' : World), (∀ k, k < W.heap.size → W'.heap[k]? = W.heap[k]?) → DataW.Trod enc Tryz.prog W' 0 (fun b => decide (b < W.heap.size)) true 22 v0 d0 p0 :=
    fun W' hn => WideElems.Trod_stays moves_laidOut (by kernel_rfl) (of_decide_eq_true (by kernel_rfl)) h0k (fun x hx => same_of_blocks hn (hlt x (List.mem_append.2 (Or.inl hx)))) (fun x hx => by simpa using hlt x (List.mem_append.2 (Or.inl hx)))
  have hargs1 : ∀ (W' : World), (∀ k, k < W.heap.size → W'.heap[k]? = W.heap[k]?) → DataW.Trod enc Tryz.prog W' 0 (fun b => decide (b < W.heap.size)) true 22 v1 d1 p1 :=
    fun W' hn => WideElems.Trod_stays moves_laidOut (by kernel_rfl) (of_decide_eq_true (by kernel_rfl)) h1k (fun x hx => same_of_blocks hn (hlt x (List.mem_append.2 (Or.inr hx)))) (fun x hx => by simpa using hlt x (List.mem_append.2 (Or.inr hx)))
  have hwt0 : ∀ n, n ∈ DataW.weights Tryz.prog 22 d0 → n ≤ 140737488351232 := fun n hn =>
    of_decide_eq_true (List.all_eq_true.1 hsz n (DataW.weights_mem_each (j := 0) (t := 22) rfl rfl n hn))
  have hwt1 : ∀ n, n ∈ DataW.weights Tryz.prog 22 d1 → n ≤ 140737488351232 := fun n hn =>
    of_decide_eq_true (List.all_eq_true.1 hsz n (DataW.weights_mem_each (j := 1) (t := 22) rfl rfl n hn))
  obtain ⟨a, n, c, rfl, hb, hnc, hcc⟩ := open_code (hval 0 22 v0 rfl rfl) h0 hwt0
  obtain ⟨a', n', c', rfl, hb', hnc', hcc'⟩ := open_code (hval 1 22 v1 rfl rfl) h1 hwt1
  obtain ⟨M, last, o, w', t', h1, h2, h3, h4⟩ := run_of_law (W := W) Tryz.func3 (by kernel_rfl) (fun hfl => lawMv_m a a' n n' c c' (veiled W) hb.veiled hb'.veiled hnc hcc hnc' hcc' hfl)
  refine ⟨M, last, o, w', t', h1, h2, h3, h4.mono fun v hF => ?_⟩
  obtain ⟨rfl, hos, hout, _, hlow⟩ := hF
  refine ⟨_, _, _, [], p0 ++ p1, [], hW', ?_, ?_, rfl, kept_of_blocks hos hout hlow _, fun h => by cases h⟩
  · exact trodAll_mk1 (shut_bool Tryz.underlying4 true)
  · exact trodAll_mk2 (hargs0 _ hlow) (hargs1 _ hlow)

theorem fnMoves_holds : Rows.FnMovesSaid :=
  OpenClaim.holds_of_wide_leaving 3 Tryz.f3 rfl rfl rfl rfl rfl rfl rfl ⟨rfl, rfl, rfl, rfl, rfl⟩ rfl rfl rfl rfl rfl (by kernel_rfl) Tryz.func3 (by kernel_rfl)
    (of_decide_eq_true (by kernel_rfl)) (by unfold Func.isWrapper; first | (rw [if_pos (by decide +kernel)]; kernel_rfl) | (rw [if_neg (by decide +kernel)]; exact ⟨rfl, rfl⟩))
    (fun os started H enc _ => fnMoves_lifted os started H enc)

end Go.Proofs.YtdafpnpfcmgfcaaGreat
