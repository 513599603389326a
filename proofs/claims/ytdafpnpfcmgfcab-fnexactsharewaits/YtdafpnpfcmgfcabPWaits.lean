/- Proved: at every book and every text the exact law of ShareWaits returns true on every schedule, without a data race, every other goroutine by then only leaving, and both read behind the call as they read before; no conditions. -/
import Derived.Test.YtdafpnpfcmgfcabRows
import Derived.Test.YtdafpnpfcmgfcabSk8
import Derived.Test.YtdafpnpfcmgfcabSkT
namespace Go.Proofs.Ytdafpnpfcmgfcab
open Go.ChangeShapes Go.WideShapes Go.ChangeAt Go.RowKit Go.Conc Go.ConcN
open Go.ChangeMaps (open_string)

set_option maxRecDepth 100000 in
theorem waits_lifted (os : Os) (started : os.Started) (H : Type) (enc : TypeId × Value → H) :
    ReturnsInLeavingWide {} Try.checked os 4 .any (Rows.fnExactShareWaitsSpec.pre6 enc Try.prog Try.f4 Rows.fnExactShareWaitsRow.domain false) (Rows.fnExactShareWaitsSpec.post enc Try.prog Try.f4 false true false false) := by
  refine returnsInLeavingWide_of_change_sized (C := Try.checked) moves_own started Try.func4
    (ChangeSpec.witness6 (enc := enc) (C := Try.checked) false ⟨#[], #[.agg #[.slice none 0 0, .slice none 0 0], .string .empty], []⟩ 8 (by kernel_rfl) (by kernel_rfl) (by kernel_rfl) (by kernel_rfl)) ?_
  intro W base args ds gs before hval0 hW _ hsz0 _
  have hsz : (DataW.weightsEach Try.prog (Try.f4.params.toList ++ Rows.fnExactShareWaitsSpec.plain.varTypes Try.prog) (ds ++ gs)).all (· ≤ reachBytes) = true := hsz0
  clear hsz0
  have hval : ∀ (j : Nat) t v, Try.f4.params[j]? = some t → args[j]? = some v → Value.okWide Try.prog W .any base t v := hval0
  have hW' := hW
  obtain ⟨p, q, hA0, hV, rfl, _, _⟩ := hW
  have hA : DataW.TrodAll enc Try.prog W 0 (fun _ => true) true Try.f4.params.toList args.toList ds p := hA0
  rw [Try.params4] at hA hval hsz
  obtain ⟨v0, v1, d0, d1, p0, p1, rfl, rfl, rfl, h0, h1⟩ := trodAll_two hA
  obtain ⟨rfl, rfl⟩ := trodVars_none hV
  have h0k := h0
  have h1k := h1
  clear hA0 hval0
  simp only [List.append_nil] at hW'
  have hlt : ∀ x ∈ p0 ++ p1, x.block < W.heap.size := fun x hx => by simpa using hW'.lt x hx
  have hargs0 : ∀ (W' : World), (∀ k, k < W.heap.size → W'.heap[k]? = W.heap[k]?) → DataW.Trod enc Try.prog W' 0 (fun b => decide (b < W.heap.size)) true 25 v0 d0 p0 :=
    fun W' hn => WideElems.Trod_stays moves_laidOut (by kernel_rfl) (of_decide_eq_true (by kernel_rfl)) h0k (fun x hx => same_of_blocks hn (hlt x (List.mem_append.2 (Or.inl hx)))) (fun x hx => by simpa using hlt x (List.mem_append.2 (Or.inl hx)))
  have hargs1 : ∀ (W' : World), (∀ k, k < W.heap.size → W'.heap[k]? = W.heap[k]?) → DataW.Trod enc Try.prog W' 0 (fun b => decide (b < W.heap.size)) true 9 v1 d1 p1 :=
    fun W' hn => WideElems.Trod_stays moves_laidOut (by kernel_rfl) (of_decide_eq_true (by kernel_rfl)) h1k (fun x hx => same_of_blocks hn (hlt x (List.mem_append.2 (Or.inr hx)))) (fun x hx => by simpa using hlt x (List.mem_append.2 (Or.inr hx)))
  have hwt : ∀ n, n ∈ DataW.weights Try.prog 25 d0 → n ≤ 140737488351232 := fun n hn =>
    of_decide_eq_true (List.all_eq_true.1 hsz n (DataW.weights_mem_each (j := 0) (t := 25) rfl rfl n hn))
  have hwt1 : ∀ n, n ∈ DataW.weights Try.prog 9 d1 → n ≤ 140737488351232 := fun n hn =>
    of_decide_eq_true (List.all_eq_true.1 hsz n (DataW.weights_mem_each (j := 1) (t := 9) rfl rfl n hn))
  obtain ⟨b, a1, a2, c1, c2, rfl, hb⟩ := open_book (hval 0 25 v0 rfl rfl) h0 hwt
  obtain ⟨s, rfl, rfl, rfl, hs⟩ := open_string Try.underlying9 (hval 1 9 v1 rfl rfl) h1
  have hlen : s.toList.length ≤ 140737488355328 := by
    have := hwt1 s.data.toList.length (by simp [DataW.weights])
    rw [ByteArray.toList_eq]; omega
  obtain ⟨M, last, o, w', t', h1, h2, h3, h4⟩ := run_of_law (W := W) Try.func4 (by kernel_rfl) (fun hfl => lawWaits_m b s.toList a1 a2 c1 c2 (veiled W) hb.veiled hfl hlen)
  rw [← S_ex] at h1 h2
  refine ⟨M, last, o, w', t', h1, h2, h3, h4.mono fun v hF => ?_⟩
  obtain ⟨rfl, hos, hout, _, hlow⟩ := hF
  refine ⟨_, _, _, [], p0 ++ [], [], hW', ?_, ?_, rfl, kept_of_blocks hos hout hlow _, fun h => by cases h⟩
  · exact trodAll_mk1 (shut_bool Try.underlying4 true)
  · exact trodAll_mk2 (hargs0 _ hlow) (hargs1 _ hlow)

theorem fnExactShareWaits_holds : Rows.FnExactShareWaitsSaid :=
  OpenClaim.holds_of_wide_leaving 4 Try.f4 rfl rfl rfl rfl rfl rfl rfl ⟨rfl, rfl, rfl, rfl, rfl⟩ rfl rfl rfl rfl rfl (by kernel_rfl) Try.func4 (by kernel_rfl)
    (of_decide_eq_true (by kernel_rfl)) (by unfold Func.isWrapper; first | (rw [if_pos (by decide +kernel)]; kernel_rfl) | (rw [if_neg (by decide +kernel)]; exact ⟨rfl, rfl⟩))
    (fun os started H enc _ => waits_lifted os started H enc)

end Go.Proofs.Ytdafpnpfcmgfcab
