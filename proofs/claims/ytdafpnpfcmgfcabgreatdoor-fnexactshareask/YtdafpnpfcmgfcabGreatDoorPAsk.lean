/- Proved: at every book, every name and every list of texts the exact law of ShareAsk returns true, and all three read behind the call as they read before; the one listed package-level variable of the library is tied to the program's text. -/
import Derived.Test.YtdafpnpfcmgfcabGreatDoorRows
import Derived.Test.YtdafpnpfcmgfcabGreatDoorCards
import Derived.Test.YtdafpnpfcmgfcabGreatDoorTie
import Derived.Test.YtdafpnpfcmgfcabGreatDoorLAsk
import Derived.Test.YtdafpnpfcmgfcabGreatDoorOpen
import Derived.Test.YtdafpnpfcmgfcabGreatDoorLaid
namespace Go.Proofs.YtdafpnpfcmgfcabGreatDoor
open Go.ChangeShapes Go.WideShapes Go.ChangeAt Go.RowKit
open Go.ChangeMaps (open_string)

set_option maxRecDepth 100000 in
theorem ask_lifted (os : Os) (started : os.Started) (H : Type) (enc : TypeId × Value → H) :
    ReturnsInHanded {} Tryz.checked os 3 .any (fun w args => (Rows.fnExactShareAskSpec.pre enc Tryz.prog Tryz.f3 [] false w args ∧ laidMetH Tryz.prog laidL w) ∧ sizedMet enc Tryz.prog Tryz.f3 (OpenSpec.ofChange Rows.fnExactShareAskSpec) false w args)
      (Rows.fnExactShareAskSpec.post enc Tryz.prog Tryz.f3 false true false false) := by
  refine returnsInHanded_of_change_and (C := Tryz.checked) (X := fun w _ => laidMetH Tryz.prog laidL w) (fun _ _ _ hh h => h.of_heap hh) law_own started (by kernel_rfl) Tryz.func3
    (ChangeSpec.witness_at (enc := enc) (C := Tryz.checked) (os := os) (X := fun w _ => laidMetH Tryz.prog laidL w) false (laidWorld os) #[.agg #[.slice none 0 0, .slice none 0 0], .string .empty, .slice none 0 0] 8 rfl (by kernel_rfl) (by kernel_rfl) (by kernel_rfl) (by kernel_rfl) (by kernel_rfl) (laidWorld_met os _)) ?_
  intro W base args ds gs before hval0 hW _ hsz0 hL _
  have hg := handle_of_laid hL
  have hsz : (DataW.weightsEach Tryz.prog (Tryz.f3.params.toList ++ Rows.fnExactShareAskSpec.plain.varTypes Tryz.prog) (ds ++ gs)).all (· ≤ reachBytes) = true := hsz0
  clear hsz0
  have hval : ∀ (j : Nat) t v, Tryz.f3.params[j]? = some t → args[j]? = some v → Value.okWide Tryz.prog W .any base t v := hval0
  have hW' := hW
  obtain ⟨p, q, hA0, hV, rfl, _, _⟩ := hW
  have hA : DataW.TrodAll enc Tryz.prog W 0 (fun _ => true) true Tryz.f3.params.toList args.toList ds p := hA0
  rw [Tryz.params3] at hA hval hsz
  obtain ⟨v0, v1, v2, d0, d1, d2, p0, p1, p2, rfl, rfl, rfl, h0, h1, h2⟩ := trodAll_three hA
  obtain ⟨rfl, rfl⟩ := trodVars_none hV
  have h0k := h0
  have h1k := h1
  have h2k := h2
  clear hA0 hval0
  simp only [List.append_nil] at hW'
  have hlt : ∀ x ∈ p0 ++ (p1 ++ p2), x.block < W.heap.size := fun x hx => by simpa using hW'.lt x (by simpa using hx)
  have hargs0 : ∀ (W' : World), Below W.heap.size W W' → DataW.Trod enc Tryz.prog W' 0 (fun b => decide (b < W.heap.size)) true 25 v0 d0 p0 :=
    fun W' hn => Below.trod law_laidOut (by kernel_rfl) (of_decide_eq_true (by kernel_rfl)) h0k hn (fun x hx => hlt x (by simp [hx]))
  have hargs1 : ∀ (W' : World), Below W.heap.size W W' → DataW.Trod enc Tryz.prog W' 0 (fun b => decide (b < W.heap.size)) true 9 v1 d1 p1 :=
    fun W' hn => Below.trod law_laidOut (by kernel_rfl) (of_decide_eq_true (by kernel_rfl)) h1k hn (fun x hx => hlt x (by simp [hx]))
  have hargs2 : ∀ (W' : World), Below W.heap.size W W' → DataW.Trod enc Tryz.prog W' 0 (fun b => decide (b < W.heap.size)) true 22 v2 d2 p2 :=
    fun W' hn => Below.trod law_laidOut (by kernel_rfl) (of_decide_eq_true (by kernel_rfl)) h2k hn (fun x hx => hlt x (by simp [hx]))
  have hwt : ∀ n, n ∈ DataW.weights Tryz.prog 25 d0 → n ≤ 140737488351232 := fun n hn =>
    of_decide_eq_true (List.all_eq_true.1 hsz n (DataW.weights_mem_each (j := 0) (t := 25) rfl rfl n hn))
  have hwt2 : ∀ n, n ∈ DataW.weights Tryz.prog 22 d2 → n ≤ 140737488351232 := fun n hn =>
    of_decide_eq_true (List.all_eq_true.1 hsz n (DataW.weights_mem_each (j := 2) (t := 22) rfl rfl n hn))
  obtain ⟨b, a1, a2, c1, c2, rfl, hb⟩ := open_book (hval 0 25 v0 rfl rfl) h0 hwt
  obtain ⟨s, rfl, rfl, rfl, _⟩ := open_string Tryz.underlying9 (hval 1 9 v1 rfl rfl) h1
  obtain ⟨a0, len, cap, rfl⟩ := okWide_slice Tryz.underlying22 (hval 2 22 v2 rfl rfl)
  obtain ⟨fuel, hf⟩ := h2
  obtain ⟨order, a3, c3, e3, ho⟩ := open_strsAt (v := .slice a0 len cap) (by simpa [Value.cells] using hf) hwt2
  rw [e3] at hargs2 hW' ⊢
  have hcall := fnExactShareAsk_any b s.toList order a1 a2 a3 c1 c2 c3 W hb ho hg
  rw [← S_ex] at hcall
  refine hcall.mono fun e W' ⟨he, hnx⟩ => ?_
  subst he
  refine ⟨_, rfl, _, _, _, [], p0 ++ ([] ++ p2), [], hW', ?_, ?_, rfl, hnx.frame _, fun h => by cases h⟩
  · exact trodAll_mk1 (shut_bool Tryz.underlying4 true)
  · exact trodAll_mk3 (hargs0 _ hnx) (hargs1 _ hnx) (hargs2 _ hnx)

theorem fnExactShareAsk_holds : Rows.FnExactShareAskSaid := by
  have hwrap : Tryz.f3.isWrapper Tryz.prog Rows.fnExactShareAskRow.wrapper Rows.fnExactShareAskRow.mainSum := by unfold Func.isWrapper; first | (rw [if_pos (by decide +kernel)]; kernel_rfl) | (rw [if_neg (by decide +kernel)]; exact ⟨rfl, rfl⟩)
  first
    | exact OpenClaim.holds_of_wide_leaving 3 Tryz.f3 rfl rfl rfl rfl rfl rfl rfl ⟨rfl, rfl, rfl, rfl, rfl⟩ rfl rfl rfl rfl rfl (by kernel_rfl) Tryz.func3 (by kernel_rfl)
        (of_decide_eq_true (by kernel_rfl)) hwrap (fun os started H enc _ => leaving_of_handed (ask_lifted os started H enc))
    | exact OpenClaim.holds_of_wide 3 Tryz.f3 rfl rfl rfl rfl rfl rfl rfl ⟨rfl, rfl, rfl, rfl, rfl⟩ rfl rfl rfl rfl rfl (by kernel_rfl) Tryz.func3 (by kernel_rfl)
        (of_decide_eq_true (by kernel_rfl)) hwrap (fun os started H enc _ => ask_lifted os started H enc)

theorem fnExactShareAsk_looks (f : FuncId) (fn : Func) (hf : Tryz.prog.funcNamed "loop.example/maltshare/laws.FnExactShareAsk" = some f) (hfn : Tryz.prog.funcs[f]? = some fn) :
    Rows.fnExactShareAskCard.stood.looks = Tryz.prog.looks [] ∧ ∀ (j : Nat) t, fn.params[j]? = some t → Tryz.prog.wantsStandIn t = false := by
  obtain rfl : f = 3 := Option.some.inj ((show Tryz.prog.funcNamed "loop.example/maltshare/laws.FnExactShareAsk" = some 3 by kernel_rfl).symm.trans hf) |>.symm
  obtain rfl : fn = Tryz.f3 := (Option.some.inj (Tryz.func3.symm.trans hfn)).symm
  exact ⟨by kernel_rfl, fun j t ht => by
    rw [Tryz.params3] at ht
    have hm : t ∈ [25, 9, 22] := by simpa using Array.mem_of_getElem? ht
    have hall : ([25, 9, 22].all fun u => !Tryz.prog.wantsStandIn u) = true := by kernel_rfl
    exact (show Tryz.prog.wantsStandIn t = false by simpa using List.all_eq_true.1 hall t hm)⟩

theorem fnExactShareAsk_card : Rows.FnExactShareAskCardSaid := by
  first
    | exact holds_tied_goes .later [.handle] true Rows.fnExactShareAskCard.stood.harness Rows.fnExactShareAskCard.stood.looks
        fnExactShareAsk_holds (by kernel_rfl) fnExactShareAsk_row_tie rfl ⟨rfl, rfl⟩ (by kernel_rfl) rfl fnExactShareAsk_looks (by kernel_rfl)
    | exact Claim7.holds_tied_plain_at .later [] [.handle] true Rows.fnExactShareAskCard.stood.harness Rows.fnExactShareAskCard.stood.looks
        fnExactShareAsk_holds (fun _ h => by cases h) (by kernel_rfl) (fun _ h => by cases h) fnExactShareAsk_row_tie rfl ⟨rfl, rfl⟩ (by kernel_rfl) rfl fnExactShareAsk_looks (by kernel_rfl)
end Go.Proofs.YtdafpnpfcmgfcabGreatDoor
