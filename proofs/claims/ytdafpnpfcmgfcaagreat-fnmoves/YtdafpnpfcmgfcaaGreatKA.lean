/- A book that comes in: from its reading to its cells. From a book as the call meets it to the whole run: what rows of calls that go have in common. A code that comes in: from its reading to its bytes. -/
import Derived.Test.YtdafpnpfcmgfcaaGreatKB
import Derived.Test.YtdafpnpfcmgfcaaGreatChecked
import Derived.Deep.Strs
import Derived.Lib.SmallJoins
import Derived.SizedLaws
import Derived.ProofKit
import Derived.Test.YtdafpnpfcmgfcaaGreatJK
import Derived.Conc.LeavingOf
import Derived.Test.YtdafpnpfcmgfcaaGreatKE
import Derived.ChangeSlices
import Derived.OpenShut
namespace Go.Proofs.YtdafpnpfcmgfcaaGreat
open Go.RowKit Go.Deep Go.ChangeShapes Go.WideShapes Go.Joins

theorem Tryz.cellsStr : Tryz.prog.cellsOf 9 = 1 := by kernel_rfl
theorem Tryz.cellsStrs : Tryz.prog.cellsOf 23 = 1 := by kernel_rfl
theorem Tryz.bytesStr : Tryz.prog.bytesOf 9 = 16 := by kernel_rfl
theorem plain_addr {w : World} {a : Addr} {v : Value} (h : w.cell? a = some v) : a = ⟨a.block, a.off, none⟩ := by
  unfold World.cell? at h
  split at h
  · split at h
    · simp at h
    · cases a with
      | mk b o s => cases s with
        | none => rfl
        | some q => simp at *
  · simp at h

section
variable {H : Type} {enc : TypeId × Value → H} {W : World} {base : Nat} {spare : Nat → Bool} {held : Bool}

theorem weightsAll_mem {P : Program} {e : TypeId} : ∀ {l : List (DataW H)} {d : DataW H} {n : Nat}, d ∈ l → n ∈ d.weights P e → n ∈ DataW.weightsAll P e l
  | [], _, _, h, _ => by simp at h
  | x :: r, d, n, h, hn => by
    rw [DataW.weightsAll, List.mem_append]
    rcases List.mem_cons.1 h with rfl | h
    · exact Or.inl hn
    · exact Or.inr (weightsAll_mem h hn)

theorem open_strsAt {fuel : Nat} {v : Value} {x : DataW H × List MemPlace} (h : DataW.trod enc Tryz.prog W base spare held fuel 23 [v] = some x)
    (hw : ∀ n, n ∈ DataW.weights Tryz.prog 23 x.1 → n ≤ 140737488351232) : ∃ ss a c, v = .slice a (ss : List Str).length c ∧ StrsAt W a ss := by
  rcases open_strs Tryz.underlying23 Tryz.underlying9 Tryz.cellsStr h with ⟨hv, hx⟩ | ⟨a, len, cap, m, Sx, hv, hb, hl, hm, hmm, hx, hc⟩
  · simp at hv
    exact ⟨[], none, 0, hv, StrsAt.nil _ _⟩
  · simp at hv
    have hlm : len ≤ m := by rw [hmm]; split <;> omega
    have hlen : ((List.range len).map fun i => (Sx i).toList).length = len := by simp
    have hnth : ∀ i, i < len → nth ((List.range len).map fun i => (Sx i).toList) i = (Sx i).toList := fun i hi => by
      rw [nth_get (by rw [hlen]; exact hi)]; simp
    subst hx
    refine ⟨(List.range len).map fun i => (Sx i).toList, some a, cap, by rw [hlen]; exact hv, ?_, ?_⟩
    · rw [hlen]
      have := hw ((len + (m - len)) * 16) (by simp [DataW.weights, Tryz.underlying23, Tryz.bytesStr])
      omega
    · intro i hi
      rw [hlen] at hi
      rw [hnth i hi]
      have h0 := (hc 0 (by omega)).1
      have e0 : a.add 0 = a := by simp [Addr.add]
      rw [e0] at h0
      obtain ⟨ab, ao, rfl⟩ : ∃ b o, a = ⟨b, o, none⟩ := ⟨_, _, plain_addr h0⟩
      refine ⟨?_, ab, ao, rfl, ?_⟩
      · have := hw (Sx i).data.toList.length (by
          simp only [DataW.weights, Tryz.underlying23]
          refine List.mem_cons_of_mem _ (List.mem_append.2 (Or.inl (weightsAll_mem (d := .lit (.string (Sx i).data.toList)) ?_ (by simp [DataW.weights]))))
          exact List.mem_map.2 ⟨i, by simpa using hi, rfl⟩)
        rw [ByteArray.toList_eq]; omega
      · have hci := (hc i (by omega)).1
        rw [add_plain] at hci
        rw [← S_ex]
        exact hci

end
end Go.Proofs.YtdafpnpfcmgfcaaGreat
namespace Go.Proofs.YtdafpnpfcmgfcaaGreat
open Go.ChangeShapes Go.WideShapes Go.ChangeAt Go.RowKit Go.Conc Go.ConcN

theorem moves_own : ownKnob Tryz.prog.godebug = none := by kernel_rfl
theorem moves_laidOut : laidOutB Tryz.prog = true := by kernel_rfl

theorem BookAt.veiled {W : World} {a1 a2 : Option Addr} {b : Book} (h : BookAt W a1 a2 b) : BookAt (veiled W) a1 a2 b := by
  have hc : ∀ p, (Go.Proofs.YtdafpnpfcmgfcaaGreat.veiled W).cell? p = W.cell? p := fun p => (cp_veiled W).cell (fun h => h)
  simp only [BookAt, StrsAt, BatchesAt, BatchCells, hc] at h ⊢
  exact h
theorem same_of_blocks {W w' : World} (h : ∀ k, k < W.heap.size → w'.heap[k]? = W.heap[k]?) {p : MemPlace} (hp : p.block < W.heap.size) : W.sameAt w' p := by
  cases p with
  | cell b o => exact World.cell?_of_block (w := W) (h b hp)
  | map b => exact h b hp
theorem kept_of_blocks {W w' : World} (h1 : w'.os = W.os) (h2 : w'.output = W.output) (h : ∀ k, k < W.heap.size → w'.heap[k]? = W.heap[k]?) (may : MemPlace → Prop) : W.keptBut w' may := by
  refine ⟨h1, h2, fun i hi => ?_⟩
  rw [h i hi]
  split <;> simp_all

/-- From the law's walk to its run. -/
theorem run_of_law {f : FuncId} {fn : Func} {args : Array Value} {W : World} (hf : Tryz.prog.funcs[f]? = some fn) (hi : Tryz.prog.inits.idxOf? f = none)
    (H : ∀ [Floor], Floor.low ≤ (veiled W).heap.size → BodyM Tryz.prog fn args (veiled W) (fun r v' => r = .bool true ∧ Grew (veiled W) v')) :
    ∃ M last o w' t', runNT Tryz.prog (M + 1) (solo (G (Frame.enter Tryz.prog f args .normal) []) W) #[] = (.ended o w', t') ∧ runN Tryz.prog M (solo (G (Frame.enter Tryz.prog f args .normal) []) W) = .next last ∧ step Tryz.prog last = .ended o w' ∧ Conc.Good Tryz.prog (Kept0 W (fun r => r = .bool true)) last o w' t' :=
  mw_top hf hi (fun hfl => by
    obtain ⟨c, hc, hm⟩ := H (by rw [veiled_size, hfl]; exact Nat.le_refl _)
    exact ⟨c, hc, hm.mono fun e a' v' h => by
      cases e with
      | normal => obtain ⟨h1, r, h2, h3, h4⟩ := h; exact ⟨h1, r, h2, h3, h4.size, h4.low, h4.os, h4.output⟩
      | ret => obtain ⟨h1, r, h2, h3, h4⟩ := h; exact ⟨h1, r, h2, h3, h4.size, h4.low, h4.os, h4.output⟩
      | _ => exact h⟩)
end Go.Proofs.YtdafpnpfcmgfcaaGreat
namespace Go.Proofs.YtdafpnpfcmgfcaaGreat
open Go.RowKit Go.Deep Go.ChangeShapes Go.WideShapes Go.Joins

theorem Tryz.cellsU8 : Tryz.prog.cellsOf 5 = 1 := by kernel_rfl
theorem Tryz.bytesU8 : Tryz.prog.bytesOf 5 = 1 := by kernel_rfl

set_option maxRecDepth 100000 in
theorem open_code {H : Type} {enc : TypeId × Value → H} {W : World} {b0 : Nat} {v : Value} {d : DataW H} {p : List MemPlace} (hv : Value.okWide Tryz.prog W .any b0 22 v) (h : DataW.Trod enc Tryz.prog W 0 (fun _ => true) true 22 v d p)
    (hw : ∀ n, n ∈ DataW.weights Tryz.prog 22 d → n ≤ 140737488351232) : ∃ a n c, v = .slice a n c ∧ BytesAt W a n ∧ n ≤ c ∧ c ≤ 140737488355328 := by
  obtain ⟨a1, len, cap, rfl⟩ := okWide_slice Tryz.underlying22 hv
  obtain ⟨fuel, hf⟩ := h
  rcases open_ints Tryz.underlying22 Tryz.underlying5 Tryz.cellsU8 hf with ⟨hcs, hx⟩ | ⟨a, len', cap', zs, hcs, _, hl, hm, hz, hx, hcell, hwz⟩
  · simp [Value.cells] at hcs
    obtain ⟨rfl, rfl, rfl⟩ := hcs
    exact ⟨none, 0, 0, rfl, fun i hi => by omega, Nat.le_refl _, by omega⟩
  · simp [Value.cells] at hcs
    obtain ⟨rfl, rfl, rfl⟩ := hcs
    simp only [Prod.mk.injEq] at hx
    obtain ⟨rfl, _⟩ := hx
    simp only [if_true] at hz
    have hcap : cap ≤ 140737488351232 := by
      have h1 := hw ((len + (cap - len)) * 1) (by
        simp [DataW.weights, Tryz.underlying22, Tryz.bytesU8, lits, hz]
        try omega)
      omega
    refine ⟨some a, len, cap, rfl, fun i hi => ?_, hl, by omega⟩
    have hc := hcell i (by omega)
    obtain ⟨ab, ao, rfl⟩ : ∃ b o, a = ⟨b, o, none⟩ := by
      have h0 := hcell 0 (by omega)
      have e0 : a.add 0 = a := by simp [Addr.add]
      rw [e0] at h0
      exact ⟨_, _, plain_addr h0⟩
    have hb := range_u8 hwz i
    rw [List.getD_eq_getElem?_getD] at hc
    refine ⟨ab, ao, rfl, (zs[i]?.getD 0).toNat, by omega, ?_⟩
    have e : (⟨ab, ao, none⟩ : Addr).add i = ⟨ab, ao + i, none⟩ := by
      unfold Addr.add
      split
      · rename_i h; simp_all
      · rfl
    rw [e] at hc
    rw [hc]
    congr 2
    omega
end Go.Proofs.YtdafpnpfcmgfcaaGreat
