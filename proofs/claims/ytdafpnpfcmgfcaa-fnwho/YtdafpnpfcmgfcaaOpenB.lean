/- A code that comes in: from its reading to its bytes. -/
import Derived.Test.YtdafpnpfcmgfcaaOpen
import Derived.Test.YtdafpnpfcmgfcaaD1
import Derived.ChangeSlices
import Derived.OpenShut
namespace Go.Proofs.Ytdafpnpfcmgfcaa
open Go.RowKit Go.Deep Go.ChangeShapes Go.WideShapes Go.Joins

theorem Try.cellsU8 : Try.prog.cellsOf 5 = 1 := by kernel_rfl
theorem Try.bytesU8 : Try.prog.bytesOf 5 = 1 := by kernel_rfl

set_option maxRecDepth 100000 in
theorem open_code {H : Type} {enc : TypeId × Value → H} {W : World} {b0 : Nat} {v : Value} {d : DataW H} {p : List MemPlace} (hv : Value.okWide Try.prog W .any b0 22 v) (h : DataW.Trod enc Try.prog W 0 (fun _ => true) true 22 v d p)
    (hw : ∀ n, n ∈ DataW.weights Try.prog 22 d → n ≤ 140737488351232) : ∃ a n c, v = .slice a n c ∧ BytesAt W a n ∧ n ≤ c ∧ c ≤ 140737488355328 := by
  obtain ⟨a1, len, cap, rfl⟩ := okWide_slice Try.underlying22 hv
  obtain ⟨fuel, hf⟩ := h
  rcases open_ints Try.underlying22 Try.underlying5 Try.cellsU8 hf with ⟨hcs, hx⟩ | ⟨a, len', cap', zs, hcs, _, hl, hm, hz, hx, hcell, hwz⟩
  · simp [Value.cells] at hcs
    obtain ⟨rfl, rfl, rfl⟩ := hcs
    exact ⟨none, 0, 0, rfl, fun i hi => by omega, Nat.le_refl _, by omega⟩
  · simp [Value.cells] at hcs
    obtain ⟨rfl, rfl, rfl⟩ := hcs
    simp only [Prod.mk.injEq] at hx
    obtain ⟨rfl, _⟩ := hx
    simp only [if_true] at hz
    have hcap : cap ≤ 140737488351232 := by
      have h1 := hw ((len + (cap - len)) * 1) (by
        simp [DataW.weights, Try.underlying22, Try.bytesU8, lits, hz]
        try omega)
      omega
    refine ⟨some a, len, cap, rfl, fun i hi => ?_, hl, by omega⟩
    have hc := hcell i (by omega)
    obtain ⟨ab, ao, rfl⟩ : ∃ b o, a = ⟨b, o, none⟩ := by
      have h0 := hcell 0 (by omega)
      have e0 : a.add 0 = a := by simp [Addr.add]
      rw [e0] at h0
      exact ⟨_, _, plain_addr h0⟩
    have hb := range_u8 hwz i
    rw [List.getD_eq_getElem?_getD] at hc
    refine ⟨ab, ao, rfl, (zs[i]?.getD 0).toNat, by omega, ?_⟩
    have e : (⟨ab, ao, none⟩ : Addr).add i = ⟨ab, ao + i, none⟩ := by
      unfold Addr.add
      split
      · rename_i h; simp_all
      · rfl
    rw [e] at hc
    rw [hc]
    congr 2
    omega
end Go.Proofs.Ytdafpnpfcmgfcaa
