/- A book that comes in: from its reading to its cells. A code that comes in: from its reading to its bytes. A call that starts no goroutine keeps also the form of those that may; and the tied card of a program that can start some. What the listed variable gives a walk: the handle of the type error, in its one cell; and a world that meets the condition. -/
import Derived.Test.YtdafpnpfcmgfcaaGreatDoorMem
import Derived.Test.YtdafpnpfcmgfcaaGreatDoorChecked
import Derived.Deep.Strs
import Derived.Lib.SmallJoins
import Derived.SizedLaws
import Derived.ProofKit
import Derived.Test.YtdafpnpfcmgfcaaGreatDoorDA
import Derived.ChangeSlices
import Derived.OpenShut
import Derived.Conc.Holds
import Derived.SevenTiedAt
import Derived.Test.YtdafpnpfcmgfcaaGreatDoorRows
import Derived.ChangeSame
import Derived.ChangeVars
import Derived.JoinedOf
import Derived.RowKit
import Derived.RowKitTokens
import Derived.LaidLaws
import Derived.LaidHandle
import Derived.Stop.Joined
namespace Go.Proofs.YtdafpnpfcmgfcaaGreatDoor
open Go.RowKit Go.Deep Go.ChangeShapes Go.WideShapes Go.Joins

theorem Tryz.cellsStr : Tryz.prog.cellsOf 9 = 1 := by kernel_rfl
theorem Tryz.cellsStrs : Tryz.prog.cellsOf 23 = 1 := by kernel_rfl
theorem Tryz.cellsLBatch : Tryz.prog.cellsOf 132 = 3 := by kernel_rfl
theorem Tryz.cellsLBook : Tryz.prog.cellsOf 49 = 2 := by kernel_rfl
theorem Tryz.bytesStr : Tryz.prog.bytesOf 9 = 16 := by kernel_rfl
theorem Tryz.bytesLBatch : Tryz.prog.bytesOf 132 = 64 := by kernel_rfl

theorem plain_addr {w : World} {a : Addr} {v : Value} (h : w.cell? a = some v) : a = ⟨a.block, a.off, none⟩ := by
  unfold World.cell? at h
  split at h
  · split at h
    · simp at h
    · cases a with
      | mk b o s => cases s with
        | none => rfl
        | some q => simp at *
  · simp at h

section
variable {H : Type} {enc : TypeId × Value → H} {W : World} {base : Nat} {spare : Nat → Bool} {held : Bool}

theorem weightsAll_mem {P : Program} {e : TypeId} : ∀ {l : List (DataW H)} {d : DataW H} {n : Nat}, d ∈ l → n ∈ d.weights P e → n ∈ DataW.weightsAll P e l
  | [], _, _, h, _ => by simp at h
  | x :: r, d, n, h, hn => by
    rw [DataW.weightsAll, List.mem_append]
    rcases List.mem_cons.1 h with rfl | h
    · exact Or.inl hn
    · exact Or.inr (weightsAll_mem h hn)

theorem open_strsAt {fuel : Nat} {v : Value} {x : DataW H × List MemPlace} (h : DataW.trod enc Tryz.prog W base spare held fuel 23 [v] = some x)
    (hw : ∀ n, n ∈ DataW.weights Tryz.prog 23 x.1 → n ≤ 140737488351232) : ∃ ss a c, v = .slice a (ss : List Str).length c ∧ StrsAt W a ss := by
  rcases open_strs Tryz.underlying23 Tryz.underlying9 Tryz.cellsStr h with ⟨hv, hx⟩ | ⟨a, len, cap, m, Sx, hv, hb, hl, hm, hmm, hx, hc⟩
  · simp at hv
    exact ⟨[], none, 0, hv, StrsAt.nil _ _⟩
  · simp at hv
    have hlm : len ≤ m := by rw [hmm]; split <;> omega
    have hlen : ((List.range len).map fun i => (Sx i).toList).length = len := by simp
    have hnth : ∀ i, i < len → nth ((List.range len).map fun i => (Sx i).toList) i = (Sx i).toList := fun i hi => by
      rw [nth_get (by rw [hlen]; exact hi)]; simp
    subst hx
    refine ⟨(List.range len).map fun i => (Sx i).toList, some a, cap, by rw [hlen]; exact hv, ?_, ?_⟩
    · rw [hlen]
      have := hw ((len + (m - len)) * 16) (by simp [DataW.weights, Tryz.underlying23, Tryz.bytesStr])
      omega
    · intro i hi
      rw [hlen] at hi
      rw [hnth i hi]
      have h0 := (hc 0 (by omega)).1
      have e0 : a.add 0 = a := by simp [Addr.add]
      rw [e0] at h0
      obtain ⟨ab, ao, rfl⟩ : ∃ b o, a = ⟨b, o, none⟩ := ⟨_, _, plain_addr h0⟩
      refine ⟨?_, ab, ao, rfl, ?_⟩
      · have := hw (Sx i).data.toList.length (by
          simp only [DataW.weights, Tryz.underlying23]
          refine List.mem_cons_of_mem _ (List.mem_append.2 (Or.inl (weightsAll_mem (d := .lit (.string (Sx i).data.toList)) ?_ (by simp [DataW.weights]))))
          exact List.mem_map.2 ⟨i, by simpa using hi, rfl⟩)
        rw [ByteArray.toList_eq]; omega
      · have hci := (hc i (by omega)).1
        rw [add_plain] at hci
        rw [← S_ex]
        exact hci

set_option maxRecDepth 100000 in
theorem open_batchesAt {fuel : Nat} {v : Value} {x : DataW H × List MemPlace} (h : DataW.trod enc Tryz.prog W base spare held fuel 47 [v] = some x)
    (hw : ∀ n, n ∈ DataW.weights Tryz.prog 47 x.1 → n ≤ 140737488351232) : ∃ bs a c, v = .slice a (bs : List Batch).length c ∧ BatchesAt W a bs := by
  rcases open_slice Tryz.underlying47 h with ⟨hv, hx⟩ | ⟨a, len, cap, m, n, D, Pl, hv, hb, hl, hm, hmm, hx, hc⟩
  · simp at hv
    exact ⟨[], none, 0, hv, by simp, fun i hi => by simp at hi⟩
  · simp at hv
    have hlm : len ≤ m := by rw [hmm]; split <;> omega
    subst hx
    have each : ∀ i, i < len → ∃ y : Batch, ∃ b o, a = ⟨b, o, none⟩ ∧ BatchCells W b (o + i * 3) y := by
      intro i hi
      obtain ⟨cs', h1, h2⟩ := hc i (by omega)
      rw [Tryz.cellsLBatch] at h1
      obtain ⟨_, hlen, hcell⟩ := World.cells?_some h1
      obtain ⟨y0, y1, y2, k, hxy, _, g0, g1, g2⟩ := trod_struct3 Tryz.underlying132 h2
      match cs', hlen with
      | [v0, v1, v2], _ =>
        have hwt : ∀ n, n ∈ DataW.weights Tryz.prog 132 (D i) → n ≤ 140737488351232 := fun n hn => hw n (by
          simp only [DataW.weights, Tryz.underlying47]
          exact List.mem_cons_of_mem _ (List.mem_append.2 (Or.inl (weightsAll_mem (d := D i) (List.mem_map.2 ⟨i, by simpa using hi, rfl⟩) hn))))
        simp only [Prod.mk.injEq] at hxy
        rw [hxy.1] at hwt
        simp only [DataW.weights, Tryz.underlying132, List.map_cons, List.map_nil, DataW.weightsEach, List.append_nil, List.mem_append] at hwt
        simp [Tryz.cellsStr, Tryz.cellsStrs] at g0 g1 g2
        obtain ⟨s, hs1, hs2, hs3⟩ := DataW.trod_string Tryz.underlying9 g0
        obtain ⟨ss1, a1, c1, e1, at1⟩ := open_strsAt g1 (fun n hn => hwt n (Or.inr (Or.inl hn)))
        obtain ⟨ss2, a2, c2, e2, at2⟩ := open_strsAt g2 (fun n hn => hwt n (Or.inr (Or.inr hn)))
        have q0 := hcell 0 (by omega)
        have q1 := hcell 1 (by omega)
        have q2 := hcell 2 (by omega)
        rw [add_add] at q0 q1 q2
        have h00 : W.cell? (a.add (0 * 3)) ≠ none := by
          obtain ⟨cs0, k1, _⟩ := hc 0 (by omega)
          rw [Tryz.cellsLBatch] at k1
          obtain ⟨_, hlen0, hcell0⟩ := World.cells?_some k1
          have := hcell0 0 (by omega)
          rw [add_add] at this
          simp at this ⊢
          rw [this]
          match cs0, hlen0 with
          | [_, _, _], _ => simp
        obtain ⟨vv, hvv⟩ := Option.ne_none_iff_exists'.1 h00
        have e0 : a.add (0 * 3) = a := by simp [Addr.add]
        rw [e0] at hvv
        obtain ⟨ab, ao, rfl⟩ : ∃ b o, a = ⟨b, o, none⟩ := ⟨_, _, plain_addr hvv⟩
        rw [add_plain] at q0 q1 q2
        simp at hs1 q0 q1 q2
        refine ⟨{ name := s.toList, has := ss1, needs := ss2 }, ab, ao, rfl, ?_, a1, c1, a2, c2, ?_, ?_, ?_, at1, at2⟩
        · have := hwt s.data.toList.length (Or.inl (by rw [hs2]; simp [DataW.weights]))
          show s.toList.length ≤ _
          rw [ByteArray.toList_eq]; omega
        · show _ = some (Value.string (S s.toList))
          rw [← S_ex, ← hs1]; exact q0
        · rw [← e1, Nat.add_assoc]; exact q1
        · rw [← e2, Nat.add_assoc]; exact q2
    obtain ⟨q, hq⟩ := @choose_lt Batch ⟨nob⟩ len (fun i y => ∃ b o, a = ⟨b, o, none⟩ ∧ BatchCells W b (o + i * 3) y) each
    have hlen : ((List.range len).map q).length = len := by simp
    have hnth : ∀ i, i < len → nthB ((List.range len).map q) i = q i := fun i hi => by
      rw [nthB_get (by rw [hlen]; exact hi)]; simp
    refine ⟨(List.range len).map q, some a, cap, by rw [hlen]; exact hv, ?_, ?_⟩
    · rw [hlen]
      have := hw ((len + (m - len)) * 64) (by simp [DataW.weights, Tryz.underlying47, Tryz.bytesLBatch])
      omega
    · intro i hi
      rw [hlen] at hi
      rw [hnth i hi]
      obtain ⟨b, o, ha, hcc⟩ := hq i hi
      exact ⟨b, o, by rw [ha], hcc⟩

set_option maxRecDepth 100000 in
theorem open_book {r : Reach} {b0 : Nat} {v : Value} {d : DataW H} {p : List MemPlace} (hv : Value.okWide Tryz.prog W r b0 49 v) (h : DataW.Trod enc Tryz.prog W base spare held 49 v d p)
    (hw : ∀ n, n ∈ DataW.weights Tryz.prog 49 d → n ≤ 140737488351232) :
    ∃ b a1 a2 c1 c2, v = .agg #[.slice a1 (b : Book).things.length c1, .slice a2 b.batches.length c2] ∧ BookAt W a1 a2 b := by
  obtain ⟨v0, v1, y0, y1, n, rfl, rfl, rfl, g0, g1⟩ := open_agg2 Tryz.underlying49 (by kernel_rfl) Tryz.cellsLBook hv h
  simp only [DataW.weights, Tryz.underlying49, List.map_cons, List.map_nil, DataW.weightsEach, List.append_nil, List.mem_append] at hw
  obtain ⟨ss, a1, c1, rfl, at1⟩ := open_strsAt g0 (fun n hn => hw n (Or.inl hn))
  obtain ⟨bs, a2, c2, rfl, at2⟩ := open_batchesAt g1 (fun n hn => hw n (Or.inr hn))
  exact ⟨⟨ss, bs⟩, a1, a2, c1, c2, rfl, at1, at2⟩
end
end Go.Proofs.YtdafpnpfcmgfcaaGreatDoor
namespace Go.Proofs.YtdafpnpfcmgfcaaGreatDoor
open Go.RowKit Go.Deep Go.ChangeShapes Go.WideShapes Go.Joins

theorem Tryz.cellsU8 : Tryz.prog.cellsOf 5 = 1 := by kernel_rfl
theorem Tryz.bytesU8 : Tryz.prog.bytesOf 5 = 1 := by kernel_rfl

set_option maxRecDepth 100000 in
theorem open_code {H : Type} {enc : TypeId × Value → H} {W : World} {b0 : Nat} {v : Value} {d : DataW H} {p : List MemPlace} (hv : Value.okWide Tryz.prog W .any b0 22 v) (h : DataW.Trod enc Tryz.prog W 0 (fun _ => true) true 22 v d p)
    (hw : ∀ n, n ∈ DataW.weights Tryz.prog 22 d → n ≤ 140737488351232) : ∃ a n c, v = .slice a n c ∧ BytesAt W a n ∧ n ≤ c ∧ c ≤ 140737488355328 := by
  obtain ⟨a1, len, cap, rfl⟩ := okWide_slice Tryz.underlying22 hv
  obtain ⟨fuel, hf⟩ := h
  rcases open_ints Tryz.underlying22 Tryz.underlying5 Tryz.cellsU8 hf with ⟨hcs, hx⟩ | ⟨a, len', cap', zs, hcs, _, hl, hm, hz, hx, hcell, hwz⟩
  · simp [Value.cells] at hcs
    obtain ⟨rfl, rfl, rfl⟩ := hcs
    exact ⟨none, 0, 0, rfl, fun i hi => by omega, Nat.le_refl _, by omega⟩
  · simp [Value.cells] at hcs
    obtain ⟨rfl, rfl, rfl⟩ := hcs
    simp only [Prod.mk.injEq] at hx
    obtain ⟨rfl, _⟩ := hx
    simp only [if_true] at hz
    have hcap : cap ≤ 140737488351232 := by
      have h1 := hw ((len + (cap - len)) * 1) (by
        simp [DataW.weights, Tryz.underlying22, Tryz.bytesU8, lits, hz]
        try omega)
      omega
    refine ⟨some a, len, cap, rfl, fun i hi => ?_, hl, by omega⟩
    have hc := hcell i (by omega)
    obtain ⟨ab, ao, rfl⟩ : ∃ b o, a = ⟨b, o, none⟩ := by
      have h0 := hcell 0 (by omega)
      have e0 : a.add 0 = a := by simp [Addr.add]
      rw [e0] at h0
      exact ⟨_, _, plain_addr h0⟩
    have hb := range_u8 hwz i
    rw [List.getD_eq_getElem?_getD] at hc
    refine ⟨ab, ao, rfl, (zs[i]?.getD 0).toNat, by omega, ?_⟩
    have e : (⟨ab, ao, none⟩ : Addr).add i = ⟨ab, ao + i, none⟩ := by
      unfold Addr.add
      split
      · rename_i h; simp_all
      · rfl
    rw [e] at hc
    rw [hc]
    congr 2
    omega
end Go.Proofs.YtdafpnpfcmgfcaaGreatDoor
namespace Go.Proofs.YtdafpnpfcmgfcaaGreatDoor
open Go

theorem leaving_of_handed {a : Assume} {C : Checked} {os : Os} {f : FuncId} {r : Reach} {Pre : World → Array Value → Prop} {Post : World → Array Value → Value → World → Prop}
    (h : ReturnsInHanded a C os f r Pre Post) : ReturnsInLeavingWide a C os f r Pre Post := fun enter =>
  ReturnsInOpen.mono (fun last _ t x => ⟨x.2.1, ⟨fun g hg => ⟨0, by
    have h1 := List.all_eq_true.1 x.1.1 g hg
    exact eq_of_beq h1⟩, x.1.2⟩, x.2.2⟩) (fun _ x => x) (h enter)

theorem holds_tied_goes (Lk : Looks) {p : Pinned} {s : OpenSpec} {c : OpenClaim} (kinds : List LaidKind) (tests : Bool) (har : Bool × String) (lk : Bool)
    (hc : c.holds p s) (hw : c.wfByText s = true) (htie : c.laidByTextAt Lk p kinds tests)
    (hst : c.start = .entering) (hnb : c.noBlocks = false ∧ c.again = false) (hm : p.checked.prog.mainIs = some (har.1, har.2.toList)) (hn : (!har.1 && har.2.isEmpty && !lk) = false)
    (hl : ∀ f fn, p.checked.prog.funcNamed c.func = some f → p.checked.prog.funcs[f]? = some fn → lk = p.checked.prog.looks [] ∧ ∀ (j : Nat) t, fn.params[j]? = some t → p.checked.prog.wantsStandIn t = false)
    (hg : true = c.goesBy p.checked.prog) :
    Claim7.holds p (.plain s) { stood := { row := c, standIns := [], harness := har, looks := lk }, kinds := [], alts := [], goes := true, laidByText := true, laidKinds := kinds, laidTests := tests, laidLooks := Lk } := by
  have h6 : ∀ r : OpenClaim, Claim7.isSixth { stood := { row := r, standIns := [], harness := har, looks := lk }, kinds := [] } = false := fun r => by simpa [Claim7.isSixth] using hn
  exact ⟨Claim7.tied_new_at Lk kinds tests (Claim7.new_of_sixth hc har lk hst hnb hm (h6 c) hl) hw, fun D hD => by (cases hD), htie, (fun h => by cases h), hg⟩
end Go.Proofs.YtdafpnpfcmgfcaaGreatDoor
namespace Go.Proofs.YtdafpnpfcmgfcaaGreatDoor
open Go.ChangeShapes Go.WideShapes Go.RowKit

def laidL : List (String × DataW Unit) := [("errors.errorType", Rows.laid_errors_errorType)]
theorem laidEt : Tryz.prog.globalNamed "errors.errorType" = some 0 := by kernel_rfl
theorem laidRt : (Tryz.prog.cutTypes.find? (·.1 == "internal/reflectlite.rtype")).map (·.2) = some 176 := by kernel_rfl
theorem laidRow : ((List.range 248).filter fun t => Tryz.prog.rowNamed t [101, 114, 114, 111, 114]) = [110] := by kernel_rfl
theorem laidSize : Tryz.prog.types.size = 248 := by kernel_rfl

theorem handle_of_laid {W : World} (h : laidMetH Tryz.prog laidL W) : W.cell? ⟨0, 0, none⟩ = some (.iface 176 (.agg #[.pointer (some ⟨1, 110, none⟩)])) := by
  have h' : laidMet Tryz.prog [] W ∧ handlesMet Tryz.prog laidL W := h
  obtain ⟨name, u, ty, e1, e2, e3, e4, e5⟩ := h'.2 _ (List.mem_singleton.2 rfl)
  have en : name = [101, 114, 114, 111, 114] := (Option.some.inj e1).symm
  subst en
  obtain rfl := Option.some.inj (laidRt.symm.trans e2)
  have hm : ty ∈ (List.range 248).filter fun t => Tryz.prog.rowNamed t [101, 114, 114, 111, 114] := List.mem_filter.2 ⟨List.mem_range.2 (by rw [← laidSize]; exact e3), e4⟩
  rw [laidRow] at hm
  obtain rfl := List.mem_singleton.1 hm
  have hh : typeHandle Tryz.prog 110 = .pointer (some ⟨1, 110, none⟩) := by kernel_rfl
  rw [hh] at e5
  simpa using World.var?_cell laidEt e5 0

/-- A world that meets the condition: the settled one, the variable's cell laid. -/
noncomputable def laidWorld (os : Os) : World :=
  let w0 := World.holding Tryz.prog os ⟨#[], #[], []⟩
  { w0 with heap := w0.heap.modify 0 fun
      | .cells _ t frozen => .cells #[.iface 176 (.agg #[.pointer (some ⟨1, 110, none⟩)])] t frozen
      | o => o }
theorem laidWorld_met (os : Os) (args : Array Value) : laidMetH Tryz.prog laidL ((laidWorld os).forCall (fun _ _ => 0) ⟨#[], args, []⟩).memory :=
  laidMetH_of_parts (laidMet_nil _ _) (by kernel_rfl)
theorem law_own : ownKnob Tryz.prog.godebug = none := by kernel_rfl
theorem law_laidOut : laidOutB Tryz.prog = true := by kernel_rfl
end Go.Proofs.YtdafpnpfcmgfcaaGreatDoor
