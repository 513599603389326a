/- A book that comes in: from its reading to its cells. -/
import Derived.Test.YtdafpnpfcmgfcabGreatDoorMem
import Derived.Test.YtdafpnpfcmgfcabGreatDoorChecked
import Derived.Deep.Strs
import Derived.Lib.SmallJoins
import Derived.SizedLaws
import Derived.ProofKit
namespace Go.Proofs.YtdafpnpfcmgfcabGreatDoor
open Go.RowKit Go.Deep Go.ChangeShapes Go.WideShapes Go.Joins

theorem Tryz.cellsStr : Tryz.prog.cellsOf 9 = 1 := by kernel_rfl
theorem Tryz.cellsStrs : Tryz.prog.cellsOf 22 = 1 := by kernel_rfl
theorem Tryz.cellsLBatch : Tryz.prog.cellsOf 65 = 3 := by kernel_rfl
theorem Tryz.cellsLBook : Tryz.prog.cellsOf 25 = 2 := by kernel_rfl
theorem Tryz.bytesStr : Tryz.prog.bytesOf 9 = 16 := by kernel_rfl
theorem Tryz.bytesLBatch : Tryz.prog.bytesOf 65 = 64 := by kernel_rfl

theorem plain_addr {w : World} {a : Addr} {v : Value} (h : w.cell? a = some v) : a = ⟨a.block, a.off, none⟩ := by
  unfold World.cell? at h
  split at h
  · split at h
    · simp at h
    · cases a with
      | mk b o s => cases s with
        | none => rfl
        | some q => simp at *
  · simp at h

section
variable {H : Type} {enc : TypeId × Value → H} {W : World} {base : Nat} {spare : Nat → Bool} {held : Bool}

theorem weightsAll_mem {P : Program} {e : TypeId} : ∀ {l : List (DataW H)} {d : DataW H} {n : Nat}, d ∈ l → n ∈ d.weights P e → n ∈ DataW.weightsAll P e l
  | [], _, _, h, _ => by simp at h
  | x :: r, d, n, h, hn => by
    rw [DataW.weightsAll, List.mem_append]
    rcases List.mem_cons.1 h with rfl | h
    · exact Or.inl hn
    · exact Or.inr (weightsAll_mem h hn)

theorem open_strsAt {fuel : Nat} {v : Value} {x : DataW H × List MemPlace} (h : DataW.trod enc Tryz.prog W base spare held fuel 22 [v] = some x)
    (hw : ∀ n, n ∈ DataW.weights Tryz.prog 22 x.1 → n ≤ 140737488351232) : ∃ ss a c, v = .slice a (ss : List Str).length c ∧ StrsAt W a ss := by
  rcases open_strs Tryz.underlying22 Tryz.underlying9 Tryz.cellsStr h with ⟨hv, hx⟩ | ⟨a, len, cap, m, Sx, hv, hb, hl, hm, hmm, hx, hc⟩
  · simp at hv
    exact ⟨[], none, 0, hv, StrsAt.nil _ _⟩
  · simp at hv
    have hlm : len ≤ m := by rw [hmm]; split <;> omega
    have hlen : ((List.range len).map fun i => (Sx i).toList).length = len := by simp
    have hnth : ∀ i, i < len → nth ((List.range len).map fun i => (Sx i).toList) i = (Sx i).toList := fun i hi => by
      rw [nth_get (by rw [hlen]; exact hi)]; simp
    subst hx
    refine ⟨(List.range len).map fun i => (Sx i).toList, some a, cap, by rw [hlen]; exact hv, ?_, ?_⟩
    · rw [hlen]
      have := hw ((len + (m - len)) * 16) (by simp [DataW.weights, Tryz.underlying22, Tryz.bytesStr])
      omega
    · intro i hi
      rw [hlen] at hi
      rw [hnth i hi]
      have h0 := (hc 0 (by omega)).1
      have e0 : a.add 0 = a := by simp [Addr.add]
      rw [e0] at h0
      obtain ⟨ab, ao, rfl⟩ : ∃ b o, a = ⟨b, o, none⟩ := ⟨_, _, plain_addr h0⟩
      refine ⟨?_, ab, ao, rfl, ?_⟩
      · have := hw (Sx i).data.toList.length (by
          simp only [DataW.weights, Tryz.underlying22]
          refine List.mem_cons_of_mem _ (List.mem_append.2 (Or.inl (weightsAll_mem (d := .lit (.string (Sx i).data.toList)) ?_ (by simp [DataW.weights]))))
          exact List.mem_map.2 ⟨i, by simpa using hi, rfl⟩)
        rw [ByteArray.toList_eq]; omega
      · have hci := (hc i (by omega)).1
        rw [add_plain] at hci
        rw [← S_ex]
        exact hci

set_option maxRecDepth 100000 in
theorem open_batchesAt {fuel : Nat} {v : Value} {x : DataW H × List MemPlace} (h : DataW.trod enc Tryz.prog W base spare held fuel 23 [v] = some x)
    (hw : ∀ n, n ∈ DataW.weights Tryz.prog 23 x.1 → n ≤ 140737488351232) : ∃ bs a c, v = .slice a (bs : List Batch).length c ∧ BatchesAt W a bs := by
  rcases open_slice Tryz.underlying23 h with ⟨hv, hx⟩ | ⟨a, len, cap, m, n, D, Pl, hv, hb, hl, hm, hmm, hx, hc⟩
  · simp at hv
    exact ⟨[], none, 0, hv, by simp, fun i hi => by simp at hi⟩
  · simp at hv
    have hlm : len ≤ m := by rw [hmm]; split <;> omega
    subst hx
    have each : ∀ i, i < len → ∃ y : Batch, ∃ b o, a = ⟨b, o, none⟩ ∧ BatchCells W b (o + i * 3) y := by
      intro i hi
      obtain ⟨cs', h1, h2⟩ := hc i (by omega)
      rw [Tryz.cellsLBatch] at h1
      obtain ⟨_, hlen, hcell⟩ := World.cells?_some h1
      obtain ⟨y0, y1, y2, k, hxy, _, g0, g1, g2⟩ := trod_struct3 Tryz.underlying65 h2
      match cs', hlen with
      | [v0, v1, v2], _ =>
        have hwt : ∀ n, n ∈ DataW.weights Tryz.prog 65 (D i) → n ≤ 140737488351232 := fun n hn => hw n (by
          simp only [DataW.weights, Tryz.underlying23]
          exact List.mem_cons_of_mem _ (List.mem_append.2 (Or.inl (weightsAll_mem (d := D i) (List.mem_map.2 ⟨i, by simpa using hi, rfl⟩) hn))))
        simp only [Prod.mk.injEq] at hxy
        rw [hxy.1] at hwt
        simp only [DataW.weights, Tryz.underlying65, List.map_cons, List.map_nil, DataW.weightsEach, List.append_nil, List.mem_append] at hwt
        simp [Tryz.cellsStr, Tryz.cellsStrs] at g0 g1 g2
        obtain ⟨s, hs1, hs2, hs3⟩ := DataW.trod_string Tryz.underlying9 g0
        obtain ⟨ss1, a1, c1, e1, at1⟩ := open_strsAt g1 (fun n hn => hwt n (Or.inr (Or.inl hn)))
        obtain ⟨ss2, a2, c2, e2, at2⟩ := open_strsAt g2 (fun n hn => hwt n (Or.inr (Or.inr hn)))
        have q0 := hcell 0 (by omega)
        have q1 := hcell 1 (by omega)
        have q2 := hcell 2 (by omega)
        rw [add_add] at q0 q1 q2
        have h00 : W.cell? (a.add (0 * 3)) ≠ none := by
          obtain ⟨cs0, k1, _⟩ := hc 0 (by omega)
          rw [Tryz.cellsLBatch] at k1
          obtain ⟨_, hlen0, hcell0⟩ := World.cells?_some k1
          have := hcell0 0 (by omega)
          rw [add_add] at this
          simp at this ⊢
          rw [this]
          match cs0, hlen0 with
          | [_, _, _], _ => simp
        obtain ⟨vv, hvv⟩ := Option.ne_none_iff_exists'.1 h00
        have e0 : a.add (0 * 3) = a := by simp [Addr.add]
        rw [e0] at hvv
        obtain ⟨ab, ao, rfl⟩ : ∃ b o, a = ⟨b, o, none⟩ := ⟨_, _, plain_addr hvv⟩
        rw [add_plain] at q0 q1 q2
        simp at hs1 q0 q1 q2
        refine ⟨{ name := s.toList, has := ss1, needs := ss2 }, ab, ao, rfl, ?_, a1, c1, a2, c2, ?_, ?_, ?_, at1, at2⟩
        · have := hwt s.data.toList.length (Or.inl (by rw [hs2]; simp [DataW.weights]))
          show s.toList.length ≤ _
          rw [ByteArray.toList_eq]; omega
        · show _ = some (Value.string (S s.toList))
          rw [← S_ex, ← hs1]; exact q0
        · rw [← e1, Nat.add_assoc]; exact q1
        · rw [← e2, Nat.add_assoc]; exact q2
    obtain ⟨q, hq⟩ := @choose_lt Batch ⟨nob⟩ len (fun i y => ∃ b o, a = ⟨b, o, none⟩ ∧ BatchCells W b (o + i * 3) y) each
    have hlen : ((List.range len).map q).length = len := by simp
    have hnth : ∀ i, i < len → nthB ((List.range len).map q) i = q i := fun i hi => by
      rw [nthB_get (by rw [hlen]; exact hi)]; simp
    refine ⟨(List.range len).map q, some a, cap, by rw [hlen]; exact hv, ?_, ?_⟩
    · rw [hlen]
      have := hw ((len + (m - len)) * 64) (by simp [DataW.weights, Tryz.underlying23, Tryz.bytesLBatch])
      omega
    · intro i hi
      rw [hlen] at hi
      rw [hnth i hi]
      obtain ⟨b, o, ha, hcc⟩ := hq i hi
      exact ⟨b, o, by rw [ha], hcc⟩

set_option maxRecDepth 100000 in
theorem open_book {r : Reach} {b0 : Nat} {v : Value} {d : DataW H} {p : List MemPlace} (hv : Value.okWide Tryz.prog W r b0 25 v) (h : DataW.Trod enc Tryz.prog W base spare held 25 v d p)
    (hw : ∀ n, n ∈ DataW.weights Tryz.prog 25 d → n ≤ 140737488351232) :
    ∃ b a1 a2 c1 c2, v = .agg #[.slice a1 (b : Book).things.length c1, .slice a2 b.batches.length c2] ∧ BookAt W a1 a2 b := by
  obtain ⟨v0, v1, y0, y1, n, rfl, rfl, rfl, g0, g1⟩ := open_agg2 Tryz.underlying25 (by kernel_rfl) Tryz.cellsLBook hv h
  simp only [DataW.weights, Tryz.underlying25, List.map_cons, List.map_nil, DataW.weightsEach, List.append_nil, List.mem_append] at hw
  obtain ⟨ss, a1, c1, rfl, at1⟩ := open_strsAt g0 (fun n hn => hw n (Or.inl hn))
  obtain ⟨bs, a2, c2, rfl, at2⟩ := open_batchesAt g1 (fun n hn => hw n (Or.inr hn))
  exact ⟨⟨ss, bs⟩, a1, a2, c1, c2, rfl, at1, at2⟩
end
end Go.Proofs.YtdafpnpfcmgfcabGreatDoor
