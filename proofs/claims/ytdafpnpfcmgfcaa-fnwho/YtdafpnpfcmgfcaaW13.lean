/- The walk over the specification's ShareOrder and ShareSafe. -/
import Derived.Test.YtdafpnpfcmgfcaaW12
namespace Go.Proofs.Ytdafpnpfcmgfcaa
open Go.RowKit
attribute [local go_sem] S_toList S_size S_get

/-- Always the first who can. -/
def greedy (b : Book) : Nat → List Str → Option (List Str)
  | 0, gone => some gone
  | m + 1, gone => match nextOf b gone with
    | none => none
    | some i => greedy b m (gone ++ [(b.at i).name])
def orderOf (b : Book) : Option (List Str) := if bookOk b then greedy b b.batches.length [] else none
def orderL (b : Book) : List Str := (orderOf b).getD []
def safeB (b : Book) : Bool := (orderOf b).isSome

theorem name_le {w : World} {a : Option Addr} {bs : List Batch} (h : BatchesAt w a bs) {i : Nat} (hi : i < bs.length) : (nthB bs i).name.length ≤ 140737488355328 := by
  obtain ⟨_, _, _, hl, _⟩ := h.2 i hi
  exact hl
def ShortL (l : List Str) : Prop := ∀ i, i < l.length → (nth l i).length ≤ 140737488355328
theorem ShortL.nil : ShortL [] := fun i hi => by simp at hi
theorem ShortL.snoc {l : List Str} {x : Str} (h : ShortL l) (hx : x.length ≤ 140737488355328) : ShortL (l ++ [x]) := by
  intro i hi
  rw [List.length_append, List.length_singleton] at hi
  by_cases e : i < l.length
  · rw [nth_get (by rw [List.length_append]; omega), List.getElem_append_left e, ← nth_get e]; exact h i e
  · have e' : i = l.length := by omega
    subst e'
    rw [nth_get (by simp), List.getElem_append_right (Nat.le_refl _)]; simpa using hx

def lenOf : Value → Nat
  | .slice _ n _ => n
  | _ => 0
theorem OwnL.ext {w w' : World} {base : Nat} {v : Value} {ss : List Str} (h : OwnL w base v ss) (e : Ext w w') : OwnL w' base v ss := by
  refine World.ownsRow.kept h (row := none) ⟨e.os, e.tape, e.output, e.size, fun k hk _ => e.block k hk⟩ ?_
  cases v.ownBlock <;> simp
theorem ret2 {v : Value} {x y : Bool} (h : x = y) : Ending.returned (.tuple #[v, .bool x]) = .returned (.tuple #[v, .bool y]) := by rw [h]
theorem greedy_some {b : Book} {m i : Nat} {l : List Str} (h : nextOf b l = some i) : greedy b (m + 1) l = greedy b m (l ++ [(b.at i).name]) := by simp [greedy, h]
theorem greedy_none {b : Book} {m : Nat} {l : List Str} (h : nextOf b l = none) : greedy b (m + 1) l = none := by simp [greedy, h]

set_option maxHeartbeats 1000000 in
set_option maxRecDepth 100000 in
theorem specOrder_any (b : Book) (a1 a2 : Option Addr) (c1 c2 : Nat) (w : World) (hb : BookAt w a1 a2 b) :
    Calls Try.prog 11 #[.agg #[.slice a1 b.things.length c1, .slice a2 b.batches.length c2]] w fun e w' =>
      ∃ a cap, e = .returned (.tuple #[.slice a (orderL b).length cap, .bool (safeB b)]) ∧ Ext w w' ∧ StrsAt w' a (orderL b) := by
  have hal : ∀ o, Ext w (w.alloc o) := fun o => (Below.refl _ _).alloc (Nat.le_refl _) _
  have hn := hb.2.1
  obtain ⟨i0, hi, hz0, hz1, hz2⟩ := info_str
  cases hok : bookOk b
  · have HF : Hid (orderL b = [] ∧ safeB b = false) := by constructor <;> simp [orderL, safeB, orderOf, hok]
    go_enter Try.func11, Try.ntmps11
    go_wp2_with fail
    have e2 : ∀ o1 o2, Ext w ((w.alloc o1).alloc o2) := fun o1 o2 => ((Below.refl _ _).alloc (Nat.le_refl _) _).alloc (by simp) _
    refine (specBookOk_any b _ _ _ _ _ (hb.ext (e2 _ _))).mono ?_
    rintro e w1 ⟨rfl, hext1⟩
    have HE1 := hid (Ext.tr (e2 _ _) hext1)
    clear hext1
    go_wp2_with fail
    go_ret2
    refine ⟨some ⟨w.heap.size + 1, 0, none⟩, 0, ?_, HE1.out, ?_⟩
    · rw [HF.out.1, HF.out.2]; rfl
    · rw [HF.out.1]; exact StrsAt.nil _ _
  · have h5 : b.batches.length ≤ 5 := by
      have h := hok
      unfold bookOk at h
      simp only [Bool.and_eq_true, decide_eq_true_eq] at h
      exact h.1.2
    have HOR : Hid (orderOf b = greedy b b.batches.length []) := by show _ = _; simp [orderOf, hok]
    go_enter Try.func11, Try.ntmps11
    go_wp2_with fail
    have e2 : ∀ o1 o2, Ext w ((w.alloc o1).alloc o2) := fun o1 o2 => ((Below.refl _ _).alloc (Nat.le_refl _) _).alloc (by simp) _
    refine (specBookOk_any b _ _ _ _ _ (hb.ext (e2 _ _))).mono ?_
    rintro e w1 ⟨rfl, hext1⟩
    have HOW : Hid (OwnL w1 (w.heap.size + 1) (.slice (some ⟨w.heap.size + 1, 0, none⟩) 0 0) []) := by
      refine OwnL.ext ?_ hext1
      have h := World.ownsRow_made (base := w.heap.size + 1) (e := 9) (size := 1) (w.alloc (.cells #[.slice a1 b.things.length c1, .slice a2 b.batches.length c2] 26)) #[] 0 (by simp) (by unfold maxLen; omega) (by simp)
      have hs : (w.alloc (.cells #[.slice a1 b.things.length c1, .slice a2 b.batches.length c2] 26)).heap.size = w.heap.size + 1 := by simp
      rw [hs] at h
      exact h
    have HB1 : Hid (Below (w.heap.size + 1) (w.alloc (.cells #[.slice a1 b.things.length c1, .slice a2 b.batches.length c2] 26)) w1) :=
      Below.trans ((Below.refl _ _).alloc (by simp) _) (Below.mono hext1 (by simp))
    have hx0 := box_cell (Below.mono HB1.out (by simp)) (i := 0) rfl
    have hx1 := box_cell (Below.mono HB1.out (by simp)) (i := 1) rfl
    clear hext1
    go_wp2_with fail
    go_loopw [4] (fun v wr => ∃ (k : Nat) (L : List Str), k ≤ b.batches.length ∧ L.length = k ∧ Below (w.heap.size + 1) (w.alloc (.cells #[.slice a1 b.things.length c1, .slice a2 b.batches.length c2] 26)) wr ∧ OwnL wr (w.heap.size + 1) v L ∧ ShortL L ∧ greedy b (b.batches.length - k) L = greedy b b.batches.length []) (fun v _ => b.batches.length - lenOf v)
    case atStart => exact ⟨0, [], Nat.zero_le _, rfl, HB1.out, HOW.out, ShortL.nil, rfl⟩
    case round =>
      clear hx0 hx1
      obtain ⟨k, L, hk, hL, hbel, hown, hsh, hgr⟩ := hrel
      have hx0 := box_cell (Below.mono hbel (by simp)) (i := 0) rfl
      have hx1 := box_cell (Below.mono hbel (by simp)) (i := 1) rfl
      have hb' := hb.ext (Ext.tr (hal _) (Below.mono hbel (by simp)))
      have hz := hbel.size
      simp at hz
      obtain ⟨ag, cg, rfl, hat⟩ := hown.at (by omega) hsh
      have HB := hid hbel
      have HO := hid hown
      have HS := hid hsh
      have HG := hid hgr
      have HLK := hid hL
      clear hbel hown hsh hgr
      by_cases hlt : k < b.batches.length
      · have hlt' : L.length < b.batches.length := by omega
        clear hL
        go_wp2_with fail
        refine (l2Next_any b L _ _ _ _ _ _ _ hb' hat).mono ?_
        rintro e w2 ⟨(⟨i, rfl, hnx⟩ | ⟨rfl, hnx⟩), hext2⟩
        · have hilt := nextOf_lt hnx
          have HNX := hid hnx
          have hb2 := hb'.ext hext2
          have HO2 := hid (HO.out.ext hext2)
          have HB2 : Hid (Below (w.heap.size + 1) (w.alloc (.cells #[.slice a1 b.things.length c1, .slice a2 b.batches.length c2] 26)) w2) := Below.trans HB.out (Below.mono hext2 (by omega))
          have hzz2 := hext2.size
          obtain ⟨ba, oa, rfl, hl, d1, g1, d2, g2, p0, p1, p2, s1, s2⟩ := hb2.2.2 i hilt
          clear hx0 hx1 hnx hext2 hb' hb2 hat
          have hx0 := box_cell (Below.mono HB2.out (by simp)) (i := 0) rfl
          have hx1 := box_cell (Below.mono HB2.out (by simp)) (i := 1) rfl
          go_wp2_with (at_builtin; refine wpList_append_own _ rfl _ _ 23 rfl (w.heap.size + 1) 9 i0 (.string (S [])) 1 16 Try.underlying23 hi hz0 hz1 hz2 rfl (by decide) _ _ _ rfl (World.ownsRow.alloc HO2.out _) ⟨w2.heap.size, 0, none⟩ 1 1 [.string (S (nthB b.batches i).name)] rfl rfl ?q1 ?q2 ?q3 ?q4 ?q5 ?_)
          case q1 =>
            intro j u hj
            match j, hj with
            | 0, hj => simp at hj; subst hj; simp [Addr.add]
          case q2 => intro u hu; simp at hu; subst hu; rfl
          case q3 => unfold maxLen; omega
          case q4 => omega
          case q5 => simp; omega
          · intro v' w3 hown' hgrow _
            have HN : Hid (OwnL w3 (w.heap.size + 1) v' (L ++ [(nthB b.batches i).name])) := OwnL.step hown'
            have HB3 : Hid (Below (w.heap.size + 1) (w.alloc (.cells #[.slice a1 b.things.length c1, .slice (some ⟨ba, oa, none⟩) b.batches.length c2] 26)) w3) := (HB2.out.alloc (by omega) _).grown hgrow (by simp; omega) (fun g hg => (HO2.out.lt g hg).1)
            have HLN : Hid (lenOf v' = L.length + 1) := by
              obtain ⟨a', c', e, _⟩ := HN.out.at (by simp; omega) (HS.out.snoc hl)
              show lenOf v' = L.length + 1
              rw [e]; simp [lenOf]
            clear hown' hgrow
            go_wp2
            go_roundw
            case rel =>
              refine ⟨k + 1, L ++ [(nthB b.batches i).name], by omega, by rw [List.length_append, HLK.out]; rfl, HB3.out, HN.out, HS.out.snoc hl, ?_⟩
              rw [← HG.out]
              have e : b.batches.length - k = (b.batches.length - (k + 1)) + 1 := by omega
              rw [e, greedy_some HNX.out]; rfl
            case measure =>
              have h1 := HLN.out
              simp only [lenOf] at *
              omega
        · have HF : Hid (orderL b = [] ∧ safeB b = false) := by
            have h : orderOf b = none := by
              rw [HOR.out, ← HG.out]
              have e : b.batches.length - k = (b.batches.length - (k + 1)) + 1 := by omega
              rw [e, greedy_none hnx]
            constructor
            · simp [orderL, h]
            · simp [safeB, h]
          have HE2 := hid (Ext.tr (hal _) (Ext.tr (Below.mono HB.out (by simp)) hext2))
          clear hnx hext2
          go_wp2_with fail
          go_ret2
          refine ⟨some ⟨w2.heap.size, 0, none⟩, 0, ?_, Ext.tr HE2.out (ext_alloc _ _), ?_⟩
          · rw [HF.out.1, HF.out.2]; rfl
          · rw [HF.out.1]; exact StrsAt.nil _ _
      · have HF : Hid (orderL b = L ∧ safeB b = true) := by
          have h : orderOf b = some L := by
            rw [HOR.out, ← HG.out]
            have e : b.batches.length - k = 0 := by omega
            rw [e]; rfl
          constructor
          · simp [orderL, h]
          · simp [safeB, h]
        have hnlt : ¬ L.length < b.batches.length := by omega
        have HAT := hid hat
        clear hL hat
        go_wp2_with fail
        go_ret2
        refine ⟨ag, cg, ?_, Ext.tr (hal _) (Below.mono HB.out (by simp)), ?_⟩
        · rw [HF.out.1, HF.out.2]; rfl
        · rw [HF.out.1]; exact HAT.out
end Go.Proofs.Ytdafpnpfcmgfcaa
