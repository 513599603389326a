/- Lists of names that a call builds by append; the names of batches. -/
import Derived.Test.YtdafpnpfcmgfcaaV2
import Derived.Test.YtdafpnpfcmgfcaaMath4
namespace Go.Proofs.Ytdafpnpfcmgfcaa
open Go.RowKit
attribute [local go_sem] S_toList S_size S_get

/-- A list of names that the call itself builds, from block 'base' on. -/
def OwnL (w : World) (base : Nat) (v : Value) (ss : List Str) : Prop := w.ownsRow base 9 1 v ss.length (ss.map fun s => .string (S s))

theorem OwnL.at {w : World} {base : Nat} {v : Value} {ss : List Str} (h : OwnL w base v ss) (hn : ss.length ≤ 8796093022208) (hl : ∀ i, i < ss.length → (nth ss i).length ≤ 140737488355328) :
    ∃ a cap, v = .slice a ss.length cap ∧ StrsAt w a ss := by
  rcases h.2 with ⟨rfl, h0⟩ | ⟨g, cap, cur, rfl, hb, hg, hc, hm, hs, ht⟩
  · have e : ss = [] := List.eq_nil_of_length_eq_zero h0
    subst e
    exact ⟨none, 0, rfl, StrsAt.nil _ _⟩
  · refine ⟨_, cap, rfl, hn, fun i hi => ⟨hl i hi, g, 0, rfl, ?_⟩⟩
    have hx : (ss.map fun s => Value.string (S s))[i]? = some (.string (S (nth ss i))) := by
      rw [List.getElem?_map, List.getElem?_eq_getElem hi, nth_get hi]; rfl
    rw [← ht] at hx
    have hi2 : cur.toList[i]? = some (.string (S (nth ss i))) := by
      rw [List.getElem?_take] at hx
      split at hx
      · exact hx
      · simp at hx
    have hi3 : cur[i]? = some (.string (S (nth ss i))) := by rw [← Array.getElem?_toList]; exact hi2
    unfold World.cell?
    simp only [hg, Nat.zero_add]
    exact hi3

theorem OwnL.step {w' : World} {base : Nat} {v : Value} {ss : List Str} {x : Str} (h : w'.ownsRow base 9 1 v (ss.length + 1) (ss.map (fun s => Value.string (S s)) ++ [.string (S x)])) : OwnL w' base v (ss ++ [x]) := by
  unfold OwnL
  rw [List.map_append, List.length_append]
  exact h

theorem info_str : ∃ i, Try.prog.info? 9 = some i ∧ i.zero = some (.string (S [])) ∧ i.size = 1 ∧ i.bytes = 16 := by
  obtain ⟨i, hi, hzz⟩ := Option.map_eq_some_iff.1 Try.infoStr
  simp only [Prod.mk.injEq] at hzz
  exact ⟨i, hi, hzz.1, hzz.2.1, hzz.2.2⟩

theorem make_names (n : Nat) (hn : n ≤ 8796093022208) (w : World) :
    (Instr.makeSlice 63 (.int .i64 0) (.int .i64 (n : Int))).run Try.prog w = .ok (.slice (some ⟨w.heap.size, 0, none⟩) 0 n) (w.alloc (.cells (madeCells #[.string (S [])] n) 9)) := by
  obtain ⟨i, hi, hz, hs, hb⟩ := info_str
  have hr := run_make (P := Try.prog) w 63 9 i _ Try.underlying63 hi hz .i64 .i64 0 n (by omega) (by omega) (by rw [hb]; omega) (by omega)
  simp only [Int.toNat_natCast, hs, Nat.mul_one] at hr
  exact hr

theorem take_names {bs : List Batch} {k : Nat} (h : k < bs.length) : (namesOf bs).take (k + 1) = (namesOf bs).take k ++ [(nthB bs k).name] := by
  rw [List.take_succ_eq_append_getElem (by rw [namesOf_length]; exact h), nthB_get h]; simp [namesOf]

set_option maxHeartbeats 400000 in
theorem batchNames_any (a : Option Addr) (ca : Nat) (bs : List Batch) (w : World) (ha : BatchesAt w a bs) :
    Calls Try.prog 38 #[.slice a bs.length ca] w fun e w' =>
      ∃ a' cap', e = .returned (.slice a' (namesOf bs).length cap') ∧ Ext w w' ∧ StrsAt w' a' (namesOf bs) := by
  have hn := ha.1
  have hmk := make_names bs.length (by omega)
  obtain ⟨i0, hi, hz0, hz1, hz2⟩ := info_str
  go_enter Try.func38, Try.ntmps38
  go_wp2
  clear hmk
  go_loopw [3, 11] (fun v i wr => ∃ k : Nat, k ≤ bs.length ∧ i = .int .i64 k ∧ Below w.heap.size w wr ∧ OwnL wr w.heap.size v ((namesOf bs).take k)) (fun _ i _ => bs.length - (intOf i).toNat)
  case atStart => exact ⟨0, Nat.zero_le _, rfl, (Below.refl _ _).alloc (Nat.le_refl _) _, World.ownsRow_made w _ bs.length (Nat.le_refl _) (by unfold maxLen; omega) (by rw [size_madeCells]; omega)⟩
  case round =>
    obtain ⟨k, hk, rfl, hbel, hown⟩ := hrel
    have hz := hbel.size
    have HB : Hid (Below w.heap.size w wr) := hbel
    have ha' : BatchesAt wr a bs := ha.ext hbel
    by_cases hlt : k < bs.length
    · obtain ⟨ba, oa, rfl, hl, d1, g1, d2, g2, p0, p1, p2, s1, s2⟩ := ha'.2 k hlt
      clear hbel
      have hlen : ((namesOf bs).take k).length = k := by rw [List.length_take, namesOf_length]; omega
      have HO := hid hown
      clear hown
      go_wp2_with (at_builtin; refine wpList_append_own _ rfl _ _ 63 rfl w.heap.size 9 i0 (.string (S [])) 1 16 Try.underlying63 hi hz0 hz1 hz2 rfl (by decide) _ _ _ rfl ((HO.out.alloc _).alloc _) ⟨wr.heap.size + 1, 0, none⟩ 1 1 [.string (S (nthB bs k).name)] rfl rfl ?c1 ?c2 ?c3 ?c4 ?c5 ?_)
      case c1 =>
        intro j u hj
        match j, hj with
        | 0, hj => simp at hj; subst hj; simp [Addr.add]
      case c2 => intro u hu; simp at hu; subst hu; rfl
      case c3 => unfold maxLen; omega
      case c4 => omega
      case c5 => simp; omega
      · intro v' w1 hown' hgrow _
        have HN : Hid (OwnL w1 w.heap.size v' ((namesOf bs).take (k + 1))) := by
          rw [take_names hlt]; refine OwnL.step ?_; rw [hlen, List.map_take]; exact hown'
        have HB1 : Hid (Below w.heap.size w w1) := ((HB.out.alloc hz _).alloc (by simp; omega) _).grown hgrow (by simp; omega) (fun g hg => (HO.out.lt g hg).1)
        clear hown' hgrow
        go_wp2
        go_roundw
        case rel => exact ⟨k + 1, by omega, by go_num, HB1.out, HN.out⟩
        case measure => simp [intOf]; omega
    · have e : (namesOf bs).take k = namesOf bs := List.take_of_length_le (by rw [namesOf_length]; omega)
      rw [e] at hown
      obtain ⟨a', cap', rfl, hat⟩ := hown.at (by rw [namesOf_length]; omega) (fun i hi => by
        rw [namesOf_length] at hi
        rw [nth_namesOf hi]
        obtain ⟨_, _, _, h, _⟩ := ha'.2 i hi
        exact h)
      have HA := hid hat
      clear hown hat hbel e
      go_wp2
      go_ret
      exact ⟨a', cap', rfl, HB.out, HA.out⟩
end Go.Proofs.Ytdafpnpfcmgfcaa
