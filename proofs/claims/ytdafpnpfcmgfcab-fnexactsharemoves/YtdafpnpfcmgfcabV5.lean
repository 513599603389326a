/- The walk over the program's holders: who has what, in a map. -/
import Derived.Test.YtdafpnpfcmgfcabV4
namespace Go.Proofs.Ytdafpnpfcmgfcab
open Go.RowKit Go.Maps
attribute [local go_sem] S_toList S_size S_get

theorem lawStr : Keyed Qry.prog 9 := string_keyed (uQ Try.underlying9)
theorem zeroInt (w : World) : (zeroValue 3).run Qry.prog w = .ok (.int .i64 0) w := by kernel_rfl
theorem keyStr {x : Str} (h : x.length ≤ 140737488355328) : keyOf Qry.prog 9 (.string (S x)) = some (.string x) := by
  have h1 := WideMaps.keyOf_string_mk (P := Qry.prog) (uQ Try.underlying9) (s := S x) (by rw [S_size]; unfold maxLen; omega)
  rw [S_data] at h1; exact h1

/-- The map in block B reads as these pairs. -/
def OwnM (w : World) (B : Nat) (L : List (Str × Nat)) : Prop :=
  ∃ n D, w.ownsMap Qry.prog 9 (plainElem (H := Unit) Qry.prog 3) B n D ∧ n ≤ L.length ∧ MapIs D L

theorem OwnM.alloc {w : World} {B : Nat} {L : List (Str × Nat)} (h : OwnM w B L) (o : Obj) : OwnM (w.alloc o) B L := by
  obtain ⟨n, D, h1, h2, h3⟩ := h
  exact ⟨n, D, h1.alloc o, h2, h3⟩
theorem OwnM.ext {w w' : World} {B : Nat} {L : List (Str × Nat)} (h : OwnM w B L) (e : Ext w w') : OwnM w' B L := by
  obtain ⟨n, D, h1, h2, h3⟩ := h
  exact ⟨n, D, h1.kept (row := none) ⟨e.os, e.tape, e.output, e.size, fun k hk _ => e.block k hk⟩ (by simp), h2, h3⟩

theorem has_le {w : World} {a : Option Addr} {bs : List Batch} (ha : BatchesAt w a bs) : ∀ i, (nthB bs i).has.length ≤ 8796093022208 := by
  intro i
  by_cases h : i < bs.length
  · obtain ⟨_, _, _, _, _, _, _, _, _, _, _, s1, _⟩ := ha.2 i h
    exact s1.1
  · have e : nthB bs i = nob := by unfold nthB; rw [List.getD_eq_getElem?_getD, List.getElem?_eq_none (by omega)]; rfl
    rw [e]; simp [nob]

set_option maxHeartbeats 1000000 in
theorem holders_any (a : Option Addr) (ca : Nat) (bs : List Batch) (w : World) (ha : BatchesAt w a bs) (h5 : bs.length ≤ 5) :
    Calls Qry.prog 44 #[.slice a bs.length ca] w fun e w' => Ext w w' ∧
      ((e = .returned (.tuple #[.map none, .bool false]) ∧ onceB bs = false) ∨
       (∃ B, e = .returned (.tuple #[.map (some B), .bool true]) ∧ onceB bs = true ∧ OwnM w' B (pairsTo bs bs.length))) := by
  have hle := has_le ha
  have HLE := hid hle
  clear hle
  have hmm := @run_makeMap Qry.prog
  go_enter Qry.func44, Try.ntmps44
  go_wp2
  clear hmm
  go_loopw [14] (fun ii wr => ∃ i : Nat, i ≤ bs.length ∧ ii = .int .i64 i ∧ Below w.heap.size w wr ∧ OwnM wr w.heap.size (pairsTo bs i) ∧ (keys (pairsTo bs i)).Nodup) (fun ii _ => bs.length - (intOf ii).toNat)
  case atStart => exact ⟨0, Nat.zero_le _, rfl, (Below.refl _ _).alloc (Nat.le_refl _) _, ⟨0, _, World.ownsMap_made _ _ _ _, Nat.zero_le _, mapIs_nil⟩, by simp [keys, pairsTo]⟩
  case round =>
    obtain ⟨i, hi, rfl, hbel, hown, hnd⟩ := hrel
    have HB := hid hbel
    have HO := hid hown
    have HN := hid hnd
    have ha' : BatchesAt wr a bs := ha.ext hbel
    have hz := hbel.size
    by_cases hlt : i < bs.length
    · obtain ⟨ba, oa, rfl, hl, a1, c1, a2, c2, p0, p1, p2, s1, s2⟩ := ha.2 i hlt
      have q0 := Ext.keep hbel p0
      have q1 := Ext.keep hbel p1
      have q2 := Ext.keep hbel p2
      clear hbel hown hnd ha' p0 p1 p2
      have hnh := s1.1
      go_wp2
      go_loopw [22] (fun jj wq => ∃ j : Nat, j ≤ (nthB bs i).has.length ∧ jj = .int .i64 j ∧ Below w.heap.size w wq ∧ OwnM wq w.heap.size (halfP bs i j) ∧ (keys (halfP bs i j)).Nodup) (fun jj _ => (nthB bs i).has.length - (intOf jj).toNat)
      case atStart => exact ⟨0, Nat.zero_le _, rfl, HB.out.alloc hz _, by rw [halfP_zero]; exact HO.out.alloc _, by rw [halfP_zero]; exact HN.out⟩
      case round =>
        obtain ⟨j, hj, rfl, hbel, hown, hnd⟩ := hrel
        have HB1 := hid hbel
        have HN1 := hid hnd
        have hs' := s1.ext hbel
        have hz1 := hbel.size
        clear hnd hbel
        by_cases hjt : j < (nthB bs i).has.length
        · obtain ⟨hxl, bx, ox, rfl, hcx⟩ := hs'.2 j hjt
          have hkey := keyStr hxl
          obtain ⟨m, D, hom, hmn, hmap⟩ := hown
          have hbd := halfP_len HLE.out i j
          cases hq : hasB (keys (halfP bs i j)) (nth (nthB bs i).has j)
          · have hhas : Maps.has D (.string (nth (nthB bs i).has j)) = false := by rw [hmap.2.1, hq]
            have hnot : nth (nthB bs i).has j ∉ keys (halfP bs i j) := fun h => by rw [hasB_true.2 h] at hq; cases hq
            have HM := hid hmap
            have HK := hid (keys_snoc hjt HN1.out hnot)
            have HNOT := hid hnot
            clear hnot hmap
            go_wp2_with (first
              | (at_lookup; refine wpList_lookup_own_ok_int _ rfl _ _ 73 rfl 9 3 .i64 lawStr (uQ Try.underlying73) (uQ Try.underlying3) (zeroInt _) w.heap.size m D rfl hom _ _ rfl hkey ?_; intro c hat hwc; rw [hhas])
              | (at_mapUpdate; refine wpList_mapUpdate_own _ rfl _ _ _ 73 rfl 9 3 lawStr (uQ Try.underlying73) _ w.heap.size m D rfl hom (by unfold maxLen; omega) _ _ _ rfl rfl hkey _ [] (plainElem_int (uQ Try.underlying3) (WalkArith.wf_i64 (by omega))) ?_; intro w1 hown1 hgrow1))
            have HB2 : Hid (Below w.heap.size w w1) := HB1.out.grown hgrow1 hz1 (fun g hg => by cases hg; exact Nat.le_refl _)
            have HO2 : Hid (OwnM w1 w.heap.size (halfP bs i (j + 1))) := by
              refine ⟨m + 1, _, hown1, ?_, ?_⟩
              · rw [halfP_succ hjt]; simp; omega
              · rw [halfP_succ hjt]; exact HM.out.put HNOT.out i
            clear hown1 hgrow1 hom
            go_wp2
            go_roundw
            case rel => exact ⟨j + 1, by omega, by go_num, HB2.out, HO2.out, HK.out⟩
            case measure => simp [intOf]; omega
          · have hhas : Maps.has D (.string (nth (nthB bs i).has j)) = true := by rw [hmap.2.1, hq]
            have HF : Hid (onceB bs = false) := onceB_no hlt hjt (hasB_true.1 hq)
            clear hmap
            go_wp2_with (at_lookup; refine wpList_lookup_own_ok_int _ rfl _ _ 73 rfl 9 3 .i64 lawStr (uQ Try.underlying73) (uQ Try.underlying3) (zeroInt _) w.heap.size m D rfl hom _ _ rfl hkey ?_; intro c hat hwc; rw [hhas])
            go_ret2
            exact ⟨HB1.out, Or.inl ⟨rfl, HF.out⟩⟩
        · have e : j = (nthB bs i).has.length := by omega
          have HO2 : Hid (OwnM wr w.heap.size (pairsTo bs (i + 1))) := by rw [← halfP_full, ← e]; exact hown
          have HN2 : Hid (keys (pairsTo bs (i + 1))).Nodup := by rw [← halfP_full, ← e]; exact HN1.out
          clear hown e
          go_wp2
          go_roundw
          case rel => exact ⟨i + 1, by omega, by go_num, HB1.out, HO2.out, HN2.out⟩
          case measure => simp [intOf]; omega
    · have e : i = bs.length := by omega
      have HO2 : Hid (OwnM wr w.heap.size (pairsTo bs bs.length)) := by rw [← e]; exact hown
      have HF : Hid (onceB bs = true) := by
        show _ = true
        unfold onceB; rw [← e]; simpa using hnd
      clear hbel hown hnd e
      go_wp2
      go_ret2
      exact ⟨HB.out, Or.inr ⟨_, rfl, HF.out, HO2.out⟩⟩
end Go.Proofs.Ytdafpnpfcmgfcab
