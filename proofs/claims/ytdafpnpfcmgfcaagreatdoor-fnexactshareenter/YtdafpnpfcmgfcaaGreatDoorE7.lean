/- slices.Insert of one batch into a row of the call's own. -/
import Derived.Test.YtdafpnpfcmgfcaaGreatDoorE6
import Derived.Test.YtdafpnpfcmgfcaaGreatDoorH2
import Derived.Lib.Overlaps
namespace Go.Proofs.YtdafpnpfcmgfcaaGreatDoor
open Go.RowKit
attribute [local go_sem] S_toList S_size S_get

theorem wrapE {z : Int} (h0 : 0 ≤ z) (h1 : z < 9223372036854775808) : IntKind.i64.wrap z = z := by rw [IntKind.wrap_i64]; omega
/-- Some values laid over a list, from a place on. -/
def splice (X : List Value) (o : Nat) (D : List Value) : List Value := X.take o ++ D ++ X.drop (o + D.length)
theorem splice_length {X D : List Value} {o : Nat} (h : o + D.length ≤ X.length) : (splice X o D).length = X.length := by
  unfold splice
  rw [List.length_append, List.length_append, List.length_take, List.length_drop]; omega
theorem splice_take {X D : List Value} {o k : Nat} (h : o ≤ X.length) (hk : k = o + D.length) : (splice X o D).take k = X.take o ++ D := by
  subst hk
  unfold splice
  have hl : (X.take o ++ D).length = o + D.length := by rw [List.length_append, List.length_take]; omega
  rw [← hl, List.take_left]
theorem splice_lo {X D : List Value} {o a : Nat} (h : o ≤ X.length) (ha : a ≤ o) : (splice X o D).take a = X.take a := by
  unfold splice
  rw [List.append_assoc, List.take_append_of_le_length (by rw [List.length_take]; omega), List.take_take, Nat.min_eq_left ha]
theorem splice_drop {X D : List Value} {o : Nat} (h : o ≤ X.length) : (splice X o D).drop o = D ++ X.drop (o + D.length) := by
  unfold splice
  have hl : (X.take o).length = o := by rw [List.length_take]; omega
  rw [List.append_assoc]
  conv => lhs; arg 1; rw [← hl]
  rw [List.drop_left]
/-- First the row moved up, then the new one laid in. -/
theorem splice_in {X C D : List Value} {o k : Nat} (h : o + 3 ≤ X.length) (hC : C.length = 3) (hk : k = o + 3 + D.length) : (splice (splice X (o + 3) D) o C).take k = X.take o ++ C ++ D := by
  have e1 : (splice (splice X (o + 3) D) o C) = X.take o ++ C ++ (D ++ X.drop (o + 3 + D.length)) := by
    show (splice X (o + 3) D).take o ++ C ++ (splice X (o + 3) D).drop (o + C.length) = _
    rw [splice_lo h (by omega), hC, splice_drop h]
  have hl : (X.take o ++ C ++ D).length = k := by rw [List.length_append, List.length_append, List.length_take, hC, hk]; omega
  rw [e1, ← List.append_assoc, ← hl, List.take_left]
theorem splice_two {X C D : List Value} {o k : Nat} (h : o + 3 ≤ X.length) (hC : C.length = 3) (hk : k = o + 3 + D.length) : (splice (splice X o C) (o + 3) D).take k = X.take o ++ C ++ D := by
  have hl : (splice X o C).length = X.length := splice_length (by omega)
  rw [splice_take (by omega) (by omega), splice_take (by omega) (by omega)]
theorem cellsOf_dropL (rs : List Row) (k : Nat) : cellsOf (rs.drop k) = (cellsOf rs).drop (k * 3) := by
  have e : cellsOf rs = cellsOf (rs.take k) ++ cellsOf (rs.drop k) := by rw [← cellsOf_append, List.take_append_drop]
  rcases Nat.lt_or_ge rs.length k with h | h
  · rw [List.drop_of_length_le (by omega : rs.length ≤ k), List.drop_of_length_le (by rw [cellsOf_length]; omega)]; rfl
  · have hl : (cellsOf (rs.take k)).length = k * 3 := by rw [cellsOf_length, List.length_take]; omega
    conv => rhs; rw [e, ← hl]
    rw [List.drop_left]
theorem cell_row {w : World} {g : Nat} {cur : Array Value} {t : TypeId} (hg : w.heap[g]? = some (.cells cur t (0, 0))) {j : Nat} {u : Value} (h : cur.toList[j]? = some u) : w.cell? ⟨g, j, none⟩ = some u := by
  unfold World.cell?
  simp only [hg]
  rw [← Array.getElem?_toList]; exact h
theorem row_src {w : World} {g n : Nat} {cur : Array Value} {t : TypeId} {rs : List Row} (hg : w.heap[g]? = some (.cells cur t (0, 0))) (ht : cur.toList.take (n * 3) = cellsOf rs) (p : Nat) (hp : p ≤ rs.length) : ∀ (j : Nat) u, (cellsOf (rs.drop p))[j]? = some u → w.cell? ((⟨g, p * 3, none⟩ : Addr).add j) = some u := by
  intro j u hj
  rw [add_plain]
  refine cell_row hg ?_
  have h2 := cellsOf_drop hp hj
  rw [← ht, List.getElem?_take] at h2
  split at h2
  · exact h2
  · cases h2

set_option maxRecDepth 100000 in
set_option maxHeartbeats 2000000 in
/-- Room is left: the row moves up within its own block. -/
theorem insert_room (base : Nat) (rs : List Row) (r : Row) (p n g c V cV : Nat) (cur : Array Value) (w : World) (hb : base ≤ g) (hg : w.heap[g]? = some (.cells cur 73 (0, 0))) (hcm : c ≤ maxLen) (hs : cur.size = c * 3) (ht : cur.toList.take (n * 3) = cellsOf rs) (hrn : rs.length = n)
    (h1 : ∀ r ∈ rs, r.has.oneCell' = true ∧ r.needs.oneCell' = true) (hr1 : r.has.oneCell' = true ∧ r.needs.oneCell' = true) (hV : Rec w V 73 (cellsOf [r])) (hVg : V ≠ g) (hp : p < n) (hn : n ≤ 1000000) (hroom : n + 1 ≤ c) :
    Calls Tryz.prog 103 #[.slice (some ⟨g, 0, none⟩) n c, .int .i64 (p : Int), .slice (some ⟨V, 0, none⟩) 1 cV] w fun e w' =>
      ∃ v', e = .returned v' ∧ w.grownBy w' (some g) ∧ v'.ownBlock = some g ∧ w'.ownsRow base 73 3 v' (n + 1) (cellsOf (rs.take p ++ [r] ++ rs.drop p)) := by
  obtain ⟨i0, hi, hz0, hz1, hz2⟩ := info_batch
  have hlc : (cellsOf [r]).length = 3 := rfl
  have hld : (cellsOf (rs.drop p)).length = (n - p) * 3 := by rw [cellsOf_length, List.length_drop, hrn]
  have hlX : cur.toList.length = c * 3 := by rw [Array.length_toList, hs]
  -- overlaps
  have hov := Lib.run_overlaps_apart (P := Tryz.prog) w 24 4 73 Tryz.underlying24 3 (fun w => by kernel_rfl) ⟨V, 0, none⟩ ⟨g, (p + 1) * 3, none⟩ 1 cV (n - p) (c - (p + 1)) hVg 73 73 3 (c * 3)
    (by simp [World.shape?, show w.heap[V]? = _ from hV, cellsOf, Row.cells]) (by simp [World.shape?, hg, hs]) (by omega) (by simpa using hV.frozen 0) (by simpa using hV.frozen 3)
  have hcv : (callFunc 125 #[.slice (some ⟨V, 0, none⟩) 1 cV, .slice (some ⟨g, (p + 1) * 3, none⟩) (n - p) (c - (p + 1))]).run Tryz.prog w = .ok (.value (.bool false)) w := by
    rw [run_callFunc_extern Tryz.func125 (by kernel_rfl) (by kernel_rfl) (by kernel_rfl) (e := Extern.SlicesOverlaps.overlaps #[24, 24] #[4]) (by kernel_rfl), hov]; rfl
  clear hov
  -- the two copies
  have hmin1 : Nat.min (n + 1 - p) (n - p) = n - p := by show min _ _ = _; omega
  have hmin2 : Nat.min 1 (n + 1 - p) = 1 := by show min _ _ = _; omega
  have hg0 : (w.drewN 1).heap[g]? = some (.cells cur 73 (0, 0)) := hg
  have hc1 := run_copyN (P := Tryz.prog) (w.drewN 1) 24 24 3 73 g ((p + 1) * 3) (n - p) (c - (p + 1)) ⟨g, p * 3, none⟩ (n + 1 - p) (c - p) (n - p) cur 73 (cellsOf (rs.drop p)) i0 Tryz.underlying24 hi hg0 hmin1 (by rw [hld, hz1]) (row_src hg0 ht p (by omega)) (by rw [hld, hs]; omega) (cellsOf_one _ (fun r hr => h1 r (List.mem_of_mem_drop hr)))
  have hg1 := setRow_heap (w.drewN 1) g cur (cur.toList.take ((p + 1) * 3) ++ cellsOf (rs.drop p) ++ cur.toList.drop ((p + 1) * 3 + (cellsOf (rs.drop p)).length)).toArray 73 (0, 0) hg0
  have hsp1 : (cur.toList.take ((p + 1) * 3) ++ cellsOf (rs.drop p) ++ cur.toList.drop ((p + 1) * 3 + (cellsOf (rs.drop p)).length)) = splice cur.toList ((p + 1) * 3) (cellsOf (rs.drop p)) := rfl
  rw [hsp1] at hc1 hg1
  have hl1 : (splice cur.toList ((p + 1) * 3) (cellsOf (rs.drop p))).length = c * 3 := by rw [splice_length (by rw [hld, hlX]; omega), hlX]
  have hVo : ((w.drewN 1).setRow g (splice cur.toList ((p + 1) * 3) (cellsOf (rs.drop p))).toArray).heap[V]? = w.heap[V]? := setRow_other (w.drewN 1) g V _ hVg
  have hgr1 : w.grownBy ((w.drewN 1).setRow g (splice cur.toList ((p + 1) * 3) (cellsOf (rs.drop p))).toArray) (some g) := gb_trE (gb_noneE (ext_drewN w 1)) (gb_row _ _ _)
  generalize hw1 : (w.drewN 1).setRow g (splice cur.toList ((p + 1) * 3) (cellsOf (rs.drop p))).toArray = w1 at *
  clear hw1
  have hV1 : Rec w1 V 73 (cellsOf [r]) := hVo.trans hV
  have hc2 := run_copyN (P := Tryz.prog) w1 24 24 3 73 g (p * 3) (n + 1 - p) (c - p) ⟨V, 0, none⟩ 1 cV 1 _ 73 (cellsOf [r]) i0 Tryz.underlying24 hi hg1 hmin2 (by rw [hlc, hz1]) (fun j u hj => by rw [add_plain, Nat.zero_add]; exact hV1.cell hj) (by rw [hlc, List.size_toArray, hl1]; omega) (cellsOf_one _ (fun r' hr' => by rw [List.mem_singleton] at hr'; rw [hr']; exact hr1))
  have hg2 := setRow_heap w1 g _ (splice (splice cur.toList ((p + 1) * 3) (cellsOf (rs.drop p))) (p * 3) (cellsOf [r])).toArray 73 (0, 0) hg1
  have hsp2 : (List.take (p * 3) (splice cur.toList ((p + 1) * 3) (cellsOf (rs.drop p))).toArray.toList ++ cellsOf [r] ++ List.drop (p * 3 + (cellsOf [r]).length) (splice cur.toList ((p + 1) * 3) (cellsOf (rs.drop p))).toArray.toList) = splice (splice cur.toList ((p + 1) * 3) (cellsOf (rs.drop p))) (p * 3) (cellsOf [r]) := rfl
  rw [hsp2] at hc2
  have HO : Hid ((w1.setRow g (splice (splice cur.toList ((p + 1) * 3) (cellsOf (rs.drop p))) (p * 3) (cellsOf [r])).toArray).ownsRow base 73 3 (.slice (some ⟨g, 0, none⟩) (n + 1) c) (n + 1) (cellsOf (rs.take p ++ [r] ++ rs.drop p))) := by
    refine own_shut hb hg2 hroom hcm ?_ ?_
    · rw [List.size_toArray, splice_length (by rw [hlc, hl1]; omega), hl1]
    · show List.take ((n + 1) * 3) (splice (splice cur.toList ((p + 1) * 3) (cellsOf (rs.drop p))) (p * 3) (cellsOf [r])) = _
      have e3 : (p + 1) * 3 = p * 3 + 3 := by omega
      rw [e3, splice_in (by rw [hlX]; omega) hlc (by rw [hld]; omega), cellsOf_append, cellsOf_append, cellsOf_takeL, ← ht, List.take_take, Nat.min_eq_left (by omega)]
  have HGB : Hid (w.grownBy (w1.setRow g (splice (splice cur.toList ((p + 1) * 3) (cellsOf (rs.drop p))) (p * 3) (cellsOf [r])).toArray) (some g)) := gb_trE hgr1 (gb_row _ _ _)
  have HC1 := hid hc1
  have HC2 := hid hc2
  generalize w1.setRow g (splice (splice cur.toList ((p + 1) * 3) (cellsOf (rs.drop p))) (p * 3) (cellsOf [r])).toArray = w2 at *
  generalize cellsOf (rs.take p ++ [r] ++ rs.drop p) = xs at *
  clear hc1 hc2 hg2 hsp2 hV1 hgr1 hVo hl1 hsp1 hg1 hg0 hmin1 hmin2 hlX hld hlc hi hz0 hz1 hz2 hV h1 hr1 ht hs hg hb hrn
  go_enter Tryz.func103, Tryz.ntmps103
  go_wp2_with fail
  refine wp_region_T (fun _ => True) 9 (by kernel_rfl) trivial (fun hS => ?_)
  refine wpT_takeN 0 (v := ?_) rfl rfl (by kernel_rfl) (by kernel_rfl) (by kernel_rfl) (by kernel_rfl) (fun _ _ _ h => h) hS rfl (by intro w0 hw0; (try dsimp only at hw0); go_simp; try rfl) ?_
  try simp only [List.set]
  refine wpT_takeN 1 (v := ?_) rfl rfl (by kernel_rfl) (by kernel_rfl) (by kernel_rfl) (by kernel_rfl) (fun _ _ _ h => h) hS rfl (by intro w0 hw0; (try dsimp only at hw0); go_simp; try rfl) ?_
  try simp only [List.set]
  refine wpT_takeN 2 (v := ?_) rfl rfl (by kernel_rfl) (by kernel_rfl) (by kernel_rfl) (by kernel_rfl) (fun _ _ _ h => h) hS rfl (by intro w0 hw0; (try dsimp only at hw0); go_simp; try rfl) ?_
  try simp only [List.set]
  refine wpT_takeN 5 (v := ?_) rfl rfl (by kernel_rfl) (by kernel_rfl) (by kernel_rfl) (by kernel_rfl) (fun _ _ _ h => h) hS rfl (by intro w0 hw0; (try dsimp only at hw0); go_simp; try rfl) ?_
  try simp only [List.set]
  refine wpT_takeN 6 (v := ?_) rfl rfl (by kernel_rfl) (by kernel_rfl) (by kernel_rfl) (by kernel_rfl) (fun _ _ _ h => h) hS rfl (by intro w0 hw0; (try dsimp only at hw0); go_simp; try rfl) ?_
  try simp only [List.set]
  refine wpT_takeN 3 (v := .int .i64 ((p : Int) + 1)) rfl rfl (by kernel_rfl) (by kernel_rfl) (by kernel_rfl) (by kernel_rfl) (fun _ _ _ h => h) hS rfl (by intro w0 hw0; (try dsimp only at hw0); go_simp; exact wrapE (by omega) (by omega)) ?_
  try simp only [List.set]
  refine wpT_takeN 4 (v := .slice (some ⟨g, (p + 1) * 3, none⟩) (n - p) (c - (p + 1))) rfl rfl (by kernel_rfl) (by kernel_rfl) (by kernel_rfl) (by kernel_rfl) (fun _ _ _ h => h) hS rfl (by intro w0 hw0; (try dsimp only at hw0); go_simp; first | (rw [if_pos (by omega), if_neg (by omega)]) | (intro h; have := h (by omega); omega)) ?_
  try simp only [List.set]
  refine wpT_takeN 7 (v := .slice (some ⟨g, p * 3, none⟩) (n + 1 - p) (c - p)) rfl rfl (by kernel_rfl) (by kernel_rfl) (by kernel_rfl) (by kernel_rfl) (fun _ _ _ h => h) hS rfl (by intro w0 hw0; (try dsimp only at hw0); go_simp; first | (rw [if_pos (by omega), if_neg (by omega)]) | (intro h; have := h (by omega); omega)) ?_
  try simp only [List.set]
  refine wpT_one 8 rfl (by kernel_rfl) rfl rfl (fun K hK => ?_)
  refine wp_copy_run _ _ _ _ _ rfl _ _ rfl rfl _ _ HC1.out (hK.out _ _ trivial (fun hS1 => ?_))
  clear hK hS
  have hS := hS1
  clear hS1
  try clear K
  try simp only [put_some, List.set]
  refine wpT_done (by kernel_rfl) ?_ _
  have hc2v := HC2.out
  clear HC1 HC2
  go_wp2
  go_ret
  exact ⟨_, rfl, HGB.out, rfl, HO.out⟩

theorem ext_row {w w1 : World} (e : Ext w w1) {G : Nat} (hG : w.heap.size ≤ G) (cs : Array Value) : Ext w (w1.setRow G cs) :=
  ⟨e.os, e.tape, e.output, by have := e.size; simp only [World.setRow, Array.size_modify]; exact this, fun k hk => (setRow_other w1 G k cs (by omega)).trans (e.block k hk)⟩

set_option maxRecDepth 100000 in
set_option maxHeartbeats 2000000 in
/-- No room is left: a new row. -/
theorem insert_grow (base : Nat) (rs : List Row) (r : Row) (p n g c V cV : Nat) (cur : Array Value) (w : World) (hbz : base ≤ w.heap.size) (hg : w.heap[g]? = some (.cells cur 73 (0, 0))) (hnc : n ≤ c) (ht : cur.toList.take (n * 3) = cellsOf rs) (hrn : rs.length = n)
    (h1 : ∀ r ∈ rs, r.has.oneCell' = true ∧ r.needs.oneCell' = true) (hr1 : r.has.oneCell' = true ∧ r.needs.oneCell' = true) (hV : Rec w V 73 (cellsOf [r])) (hp : p < n) (hn : n ≤ 1000000) (hroom : c < n + 1) :
    Calls Tryz.prog 103 #[.slice (some ⟨g, 0, none⟩) n c, .int .i64 (p : Int), .slice (some ⟨V, 0, none⟩) 1 cV] w fun e w' =>
      ∃ v', e = .returned v' ∧ Ext w w' ∧ v'.ownBlock = some w.heap.size ∧ w'.ownsRow base 73 3 v' (n + 1) (cellsOf (rs.take p ++ [r] ++ rs.drop p)) := by
  obtain ⟨i0, hi, hz0, hz1, hz2⟩ := info_batch
  have hlc : (cellsOf [r]).length = 3 := rfl
  have hld : (cellsOf (rs.drop p)).length = (n - p) * 3 := by rw [cellsOf_length, List.length_drop, hrn]
  have hlt : (cellsOf (rs.take p)).length = p * 3 := by rw [cellsOf_length, List.length_take, hrn, Nat.min_eq_left (by omega)]
  have hgl : g < w.heap.size := (Array.getElem?_eq_some_iff.1 hg).1
  -- the append
  have hold := run_firstCells_some (P := Tryz.prog) w.drew i0.size p ⟨g, 0, none⟩ p c (cellsOf (rs.take p)) (by rw [hlt, hz1]) (fun j u hj => by
    rw [add_plain, Nat.zero_add]
    refine cell_row (cur := cur) (t := 73) hg ?_
    have h2 := cellsOf_take hj
    rw [← ht, List.getElem?_take] at h2
    split at h2
    · exact h2
    · cases h2)
  have hns := nextslicecap_le (need := p + (n + 1 - p)) (old := c) (by omega)
  have hap := Lib.run_append_grow_zeros (P := Tryz.prog) w 24 3 24 73 i0 _ .i64 .i64 Tryz.underlying24 Tryz.underlying3 hi hz0 (some ⟨g, 0, none⟩) p c (cellsOf (rs.take p)) hold (n + 1 - p) (by omega) (by rw [hz1]; omega) (by omega) (by omega) (by rw [hz2]; omega) (by rw [hz2]; omega)
  have hge := grownCap_ge w (p + (n + 1 - p)) c 73
  have hmx := grownCap_le_maxLen w (p + (n + 1 - p)) c 73 (by unfold maxLen; omega)
  have ek : p + (n + 1 - p) = n + 1 := by omega
  have ek2 : ((n + 1 - p : Nat) : Int) = (n : Int) + 1 - (p : Int) := by omega
  rw [ek, ek2] at hap
  rw [ek] at hge hmx
  have hzs : (Value.agg #[.string (S []), .slice none 0 0, .slice none 0 0]).cells.size = 3 := rfl
  generalize grownCap w (n + 1) c 73 = cap at *
  obtain ⟨cur1, hcur1⟩ : ∃ cur1, cur1 = (cellsOf (rs.take p)).toArray ++ Builtin.zeroCells (Value.agg #[.string (S []), .slice none 0 0, .slice none 0 0]).cells (n + 1 - p) ++ Builtin.zeroCells (Value.agg #[.string (S []), .slice none 0 0, .slice none 0 0]).cells (cap - (n + 1)) := ⟨_, rfl⟩
  rw [← hcur1] at hap
  have hs1 : cur1.size = cap * 3 := by
    rw [hcur1, Array.size_append, Array.size_append, size_zeroCells, size_zeroCells, hzs, List.size_toArray, hlt]; omega
  have ht1 : cur1.toList.take (p * 3) = cellsOf (rs.take p) := by
    rw [hcur1, Array.toList_append, Array.toList_append, List.append_assoc, ← hlt]
    exact List.take_left
  clear hcur1 hold hns hzs
  have hE1 : Ext w (w.drew.alloc (.cells cur1 73)) := Ext.tr (ext_drewN w 1) (ext_alloc _ _)
  have hG1 : (w.drew.alloc (.cells cur1 73)).heap[w.heap.size]? = some (.cells cur1 73 (0, 0)) := heap_alloc_new w.drew _
  have HAP := hid hap
  generalize w.drew.alloc (.cells cur1 73) = w1 at *
  clear hap
  -- the first copy
  have hlX : cur1.toList.length = cap * 3 := by rw [Array.length_toList, hs1]
  have hmin1 : Nat.min 1 (n + 1 - p) = 1 := by show min _ _ = _; omega
  have hV1 := hV.ext hE1
  have hc1 := run_copyN (P := Tryz.prog) w1 24 24 3 73 w.heap.size (p * 3) (n + 1 - p) (cap - p) ⟨V, 0, none⟩ 1 cV 1 cur1 73 (cellsOf [r]) i0 Tryz.underlying24 hi hG1 hmin1 (by rw [hlc, hz1]) (fun j u hj => by rw [add_plain, Nat.zero_add]; exact hV1.cell hj) (by rw [hlc, hs1]; omega) (cellsOf_one _ (fun r' hr' => by rw [List.mem_singleton] at hr'; rw [hr']; exact hr1))
  have hsp1 : (cur1.toList.take (p * 3) ++ cellsOf [r] ++ cur1.toList.drop (p * 3 + (cellsOf [r]).length)) = splice cur1.toList (p * 3) (cellsOf [r]) := rfl
  rw [hsp1] at hc1
  have hG2 := setRow_heap w1 w.heap.size cur1 (splice cur1.toList (p * 3) (cellsOf [r])).toArray 73 (0, 0) hG1
  have hE2 := ext_row hE1 (Nat.le_refl _) (splice cur1.toList (p * 3) (cellsOf [r])).toArray
  have hl2 : (splice cur1.toList (p * 3) (cellsOf [r])).length = cap * 3 := by rw [splice_length (by rw [hlc, hlX]; omega), hlX]
  have HC1 := hid hc1
  generalize w1.setRow w.heap.size (splice cur1.toList (p * 3) (cellsOf [r])).toArray = w2 at *
  clear hc1 hsp1 hG1 hV1
  -- the second
  have hmin2 : Nat.min (n - p) (n - p) = n - p := by show min _ _ = _; omega
  have hg2 : (w2.drewN 1).heap[g]? = some (.cells cur 73 (0, 0)) := (hE2.block g hgl).trans hg
  have hG2' : (w2.drewN 1).heap[w.heap.size]? = some (.cells (splice cur1.toList (p * 3) (cellsOf [r])).toArray 73 (0, 0)) := hG2
  have hc2 := run_copyN (P := Tryz.prog) (w2.drewN 1) 24 24 3 73 w.heap.size ((p + 1) * 3) (n - p) (cap - (p + 1)) ⟨g, p * 3, none⟩ (n - p) (c - p) (n - p) _ 73 (cellsOf (rs.drop p)) i0 Tryz.underlying24 hi hG2' hmin2 (by rw [hld, hz1]) (row_src hg2 ht p (by omega)) (by rw [hld, List.size_toArray, hl2]; omega) (cellsOf_one _ (fun r hr => h1 r (List.mem_of_mem_drop hr)))
  have hsp2 : (List.take ((p + 1) * 3) (splice cur1.toList (p * 3) (cellsOf [r])).toArray.toList ++ cellsOf (rs.drop p) ++ List.drop ((p + 1) * 3 + (cellsOf (rs.drop p)).length) (splice cur1.toList (p * 3) (cellsOf [r])).toArray.toList) = splice (splice cur1.toList (p * 3) (cellsOf [r])) ((p + 1) * 3) (cellsOf (rs.drop p)) := rfl
  rw [hsp2] at hc2
  have hG3 := setRow_heap (w2.drewN 1) w.heap.size _ (splice (splice cur1.toList (p * 3) (cellsOf [r])) ((p + 1) * 3) (cellsOf (rs.drop p))).toArray 73 (0, 0) hG2'
  have HE3 := hid (ext_row (Ext.tr hE2 (ext_drewN w2 1)) (Nat.le_refl _) (splice (splice cur1.toList (p * 3) (cellsOf [r])) ((p + 1) * 3) (cellsOf (rs.drop p))).toArray)
  have HO : Hid (((w2.drewN 1).setRow w.heap.size (splice (splice cur1.toList (p * 3) (cellsOf [r])) ((p + 1) * 3) (cellsOf (rs.drop p))).toArray).ownsRow base 73 3 (.slice (some ⟨w.heap.size, 0, none⟩) (n + 1) cap) (n + 1) (cellsOf (rs.take p ++ [r] ++ rs.drop p))) := by
    refine own_shut hbz hG3 hge hmx ?_ ?_
    · rw [List.size_toArray, splice_length (by rw [hld, hl2]; omega), hl2]
    · show List.take ((n + 1) * 3) (splice (splice cur1.toList (p * 3) (cellsOf [r])) ((p + 1) * 3) (cellsOf (rs.drop p))) = _
      have e3 : (p + 1) * 3 = p * 3 + 3 := by omega
      rw [e3, splice_two (by rw [hlX]; omega) hlc (by rw [hld]; omega), cellsOf_append, cellsOf_append, ht1]
  have HC2 := hid hc2
  generalize (w2.drewN 1).setRow w.heap.size (splice (splice cur1.toList (p * 3) (cellsOf [r])) ((p + 1) * 3) (cellsOf (rs.drop p))).toArray = w3 at *
  generalize cellsOf (rs.take p ++ [r] ++ rs.drop p) = xs at *
  clear hc2 hsp2 hG3 hG2' hg2 hmin2 hl2 hE2 hG2 hmin1 hlX hE1 ht1 hs1 hgl hlt hld hlc hi hz0 hz1 hz2 hV h1 hr1 ht hg hbz hrn ek ek2
  go_enter Tryz.func103, Tryz.ntmps103
  have hc1v := HC1.out
  go_wp2_with (at_builtin; refine Lib.wpList_append_run _ rfl _ _ _ _ rfl _ _ rfl rfl _ _ HAP.out ?_)
  refine wp_region_T (fun _ => True) 9 (by kernel_rfl) trivial (fun hS => ?_)
  refine wpT_takeN 0 (v := ?_) rfl rfl (by kernel_rfl) (by kernel_rfl) (by kernel_rfl) (by kernel_rfl) (fun _ _ _ h => h) hS rfl (by intro w0 hw0; (try dsimp only at hw0); go_simp; try rfl) ?_
  try simp only [List.set]
  refine wpT_takeN 1 (v := ?_) rfl rfl (by kernel_rfl) (by kernel_rfl) (by kernel_rfl) (by kernel_rfl) (fun _ _ _ h => h) hS rfl (by intro w0 hw0; (try dsimp only at hw0); go_simp; try rfl) ?_
  try simp only [List.set]
  refine wpT_takeN 2 (v := ?_) rfl rfl (by kernel_rfl) (by kernel_rfl) (by kernel_rfl) (by kernel_rfl) (fun _ _ _ h => h) hS rfl (by intro w0 hw0; (try dsimp only at hw0); go_simp; try rfl) ?_
  try simp only [List.set]
  refine wpT_takeN 5 (v := ?_) rfl rfl (by kernel_rfl) (by kernel_rfl) (by kernel_rfl) (by kernel_rfl) (fun _ _ _ h => h) hS rfl (by intro w0 hw0; (try dsimp only at hw0); go_simp; try rfl) ?_
  try simp only [List.set]
  refine wpT_takeN 6 (v := ?_) rfl rfl (by kernel_rfl) (by kernel_rfl) (by kernel_rfl) (by kernel_rfl) (fun _ _ _ h => h) hS rfl (by intro w0 hw0; (try dsimp only at hw0); go_simp; try rfl) ?_
  try simp only [List.set]
  refine wpT_takeN 3 (v := .int .i64 ((p : Int) + 1)) rfl rfl (by kernel_rfl) (by kernel_rfl) (by kernel_rfl) (by kernel_rfl) (fun _ _ _ h => h) hS rfl (by intro w0 hw0; (try dsimp only at hw0); go_simp; exact wrapE (by omega) (by omega)) ?_
  try simp only [List.set]
  refine wpT_takeN 4 (v := .slice (some ⟨w.heap.size, (p + 1) * 3, none⟩) (n - p) (cap - (p + 1))) rfl rfl (by kernel_rfl) (by kernel_rfl) (by kernel_rfl) (by kernel_rfl) (fun _ _ _ h => h) hS rfl (by intro w0 hw0; (try dsimp only at hw0); go_simp; first | (rw [if_pos (by omega), if_neg (by omega)]) | (intro h; have := h (by omega); omega)) ?_
  try simp only [List.set]
  refine wpT_takeN 7 (v := .slice (some ⟨g, p * 3, none⟩) (n - p) (c - p)) rfl rfl (by kernel_rfl) (by kernel_rfl) (by kernel_rfl) (by kernel_rfl) (fun _ _ _ h => h) hS rfl (by intro w0 hw0; (try dsimp only at hw0); go_simp; first | (rw [if_pos (by omega), if_neg (by omega)]) | (intro h; have := h (by omega); omega)) ?_
  try simp only [List.set]
  refine wpT_one 8 rfl (by kernel_rfl) rfl rfl (fun K hK => ?_)
  refine wp_copy_run _ _ _ _ _ rfl _ _ rfl rfl _ _ HC2.out (hK.out _ _ trivial (fun hS1 => ?_))
  clear hK hS
  have hS := hS1
  clear hS1
  try clear K
  try simp only [put_some, List.set]
  refine wpT_done (by kernel_rfl) ?_ _
  go_wp2
  go_ret
  exact ⟨_, rfl, HE3.out, rfl, HO.out⟩

set_option maxRecDepth 100000 in
set_option maxHeartbeats 1000000 in
/-- At the end: appended. -/
theorem insert_end (base : Nat) (rs : List Row) (r : Row) (n : Nat) (v2 : Value) (V cV : Nat) (w : World) (h : w.ownsRow base 73 3 v2 n (cellsOf rs)) (hrn : rs.length = n) (hbz : base ≤ w.heap.size) (hr1 : r.has.oneCell' = true ∧ r.needs.oneCell' = true) (hV : Rec w V 73 (cellsOf [r])) (hn : n ≤ 1000000) :
    Calls Tryz.prog 103 #[v2, .int .i64 (n : Int), .slice (some ⟨V, 0, none⟩) 1 cV] w fun e w' =>
      ∃ v', e = .returned v' ∧ w.grownBy w' v2.ownBlock ∧ (v'.ownBlock = v2.ownBlock ∨ v'.ownBlock = some w.heap.size) ∧ w'.ownsRow base 73 3 v' (n + 1) (cellsOf (rs ++ [r])) := by
  subst hrn
  obtain ⟨a2, c2, rfl⟩ := own_shape3 h
  have hle : rs.length ≤ c2 := by
    rcases h.2 with ⟨e, h0⟩ | ⟨g, cap, cur, e, _, _, hc, _⟩
    · simp only [Value.slice.injEq] at e
      omega
    · simp only [Value.slice.injEq] at e
      omega
  have HO := hid h
  clear h
  by_cases hcp : c2 = rs.length
  · subst hcp
    go_enter Tryz.func103, Tryz.ntmps103
    go_wp2_with (at_builtin; refine wpList_row (r := r) rfl _ _ rfl rfl HO.out rfl (fun j u hj => ⟨_, rfl, by rw [add_plain, Nat.zero_add]; exact hV.cell hj⟩) (cellsOf_one _ (fun r' hr' => by rw [List.mem_singleton] at hr'; rw [hr']; exact hr1)) hn hbz ?_)
    intro v' w' h2 h3 h4
    have HN : Hid (w'.ownsRow base 73 3 v' (rs.length + 1) (cellsOf (rs ++ [r]))) := by
      have e : (rs ++ [r]).length = rs.length + 1 := by rw [List.length_append]; rfl
      first | exact h2 | exact (e ▸ h2)
    have HG := hid h3
    have H4 := hid h4
    clear h2 h3 h4
    go_wp2
    go_ret
    exact ⟨v', rfl, HG.out, H4.out, HN.out⟩
  · go_enter Tryz.func103, Tryz.ntmps103
    go_wp2_with (at_builtin; refine wpList_row (r := r) rfl _ _ rfl rfl HO.out rfl (fun j u hj => ⟨_, rfl, by rw [add_plain, Nat.zero_add]; exact hV.cell hj⟩) (cellsOf_one _ (fun r' hr' => by rw [List.mem_singleton] at hr'; rw [hr']; exact hr1)) hn hbz ?_)
    intro v' w' h2 h3 h4
    have HN : Hid (w'.ownsRow base 73 3 v' (rs.length + 1) (cellsOf (rs ++ [r]))) := by
      have e : (rs ++ [r]).length = rs.length + 1 := by rw [List.length_append]; rfl
      first | exact h2 | exact (e ▸ h2)
    have HG := hid h3
    have H4 := hid h4
    clear h2 h3 h4
    go_wp2
    go_ret
    exact ⟨v', rfl, HG.out, H4.out, HN.out⟩

/-- One batch laid into a row of the call's own. -/
theorem insert_any (base : Nat) (rs : List Row) (r : Row) (p n : Nat) (v2 : Value) (V cV : Nat) (w : World) (h : w.ownsRow base 73 3 v2 n (cellsOf rs)) (hrn : rs.length = n) (hbz : base ≤ w.heap.size) (h1 : ∀ r ∈ rs, r.has.oneCell' = true ∧ r.needs.oneCell' = true) (hr1 : r.has.oneCell' = true ∧ r.needs.oneCell' = true) (hV : Rec w V 73 (cellsOf [r])) (hVn : v2.ownBlock ≠ some V) (hp : p ≤ n) (hn : n ≤ 1000000) :
    Calls Tryz.prog 103 #[v2, .int .i64 (p : Int), .slice (some ⟨V, 0, none⟩) 1 cV] w fun e w' =>
      ∃ v', e = .returned v' ∧ w.grownBy w' v2.ownBlock ∧ (v'.ownBlock = v2.ownBlock ∨ v'.ownBlock = some w.heap.size) ∧ w'.ownsRow base 73 3 v' (n + 1) (cellsOf (rs.take p ++ [r] ++ rs.drop p)) := by
  rcases Nat.lt_or_ge p n with hlt | hge
  · obtain ⟨g, c, cur, rfl, hb, hg, hc, hx, hs, ht⟩ := own_open h (by omega)
    have hVg : V ≠ g := fun e => hVn (by rw [e]; rfl)
    rcases Nat.lt_or_ge c (n + 1) with hr | hr
    · refine (insert_grow base rs r p n g c V cV cur w hbz hg hc ht hrn h1 hr1 hV hlt hn hr).mono ?_
      rintro e w' ⟨v', rfl, hE, ho, hO⟩
      exact ⟨v', rfl, gb_noneE hE, Or.inr ho, hO⟩
    · refine (insert_room base rs r p n g c V cV cur w hb hg hx hs ht hrn h1 hr1 hV hVg hlt hn hr).mono ?_
      rintro e w' ⟨v', rfl, hE, ho, hO⟩
      exact ⟨v', rfl, hE, Or.inl ho, hO⟩
  · have e : p = n := by omega
    subst e
    refine (insert_end base rs r p v2 V cV w h hrn hbz hr1 hV hn).mono ?_
    rintro e w' ⟨v', rfl, hE, ho, hO⟩
    refine ⟨v', rfl, hE, ho, ?_⟩
    rw [List.take_of_length_le (by omega), List.drop_of_length_le (by omega), List.append_nil]
    exact hO
end Go.Proofs.YtdafpnpfcmgfcaaGreatDoor
