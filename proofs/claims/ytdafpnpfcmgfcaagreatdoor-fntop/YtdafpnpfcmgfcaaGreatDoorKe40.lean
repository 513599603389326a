/- Rows of batches: cut, moved, cleared; slices.Delete of one. Marks of a book that the program has made: the walks. A book of the call's own: a batch cut out, laid in, a batch's lists exchanged; stores to boxes of books. -/
import Derived.Test.YtdafpnpfcmgfcaaGreatDoorKe39
import Derived.Test.YtdafpnpfcmgfcaaGreatDoorKe28
import Derived.Laws.CopyRow
import Derived.Test.YtdafpnpfcmgfcaaGreatDoorKe38
namespace Go.Proofs.YtdafpnpfcmgfcaaGreatDoor
section
open Go.RowKit
attribute [local go_sem] S_toList S_size S_get
section
variable {P : Program}
theorem wp_copy_run (w : World) {o : Oper} {a : Act} {K : Act → World → Prop} {Q : Exit → Act → World → Prop} (d x : Operand) (t t' : TypeId)
  (ho : o.op = .call { callee := .builtin .copy, args := #[d, x], argTypes := #[t, t'] }) (vd vx : Value) (hd : a.eval d = vd) (hx : a.eval x = vx)
  (v' : Value) (w' : World) (hr : (Builtin.copy_ #[t, t'] o.type #[vd, vx]).run P w = .ok v' w') (h : K (a.put o.dst v') w') : o.wp P a w K Q := by
 unfold Oper.wp execOp
 simp only [ho, resolve, invoke, builtin, Sem.run_bind, Sem.run_pure, Result.andThen_ok, List.map_toArray, List.map_cons, List.map_nil, hd, hx, hr]
 exact h
theorem run_copyN (w : World) (dT sT ty elem : TypeId) (g o dLen dCap : Nat) (a : Addr) (sLen sCap k : Nat) (cur : Array Value) (t : TypeId) (cs : List Value) (i : TypeInfo)
  (hu : P.underlying dT = some (.slice elem)) (hi : P.info? elem = some i)
  (hg : w.heap[g]? = some (.cells cur t (0, 0))) (hk : Nat.min sLen dLen = k) (hn : cs.length = k * i.size)
  (hsrc : ∀ j v, cs[j]? = some v → w.cell? (a.add j) = some v) (hfit : o + cs.length ≤ cur.size) (h1 : ∀ v ∈ cs, v.oneCell' = true) :
  (Builtin.copy_ #[dT, sT] ty #[.slice (some ⟨g, o, none⟩) dLen dCap, .slice (some a) sLen sCap]).run P w =
   .ok (goInt k) (w.setRow g (cur.toList.take o ++ cs ++ cur.toList.drop (o + cs.length)).toArray) := by
 have hf := run_firstCells_some (P := P) w i.size k a sLen sCap cs hn hsrc
 have hst := run_storeCells_at P g o t cs 0 cur w hg (by simpa using hfit) h1
 simp only [Nat.add_zero] at hst
 simp [Builtin.copy_, run_underlying hu, Builtin.lenOf, sizeOf, typeInfo, hi, hk, hf, hst]
end
theorem gb_trE {a b c : World} {row : Option Nat} (h : a.grownBy b row) (k : b.grownBy c row) : a.grownBy c row :=
 ⟨k.os.trans h.os, k.tape.trans h.tape, k.output.trans h.output, Nat.le_trans h.size k.size, fun i hi hr => (k.block i (by have := h.size; omega) hr).trans (h.block i hi hr)⟩
theorem gb_noneE {w w' : World} (e : Ext w w') {row : Option Nat} : w.grownBy w' row := ⟨e.os, e.tape, e.output, e.size, fun k hk _ => e.block k hk⟩
def zeroB : List Value := [.string (S []), .slice none 0 0, .slice none 0 0]
theorem run_clear_batch (w : World) (ty : TypeId) (g o c : Nat) (cur : Array Value) (t : TypeId) (hg : w.heap[g]? = some (.cells cur t (0, 0))) (hfit : o + 3 ≤ cur.size) :
  (Builtin.clear_ #[24] ty #[.slice (some ⟨g, o, none⟩) 1 c]).run Qry.prog w = .ok (.tuple #[]) (w.setRow g (cur.toList.take o ++ zeroB ++ cur.toList.drop (o + 3)).toArray) := by
 have hst := run_storeCells_at Qry.prog g o t zeroB 0 cur w hg (by simpa [zeroB] using hfit) (by intro v hv; simp only [zeroB, List.mem_cons, List.not_mem_nil, or_false] at hv; rcases hv with rfl | rfl | rfl <;> rfl)
 simp only [Nat.add_zero] at hst
 have hl : zeroB.length = 3 := rfl
 rw [hl] at hst
 have hzc : (Builtin.zeroCells (Value.agg #[.string (S []), .slice none 0 0, .slice none 0 0]).cells 1).toList = zeroB := by kernel_rfl
 have hzv : (zeroValue 73).run Tryz.prog w = .ok (.agg #[.string (S []), .slice none 0 0, .slice none 0 0]) w := by kernel_rfl
 simp [Builtin.clear_, run_underlying (uQ Tryz.underlying24), hzv, hzc, hst]
theorem own_open {w : World} {base : Nat} {t : TypeId} {z n : Nat} {v : Value} {xs : List Value} (h : w.ownsRow base t z v n xs) (hn : 0 < n) : ∃ g c cur, v = .slice (some ⟨g, 0, none⟩) n c ∧ base ≤ g ∧ w.heap[g]? = some (.cells cur t (0, 0)) ∧ n ≤ c ∧ c ≤ maxLen ∧ cur.size = c * z ∧ cur.toList.take (n * z) = xs := by
 rcases h.2 with ⟨_, h0⟩ | ⟨g, cap, cur, e, hb, hg, hc, hx, hs, ht⟩
 ·omega
 ·exact ⟨g, cap, cur, e, hb, hg, hc, hx, hs, ht⟩
theorem own_open' {w : World} {base : Nat} {t : TypeId} {z n g c : Nat} {xs : List Value} (h : w.ownsRow base t z (.slice (some ⟨g, 0, none⟩) n c) n xs) : ∃ cur, base ≤ g ∧ w.heap[g]? = some (.cells cur t (0, 0)) ∧ n ≤ c ∧ c ≤ maxLen ∧ cur.size = c * z ∧ cur.toList.take (n * z) = xs := by
 rcases h.2 with ⟨e, _⟩ | ⟨g', cap, cur, e, hb, hg, hc, hx, hs, ht⟩
 ·cases e
 ·simp only [Value.slice.injEq, Option.some.injEq, Addr.mk.injEq, and_true, true_and] at e
  obtain ⟨rfl, rfl⟩ := e
  exact ⟨cur, hb, hg, hc, hx, hs, ht⟩
theorem own_shut {w : World} {base : Nat} {t : TypeId} {z n g c : Nat} {cur : Array Value} {xs : List Value} (hb : base ≤ g) (hg : w.heap[g]? = some (.cells cur t (0, 0))) (hc : n ≤ c) (hx : c ≤ maxLen) (hs : cur.size = c * z) (ht : cur.toList.take (n * z) = xs) : w.ownsRow base t z (.slice (some ⟨g, 0, none⟩) n c) n xs :=
 ⟨by rw [← ht, List.length_take, Array.length_toList, hs]; have := Nat.mul_le_mul_right z hc; omega, Or.inr ⟨g, c, cur, rfl, hb, hg, hc, hx, hs, ht⟩⟩
theorem gb_row (w : World) (g : Nat) (cs : Array Value) : w.grownBy (w.setRow g cs) (some g) := ⟨rfl, rfl, rfl, by simp, fun k _ hk => setRow_other w g k _ (fun e => hk (by simp [e]))⟩
theorem cellsOf_one (rs : List Row) (h : ∀ r ∈ rs, r.has.oneCell' = true ∧ r.needs.oneCell' = true) : ∀ u ∈ cellsOf rs, u.oneCell' = true := by
 intro u hu
 obtain ⟨r, hr, hu⟩ := List.mem_flatMap.1 hu
 simp only [Row.cells, List.mem_cons, List.not_mem_nil, or_false] at hu
 rcases hu with rfl | rfl | rfl
 ·rfl
 ·exact (h r hr).1
 ·exact (h r hr).2
theorem rows_one {w : World} {base : Nat} {rs : List Row} {bs : List Batch} (h : RowsOwn w base rs bs) : ∀ r ∈ rs, r.has.oneCell' = true ∧ r.needs.oneCell' = true := by
 intro r hr
 obtain ⟨x, h1, y, h2⟩ := h.mem hr
 obtain ⟨a1, c1, e1⟩ := own_sl h1
 obtain ⟨a2, c2, e2⟩ := own_sl h2
 rw [e1, e2]
 exact ⟨rfl, rfl⟩
theorem cellsOf_takeL (rs : List Row) (k : Nat) : cellsOf (rs.take k) = (cellsOf rs).take (k * 3) := by
 have e : cellsOf rs = cellsOf (rs.take k) ++ cellsOf (rs.drop k) := by rw [← cellsOf_append, List.take_append_drop]
 rcases Nat.lt_or_ge rs.length k with h | h
 ·rw [List.take_of_length_le (by omega : rs.length ≤ k), List.take_of_length_le (by rw [cellsOf_length]; omega)]
 ·have hl : (cellsOf (rs.take k)).length = k * 3 := by rw [cellsOf_length, List.length_take]; omega
  rw [e, ← hl, List.take_left]
set_option maxRecDepth 100000 in
set_option maxHeartbeats 1000000 in
theorem delete_any (base : Nat) (rs : List Row) (p n : Nat) (v2 : Value) (w : World) (h : w.ownsRow base 73 3 v2 n (cellsOf rs)) (hrn : rs.length = n) (h1 : ∀ r ∈ rs, r.has.oneCell' = true ∧ r.needs.oneCell' = true) (hp : p < n) (hn : n ≤ 2199023255552) :
  Calls Qry.prog 107 #[v2, .int .i64 (p : Int), .int .i64 ((p : Int) + 1)] w fun e w' =>
   ∃ v', e = .returned v' ∧ w.grownBy w' v2.ownBlock ∧ v'.ownBlock = v2.ownBlock ∧ w'.ownsRow base 73 3 v' (n - 1) (cellsOf (rs.take p ++ rs.drop (p + 1))) := by
 obtain ⟨g, c, cur, rfl, hb, hg, hc, hx, hs, ht⟩ := own_open h (by omega)
 obtain ⟨i0, hi, hz0, hz1, hz2⟩ := info_batch
 have hnl : (cellsOf rs).length = n * 3 := by rw [cellsOf_length, hrn]
 have hnews : (cellsOf (rs.drop (p + 1))).length = (n - (p + 1)) * 3 := by rw [cellsOf_length, List.length_drop, hrn]
 have hcell : ∀ (j : Nat) u, (cellsOf (rs.drop (p + 1)))[j]? = some u → w.cell? ⟨g, (p + 1) * 3 + j, none⟩ = some u := fun j u hj => by
  obtain ⟨g', _, e, _, hc', _⟩ := own_cell h (cellsOf_drop (by omega) hj)
  simp only [Value.slice.injEq, Option.some.injEq, Addr.mk.injEq, and_true] at e
  obtain ⟨rfl, -⟩ := e
  exact hc'
 have hone : ∀ u ∈ cellsOf (rs.drop (p + 1)), u.oneCell' = true := cellsOf_one _ (fun r hr => h1 r (List.mem_of_mem_drop hr))
 have hlo := own_less h (Nat.le_of_lt hp)
 rw [← cellsOf_takeL] at hlo
 have HRUN : Hid (∀ (o ty : Nat) (W : World), W.heap = w.heap → (0 < n - (p + 1) → o = (p + 1) * 3) → ∃ w', (Builtin.append_ #[24, 24] ty #[.slice (some ⟨g, 0, none⟩) p c, .slice (some ⟨g, o, none⟩) (n - (p + 1)) (c - (p + 1))]).run Qry.prog W = .ok (.slice (some ⟨g, 0, none⟩) (n - 1) c) w' ∧ w'.ownsRow base 73 3 (.slice (some ⟨g, 0, none⟩) (n - 1) c) (n - 1) (cellsOf (rs.take p ++ rs.drop (p + 1))) ∧ W.grownBy w' (some g)) := by
  intro o ty W hW ho
  have hlo' : W.ownsRow base 73 3 (.slice (some ⟨g, 0, none⟩) p c) p (cellsOf (rs.take p)) := by
   obtain ⟨q1, q2⟩ := hlo
   refine ⟨q1, ?_⟩
   rw [hW]; exact q2
  obtain ⟨w', r1, r2, r3⟩ := run_append_fits (P := Qry.prog) W base 24 ty 73 i0 3 (uQ Tryz.underlying24) hi hz1 g p c _ hlo' ⟨g, o, none⟩ (n - (p + 1)) (c - (p + 1)) (cellsOf (rs.drop (p + 1))) hnews (fun j u hj => by
   have hlt : j < (n - (p + 1)) * 3 := by rw [← hnews]; exact (List.getElem?_eq_some_iff.1 hj).1
   rw [add_plain, ho (by omega)]
   have := hcell j u hj
   unfold World.cell? at this ⊢
   rw [hW]; exact this) hone (by omega)
  have e : p + (n - (p + 1)) = n - 1 := by omega
  rw [e] at r1 r2
  exact ⟨w', r1, by rw [cellsOf_append]; exact r2, r3⟩
 have HG : Hid (base ≤ g) := hb
 have HCM := hid hx
 clear hlo hone hcell hnews hnl h hg hs ht cur hi hz0 hz1 hz2 h1
 generalize cellsOf (rs.take p ++ rs.drop (p + 1)) = xs at *
 clear hrn rs hb hx i0
 have hpc : p ≤ c := by omega
 go_enter Qry.func107, Tryz.ntmps107
 go_wp2_with fail
 by_cases hcp : c = p + 1
 ·have HCP := hid hcp
  clear hcp
  refine wp_region_T (fun _ => True) 7 (by kernel_rfl) trivial (fun hS => ?_)
  refine tk 0 hS ?_
  try simp only [List.set]
  refine tk 1 hS ?_
  try simp only [List.set]
  refine tk 2 hS ?_
  try simp only [List.set]
  refine tk 3 hS ?_
  try simp only [List.set]
  refine tk 4 hS ?_
  try simp only [List.set]
  refine wpT_take 5 (v := .slice (some ⟨g, 0, none⟩) (n - (p + 1)) (c - (p + 1))) rfl rfl (by kernel_rfl) (by kernel_rfl) (by kernel_rfl) (by kernel_rfl) (fun _ _ _ h => h) hS rfl (by intro w0 hw0; (try dsimp only at hw0); go_simp; rw [if_pos (by omega), if_pos HCP.out]) ?_
  try simp only [List.set]
  refine wpT_one 6 rfl (by kernel_rfl) rfl rfl (fun K hK => ?_)
  obtain ⟨w1, r1, r2, r3⟩ := HRUN.out 0 _ (w.drewN 1) rfl (fun h => by have := HCP.out; omega)
  refine Lib.wp_append_run _ _ _ _ _ rfl _ _ rfl rfl _ _ r1 (hK.out _ _ trivial (fun hS1 => ?_))
  clear hK hS
  have hS := hS1
  clear hS1
  try clear K
  try simp only [put_some, List.set]
  refine wpT_last rfl (by kernel_rfl) (by kernel_rfl) rfl (fun K hK => ?_)
  go_simp
  refine hK.out _ _ ?_
  clear hK r1
  obtain ⟨cur, hb1, hg1, hc1, hx1, hs1, ht1⟩ := own_open' r2
  have hcl := run_clear_batch w1 0 g ((n - 1) * 3) (c - (n - 1)) cur _ hg1 (by rw [hs1]; omega)
  have HO : Hid ((w1.setRow g (cur.toList.take ((n - 1) * 3) ++ zeroB ++ cur.toList.drop ((n - 1) * 3 + 3)).toArray).ownsRow base 73 3 (.slice (some ⟨g, 0, none⟩) (n - 1) c) (n - 1) xs) := by
   refine own_shut hb1 (setRow_heap w1 g cur _ _ _ hg1) hc1 hx1 ?_ ?_
   ·simp only [List.size_toArray, List.length_append, List.length_take, List.length_drop, Array.length_toList, zeroB, List.length_cons, List.length_nil]
    rw [hs1]; omega
   ·rw [← ht1, List.append_assoc]
    have hl : (cur.toList.take ((n - 1) * 3)).length = (n - 1) * 3 := by rw [List.length_take, Array.length_toList, hs1]; omega
    show List.take ((n - 1) * 3) (cur.toList.take ((n - 1) * 3) ++ (zeroB ++ _)) = _
    rw [List.take_append_of_le_length (by omega), List.take_of_length_le (by omega)]
  have HGB : Hid (w.grownBy (w1.setRow g (cur.toList.take ((n - 1) * 3) ++ zeroB ++ cur.toList.drop ((n - 1) * 3 + 3)).toArray) (some g)) := gb_trE (gb_trE (gb_noneE (ext_drewN w 1)) r3) (gb_row _ _ _)
  have hcl' : n - (n - 1) = 1 := by omega
  have hcl2 : (Builtin.clear_ #[24] 0 #[.slice (some ⟨g, (n - 1) * 3, none⟩) (n - (n - 1)) (c - (n - 1))]).run Qry.prog w1 = .ok (.tuple #[]) (w1.setRow g (cur.toList.take ((n - 1) * 3) ++ zeroB ++ cur.toList.drop ((n - 1) * 3 + 3)).toArray) := by rw [hcl']; exact hcl
  clear hcl hcl' r2 r3 hb1 hg1 hc1 hx1 hs1 ht1
  generalize w1.setRow g (cur.toList.take ((n - 1) * 3) ++ zeroB ++ cur.toList.drop ((n - 1) * 3 + 3)).toArray = w2 at *
  go_wp2
  go_ret
  exact ⟨_, rfl, HGB.out, rfl, HO.out⟩
 ·refine wp_region_T (fun _ => True) 7 (by kernel_rfl) trivial (fun hS => ?_)
  refine tk 0 hS ?_
  try simp only [List.set]
  refine tk 1 hS ?_
  try simp only [List.set]
  refine tk 2 hS ?_
  try simp only [List.set]
  refine tk 3 hS ?_
  try simp only [List.set]
  refine tk 4 hS ?_
  try simp only [List.set]
  refine wpT_take 5 (v := .slice (some ⟨g, (p + 1) * 3, none⟩) (n - (p + 1)) (c - (p + 1))) rfl rfl (by kernel_rfl) (by kernel_rfl) (by kernel_rfl) (by kernel_rfl) (fun _ _ _ h => h) hS rfl (by intro w0 hw0; (try dsimp only at hw0); go_simp; intro h; have := h (by omega); omega) ?_
  try simp only [List.set]
  refine wpT_one 6 rfl (by kernel_rfl) rfl rfl (fun K hK => ?_)
  obtain ⟨w1, r1, r2, r3⟩ := HRUN.out ((p + 1) * 3) _ (w.drewN 1) rfl (fun _ => rfl)
  refine Lib.wp_append_run _ _ _ _ _ rfl _ _ rfl rfl _ _ r1 (hK.out _ _ trivial (fun hS1 => ?_))
  clear hK hS
  have hS := hS1
  clear hS1
  try clear K
  try simp only [put_some, List.set]
  refine wpT_last rfl (by kernel_rfl) (by kernel_rfl) rfl (fun K hK => ?_)
  go_simp
  refine hK.out _ _ ?_
  clear hK r1
  obtain ⟨cur, hb1, hg1, hc1, hx1, hs1, ht1⟩ := own_open' r2
  have hcl := run_clear_batch w1 0 g ((n - 1) * 3) (c - (n - 1)) cur _ hg1 (by rw [hs1]; omega)
  have HO : Hid ((w1.setRow g (cur.toList.take ((n - 1) * 3) ++ zeroB ++ cur.toList.drop ((n - 1) * 3 + 3)).toArray).ownsRow base 73 3 (.slice (some ⟨g, 0, none⟩) (n - 1) c) (n - 1) xs) := by
   refine own_shut hb1 (setRow_heap w1 g cur _ _ _ hg1) hc1 hx1 ?_ ?_
   ·simp only [List.size_toArray, List.length_append, List.length_take, List.length_drop, Array.length_toList, zeroB, List.length_cons, List.length_nil]
    rw [hs1]; omega
   ·rw [← ht1, List.append_assoc]
    have hl : (cur.toList.take ((n - 1) * 3)).length = (n - 1) * 3 := by rw [List.length_take, Array.length_toList, hs1]; omega
    show List.take ((n - 1) * 3) (cur.toList.take ((n - 1) * 3) ++ (zeroB ++ _)) = _
    rw [List.take_append_of_le_length (by omega), List.take_of_length_le (by omega)]
  have HGB : Hid (w.grownBy (w1.setRow g (cur.toList.take ((n - 1) * 3) ++ zeroB ++ cur.toList.drop ((n - 1) * 3 + 3)).toArray) (some g)) := gb_trE (gb_trE (gb_noneE (ext_drewN w 1)) r3) (gb_row _ _ _)
  have hcl' : n - (n - 1) = 1 := by omega
  have hcl2 : (Builtin.clear_ #[24] 0 #[.slice (some ⟨g, (n - 1) * 3, none⟩) (n - (n - 1)) (c - (n - 1))]).run Qry.prog w1 = .ok (.tuple #[]) (w1.setRow g (cur.toList.take ((n - 1) * 3) ++ zeroB ++ cur.toList.drop ((n - 1) * 3 + 3)).toArray) := by rw [hcl']; exact hcl
  clear hcl hcl' r2 r3 hb1 hg1 hc1 hx1 hs1 ht1
  generalize w1.setRow g (cur.toList.take ((n - 1) * 3) ++ zeroB ++ cur.toList.drop ((n - 1) * 3 + 3)).toArray = w2 at *
  go_wp2
  go_ret
  exact ⟨_, rfl, HGB.out, rfl, HO.out⟩
end
section
open Go.RowKit
attribute [local go_sem] S_toList S_size S_get
structure BK (base : Nat) (w w' : World) : Prop where
 below : Below base w w'
 keep : ∀ (X : Nat) (l : List Value), Rec w X 26 l → Rec w' X 26 l
end
section
open Go.RowKit
attribute [local go_sem] S_toList S_size S_get
theorem rec_no_str {w : World} {X : Nat} {t : TypeId} {l : List Value} (h : Rec w X t l) (ht : (t == 9) = false) (k : Nat) (c : Array Value) (e : some X = some k) (hk : w.heap[k]? = some (.cells c 9 (0, 0))) : False := by
 cases e
 rw [show w.heap[X]? = _ from h] at hk
 simp only [Option.some.injEq, Obj.cells.injEq] at hk
 rw [hk.2.1] at ht
 simp at ht
theorem OB.stored {w : World} {base : Nat} {v1 v2 : Value} {rs : List Row} {b : Book} (h : OB w base v1 v2 rs b) {X : Nat} {t : TypeId} {l : List Value} (hr : Rec w X t l) (h1 : (t == 9) = false) (h2 : (t == 73) = false) (i : Nat) (u : Value) : OB (w.setCell ⟨X, i, none⟩ u) base v1 v2 rs b :=
 ⟨h.ot.stored hr h1 _ _, h.st, World.ownsRow.kept h.ob (gb_store _ _ _ _) (Or.inr (fun e => hr.not_row h2 h.ob e.symm)), h.ow.keep (gb_store _ _ _ _) (rec_no_str hr h1), h.di⟩
theorem RowsOwn.app {w : World} {base : Nat} {rs rs' : List Row} {bs bs' : List Batch} (h : RowsOwn w base rs bs) (h' : RowsOwn w base rs' bs') : RowsOwn w base (rs ++ rs') (bs ++ bs') := by
 refine ⟨by rw [List.length_append, List.length_append, h.1, h'.1], fun i r x hr hx => ?_⟩
 rcases Nat.lt_or_ge i rs.length with hlt | hge
 ·rw [List.getElem?_append_left hlt] at hr
  rw [List.getElem?_append_left (by rw [← h.1]; exact hlt)] at hx
  exact h.2 i r x hr hx
 ·rw [List.getElem?_append_right hge] at hr
  rw [List.getElem?_append_right (by rw [← h.1]; exact hge), ← h.1] at hx
  exact h'.2 _ r x hr hx
theorem allV_sub {rs rs' : List Row} (h : rs'.Sublist rs) : (allV rs').Sublist (allV rs) := by
 induction h with
 | slnil => exact List.Sublist.refl _
 | cons a _ ih => exact (ih.cons _).cons _
 | cons_cons a _ ih => exact (ih.cons_cons _).cons_cons _
theorem Dis.sub {v1 : Value} {rs rs' : List Row} (h : Dis v1 rs) (hs : rs'.Sublist rs) : Dis v1 rs' :=
 ⟨h.1.sublist (allV_sub hs), fun v hv => h.2 v ((allV_sub hs).subset hv)⟩
theorem OB.cut {w w' : World} {base p : Nat} {v1 v2 v' : Value} {rs : List Row} {b : Book} (h : OB w base v1 v2 rs b) (hp : p < b.batches.length) (g : w.grownBy w' v2.ownBlock)
  (ho : w'.ownsRow base 73 3 v' (b.batches.length - 1) (cellsOf (rs.take p ++ rs.drop (p + 1)))) : OB w' base v1 v' (rs.take p ++ rs.drop (p + 1)) ⟨b.things, b.batches.take p ++ b.batches.drop (p + 1)⟩ := by
 have hl := h.ow.1
 have hne := fun k c e hk => row_ne h.ob k c e hk
 refine ⟨h.ot.keep g hne, h.st, ?_, (RowsOwn.app (h.ow.take p) (h.ow.drop (p + 1))).keep g hne, h.di.sub (cut_sub rs p)⟩
 have e : (rs.take p ++ rs.drop (p + 1)).length = b.batches.length - 1 := by
  rw [List.length_append, List.length_take, List.length_drop, hl]; omega
 rw [e]; exact ho
theorem Dis.ins {v1 : Value} {rs : List Row} {r : Row} (p : Nat) (h : Dis v1 rs) (h1 : ∀ v ∈ allV rs, NE v r.has ∧ NE v r.needs) (h2 : NE r.has r.needs) (h3 : NE v1 r.has ∧ NE v1 r.needs) : Dis v1 (rs.take p ++ [r] ++ rs.drop p) := by
 have e : allV (rs.take p ++ [r] ++ rs.drop p) = allV (rs.take p) ++ [r.has, r.needs] ++ allV (rs.drop p) := by simp [allV]
 have hs : allV rs = allV (rs.take p) ++ allV (rs.drop p) := by
  unfold allV
  rw [← List.flatMap_append, List.take_append_drop]
 have hd := h.1
 rw [hs, List.pairwise_append] at hd
 refine ⟨?_, fun v hv => ?_⟩
 ·rw [e, List.pairwise_append, List.pairwise_append]
  refine ⟨⟨hd.1, by simp [h2], fun a ha c hc => ?_⟩, hd.2.1, fun a ha c hc => ?_⟩
  ·have := h1 a (by rw [hs]; exact List.mem_append.2 (Or.inl ha))
   simp only [List.mem_cons, List.not_mem_nil, or_false] at hc
   rcases hc with rfl | rfl
   ·exact this.1
   ·exact this.2
  ·have hc' := h1 c (by rw [hs]; exact List.mem_append.2 (Or.inr hc))
   rw [List.mem_append] at ha
   rcases ha with ha | ha
   ·exact hd.2.2 a ha c hc
   ·simp only [List.mem_cons, List.not_mem_nil, or_false] at ha
    rcases ha with rfl | rfl
    ·exact hc'.1.symm
    ·exact hc'.2.symm
 ·rw [e, List.mem_append, List.mem_append] at hv
  rcases hv with (hv | hv) | hv
  ·exact h.2 v (by rw [hs]; exact List.mem_append.2 (Or.inl hv))
  ·simp only [List.mem_cons, List.not_mem_nil, or_false] at hv
   rcases hv with rfl | rfl
   ·exact h3.1
   ·exact h3.2
  ·exact h.2 v (by rw [hs]; exact List.mem_append.2 (Or.inr hv))
theorem OB.ins {w w' : World} {base p : Nat} {v1 v2 v' : Value} {rs : List Row} {b : Book} {r : Row} {x : Batch} (h : OB w base v1 v2 rs b) (g : w.grownBy w' v2.ownBlock) (hp : p ≤ b.batches.length)
  (ho : w'.ownsRow base 73 3 v' (b.batches.length + 1) (cellsOf (rs.take p ++ [r] ++ rs.drop p))) (hr : RowOwn w base r x)
  (h1 : ∀ v ∈ allV rs, NE v r.has ∧ NE v r.needs) (h2 : NE r.has r.needs) (h3 : NE v1 r.has ∧ NE v1 r.needs) : OB w' base v1 v' (rs.take p ++ [r] ++ rs.drop p) ⟨b.things, b.batches.take p ++ [x] ++ b.batches.drop p⟩ := by
 have hl := h.ow.1
 have hne := fun k c e hk => row_ne h.ob k c e hk
 refine ⟨h.ot.keep g hne, h.st, ?_, (RowsOwn.app (RowsOwn.snoc (h.ow.take p) hr) (h.ow.drop p)).keep g hne, h.di.ins p h1 h2 h3⟩
 have e : (rs.take p ++ [r] ++ rs.drop p).length = b.batches.length + 1 := by
  rw [List.length_append, List.length_append, List.length_take, List.length_drop, List.length_singleton, hl]; omega
 rw [e]; exact ho
theorem allV_setV : ∀ (rs : List Row) (k : Nat) (r r' : Row), rs[k]? = some r → allV (rs.set k r') = (allV rs).take (k * 2) ++ [r'.has, r'.needs] ++ (allV rs).drop (k * 2 + 2)
 | [], k, r, r', h => by simp at h
 | x :: rs, 0, r, r', h => by simp [allV]
 | x :: rs, k + 1, r, r', h => by
  have h' := allV_setV rs k r r' (by simpa using h)
  have e : ∀ (y : Row) l, allV (y :: l) = y.has :: y.needs :: allV l := fun y l => rfl
  rw [List.set_cons_succ, e, e, h']
  have e3 : (k + 1) * 2 = k * 2 + 1 + 1 := by omega
  rw [e3]
  rfl
theorem Dis.put {v1 : Value} {rs : List Row} {k : Nat} {r r' : Row} (h : Dis v1 rs) (hr : rs[k]? = some r)
  (h0 : ∀ (i : Nat) v, (allV rs)[i]? = some v → i ≠ k * 2 → i ≠ k * 2 + 1 → NE v r'.has ∧ NE v r'.needs) (h2 : NE r'.has r'.needs) (h3 : NE v1 r'.has ∧ NE v1 r'.needs) : Dis v1 (rs.set k r') := by
 have e := allV_setV rs k r r' hr
 have hd := h.1
 have hs : (allV rs).take (k * 2) ++ (allV rs).drop (k * 2) = allV rs := List.take_append_drop _ _
 have hlo : ∀ a ∈ (allV rs).take (k * 2), ∃ i, i < k * 2 ∧ (allV rs)[i]? = some a := fun a ha => by
  obtain ⟨i, hi, e⟩ := List.mem_take_iff_getElem.1 ha
  rw [Nat.lt_min] at hi
  exact ⟨i, hi.1, by rw [List.getElem?_eq_getElem hi.2, e]⟩
 have hhi : ∀ a ∈ (allV rs).drop (k * 2 + 2), ∃ i, k * 2 + 2 ≤ i ∧ (allV rs)[i]? = some a := fun a ha => by
  obtain ⟨i, hi, e⟩ := List.getElem_of_mem ha
  rw [List.getElem_drop] at e
  rw [List.length_drop] at hi
  exact ⟨k * 2 + 2 + i, by omega, by rw [List.getElem?_eq_getElem (by omega), e]⟩
 refine ⟨?_, fun v hv => ?_⟩
 ·rw [e, List.pairwise_append, List.pairwise_append]
  refine ⟨⟨hd.sublist (List.take_sublist _ _), by simp [h2], fun a ha c hc => ?_⟩, hd.sublist (List.drop_sublist _ _), fun a ha c hc => ?_⟩
  ·obtain ⟨i, hi, hia⟩ := hlo a ha
   have := h0 i a hia (by omega) (by omega)
   simp only [List.mem_cons, List.not_mem_nil, or_false] at hc
   rcases hc with rfl | rfl
   ·exact this.1
   ·exact this.2
  ·obtain ⟨j, hj, hjc⟩ := hhi c hc
   rw [List.mem_append] at ha
   rcases ha with ha | ha
   ·obtain ⟨i, hi, hia⟩ := hlo a ha
    exact NE.of_pair hd hia hjc (by omega)
   ·have := h0 j c hjc (by omega) (by omega)
    simp only [List.mem_cons, List.not_mem_nil, or_false] at ha
    rcases ha with rfl | rfl
    ·exact this.1.symm
    ·exact this.2.symm
 ·rw [e, List.mem_append, List.mem_append] at hv
  rcases hv with (hv | hv) | hv
  ·exact h.2 v (List.mem_of_mem_take hv)
  ·simp only [List.mem_cons, List.not_mem_nil, or_false] at hv
   rcases hv with rfl | rfl
   ·exact h3.1
   ·exact h3.2
  ·exact h.2 v (List.mem_of_mem_drop hv)
theorem OB.putHas {w : World} {base base' g c k : Nat} {v1 u : Value} {rs : List Row} {T : List Str} {bs : List Batch} {L : List Str} (h : OB w base v1 (.slice (some ⟨g, 0, none⟩) bs.length c) rs ⟨T, bs⟩) (hk : k < bs.length) (hL : OwnL w base' u L) (hs : ShortS L) (hb : base ≤ base')
  (hu : ∀ v ∈ v1 :: allV rs, NE v u) : ∃ rs', OB (w.setCell ⟨g, k * 3 + 1, none⟩ u) base v1 (.slice (some ⟨g, 0, none⟩) bs.length c) rs' ⟨T, bs.set k ⟨(nthB bs k).name, L, (nthB bs k).needs⟩⟩ ∧ (∀ v ∈ v1 :: allV rs', v = u ∨ v ∈ v1 :: allV rs) := by
 have hl : rs.length = bs.length := h.ow.1
 have hkr : k < rs.length := by omega
 have hr := List.getElem?_eq_getElem hkr
 have hx := List.getElem?_eq_getElem hk
 have h1 := h.ob
 rw [← hl] at h1
 have h3 := World.ownsRow.stored h1 (k * 3 + 1) u
 obtain ⟨e1, e2, e3, e4, e5, e6⟩ := h.ow.2 k _ _ hr hx
 have hne := fun k' cc => row_ne h1 k' cc
 obtain ⟨z1, z2⟩ := allV_at rs k _ hr
 refine ⟨rs.set k ⟨rs[k].name, u, rs[k].needs⟩, ⟨h.ot.keep h3.2 (fun k' cc e hk' => hne k' cc (by simpa [Value.ownBlock] using e) hk'), h.st, ?_, ?_, ?_⟩, fun v hv => ?_⟩
 ·rw [← cellsOf_has rs k _ u hr, List.length_set, ← hl]; exact h3.1
 ·refine RowsOwn.set (h.ow.keep h3.2 (fun k' cc e hk' => hne k' cc (by simpa [Value.ownBlock] using e) hk')) k ⟨?_, ?_, own_store_keep h1 (hL.low hb) _ _, hs, ?_, ?_⟩
  ·rw [nthB_get hk]; exact e1
  ·rw [nthB_get hk]; exact e2
  ·rw [nthB_get hk]; exact own_store_keep h1 e5 _ _
  ·rw [nthB_get hk]; exact e6
 ·exact h.di.put hr (fun i v hv hi hj => ⟨hu v (by simp [List.mem_of_getElem? hv]), NE.of_pair h.di.1 hv z2 hj⟩) (hu _ (by simp [(mem_allV (List.mem_of_getElem? hr)).2])).symm ⟨hu v1 (by simp), h.di.2 _ (mem_allV (List.mem_of_getElem? hr)).2⟩
 ·rw [List.mem_cons] at hv
  rcases hv with rfl | hv
  ·exact Or.inr (by simp)
  ·rw [allV_setV rs k _ _ hr, List.mem_append, List.mem_append] at hv
   rcases hv with (hv | hv) | hv
   ·exact Or.inr (by simp [List.mem_of_mem_take hv])
   ·simp only [List.mem_cons, List.not_mem_nil, or_false] at hv
    rcases hv with rfl | rfl
    ·exact Or.inl rfl
    ·exact Or.inr (by simp [(mem_allV (List.mem_of_getElem? hr)).2])
   ·exact Or.inr (by simp [List.mem_of_mem_drop hv])
theorem OB.putNeeds {w : World} {base base' g c k : Nat} {v1 u : Value} {rs : List Row} {T : List Str} {bs : List Batch} {L : List Str} (h : OB w base v1 (.slice (some ⟨g, 0, none⟩) bs.length c) rs ⟨T, bs⟩) (hk : k < bs.length) (hL : OwnL w base' u L) (hs : ShortS L) (hb : base ≤ base')
  (hu : ∀ v ∈ v1 :: allV rs, NE v u) : ∃ rs', OB (w.setCell ⟨g, k * 3 + 2, none⟩ u) base v1 (.slice (some ⟨g, 0, none⟩) bs.length c) rs' ⟨T, bs.set k ⟨(nthB bs k).name, (nthB bs k).has, L⟩⟩ ∧ (∀ v ∈ v1 :: allV rs', v = u ∨ v ∈ v1 :: allV rs) := by
 have hl : rs.length = bs.length := h.ow.1
 have hkr : k < rs.length := by omega
 have hr := List.getElem?_eq_getElem hkr
 have hx := List.getElem?_eq_getElem hk
 have h1 := h.ob
 rw [← hl] at h1
 have h3 := World.ownsRow.stored h1 (k * 3 + 2) u
 obtain ⟨e1, e2, e3, e4, e5, e6⟩ := h.ow.2 k _ _ hr hx
 have hne := fun k' cc => row_ne h1 k' cc
 obtain ⟨z1, z2⟩ := allV_at rs k _ hr
 refine ⟨rs.set k ⟨rs[k].name, rs[k].has, u⟩, ⟨h.ot.keep h3.2 (fun k' cc e hk' => hne k' cc (by simpa [Value.ownBlock] using e) hk'), h.st, ?_, ?_, ?_⟩, fun v hv => ?_⟩
 ·rw [← cellsOf_needs rs k _ u hr, List.length_set, ← hl]; exact h3.1
 ·refine RowsOwn.set (h.ow.keep h3.2 (fun k' cc e hk' => hne k' cc (by simpa [Value.ownBlock] using e) hk')) k ⟨?_, ?_, ?_, ?_, own_store_keep h1 (hL.low hb) _ _, hs⟩
  ·rw [nthB_get hk]; exact e1
  ·rw [nthB_get hk]; exact e2
  ·rw [nthB_get hk]; exact own_store_keep h1 e3 _ _
  ·rw [nthB_get hk]; exact e4
 ·exact h.di.put hr (fun i v hv hi hj => ⟨NE.of_pair h.di.1 hv z1 hi, hu v (by simp [List.mem_of_getElem? hv])⟩) (hu _ (by simp [(mem_allV (List.mem_of_getElem? hr)).1])) ⟨h.di.2 _ (mem_allV (List.mem_of_getElem? hr)).1, hu v1 (by simp)⟩
 ·rw [List.mem_cons] at hv
  rcases hv with rfl | hv
  ·exact Or.inr (by simp)
  ·rw [allV_setV rs k _ _ hr, List.mem_append, List.mem_append] at hv
   rcases hv with (hv | hv) | hv
   ·exact Or.inr (by simp [List.mem_of_mem_take hv])
   ·simp only [List.mem_cons, List.not_mem_nil, or_false] at hv
    rcases hv with rfl | rfl
    ·exact Or.inr (by simp [(mem_allV (List.mem_of_getElem? hr)).1])
    ·exact Or.inl rfl
   ·exact Or.inr (by simp [List.mem_of_mem_drop hv])
end
end Go.Proofs.YtdafpnpfcmgfcaaGreatDoor
