/- Rows of batches: cut, moved, cleared; slices.Delete of one. -/
import Derived.Test.YtdafpnpfcmgfcabGreatDoorE5
import Derived.Test.YtdafpnpfcmgfcabGreatDoorSA
import Derived.Laws.CopyRow
namespace Go.Proofs.YtdafpnpfcmgfcabGreatDoor
open Go.RowKit
attribute [local go_sem] S_toList S_size S_get

section
variable {P : Program}
theorem wp_clear_run (w : World) {o : Oper} {a : Act} {K : Act → World → Prop} {Q : Exit → Act → World → Prop} (x : Operand) (t : TypeId)
    (ho : o.op = .call { callee := .builtin .clear, args := #[x], argTypes := #[t] }) (vx : Value) (hx : a.eval x = vx)
    (v' : Value) (w' : World) (hr : (Builtin.clear_ #[t] o.type #[vx]).run P w = .ok v' w') (h : K (a.put o.dst v') w') : o.wp P a w K Q := by
  unfold Oper.wp execOp
  simp only [ho, resolve, invoke, builtin, Sem.run_bind, Sem.run_pure, Result.andThen_ok, List.map_toArray, List.map_cons, List.map_nil, hx, hr]
  exact h
theorem wpList_clear_run (w : World) {ops : Array Oper} {rest : List Oper} {o : Oper} {a : Act} {Q : Exit → Act → World → Prop} (hgd : o.guard = none) (x : Operand) (t : TypeId)
    (ho : o.op = .call { callee := .builtin .clear, args := #[x], argTypes := #[t] }) (vx : Value) (hx : a.eval x = vx)
    (v' : Value) (w' : World) (hr : (Builtin.clear_ #[t] o.type #[vx]).run P w = .ok v' w') (h : wpList P ops Q rest (a.put o.dst v') w') : wpList P ops Q (o :: rest) a w :=
  wpList_plain hgd fun _ hK => wp_clear_run w x t ho vx hx v' w' hr (hK _ _ h)
theorem wp_copy_run (w : World) {o : Oper} {a : Act} {K : Act → World → Prop} {Q : Exit → Act → World → Prop} (d x : Operand) (t t' : TypeId)
    (ho : o.op = .call { callee := .builtin .copy, args := #[d, x], argTypes := #[t, t'] }) (vd vx : Value) (hd : a.eval d = vd) (hx : a.eval x = vx)
    (v' : Value) (w' : World) (hr : (Builtin.copy_ #[t, t'] o.type #[vd, vx]).run P w = .ok v' w') (h : K (a.put o.dst v') w') : o.wp P a w K Q := by
  unfold Oper.wp execOp
  simp only [ho, resolve, invoke, builtin, Sem.run_bind, Sem.run_pure, Result.andThen_ok, List.map_toArray, List.map_cons, List.map_nil, hd, hx, hr]
  exact h
theorem wpList_copy_runN (w : World) {ops : Array Oper} {rest : List Oper} {o : Oper} {a : Act} {Q : Exit → Act → World → Prop} (hgd : o.guard = none) (d x : Operand) (t t' : TypeId)
    (ho : o.op = .call { callee := .builtin .copy, args := #[d, x], argTypes := #[t, t'] }) (vd vx : Value) (hd : a.eval d = vd) (hx : a.eval x = vx)
    (v' : Value) (w' : World) (hr : (Builtin.copy_ #[t, t'] o.type #[vd, vx]).run P w = .ok v' w') (h : wpList P ops Q rest (a.put o.dst v') w') : wpList P ops Q (o :: rest) a w :=
  wpList_plain hgd fun _ hK => wp_copy_run w d x t t' ho vd vx hd hx v' w' hr (hK _ _ h)
theorem run_copyN (w : World) (dT sT ty elem : TypeId) (g o dLen dCap : Nat) (a : Addr) (sLen sCap k : Nat) (cur : Array Value) (t : TypeId) (cs : List Value) (i : TypeInfo)
    (hu : P.underlying dT = some (.slice elem)) (hi : P.info? elem = some i)
    (hg : w.heap[g]? = some (.cells cur t (0, 0))) (hk : Nat.min sLen dLen = k) (hn : cs.length = k * i.size)
    (hsrc : ∀ j v, cs[j]? = some v → w.cell? (a.add j) = some v) (hfit : o + cs.length ≤ cur.size) (h1 : ∀ v ∈ cs, v.oneCell' = true) :
    (Builtin.copy_ #[dT, sT] ty #[.slice (some ⟨g, o, none⟩) dLen dCap, .slice (some a) sLen sCap]).run P w =
      .ok (goInt k) (w.setRow g (cur.toList.take o ++ cs ++ cur.toList.drop (o + cs.length)).toArray) := by
  have hf := run_firstCells_some (P := P) w i.size k a sLen sCap cs hn hsrc
  have hst := run_storeCells_at P g o t cs 0 cur w hg (by simpa using hfit) h1
  simp only [Nat.add_zero] at hst
  simp [Builtin.copy_, run_underlying hu, Builtin.lenOf, sizeOf, typeInfo, hi, hk, hf, hst]
end

theorem gb_trE {a b c : World} {row : Option Nat} (h : a.grownBy b row) (k : b.grownBy c row) : a.grownBy c row :=
  ⟨k.os.trans h.os, k.tape.trans h.tape, k.output.trans h.output, Nat.le_trans h.size k.size, fun i hi hr => (k.block i (by have := h.size; omega) hr).trans (h.block i hi hr)⟩
theorem gb_noneE {w w' : World} (e : Ext w w') {row : Option Nat} : w.grownBy w' row := ⟨e.os, e.tape, e.output, e.size, fun k hk _ => e.block k hk⟩
def zeroB : List Value := [.string (S []), .slice none 0 0, .slice none 0 0]
theorem run_clear_batch (w : World) (ty : TypeId) (g o c : Nat) (cur : Array Value) (t : TypeId) (hg : w.heap[g]? = some (.cells cur t (0, 0))) (hfit : o + 3 ≤ cur.size) :
    (Builtin.clear_ #[28] ty #[.slice (some ⟨g, o, none⟩) 1 c]).run Tryz.prog w = .ok (.tuple #[]) (w.setRow g (cur.toList.take o ++ zeroB ++ cur.toList.drop (o + 3)).toArray) := by
  obtain ⟨i0, hi, hz0, hz1, hz2⟩ := info_batch
  have hst := run_storeCells_at Tryz.prog g o t zeroB 0 cur w hg (by simpa [zeroB] using hfit) (by intro v hv; simp only [zeroB, List.mem_cons, List.not_mem_nil, or_false] at hv; rcases hv with rfl | rfl | rfl <;> rfl)
  simp only [Nat.add_zero] at hst
  have hl : zeroB.length = 3 := rfl
  rw [hl] at hst
  have hzc : (Builtin.zeroCells (Value.agg #[.string (S []), .slice none 0 0, .slice none 0 0]).cells 1).toList = zeroB := by kernel_rfl
  simp [Builtin.clear_, run_underlying Tryz.underlying28, zeroValue, typeInfo, hi, hz0, hzc, hst]

/-- A row of the call's own, laid open. -/
theorem own_open {w : World} {base : Nat} {t : TypeId} {z n : Nat} {v : Value} {xs : List Value} (h : w.ownsRow base t z v n xs) (hn : 0 < n) : ∃ g c cur, v = .slice (some ⟨g, 0, none⟩) n c ∧ base ≤ g ∧ w.heap[g]? = some (.cells cur t (0, 0)) ∧ n ≤ c ∧ c ≤ maxLen ∧ cur.size = c * z ∧ cur.toList.take (n * z) = xs := by
  rcases h.2 with ⟨_, h0⟩ | ⟨g, cap, cur, e, hb, hg, hc, hx, hs, ht⟩
  · omega
  · exact ⟨g, cap, cur, e, hb, hg, hc, hx, hs, ht⟩
theorem own_open' {w : World} {base : Nat} {t : TypeId} {z n g c : Nat} {xs : List Value} (h : w.ownsRow base t z (.slice (some ⟨g, 0, none⟩) n c) n xs) : ∃ cur, base ≤ g ∧ w.heap[g]? = some (.cells cur t (0, 0)) ∧ n ≤ c ∧ c ≤ maxLen ∧ cur.size = c * z ∧ cur.toList.take (n * z) = xs := by
  rcases h.2 with ⟨e, _⟩ | ⟨g', cap, cur, e, hb, hg, hc, hx, hs, ht⟩
  · cases e
  · simp only [Value.slice.injEq, Option.some.injEq, Addr.mk.injEq, and_true, true_and] at e
    obtain ⟨rfl, rfl⟩ := e
    exact ⟨cur, hb, hg, hc, hx, hs, ht⟩
theorem own_shut {w : World} {base : Nat} {t : TypeId} {z n g c : Nat} {cur : Array Value} {xs : List Value} (hb : base ≤ g) (hg : w.heap[g]? = some (.cells cur t (0, 0))) (hc : n ≤ c) (hx : c ≤ maxLen) (hs : cur.size = c * z) (ht : cur.toList.take (n * z) = xs) : w.ownsRow base t z (.slice (some ⟨g, 0, none⟩) n c) n xs :=
  ⟨by rw [← ht, List.length_take, Array.length_toList, hs]; have := Nat.mul_le_mul_right z hc; omega, Or.inr ⟨g, c, cur, rfl, hb, hg, hc, hx, hs, ht⟩⟩
theorem gb_row (w : World) (g : Nat) (cs : Array Value) : w.grownBy (w.setRow g cs) (some g) := ⟨rfl, rfl, rfl, by simp, fun k _ hk => setRow_other w g k _ (fun e => hk (by simp [e]))⟩
theorem cellsOf_one (rs : List Row) (h : ∀ r ∈ rs, r.has.oneCell' = true ∧ r.needs.oneCell' = true) : ∀ u ∈ cellsOf rs, u.oneCell' = true := by
  intro u hu
  obtain ⟨r, hr, hu⟩ := List.mem_flatMap.1 hu
  simp only [Row.cells, List.mem_cons, List.not_mem_nil, or_false] at hu
  rcases hu with rfl | rfl | rfl
  · rfl
  · exact (h r hr).1
  · exact (h r hr).2
theorem rows_one {w : World} {base : Nat} {rs : List Row} {bs : List Batch} (h : RowsOwn w base rs bs) : ∀ r ∈ rs, r.has.oneCell' = true ∧ r.needs.oneCell' = true := by
  intro r hr
  obtain ⟨x, h1, y, h2⟩ := h.mem hr
  obtain ⟨a1, c1, e1⟩ := own_sl h1
  obtain ⟨a2, c2, e2⟩ := own_sl h2
  rw [e1, e2]
  exact ⟨rfl, rfl⟩
theorem cellsOf_takeL (rs : List Row) (k : Nat) : cellsOf (rs.take k) = (cellsOf rs).take (k * 3) := by
  have e : cellsOf rs = cellsOf (rs.take k) ++ cellsOf (rs.drop k) := by rw [← cellsOf_append, List.take_append_drop]
  rcases Nat.lt_or_ge rs.length k with h | h
  · rw [List.take_of_length_le (by omega : rs.length ≤ k), List.take_of_length_le (by rw [cellsOf_length]; omega)]
  · have hl : (cellsOf (rs.take k)).length = k * 3 := by rw [cellsOf_length, List.length_take]; omega
    rw [e, ← hl, List.take_left]

set_option maxRecDepth 100000 in
set_option maxHeartbeats 1000000 in
theorem delete_any (base : Nat) (rs : List Row) (p n : Nat) (v2 : Value) (w : World) (h : w.ownsRow base 46 3 v2 n (cellsOf rs)) (hrn : rs.length = n) (h1 : ∀ r ∈ rs, r.has.oneCell' = true ∧ r.needs.oneCell' = true) (hp : p < n) (hn : n ≤ 2199023255552) :
    Calls Tryz.prog 61 #[v2, .int .i64 (p : Int), .int .i64 ((p : Int) + 1)] w fun e w' =>
      ∃ v', e = .returned v' ∧ w.grownBy w' v2.ownBlock ∧ v'.ownBlock = v2.ownBlock ∧ w'.ownsRow base 46 3 v' (n - 1) (cellsOf (rs.take p ++ rs.drop (p + 1))) := by
  obtain ⟨g, c, cur, rfl, hb, hg, hc, hx, hs, ht⟩ := own_open h (by omega)
  obtain ⟨i0, hi, hz0, hz1, hz2⟩ := info_batch
  have hnl : (cellsOf rs).length = n * 3 := by rw [cellsOf_length, hrn]
  have hnews : (cellsOf (rs.drop (p + 1))).length = (n - (p + 1)) * 3 := by rw [cellsOf_length, List.length_drop, hrn]
  have hcell : ∀ (j : Nat) u, (cellsOf (rs.drop (p + 1)))[j]? = some u → w.cell? ⟨g, (p + 1) * 3 + j, none⟩ = some u := fun j u hj => by
    obtain ⟨g', _, e, _, hc', _⟩ := own_cell h (cellsOf_drop (by omega) hj)
    simp only [Value.slice.injEq, Option.some.injEq, Addr.mk.injEq, and_true] at e
    obtain ⟨rfl, -⟩ := e
    exact hc'
  have hone : ∀ u ∈ cellsOf (rs.drop (p + 1)), u.oneCell' = true := cellsOf_one _ (fun r hr => h1 r (List.mem_of_mem_drop hr))
  have hlo := own_less h (Nat.le_of_lt hp)
  rw [← cellsOf_takeL] at hlo
  -- the source's address: the row's own where no room is left behind it
  have HRUN : Hid (∀ (o ty : Nat) (W : World), W.heap = w.heap → (0 < n - (p + 1) → o = (p + 1) * 3) → ∃ w', (Builtin.append_ #[28, 28] ty #[.slice (some ⟨g, 0, none⟩) p c, .slice (some ⟨g, o, none⟩) (n - (p + 1)) (c - (p + 1))]).run Tryz.prog W = .ok (.slice (some ⟨g, 0, none⟩) (n - 1) c) w' ∧ w'.ownsRow base 46 3 (.slice (some ⟨g, 0, none⟩) (n - 1) c) (n - 1) (cellsOf (rs.take p ++ rs.drop (p + 1))) ∧ W.grownBy w' (some g)) := by
    intro o ty W hW ho
    have hlo' : W.ownsRow base 46 3 (.slice (some ⟨g, 0, none⟩) p c) p (cellsOf (rs.take p)) := by
      obtain ⟨q1, q2⟩ := hlo
      refine ⟨q1, ?_⟩
      rw [hW]; exact q2
    obtain ⟨w', r1, r2, r3⟩ := run_append_fits (P := Tryz.prog) W base 28 ty 46 i0 3 Tryz.underlying28 hi hz1 g p c _ hlo' ⟨g, o, none⟩ (n - (p + 1)) (c - (p + 1)) (cellsOf (rs.drop (p + 1))) hnews (fun j u hj => by
      have hlt : j < (n - (p + 1)) * 3 := by rw [← hnews]; exact (List.getElem?_eq_some_iff.1 hj).1
      rw [add_plain, ho (by omega)]
      have := hcell j u hj
      unfold World.cell? at this ⊢
      rw [hW]; exact this) hone (by omega)
    have e : p + (n - (p + 1)) = n - 1 := by omega
    rw [e] at r1 r2
    exact ⟨w', r1, by rw [cellsOf_append]; exact r2, r3⟩
  have HG : Hid (base ≤ g) := hb
  have HCM := hid hx
  clear hlo hone hcell hnews hnl h hg hs ht cur hi hz0 hz1 hz2 h1
  generalize cellsOf (rs.take p ++ rs.drop (p + 1)) = xs at *
  clear hrn rs hb hx i0
  have hpc : p ≤ c := by omega
  go_enter Tryz.func61, Tryz.ntmps61
  go_wp2_with fail
  by_cases hcp : c = p + 1
  · have HCP := hid hcp
    clear hcp
    refine wp_region_T (fun _ => True) 7 (by kernel_rfl) trivial (fun hS => ?_)
    refine wpT_take 0 (v := ?_) rfl rfl (by kernel_rfl) (by kernel_rfl) (by kernel_rfl) (by kernel_rfl) (fun _ _ _ h => h) hS rfl (by intro w0 hw0; (try dsimp only at hw0); go_simp; try rfl) ?_
    try simp only [List.set]
    refine wpT_take 1 (v := ?_) rfl rfl (by kernel_rfl) (by kernel_rfl) (by kernel_rfl) (by kernel_rfl) (fun _ _ _ h => h) hS rfl (by intro w0 hw0; (try dsimp only at hw0); go_simp; try rfl) ?_
    try simp only [List.set]
    refine wpT_take 2 (v := ?_) rfl rfl (by kernel_rfl) (by kernel_rfl) (by kernel_rfl) (by kernel_rfl) (fun _ _ _ h => h) hS rfl (by intro w0 hw0; (try dsimp only at hw0); go_simp; try rfl) ?_
    try simp only [List.set]
    refine wpT_take 3 (v := ?_) rfl rfl (by kernel_rfl) (by kernel_rfl) (by kernel_rfl) (by kernel_rfl) (fun _ _ _ h => h) hS rfl (by intro w0 hw0; (try dsimp only at hw0); go_simp; try rfl) ?_
    try simp only [List.set]
    refine wpT_take 4 (v := ?_) rfl rfl (by kernel_rfl) (by kernel_rfl) (by kernel_rfl) (by kernel_rfl) (fun _ _ _ h => h) hS rfl (by intro w0 hw0; (try dsimp only at hw0); go_simp; try rfl) ?_
    try simp only [List.set]
    refine wpT_take 5 (v := .slice (some ⟨g, 0, none⟩) (n - (p + 1)) (c - (p + 1))) rfl rfl (by kernel_rfl) (by kernel_rfl) (by kernel_rfl) (by kernel_rfl) (fun _ _ _ h => h) hS rfl (by intro w0 hw0; (try dsimp only at hw0); go_simp; rw [if_pos (by omega), if_pos HCP.out]) ?_
    try simp only [List.set]
    refine wpT_one 6 rfl (by kernel_rfl) rfl rfl (fun K hK => ?_)
    obtain ⟨w1, r1, r2, r3⟩ := HRUN.out 0 _ (w.drewN 1) rfl (fun h => by have := HCP.out; omega)
    refine Lib.wp_append_run _ _ _ _ _ rfl _ _ rfl rfl _ _ r1 (hK.out _ _ trivial (fun hS1 => ?_))
    clear hK hS
    have hS := hS1
    clear hS1
    try clear K
    try simp only [put_some, List.set]
    refine wpT_last rfl (by kernel_rfl) (by kernel_rfl) rfl (fun K hK => ?_)
    go_simp
    refine hK.out _ _ ?_
    clear hK r1
    obtain ⟨cur, hb1, hg1, hc1, hx1, hs1, ht1⟩ := own_open' r2
    have hcl := run_clear_batch w1 0 g ((n - 1) * 3) (c - (n - 1)) cur _ hg1 (by rw [hs1]; omega)
    have HO : Hid ((w1.setRow g (cur.toList.take ((n - 1) * 3) ++ zeroB ++ cur.toList.drop ((n - 1) * 3 + 3)).toArray).ownsRow base 46 3 (.slice (some ⟨g, 0, none⟩) (n - 1) c) (n - 1) xs) := by
      refine own_shut hb1 (setRow_heap w1 g cur _ _ _ hg1) hc1 hx1 ?_ ?_
      · simp only [List.size_toArray, List.length_append, List.length_take, List.length_drop, Array.length_toList, zeroB, List.length_cons, List.length_nil]
        rw [hs1]; omega
      · rw [← ht1, List.append_assoc]
        have hl : (cur.toList.take ((n - 1) * 3)).length = (n - 1) * 3 := by rw [List.length_take, Array.length_toList, hs1]; omega
        show List.take ((n - 1) * 3) (cur.toList.take ((n - 1) * 3) ++ (zeroB ++ _)) = _
        rw [List.take_append_of_le_length (by omega), List.take_of_length_le (by omega)]
    have HGB : Hid (w.grownBy (w1.setRow g (cur.toList.take ((n - 1) * 3) ++ zeroB ++ cur.toList.drop ((n - 1) * 3 + 3)).toArray) (some g)) := gb_trE (gb_trE (gb_noneE (ext_drewN w 1)) r3) (gb_row _ _ _)
    have hcl' : n - (n - 1) = 1 := by omega
    have hcl2 : (Builtin.clear_ #[28] 0 #[.slice (some ⟨g, (n - 1) * 3, none⟩) (n - (n - 1)) (c - (n - 1))]).run Tryz.prog w1 = .ok (.tuple #[]) (w1.setRow g (cur.toList.take ((n - 1) * 3) ++ zeroB ++ cur.toList.drop ((n - 1) * 3 + 3)).toArray) := by rw [hcl']; exact hcl
    clear hcl hcl' r2 r3 hb1 hg1 hc1 hx1 hs1 ht1
    generalize w1.setRow g (cur.toList.take ((n - 1) * 3) ++ zeroB ++ cur.toList.drop ((n - 1) * 3 + 3)).toArray = w2 at *
    go_wp2
    go_ret
    exact ⟨_, rfl, HGB.out, rfl, HO.out⟩
  · refine wp_region_T (fun _ => True) 7 (by kernel_rfl) trivial (fun hS => ?_)
    refine wpT_take 0 (v := ?_) rfl rfl (by kernel_rfl) (by kernel_rfl) (by kernel_rfl) (by kernel_rfl) (fun _ _ _ h => h) hS rfl (by intro w0 hw0; (try dsimp only at hw0); go_simp; try rfl) ?_
    try simp only [List.set]
    refine wpT_take 1 (v := ?_) rfl rfl (by kernel_rfl) (by kernel_rfl) (by kernel_rfl) (by kernel_rfl) (fun _ _ _ h => h) hS rfl (by intro w0 hw0; (try dsimp only at hw0); go_simp; try rfl) ?_
    try simp only [List.set]
    refine wpT_take 2 (v := ?_) rfl rfl (by kernel_rfl) (by kernel_rfl) (by kernel_rfl) (by kernel_rfl) (fun _ _ _ h => h) hS rfl (by intro w0 hw0; (try dsimp only at hw0); go_simp; try rfl) ?_
    try simp only [List.set]
    refine wpT_take 3 (v := ?_) rfl rfl (by kernel_rfl) (by kernel_rfl) (by kernel_rfl) (by kernel_rfl) (fun _ _ _ h => h) hS rfl (by intro w0 hw0; (try dsimp only at hw0); go_simp; try rfl) ?_
    try simp only [List.set]
    refine wpT_take 4 (v := ?_) rfl rfl (by kernel_rfl) (by kernel_rfl) (by kernel_rfl) (by kernel_rfl) (fun _ _ _ h => h) hS rfl (by intro w0 hw0; (try dsimp only at hw0); go_simp; try rfl) ?_
    try simp only [List.set]
    refine wpT_take 5 (v := .slice (some ⟨g, (p + 1) * 3, none⟩) (n - (p + 1)) (c - (p + 1))) rfl rfl (by kernel_rfl) (by kernel_rfl) (by kernel_rfl) (by kernel_rfl) (fun _ _ _ h => h) hS rfl (by intro w0 hw0; (try dsimp only at hw0); go_simp; intro h; have := h (by omega); omega) ?_
    try simp only [List.set]
    refine wpT_one 6 rfl (by kernel_rfl) rfl rfl (fun K hK => ?_)
    obtain ⟨w1, r1, r2, r3⟩ := HRUN.out ((p + 1) * 3) _ (w.drewN 1) rfl (fun _ => rfl)
    refine Lib.wp_append_run _ _ _ _ _ rfl _ _ rfl rfl _ _ r1 (hK.out _ _ trivial (fun hS1 => ?_))
    clear hK hS
    have hS := hS1
    clear hS1
    try clear K
    try simp only [put_some, List.set]
    refine wpT_last rfl (by kernel_rfl) (by kernel_rfl) rfl (fun K hK => ?_)
    go_simp
    refine hK.out _ _ ?_
    clear hK r1
    obtain ⟨cur, hb1, hg1, hc1, hx1, hs1, ht1⟩ := own_open' r2
    have hcl := run_clear_batch w1 0 g ((n - 1) * 3) (c - (n - 1)) cur _ hg1 (by rw [hs1]; omega)
    have HO : Hid ((w1.setRow g (cur.toList.take ((n - 1) * 3) ++ zeroB ++ cur.toList.drop ((n - 1) * 3 + 3)).toArray).ownsRow base 46 3 (.slice (some ⟨g, 0, none⟩) (n - 1) c) (n - 1) xs) := by
      refine own_shut hb1 (setRow_heap w1 g cur _ _ _ hg1) hc1 hx1 ?_ ?_
      · simp only [List.size_toArray, List.length_append, List.length_take, List.length_drop, Array.length_toList, zeroB, List.length_cons, List.length_nil]
        rw [hs1]; omega
      · rw [← ht1, List.append_assoc]
        have hl : (cur.toList.take ((n - 1) * 3)).length = (n - 1) * 3 := by rw [List.length_take, Array.length_toList, hs1]; omega
        show List.take ((n - 1) * 3) (cur.toList.take ((n - 1) * 3) ++ (zeroB ++ _)) = _
        rw [List.take_append_of_le_length (by omega), List.take_of_length_le (by omega)]
    have HGB : Hid (w.grownBy (w1.setRow g (cur.toList.take ((n - 1) * 3) ++ zeroB ++ cur.toList.drop ((n - 1) * 3 + 3)).toArray) (some g)) := gb_trE (gb_trE (gb_noneE (ext_drewN w 1)) r3) (gb_row _ _ _)
    have hcl' : n - (n - 1) = 1 := by omega
    have hcl2 : (Builtin.clear_ #[28] 0 #[.slice (some ⟨g, (n - 1) * 3, none⟩) (n - (n - 1)) (c - (n - 1))]).run Tryz.prog w1 = .ok (.tuple #[]) (w1.setRow g (cur.toList.take ((n - 1) * 3) ++ zeroB ++ cur.toList.drop ((n - 1) * 3 + 3)).toArray) := by rw [hcl']; exact hcl
    clear hcl hcl' r2 r3 hb1 hg1 hc1 hx1 hs1 ht1
    generalize w1.setRow g (cur.toList.take ((n - 1) * 3) ++ zeroB ++ cur.toList.drop ((n - 1) * 3 + 3)).toArray = w2 at *
    go_wp2
    go_ret
    exact ⟨_, rfl, HGB.out, rfl, HO.out⟩
end Go.Proofs.YtdafpnpfcmgfcabGreatDoor
