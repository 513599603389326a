/- The wishes: who asks, and why they are refused (all but asking). -/
import Derived.Test.YtdafpnpfcmgfcabGreatDoorE3
import Derived.Test.YtdafpnpfcmgfcabGreatDoorH2
namespace Go.Proofs.YtdafpnpfcmgfcabGreatDoor
open Go.RowKit
attribute [local go_sem] S_toList S_size S_get

theorem box1of2 {w w1 : World} {c1 c2 : Array Value} {t1 t2 : TypeId} (h : Ext ((w.alloc (.cells c1 t1)).alloc (.cells c2 t2)) w1) {i : Nat} {v : Value} (hi : c1[i]? = some v) : w1.cell? ⟨w.heap.size, i, none⟩ = some v :=
  box_cell (Ext.tr (ext_alloc _ _) h) hi
theorem box2of2 {w w1 : World} {c1 c2 : Array Value} {t1 t2 : TypeId} (h : Ext ((w.alloc (.cells c1 t1)).alloc (.cells c2 t2)) w1) {i : Nat} {v : Value} (hi : c2[i]? = some v) : w1.cell? ⟨w.heap.size + 1, i, none⟩ = some v := by
  have := box_cell h hi
  simpa using this
theorem ext_two (w : World) (o1 o2 : Obj) : Ext w ((w.alloc o1).alloc o2) := Ext.tr (ext_alloc _ _) (ext_alloc _ _)

/-- Why: nothing, or a refusal. -/
def whyV (c : Nat) : Value := if c = 0 then .nilIface else .iface 73 (.int .i64 (c : Int))
theorem whyV0 {c : Nat} (h : c = 0) : whyV c = .nilIface := by rw [h]; rfl
theorem ret_why {c k : Nat} (h : c = k) (hk : 0 < k) : Ending.returned (.iface 73 (.int .i64 (k : Int))) = .returned (whyV c) := by
  rw [h]; unfold whyV; rw [if_neg (by omega)]
theorem ret_why0 {c : Nat} (h : c = 0) : Ending.returned .nilIface = .returned (whyV c) := by rw [h]; rfl

def enterC (b : Book) (n : Str) (needs : List Str) : Nat :=
  if nameOk n = false ∨ namesOk needs b.things = false then 2 else if hereB b n = true then 3 else if 5 ≤ b.batches.length then 4 else 0
def lessC (b : Book) (n : Str) (needs : List Str) : Nat := if hereB b n = false then 3 else if namesOk needs (b.at (whereB b n)).needs = false then 2 else 0
def leaveC (b : Book) (n : Str) : Nat := if hereB b n = false then 3 else 0
def askC (b : Book) (n : Str) (things : List Str) : Nat :=
  if hereB b n = false then 3 else if namesOk things (b.at (whereB b n)).needs = false then 2 else if takenB b (whereB b n) things = true then 5
  else if safeB b = true ∧ safeB (giveB b (whereB b n) things) = false then 6 else 0

theorem who_any (n : Str) (w : World) : Calls Tryz.prog 103 #[.agg #[.string (S n)]] w fun e w' => e = .returned (.string (S n)) ∧ Ext w w' := by
  go_enter Tryz.func103, Tryz.ntmps103
  go_wp2
  go_ret
  exact ⟨rfl, ext_alloc _ _⟩

theorem mWhoE (n v : Value) (w : World) : (Go.method 285 103 (.agg #[n, v]) "loop.example/maltshare/impl.who").run Tryz.prog w = .ok (103, .agg #[n]) w := by kernel_rfl
theorem mWhoA (n v : Value) (w : World) : (Go.method 285 55 (.agg #[n, v]) "loop.example/maltshare/impl.who").run Tryz.prog w = .ok (103, .agg #[n]) w := by kernel_rfl
theorem mWhoL (n v : Value) (w : World) : (Go.method 285 61 (.agg #[n, v]) "loop.example/maltshare/impl.who").run Tryz.prog w = .ok (103, .agg #[n]) w := by kernel_rfl
theorem mWhoG (n : Value) (w : World) : (Go.method 285 63 (.agg #[n]) "loop.example/maltshare/impl.who").run Tryz.prog w = .ok (103, .agg #[n]) w := by kernel_rfl
theorem mRefE (v : Value) (w : World) : (Go.method 285 103 v "loop.example/maltshare/impl.refused").run Tryz.prog w = .ok (124, v) w := by kernel_rfl
theorem mRefA (v : Value) (w : World) : (Go.method 285 55 v "loop.example/maltshare/impl.refused").run Tryz.prog w = .ok (104, v) w := by kernel_rfl
theorem mRefL (v : Value) (w : World) : (Go.method 285 61 v "loop.example/maltshare/impl.refused").run Tryz.prog w = .ok (116, v) w := by kernel_rfl
theorem mRefG (v : Value) (w : World) : (Go.method 285 63 v "loop.example/maltshare/impl.refused").run Tryz.prog w = .ok (117, v) w := by kernel_rfl

set_option maxRecDepth 100000 in
set_option maxHeartbeats 1000000 in
theorem leaveRef_any (b : Book) (n : Str) (a1 a2 : Option Addr) (c1 c2 : Nat) (w : World) (hb : BookAt w a1 a2 b) (hok : bookOk b = true) :
    Calls Tryz.prog 117 #[.agg #[.string (S n)], .agg #[.slice a1 b.things.length c1, .slice a2 b.batches.length c2]] w fun e w' => e = .returned (whyV (leaveC b n)) ∧ Ext w w' := by
  go_enter Tryz.func117, Tryz.ntmps117
  go_wp2_with fail
  refine (placeOf_any b n _ _ _ _ _ (hb.ext (ext_two _ _ _)) hok).mono ?_
  rintro e w1 ⟨rfl, hE1⟩
  have HE := hid (Ext.tr (ext_two _ _ _) hE1)
  clear hE1
  cases hh : hereB b n
  · have HC : Hid (leaveC b n = 3) := by show _ = _; unfold leaveC; rw [hh]; rfl
    clear hh
    go_wp2_with fail
    go_ret
    exact ⟨ret_why (k := 3) HC.out (by omega), HE.out⟩
  · have HC : Hid (leaveC b n = 0) := by show _ = _; unfold leaveC; rw [hh]; rfl
    clear hh
    go_wp2_with fail
    go_ret
    exact ⟨ret_why0 HC.out, HE.out⟩

set_option maxRecDepth 100000 in
set_option maxHeartbeats 1000000 in
theorem enterRef_any (b : Book) (n : Str) (needs : List Str) (a1 a2 a3 : Option Addr) (c1 c2 c3 : Nat) (w : World) (hb : BookAt w a1 a2 b) (hn : StrsAt w a3 needs) (hnl : n.length ≤ 140737488355328) (hok : bookOk b = true) :
    Calls Tryz.prog 124 #[.agg #[.string (S n), .slice a3 needs.length c3], .agg #[.slice a1 b.things.length c1, .slice a2 b.batches.length c2]] w fun e w' => e = .returned (whyV (enterC b n needs)) ∧ Ext w w' := by
  go_enter Tryz.func124, Tryz.ntmps124
  go_wp2_with fail
  refine (placeOf_any b n _ _ _ _ _ (hb.ext (ext_two _ _ _)) hok).mono ?_
  rintro e w1 ⟨rfl, hE1⟩
  have p0 := box1of2 hE1 (i := 0) rfl
  have p1 := box1of2 hE1 (i := 1) rfl
  have q0 := box2of2 hE1 (i := 0) rfl
  have q1 := box2of2 hE1 (i := 1) rfl
  have HE := hid (Ext.tr (ext_two _ _ _) hE1)
  clear hE1
  generalize hh : hereB b n = here
  have HH := hid hh
  clear hh
  go_wp2_with fail
  refine (isName_any n _ hnl).mono ?_
  rintro e w2 ⟨rfl, hE2⟩
  have HE2 := hid (Ext.tr HE.out hE2)
  replace p1 := hE2.keep p1
  replace q0 := hE2.keep q0
  replace q1 := hE2.keep q1
  clear hE2 p0
  cases hq : nameOk n
  · have HC : Hid (enterC b n needs = 2) := by show _ = _; unfold enterC; rw [if_pos (Or.inl hq)]
    clear hq
    go_wp2_with fail
    go_ret
    exact ⟨ret_why (k := 2) HC.out (by omega), HE2.out⟩
  · have HQ := hid hq
    clear hq
    go_wp2_with fail
    cases hp : namesOk needs b.things
    · have HC : Hid (enterC b n needs = 2) := by show _ = _; unfold enterC; rw [if_pos (Or.inr hp)]
      refine (picked_v _ _ _ _ _ _ _ _ (hn.ext HE2.out) (hb.ext HE2.out).1 hp).mono ?_
      rintro e w3 ⟨rfl, k, hw3⟩
      have HE3 : Hid (Ext w w3) := by rw [hw3]; exact Ext.tr HE2.out (ext_drewN _ _)
      clear hw3 hp
      go_wp2_with fail
      go_ret
      exact ⟨ret_why (k := 2) HC.out (by omega), HE3.out⟩
    · refine (picked_v _ _ _ _ _ _ _ _ (hn.ext HE2.out) (hb.ext HE2.out).1 hp).mono ?_
      rintro e w3 ⟨rfl, k, hw3⟩
      have hE3 : Ext w2 w3 := by rw [hw3]; exact ext_drewN _ _
      have HE3 := hid (Ext.tr HE2.out hE3)
      replace q1 := hE3.keep q1
      clear hw3 hE3 p1 q0
      have HU : Hid (enterC b n needs = if here = true then 3 else if 5 ≤ b.batches.length then 4 else 0) := by
        show _ = _; unfold enterC; rw [if_neg (by simp [hp, HQ.out]), HH.out]
      clear hp
      cases here
      · by_cases h5 : 5 ≤ b.batches.length
        · have HC : Hid (enterC b n needs = 4) := by show _ = _; rw [HU.out]; simp [h5]
          have h5' : (5 : Int) ≤ (b.batches.length : Int) := by omega
          clear HU
          go_wp2_with fail
          go_ret
          exact ⟨ret_why (k := 4) HC.out (by omega), HE3.out⟩
        · have HC : Hid (enterC b n needs = 0) := by show _ = _; rw [HU.out]; simp [h5]
          have h5' : ¬ ((5 : Int) ≤ (b.batches.length : Int)) := by omega
          clear HU
          go_wp2_with fail
          go_ret
          exact ⟨ret_why0 HC.out, HE3.out⟩
      · have HC : Hid (enterC b n needs = 3) := by show _ = _; rw [HU.out]; simp
        clear HU
        go_wp2_with fail
        go_ret
        exact ⟨ret_why (k := 3) HC.out (by omega), HE3.out⟩

set_option maxRecDepth 100000 in
set_option maxHeartbeats 1000000 in
theorem lessRef_any (b : Book) (n : Str) (needs : List Str) (a1 a2 a3 : Option Addr) (c1 c2 c3 : Nat) (w : World) (hb : BookAt w a1 a2 b) (hn : StrsAt w a3 needs) (hok : bookOk b = true) :
    Calls Tryz.prog 116 #[.agg #[.string (S n), .slice a3 needs.length c3], .agg #[.slice a1 b.things.length c1, .slice a2 b.batches.length c2]] w fun e w' => e = .returned (whyV (lessC b n needs)) ∧ Ext w w' := by
  go_enter Tryz.func116, Tryz.ntmps116
  go_wp2_with fail
  refine (placeOf_any b n _ _ _ _ _ (hb.ext (ext_two _ _ _)) hok).mono ?_
  rintro e w1 ⟨rfl, hE1⟩
  have p1 := box1of2 hE1 (i := 1) rfl
  have q1 := box2of2 hE1 (i := 1) rfl
  have HE := hid (Ext.tr (ext_two _ _ _) hE1)
  clear hE1
  cases hh : hereB b n
  · have HC : Hid (lessC b n needs = 3) := by show _ = _; unfold lessC; rw [hh]; rfl
    clear hh
    go_wp2_with fail
    go_ret
    exact ⟨ret_why (k := 3) HC.out (by omega), HE.out⟩
  · have hk := where_lt hh
    have hw := ok_where hok hh
    rw [hw]
    have HU : Hid (lessC b n needs = if namesOk needs (nthB b.batches (whereB b n)).needs = false then 2 else 0) := by show _ = _; unfold lessC; rw [hh]; rfl
    clear hh hw
    generalize whereB b n = k at *
    obtain ⟨bb, oo, rfl, h0, x1, y1, x2, y2, d0, d1, d2, s1, s2⟩ := (hb.ext HE.out).2.2 k hk
    have h5 := ok_five hok
    go_wp2_with fail
    refine wp_region_T (fun w' => w'.cell? ⟨w.heap.size, 1, none⟩ = some (.slice a3 needs.length c3) ∧ w'.cell? ⟨w.heap.size + 1, 1, none⟩ = some (.slice (some ⟨bb, oo, none⟩) b.batches.length c2) ∧ w'.cell? ⟨bb, oo + k * 3 + 2, none⟩ = some (.slice x2 (nthB b.batches k).needs.length y2)) 11 (by kernel_rfl) ⟨p1, q1, d2⟩ (fun hS => ?_)
    refine wpT_takeN 0 (v := ?_) rfl rfl (by kernel_rfl) (by kernel_rfl) (by kernel_rfl) (by kernel_rfl) (fun _ _ _ h => h) hS rfl (by intro w0 hw0; (try dsimp only at hw0); go_simp; try rfl) ?_
    try simp only [List.set]
    refine wpT_takeN 1 (v := ?_) rfl rfl (by kernel_rfl) (by kernel_rfl) (by kernel_rfl) (by kernel_rfl) (fun _ _ _ h => h) hS rfl (by intro w0 hw0; (try dsimp only at hw0); go_simp; try rfl) ?_
    try simp only [List.set]
    refine wpT_takeN 2 (v := ?_) rfl rfl (by kernel_rfl) (by kernel_rfl) (by kernel_rfl) (by kernel_rfl) (fun _ _ _ h => h) hS rfl (by intro w0 hw0; (try dsimp only at hw0); go_simp; try rfl) ?_
    try simp only [List.set]
    refine wpT_takeN 3 (v := ?_) rfl rfl (by kernel_rfl) (by kernel_rfl) (by kernel_rfl) (by kernel_rfl) (fun _ _ _ h => h) hS rfl (by intro w0 hw0; (try dsimp only at hw0); go_simp; try rfl) ?_
    try simp only [List.set]
    refine wpT_takeN 4 (v := ?_) rfl rfl (by kernel_rfl) (by kernel_rfl) (by kernel_rfl) (by kernel_rfl) (fun _ _ _ h => h) hS rfl (by intro w0 hw0; (try dsimp only at hw0); go_simp; try rfl) ?_
    try simp only [List.set]
    refine wpT_takeN 5 (v := ?_) rfl rfl (by kernel_rfl) (by kernel_rfl) (by kernel_rfl) (by kernel_rfl) (fun _ _ _ h => h) hS rfl (by intro w0 hw0; (try dsimp only at hw0); go_simp; try rfl) ?_
    try simp only [List.set]
    refine wpT_takeN 6 (v := ?_) rfl rfl (by kernel_rfl) (by kernel_rfl) (by kernel_rfl) (by kernel_rfl) (fun _ _ _ h => h) hS rfl (by intro w0 hw0; (try dsimp only at hw0); go_simp; try rfl) ?_
    try simp only [List.set]
    refine wpT_takeN 7 (v := ?_) rfl rfl (by kernel_rfl) (by kernel_rfl) (by kernel_rfl) (by kernel_rfl) (fun _ _ _ h => h) hS rfl (by intro w0 hw0; (try dsimp only at hw0); go_simp; try rfl) ?_
    try simp only [List.set]
    refine wpT_one 8 rfl (by kernel_rfl) rfl rfl (fun K hK => ?_)
    go_simp
    cases hp : namesOk needs (nthB b.batches k).needs
    · have HC : Hid (lessC b n needs = 2) := by show _ = _; rw [HU.out, hp]; rfl
      refine (picked_v _ _ _ _ _ _ _ _ ((hn.ext HE.out).drewN 1) (s2.drewN 1) hp).mono ?_
      rintro e w3 ⟨rfl, j, hw3⟩
      have hE3 : Ext w1 w3 := by rw [hw3]; exact Ext.tr (ext_drewN _ 1) (ext_drewN _ _)
      have HE3 := hid (Ext.tr HE.out hE3)
      clear hw3
      go_wp2_with fail
      refine hK.out _ _ ⟨hE3.keep p1, hE3.keep q1, hE3.keep d2⟩ (fun hS1 => ?_)
      clear hK hS
      have hS := hS1
      clear hS1
      try clear K
      try simp only [put_some, List.set]
      refine wpT_takeN 9 (v := ?_) rfl rfl (by kernel_rfl) (by kernel_rfl) (by kernel_rfl) (by kernel_rfl) (fun _ _ _ h => h) hS rfl (by intro w0 hw0; (try dsimp only at hw0); go_simp; try rfl) ?_
      try simp only [List.set]
      refine wpT_takeN 10 (v := ?_) rfl rfl (by kernel_rfl) (by kernel_rfl) (by kernel_rfl) (by kernel_rfl) (fun _ _ _ h => h) hS rfl (by intro w0 hw0; (try dsimp only at hw0); go_simp; try rfl) ?_
      try simp only [List.set]
      refine wpT_done (by kernel_rfl) ?_ _
      clear hE3 hp
      go_wp2_with fail
      go_ret
      exact ⟨ret_why (k := 2) HC.out (by omega), HE3.out⟩
    · have HC : Hid (lessC b n needs = 0) := by show _ = _; rw [HU.out, hp]; rfl
      refine (picked_v _ _ _ _ _ _ _ _ ((hn.ext HE.out).drewN 1) (s2.drewN 1) hp).mono ?_
      rintro e w3 ⟨rfl, j, hw3⟩
      have hE3 : Ext w1 w3 := by rw [hw3]; exact Ext.tr (ext_drewN _ 1) (ext_drewN _ _)
      have HE3 := hid (Ext.tr HE.out hE3)
      clear hw3
      go_wp2_with fail
      refine hK.out _ _ ⟨hE3.keep p1, hE3.keep q1, hE3.keep d2⟩ (fun hS1 => ?_)
      clear hK hS
      have hS := hS1
      clear hS1
      try clear K
      try simp only [put_some, List.set]
      refine wpT_takeN 9 (v := ?_) rfl rfl (by kernel_rfl) (by kernel_rfl) (by kernel_rfl) (by kernel_rfl) (fun _ _ _ h => h) hS rfl (by intro w0 hw0; (try dsimp only at hw0); go_simp; try rfl) ?_
      try simp only [List.set]
      refine wpT_takeN 10 (v := ?_) rfl rfl (by kernel_rfl) (by kernel_rfl) (by kernel_rfl) (by kernel_rfl) (fun _ _ _ h => h) hS rfl (by intro w0 hw0; (try dsimp only at hw0); go_simp; try rfl) ?_
      try simp only [List.set]
      refine wpT_done (by kernel_rfl) ?_ _
      clear hE3 hp
      go_wp2_with fail
      go_ret
      exact ⟨ret_why0 HC.out, HE3.out⟩
end Go.Proofs.YtdafpnpfcmgfcabGreatDoor
