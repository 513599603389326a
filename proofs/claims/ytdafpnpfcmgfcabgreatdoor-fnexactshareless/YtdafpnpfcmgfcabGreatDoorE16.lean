/- A wish answered: refusalOf, errors.As at nothing, answered, whatever the wish. -/
import Derived.Test.YtdafpnpfcmgfcabGreatDoorE15
import Derived.Test.YtdafpnpfcmgfcabGreatDoorE8
namespace Go.Proofs.YtdafpnpfcmgfcabGreatDoor
open Go.RowKit
attribute [local go_sem] S_toList S_size S_get

/-- Nothing, or who was refused, and why. -/
def refV (n : Str) (c : Nat) : Value := if c = 0 then .nilIface else .iface 100 (.agg #[.string (S n), .iface 73 (.int .i64 (c : Int))])
theorem refV0 (n : Str) : refV n 0 = .nilIface := rfl
theorem refV_pos {n : Str} {c : Nat} (h : 0 < c) : refV n c = .iface 100 (.agg #[.string (S n), .iface 73 (.int .i64 (c : Int))]) := by unfold refV; rw [if_neg (by omega)]
theorem whyV_pos {c : Nat} (h : 0 < c) : whyV c = .iface 73 (.int .i64 (c : Int)) := by unfold whyV; rw [if_neg (by omega)]

set_option maxRecDepth 100000 in
set_option maxHeartbeats 1000000 in
theorem refusalOfE (V : Value) (b : Book) (n : Str) (c k : Nat) (a1 a2 : Option Addr) (c1 c2 : Nat) (w : World) (hb : BookAt w a1 a2 b) (hk : (if bookOk b = false then 1 else c) = k)
    (hW : ∀ w, (Go.method 285 103 V "loop.example/maltshare/impl.who").run Tryz.prog w = .ok (103, .agg #[.string (S n)]) w)
    (hR : ∀ w, (Go.method 285 103 V "loop.example/maltshare/impl.refused").run Tryz.prog w = .ok (124, V) w)
    (hC : bookOk b = true → ∀ w', Ext w w' → Calls Tryz.prog 124 #[V, .agg #[.slice a1 b.things.length c1, .slice a2 b.batches.length c2]] w' fun e w2 => e = .returned (whyV c) ∧ Ext w' w2) :
    Calls Tryz.prog 45 #[.agg #[.slice a1 b.things.length c1, .slice a2 b.batches.length c2], .iface 103 V] w fun e w' => e = .returned (refV n k) ∧ Ext w w' := by
  go_enter Tryz.func45, Tryz.ntmps45
  go_wp2_with fail
  refine (implBookOk_any b _ _ _ _ _ (hb.ext (ext_alloc _ _))).mono ?_
  rintro e w1 ⟨rfl, hE1⟩
  have q0 := box_cell hE1 (i := 0) rfl
  have q1 := box_cell hE1 (i := 1) rfl
  have HE1 := hid (Ext.tr (ext_alloc _ _) hE1)
  clear hE1
  cases hok : bookOk b
  · have HC : Hid (k = 1) := by show _ = _; rw [← hk, if_pos hok]
    clear hok hR hC hk
    go_wp2_with fail
    refine (who_any n _).mono ?_
    rintro e w2 ⟨rfl, hE2⟩
    have HE2 := hid (Ext.tr HE1.out hE2)
    clear hE2
    go_wp2_with fail
    go_ret
    exact ⟨by rw [HC.out]; rfl, HE2.out⟩
  · have HC' : Hid (∀ w', Ext w w' → Calls Tryz.prog 124 #[V, .agg #[.slice a1 b.things.length c1, .slice a2 b.batches.length c2]] w' fun e w2 => e = .returned (whyV c) ∧ Ext w' w2) := hC hok
    have HZ : Hid (k = c) := by show _ = _; rw [← hk, if_neg (by simp [hok])]
    clear hC hok hk
    go_wp2_with fail
    refine (HC'.out _ HE1.out).mono ?_
    rintro e w2 ⟨rfl, hE2⟩
    have HE2 := hid (Ext.tr HE1.out hE2)
    clear hE2
    rcases Nat.eq_zero_or_pos c with rfl | hc
    · rw [whyV0 rfl]
      go_wp2_with fail
      go_ret
      exact ⟨by rw [HZ.out]; rfl, HE2.out⟩
    · rw [whyV_pos hc]
      go_wp2_with fail
      refine (who_any n _).mono ?_
      rintro e w3 ⟨rfl, hE3⟩
      have HE3 := hid (Ext.tr HE2.out hE3)
      clear hE3
      go_wp2_with fail
      go_ret
      exact ⟨by rw [HZ.out, refV_pos hc]; rfl, HE3.out⟩

set_option maxRecDepth 100000 in
set_option maxHeartbeats 1000000 in
theorem refusalOfA (V : Value) (b : Book) (n : Str) (c k : Nat) (a1 a2 : Option Addr) (c1 c2 : Nat) (w : World) (hb : BookAt w a1 a2 b) (hk : (if bookOk b = false then 1 else c) = k)
    (hW : ∀ w, (Go.method 285 55 V "loop.example/maltshare/impl.who").run Tryz.prog w = .ok (103, .agg #[.string (S n)]) w)
    (hR : ∀ w, (Go.method 285 55 V "loop.example/maltshare/impl.refused").run Tryz.prog w = .ok (104, V) w)
    (hC : bookOk b = true → ∀ w', Ext w w' → Calls Tryz.prog 104 #[V, .agg #[.slice a1 b.things.length c1, .slice a2 b.batches.length c2]] w' fun e w2 => e = .returned (whyV c) ∧ Ext w' w2) :
    Calls Tryz.prog 45 #[.agg #[.slice a1 b.things.length c1, .slice a2 b.batches.length c2], .iface 55 V] w fun e w' => e = .returned (refV n k) ∧ Ext w w' := by
  go_enter Tryz.func45, Tryz.ntmps45
  go_wp2_with fail
  refine (implBookOk_any b _ _ _ _ _ (hb.ext (ext_alloc _ _))).mono ?_
  rintro e w1 ⟨rfl, hE1⟩
  have q0 := box_cell hE1 (i := 0) rfl
  have q1 := box_cell hE1 (i := 1) rfl
  have HE1 := hid (Ext.tr (ext_alloc _ _) hE1)
  clear hE1
  cases hok : bookOk b
  · have HC : Hid (k = 1) := by show _ = _; rw [← hk, if_pos hok]
    clear hok hR hC hk
    go_wp2_with fail
    refine (who_any n _).mono ?_
    rintro e w2 ⟨rfl, hE2⟩
    have HE2 := hid (Ext.tr HE1.out hE2)
    clear hE2
    go_wp2_with fail
    go_ret
    exact ⟨by rw [HC.out]; rfl, HE2.out⟩
  · have HC' : Hid (∀ w', Ext w w' → Calls Tryz.prog 104 #[V, .agg #[.slice a1 b.things.length c1, .slice a2 b.batches.length c2]] w' fun e w2 => e = .returned (whyV c) ∧ Ext w' w2) := hC hok
    have HZ : Hid (k = c) := by show _ = _; rw [← hk, if_neg (by simp [hok])]
    clear hC hok hk
    go_wp2_with fail
    refine (HC'.out _ HE1.out).mono ?_
    rintro e w2 ⟨rfl, hE2⟩
    have HE2 := hid (Ext.tr HE1.out hE2)
    clear hE2
    rcases Nat.eq_zero_or_pos c with rfl | hc
    · rw [whyV0 rfl]
      go_wp2_with fail
      go_ret
      exact ⟨by rw [HZ.out]; rfl, HE2.out⟩
    · rw [whyV_pos hc]
      go_wp2_with fail
      refine (who_any n _).mono ?_
      rintro e w3 ⟨rfl, hE3⟩
      have HE3 := hid (Ext.tr HE2.out hE3)
      clear hE3
      go_wp2_with fail
      go_ret
      exact ⟨by rw [HZ.out, refV_pos hc]; rfl, HE3.out⟩

set_option maxRecDepth 100000 in
set_option maxHeartbeats 1000000 in
theorem refusalOfL (V : Value) (b : Book) (n : Str) (c k : Nat) (a1 a2 : Option Addr) (c1 c2 : Nat) (w : World) (hb : BookAt w a1 a2 b) (hk : (if bookOk b = false then 1 else c) = k)
    (hW : ∀ w, (Go.method 285 61 V "loop.example/maltshare/impl.who").run Tryz.prog w = .ok (103, .agg #[.string (S n)]) w)
    (hR : ∀ w, (Go.method 285 61 V "loop.example/maltshare/impl.refused").run Tryz.prog w = .ok (116, V) w)
    (hC : bookOk b = true → ∀ w', Ext w w' → Calls Tryz.prog 116 #[V, .agg #[.slice a1 b.things.length c1, .slice a2 b.batches.length c2]] w' fun e w2 => e = .returned (whyV c) ∧ Ext w' w2) :
    Calls Tryz.prog 45 #[.agg #[.slice a1 b.things.length c1, .slice a2 b.batches.length c2], .iface 61 V] w fun e w' => e = .returned (refV n k) ∧ Ext w w' := by
  go_enter Tryz.func45, Tryz.ntmps45
  go_wp2_with fail
  refine (implBookOk_any b _ _ _ _ _ (hb.ext (ext_alloc _ _))).mono ?_
  rintro e w1 ⟨rfl, hE1⟩
  have q0 := box_cell hE1 (i := 0) rfl
  have q1 := box_cell hE1 (i := 1) rfl
  have HE1 := hid (Ext.tr (ext_alloc _ _) hE1)
  clear hE1
  cases hok : bookOk b
  · have HC : Hid (k = 1) := by show _ = _; rw [← hk, if_pos hok]
    clear hok hR hC hk
    go_wp2_with fail
    refine (who_any n _).mono ?_
    rintro e w2 ⟨rfl, hE2⟩
    have HE2 := hid (Ext.tr HE1.out hE2)
    clear hE2
    go_wp2_with fail
    go_ret
    exact ⟨by rw [HC.out]; rfl, HE2.out⟩
  · have HC' : Hid (∀ w', Ext w w' → Calls Tryz.prog 116 #[V, .agg #[.slice a1 b.things.length c1, .slice a2 b.batches.length c2]] w' fun e w2 => e = .returned (whyV c) ∧ Ext w' w2) := hC hok
    have HZ : Hid (k = c) := by show _ = _; rw [← hk, if_neg (by simp [hok])]
    clear hC hok hk
    go_wp2_with fail
    refine (HC'.out _ HE1.out).mono ?_
    rintro e w2 ⟨rfl, hE2⟩
    have HE2 := hid (Ext.tr HE1.out hE2)
    clear hE2
    rcases Nat.eq_zero_or_pos c with rfl | hc
    · rw [whyV0 rfl]
      go_wp2_with fail
      go_ret
      exact ⟨by rw [HZ.out]; rfl, HE2.out⟩
    · rw [whyV_pos hc]
      go_wp2_with fail
      refine (who_any n _).mono ?_
      rintro e w3 ⟨rfl, hE3⟩
      have HE3 := hid (Ext.tr HE2.out hE3)
      clear hE3
      go_wp2_with fail
      go_ret
      exact ⟨by rw [HZ.out, refV_pos hc]; rfl, HE3.out⟩

set_option maxRecDepth 100000 in
set_option maxHeartbeats 1000000 in
theorem refusalOfG (V : Value) (b : Book) (n : Str) (c k : Nat) (a1 a2 : Option Addr) (c1 c2 : Nat) (w : World) (hb : BookAt w a1 a2 b) (hk : (if bookOk b = false then 1 else c) = k)
    (hW : ∀ w, (Go.method 285 63 V "loop.example/maltshare/impl.who").run Tryz.prog w = .ok (103, .agg #[.string (S n)]) w)
    (hR : ∀ w, (Go.method 285 63 V "loop.example/maltshare/impl.refused").run Tryz.prog w = .ok (117, V) w)
    (hC : bookOk b = true → ∀ w', Ext w w' → Calls Tryz.prog 117 #[V, .agg #[.slice a1 b.things.length c1, .slice a2 b.batches.length c2]] w' fun e w2 => e = .returned (whyV c) ∧ Ext w' w2) :
    Calls Tryz.prog 45 #[.agg #[.slice a1 b.things.length c1, .slice a2 b.batches.length c2], .iface 63 V] w fun e w' => e = .returned (refV n k) ∧ Ext w w' := by
  go_enter Tryz.func45, Tryz.ntmps45
  go_wp2_with fail
  refine (implBookOk_any b _ _ _ _ _ (hb.ext (ext_alloc _ _))).mono ?_
  rintro e w1 ⟨rfl, hE1⟩
  have q0 := box_cell hE1 (i := 0) rfl
  have q1 := box_cell hE1 (i := 1) rfl
  have HE1 := hid (Ext.tr (ext_alloc _ _) hE1)
  clear hE1
  cases hok : bookOk b
  · have HC : Hid (k = 1) := by show _ = _; rw [← hk, if_pos hok]
    clear hok hR hC hk
    go_wp2_with fail
    refine (who_any n _).mono ?_
    rintro e w2 ⟨rfl, hE2⟩
    have HE2 := hid (Ext.tr HE1.out hE2)
    clear hE2
    go_wp2_with fail
    go_ret
    exact ⟨by rw [HC.out]; rfl, HE2.out⟩
  · have HC' : Hid (∀ w', Ext w w' → Calls Tryz.prog 117 #[V, .agg #[.slice a1 b.things.length c1, .slice a2 b.batches.length c2]] w' fun e w2 => e = .returned (whyV c) ∧ Ext w' w2) := hC hok
    have HZ : Hid (k = c) := by show _ = _; rw [← hk, if_neg (by simp [hok])]
    clear hC hok hk
    go_wp2_with fail
    refine (HC'.out _ HE1.out).mono ?_
    rintro e w2 ⟨rfl, hE2⟩
    have HE2 := hid (Ext.tr HE1.out hE2)
    clear hE2
    rcases Nat.eq_zero_or_pos c with rfl | hc
    · rw [whyV0 rfl]
      go_wp2_with fail
      go_ret
      exact ⟨by rw [HZ.out]; rfl, HE2.out⟩
    · rw [whyV_pos hc]
      go_wp2_with fail
      refine (who_any n _).mono ?_
      rintro e w3 ⟨rfl, hE3⟩
      have HE3 := hid (Ext.tr HE2.out hE3)
      clear hE3
      go_wp2_with fail
      go_ret
      exact ⟨by rw [HZ.out, refV_pos hc]; rfl, HE3.out⟩

/-- The answer: a book of the call's own, and a code. -/
def OutA (w : World) (b : Book) (c : Nat) (e : Ending) (w' : World) : Prop := ∃ v1 v2 rs, e = .returned (.tuple #[.agg #[v1, v2], .int .i64 (c : Int)]) ∧ Ext w w' ∧ OB w' w.heap.size v1 v2 rs b
theorem OB.empty (w : World) (base : Nat) : OB w base (.slice none 0 0) (.slice none 0 0) [] emptyBook :=
  ⟨World.ownsRow_nil _ _ _ _, ⟨by simp [emptyBook], fun i hi => by simp [emptyBook] at hi⟩, World.ownsRow_nil _ _ _ _, ⟨rfl, fun i r x h => by simp at h⟩, ⟨List.Pairwise.nil, fun v hv => by simp [allV] at hv⟩⟩

set_option maxRecDepth 100000 in
set_option maxHeartbeats 2000000 in
theorem answered_any (W : Value) (b b0 B : Book) (n : Str) (c : Nat) (a1 a2 : Option Addr) (c1 c2 : Nat) (w : World) (hb : BookAt w a1 a2 b) (hB : (if c = 0 then b0 else if c = 1 then emptyBook else b) = B)
    (hg : w.cell? ⟨0, 0, none⟩ = some (.iface 111 (.agg #[.pointer (some ⟨1, 76, none⟩)])))
    (hR : ∀ w', Ext w w' → Calls Tryz.prog 45 #[.agg #[.slice a1 b.things.length c1, .slice a2 b.batches.length c2], W] w' fun e w2 => e = .returned (refV n c) ∧ Ext w' w2)
    (hD : c = 0 → ∀ w', Ext w w' → Calls Tryz.prog 46 #[.agg #[.slice a1 b.things.length c1, .slice a2 b.batches.length c2], W] w' fun e w2 => OutB w' b0 e w2) :
    Calls Tryz.prog 30 #[.agg #[.slice a1 b.things.length c1, .slice a2 b.batches.length c2], W] w fun e w' => OutA w B c e w' := by
  have HB := hid hB
  have HD := hid hD
  clear hB hD
  have e3 : ∀ o1 o2 o3, Ext w (((w.alloc o1).alloc o2).alloc o3) := fun o1 o2 o3 => Ext.tr (ext_two w o1 o2) (ext_alloc _ _)
  go_enter Tryz.func30, Tryz.ntmps30
  go_wp2_with fail
  refine (hR _ (e3 _ _ _)).mono ?_
  rintro e w1 ⟨rfl, hE1⟩
  have hE1' := Ext.tr (ext_alloc _ _) hE1
  have HRb : Hid (Rec w1 w.heap.size 30 [.slice a1 b.things.length c1, .slice a2 b.batches.length c2]) := (Rec.new w _ _).ext (Ext.tr (ext_alloc _ _) hE1')
  have q0 := box1of2 hE1' (i := 0) rfl
  have q1 := box1of2 hE1' (i := 1) rfl
  have HRr := hid (rec_second (l := [.slice none 0 0, .slice none 0 0]) hE1')
  have HRk : Hid (Rec w1 (w.heap.size + 2) 73 [.int .i64 0]) := by
    have h' := (Rec.new ((w.alloc (.cells #[.slice a1 b.things.length c1, .slice a2 b.batches.length c2] 30)).alloc (.cells #[.slice none 0 0, .slice none 0 0] 30)) 73 [.int .i64 0]).ext hE1
    have h2 : Rec w1 (w.heap.size + 2) 73 [.int .i64 0] := by simpa using h'
    exact h2
  have HE1 := hid (Ext.tr (e3 _ _ _) hE1)
  have hz1 : w.heap.size + 3 ≤ w1.heap.size := by have := hE1.size; simp at this; omega
  clear hE1 hE1' e3
  rcases Nat.eq_zero_or_pos c with rfl | hc
  · have HB0 : Hid (B = b0) := by show _ = _; rw [← HB.out, if_pos rfl]
    have HD0 := hid (HD.out rfl)
    clear HD HB
    rw [refV0]
    go_wp2_with fail
    refine (as_nil _ _).mono ?_
    rintro e w2 ⟨rfl, rfl⟩
    go_wp2_with fail
    refine (HD0.out _ HE1.out).mono ?_
    rintro e w2 ⟨v1, v2, rs, rfl, hE2, hO2⟩
    have rr := HRr.out.ext hE2
    have HRR := hid rr
    have HO2 : Hid (OB w2 w.heap.size v1 v2 rs b0) := hO2.low (by omega)
    have HE2 := hid (Ext.tr HE1.out hE2)
    have t0 := rr.cell (i := 0) rfl
    have t1 := rr.cell (i := 1) rfl
    have g0 := rr.frozen 0
    have g1 := rr.frozen 1
    obtain ⟨x1, y1, rfl⟩ := own_sl hO2.ot
    obtain ⟨x2, y2, rfl⟩ := own_shape3 hO2.ob
    clear hE2 hO2 rr
    go_wp2_with fail
    refine bodyPost_ret (v := .tuple #[.agg #[.slice x1 b0.things.length y1, .slice x2 rs.length y2], .int .i64 ((0 : Nat) : Int)]) (by simp [results, Tryz.results30, go_sem, t0, t1]) rfl ⟨_, _, rs, rfl, ?_, ?_⟩
    · exact (HE2.out.setCell (by simp) _).setCell (by simp) _
    · rw [HB0.out]
      exact (HO2.out.stored HRR.out rfl rfl _ _).stored (HRR.out.set _ _) rfl rfl _ _
  · rw [refV_pos hc]
    have hg1 := HE1.out.keep hg
    go_wp2_with fail
    refine (as_code (S n) (c : Int) ⟨w.heap.size + 2, 0, none⟩ _ _ hg1 (HRk.out.cell rfl) (HRk.out.frozen 0)).mono ?_
    rintro e w2 ⟨rfl, wz, hEz, hw2⟩
    have gk := gb_store wz (w.heap.size + 2) 0 (.int .i64 (c : Int))
    have HK2 : Hid (Rec w2 (w.heap.size + 2) 73 [.int .i64 (c : Int)]) := by rw [hw2]; exact (HRk.out.ext hEz).set 0 _
    have HR2 : Hid (Rec w2 (w.heap.size + 1) 30 [.slice none 0 0, .slice none 0 0]) := by rw [hw2]; exact (HRr.out.ext hEz).kept gk (fun e => by have := Option.some.inj e; omega)
    have HB2 : Hid (Rec w2 w.heap.size 30 [.slice a1 b.things.length c1, .slice a2 b.batches.length c2]) := by rw [hw2]; exact (HRb.out.ext hEz).kept gk (fun e => by have := Option.some.inj e; omega)
    have HE2 : Hid (Ext w w2) := by rw [hw2]; exact (Ext.tr HE1.out hEz).setCell (by simp) _
    have hz2 : w1.heap.size ≤ w2.heap.size := by rw [hw2]; have := hEz.size; have := gk.size; omega
    clear hw2 gk hEz q0 q1 HRk HRr HRb HE1 hg1 hR HD
    have k0 := HK2.out.cell (i := 0) rfl
    have t0 := HR2.out.cell (i := 0) rfl
    have t1 := HR2.out.cell (i := 1) rfl
    have g0 := HR2.out.frozen 0
    have g1 := HR2.out.frozen 1
    have b0' := HB2.out.cell (i := 0) rfl
    have b1' := HB2.out.cell (i := 1) rfl
    by_cases hc1 : c = 1
    · subst hc1
      have HBe : Hid (B = emptyBook) := by show _ = _; rw [← HB.out]; rfl
      go_wp2_with fail
      refine wp_region_T (fun w' => w'.cell? ⟨w.heap.size + 2, 0, none⟩ = some (.int .i64 ((1 : Nat) : Int))) 3 (by kernel_rfl) k0 (fun hS => ?_)
      refine wpT_take 0 (v := ?_) rfl rfl (by kernel_rfl) (by kernel_rfl) (by kernel_rfl) (by kernel_rfl) (fun _ _ _ h => h) hS rfl (by intro w0 hw0; (try dsimp only at hw0); go_simp; try rfl) ?_
      try simp only [List.set]
      refine wpT_take 1 (v := ?_) rfl rfl (by kernel_rfl) (by kernel_rfl) (by kernel_rfl) (by kernel_rfl) (fun _ _ _ h => h) hS rfl (by intro w0 hw0; (try dsimp only at hw0); go_simp; try rfl) ?_
      try simp only [List.set]
      refine wpT_one 2 rfl (by kernel_rfl) rfl rfl (fun K hK => ?_)
      go_simp
      have gs1 := gb_store (w2.drewN 1) (w.heap.size + 1) 0 (.slice none 0 0)
      have gs2 := gb_store ((w2.drewN 1).setCell ⟨w.heap.size + 1, 0, none⟩ (.slice none 0 0)) (w.heap.size + 1) 1 (.slice none 0 0)
      have hk3 := ((HK2.out.ext (ext_drewN _ 1)).kept gs1 (fun e => by have := Option.some.inj e; omega)).kept gs2 (fun e => by have := Option.some.inj e; omega)
      have HE3 : Hid (Ext w ((w2.setCell ⟨w.heap.size + 1, 0, none⟩ (.slice none 0 0)).setCell ⟨w.heap.size + 1, 1, none⟩ (.slice none 0 0)).drew) := Ext.tr ((HE2.out.setCell (by simp) _).setCell (by simp) _) (ext_drewN _ 1)
      refine hK.out _ _ (hk3.cell rfl) (fun hS1 => ?_)
      clear hK hS
      have hS := hS1
      clear hS1
      try clear K
      try simp only [put_some, List.set]
      clear gs1 gs2 hk3
      refine wpT_last rfl (by kernel_rfl) (by kernel_rfl) rfl (fun K hK => ?_)
      go_simp
      refine hK.out _ _ ?_
      clear hK hS
      go_wp2_with fail
      refine bodyPost_ret (v := .tuple #[.agg #[.slice none 0 0, .slice none 0 0], .int .i64 ((1 : Nat) : Int)]) (by simp [results, Tryz.results30, go_sem, t0, t1]) rfl ⟨_, _, [], rfl, HE3.out, ?_⟩
      rw [HBe.out]
      exact OB.empty _ _
    · have HBe : Hid (B = b) := by show _ = _; rw [← HB.out, if_neg (by omega), if_neg hc1]
      have hci : ¬ ((c : Int) = 1) := by omega
      have hat2 := hid (hb.ext HE2.out)
      clear HB hc1
      go_wp2_with fail
      refine wp_region_T (fun w' => w'.cell? ⟨w.heap.size + 2, 0, none⟩ = some (.int .i64 (c : Int)) ∧ w'.cell? ⟨w.heap.size, 0, none⟩ = some (.slice a1 b.things.length c1) ∧ w'.cell? ⟨w.heap.size, 1, none⟩ = some (.slice a2 b.batches.length c2)) 4 (by kernel_rfl) ⟨k0, b0', b1'⟩ (fun hS => ?_)
      refine wpT_take 0 (v := ?_) rfl rfl (by kernel_rfl) (by kernel_rfl) (by kernel_rfl) (by kernel_rfl) (fun _ _ _ h => h) hS rfl (by intro w0 hw0; (try dsimp only at hw0); go_simp; try rfl) ?_
      try simp only [List.set]
      refine wpT_take 2 (v := ?_) rfl rfl (by kernel_rfl) (by kernel_rfl) (by kernel_rfl) (by kernel_rfl) (fun _ _ _ h => h) hS rfl (by intro w0 hw0; (try dsimp only at hw0); go_simp; try rfl) ?_
      try simp only [List.set]
      refine wpT_one 1 rfl (by kernel_rfl) rfl rfl (fun K hK => ?_)
      go_simp
      refine (copiedBook_any b _ _ _ _ _ (hat2.out.ext (ext_drewN _ 1))).mono ?_
      rintro e w3 ⟨v1, v2, rs, rfl, hE3, hO3⟩
      have hrr := (HR2.out.ext (ext_drewN _ 1)).ext hE3
      have hkk := (HK2.out.ext (ext_drewN _ 1)).ext hE3
      have hbb := (HB2.out.ext (ext_drewN _ 1)).ext hE3
      have HO3 : Hid (OB w3 w.heap.size v1 v2 rs b) := hO3.low (by show w.heap.size ≤ w2.heap.size; omega)
      have HE3 := hid (Ext.tr HE2.out (Ext.tr (ext_drewN _ 1) hE3))
      obtain ⟨x1, y1, rfl⟩ := own_sl hO3.ot
      obtain ⟨x2, y2, rfl⟩ := own_shape3 hO3.ob
      go_wp2_with fail
      refine hK.out _ _ ⟨hE3.keep hS.1, hE3.keep hS.2.1, hE3.keep hS.2.2⟩ (fun hS1 => ?_)
      clear hK hS
      have hS := hS1
      clear hS1
      try clear K
      try simp only [put_some, List.set]
      have u0 := hrr.cell (i := 0) rfl
      have u1 := hrr.cell (i := 1) rfl
      have h0 := hrr.frozen 0
      have h1 := hrr.frozen 1
      have gs1 := gb_store w3 (w.heap.size + 1) 0 (.slice x1 b.things.length y1)
      have gs2 := gb_store (w3.setCell ⟨w.heap.size + 1, 0, none⟩ (.slice x1 b.things.length y1)) (w.heap.size + 1) 1 (.slice x2 rs.length y2)
      have hk3 := (hkk.kept gs1 (fun e => by have := Option.some.inj e; omega)).kept gs2 (fun e => by have := Option.some.inj e; omega)
      have hb3 := (hbb.kept gs1 (fun e => by have := Option.some.inj e; omega)).kept gs2 (fun e => by have := Option.some.inj e; omega)
      have HRR := hid hrr
      clear hE3 hO3 t0 t1 g0 g1 k0 b0' b1' hrr hkk hbb
      refine wpT_one 3 rfl (by kernel_rfl) rfl rfl (fun K hK => ?_)
      go_simp
      refine hK.out _ _ ⟨hk3.cell rfl, hb3.cell rfl, hb3.cell rfl⟩ (fun hS1 => ?_)
      clear hK hS
      have hS := hS1
      clear hS1
      try clear K
      try simp only [put_some, List.set]
      clear gs1 gs2 hk3 hb3
      refine wpT_last rfl (by kernel_rfl) (by kernel_rfl) rfl (fun K hK => ?_)
      go_simp
      refine hK.out _ _ ?_
      clear hK hS
      go_wp2_with fail
      refine bodyPost_ret (v := .tuple #[.agg #[.slice x1 b.things.length y1, .slice x2 rs.length y2], .int .i64 (c : Int)]) (by simp [results, Tryz.results30, go_sem, u0, u1]) rfl ⟨_, _, rs, rfl, ?_, ?_⟩
      · exact (HE3.out.setCell (by simp) _).setCell (by simp) _
      · rw [HBe.out]
        exact (HO3.out.stored HRR.out rfl rfl _ _).stored (HRR.out.set _ _) rfl rfl _ _
end Go.Proofs.YtdafpnpfcmgfcabGreatDoor
