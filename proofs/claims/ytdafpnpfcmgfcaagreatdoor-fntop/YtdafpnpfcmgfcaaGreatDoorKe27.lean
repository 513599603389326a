/- The reader of a code: pick. The reader made; names drawn. Entering, asking, needing less, leaving: as the specification says them. What the specification's functions of chapter 3 share; the walk over ShareEnter. -/
import Derived.Test.YtdafpnpfcmgfcaaGreatDoorKe26
import Derived.Test.YtdafpnpfcmgfcaaGreatDoorKe25
namespace Go.Proofs.YtdafpnpfcmgfcaaGreatDoor
section
open Go.RowKit
attribute [local go_sem] S_toList S_size S_get
def BytesAt (w : World) (a : Option Addr) (n : Nat) : Prop :=
 ∀ i, i < n → ∃ b o, a = some ⟨b, o, none⟩ ∧ ∃ x : Nat, x ≤ 255 ∧ w.cell? ⟨b, o + i, none⟩ = some (.int .u8 (x : Int))
def Rd (w : World) (R q : Nat) : Prop :=
 ∃ a n c p, Rec w R 103 [.slice a n c, .int .i64 ((p : Nat) : Int)] ∧ p ≤ q ∧ n ≤ 2000 ∧ BytesAt w a n ∧ (0 < n → ∀ b o, a = some ⟨b, o, none⟩ → b < R)
theorem Rd.lt {w : World} {R q : Nat} (h : Rd w R q) : R < w.heap.size := by
 obtain ⟨_, _, _, _, h1, _⟩ := h
 exact h1.lt
theorem BytesAt.gb {w w' : World} {a : Option Addr} {n : Nat} (h : BytesAt w a n) {row : Option Nat} (g : w.grownBy w' row) (hne : ∀ b o, a = some ⟨b, o, none⟩ → 0 < n → some b ≠ row) : BytesAt w' a n := by
 intro i hi
 obtain ⟨b, o, e, x, hx, hc⟩ := h i hi
 exact ⟨b, o, e, x, hx, g.cell hc (hne b o e (by omega))⟩
theorem Rd.gb {w w' : World} {R q : Nat} (h : Rd w R q) {row : Option Nat} (g : w.grownBy w' row) (hne : ∀ k, row = some k → R < k) : Rd w' R q := by
 obtain ⟨a, n, c, p, h1, h2, h3, h4, h5⟩ := h
 exact ⟨a, n, c, p, h1.kept g (fun e => by have := hne R e.symm; omega), h2, h3, h4.gb g (fun b o e hn er => by have := hne b er.symm; have := h5 hn b o e; omega), h5⟩
theorem Rd.ext {w w' : World} {R q : Nat} (h : Rd w R q) (e : Ext w w') : Rd w' R q := h.gb (gb_none e) (fun k hk => by cases hk)
theorem Rd.mono {w : World} {R q q' : Nat} (h : Rd w R q) (hq : q ≤ q') : Rd w R q' := by
 obtain ⟨a, n, c, p, h1, h2, r⟩ := h
 exact ⟨a, n, c, p, h1, Nat.le_trans h2 hq, r⟩
theorem xorS (t : Nat) (h : t ≤ 200000000) : ∃ y : Nat, bits .xor .i64 (t : Int) ((t : Int) / 64) = (y : Int) := by
 have hx : t ^^^ (t / 64) < 2 ^ 40 := Nat.xor_lt_two_pow (by omega) (by omega)
 refine ⟨t ^^^ (t / 64), ?_⟩
 have d : ((t : Int) / 64) = ((t / 64 : Nat) : Int) := by omega
 rw [d]
 have h1 : (BitVec.ofInt 64 (t : Int)).toNat = t := by
  rw [BitVec.ofInt_natCast, BitVec.toNat_ofNat]; exact Nat.mod_eq_of_lt (by omega)
 have h2 : (BitVec.ofInt 64 ((t / 64 : Nat) : Int)).toNat = t / 64 := by
  rw [BitVec.ofInt_natCast, BitVec.toNat_ofNat]; exact Nat.mod_eq_of_lt (by omega)
 show IntKind.i64.wrap ((BitVec.ofInt 64 (t : Int) ^^^ BitVec.ofInt 64 ((t / 64 : Nat) : Int)).toNat : Int) = _
 rw [BitVec.toNat_xor, h1, h2]
 exact wrapS (by omega) (by omega)
set_option maxRecDepth 100000 in
set_option maxHeartbeats 1000000 in
theorem pick_any (R q m : Nat) (w : World) (h : Rd w R q) (hq : q ≤ 1000000) (hm : 1 ≤ m) (hm2 : m ≤ 1000000000) :
  Calls Qry.prog 40 #[.pointer (some ⟨R, 0, none⟩), .int .i64 (m : Int)] w fun e w' =>
   ∃ j : Nat, e = .returned (.int .i64 (j : Int)) ∧ j < m ∧ w.grownBy w' (some R) ∧ Rd w' R (q + 1) := by
 obtain ⟨a, n, c, p, h1, h2, h3, h4, h5⟩ := h
 have c0 := h1.cell (i := 0) rfl
 have c1 := h1.cell (i := 1) rfl
 have f1 := h1.frozen 1
 have HG : Hid (w.grownBy (w.setCell ⟨R, 1, none⟩ (.int .i64 ((p : Int) + 1))) (some R)) := gb_store w R 1 _
 have HRec := hid (h1.set 1 (.int .i64 ((p : Int) + 1)))
 have HRd : Hid (Rd (w.setCell ⟨R, 1, none⟩ (.int .i64 ((p : Int) + 1))) R (q + 1)) :=
  ⟨a, n, c, p + 1, by have := HRec.out; simpa using this, by omega, h3, h4.gb (gb_store w R 1 _) (fun b o e hn er => by have := h5 hn b o e; simp at er; omega), h5⟩
 have hb4 : BytesAt (w.setCell ⟨R, 1, none⟩ (.int .i64 ((p : Int) + 1))) a n := h4.gb (gb_store w R 1 _) (fun b o e hn er => by have := h5 hn b o e; simp at er; omega)
 have c0' := HRec.out.cell (i := 0) rfl
 have c1' := HRec.out.cell (i := 1) rfl
 have hm0 : ¬ ((m : Int) < 1) := by omega
 go_enter Qry.func40, Tryz.ntmps40
 by_cases hn : n = 0
 ·subst hn
  go_wp2
  go_ret
  exact ⟨0, rfl, by omega, HG.out, HRd.out⟩
 ·have hn0 : ((n : Int) == 0) = false := by simp; omega
  by_cases hp : p < n
  ·obtain ⟨bb, oo, rfl, x, hx, hc⟩ := hb4 p hp
   go_wp2
   have e : (x : Int) % (m : Int) = ((x % m : Nat) : Int) := by omega
   rw [e]
   go_ret
   exact ⟨x % m, rfl, Nat.mod_lt _ (by omega), HG.out, HRd.out⟩
  ·obtain ⟨i1, hi1⟩ : ∃ i, i = p % n := ⟨_, rfl⟩
   obtain ⟨i2, hi2⟩ : ∃ i, i = (p * 7 + 3) % n := ⟨_, rfl⟩
   obtain ⟨dq, hdq⟩ : ∃ i, i = p / n := ⟨_, rfl⟩
   have hl1 : i1 < n := by rw [hi1]; exact Nat.mod_lt _ (by omega)
   have hl2 : i2 < n := by rw [hi2]; exact Nat.mod_lt _ (by omega)
   have hl3 : dq ≤ p := by rw [hdq]; exact Nat.div_le_self _ _
   have ht1 : ((p : Int)).tmod (n : Int) = (i1 : Int) := by rw [hi1, Int.tmod_eq_emod_of_nonneg (by omega)]; simp
   have ht2 : ((p : Int) * 7 + 3).tmod (n : Int) = (i2 : Int) := by rw [hi2, Int.tmod_eq_emod_of_nonneg (by omega)]; simp
   have ht3 : ((p : Int)).tdiv (n : Int) = (dq : Int) := by rw [hdq, Int.tdiv_eq_ediv_of_nonneg (by omega)]; simp
   have b1 : (i1 : Int) < (n : Int) := by omega
   have b2 : (i2 : Int) < (n : Int) := by omega
   obtain ⟨bb, oo, rfl, x, hx, hc⟩ := hb4 i1 hl1
   obtain ⟨bb', oo', e', x', hx', hc'⟩ := hb4 i2 hl2
   cases e'
   go_wp2_with fail
   generalize hwx : w.setCell ⟨R, 1, none⟩ (.int .i64 ((p : Int) + 1)) = wx at *
   clear hi1 hi2 hdq h4 hb4 h5 HRec h1
   refine wp_region_T (fun w' => w'.cell? ⟨R, 0, none⟩ = some (.slice (some ⟨bb, oo, none⟩) n c) ∧ w'.cell? ⟨bb, oo + i1, none⟩ = some (.int .u8 x) ∧ w'.cell? ⟨bb, oo + i2, none⟩ = some (.int .u8 x')) 45 (by kernel_rfl) ⟨c0', hc, hc'⟩ (fun hS => ?_)
   refine tk 0 hS ?_
   try simp only [List.set]
   refine tk 1 hS ?_
   try simp only [List.set]
   refine tk 2 hS ?_
   try simp only [List.set]
   refine tk 3 hS ?_
   try simp only [List.set]
   refine tk 4 hS ?_
   try simp only [List.set]
   refine tk 5 hS ?_
   try simp only [List.set]
   refine tk 6 hS ?_
   try simp only [List.set]
   refine tk 7 hS ?_
   try simp only [List.set]
   refine tk 8 hS ?_
   try simp only [List.set]
   refine tk 9 hS ?_
   try simp only [List.set]
   refine wpT_take 10 (v := .int .i64 (i1 : Int)) rfl rfl (by kernel_rfl) (by kernel_rfl) (by kernel_rfl) (by kernel_rfl) (fun _ _ _ h => h) hS rfl (by intro w0 hw0; (try dsimp only at hw0); go_simp) ?_
   try simp only [List.set]
   refine tk 11 hS ?_
   try simp only [List.set]
   refine tk 12 hS ?_
   try simp only [List.set]
   refine tk 13 hS ?_
   try simp only [List.set]
   refine wpT_take 14 (v := .int .i64 ((x : Int) * 131)) rfl rfl (by kernel_rfl) (by kernel_rfl) (by kernel_rfl) (by kernel_rfl) (fun _ _ _ h => h) hS rfl (by intro w0 hw0; (try dsimp only at hw0); go_simp; rw [wrapS (z := (x : Int)) (by omega) (by omega)]; exact wrapS (by omega) (by omega)) ?_
   try simp only [List.set]
   refine tk 15 hS ?_
   try simp only [List.set]
   refine tk 16 hS ?_
   try simp only [List.set]
   refine tk 17 hS ?_
   try simp only [List.set]
   refine tk 18 hS ?_
   try simp only [List.set]
   refine tk 19 hS ?_
   try simp only [List.set]
   refine wpT_take 20 (v := .int .i64 ((p : Int) * 7)) rfl rfl (by kernel_rfl) (by kernel_rfl) (by kernel_rfl) (by kernel_rfl) (fun _ _ _ h => h) hS rfl (by intro w0 hw0; (try dsimp only at hw0); go_simp; exact wrapS (by omega) (by omega)) ?_
   try simp only [List.set]
   refine wpT_take 21 (v := .int .i64 ((p : Int) * 7 + 3)) rfl rfl (by kernel_rfl) (by kernel_rfl) (by kernel_rfl) (by kernel_rfl) (fun _ _ _ h => h) hS rfl (by intro w0 hw0; (try dsimp only at hw0); go_simp; exact wrapS (by omega) (by omega)) ?_
   try simp only [List.set]
   refine tk 22 hS ?_
   try simp only [List.set]
   refine tk 23 hS ?_
   try simp only [List.set]
   refine tk 24 hS ?_
   try simp only [List.set]
   refine tk 25 hS ?_
   try simp only [List.set]
   refine tk 26 hS ?_
   try simp only [List.set]
   refine wpT_take 27 (v := .int .i64 (i2 : Int)) rfl rfl (by kernel_rfl) (by kernel_rfl) (by kernel_rfl) (by kernel_rfl) (fun _ _ _ h => h) hS rfl (by intro w0 hw0; (try dsimp only at hw0); go_simp) ?_
   try simp only [List.set]
   refine tk 28 hS ?_
   try simp only [List.set]
   refine tk 29 hS ?_
   try simp only [List.set]
   refine tk 30 hS ?_
   try simp only [List.set]
   refine wpT_take 31 (v := .int .i64 ((x' : Int) * 1117)) rfl rfl (by kernel_rfl) (by kernel_rfl) (by kernel_rfl) (by kernel_rfl) (fun _ _ _ h => h) hS rfl (by intro w0 hw0; (try dsimp only at hw0); go_simp; rw [wrapS (z := (x' : Int)) (by omega) (by omega)]; exact wrapS (by omega) (by omega)) ?_
   try simp only [List.set]
   refine wpT_take 32 (v := .int .i64 ((x : Int) * 131 + (x' : Int) * 1117)) rfl rfl (by kernel_rfl) (by kernel_rfl) (by kernel_rfl) (by kernel_rfl) (fun _ _ _ h => h) hS rfl (by intro w0 hw0; (try dsimp only at hw0); go_simp; exact wrapS (by omega) (by omega)) ?_
   try simp only [List.set]
   refine tk 33 hS ?_
   try simp only [List.set]
   refine wpT_take 34 (v := .int .i64 ((p : Int) * 29)) rfl rfl (by kernel_rfl) (by kernel_rfl) (by kernel_rfl) (by kernel_rfl) (fun _ _ _ h => h) hS rfl (by intro w0 hw0; (try dsimp only at hw0); go_simp; exact wrapS (by omega) (by omega)) ?_
   try simp only [List.set]
   refine wpT_take 35 (v := .int .i64 ((x : Int) * 131 + (x' : Int) * 1117 + (p : Int) * 29)) rfl rfl (by kernel_rfl) (by kernel_rfl) (by kernel_rfl) (by kernel_rfl) (fun _ _ _ h => h) hS rfl (by intro w0 hw0; (try dsimp only at hw0); go_simp; exact wrapS (by omega) (by omega)) ?_
   try simp only [List.set]
   refine tk 36 hS ?_
   try simp only [List.set]
   refine tk 37 hS ?_
   try simp only [List.set]
   refine tk 38 hS ?_
   try simp only [List.set]
   refine tk 39 hS ?_
   try simp only [List.set]
   refine tk 40 hS ?_
   try simp only [List.set]
   refine tk 41 hS ?_
   try simp only [List.set]
   refine wpT_take 42 (v := .int .i64 (dq : Int)) rfl rfl (by kernel_rfl) (by kernel_rfl) (by kernel_rfl) (by kernel_rfl) (fun _ _ _ h => h) hS rfl (by intro w0 hw0; (try dsimp only at hw0); go_simp; exact wrapS (by omega) (by omega)) ?_
   try simp only [List.set]
   refine wpT_take 43 (v := .int .i64 ((dq : Int) * 53)) rfl rfl (by kernel_rfl) (by kernel_rfl) (by kernel_rfl) (by kernel_rfl) (fun _ _ _ h => h) hS rfl (by intro w0 hw0; (try dsimp only at hw0); go_simp; exact wrapS (by omega) (by omega)) ?_
   try simp only [List.set]
   refine wpT_take 44 (v := .int .i64 ((x : Int) * 131 + (x' : Int) * 1117 + (p : Int) * 29 + (dq : Int) * 53)) rfl rfl (by kernel_rfl) (by kernel_rfl) (by kernel_rfl) (by kernel_rfl) (fun _ _ _ h => h) hS rfl (by intro w0 hw0; (try dsimp only at hw0); go_simp; exact wrapS (by omega) (by omega)) ?_
   try simp only [List.set]
   refine wpT_last rfl (by kernel_rfl) (by kernel_rfl) rfl (fun K hK => ?_)
   go_simp
   refine hK.out _ _ ?_
   clear hK hS
   obtain ⟨t, ht⟩ : ∃ t : Nat, t = x * 131 + x' * 1117 + p * 29 + dq * 53 := ⟨_, rfl⟩
   have htt : (x : Int) * 131 + (x' : Int) * 1117 + (p : Int) * 29 + (dq : Int) * 53 = (t : Int) := by omega
   rw [htt]
   have htl : t ≤ 200000000 := by omega
   clear htt ht ht1 ht2 ht3
   obtain ⟨y, hy⟩ := xorS t htl
   have hym : (y : Int) % (m : Int) = ((y % m : Nat) : Int) := by omega
   go_wp2
   rw [hym]
   go_ret
   exact ⟨y % m, rfl, Nat.mod_lt _ (by omega), gb_tr' HG.out, HRd.out.ext (ext_drewN _ 1)⟩
set_option maxHeartbeats 400000 in
theorem of_any (R q : Nat) (a : Option Addr) (c : Nat) (ss : List Str) (w : World) (h : Rd w R q) (hq : q ≤ 1000000) (hs : StrsAt w a ss) (h0 : 0 < ss.length) (hl : ss.length ≤ 1000000) (ho : ∀ b o, a = some ⟨b, o, none⟩ → b ≠ R) :
  Calls Qry.prog 69 #[.pointer (some ⟨R, 0, none⟩), .slice a ss.length c] w fun e w' =>
   ∃ j, j < ss.length ∧ e = .returned (.string (S (nth ss j))) ∧ w.grownBy w' (some R) ∧ Rd w' R (q + 1) := by
 go_enter Qry.func69, Tryz.ntmps69
 go_wp2_with fail
 refine (pick_any R q ss.length w h hq h0 (by omega)).mono ?_
 rintro e w1 ⟨j, rfl, hj, hg, hr⟩
 obtain ⟨_, bb, oo, rfl, hc⟩ := hs.2 j hj
 have hc' := hg.cell hc (fun e => ho bb oo rfl (by simpa using e))
 have HG := hid hg
 have HR := hid hr
 clear hg hr
 go_wp2
 go_ret
 exact ⟨j, hj, rfl, HG.out, HR.out⟩
end
section
open Go.RowKit
attribute [local go_sem] S_toList S_size S_get
set_option maxHeartbeats 400000 in
theorem l1Open_any (a : Option Addr) (n c : Nat) (w : World) (h : BytesAt w a n) (hn : n ≤ c) (hc : c ≤ 140737488355328) :
  Calls Qry.prog 38 #[.slice a n c] w fun e w' => e = .returned (.pointer (some ⟨w.heap.size, 0, none⟩)) ∧ Ext w w' ∧ Rd w' w.heap.size 0 := by
 have key : ∀ n' c', n' ≤ n → n' ≤ 2000 → Ext w (w.alloc (.cells #[.slice a n' c', .int .i64 0] 103)) ∧ Rd (w.alloc (.cells #[.slice a n' c', .int .i64 0] 103)) w.heap.size 0 := fun n' c' h1 h2 =>
  ⟨ext_alloc _ _, a, n', c', 0, Rec.new w _ _, Nat.le_refl _, h2, fun i hi => by
   obtain ⟨b, o, e, x, hx, hcc⟩ := h i (by omega)
   exact ⟨b, o, e, x, hx, (ext_alloc _ _).keep hcc⟩, fun hp b o e => by
   obtain ⟨b', o', e', x, hx, hcc⟩ := h 0 (by omega)
   rw [e] at e'; cases e'
   exact cell_lt hcc⟩
 have HK := hid key
 clear key
 go_enter Qry.func38, Tryz.ntmps38
 by_cases hb : 2000 < n
 ·have hb' : ¬ ((n : Int) ≤ 2000) := by omega
  have hc2 : (2000 : Int) ≤ (c : Int) := by omega
  cases a with
  | none =>
   obtain ⟨b, o, e, _⟩ := h 0 (by omega)
   cases e
  | some ad =>
   go_wp2
   go_ret
   exact ⟨rfl, HK.out 2000 c (by omega) (by omega)⟩
 ·go_wp2
  go_ret
  exact ⟨rfl, HK.out n c (Nat.le_refl _) (by omega)⟩
def five : List Str := [[97, 108, 101], [98], [99, 45, 99], [100, 97, 114, 107], [120, 57]]
theorem five_short : ShortS five := ⟨by simp [five], fun i hi => by
 match i, hi with
 | 0, _ => simp [five, nth]
 | 1, _ => simp [five, nth]
 | 2, _ => simp [five, nth]
 | 3, _ => simp [five, nth]
 | 4, _ => simp [five, nth]⟩
theorem rec_strs {w : World} {X : Nat} {ss : List Str} (h : Rec w X 9 (ss.map fun s => .string (S s))) (hs : ShortS ss) : StrsAt w (some ⟨X, 0, none⟩) ss :=
 ⟨hs.1, fun i hi => ⟨hs.2 i hi, X, 0, rfl, by rw [Nat.zero_add]; exact h.cell (by rw [List.getElem?_map, List.getElem?_eq_getElem hi, nth_get hi]; rfl)⟩⟩
set_option maxHeartbeats 400000 in
theorem l5Names_any (w : World) : Calls Qry.prog 77 #[] w fun e w' => e = .returned (.slice (some ⟨w.heap.size, 0, none⟩) 5 5) ∧ Ext w w' ∧ StrsAt w' (some ⟨w.heap.size, 0, none⟩) five := by
 go_enter Qry.func77, Tryz.ntmps77
 go_wp2
 go_ret
 exact ⟨rfl, ext_alloc _ _, rec_strs (Rec.new w _ _) five_short⟩
theorem one_str (w : World) (x : Str) (h : x.length ≤ 140737488355328) : StrsAt (w.alloc (.cells #[.string (S x)] 9)) (some ⟨w.heap.size, 0, none⟩) [x] :=
 rec_strs (Rec.new w _ _) ⟨by simp, fun i hi => by
  match i, hi with
  | 0, _ => simpa [nth] using h⟩
set_option maxRecDepth 100000 in
set_option maxHeartbeats 1000000 in
theorem l5Some_any (R q m : Nat) (a : Option Addr) (c : Nat) (ss : List Str) (w : World) (h : Rd w R q) (hq : q + ss.length ≤ 1000000) (hm : 1 ≤ m) (hm2 : m ≤ 1000) (hs : StrsAt w a ss) (ho : 0 < ss.length → ∀ b o, a = some ⟨b, o, none⟩ → b ≠ R) :
  Calls Qry.prog 68 #[.pointer (some ⟨R, 0, none⟩), .slice a ss.length c, .int .i64 (m : Int)] w fun e w' =>
   ∃ v L, e = .returned v ∧ w.grownBy w' (some R) ∧ Rd w' R (q + ss.length) ∧ OwnL w' w.heap.size v L ∧ L.Sublist ss := by
 have hlt0 := h.lt
 have HO := hid (OwnL.made w w.heap.size (Nat.le_refl _))
 have HRd := hid (h.ext (ext_alloc w (.cells #[] 9)))
 have hn := hs.1
 go_enter Qry.func68, Tryz.ntmps68
 go_wp2_with fail
 go_loopw [7, 8] (fun v i wr => ∃ (k : Nat) (L : List Str), k ≤ ss.length ∧ i = .int .i64 k ∧ w.grownBy wr (some R) ∧ Rd wr R (q + k) ∧ OwnL wr w.heap.size v L ∧ L.Sublist (ss.take k)) (fun _ i _ => ss.length - (intOf i).toNat)
 case atStart => exact ⟨0, [], Nat.zero_le _, rfl, gb_ext (ext_alloc _ _) _, HRd.out, HO.out, by simp⟩
 case round =>
  obtain ⟨k, L, hk, rfl, hg, hrd, hown, hsub⟩ := hrel
  have hs' := hs.gb hg (fun hp b o e => by have := ho hp b o e; simp; omega)
  have hll : L.length ≤ k := Nat.le_trans hsub.length_le (by simp; omega)
  obtain ⟨av, cv, rfl⟩ := own_sl hown
  have HG := hid hg
  have HOW := hid hown
  have HRD := hid hrd
  have HSUB := hid hsub
  clear hg hown hrd hsub
  by_cases hlt : k < ss.length
  ·obtain ⟨hl, ba, oa, rfl, hc⟩ := hs'.2 k hlt
   go_wp2_with fail
   refine (pick_any R (q + k) m wr HRD.out (by omega) hm (by omega)).mono ?_
   rintro e w1 ⟨j, rfl, hj, hg1, hr1⟩
   have hc1 := hg1.cell hc (fun e => ho (by omega) ba oa rfl (by simpa using e))
   have HG1 := hid (gb_tr HG.out hg1)
   have HR1 := hid hr1
   have HOW1 : Hid (OwnL w1 w.heap.size (.slice av L.length cv) L) := HOW.out.keep hg1 (fun b c e hb => by
    simp at e; subst e
    obtain ⟨_, _, _, _, h1, _⟩ := HRD.out
    rw [show wr.heap[R]? = _ from h1] at hb
    simp at hb)
   clear hg1 hr1 hs' hc
   by_cases hj0 : j = 0
   ·subst hj0
    have HSTR := hid (one_str w1 (nth ss k) hl)
    have hz1 := HG1.out.size
    go_wp2_with (at_builtin; refine wpList_strs rfl _ _ rfl rfl (HOW1.out.ext (ext_alloc _ _)) (M := [nth ss k]) rfl HSTR.out ?q1 ?q2 ?_)
    case q1 => simp; omega
    case q2 => simp; omega
    ·intro v' w2 hown hgrow hat
     have hob : ∀ g, (Value.slice av L.length cv).ownBlock = some g → w.heap.size ≤ g := fun g hg => (HOW.out.lt g hg).1
     have HG2 : Hid (w.grownBy w2 (some R)) := ⟨hgrow.os.trans HG1.out.os, hgrow.tape.trans HG1.out.tape, hgrow.output.trans HG1.out.output, Nat.le_trans hz1 (Nat.le_trans (by simp) hgrow.size), fun b hb hne => by
      rw [hgrow.block b (by simp; omega) (fun e => by have := hob b e.symm; omega), (ext_alloc w1 _).block b (by omega)]
      exact HG1.out.block b hb hne⟩
     have HR2 : Hid (Rd w2 R (q + k + 1)) := (HR1.out.ext (ext_alloc _ _)).gb hgrow (fun g hg => by have := hob g hg; omega)
     have HN := hid hown
     clear hown hgrow hat
     go_wp2
     go_roundw
     case rel => exact ⟨k + 1, L ++ [nth ss k], by omega, by go_num, HG2.out, HR2.out, HN.out, by
      rw [List.take_succ_eq_append_getElem hlt, nth_get hlt]
      exact List.Sublist.append HSUB.out (List.Sublist.refl _)⟩
     case measure => simp [intOf]; omega
   ·have hj1 : ((j : Int) == 0) = false := by simp; omega
    go_wp2
    go_roundw
    case rel => exact ⟨k + 1, L, by omega, by go_num, HG1.out, HR1.out, HOW1.out, by
     rw [List.take_succ_eq_append_getElem hlt]
     exact HSUB.out.trans (List.sublist_append_left _ _)⟩
    case measure => simp [intOf]; omega
  ·have e : k = ss.length := by omega
   subst e
   go_wp2
   go_ret
   exact ⟨_, L, rfl, HG.out, HRD.out, HOW.out, by have := HSUB.out; rwa [List.take_length] at this⟩
end
section
def leadP {α : Type} (p : α → Bool) (l : List α) : Nat := (l.takeWhile p).length
theorem lead_of {α : Type} {p : α → Bool} : ∀ {l : List α} {k : Nat}, (∀ (j : Nat) x, j < k → l[j]? = some x → p x = true) → k ≤ l.length → (∀ x, l[k]? = some x → p x = false) → leadP p l = k
 | [], k, _, hk, _ => by simp at hk; subst hk; rfl
 | y :: l, 0, _, _, h => by
  have := h y rfl
  simp [leadP, this]
 | y :: l, k + 1, h1, hk, h2 => by
  have hy := h1 0 y (by omega) rfl
  have := lead_of (p := p) (l := l) (k := k) (fun j x hj hx => h1 (j + 1) x (by omega) (by simpa using hx)) (by simpa using hk) (fun x hx => h2 x (by simpa using hx))
  unfold leadP at *
  rw [List.takeWhile_cons]
  simp [hy, this]
def leadB (bs : List Batch) (n : Str) : Nat := leadP (fun y => Op.bytesLess y.name n) bs
def insB (bs : List Batch) (x : Batch) : List Batch := bs.take (leadB bs x.name) ++ [x] ++ bs.drop (leadB bs x.name)
def leadS (l : List Str) (n : Str) : Nat := leadP (fun y => Op.bytesLess y n) l
def insS (l : List Str) (n : Str) : List Str :=
 if leadS l n < l.length && nth l (leadS l n) == n then l else l.take (leadS l n) ++ [n] ++ l.drop (leadS l n)
theorem leadB_of {bs : List Batch} {n : Str} {k : Nat} (h1 : ∀ j, j < k → Op.bytesLess (nthB bs j).name n = true) (hk : k ≤ bs.length) (h2 : k < bs.length → Op.bytesLess (nthB bs k).name n = false) : leadB bs n = k := by
 refine lead_of (fun j x hj hx => ?_) hk (fun x hx => ?_)
 ·have := h1 j hj
  rw [nthB_get (by omega)] at this
  rw [List.getElem?_eq_getElem (by omega)] at hx
  cases hx; exact this
 ·have hlt : k < bs.length := by
   rcases Nat.lt_or_ge k bs.length with h | h
   ·exact h
   ·simp [List.getElem?_eq_none h] at hx
  have := h2 hlt
  rw [nthB_get hlt] at this
  rw [List.getElem?_eq_getElem hlt] at hx
  cases hx; exact this
theorem leadS_of {l : List Str} {n : Str} {k : Nat} (h1 : ∀ j, j < k → Op.bytesLess (nth l j) n = true) (hk : k ≤ l.length) (h2 : k < l.length → Op.bytesLess (nth l k) n = false) : leadS l n = k := by
 refine lead_of (fun j x hj hx => ?_) hk (fun x hx => ?_)
 ·have := h1 j hj
  rw [nth_get (by omega)] at this
  rw [List.getElem?_eq_getElem (by omega)] at hx
  cases hx; exact this
 ·have hlt : k < l.length := by
   rcases Nat.lt_or_ge k l.length with h | h
   ·exact h
   ·simp [List.getElem?_eq_none h] at hx
  have := h2 hlt
  rw [nth_get hlt] at this
  rw [List.getElem?_eq_getElem hlt] at hx
  cases hx; exact this
def emptyBook : Book := ⟨[], []⟩
def hereB (b : Book) (n : Str) : Bool := hasB (namesOf b.batches) n
def whereB (b : Book) (n : Str) : Nat := place (namesOf b.batches) n
def enterB (b : Book) (n : Str) (needs : List Str) : Book × Nat :=
 if bookOk b = false then (emptyBook, 1) else if nameOk n = false ∨ namesOk needs b.things = false then (b, 2)
 else if hereB b n = true then (b, 3) else if 5 ≤ b.batches.length then (b, 4)
 else (⟨b.things, insB b.batches ⟨n, [], needs⟩⟩, 0)
def takenB (b : Book) (k : Nat) (things : List Str) : Bool := anyLt b.batches.length (fun i => !(i == k) && shareB (b.at i).has things)
def giveB (b : Book) (k : Nat) (things : List Str) : Book := ⟨b.things, b.batches.set k ⟨(b.at k).name, things.foldl insS (b.at k).has, (b.at k).needs⟩⟩
def askB (b : Book) (n : Str) (things : List Str) : Book × Nat :=
 if bookOk b = false then (emptyBook, 1) else if hereB b n = false then (b, 3)
 else if namesOk things (b.at (whereB b n)).needs = false then (b, 2)
 else if takenB b (whereB b n) things = true then (b, 5)
 else if safeB b = true ∧ safeB (giveB b (whereB b n) things) = false then (b, 6)
 else (giveB b (whereB b n) things, 0)
def fewerB (b : Book) (k : Nat) (needs : List Str) : Book := ⟨b.things, b.batches.set k ⟨(b.at k).name, (b.at k).has.filter (hasB needs), needs⟩⟩
def lessB (b : Book) (n : Str) (needs : List Str) : Book × Nat :=
 if bookOk b = false then (emptyBook, 1) else if hereB b n = false then (b, 3)
 else if namesOk needs (b.at (whereB b n)).needs = false then (b, 2)
 else (fewerB b (whereB b n) needs, 0)
def leaveB (b : Book) (n : Str) : Book × Nat :=
 if bookOk b = false then (emptyBook, 1) else if hereB b n = false then (b, 3)
 else (⟨b.things, b.batches.take (whereB b n) ++ b.batches.drop (whereB b n + 1)⟩, 0)
end
section
open Go.RowKit
attribute [local go_sem] S_toList S_size S_get
def ShortBs (bs : List Batch) : Prop := bs.length ≤ 2199023255552
theorem own_book_at {w : World} {base : Nat} {b : Book} {x1 x2 : Option Addr} {y1 y2 : Nat} (h1 : OwnL w base (.slice x1 b.things.length y1) b.things) (hs : ShortS b.things) (h2 : OwnBs w base (.slice x2 b.batches.length y2) b.batches) (hn : b.batches.length ≤ 2199023255552) : BookAt w x1 x2 b := by
 obtain ⟨a1, c1, e1, k1⟩ := h1.at' hs
 obtain ⟨a2, c2, e2, k2⟩ := h2.at hn
 simp only [Value.slice.injEq] at e1 e2
 obtain ⟨rfl, _⟩ := e1
 obtain ⟨rfl, _⟩ := e2
 exact ⟨k1, k2⟩
def BookRes (w : World) (r : Book × Nat) (e : Ending) (w' : World) : Prop :=
 ∃ a1 c1 a2 c2, e = .returned (.tuple #[.agg #[.slice a1 r.1.things.length c1, .slice a2 r.1.batches.length c2], .int .i64 ((r.2 : Nat) : Int)]) ∧ Ext w w' ∧ BookAt w' a1 a2 r.1
def BookOwn (w : World) (r : Book × Nat) (e : Ending) (w' : World) : Prop :=
 ∃ a1 c1 a2 c2, e = .returned (.tuple #[.agg #[.slice a1 r.1.things.length c1, .slice a2 r.1.batches.length c2], .int .i64 ((r.2 : Nat) : Int)]) ∧ Ext w w' ∧ BookAt w' a1 a2 r.1 ∧ OwnL w' w.heap.size (.slice a1 r.1.things.length c1) r.1.things ∧ OwnBs w' w.heap.size (.slice a2 r.1.batches.length c2) r.1.batches
theorem BookOwn.res {w : World} {r : Book × Nat} {e : Ending} {w' : World} (h : BookOwn w r e w') : BookRes w r e w' := by
 obtain ⟨a1, c1, a2, c2, h1, h2, h3, _⟩ := h
 exact ⟨a1, c1, a2, c2, h1, h2, h3⟩
structure EnS (w wc : World) (b : Book) (a1 a2 : Option Addr) (c1 c2 : Nat) (x1 x2 : Option Addr) (y1 y2 X : Nat) : Prop where
 ext : Ext w wc
 rb : Rec wc w.heap.size 26 [.slice a1 b.things.length c1, .slice a2 b.batches.length c2]
 rr : Rec wc (w.heap.size + 1) 26 [.slice none 0 0, .slice none 0 0]
 rx : Rec wc X 26 [.slice x1 b.things.length y1, .slice x2 b.batches.length y2]
 o1 : OwnL wc w.heap.size (.slice x1 b.things.length y1) b.things
 o2 : OwnBs wc w.heap.size (.slice x2 b.batches.length y2) b.batches
 hx : w.heap.size + 2 ≤ X
theorem EnS.next {w wc wd : World} {b : Book} {a1 a2 : Option Addr} {c1 c2 : Nat} {x1 x2 : Option Addr} {y1 y2 X : Nat} (h : EnS w wc b a1 a2 c1 c2 x1 x2 y1 y2 X) (e : Ext wc wd) : EnS w wd b a1 a2 c1 c2 x1 x2 y1 y2 X :=
 ⟨Ext.tr h.ext e, h.rb.ext e, h.rr.ext e, h.rx.ext e, h.o1.ext e, h.o2.ext e, h.hx⟩
theorem stored_book {w wc : World} {RB : Nat} {l : List Value} {b : Book} {x1 x2 : Option Addr} {y1 y2 : Nat} (hE : Ext w wc) (hR : Rec wc RB 26 l) (hRB : w.heap.size ≤ RB)
  (h1 : OwnL wc w.heap.size (.slice x1 b.things.length y1) b.things) (hs : ShortS b.things) (h2 : OwnBs wc w.heap.size (.slice x2 b.batches.length y2) b.batches) (hn : b.batches.length ≤ 2199023255552) (u v : Value) :
  Ext w ((wc.setCell ⟨RB, 0, none⟩ u).setCell ⟨RB, 1, none⟩ v) ∧ BookAt ((wc.setCell ⟨RB, 0, none⟩ u).setCell ⟨RB, 1, none⟩ v) x1 x2 b ∧ OwnL ((wc.setCell ⟨RB, 0, none⟩ u).setCell ⟨RB, 1, none⟩ v) w.heap.size (.slice x1 b.things.length y1) b.things ∧ OwnBs ((wc.setCell ⟨RB, 0, none⟩ u).setCell ⟨RB, 1, none⟩ v) w.heap.size (.slice x2 b.batches.length y2) b.batches :=
 ⟨(hE.setCell hRB _).setCell hRB _, own_book_at ((h1.stored hR rfl _ _).stored (hR.set _ _) rfl _ _) hs ((h2.stored hR rfl rfl _ _).stored (hR.set _ _) rfl rfl _ _) hn, (h1.stored hR rfl _ _).stored (hR.set _ _) rfl _ _, (h2.stored hR rfl rfl _ _).stored (hR.set _ _) rfl rfl _ _⟩
theorem EnS.fin {w wc : World} {b : Book} {a1 a2 : Option Addr} {c1 c2 : Nat} {x1 x2 : Option Addr} {y1 y2 X : Nat} (h : EnS w wc b a1 a2 c1 c2 x1 x2 y1 y2 X) (hb : BookAt w a1 a2 b) (u v : Value) :
  Ext w ((wc.setCell ⟨w.heap.size + 1, 0, none⟩ u).setCell ⟨w.heap.size + 1, 1, none⟩ v) ∧ BookAt ((wc.setCell ⟨w.heap.size + 1, 0, none⟩ u).setCell ⟨w.heap.size + 1, 1, none⟩ v) x1 x2 b ∧ OwnL ((wc.setCell ⟨w.heap.size + 1, 0, none⟩ u).setCell ⟨w.heap.size + 1, 1, none⟩ v) w.heap.size (.slice x1 b.things.length y1) b.things ∧ OwnBs ((wc.setCell ⟨w.heap.size + 1, 0, none⟩ u).setCell ⟨w.heap.size + 1, 1, none⟩ v) w.heap.size (.slice x2 b.batches.length y2) b.batches :=
 stored_book h.ext h.rr (by omega) h.o1 hb.1.short h.o2 hb.2.1 u v
theorem EnS.mk' {w w1 w2 : World} {b : Book} {a1 a2 : Option Addr} {c1 c2 : Nat} {x1 x2 : Option Addr} {y1 y2 : Nat}
  (h1 : Ext ((w.alloc (.cells #[.slice a1 b.things.length c1, .slice a2 b.batches.length c2] 26)).alloc (.cells #[.slice none 0 0, .slice none 0 0] 26)) w1) (h2 : Ext w1 w2)
  (o1 : OwnL w2 w1.heap.size (.slice x1 b.things.length y1) b.things) (o2 : OwnBs w2 w1.heap.size (.slice x2 b.batches.length y2) b.batches) :
  EnS w (w2.alloc (.cells #[.slice x1 b.things.length y1, .slice x2 b.batches.length y2] 26)) b a1 a2 c1 c2 x1 x2 y1 y2 w2.heap.size := by
 have e2 : ∀ o1 o2, Ext w ((w.alloc o1).alloc o2) := fun o1 o2 => ((Below.refl _ _).alloc (Nat.le_refl _) _).alloc (by simp) _
 have r1 : Rec ((w.alloc (.cells #[.slice a1 b.things.length c1, .slice a2 b.batches.length c2] 26)).alloc (.cells #[.slice none 0 0, .slice none 0 0] 26)) (w.heap.size + 1) 26 [.slice none 0 0, .slice none 0 0] := by
  have h := Rec.new (w.alloc (.cells #[.slice a1 b.things.length c1, .slice a2 b.batches.length c2] 26)) 26 [.slice none 0 0, .slice none 0 0]
  simpa using h
 have r0 : Rec ((w.alloc (.cells #[.slice a1 b.things.length c1, .slice a2 b.batches.length c2] 26)).alloc (.cells #[.slice none 0 0, .slice none 0 0] 26)) w.heap.size 26 [.slice a1 b.things.length c1, .slice a2 b.batches.length c2] :=
  (Rec.new w 26 _).ext (ext_alloc _ _)
 have hz := h1.size
 simp at hz
 have hz2 := h2.size
 have ea := ext_alloc w2 (.cells #[.slice x1 b.things.length y1, .slice x2 b.batches.length y2] 26)
 exact ⟨Ext.tr (Ext.tr (e2 _ _) (Ext.tr h1 h2)) ea, (r0.ext (Ext.tr h1 h2)).ext ea, (r1.ext (Ext.tr h1 h2)).ext ea, Rec.new w2 _ _, (o1.low (by omega)).ext ea, (o2.low (by omega)).ext ea, by omega⟩
theorem EnS.facts {w wc : World} {b : Book} {a1 a2 : Option Addr} {c1 c2 : Nat} {x1 x2 : Option Addr} {y1 y2 X : Nat} (h : EnS w wc b a1 a2 c1 c2 x1 x2 y1 y2 X) :
  wc.cell? ⟨w.heap.size, 0, none⟩ = some (.slice a1 b.things.length c1) ∧ wc.cell? ⟨w.heap.size, 1, none⟩ = some (.slice a2 b.batches.length c2) ∧
  wc.cell? ⟨w.heap.size + 1, 0, none⟩ = some (.slice none 0 0) ∧ wc.cell? ⟨w.heap.size + 1, 1, none⟩ = some (.slice none 0 0) ∧ wc.frozen? ⟨w.heap.size + 1, 0, none⟩ = false ∧ wc.frozen? ⟨w.heap.size + 1, 1, none⟩ = false ∧
  wc.cell? ⟨X, 0, none⟩ = some (.slice x1 b.things.length y1) ∧ wc.cell? ⟨X, 1, none⟩ = some (.slice x2 b.batches.length y2) :=
 ⟨h.rb.cell rfl, h.rb.cell rfl, h.rr.cell rfl, h.rr.cell rfl, h.rr.frozen 0, h.rr.frozen 1, h.rx.cell rfl, h.rx.cell rfl⟩
theorem BookRes.mk {w w' : World} {r : Book × Nat} {b : Book} {k : Nat} {x1 x2 : Option Addr} {y1 y2 : Nat} (hr : r = (b, k)) (h : Ext w w' ∧ BookAt w' x1 x2 b ∧ OwnL w' w.heap.size (.slice x1 b.things.length y1) b.things ∧ OwnBs w' w.heap.size (.slice x2 b.batches.length y2) b.batches) : BookOwn w r (.returned (.tuple #[.agg #[.slice x1 b.things.length y1, .slice x2 b.batches.length y2], .int .i64 ((k : Nat) : Int)])) w' := by
 subst hr
 exact ⟨x1, y1, x2, y2, rfl, h.1, h.2⟩
end
end Go.Proofs.YtdafpnpfcmgfcaaGreatDoor
