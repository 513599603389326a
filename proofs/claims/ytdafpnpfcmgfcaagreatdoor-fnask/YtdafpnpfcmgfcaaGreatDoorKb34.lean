/- The reader of a code: pick. The reader made; names drawn. The walk over l5Base: a book's things drawn. -/
import Derived.Test.YtdafpnpfcmgfcaaGreatDoorKb27
import Derived.Test.YtdafpnpfcmgfcaaGreatDoorKb24
namespace Go.Proofs.YtdafpnpfcmgfcaaGreatDoor
section
open Go.RowKit
attribute [local go_sem] S_toList S_size S_get
def BytesAt (w : World) (a : Option Addr) (n : Nat) : Prop :=
 ∀ i, i < n → ∃ b o, a = some ⟨b, o, none⟩ ∧ ∃ x : Nat, x ≤ 255 ∧ w.cell? ⟨b, o + i, none⟩ = some (.int .u8 (x : Int))
def Rd (w : World) (R q : Nat) : Prop :=
 ∃ a n c p, Rec w R 103 [.slice a n c, .int .i64 ((p : Nat) : Int)] ∧ p ≤ q ∧ n ≤ 2000 ∧ BytesAt w a n ∧ (0 < n → ∀ b o, a = some ⟨b, o, none⟩ → b < R)
theorem Rd.lt {w : World} {R q : Nat} (h : Rd w R q) : R < w.heap.size := by
 obtain ⟨_, _, _, _, h1, _⟩ := h
 exact h1.lt
theorem BytesAt.gb {w w' : World} {a : Option Addr} {n : Nat} (h : BytesAt w a n) {row : Option Nat} (g : w.grownBy w' row) (hne : ∀ b o, a = some ⟨b, o, none⟩ → 0 < n → some b ≠ row) : BytesAt w' a n := by
 intro i hi
 obtain ⟨b, o, e, x, hx, hc⟩ := h i hi
 exact ⟨b, o, e, x, hx, g.cell hc (hne b o e (by omega))⟩
theorem Rd.gb {w w' : World} {R q : Nat} (h : Rd w R q) {row : Option Nat} (g : w.grownBy w' row) (hne : ∀ k, row = some k → R < k) : Rd w' R q := by
 obtain ⟨a, n, c, p, h1, h2, h3, h4, h5⟩ := h
 exact ⟨a, n, c, p, h1.kept g (fun e => by have := hne R e.symm; omega), h2, h3, h4.gb g (fun b o e hn er => by have := hne b er.symm; have := h5 hn b o e; omega), h5⟩
theorem Rd.ext {w w' : World} {R q : Nat} (h : Rd w R q) (e : Ext w w') : Rd w' R q := h.gb (gb_none e) (fun k hk => by cases hk)
theorem Rd.mono {w : World} {R q q' : Nat} (h : Rd w R q) (hq : q ≤ q') : Rd w R q' := by
 obtain ⟨a, n, c, p, h1, h2, r⟩ := h
 exact ⟨a, n, c, p, h1, Nat.le_trans h2 hq, r⟩
theorem xorS (t : Nat) (h : t ≤ 200000000) : ∃ y : Nat, bits .xor .i64 (t : Int) ((t : Int) / 64) = (y : Int) := by
 have hx : t ^^^ (t / 64) < 2 ^ 40 := Nat.xor_lt_two_pow (by omega) (by omega)
 refine ⟨t ^^^ (t / 64), ?_⟩
 have d : ((t : Int) / 64) = ((t / 64 : Nat) : Int) := by omega
 rw [d]
 have h1 : (BitVec.ofInt 64 (t : Int)).toNat = t := by
  rw [BitVec.ofInt_natCast, BitVec.toNat_ofNat]; exact Nat.mod_eq_of_lt (by omega)
 have h2 : (BitVec.ofInt 64 ((t / 64 : Nat) : Int)).toNat = t / 64 := by
  rw [BitVec.ofInt_natCast, BitVec.toNat_ofNat]; exact Nat.mod_eq_of_lt (by omega)
 show IntKind.i64.wrap ((BitVec.ofInt 64 (t : Int) ^^^ BitVec.ofInt 64 ((t / 64 : Nat) : Int)).toNat : Int) = _
 rw [BitVec.toNat_xor, h1, h2]
 exact wrapS (by omega) (by omega)
set_option maxRecDepth 100000 in
set_option maxHeartbeats 1000000 in
theorem pick_any (R q m : Nat) (w : World) (h : Rd w R q) (hq : q ≤ 1000000) (hm : 1 ≤ m) (hm2 : m ≤ 1000000000) :
  Calls Qry.prog 40 #[.pointer (some ⟨R, 0, none⟩), .int .i64 (m : Int)] w fun e w' =>
   ∃ j : Nat, e = .returned (.int .i64 (j : Int)) ∧ j < m ∧ w.grownBy w' (some R) ∧ Rd w' R (q + 1) := by
 obtain ⟨a, n, c, p, h1, h2, h3, h4, h5⟩ := h
 have c0 := h1.cell (i := 0) rfl
 have c1 := h1.cell (i := 1) rfl
 have f1 := h1.frozen 1
 have HG : Hid (w.grownBy (w.setCell ⟨R, 1, none⟩ (.int .i64 ((p : Int) + 1))) (some R)) := gb_store w R 1 _
 have HRec := hid (h1.set 1 (.int .i64 ((p : Int) + 1)))
 have HRd : Hid (Rd (w.setCell ⟨R, 1, none⟩ (.int .i64 ((p : Int) + 1))) R (q + 1)) :=
  ⟨a, n, c, p + 1, by have := HRec.out; simpa using this, by omega, h3, h4.gb (gb_store w R 1 _) (fun b o e hn er => by have := h5 hn b o e; simp at er; omega), h5⟩
 have hb4 : BytesAt (w.setCell ⟨R, 1, none⟩ (.int .i64 ((p : Int) + 1))) a n := h4.gb (gb_store w R 1 _) (fun b o e hn er => by have := h5 hn b o e; simp at er; omega)
 have c0' := HRec.out.cell (i := 0) rfl
 have c1' := HRec.out.cell (i := 1) rfl
 have hm0 : ¬ ((m : Int) < 1) := by omega
 go_enter Qry.func40, Tryz.ntmps40
 by_cases hn : n = 0
 ·subst hn
  go_wp2
  go_ret
  exact ⟨0, rfl, by omega, HG.out, HRd.out⟩
 ·have hn0 : ((n : Int) == 0) = false := by simp; omega
  by_cases hp : p < n
  ·obtain ⟨bb, oo, rfl, x, hx, hc⟩ := hb4 p hp
   go_wp2
   have e : (x : Int) % (m : Int) = ((x % m : Nat) : Int) := by omega
   rw [e]
   go_ret
   exact ⟨x % m, rfl, Nat.mod_lt _ (by omega), HG.out, HRd.out⟩
  ·obtain ⟨i1, hi1⟩ : ∃ i, i = p % n := ⟨_, rfl⟩
   obtain ⟨i2, hi2⟩ : ∃ i, i = (p * 7 + 3) % n := ⟨_, rfl⟩
   obtain ⟨dq, hdq⟩ : ∃ i, i = p / n := ⟨_, rfl⟩
   have hl1 : i1 < n := by rw [hi1]; exact Nat.mod_lt _ (by omega)
   have hl2 : i2 < n := by rw [hi2]; exact Nat.mod_lt _ (by omega)
   have hl3 : dq ≤ p := by rw [hdq]; exact Nat.div_le_self _ _
   have ht1 : ((p : Int)).tmod (n : Int) = (i1 : Int) := by rw [hi1, Int.tmod_eq_emod_of_nonneg (by omega)]; simp
   have ht2 : ((p : Int) * 7 + 3).tmod (n : Int) = (i2 : Int) := by rw [hi2, Int.tmod_eq_emod_of_nonneg (by omega)]; simp
   have ht3 : ((p : Int)).tdiv (n : Int) = (dq : Int) := by rw [hdq, Int.tdiv_eq_ediv_of_nonneg (by omega)]; simp
   have b1 : (i1 : Int) < (n : Int) := by omega
   have b2 : (i2 : Int) < (n : Int) := by omega
   obtain ⟨bb, oo, rfl, x, hx, hc⟩ := hb4 i1 hl1
   obtain ⟨bb', oo', e', x', hx', hc'⟩ := hb4 i2 hl2
   cases e'
   go_wp2_with fail
   generalize hwx : w.setCell ⟨R, 1, none⟩ (.int .i64 ((p : Int) + 1)) = wx at *
   clear hi1 hi2 hdq h4 hb4 h5 HRec h1
   refine wp_region_T (fun w' => w'.cell? ⟨R, 0, none⟩ = some (.slice (some ⟨bb, oo, none⟩) n c) ∧ w'.cell? ⟨bb, oo + i1, none⟩ = some (.int .u8 x) ∧ w'.cell? ⟨bb, oo + i2, none⟩ = some (.int .u8 x')) 45 (by kernel_rfl) ⟨c0', hc, hc'⟩ (fun hS => ?_)
   refine tk 0 hS ?_
   try simp only [List.set]
   refine tk 1 hS ?_
   try simp only [List.set]
   refine tk 2 hS ?_
   try simp only [List.set]
   refine tk 3 hS ?_
   try simp only [List.set]
   refine tk 4 hS ?_
   try simp only [List.set]
   refine tk 5 hS ?_
   try simp only [List.set]
   refine tk 6 hS ?_
   try simp only [List.set]
   refine tk 7 hS ?_
   try simp only [List.set]
   refine tk 8 hS ?_
   try simp only [List.set]
   refine tk 9 hS ?_
   try simp only [List.set]
   refine wpT_take 10 (v := .int .i64 (i1 : Int)) rfl rfl (by kernel_rfl) (by kernel_rfl) (by kernel_rfl) (by kernel_rfl) (fun _ _ _ h => h) hS rfl (by intro w0 hw0; (try dsimp only at hw0); go_simp) ?_
   try simp only [List.set]
   refine tk 11 hS ?_
   try simp only [List.set]
   refine tk 12 hS ?_
   try simp only [List.set]
   refine tk 13 hS ?_
   try simp only [List.set]
   refine wpT_take 14 (v := .int .i64 ((x : Int) * 131)) rfl rfl (by kernel_rfl) (by kernel_rfl) (by kernel_rfl) (by kernel_rfl) (fun _ _ _ h => h) hS rfl (by intro w0 hw0; (try dsimp only at hw0); go_simp; rw [wrapS (z := (x : Int)) (by omega) (by omega)]; exact wrapS (by omega) (by omega)) ?_
   try simp only [List.set]
   refine tk 15 hS ?_
   try simp only [List.set]
   refine tk 16 hS ?_
   try simp only [List.set]
   refine tk 17 hS ?_
   try simp only [List.set]
   refine tk 18 hS ?_
   try simp only [List.set]
   refine tk 19 hS ?_
   try simp only [List.set]
   refine wpT_take 20 (v := .int .i64 ((p : Int) * 7)) rfl rfl (by kernel_rfl) (by kernel_rfl) (by kernel_rfl) (by kernel_rfl) (fun _ _ _ h => h) hS rfl (by intro w0 hw0; (try dsimp only at hw0); go_simp; exact wrapS (by omega) (by omega)) ?_
   try simp only [List.set]
   refine wpT_take 21 (v := .int .i64 ((p : Int) * 7 + 3)) rfl rfl (by kernel_rfl) (by kernel_rfl) (by kernel_rfl) (by kernel_rfl) (fun _ _ _ h => h) hS rfl (by intro w0 hw0; (try dsimp only at hw0); go_simp; exact wrapS (by omega) (by omega)) ?_
   try simp only [List.set]
   refine tk 22 hS ?_
   try simp only [List.set]
   refine tk 23 hS ?_
   try simp only [List.set]
   refine tk 24 hS ?_
   try simp only [List.set]
   refine tk 25 hS ?_
   try simp only [List.set]
   refine tk 26 hS ?_
   try simp only [List.set]
   refine wpT_take 27 (v := .int .i64 (i2 : Int)) rfl rfl (by kernel_rfl) (by kernel_rfl) (by kernel_rfl) (by kernel_rfl) (fun _ _ _ h => h) hS rfl (by intro w0 hw0; (try dsimp only at hw0); go_simp) ?_
   try simp only [List.set]
   refine tk 28 hS ?_
   try simp only [List.set]
   refine tk 29 hS ?_
   try simp only [List.set]
   refine tk 30 hS ?_
   try simp only [List.set]
   refine wpT_take 31 (v := .int .i64 ((x' : Int) * 1117)) rfl rfl (by kernel_rfl) (by kernel_rfl) (by kernel_rfl) (by kernel_rfl) (fun _ _ _ h => h) hS rfl (by intro w0 hw0; (try dsimp only at hw0); go_simp; rw [wrapS (z := (x' : Int)) (by omega) (by omega)]; exact wrapS (by omega) (by omega)) ?_
   try simp only [List.set]
   refine wpT_take 32 (v := .int .i64 ((x : Int) * 131 + (x' : Int) * 1117)) rfl rfl (by kernel_rfl) (by kernel_rfl) (by kernel_rfl) (by kernel_rfl) (fun _ _ _ h => h) hS rfl (by intro w0 hw0; (try dsimp only at hw0); go_simp; exact wrapS (by omega) (by omega)) ?_
   try simp only [List.set]
   refine tk 33 hS ?_
   try simp only [List.set]
   refine wpT_take 34 (v := .int .i64 ((p : Int) * 29)) rfl rfl (by kernel_rfl) (by kernel_rfl) (by kernel_rfl) (by kernel_rfl) (fun _ _ _ h => h) hS rfl (by intro w0 hw0; (try dsimp only at hw0); go_simp; exact wrapS (by omega) (by omega)) ?_
   try simp only [List.set]
   refine wpT_take 35 (v := .int .i64 ((x : Int) * 131 + (x' : Int) * 1117 + (p : Int) * 29)) rfl rfl (by kernel_rfl) (by kernel_rfl) (by kernel_rfl) (by kernel_rfl) (fun _ _ _ h => h) hS rfl (by intro w0 hw0; (try dsimp only at hw0); go_simp; exact wrapS (by omega) (by omega)) ?_
   try simp only [List.set]
   refine tk 36 hS ?_
   try simp only [List.set]
   refine tk 37 hS ?_
   try simp only [List.set]
   refine tk 38 hS ?_
   try simp only [List.set]
   refine tk 39 hS ?_
   try simp only [List.set]
   refine tk 40 hS ?_
   try simp only [List.set]
   refine tk 41 hS ?_
   try simp only [List.set]
   refine wpT_take 42 (v := .int .i64 (dq : Int)) rfl rfl (by kernel_rfl) (by kernel_rfl) (by kernel_rfl) (by kernel_rfl) (fun _ _ _ h => h) hS rfl (by intro w0 hw0; (try dsimp only at hw0); go_simp; exact wrapS (by omega) (by omega)) ?_
   try simp only [List.set]
   refine wpT_take 43 (v := .int .i64 ((dq : Int) * 53)) rfl rfl (by kernel_rfl) (by kernel_rfl) (by kernel_rfl) (by kernel_rfl) (fun _ _ _ h => h) hS rfl (by intro w0 hw0; (try dsimp only at hw0); go_simp; exact wrapS (by omega) (by omega)) ?_
   try simp only [List.set]
   refine wpT_take 44 (v := .int .i64 ((x : Int) * 131 + (x' : Int) * 1117 + (p : Int) * 29 + (dq : Int) * 53)) rfl rfl (by kernel_rfl) (by kernel_rfl) (by kernel_rfl) (by kernel_rfl) (fun _ _ _ h => h) hS rfl (by intro w0 hw0; (try dsimp only at hw0); go_simp; exact wrapS (by omega) (by omega)) ?_
   try simp only [List.set]
   refine wpT_last rfl (by kernel_rfl) (by kernel_rfl) rfl (fun K hK => ?_)
   go_simp
   refine hK.out _ _ ?_
   clear hK hS
   obtain ⟨t, ht⟩ : ∃ t : Nat, t = x * 131 + x' * 1117 + p * 29 + dq * 53 := ⟨_, rfl⟩
   have htt : (x : Int) * 131 + (x' : Int) * 1117 + (p : Int) * 29 + (dq : Int) * 53 = (t : Int) := by omega
   rw [htt]
   have htl : t ≤ 200000000 := by omega
   clear htt ht ht1 ht2 ht3
   obtain ⟨y, hy⟩ := xorS t htl
   have hym : (y : Int) % (m : Int) = ((y % m : Nat) : Int) := by omega
   go_wp2
   rw [hym]
   go_ret
   exact ⟨y % m, rfl, Nat.mod_lt _ (by omega), gb_tr' HG.out, HRd.out.ext (ext_drewN _ 1)⟩
set_option maxHeartbeats 400000 in
theorem of_any (R q : Nat) (a : Option Addr) (c : Nat) (ss : List Str) (w : World) (h : Rd w R q) (hq : q ≤ 1000000) (hs : StrsAt w a ss) (h0 : 0 < ss.length) (hl : ss.length ≤ 1000000) (ho : ∀ b o, a = some ⟨b, o, none⟩ → b ≠ R) :
  Calls Qry.prog 69 #[.pointer (some ⟨R, 0, none⟩), .slice a ss.length c] w fun e w' =>
   ∃ j, j < ss.length ∧ e = .returned (.string (S (nth ss j))) ∧ w.grownBy w' (some R) ∧ Rd w' R (q + 1) := by
 go_enter Qry.func69, Tryz.ntmps69
 go_wp2_with fail
 refine (pick_any R q ss.length w h hq h0 (by omega)).mono ?_
 rintro e w1 ⟨j, rfl, hj, hg, hr⟩
 obtain ⟨_, bb, oo, rfl, hc⟩ := hs.2 j hj
 have hc' := hg.cell hc (fun e => ho bb oo rfl (by simpa using e))
 have HG := hid hg
 have HR := hid hr
 clear hg hr
 go_wp2
 go_ret
 exact ⟨j, hj, rfl, HG.out, HR.out⟩
end
section
open Go.RowKit
attribute [local go_sem] S_toList S_size S_get
set_option maxHeartbeats 400000 in
theorem l1Open_any (a : Option Addr) (n c : Nat) (w : World) (h : BytesAt w a n) (hn : n ≤ c) (hc : c ≤ 140737488355328) :
  Calls Qry.prog 38 #[.slice a n c] w fun e w' => e = .returned (.pointer (some ⟨w.heap.size, 0, none⟩)) ∧ Ext w w' ∧ Rd w' w.heap.size 0 := by
 have key : ∀ n' c', n' ≤ n → n' ≤ 2000 → Ext w (w.alloc (.cells #[.slice a n' c', .int .i64 0] 103)) ∧ Rd (w.alloc (.cells #[.slice a n' c', .int .i64 0] 103)) w.heap.size 0 := fun n' c' h1 h2 =>
  ⟨ext_alloc _ _, a, n', c', 0, Rec.new w _ _, Nat.le_refl _, h2, fun i hi => by
   obtain ⟨b, o, e, x, hx, hcc⟩ := h i (by omega)
   exact ⟨b, o, e, x, hx, (ext_alloc _ _).keep hcc⟩, fun hp b o e => by
   obtain ⟨b', o', e', x, hx, hcc⟩ := h 0 (by omega)
   rw [e] at e'; cases e'
   exact cell_lt hcc⟩
 have HK := hid key
 clear key
 go_enter Qry.func38, Tryz.ntmps38
 by_cases hb : 2000 < n
 ·have hb' : ¬ ((n : Int) ≤ 2000) := by omega
  have hc2 : (2000 : Int) ≤ (c : Int) := by omega
  cases a with
  | none =>
   obtain ⟨b, o, e, _⟩ := h 0 (by omega)
   cases e
  | some ad =>
   go_wp2
   go_ret
   exact ⟨rfl, HK.out 2000 c (by omega) (by omega)⟩
 ·go_wp2
  go_ret
  exact ⟨rfl, HK.out n c (Nat.le_refl _) (by omega)⟩
def five : List Str := [[97, 108, 101], [98], [99, 45, 99], [100, 97, 114, 107], [120, 57]]
theorem five_short : ShortS five := ⟨by simp [five], fun i hi => by
 match i, hi with
 | 0, _ => simp [five, nth]
 | 1, _ => simp [five, nth]
 | 2, _ => simp [five, nth]
 | 3, _ => simp [five, nth]
 | 4, _ => simp [five, nth]⟩
theorem rec_strs {w : World} {X : Nat} {ss : List Str} (h : Rec w X 9 (ss.map fun s => .string (S s))) (hs : ShortS ss) : StrsAt w (some ⟨X, 0, none⟩) ss :=
 ⟨hs.1, fun i hi => ⟨hs.2 i hi, X, 0, rfl, by rw [Nat.zero_add]; exact h.cell (by rw [List.getElem?_map, List.getElem?_eq_getElem hi, nth_get hi]; rfl)⟩⟩
set_option maxHeartbeats 400000 in
theorem l5Names_any (w : World) : Calls Qry.prog 77 #[] w fun e w' => e = .returned (.slice (some ⟨w.heap.size, 0, none⟩) 5 5) ∧ Ext w w' ∧ StrsAt w' (some ⟨w.heap.size, 0, none⟩) five := by
 go_enter Qry.func77, Tryz.ntmps77
 go_wp2
 go_ret
 exact ⟨rfl, ext_alloc _ _, rec_strs (Rec.new w _ _) five_short⟩
theorem one_str (w : World) (x : Str) (h : x.length ≤ 140737488355328) : StrsAt (w.alloc (.cells #[.string (S x)] 9)) (some ⟨w.heap.size, 0, none⟩) [x] :=
 rec_strs (Rec.new w _ _) ⟨by simp, fun i hi => by
  match i, hi with
  | 0, _ => simpa [nth] using h⟩
set_option maxRecDepth 100000 in
set_option maxHeartbeats 1000000 in
theorem l5Some_any (R q m : Nat) (a : Option Addr) (c : Nat) (ss : List Str) (w : World) (h : Rd w R q) (hq : q + ss.length ≤ 1000000) (hm : 1 ≤ m) (hm2 : m ≤ 1000) (hs : StrsAt w a ss) (ho : 0 < ss.length → ∀ b o, a = some ⟨b, o, none⟩ → b ≠ R) :
  Calls Qry.prog 68 #[.pointer (some ⟨R, 0, none⟩), .slice a ss.length c, .int .i64 (m : Int)] w fun e w' =>
   ∃ v L, e = .returned v ∧ w.grownBy w' (some R) ∧ Rd w' R (q + ss.length) ∧ OwnL w' w.heap.size v L ∧ L.Sublist ss := by
 have hlt0 := h.lt
 have HO := hid (OwnL.made w w.heap.size (Nat.le_refl _))
 have HRd := hid (h.ext (ext_alloc w (.cells #[] 9)))
 have hn := hs.1
 go_enter Qry.func68, Tryz.ntmps68
 go_wp2_with fail
 go_loopw [7, 8] (fun v i wr => ∃ (k : Nat) (L : List Str), k ≤ ss.length ∧ i = .int .i64 k ∧ w.grownBy wr (some R) ∧ Rd wr R (q + k) ∧ OwnL wr w.heap.size v L ∧ L.Sublist (ss.take k)) (fun _ i _ => ss.length - (intOf i).toNat)
 case atStart => exact ⟨0, [], Nat.zero_le _, rfl, gb_ext (ext_alloc _ _) _, HRd.out, HO.out, by simp⟩
 case round =>
  obtain ⟨k, L, hk, rfl, hg, hrd, hown, hsub⟩ := hrel
  have hs' := hs.gb hg (fun hp b o e => by have := ho hp b o e; simp; omega)
  have hll : L.length ≤ k := Nat.le_trans hsub.length_le (by simp; omega)
  obtain ⟨av, cv, rfl⟩ := own_sl hown
  have HG := hid hg
  have HOW := hid hown
  have HRD := hid hrd
  have HSUB := hid hsub
  clear hg hown hrd hsub
  by_cases hlt : k < ss.length
  ·obtain ⟨hl, ba, oa, rfl, hc⟩ := hs'.2 k hlt
   go_wp2_with fail
   refine (pick_any R (q + k) m wr HRD.out (by omega) hm (by omega)).mono ?_
   rintro e w1 ⟨j, rfl, hj, hg1, hr1⟩
   have hc1 := hg1.cell hc (fun e => ho (by omega) ba oa rfl (by simpa using e))
   have HG1 := hid (gb_tr HG.out hg1)
   have HR1 := hid hr1
   have HOW1 : Hid (OwnL w1 w.heap.size (.slice av L.length cv) L) := HOW.out.keep hg1 (fun b c e hb => by
    simp at e; subst e
    obtain ⟨_, _, _, _, h1, _⟩ := HRD.out
    rw [show wr.heap[R]? = _ from h1] at hb
    simp at hb)
   clear hg1 hr1 hs' hc
   by_cases hj0 : j = 0
   ·subst hj0
    have HSTR := hid (one_str w1 (nth ss k) hl)
    have hz1 := HG1.out.size
    go_wp2_with (at_builtin; refine wpList_strs rfl _ _ rfl rfl (HOW1.out.ext (ext_alloc _ _)) (M := [nth ss k]) rfl HSTR.out ?q1 ?q2 ?_)
    case q1 => simp; omega
    case q2 => simp; omega
    ·intro v' w2 hown hgrow hat
     have hob : ∀ g, (Value.slice av L.length cv).ownBlock = some g → w.heap.size ≤ g := fun g hg => (HOW.out.lt g hg).1
     have HG2 : Hid (w.grownBy w2 (some R)) := ⟨hgrow.os.trans HG1.out.os, hgrow.tape.trans HG1.out.tape, hgrow.output.trans HG1.out.output, Nat.le_trans hz1 (Nat.le_trans (by simp) hgrow.size), fun b hb hne => by
      rw [hgrow.block b (by simp; omega) (fun e => by have := hob b e.symm; omega), (ext_alloc w1 _).block b (by omega)]
      exact HG1.out.block b hb hne⟩
     have HR2 : Hid (Rd w2 R (q + k + 1)) := (HR1.out.ext (ext_alloc _ _)).gb hgrow (fun g hg => by have := hob g hg; omega)
     have HN := hid hown
     clear hown hgrow hat
     go_wp2
     go_roundw
     case rel => exact ⟨k + 1, L ++ [nth ss k], by omega, by go_num, HG2.out, HR2.out, HN.out, by
      rw [List.take_succ_eq_append_getElem hlt, nth_get hlt]
      exact List.Sublist.append HSUB.out (List.Sublist.refl _)⟩
     case measure => simp [intOf]; omega
   ·have hj1 : ((j : Int) == 0) = false := by simp; omega
    go_wp2
    go_roundw
    case rel => exact ⟨k + 1, L, by omega, by go_num, HG1.out, HR1.out, HOW1.out, by
     rw [List.take_succ_eq_append_getElem hlt]
     exact HSUB.out.trans (List.sublist_append_left _ _)⟩
    case measure => simp [intOf]; omega
  ·have e : k = ss.length := by omega
   subst e
   go_wp2
   go_ret
   exact ⟨_, L, rfl, HG.out, HRD.out, HOW.out, by have := HSUB.out; rwa [List.take_length] at this⟩
end
section
open Go.RowKit
attribute [local go_sem] S_toList S_size S_get
theorem on_grown {w w1 w2 : World} {R : Nat} {row : Option Nat} (h : w.grownBy w1 (some R)) (g : w1.grownBy w2 row) (hr : ∀ k, row = some k → w.heap.size ≤ k) : w.grownBy w2 (some R) :=
 ⟨g.os.trans h.os, g.tape.trans h.tape, g.output.trans h.output, Nat.le_trans h.size g.size, fun b hb hne => by
  have := h.size
  rw [g.block b (by omega) (fun e => by have := hr b e.symm; omega)]
  exact h.block b hb hne⟩
def kegs : List Str := [[106], [107, 101, 103], [116, 117, 110], [118, 97, 116], [119]]
theorem kegs_short : ShortS kegs := ⟨by simp [kegs], fun i hi => by
 match i, hi with
 | 0, _ => simp [kegs, nth]
 | 1, _ => simp [kegs, nth]
 | 2, _ => simp [kegs, nth]
 | 3, _ => simp [kegs, nth]
 | 4, _ => simp [kegs, nth]⟩
theorem sub_short {l m : List Str} (h : l.Sublist m) (hm : ShortS m) : ShortS l :=
 ⟨Nat.le_trans h.length_le hm.1, fun i hi => by
  have hx : nth l i ∈ m := h.subset (by rw [nth_get hi]; exact List.getElem_mem hi)
  obtain ⟨j, hj, e⟩ := List.getElem_of_mem hx
  rw [← e, ← nth_get hj]; exact hm.2 j hj⟩
theorem kegs_ok {T : List Str} (h : T.Sublist kegs) : bookOk ⟨T, []⟩ = true := by
 have h1 : kegs.Pairwise LtS := by decide
 have h2 : ∀ x ∈ kegs, nameOk x = true := by decide
 have h3 := asc_iff.2 (h1.sublist h)
 refine ok_iff.2 ⟨?_, by simp, fun x hx => by simp at hx, List.Pairwise.nil, List.Pairwise.nil⟩
 unfold thingsOk
 rw [Bool.and_eq_true, decide_eq_true_eq]
 refine ⟨Nat.le_trans h.length_le (by decide), allLt_of (fun i hi => ?_)⟩
 rw [Bool.and_eq_true]
 exact ⟨h2 _ (h.subset (by rw [nth_get hi]; exact List.getElem_mem hi)), allLt_true.1 h3 i hi⟩
set_option maxRecDepth 100000 in
set_option maxHeartbeats 1000000 in
theorem l5Base_any (R q : Nat) (w : World) (h : Rd w R q) (hq : q ≤ 900000) :
  Calls Qry.prog 39 #[.pointer (some ⟨R, 0, none⟩)] w fun e w' =>
   ∃ v T, e = .returned (.agg #[v, .slice none 0 0]) ∧ w.grownBy w' (some R) ∧ Rd w' R (q + 5) ∧ OwnL w' w.heap.size v T ∧ T.Sublist kegs := by
 have hlt0 := h.lt
 go_enter Qry.func39, Tryz.ntmps39
 go_wp2_with fail
 have e3 : ∀ o1 o2 o3, Ext w (((w.alloc o1).alloc o2).alloc o3) := fun o1 o2 o3 => (((Below.refl _ _).alloc (Nat.le_refl _) _).alloc (by simp) _).alloc (by simp; omega) _
 have HG : Hid (w.grownBy (((w.alloc (.cells #[.slice none 0 0, .slice none 0 0] 26)).alloc (.cells #[.slice none 0 0, .slice none 0 0] 26)).alloc (.cells #[.string (S [106]), .string (S [107, 101, 103]), .string (S [116, 117, 110]), .string (S [118, 97, 116]), .string (S [119])] 9)) (some R)) := gb_ext (e3 _ _ _) _
 have HRd := hid (h.ext (e3 (.cells #[.slice none 0 0, .slice none 0 0] 26) (.cells #[.slice none 0 0, .slice none 0 0] 26) (.cells #[.string (S [106]), .string (S [107, 101, 103]), .string (S [116, 117, 110]), .string (S [118, 97, 116]), .string (S [119])] 9)))
 have HR0 : Hid (Rec (((w.alloc (.cells #[.slice none 0 0, .slice none 0 0] 26)).alloc (.cells #[.slice none 0 0, .slice none 0 0] 26)).alloc (.cells #[.string (S [106]), .string (S [107, 101, 103]), .string (S [116, 117, 110]), .string (S [118, 97, 116]), .string (S [119])] 9)) w.heap.size 26 [.slice none 0 0, .slice none 0 0]) := ((Rec.new w _ _).ext (ext_alloc _ _)).ext (ext_alloc _ _)
 have HR1 : Hid (Rec (((w.alloc (.cells #[.slice none 0 0, .slice none 0 0] 26)).alloc (.cells #[.slice none 0 0, .slice none 0 0] 26)).alloc (.cells #[.string (S [106]), .string (S [107, 101, 103]), .string (S [116, 117, 110]), .string (S [118, 97, 116]), .string (S [119])] 9)) (w.heap.size + 1) 26 [.slice none 0 0, .slice none 0 0]) := by
  have h := (Rec.new (w.alloc (.cells #[.slice none 0 0, .slice none 0 0] 26)) 26 [.slice none 0 0, .slice none 0 0]).ext (ext_alloc _ (.cells #[.string (S [106]), .string (S [107, 101, 103]), .string (S [116, 117, 110]), .string (S [118, 97, 116]), .string (S [119])] 9))
  have e : (w.alloc (.cells #[.slice none 0 0, .slice none 0 0] 26)).heap.size = w.heap.size + 1 := by simp
  rw [e] at h; exact h
 have HK : Hid (StrsAt (((w.alloc (.cells #[.slice none 0 0, .slice none 0 0] 26)).alloc (.cells #[.slice none 0 0, .slice none 0 0] 26)).alloc (.cells #[.string (S [106]), .string (S [107, 101, 103]), .string (S [116, 117, 110]), .string (S [118, 97, 116]), .string (S [119])] 9)) (some ⟨w.heap.size + 1 + 1, 0, none⟩) kegs) := by
  have h := rec_strs (ss := kegs) (Rec.new ((w.alloc (.cells #[.slice none 0 0, .slice none 0 0] 26)).alloc (.cells #[.slice none 0 0, .slice none 0 0] 26)) 9 (kegs.map fun s => .string (S s))) kegs_short
  have e : ((w.alloc (.cells #[.slice none 0 0, .slice none 0 0] 26)).alloc (.cells #[.slice none 0 0, .slice none 0 0] 26)).heap.size = w.heap.size + 1 + 1 := by simp
  rw [e] at h; exact h
 go_loopw [5] (fun i wr => ∃ (k : Nat) (v : Value) (T : List Str), k ≤ 5 ∧ i = .int .i64 k ∧ w.grownBy wr (some R) ∧ Rd wr R (q + k) ∧ Rec wr w.heap.size 26 [.slice none 0 0, .slice none 0 0] ∧ Rec wr (w.heap.size + 1) 26 [v, .slice none 0 0] ∧
  StrsAt wr (some ⟨w.heap.size + 1 + 1, 0, none⟩) kegs ∧ OwnL wr (w.heap.size + 3) v T ∧ T.Sublist (kegs.take k)) (fun i _ => 5 - (intOf i).toNat)
 case atStart => exact ⟨0, _, [], by omega, rfl, HG.out, HRd.out, HR0.out, HR1.out, HK.out, World.ownsRow_nil _ _ _ _, by simp⟩
 case round =>
  clear HG HRd HR0 HR1 HK
  obtain ⟨k, v, T, hk, rfl, hg, hrd, hr0, hr1, hks, hown, hsub⟩ := hrel
  have hll : T.length ≤ 5 := Nat.le_trans hsub.length_le (by rw [List.length_take]; simp [kegs]; omega)
  obtain ⟨av, cv, rfl⟩ := own_sl hown
  have HG := hid hg
  have HRD := hid hrd
  have HR0 := hid hr0
  have HR1 := hid hr1
  have HK := hid hks
  have HOW := hid hown
  have HSUB := hid hsub
  clear hg hrd hr0 hr1 hks hown hsub
  have hkl : kegs.length = 5 := rfl
  have hzw := HK.out.lt (by omega) _ _ rfl
  by_cases hlt : k < 5
  ·go_wp2_with fail
   refine (pick_any R (q + k) 5 wr HRD.out (by omega) (by omega) (by omega)).mono ?_
   rintro e w1 ⟨j, rfl, hj, hg1, hr1⟩
   have hfar : ∀ b, some R = some b → b < w.heap.size + 3 := fun b e => by cases e; omega
   have HG1 := hid (gb_tr HG.out hg1)
   have HRD1 := hid hr1
   have HR01 := hid (HR0.out.kept hg1 (by simp; omega))
   have HR11 := hid (HR1.out.kept hg1 (by simp; omega))
   have HK1 : Hid (StrsAt w1 (some ⟨w.heap.size + 1 + 1, 0, none⟩) kegs) := HK.out.gb hg1 (fun _ b o e => by cases e; simp; omega)
   have HOW1 := hid (HOW.out.far hg1 hfar)
   clear HG HRD HR0 HR1 HK HOW hg1 hr1
   by_cases hj0 : j = 0
   ·subst hj0
    go_wp2
    go_roundw
    case rel => exact ⟨k + 1, _, T, by omega, by go_num, HG1.out, HRD1.out, HR01.out, HR11.out, HK1.out, HOW1.out, by
     rw [List.take_succ_eq_append_getElem (by omega)]
     exact HSUB.out.trans (List.sublist_append_left _ _)⟩
    case measure => simp [intOf]; omega
   ·have hj1 : (0 : Int) < (j : Int) := by omega
    obtain ⟨hln, bb, oo, ee, hc⟩ := HK1.out.2 k (by omega)
    cases ee
    rw [Nat.zero_add] at hc
    have hq0 := HR11.out.cell (i := 0) rfl
    have hz1 := HG1.out.size
    have hzx := HR11.out.lt
    have hz3 := HK1.out.lt (by omega) _ _ rfl
    go_wp2_with fail
    refine wp_region_T (fun w' => w'.cell? ⟨w.heap.size + 1, 0, none⟩ = some (.slice av T.length cv) ∧ w'.cell? ⟨w.heap.size + 1 + 1, k, none⟩ = some (.string (S (nth kegs k)))) 9 (by kernel_rfl) ⟨hq0, hc⟩ (fun hS => ?_)
    refine tk 0 hS ?_
    try simp only [List.set]
    refine tk 1 hS ?_
    try simp only [List.set]
    refine tk 2 hS ?_
    try simp only [List.set]
    refine tk 3 hS ?_
    try simp only [List.set]
    refine tk 4 hS ?_
    try simp only [List.set]
    refine tk 5 hS ?_
    try simp only [List.set]
    refine wpT_one 6 rfl (by kernel_rfl) rfl rfl (fun K hK => ?_)
    go_simp
    refine hK.out _ _ ⟨(ext_alloc _ _).keep hS.1, (ext_alloc _ _).keep hS.2⟩ (fun hS1 => ?_)
    clear hK hS
    have hS := hS1
    clear hS1
    try clear K
    try simp only [put_some, List.set]
    have hEA : Ext w1 (w1.drew.alloc (.cells #[.string (S (nth kegs k))] 9)) := Ext.tr (ext_drewN w1 1) (ext_alloc _ _)
    have hST := one_str w1.drew (nth kegs k) hln
    refine wpT_one 7 rfl (by kernel_rfl) rfl rfl (fun K hK => ?_)
    refine wp_strs (L := T) (M := [nth kegs k]) _ _ rfl rfl (HOW1.out.ext hEA) rfl hST (by simp; omega) (by simp; omega) (fun v' w2 h2 h3 h4 => ?_)
    obtain ⟨a2, c2, rfl⟩ := own_sl h2
    have hob : ∀ g, (Value.slice av T.length cv).ownBlock = some g → w.heap.size + 3 ≤ g := fun g hg => (HOW1.out.lt g hg).1
    have HG2 : Hid (w.grownBy w2 (some R)) := on_grown (gb_tr HG1.out (gb_ext hEA _)) h3 (fun g hg => by have := hob g hg; omega)
    have HRD2 : Hid (Rd w2 R (q + k + 1)) := (HRD1.out.ext hEA).gb h3 (fun g hg => by have := hob g hg; omega)
    have hne : ∀ b, b < w.heap.size + 3 → some b ≠ (Value.slice av T.length cv).ownBlock := fun b hb e => by have := hob b e.symm; omega
    have HR02 := hid ((HR01.out.ext hEA).kept h3 (hne _ (by omega)))
    have HR12 := hid ((HR11.out.ext hEA).kept h3 (hne _ (by omega)))
    have HK2 : Hid (StrsAt w2 (some ⟨w.heap.size + 1 + 1, 0, none⟩) kegs) := (HK1.out.ext hEA).gb h3 (fun _ b o e => by cases e; exact hne _ (by omega))
    have hlT : (T ++ [nth kegs k]).length = T.length + 1 := by simp
    rw [hlT] at h2 ⊢
    refine hK.out _ _ ⟨HR12.out.cell rfl, by have h := (HK2.out.2 k (by omega)).2; obtain ⟨_, _, e, hcc⟩ := h; cases e; rw [Nat.zero_add] at hcc; exact hcc⟩ (fun hS1 => ?_)
    clear hK hS
    have hS := hS1
    clear hS1
    try clear K
    try simp only [put_some, List.set]
    refine tk 8 hS ?_
    try simp only [List.set]
    have hq1 := HR12.out.cell (i := 0) rfl
    have hf1 := HR12.out.frozen 0
    have HOW2 := hid (h2.stored HR12.out rfl 0 (.slice a2 (T.length + 1) c2))
    have HR13 := hid (HR12.out.set 0 (.slice a2 (T.length + 1) c2))
    have HS1 := gb_store w2 (w.heap.size + 1) 0 (.slice a2 (T.length + 1) c2)
    have HG3 : Hid (w.grownBy (w2.setCell ⟨w.heap.size + 1, 0, none⟩ (.slice a2 (T.length + 1) c2)) (some R)) := on_grown HG2.out HS1 (fun g hg => by cases hg; omega)
    have HRD3 : Hid (Rd (w2.setCell ⟨w.heap.size + 1, 0, none⟩ (.slice a2 (T.length + 1) c2)) R (q + k + 1)) := HRD2.out.gb HS1 (fun g hg => by cases hg; omega)
    have HR03 := hid (HR02.out.kept HS1 (by simp))
    have HK3 : Hid (StrsAt (w2.setCell ⟨w.heap.size + 1, 0, none⟩ (.slice a2 (T.length + 1) c2)) (some ⟨w.heap.size + 1 + 1, 0, none⟩) kegs) := HK2.out.gb HS1 (fun _ b o e => by cases e; simp)
    clear hS h2 h3 h4 HG1 HRD1 HR01 HR11 HK1 HOW1 HG2 HRD2 HR02 HR12 HK2 hEA hST hob hne hc hq0 HS1
    refine wpT_last rfl (by kernel_rfl) (by kernel_rfl) rfl (fun K hK => ?_)
    go_simp
    refine hK.out _ _ ?_
    clear hK
    go_wp2
    go_roundw
    case rel => exact ⟨k + 1, _, T ++ [nth kegs k], by omega, by go_num, HG3.out, HRD3.out, HR03.out, HR13.out, HK3.out, HOW2.out, by
     rw [List.take_succ_eq_append_getElem (by omega), nth_get (by omega)]
     exact List.Sublist.append HSUB.out (List.Sublist.refl _)⟩
    case measure => simp [intOf]; omega
  ·have e : k = 5 := by omega
   subst e
   have q0 := HR1.out.cell (i := 0) rfl
   have q1 := HR1.out.cell (i := 1) rfl
   have t0 := HR0.out.cell (i := 0) rfl
   have t1 := HR0.out.cell (i := 1) rfl
   have f0 := HR0.out.frozen 0
   have f1 := HR0.out.frozen 1
   go_wp2
   refine bodyPost_ret (v := .agg #[.slice av T.length cv, .slice none 0 0]) (by simp [results, Tryz.results39, go_sem, t0, t1]) rfl ⟨_, T, rfl, ?_, ?_, ?_, ?_⟩
   ·exact on_grown (on_grown HG.out (gb_store _ _ _ _) (fun g hg => by cases hg; omega)) (gb_store _ _ _ _) (fun g hg => by cases hg; omega)
   ·exact (HRD.out.gb (gb_store _ _ _ _) (fun g hg => by cases hg; omega)).gb (gb_store _ _ _ _) (fun g hg => by cases hg; omega)
   ·exact ((HOW.out.low (by omega)).stored HR0.out rfl _ _).stored (HR0.out.set _ _) rfl _ _
   ·have := HSUB.out; rwa [← hkl, List.take_length] at this
end
end Go.Proofs.YtdafpnpfcmgfcaaGreatDoor
