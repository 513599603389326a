/- What the reader's turning leaves; the walk over l5Does. -/
import Derived.Test.YtdafpnpfcmgfcaaGreatDoorKb34
import Derived.Deep.Cut
import Derived.Deep.CutBlock
import Derived.Deep.DeepCutAuto
namespace Go.Proofs.YtdafpnpfcmgfcaaGreatDoor
open Go.RowKit
attribute [local go_sem] S_toList S_size S_get
theorem Rd.ne_str {w : World} {R q : Nat} (h : Rd w R q) {b o : Nat} {s : ByteArray} (hc : w.cell? ⟨b, o, none⟩ = some (.string s)) : b ≠ R := by
 intro e
 subst e
 obtain ⟨a, n, c, p, h1, _⟩ := h
 unfold World.cell? at hc
 simp only [show w.heap[b]? = _ from h1] at hc
 match o, hc with
 | 0, hc => simp at hc
 | 1, hc => simp at hc
 | o + 2, hc => simp at hc
theorem StrsAt.on {w w' : World} {R q : Nat} {a : Option Addr} {ss : List Str} (h : StrsAt w a ss) (hr : Rd w R q) (g : w.grownBy w' (some R)) : StrsAt w' a ss :=
 h.gb g (fun hp b o e er => by
  obtain ⟨_, b', o', e', hc⟩ := h.2 0 hp
  rw [e] at e'; cases e'
  exact hr.ne_str hc (by simpa using er))
theorem StrsAt.notR {w : World} {R q : Nat} {a : Option Addr} {ss : List Str} (h : StrsAt w a ss) (hr : Rd w R q) (hp : 0 < ss.length) (b o : Nat) (e : a = some ⟨b, o, none⟩) : b ≠ R := by
 obtain ⟨_, b', o', e', hc⟩ := h.2 0 hp
 rw [e] at e'; cases e'
 exact hr.ne_str hc
theorem BatchCells.on {w w' : World} {R q b o : Nat} {x : Batch} (h : BatchCells w b o x) (hr : Rd w R q) (g : w.grownBy w' (some R)) : BatchCells w' b o x := by
 obtain ⟨h0, a1, c1, a2, c2, h1, h2, h3, h4, h5⟩ := h
 have hne : some b ≠ some R := fun e => hr.ne_str h1 (by simpa using e)
 exact ⟨h0, a1, c1, a2, c2, g.cell h1 hne, g.cell h2 hne, g.cell h3 hne, h4.on hr g, h5.on hr g⟩
theorem BookAt.on {w w' : World} {R q : Nat} {a1 a2 : Option Addr} {b : Book} (h : BookAt w a1 a2 b) (hr : Rd w R q) (g : w.grownBy w' (some R)) : BookAt w' a1 a2 b :=
 ⟨h.1.on hr g, h.2.1, fun i hi => by
  obtain ⟨bb, o, e, hc⟩ := h.2.2 i hi
  exact ⟨bb, o, e, hc.on hr g⟩⟩
structure DS (w wc : World) (R q D : Nat) (b : Book) (a1 a2 : Option Addr) (c1 c2 m : Nat) : Prop where
 on : w.grownBy wc (some R)
 rd : Rd wc R q
 rb : Rec wc w.heap.size 26 [.slice a1 b.things.length c1, .slice a2 b.batches.length c2]
 rr : Rec wc (w.heap.size + 1) 31 [.int .i64 0, .string (S []), .slice none 0 0]
 d : ∃ (kind : Nat) (name : Str) (L : List Str) (v : Value), Rec wc D 31 [.int .i64 (kind : Int), .string (S name), v] ∧ name.length ≤ 140737488355328 ∧ OwnL wc w.heap.size v L ∧ L.length ≤ m ∧ ShortL L
 hD : w.heap.size + 2 ≤ D
 hR : R < w.heap.size
theorem DS.ext {w wc wd : World} {R q D : Nat} {b : Book} {a1 a2 : Option Addr} {c1 c2 m : Nat} (h : DS w wc R q D b a1 a2 c1 c2 m) (e : Ext wc wd) : DS w wd R q D b a1 a2 c1 c2 m :=
 ⟨gb_tr h.on (gb_ext e _), h.rd.ext e, h.rb.ext e, h.rr.ext e, by
  obtain ⟨kind, name, L, v, k1, k2, k3, k4, k5⟩ := h.d
  exact ⟨kind, name, L, v, k1.ext e, k2, k3.ext e, k4, k5⟩, h.hD, h.hR⟩
theorem DS.read {w wc wd : World} {R q q' D : Nat} {b : Book} {a1 a2 : Option Addr} {c1 c2 m : Nat} (h : DS w wc R q D b a1 a2 c1 c2 m) (g : wc.grownBy wd (some R)) (hr : Rd wd R q') : DS w wd R q' D b a1 a2 c1 c2 m := by
 have hR := h.hR
 have hD := h.hD
 refine ⟨gb_tr h.on g, hr, h.rb.kept g (by simp; omega), h.rr.kept g (by simp; omega), ?_, h.hD, h.hR⟩
 obtain ⟨kind, name, L, v, k1, k2, k3, k4, k5⟩ := h.d
 exact ⟨kind, name, L, v, k1.kept g (by simp; omega), k2, k3.far g (fun k e => by cases e; omega), k4, k5⟩
theorem DS.mono {w wc : World} {R q q' D : Nat} {b : Book} {a1 a2 : Option Addr} {c1 c2 m : Nat} (h : DS w wc R q D b a1 a2 c1 c2 m) (hq : q ≤ q') : DS w wc R q' D b a1 a2 c1 c2 m := ⟨h.on, h.rd.mono hq, h.rb, h.rr, h.d, h.hD, h.hR⟩
theorem DS.book {w wc : World} {R q q0 D : Nat} {b : Book} {a1 a2 : Option Addr} {c1 c2 m : Nat} (h : DS w wc R q D b a1 a2 c1 c2 m) (hb : BookAt w a1 a2 b) (hr : Rd w R q0) : BookAt wc a1 a2 b := hb.on hr h.on
theorem DS.store {w wc : World} {R q D : Nat} {b : Book} {a1 a2 : Option Addr} {c1 c2 m : Nat} (h : DS w wc R q D b a1 a2 c1 c2 m) (i : Nat) (u : Value)
  (hd : ∀ (l : List Value), Rec wc D 31 l → Rec (wc.setCell ⟨D, i, none⟩ u) D 31 (l.set i u) → ∃ (kind : Nat) (name : Str) (L : List Str) (v : Value), Rec (wc.setCell ⟨D, i, none⟩ u) D 31 [.int .i64 (kind : Int), .string (S name), v] ∧ name.length ≤ 140737488355328 ∧ OwnL (wc.setCell ⟨D, i, none⟩ u) w.heap.size v L ∧ L.length ≤ m ∧ ShortL L) :
  DS w (wc.setCell ⟨D, i, none⟩ u) R q D b a1 a2 c1 c2 m := by
 have hR := h.hR
 have hD := h.hD
 have g := gb_store wc D i u
 obtain ⟨kind, name, L, v, k1, _⟩ := h.d
 refine ⟨on_grown h.on g (fun k e => by cases e; omega), h.rd.gb g (fun k e => by cases e; omega), h.rb.kept g (by simp; omega), h.rr.kept g (by simp; omega), hd _ k1 (k1.set i u), h.hD, h.hR⟩
theorem DS.setKind {w wc : World} {R q D : Nat} {b : Book} {a1 a2 : Option Addr} {c1 c2 m : Nat} (h : DS w wc R q D b a1 a2 c1 c2 m) (k : Nat) : DS w (wc.setCell ⟨D, 0, none⟩ (.int .i64 (k : Int))) R q D b a1 a2 c1 c2 m := by
 obtain ⟨kind, name, L, v, k1, k2, k3, k4, k5⟩ := h.d
 exact h.store 0 _ (fun l _ _ => ⟨k, name, L, v, k1.set 0 _, k2, k3.stored k1 rfl _ _, k4, k5⟩)
theorem DS.setName {w wc : World} {R q D : Nat} {b : Book} {a1 a2 : Option Addr} {c1 c2 m : Nat} (h : DS w wc R q D b a1 a2 c1 c2 m) (n : Str) (hn : n.length ≤ 140737488355328) : DS w (wc.setCell ⟨D, 1, none⟩ (.string (S n))) R q D b a1 a2 c1 c2 m := by
 obtain ⟨kind, name, L, v, k1, k2, k3, k4, k5⟩ := h.d
 exact h.store 1 _ (fun l _ _ => ⟨kind, n, L, v, k1.set 1 _, hn, k3.stored k1 rfl _ _, k4, k5⟩)
theorem DS.setList {w wc : World} {R q D : Nat} {b : Book} {a1 a2 : Option Addr} {c1 c2 m : Nat} (h : DS w wc R q D b a1 a2 c1 c2 m) {v : Value} {L : List Str} (ho : OwnL wc w.heap.size v L) (hl : L.length ≤ m) (hs : ShortL L) : DS w (wc.setCell ⟨D, 2, none⟩ v) R q D b a1 a2 c1 c2 m := by
 obtain ⟨kind, name, L', v', k1, k2, k3, k4, k5⟩ := h.d
 exact h.store 2 _ (fun l _ _ => ⟨kind, name, L, v, k1.set 2 _, k2, ho.stored k1 rfl _ _, hl, hs⟩)
theorem DS.facts {w wc : World} {R q D : Nat} {b : Book} {a1 a2 : Option Addr} {c1 c2 m : Nat} (h : DS w wc R q D b a1 a2 c1 c2 m) :
  wc.cell? ⟨w.heap.size, 0, none⟩ = some (.slice a1 b.things.length c1) ∧ wc.cell? ⟨w.heap.size, 1, none⟩ = some (.slice a2 b.batches.length c2) ∧
  (∃ (kind : Nat) (name : Str) (L : List Str) (a : Option Addr) (c : Nat), wc.cell? ⟨D, 0, none⟩ = some (.int .i64 (kind : Int)) ∧ wc.cell? ⟨D, 1, none⟩ = some (.string (S name)) ∧ wc.cell? ⟨D, 2, none⟩ = some (.slice a L.length c) ∧ name.length ≤ 140737488355328 ∧ OwnL wc w.heap.size (.slice a L.length c) L ∧ L.length ≤ m ∧ ShortL L) ∧
  (∀ i, wc.frozen? ⟨D, i, none⟩ = false) := by
 obtain ⟨kind, name, L, v, k1, k2, k3, k4, k5⟩ := h.d
 obtain ⟨a, c, rfl⟩ := own_sl k3
 exact ⟨h.rb.cell rfl, h.rb.cell rfl, ⟨kind, name, L, a, c, k1.cell rfl, k1.cell rfl, k1.cell rfl, k2, k3, k4, k5⟩, fun i => k1.frozen i⟩
def words4 : List Str := [[], [97], [122, 122], [116, 117, 110]]
theorem words4_short : ShortS words4 := ⟨by simp [words4], fun i hi => by
 match i, hi with
 | 0, _ => simp [words4, nth]
 | 1, _ => simp [words4, nth]
 | 2, _ => simp [words4, nth]
 | 3, _ => simp [words4, nth]⟩
def words3 : List Str := [[], [65], [122, 122]]
theorem words3_short : ShortS words3 := ⟨by simp [words3], fun i hi => by
 match i, hi with
 | 0, _ => simp [words3, nth]
 | 1, _ => simp [words3, nth]
 | 2, _ => simp [words3, nth]⟩
theorem DS.boxNe {w wc : World} {R q D : Nat} {b : Book} {a1 a2 : Option Addr} {c1 c2 m : Nat} (h : DS w wc R q D b a1 a2 c1 c2 m) {base : Nat} {v : Value} {L : List Str} (ho : OwnL wc base v L) : some D ≠ v.ownBlock := by
 obtain ⟨kind, name, L', v', k1, _⟩ := h.d
 exact k1.not_row rfl ho
theorem DS.boxFrozen {w wc wd : World} {R q D : Nat} {b : Book} {a1 a2 : Option Addr} {c1 c2 m : Nat} (h : DS w wc R q D b a1 a2 c1 c2 m) {base : Nat} {v : Value} {L : List Str} (ho : OwnL wc base v L) (g : wc.grownBy wd v.ownBlock) (i : Nat) : wd.frozen? ⟨D, i, none⟩ = false := by
 obtain ⟨kind, name, L', v', k1, _⟩ := h.d
 exact (k1.kept g (k1.not_row rfl ho)).frozen i
theorem DS.wide {w wc : World} {R q D : Nat} {b : Book} {a1 a2 : Option Addr} {c1 c2 m m' : Nat} (h : DS w wc R q D b a1 a2 c1 c2 m) (hm : m ≤ m') : DS w wc R q D b a1 a2 c1 c2 m' :=
 ⟨h.on, h.rd, h.rb, h.rr, by
  obtain ⟨kind, name, L, v, k1, k2, k3, k4, k5⟩ := h.d
  exact ⟨kind, name, L, v, k1, k2, k3, by omega, k5⟩, h.hD, h.hR⟩
theorem DS.appended {w wc wd : World} {R q D : Nat} {b : Book} {a1 a2 : Option Addr} {c1 c2 m m' : Nat} (h : DS w wc R q D b a1 a2 c1 c2 m) {v v' : Value} {L L' : List Str} (ho : OwnL wc w.heap.size v L) (g : wc.grownBy wd v.ownBlock) (ho' : OwnL wd w.heap.size v' L') (hl : L'.length ≤ m') (hs : ShortL L') :
  DS w (wd.setCell ⟨D, 2, none⟩ v') R q D b a1 a2 c1 c2 m' := by
 have hR := h.hR
 have hD := h.hD
 have hob : ∀ k, v.ownBlock = some k → w.heap.size ≤ k := fun k e => (ho.lt k e).1
 obtain ⟨kind, name, L0, v0, k1, k2, _⟩ := h.d
 have k1' := k1.kept g (k1.not_row rfl ho)
 have g2 := gb_store wd D 2 v'
 refine ⟨on_grown (on_grown h.on g hob) g2 (fun k e => by cases e; omega), (h.rd.gb g (fun k e => by have := hob k e; omega)).gb g2 (fun k e => by cases e; omega), (h.rb.kept g (h.rb.not_row rfl ho)).kept g2 (by simp; omega), (h.rr.kept g (h.rr.not_row rfl ho)).kept g2 (by simp; omega), ?_, h.hD, h.hR⟩
 exact ⟨kind, name, L', v', k1'.set 2 _, k2, ho'.stored k1' rfl _ _, hl, hs⟩
def DoesSm (b : Book) : Prop := b.things.length ≤ 9 ∧ b.batches.length ≤ 7 ∧ ∀ i, i < b.batches.length → (nthB b.batches i).needs.length ≤ 9
theorem DoesSm.ok {b : Book} (h : bookOk b = true) : DoesSm b := ⟨by have := things_eight h; omega, by have := (ok_parts h).2.1; omega, fun i hi => by
 have := (ok_lens h hi).1
 have e : b.at i = nthB b.batches i := rfl
 rw [e] at this; omega⟩
set_option maxRecDepth 100000 in
set_option maxHeartbeats 2000000 in
theorem l5Does_any (R q : Nat) (b : Book) (a1 a2 : Option Addr) (c1 c2 : Nat) (w : World) (h : Rd w R q) (hq : q ≤ 900000) (hb : BookAt w a1 a2 b) (hok : DoesSm b) :
  Calls Qry.prog 41 #[.pointer (some ⟨R, 0, none⟩), .agg #[.slice a1 b.things.length c1, .slice a2 b.batches.length c2]] w fun e w' =>
   ∃ (kind : Nat) (name : Str) (L : List Str) (a : Option Addr) (c : Nat), e = .returned (.agg #[.int .i64 (kind : Int), .string (S name), .slice a L.length c]) ∧ w.grownBy w' (some R) ∧ Rd w' R (q + 60) ∧ StrsAt w' a L ∧ name.length ≤ 140737488355328 := by
 have hlt0 := h.lt
 have e2 : ∀ o1 o2, Ext w ((w.alloc o1).alloc o2) := fun o1 o2 => ((Below.refl _ _).alloc (Nat.le_refl _) _).alloc (by simp) _
 go_enter Qry.func41, Tryz.ntmps41
 go_wp2_with fail
 refine (l5Names_any _).mono ?_
 rintro e w1 ⟨rfl, hE1, hf1⟩
 have hz1 := hE1.size
 simp at hz1 hf1
 go_wp2_with fail
 have hof := of_any R q _ 5 five w1 ((h.ext (e2 _ _)).ext hE1) (by omega) hf1 (by simp [five]) (by simp [five]) (fun b o e => by cases e; simp; omega)
 have e5 : five.length = 5 := rfl
 rw [e5] at hof
 refine hof.mono ?_
 clear hof
 rintro e w2 ⟨j, hj, rfl, hg2, hr2⟩
 have HR0 : Hid (Rec w2 w.heap.size 26 [.slice a1 b.things.length c1, .slice a2 b.batches.length c2]) := (((Rec.new w _ _).ext (ext_alloc _ _)).ext hE1).kept hg2 (by simp; omega)
 have HR1 : Hid (Rec w2 (w.heap.size + 1) 31 [.int .i64 0, .string (S []), .slice none 0 0]) := by
  have h := (Rec.new (w.alloc (.cells #[.slice a1 b.things.length c1, .slice a2 b.batches.length c2] 26)) 31 [.int .i64 0, .string (S []), .slice none 0 0]).ext hE1
  have e : (w.alloc (.cells #[.slice a1 b.things.length c1, .slice a2 b.batches.length c2] 26)).heap.size = w.heap.size + 1 := by simp
  rw [e] at h
  exact h.kept hg2 (by simp; omega)
 have hz2 := hg2.size
 have HDS : Hid (DS w (w2.alloc (.cells #[.int .i64 2, .string (S (nth five j)), .slice none 0 0] 31)) R (q + 1) w2.heap.size b a1 a2 c1 c2 9) :=
  ⟨gb_tr (gb_tr (gb_ext (Ext.tr (e2 _ _) hE1) _) hg2) (gb_ext (ext_alloc _ _) _), hr2.ext (ext_alloc _ _), HR0.out.ext (ext_alloc _ _), HR1.out.ext (ext_alloc _ _), ⟨2, nth five j, [], .slice none 0 0, Rec.new w2 _ _, five_short.2 j hj, World.ownsRow_nil _ _ _ _, by simp, ShortL.nil⟩, by omega, hlt0⟩
 clear hg2 hr2 hE1 hf1 HR0 HR1
 go_upto_region 2 with fail
 generalize w2.alloc (.cells #[.int .i64 2, .string (S (nth five j)), .slice none 0 0] 31) = w3 at HDS ⊢
 generalize w2.heap.size = D at HDS ⊢
 clear e5 hz1 hz2
 go_cut [20] (fun v wx => ∃ x : Bool, v = .bool x ∧ (x = true → 0 < b.batches.length) ∧ DS w wx R (q + 2) D b a1 a2 c1 c2 9)
 case first =>
  obtain ⟨p0, p1, _, _⟩ := HDS.out.facts
  by_cases hbt : 0 < b.batches.length
  ·have hbi : (0 : Int) < (b.batches.length : Int) := by omega
   go_wp2_with fail
   refine (pick_any R (q + 1) 8 w3 HDS.out.rd (by omega) (by omega) (by omega)).mono ?_
   rintro e w4 ⟨j', rfl, hj', hg4, hr4⟩
   have HD4 := hid (HDS.out.read hg4 hr4)
   clear hg4 hr4 p0 p1
   go_wp2_with fail
   go_meet
   exact ⟨_, rfl, fun _ => hbt, HD4.out⟩
  ·have hbi : ¬ ((0 : Int) < (b.batches.length : Int)) := by omega
   go_wp2_with fail
   go_meet
   exact ⟨false, rfl, (fun h => by cases h), HDS.out.mono (by omega)⟩
 case rest =>
  obtain ⟨x, rfl, hx, hds⟩ := hcut
  have HD1 := hid hds
  clear hds HDS
  go_upto_if 20 with fail
  go_cut [] (fun wx => DS w wx R (q + 3) D b a1 a2 c1 c2 9)
  case first =>
   cases x
   ·go_wp2_with fail
    go_meet
    exact HD1.out.mono (by omega)
   ·have hbt := hx rfl
    obtain ⟨p0, p1, ⟨kind, name, L, av, cv, d0, d1, d2, k2, k3, k4, k5⟩, hfz⟩ := HD1.out.facts
    go_wp2_with fail
    refine wp_region_T (fun w' => w'.cell? ⟨w.heap.size, 1, none⟩ = some (.slice a2 b.batches.length c2)) 11 (by kernel_rfl) p1 (fun hS => ?_)
    refine tk 0 hS ?_
    try simp only [List.set]
    refine tk 1 hS ?_
    try simp only [List.set]
    refine tk 2 hS ?_
    try simp only [List.set]
    refine tk 3 hS ?_
    try simp only [List.set]
    refine tk 4 hS ?_
    try simp only [List.set]
    refine tk 5 hS ?_
    try simp only [List.set]
    refine wpT_one 6 rfl (by kernel_rfl) rfl rfl (fun K hK => ?_)
    go_simp
    refine (pick_any R (q + 2) b.batches.length _ (HD1.out.rd.ext (ext_drewN wc 1)) (by omega) hbt (by have := hok.2.1; omega)).mono ?_
    rintro e w5 ⟨k, rfl, hk, hg5, hr5⟩
    have HD5 := hid ((HD1.out.ext (ext_drewN wc 1)).read hg5 hr5)
    have hbk := HD5.out.book hb h
    obtain ⟨ba, oa, rfl, hl, e1, g1, e2', g2, z0, z1, z2, s1, s2⟩ := hbk.2.2 k hk
    clear p0 p1 d0 d1 d2 k2 k3 k4 k5 hfz hg5 hr5 s1 s2
    obtain ⟨p0, p1, ⟨kind', name', L', av', cv', d0, d1, d2, k2, k3, k4, k5⟩, hfz⟩ := HD5.out.facts
    go_wp2_with fail
    refine hK.out _ _ p1 (fun hS1 => ?_)
    clear hK hS
    have hS := hS1
    clear hS1
    try clear K
    try simp only [put_some, List.set]
    refine wpT_one 7 rfl (by kernel_rfl) rfl rfl (fun K hK => ?_)
    go_simp
    refine hK.out _ _ hS (fun hS1 => ?_)
    clear hK hS
    have hS := hS1
    clear hS1
    try clear K
    try simp only [put_some, List.set]
    refine wpT_one 8 rfl (by kernel_rfl) rfl rfl (fun K hK => ?_)
    go_simp
    refine hK.out _ _ hS (fun hS1 => ?_)
    clear hK hS
    have hS := hS1
    clear hS1
    try clear K
    try simp only [put_some, List.set]
    refine wpT_one 9 rfl (by kernel_rfl) rfl rfl (fun K hK => ?_)
    go_simp
    refine hK.out _ _ hS (fun hS1 => ?_)
    clear hK hS
    have hS := hS1
    clear hS1
    try clear K
    try simp only [put_some, List.set]
    refine wpT_one 10 rfl (by kernel_rfl) rfl rfl (fun K hK => ?_)
    go_simp
    refine hK.out _ _ hS (fun hS1 => ?_)
    clear hK hS
    have hS := hS1
    clear hS1
    try clear K
    try simp only [put_some, List.set]
    have HD6 := hid (HD5.out.setName (nthB b.batches k).name hl)
    have hfz1 := hfz 1
    clear hS HD5 HD1 hbk p0 p1 z0 z1 z2 d0 d2 k3 hfz
    refine wpT_last rfl (by kernel_rfl) (by kernel_rfl) rfl (fun K hK => ?_)
    go_simp
    refine hK.out _ _ ?_
    clear hK
    go_wp2_with fail
    go_meet
    exact HD6.out
  case rest =>
   have HD2 := hid hcut
   clear hcut HD1 hx
   go_upto_region 4 with fail
   go_cut [6] (fun v wx => (∃ z : Int, v = .int .i64 z ∧ ((∃ k : Nat, z = (k : Int) ∧ k < b.batches.length) ∨ z = -1)) ∧ DS w wx R (q + 3) D b a1 a2 c1 c2 9)
   case first =>
    obtain ⟨p0, p1, ⟨kind, name, L, av, cv, d0, d1, d2, k2, k3, k4, k5⟩, hfz⟩ := HD2.out.facts
    go_wp2_with fail
    refine (l1At_any b name _ _ _ _ _ (HD2.out.book hb h)).mono ?_
    rintro e w5 ⟨hres, hE5⟩
    have HD5 := hid (HD2.out.ext hE5)
    clear p0 p1 d0 d1 d2 k2 k3 k4 k5 hfz hE5
    rcases hres with ⟨k, rfl, hfa⟩ | ⟨rfl, _⟩
    ·have hkl : k < b.batches.length := by have := hfa.1; rwa [namesOf_length] at this
     go_wp2_with fail
     go_meet
     exact ⟨⟨_, rfl, Or.inl ⟨k, rfl, hkl⟩⟩, HD5.out⟩
    ·go_wp2_with fail
     go_meet
     exact ⟨⟨_, rfl, Or.inr rfl⟩, HD5.out⟩
   case rest =>
    obtain ⟨⟨z6, rfl, hv6⟩, hds⟩ := hcut
    have HD3 := hid hds
    clear hds HD2
    obtain ⟨p0, p1, _, _⟩ := HD3.out.facts
    have hbk := HD3.out.book hb h
    go_upto_if 39 with fail
    go_cut [7] (fun v wx => (∃ (a : Option Addr) (L : List Str) (c : Nat), v = .slice a L.length c ∧ StrsAt w a L ∧ L.length ≤ 9) ∧ DS w wx R (q + 3) D b a1 a2 c1 c2 9)
    case first =>
     rcases hv6 with ⟨k, rfl, hkl⟩ | rfl
     ·obtain ⟨ba, oa, rfl, hl, e1, g1, e2', g2, z0, z1, z2, s1, s2⟩ := hb.2.2 k hkl
      have z2' := HD3.out.on.cell z2 (fun e => h.ne_str z0 (by simpa using e))
      have hk0 : ¬ ((k : Int) < 0) := by omega
      have hk1 : (0 : Int) ≤ (k : Int) := by omega
      go_wp2_with fail
      go_meet
      exact ⟨⟨_, _, _, rfl, s2, hok.2.2 _ hkl⟩, HD3.out⟩
     ·go_wp2_with fail
      go_meet
      exact ⟨⟨_, _, _, rfl, hb.1, hok.1⟩, HD3.out⟩
    case rest =>
     obtain ⟨⟨an, N, cn, rfl, hN, hN8⟩, hds⟩ := hcut
     have HD4 := hid hds
     clear hds HD3 p0 p1 hbk hv6
     go_wp2_with fail
     refine (pick_any R (q + 3) 9 _ HD4.out.rd (by omega) (by omega) (by omega)).mono ?_
     rintro e w6 ⟨j9, rfl, hj9, hg6, hr6⟩
     have HD6 := hid (HD4.out.read hg6 hr6)
     clear hg6 hr6 HD4
     have hN6 := hN.on h HD6.out.on
     go_upto_block 0 with fail
     go_cut [] (fun wx => DS w wx R (q + 14) D b a1 a2 c1 c2 9)
     case first =>
      obtain ⟨p0, p1, ⟨kind, name, L, av, cv, d0, d1, d2, k2, k3, k4, k5⟩, hfz⟩ := HD6.out.facts
      have hf0 := hfz 0
      have hf1 := hfz 1
      have hf2 := hfz 2
      clear hfz
      by_cases hj2 : j9 ≤ 2
      ·have hjc : j9 = 0 ∨ j9 = 1 ∨ j9 = 2 := by omega
       rcases hjc with rfl | rfl | rfl
       ·have HDk : Hid (DS w (w6.setCell ⟨D, 0, none⟩ (.int .i64 1)) R (q + 3 + 1) D b a1 a2 c1 c2 9) := HD6.out.setKind 1
        go_wp2_with fail
        clear p0 p1 d0 d1 d2 k3 hf0 hf1 hf2
        generalize w6.setCell ⟨D, 0, none⟩ (.int .i64 1) = w6k at HDk ⊢
        refine (l5Names_any _).mono ?_
        rintro e wA ⟨rfl, hEA, hfA⟩
        have HDA := hid (HDk.out.ext hEA)
        go_wp2_with fail
        have hof := of_any R (q + 3 + 1) _ 5 five wA HDA.out.rd (by omega) hfA (by simp [five]) (by simp [five]) (fun b' o' e' => hfA.notR HDA.out.rd (by simp [five]) b' o' e')
        have e5 : five.length = 5 := rfl
        rw [e5] at hof
        refine hof.mono ?_
        clear hof
        rintro e wB ⟨jB, hjB, rfl, hgB, hrB⟩
        have HDB := hid (HDA.out.read hgB hrB)
        have HDN := hid (HDB.out.setName (nth five jB) (five_short.2 jB (by rw [e5]; exact hjB)))
        obtain ⟨p0, p1, ⟨kind, name, L, av, cv, d0, d1, d2, k2, k3, k4, k5⟩, hfz⟩ := HDB.out.facts
        have hf1 := hfz 1
        have hx0 := HDN.out.rb.cell (i := 0) rfl
        clear hgB hrB hEA hfA hfz
        go_wp2_with fail
        clear p0 p1 d0 d1 d2 k3 hf1 hx0
        generalize wB.setCell ⟨D, 1, none⟩ (.string (S (nth five jB))) = wN at HDN ⊢
        have hTN := hb.1.on h HDN.out.on
        obtain ⟨p0, p1, ⟨kind, name, L, av, cv, d0, d1, d2, k2, k3, k4, k5⟩, hfz⟩ := HDN.out.facts
        have hf0 := hfz 0
        have hf1 := hfz 1
        have hf2 := hfz 2
        clear hfz
        refine (l5Some_any R (q + 3 + 1 + 1) 2 a1 c1 b.things _ HDN.out.rd (by have := hok.1; omega) (by omega) (by omega) hTN (fun hp b' o' e' => hTN.notR HDN.out.rd hp b' o' e')).mono ?_
        rintro e w7 ⟨v, M, rfl, hg7, hr7, ho7, hsub⟩
        obtain ⟨am, cm, rfl⟩ := own_sl ho7
        have HD7 := hid ((HDN.out.read hg7 hr7).setList (ho7.low HDN.out.on.size) (by have := hsub.length_le; have := hok.1; omega) (sub_short hsub hb.1.short).2)
        have HD7' := hid (HDN.out.read hg7 hr7)
        clear hg7 hr7 ho7 p0 p1 d0 d1 d2 k3 hf0 hf1 hf2
        obtain ⟨p0, p1, ⟨kind', name', L', av', cv', d0, d1, d2, k2', k3', k4', k5'⟩, hfz⟩ := HD7'.out.facts
        have hf2 := hfz 2
        clear hfz
        go_wp2_with fail
        go_meet
        exact HD7.out.mono (by have := hok.1; omega)
       ·have HDk : Hid (DS w (w6.setCell ⟨D, 0, none⟩ (.int .i64 1)) R (q + 3 + 1) D b a1 a2 c1 c2 9) := HD6.out.setKind 1
        go_wp2_with fail
        clear p0 p1 d0 d1 d2 k3 hf0 hf1 hf2
        generalize w6.setCell ⟨D, 0, none⟩ (.int .i64 1) = w6k at HDk ⊢
        refine (l5Names_any _).mono ?_
        rintro e wA ⟨rfl, hEA, hfA⟩
        have HDA := hid (HDk.out.ext hEA)
        go_wp2_with fail
        have hof := of_any R (q + 3 + 1) _ 5 five wA HDA.out.rd (by omega) hfA (by simp [five]) (by simp [five]) (fun b' o' e' => hfA.notR HDA.out.rd (by simp [five]) b' o' e')
        have e5 : five.length = 5 := rfl
        rw [e5] at hof
        refine hof.mono ?_
        clear hof
        rintro e wB ⟨jB, hjB, rfl, hgB, hrB⟩
        have HDB := hid (HDA.out.read hgB hrB)
        have HDN := hid (HDB.out.setName (nth five jB) (five_short.2 jB (by rw [e5]; exact hjB)))
        obtain ⟨p0, p1, ⟨kind, name, L, av, cv, d0, d1, d2, k2, k3, k4, k5⟩, hfz⟩ := HDB.out.facts
        have hf1 := hfz 1
        have hx0 := HDN.out.rb.cell (i := 0) rfl
        clear hgB hrB hEA hfA hfz
        go_wp2_with fail
        clear p0 p1 d0 d1 d2 k3 hf1 hx0
        generalize wB.setCell ⟨D, 1, none⟩ (.string (S (nth five jB))) = wN at HDN ⊢
        have hTN := hb.1.on h HDN.out.on
        obtain ⟨p0, p1, ⟨kind, name, L, av, cv, d0, d1, d2, k2, k3, k4, k5⟩, hfz⟩ := HDN.out.facts
        have hf0 := hfz 0
        have hf1 := hfz 1
        have hf2 := hfz 2
        clear hfz
        refine (l5Some_any R (q + 3 + 1 + 1) 2 a1 c1 b.things _ HDN.out.rd (by have := hok.1; omega) (by omega) (by omega) hTN (fun hp b' o' e' => hTN.notR HDN.out.rd hp b' o' e')).mono ?_
        rintro e w7 ⟨v, M, rfl, hg7, hr7, ho7, hsub⟩
        obtain ⟨am, cm, rfl⟩ := own_sl ho7
        have HD7 := hid ((HDN.out.read hg7 hr7).setList (ho7.low HDN.out.on.size) (by have := hsub.length_le; have := hok.1; omega) (sub_short hsub hb.1.short).2)
        have HD7' := hid (HDN.out.read hg7 hr7)
        clear hg7 hr7 ho7 p0 p1 d0 d1 d2 k3 hf0 hf1 hf2
        obtain ⟨p0, p1, ⟨kind', name', L', av', cv', d0, d1, d2, k2', k3', k4', k5'⟩, hfz⟩ := HD7'.out.facts
        have hf2 := hfz 2
        clear hfz
        go_wp2_with fail
        go_meet
        exact HD7.out.mono (by have := hok.1; omega)
       ·have HDk : Hid (DS w (w6.setCell ⟨D, 0, none⟩ (.int .i64 1)) R (q + 3 + 1) D b a1 a2 c1 c2 9) := HD6.out.setKind 1
        go_wp2_with fail
        clear p0 p1 d0 d1 d2 k3 hf0 hf1 hf2
        generalize w6.setCell ⟨D, 0, none⟩ (.int .i64 1) = w6k at HDk ⊢
        refine (l5Names_any _).mono ?_
        rintro e wA ⟨rfl, hEA, hfA⟩
        have HDA := hid (HDk.out.ext hEA)
        go_wp2_with fail
        have hof := of_any R (q + 3 + 1) _ 5 five wA HDA.out.rd (by omega) hfA (by simp [five]) (by simp [five]) (fun b' o' e' => hfA.notR HDA.out.rd (by simp [five]) b' o' e')
        have e5 : five.length = 5 := rfl
        rw [e5] at hof
        refine hof.mono ?_
        clear hof
        rintro e wB ⟨jB, hjB, rfl, hgB, hrB⟩
        have HDB := hid (HDA.out.read hgB hrB)
        have HDN := hid (HDB.out.setName (nth five jB) (five_short.2 jB (by rw [e5]; exact hjB)))
        obtain ⟨p0, p1, ⟨kind, name, L, av, cv, d0, d1, d2, k2, k3, k4, k5⟩, hfz⟩ := HDB.out.facts
        have hf1 := hfz 1
        have hx0 := HDN.out.rb.cell (i := 0) rfl
        clear hgB hrB hEA hfA hfz
        go_wp2_with fail
        clear p0 p1 d0 d1 d2 k3 hf1 hx0
        generalize wB.setCell ⟨D, 1, none⟩ (.string (S (nth five jB))) = wN at HDN ⊢
        have hTN := hb.1.on h HDN.out.on
        obtain ⟨p0, p1, ⟨kind, name, L, av, cv, d0, d1, d2, k2, k3, k4, k5⟩, hfz⟩ := HDN.out.facts
        have hf0 := hfz 0
        have hf1 := hfz 1
        have hf2 := hfz 2
        clear hfz
        refine (l5Some_any R (q + 3 + 1 + 1) 2 a1 c1 b.things _ HDN.out.rd (by have := hok.1; omega) (by omega) (by omega) hTN (fun hp b' o' e' => hTN.notR HDN.out.rd hp b' o' e')).mono ?_
        rintro e w7 ⟨v, M, rfl, hg7, hr7, ho7, hsub⟩
        obtain ⟨am, cm, rfl⟩ := own_sl ho7
        have HD7 := hid ((HDN.out.read hg7 hr7).setList (ho7.low HDN.out.on.size) (by have := hsub.length_le; have := hok.1; omega) (sub_short hsub hb.1.short).2)
        have HD7' := hid (HDN.out.read hg7 hr7)
        clear hg7 hr7 ho7 p0 p1 d0 d1 d2 k3 hf0 hf1 hf2
        obtain ⟨p0, p1, ⟨kind', name', L', av', cv', d0, d1, d2, k2', k3', k4', k5'⟩, hfz⟩ := HD7'.out.facts
        have hf2 := hfz 2
        clear hfz
        go_wp2_with fail
        go_meet
        exact HD7.out.mono (by have := hok.1; omega)
      ·by_cases hj3 : j9 = 3
       ·have HDk : Hid (DS w (w6.setCell ⟨D, 0, none⟩ (.int .i64 3)) R (q + 3 + 1) D b a1 a2 c1 c2 9) := HD6.out.setKind 3
        subst hj3
        go_wp2_with fail
        clear p0 p1 d0 d1 d2 k3 hf0 hf1 hf2
        generalize w6.setCell ⟨D, 0, none⟩ (.int .i64 3) = w6k at HDk ⊢
        obtain ⟨p0, p1, ⟨kind, name, L, av, cv, d0, d1, d2, k2, k3, k4, k5⟩, hfz⟩ := HDk.out.facts
        have hf0 := hfz 0
        have hf1 := hfz 1
        have hf2 := hfz 2
        clear hfz
        have hNk := hN.on h HDk.out.on
        refine (l5Some_any R (q + 3 + 1) 2 an cn N _ HDk.out.rd (by omega) (by omega) (by omega) hNk (fun hp b' o' e' => hNk.notR HDk.out.rd hp b' o' e')).mono ?_
        rintro e w7 ⟨v, M, rfl, hg7, hr7, ho7, hsub⟩
        obtain ⟨am, cm, rfl⟩ := own_sl ho7
        have HD7 := hid ((HDk.out.read hg7 hr7).setList (ho7.low HDk.out.on.size) (by have := hsub.length_le; have := hok.1; omega) (sub_short hsub hN.short).2)
        have HD7' := hid (HDk.out.read hg7 hr7)
        clear hg7 hr7 ho7 p0 p1 d0 d1 d2 k3 hf0 hf1 hf2
        obtain ⟨p0, p1, ⟨kind', name', L', av', cv', d0, d1, d2, k2', k3', k4', k5'⟩, hfz⟩ := HD7'.out.facts
        have hf2 := hfz 2
        clear hfz
        go_wp2_with fail
        go_meet
        exact HD7.out.mono (by have := hok.1; omega)
       ·by_cases hj4 : j9 = 4
        ·have HDk : Hid (DS w (w6.setCell ⟨D, 0, none⟩ (.int .i64 4)) R (q + 3 + 1) D b a1 a2 c1 c2 9) := HD6.out.setKind 4
         subst hj4
         go_wp2_with fail
         go_meet
         exact HDk.out.mono (by omega)
        ·have n0 : ((j9 : Int) == 0) = false := by simp; omega
         have n1 : ((j9 : Int) == 1) = false := by simp; omega
         have n2 : ((j9 : Int) == 2) = false := by simp; omega
         have n3 : ((j9 : Int) == 3) = false := by simp; omega
         have n4 : ((j9 : Int) == 4) = false := by simp; omega
         go_wp2_with fail
         refine (l5Some_any R (q + 4) 2 an cn N _ HD6.out.rd (by omega) (by omega) (by omega) hN6 (fun hp b' o' e' => hN6.notR HD6.out.rd hp b' o' e')).mono ?_
         rintro e w7 ⟨v, M, rfl, hg7, hr7, ho7, hsub⟩
         obtain ⟨am, cm, rfl⟩ := own_sl ho7
         have HD7 := hid ((HD6.out.read hg7 hr7).setList (ho7.low HD6.out.on.size) (by have := hsub.length_le; omega) (sub_short hsub hN.short).2)
         have HD7' := hid (HD6.out.read hg7 hr7)
         clear hg7 hr7 ho7 p0 p1 d0 d1 d2 k3 hf0 hf1 hf2
         obtain ⟨p0, p1, ⟨kind', name', L', av', cv', d0, d1, d2, k2', k3', k4', k5'⟩, hfz⟩ := HD7'.out.facts
         have hf2 := hfz 2
         clear hfz
         go_wp2_with fail
         go_meet
         exact HD7.out.mono (by omega)
     case rest =>
      have HD8 := hid hcut
      clear hcut HD6 hN6
      go_wp2_with fail
      refine (pick_any R (q + 14) 24 _ HD8.out.rd (by omega) (by omega) (by omega)).mono ?_
      rintro e w9 ⟨j24, rfl, hj24, hg9, hr9⟩
      have HD9 := hid (HD8.out.read hg9 hr9)
      clear hg9 hr9 HD8
      go_upto_block 1 with fail
      go_cut [] (fun wx => DS w wx R (q + 16) D b a1 a2 c1 c2 10)
      case first =>
       obtain ⟨p0, p1, ⟨kind, name, L, av, cv, d0, d1, d2, k2, k3, k4, k5⟩, hfz⟩ := HD9.out.facts
       have hf0 := hfz 0
       have hf1 := hfz 1
       have hf2 := hfz 2
       clear hfz
       by_cases hj0 : j24 = 0
       ·subst hj0
        go_wp2_with fail
        refine wp_region_T (fun w' => w'.cell? ⟨D, 2, none⟩ = some (.slice av L.length cv)) 8 (by kernel_rfl) d2 (fun hS => ?_)
        refine tk 0 hS ?_
        try simp only [List.set]
        refine tk 1 hS ?_
        try simp only [List.set]
        refine tk 2 hS ?_
        try simp only [List.set]
        refine wpT_one 3 rfl (by kernel_rfl) rfl rfl (fun K hK => ?_)
        go_simp
        refine hK.out _ _ ((ext_alloc _ _).keep hS) (fun hS1 => ?_)
        clear hK hS
        have hS := hS1
        clear hS1
        try clear K
        try simp only [put_some, List.set]
        have hEA : Ext w9 (w9.drew.alloc (.cells #[.string (S []), .string (S [97]), .string (S [122, 122]), .string (S [116, 117, 110])] 9)) := Ext.tr (ext_drewN w9 1) (ext_alloc _ _)
        have HDA := hid (HD9.out.ext hEA)
        have hfA : StrsAt (w9.drew.alloc (.cells #[.string (S []), .string (S [97]), .string (S [122, 122]), .string (S [116, 117, 110])] 9)) (some ⟨w9.heap.size, 0, none⟩) words4 := rec_strs (Rec.new w9.drew _ _) words4_short
        refine wpT_one 4 rfl (by kernel_rfl) rfl rfl (fun K hK => ?_)
        go_simp
        have hof := of_any R (q + 14 + 1) _ 4 words4 _ HDA.out.rd (by omega) hfA (by simp [words4]) (by simp [words4]) (fun b' o' e' => hfA.notR HDA.out.rd (by simp [words4]) b' o' e')
        have e4 : words4.length = 4 := rfl
        rw [e4] at hof
        refine hof.mono ?_
        clear hof
        rintro e wB ⟨jB, hjB, rfl, hgB, hrB⟩
        have HDB := hid (HDA.out.read hgB hrB)
        have hDR : D ≠ R := by have h1 := HD9.out.hD; have h2 := HD9.out.hR; omega
        go_wp2_with fail
        refine hK.out _ _ (hgB.cell hS (by simpa using hDR)) (fun hS1 => ?_)
        clear hK hS
        have hS := hS1
        clear hS1
        try clear K
        try simp only [put_some, List.set]
        refine wpT_one 5 rfl (by kernel_rfl) rfl rfl (fun K hK => ?_)
        go_simp
        refine hK.out _ _ ((ext_alloc _ _).keep hS) (fun hS1 => ?_)
        clear hK hS
        have hS := hS1
        clear hS1
        try clear K
        try simp only [put_some, List.set]
        have hw4 : (nth words4 jB).length ≤ 140737488355328 := words4_short.2 jB (by rw [e4]; exact hjB)
        have hST := one_str wB (nth words4 jB) hw4
        have HDC := hid (HDB.out.ext (ext_alloc wB (.cells #[.string (S (nth words4 jB))] 9)))
        have hOC : OwnL (wB.alloc (.cells #[.string (S (nth words4 jB))] 9)) w.heap.size (.slice av L.length cv) L := ((k3.ext hEA).far hgB (fun k e => by cases e; exact HD9.out.hR)).ext (ext_alloc _ _)
        refine wpT_one 6 rfl (by kernel_rfl) rfl rfl (fun K hK => ?_)
        refine wp_strs (L := L) (M := [nth words4 jB]) _ _ rfl rfl hOC rfl hST (by simp; omega) HDC.out.on.size (fun v' w2' h2 h3 h4 => ?_)
        obtain ⟨a2', c2', rfl⟩ := own_sl h2
        have hlT : (L ++ [nth words4 jB]).length = L.length + 1 := by simp
        rw [hlT] at h2 ⊢
        have hf2E : w2'.frozen? ⟨D, 2, none⟩ = false := HDC.out.boxFrozen hOC h3 2
        have hd2E : w2'.cell? ⟨D, 2, none⟩ = some (.slice av L.length cv) := h3.cell ((ext_alloc _ _).keep (hgB.cell (hEA.keep d2) (by simpa using hDR))) (HDC.out.boxNe hOC)
        refine hK.out _ _ hd2E (fun hS1 => ?_)
        clear hK hS
        have hS := hS1
        clear hS1
        try clear K
        try simp only [put_some, List.set]
        refine tk 7 hS ?_
        try simp only [List.set]
        have HDF := hid (HDC.out.appended (m' := 10) hOC h3 h2 (by rw [hlT]; omega) (k5.snoc hw4))
        clear hS h2 h3 h4 hOC hST HDC HDB HDA hfA hgB hrB hEA k3 d0 d1 d2 p0 p1 hf0 hf1 hf2
        refine wpT_last rfl (by kernel_rfl) (by kernel_rfl) rfl (fun K hK => ?_)
        go_simp
        refine hK.out _ _ ?_
        clear hK
        go_wp2_with fail
        go_meet
        exact HDF.out.mono (by omega)
       ·by_cases hj1 : j24 = 1
        ·subst hj1
         go_wp2_with fail
         have hfA : StrsAt (w9.alloc (.cells #[.string (S []), .string (S [65]), .string (S [122, 122])] 9)) (some ⟨w9.heap.size, 0, none⟩) words3 := rec_strs (Rec.new w9 _ _) words3_short
         have HDA := hid (HD9.out.ext (ext_alloc w9 (.cells #[.string (S []), .string (S [65]), .string (S [122, 122])] 9)))
         have hof := of_any R (q + 14 + 1) _ 3 words3 _ HDA.out.rd (by omega) hfA (by simp [words3]) (by simp [words3]) (fun b' o' e' => hfA.notR HDA.out.rd (by simp [words3]) b' o' e')
         have e3 : words3.length = 3 := rfl
         rw [e3] at hof
         refine hof.mono ?_
         clear hof
         rintro e wB ⟨jB, hjB, rfl, hgB, hrB⟩
         have HDB := hid (HDA.out.read hgB hrB)
         have HDN := hid (HDB.out.setName (nth words3 jB) (words3_short.2 jB (by rw [e3]; exact hjB)))
         clear p0 p1 d0 d1 d2 k3 hf0 hf1 hf2 hgB hrB hfA
         obtain ⟨p0, p1, ⟨kind', name', L', av', cv', d0, d1, d2, k2', k3', k4', k5'⟩, hfz⟩ := HDB.out.facts
         have hf1 := hfz 1
         clear hfz
         go_wp2_with fail
         go_meet
         exact (HDN.out.mono (by omega)).wide (by omega)
        ·have n0 : ((j24 : Int) == 0) = false := by simp; omega
         have n1 : ((j24 : Int) == 1) = false := by simp; omega
         go_wp2_with fail
         go_meet
         exact (HD9.out.mono (by omega)).wide (by omega)
      case rest =>
       have HDE := hid hcut
       clear hcut HD9
       obtain ⟨p0, p1, ⟨kind, name, L, av, cv, d0, d1, d2, k2, k3, k4, k5⟩, hfz⟩ := HDE.out.facts
       have t0 := HDE.out.rr.cell (i := 0) rfl
       have t1 := HDE.out.rr.cell (i := 1) rfl
       have t2 := HDE.out.rr.cell (i := 2) rfl
       have f0 := HDE.out.rr.frozen 0
       have f1 := HDE.out.rr.frozen 1
       have f2 := HDE.out.rr.frozen 2
       go_wp2
       have h1 := HDE.out.rr.set 0 (.int .i64 (kind : Int))
       have h2 := h1.set 1 (.string (S name))
       have hR := HDE.out.hR
       refine bodyPost_ret (v := .agg #[.int .i64 (kind : Int), .string (S name), .slice av L.length cv]) (by simp [results, Tryz.results41, go_sem, t0, t1, t2]) rfl ⟨kind, name, L, av, cv, rfl, ?_, ?_, ?_, k2⟩
       ·exact on_grown (on_grown (on_grown HDE.out.on (gb_store _ _ _ _) (fun g hg => by cases hg; omega)) (gb_store _ _ _ _) (fun g hg => by cases hg; omega)) (gb_store _ _ _ _) (fun g hg => by cases hg; omega)
       ·exact (((HDE.out.rd.gb (gb_store _ _ _ _) (fun g hg => by cases hg; omega)).gb (gb_store _ _ _ _) (fun g hg => by cases hg; omega)).gb (gb_store _ _ _ _) (fun g hg => by cases hg; omega)).mono (by omega)
       ·have ho := ((k3.stored HDE.out.rr rfl 0 (.int .i64 (kind : Int))).stored h1 rfl 1 (.string (S name))).stored h2 rfl 2 (.slice av L.length cv)
        obtain ⟨a', c', ea, hat⟩ := ho.at (by omega) k5
        simp only [Value.slice.injEq] at ea
        obtain ⟨rfl, _, _⟩ := ea
        exact hat
end Go.Proofs.YtdafpnpfcmgfcaaGreatDoor
