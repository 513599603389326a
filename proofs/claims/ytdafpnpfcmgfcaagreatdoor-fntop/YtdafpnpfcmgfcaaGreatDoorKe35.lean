/- The walks over l5Step and l5Book's loop. The walk over l5Wild. The walk over l5Wild: the loops. The walk over l5Book. The walk over the specification's l1Copy once more: no two of the copy's lists share a row. What l5Spoil does to a copy: its state. The walks over l5Dec and l5Spoil. The walk over l5Any. The walks over l5Asks, DrawShareLess and DrawShareEnter. Those on whom somebody waits: the specification. Going: a batch leaves. The walk over the program's ShareFits. The walk over the program's first: the first who can go. Moving, waiting, being stuck: what the law says of them. The walks over DrawShareMoves, DrawShareWaits and the specification's ShareStuck. -/
import Derived.Test.YtdafpnpfcmgfcaaGreatDoorKe29
import Derived.Test.YtdafpnpfcmgfcaaGreatDoorKe30
import Derived.Test.YtdafpnpfcmgfcaaGreatDoorKe31
import Derived.Test.YtdafpnpfcmgfcaaGreatDoorKe32
import Derived.Test.YtdafpnpfcmgfcaaGreatDoorKe34
import Derived.Test.YtdafpnpfcmgfcaaGreatDoorKe26
import Derived.Test.YtdafpnpfcmgfcaaGreatDoorKe20
import Derived.Test.YtdafpnpfcmgfcaaGreatDoorKe21
import Derived.Test.YtdafpnpfcmgfcaaGreatDoorKe23
import Derived.Test.YtdafpnpfcmgfcaaGreatDoorKe25
namespace Go.Proofs.YtdafpnpfcmgfcaaGreatDoor
section
open Go.RowKit
attribute [local go_sem] S_toList S_size S_get
def NoStr (l : List Value) : Prop := ∀ v ∈ l, ∀ s, v ≠ .string s
theorem rec_ne {w : World} {X : Nat} {t : TypeId} {l : List Value} (h : Rec w X t l) (hl : NoStr l) {b o : Nat} {s : ByteArray} (hc : w.cell? ⟨b, o, none⟩ = some (.string s)) : b ≠ X := by
 intro e
 subst e
 unfold World.cell? at hc
 simp only [show w.heap[b]? = _ from h] at hc
 have hm : l[o]? = some (.string s) := by simpa using hc
 exact hl _ (List.mem_of_getElem? hm) s rfl
theorem BookAt.gbox {w w' : World} {X : Nat} {a1 a2 : Option Addr} {b : Book} (h : BookAt w a1 a2 b) (g : w.grownBy w' (some X)) (hne : ∀ {b o : Nat} {s : ByteArray}, w.cell? ⟨b, o, none⟩ = some (.string s) → b ≠ X) : BookAt w' a1 a2 b := by
 have hs : ∀ {a : Option Addr} {ss : List Str}, StrsAt w a ss → StrsAt w' a ss := fun {a ss} hh => hh.gb g (fun hp b o e er => by
  obtain ⟨_, b', o', e', hc⟩ := hh.2 0 hp
  rw [e] at e'; cases e'
  exact hne hc (by simpa using er))
 refine ⟨hs h.1, h.2.1, fun i hi => ?_⟩
 obtain ⟨bb, o, e, h0, d1, g1, d2, g2, h1, h2, h3, h4, h5⟩ := h.2.2 i hi
 have hn : some bb ≠ some X := fun e => hne h1 (by simpa using e)
 exact ⟨bb, o, e, h0, d1, g1, d2, g2, g.cell h1 hn, g.cell h2 hn, g.cell h3 hn, hs h4, hs h5⟩
theorem BookAt.box {w : World} {X i : Nat} {t : TypeId} {l : List Value} {u : Value} {a1 a2 : Option Addr} {b : Book} (h : BookAt w a1 a2 b) (hr : Rec w X t l) (hl : NoStr l) : BookAt (w.setCell ⟨X, i, none⟩ u) a1 a2 b :=
 h.gbox (gb_store w X i u) (fun hc => rec_ne hr hl hc)
theorem noStr2 {a b : Option Addr} {n m c d : Nat} : NoStr [.slice a n c, .slice b m d] := by
 intro v hv s e
 subst e
 simp at hv
theorem two_boxes {w wc : World} {B RB : Nat} {p1 p2 r1 r2 : Value} {x1 x2 : Option Addr} {y1 y2 n1 n2 : Nat} {b : Book} (hE : Ext w wc) (hB : Rec wc B 26 [p1, p2]) (hR : Rec wc RB 26 [r1, r2]) (hne : B ≠ RB) (hp : NoStr [p1, p2]) (hr : NoStr [r1, r2]) (h1 : w.heap.size ≤ B) (h2 : w.heap.size ≤ RB) (hb : BookAt wc x1 x2 b) :
  Ext w ((((wc.setCell ⟨B, 0, none⟩ (.slice x1 n1 y1)).setCell ⟨B, 1, none⟩ (.slice x2 n2 y2)).setCell ⟨RB, 0, none⟩ (.slice x1 n1 y1)).setCell ⟨RB, 1, none⟩ (.slice x2 n2 y2)) ∧ BookAt ((((wc.setCell ⟨B, 0, none⟩ (.slice x1 n1 y1)).setCell ⟨B, 1, none⟩ (.slice x2 n2 y2)).setCell ⟨RB, 0, none⟩ (.slice x1 n1 y1)).setCell ⟨RB, 1, none⟩ (.slice x2 n2 y2)) x1 x2 b := by
 refine ⟨(((hE.setCell h1 _).setCell h1 _).setCell h2 _).setCell h2 _, ?_⟩
 have k1 := hb.box (i := 0) (u := .slice x1 n1 y1) hB hp
 have hB1 := hB.set 0 (.slice x1 n1 y1)
 have hp1 : NoStr [Value.slice x1 n1 y1, p2] := by
  intro v hv s e
  simp only [List.mem_cons, List.not_mem_nil, or_false] at hv
  rcases hv with rfl | rfl
  ·cases e
  ·exact hp _ (by simp) s e
 have k2 := k1.box (i := 1) (u := .slice x2 n2 y2) hB1 hp1
 have hR2 : Rec ((wc.setCell ⟨B, 0, none⟩ (.slice x1 n1 y1)).setCell ⟨B, 1, none⟩ (.slice x2 n2 y2)) RB 26 [r1, r2] := (hR.kept (gb_store _ _ _ _) (by simp; omega)).kept (gb_store _ _ _ _) (by simp; omega)
 have k3 := k2.box (i := 0) (u := .slice x1 n1 y1) hR2 hr
 have hr1 : NoStr [Value.slice x1 n1 y1, r2] := by
  intro v hv s e
  simp only [List.mem_cons, List.not_mem_nil, or_false] at hv
  rcases hv with rfl | rfl
  ·cases e
  ·exact hr _ (by simp) s e
 exact k3.box (i := 1) (u := .slice x2 n2 y2) (hR2.set 0 _) hr1
theorem boxes_own {wc : World} {B RB base : Nat} {p1 p2 r1 r2 : Value} {x1 x2 : Option Addr} {y1 y2 : Nat} {b : Book} (hB : Rec wc B 26 [p1, p2]) (hR : Rec wc RB 26 [r1, r2]) (h1 : OwnL wc base (.slice x1 b.things.length y1) b.things) (h2 : OwnBs wc base (.slice x2 b.batches.length y2) b.batches) {u1 u2 u3 u4 : Value} (hne : B ≠ RB := by omega) :
  OwnL ((((wc.setCell ⟨B, 0, none⟩ u1).setCell ⟨B, 1, none⟩ u2).setCell ⟨RB, 0, none⟩ u3).setCell ⟨RB, 1, none⟩ u4) base (.slice x1 b.things.length y1) b.things ∧ OwnBs ((((wc.setCell ⟨B, 0, none⟩ u1).setCell ⟨B, 1, none⟩ u2).setCell ⟨RB, 0, none⟩ u3).setCell ⟨RB, 1, none⟩ u4) base (.slice x2 b.batches.length y2) b.batches := by
 have b1 := hB.set 0 u1
 have r1 := (hR.kept (gb_store wc B 0 u1) (by simp; omega)).kept (gb_store _ B 1 u2) (by simp; omega)
 exact ⟨(((h1.stored hB rfl _ _).stored b1 rfl _ _).stored r1 rfl _ _).stored (r1.set 0 u3) rfl _ _, (((h2.stored hB rfl rfl _ _).stored b1 rfl rfl _ _).stored r1 rfl rfl _ _).stored (r1.set 0 u3) rfl rfl _ _⟩
set_option maxRecDepth 100000 in
set_option maxHeartbeats 1000000 in
theorem l5Step_own (b : Book) (kind : Nat) (name : Str) (L : List Str) (a1 a2 a3 : Option Addr) (c1 c2 c3 : Nat) (w : World) (hb : BookAt w a1 a2 b) (hn : name.length ≤ 140737488355328) (hL : StrsAt w a3 L) (hok : bookOk b = true) :
  Calls Qry.prog 42 #[.agg #[.slice a1 b.things.length c1, .slice a2 b.batches.length c2], .agg #[.int .i64 (kind : Int), .string (S name), .slice a3 L.length c3]] w fun e w' =>
   ∃ (b' : Book) (x1 x2 : Option Addr) (y1 y2 : Nat), e = .returned (.agg #[.slice x1 b'.things.length y1, .slice x2 b'.batches.length y2]) ∧ Ext w w' ∧ (BookAt w' x1 x2 b' ∧ OwnL w' w.heap.size (.slice x1 b'.things.length y1) b'.things ∧ OwnBs w' w.heap.size (.slice x2 b'.batches.length y2) b'.batches) ∧ bookOk b' = true := by
 have e3 : ∀ o1 o2 o3, Ext w (((w.alloc o1).alloc o2).alloc o3) := fun o1 o2 o3 => (((Below.refl _ _).alloc (Nat.le_refl _) _).alloc (by simp) _).alloc (by simp; omega) _
 have HE : Hid (Ext w (((w.alloc (.cells #[.slice a1 b.things.length c1, .slice a2 b.batches.length c2] 26)).alloc (.cells #[.int .i64 (kind : Int), .string (S name), .slice a3 L.length c3] 31)).alloc (.cells #[.slice none 0 0, .slice none 0 0] 26))) := e3 _ _ _
 have HB0 : Hid (Rec (((w.alloc (.cells #[.slice a1 b.things.length c1, .slice a2 b.batches.length c2] 26)).alloc (.cells #[.int .i64 (kind : Int), .string (S name), .slice a3 L.length c3] 31)).alloc (.cells #[.slice none 0 0, .slice none 0 0] 26)) w.heap.size 26 [.slice a1 b.things.length c1, .slice a2 b.batches.length c2]) := ((Rec.new w _ _).ext (ext_alloc _ _)).ext (ext_alloc _ _)
 have HR0 : Hid (Rec (((w.alloc (.cells #[.slice a1 b.things.length c1, .slice a2 b.batches.length c2] 26)).alloc (.cells #[.int .i64 (kind : Int), .string (S name), .slice a3 L.length c3] 31)).alloc (.cells #[.slice none 0 0, .slice none 0 0] 26)) (w.heap.size + 1 + 1) 26 [.slice none 0 0, .slice none 0 0]) := by
  have h := Rec.new ((w.alloc (.cells #[.slice a1 b.things.length c1, .slice a2 b.batches.length c2] 26)).alloc (.cells #[.int .i64 (kind : Int), .string (S name), .slice a3 L.length c3] 31)) 26 [.slice none 0 0, .slice none 0 0]
  have e : ((w.alloc (.cells #[.slice a1 b.things.length c1, .slice a2 b.batches.length c2] 26)).alloc (.cells #[.int .i64 (kind : Int), .string (S name), .slice a3 L.length c3] 31)).heap.size = w.heap.size + 1 + 1 := by simp
  rw [e] at h; exact h
 go_enter Qry.func42, Tryz.ntmps42
 by_cases h1 : kind = 1
 ·subst h1
  have OKR := hid (enter_ok (n := name) (needs := L) hok)
  go_wp2_with fail
  refine (specEnter_own b name L _ _ _ _ _ _ _ (hb.ext HE.out) hn (hL.ext HE.out)).mono ?_
  rintro e w1 ⟨x1, y1, x2, y2, rfl, hE1, hb1⟩
  have HB1 := hid (HB0.out.ext hE1)
  have HR1 := hid (HR0.out.ext hE1)
  have HE1 := hid (Ext.tr HE.out hE1)
  have HBK := hid hb1
  clear HB0 HR0 HE hE1 hb1
  have q0 := HB1.out.cell (i := 0) rfl
  have q1 := HB1.out.cell (i := 1) rfl
  have g0 := HB1.out.frozen 0
  have g1 := HB1.out.frozen 1
  have t0 := HR1.out.cell (i := 0) rfl
  have t1 := HR1.out.cell (i := 1) rfl
  have f0 := HR1.out.frozen 0
  have f1 := HR1.out.frozen 1
  generalize enterB b name L = r at HBK OKR ⊢
  go_wp2
  refine bodyPost_ret (v := .agg #[.slice x1 r.1.things.length y1, .slice x2 r.1.batches.length y2]) (by simp [results, Tryz.results42, go_sem, t0, t1]) rfl ⟨r.1, x1, x2, y1, y2, rfl, ?_, ?_, OKR.out⟩
  ·exact (two_boxes HE1.out HB1.out HR1.out (by omega) noStr2 noStr2 (by omega) (by omega) HBK.out.1).1
  ·exact ⟨(two_boxes HE1.out HB1.out HR1.out (by omega) noStr2 noStr2 (by omega) (by omega) HBK.out.1).2, boxes_own HB1.out HR1.out (HBK.out.2.1.low (by simp; omega)) (HBK.out.2.2.low (by simp; omega))⟩
 ·by_cases h2 : kind = 2
  ·subst h2
   have OKR := hid (ask_ok (n := name) (things := L) hok)
   go_wp2_with fail
   refine (specAsk_own b name L _ _ _ _ _ _ _ (hb.ext HE.out) (hL.ext HE.out)).mono ?_
   rintro e w1 ⟨x1, y1, x2, y2, rfl, hE1, hb1⟩
   have HB1 := hid (HB0.out.ext hE1)
   have HR1 := hid (HR0.out.ext hE1)
   have HE1 := hid (Ext.tr HE.out hE1)
   have HBK := hid hb1
   clear HB0 HR0 HE hE1 hb1
   have q0 := HB1.out.cell (i := 0) rfl
   have q1 := HB1.out.cell (i := 1) rfl
   have g0 := HB1.out.frozen 0
   have g1 := HB1.out.frozen 1
   have t0 := HR1.out.cell (i := 0) rfl
   have t1 := HR1.out.cell (i := 1) rfl
   have f0 := HR1.out.frozen 0
   have f1 := HR1.out.frozen 1
   generalize askB b name L = r at HBK OKR ⊢
   go_wp2
   refine bodyPost_ret (v := .agg #[.slice x1 r.1.things.length y1, .slice x2 r.1.batches.length y2]) (by simp [results, Tryz.results42, go_sem, t0, t1]) rfl ⟨r.1, x1, x2, y1, y2, rfl, ?_, ?_, OKR.out⟩
   ·exact (two_boxes HE1.out HB1.out HR1.out (by omega) noStr2 noStr2 (by omega) (by omega) HBK.out.1).1
   ·exact ⟨(two_boxes HE1.out HB1.out HR1.out (by omega) noStr2 noStr2 (by omega) (by omega) HBK.out.1).2, boxes_own HB1.out HR1.out (HBK.out.2.1.low (by simp; omega)) (HBK.out.2.2.low (by simp; omega))⟩
  ·by_cases h3 : kind = 3
   ·subst h3
    have OKR := hid (less_ok (n := name) (needs := L) hok)
    go_wp2_with fail
    refine (specLess_own b name L _ _ _ _ _ _ _ (hb.ext HE.out) (hL.ext HE.out)).mono ?_
    rintro e w1 ⟨x1, y1, x2, y2, rfl, hE1, hb1⟩
    have HB1 := hid (HB0.out.ext hE1)
    have HR1 := hid (HR0.out.ext hE1)
    have HE1 := hid (Ext.tr HE.out hE1)
    have HBK := hid hb1
    clear HB0 HR0 HE hE1 hb1
    have q0 := HB1.out.cell (i := 0) rfl
    have q1 := HB1.out.cell (i := 1) rfl
    have g0 := HB1.out.frozen 0
    have g1 := HB1.out.frozen 1
    have t0 := HR1.out.cell (i := 0) rfl
    have t1 := HR1.out.cell (i := 1) rfl
    have f0 := HR1.out.frozen 0
    have f1 := HR1.out.frozen 1
    generalize lessB b name L = r at HBK OKR ⊢
    go_wp2
    refine bodyPost_ret (v := .agg #[.slice x1 r.1.things.length y1, .slice x2 r.1.batches.length y2]) (by simp [results, Tryz.results42, go_sem, t0, t1]) rfl ⟨r.1, x1, x2, y1, y2, rfl, ?_, ?_, OKR.out⟩
    ·exact (two_boxes HE1.out HB1.out HR1.out (by omega) noStr2 noStr2 (by omega) (by omega) HBK.out.1).1
    ·exact ⟨(two_boxes HE1.out HB1.out HR1.out (by omega) noStr2 noStr2 (by omega) (by omega) HBK.out.1).2, boxes_own HB1.out HR1.out (HBK.out.2.1.low (by simp; omega)) (HBK.out.2.2.low (by simp; omega))⟩
   ·have n1 : ((kind : Int) == 1) = false := by simp; omega
    have n2 : ((kind : Int) == 2) = false := by simp; omega
    have n3 : ((kind : Int) == 3) = false := by simp; omega
    have OKR := hid (leave_ok (n := name) hok)
    go_wp2_with fail
    refine (specLeave_own b name _ _ _ _ _ (hb.ext HE.out)).mono ?_
    rintro e w1 ⟨x1, y1, x2, y2, rfl, hE1, hb1⟩
    have HB1 := hid (HB0.out.ext hE1)
    have HR1 := hid (HR0.out.ext hE1)
    have HE1 := hid (Ext.tr HE.out hE1)
    have HBK := hid hb1
    clear HB0 HR0 HE hE1 hb1
    have q0 := HB1.out.cell (i := 0) rfl
    have q1 := HB1.out.cell (i := 1) rfl
    have g0 := HB1.out.frozen 0
    have g1 := HB1.out.frozen 1
    have t0 := HR1.out.cell (i := 0) rfl
    have t1 := HR1.out.cell (i := 1) rfl
    have f0 := HR1.out.frozen 0
    have f1 := HR1.out.frozen 1
    generalize leaveB b name = r at HBK OKR ⊢
    go_wp2
    refine bodyPost_ret (v := .agg #[.slice x1 r.1.things.length y1, .slice x2 r.1.batches.length y2]) (by simp [results, Tryz.results42, go_sem, t0, t1]) rfl ⟨r.1, x1, x2, y1, y2, rfl, ?_, ?_, OKR.out⟩
    ·exact (two_boxes HE1.out HB1.out HR1.out (by omega) noStr2 noStr2 (by omega) (by omega) HBK.out.1).1
    ·exact ⟨(two_boxes HE1.out HB1.out HR1.out (by omega) noStr2 noStr2 (by omega) (by omega) HBK.out.1).2, boxes_own HB1.out HR1.out (HBK.out.2.1.low (by simp; omega)) (HBK.out.2.2.low (by simp; omega))⟩
end
section
open Go.RowKit
attribute [local go_sem] S_toList S_size S_get
def SmallBs (bs : List Batch) : Prop := ∀ x ∈ bs, x.has.length ≤ 8 ∧ x.needs.length ≤ 8
structure WS (w wc : World) (R q : Nat) (T : List Str) (a1 : Option Addr) (c1 : Nat) (vt vb : Value) (TL : List Str) (rs : List Row) (bs : List Batch) : Prop where
 on : w.grownBy wc (some R)
 rd : Rd wc R q
 rb : Rec wc w.heap.size 26 [.slice a1 T.length c1, vb]
 rr : Rec wc (w.heap.size + 1) 26 [.slice none 0 0, .slice none 0 0]
 nm : StrsAt wc (some ⟨w.heap.size + 1 + 1, 0, none⟩) five
 ot : OwnL wc (w.heap.size + 3) vt TL
 st : ShortL TL
 ob : wc.ownsRow (w.heap.size + 3) 73 3 vb rs.length (cellsOf rs)
 ow : RowsOwn wc (w.heap.size + 3) rs bs
 nt : ∀ r ∈ rs, NE vt r.has ∧ NE vt r.needs
 sm : SmallBs bs
 hR : R < w.heap.size
 hz : w.heap.size + 3 ≤ wc.heap.size
end
section
open Go.RowKit
attribute [local go_sem] S_toList S_size S_get
structure WX (w wc : World) (R q : Nat) (T : List Str) (a1 : Option Addr) (c1 : Nat) (vt vb : Value) (TL : List Str) (rs : List Row) (bs : List Batch) (X : Nat) (name : Str) (vh vn : Value) (H N : List Str) : Prop where
 ws : WS w wc R q T a1 c1 vt vb TL rs bs
 rx : Rec wc X 73 [.string (S name), vh, vn]
 oh : OwnL wc (w.heap.size + 3) vh H
 on_ : OwnL wc (w.heap.size + 3) vn N
 n1 : NE vt vh
 n2 : NE vt vn
 n3 : NE vh vn
 n4 : ∀ r ∈ rs, NE vh r.has ∧ NE vh r.needs
 nb : vb.ownBlock ≠ some X
 hX : w.heap.size + 3 ≤ X
 sh : ShortL H
end
section
open Go.RowKit
attribute [local go_sem] S_toList S_size S_get
def SmB (b : Book) : Prop := b.things.length ≤ 8 ∧ b.batches.length ≤ 5 ∧ SmallBs b.batches
end
section
open Go.RowKit
attribute [local go_sem] S_toList S_size S_get
end
section
open Go.RowKit
attribute [local go_sem] S_toList S_size S_get
def Small9 (bs : List Batch) : Prop := ∀ x ∈ bs, x.has.length ≤ 9 ∧ x.needs.length ≤ 9
def SmB9 (b : Book) : Prop := b.things.length ≤ 9 ∧ b.batches.length ≤ 7 ∧ Small9 b.batches
structure PS (w wc : World) (R q X : Nat) (things : List Str) (bs : List Batch) (rs : List Row) (v1 v2 : Value) : Prop where
 on : w.grownBy wc (some R)
 rd : Rd wc R q
 rr : Rec wc (w.heap.size + 1) 26 [.slice none 0 0, .slice none 0 0]
 rx : Rec wc X 26 [v1, v2]
 o1 : OwnL wc (w.heap.size + 2) v1 things
 ob : wc.ownsRow (w.heap.size + 2) 73 3 v2 rs.length (cellsOf rs)
 ow : RowsOwn wc (w.heap.size + 2) rs bs
 hR : R < w.heap.size
 hX : w.heap.size + 2 ≤ X
 hz : w.heap.size + 2 ≤ wc.heap.size
structure FS (w wc : World) (R q X : Nat) : Prop where
 on : w.grownBy wc (some R)
 rd : Rd wc R q
 rr : Rec wc (w.heap.size + 1) 26 [.slice none 0 0, .slice none 0 0]
 bk : ∃ (b : Book) (z1 z2 : Option Addr) (d1 d2 : Nat), Rec wc X 26 [.slice z1 b.things.length d1, .slice z2 b.batches.length d2] ∧ BookAt wc z1 z2 b ∧ SmB9 b
 hR : R < w.heap.size
end
section
open Go.RowKit
attribute [local go_sem] S_toList S_size S_get
def wordsA : List Str := [[], [65], [97], [122, 122]]
def wordsB : List Str := [[], [66], [122, 122], [97]]
def wordsC : List Str := [[], [122, 122], [107, 101, 103], [119]]
end
section
open Go.RowKit
attribute [local go_sem] S_toList S_size S_get
theorem on_new {w w1 w2 : World} {R : Nat} (h1 : Ext w w1) (hR : w.heap.size ≤ R) (g : w1.grownBy w2 (some R)) : Ext w w2 :=
 ⟨g.os.trans h1.os, g.tape.trans h1.tape, g.output.trans h1.output, Nat.le_trans h1.size g.size, fun k hk => by
  have := h1.size
  rw [g.block k (by omega) (by simp; omega)]
  exact h1.block k hk⟩
end
section
open Go.RowKit
attribute [local go_sem] S_toList S_size S_get
def AskRes (w : World) (e : Ending) (w' : World) : Prop :=
 ∃ (b : Book) (x1 x2 x3 : Option Addr) (y1 y2 y3 : Nat) (s : Str) (L : List Str), e = .returned (.tuple #[.agg #[.slice x1 b.things.length y1, .slice x2 b.batches.length y2], .string (S s), .slice x3 L.length y3]) ∧ Ext w w' ∧ BookAt w' x1 x2 b ∧ StrsAt w' x3 L ∧ SmB9 b ∧ s.length ≤ 140737488355328
theorem StrsAt.box {w : World} {a : Option Addr} {ss : List Str} {X : Nat} {t : TypeId} {l : List Value} (h : StrsAt w a ss) (hr : Rec w X t l) (hn : NoStr l) (i : Nat) (u : Value) : StrsAt (w.setCell ⟨X, i, none⟩ u) a ss :=
 h.gb (gb_store _ _ _ _) (fun hp b o e => by
  obtain ⟨b', o', e', hc⟩ := (h.2 0 hp).2
  rw [e] at e'
  cases e'
  intro e2
  cases e2
  exact rec_ne hr hn hc rfl)
end
section
open Go.RowKit
attribute [local go_sem] S_toList S_size S_get
def waitY (b : Book) (p i : Nat) : Bool := !(i == p) && shareB (nthB b.batches i).has (nthB b.batches p).needs
def waitsL (b : Book) (x : Str) : List Str := if bookOk b = true ∧ place (namesOf b.batches) x < b.batches.length then pickL (waitY b (place (namesOf b.batches) x)) b.batches b.batches.length else []
end
section
open Go.RowKit
set_option maxHeartbeats 1000000 in
theorem leave_any (w : World) (base g bg : Nat) (vh vn : Value) (has needs : List Nat) (gone : List Bool) (free p : Nat) (hst : GoingAt w base g bg vh vn has needs gone free)
  (h1 : p < has.length) (h3 : p < gone.length) (hf : free < 1024) (hh : bnth has p < 1024) :
  Calls Qry.prog 92 #[.pointer (some ⟨g, 0, none⟩), .int .i64 (p : Int)] w fun e w' => e = .returned (.tuple #[]) ∧
   w'.Alike ((w.setCell ⟨bg, p, none⟩ (.bool true)).setCell ⟨g, 3, none⟩ (.int .u64 ((free : Int) + (bnth has p : Int)))) ∧ w'.tape = w.tape := by
 obtain ⟨b1, k1, rfl, hb1, q1⟩ := own_bits hst.hrow h1
 have c0 := hst.cells.cell (i := 0) (by omega)
 have c1 := hst.cells.cell (i := 1) (by omega)
 have c2 := hst.cells.cell (i := 2) (by omega)
 have c3 := hst.cells.cell (i := 3) (by omega)
 simp only [goingCells] at c0 c1 c2 c3
 have r := hst.row.cell h3
 have fr := hst.row.frozen p
 have fg := hst.cells.frozen 3
 have hw : IntKind.u64.wrap ((free : Int) + (bnth has p : Int)) = (free : Int) + (bnth has p : Int) := wrapU (by omega) (by omega)
 have hne := hst.ne
 have hne1 : b1 ≠ bg := by have := hst.hbg; omega
 have hne2 : b1 ≠ g := by have := hst.hg; omega
 clear hst
 go_enter Qry.func92, Tryz.ntmps92
 go_wp2
 go_region
 all_goals (go_end0; exact ⟨rfl, ⟨rfl, rfl, rfl⟩, rfl⟩)
end
section
open Go.RowKit
attribute [local go_sem] S_toList S_size S_get
def GoneAt (w : World) (base g bg : Nat) (vh vn : Value) (b : Book) (gone : List Str) : Prop :=
 ∃ gl : List Bool, gl.length = b.batches.length ∧ (∀ i, i < b.batches.length → gnth gl i = outOf b gone i) ∧ GoingAt w base g bg vh vn (hasBits b) (needsBits b) gl (freeN b (outOf b gone))
theorem GoneAt.ext {w w' : World} {base g bg : Nat} {vh vn : Value} {b : Book} {gone : List Str} (h : GoneAt w base g bg vh vn b gone) (e : Ext w w') : GoneAt w' base g bg vh vn b gone := by
 obtain ⟨gl, h1, h2, h3⟩ := h
 exact ⟨gl, h1, h2, h3.ext e⟩
theorem hasBits_len (b : Book) : (hasBits b).length = b.batches.length := by simp [hasBits]
theorem needsBits_len (b : Book) : (needsBits b).length = b.batches.length := by simp [needsBits]
theorem canGo_v {w : World} {base g bg : Nat} {vh vn : Value} {b : Book} {gone : List Str} {x : Str} {p : Nat} (v : Bool) (hst : GoneAt w base g bg vh vn b gone) (hok : bookOk b = true) (hp : place (namesOf b.batches) x = p) (hlt : p < b.batches.length)
  (hv : (!hasB gone x && canB b p gone) = v) :
  Calls Qry.prog 64 #[.pointer (some ⟨g, 0, none⟩), .int .i64 (p : Int)] w fun e w' => e = .returned (.bool v) ∧ ∃ n, w' = w.drewN n := by
 obtain ⟨gl, h1, h2, h3⟩ := hst
 have h8 := ok_things hok
 have hc := canGo_any w base g bg vh vn (hasBits b) (needsBits b) gl (freeN b (outOf b gone)) p h3 (by rw [hasBits_len]; exact hlt) (by rw [needsBits_len]; exact hlt) (by rw [h1]; exact hlt) (freeN_small b _ h8) (by rw [bnth_has hlt]; exact bitsN_small _ _ h8) (by rw [bnth_needs hlt]; exact bitsN_small _ _ h8)
 rw [go_step hok hp hlt gl (h2 p hlt), hv] at hc
 exact hc
end
section
open Go.RowKit
theorem place_self {b : Book} (h : bookOk b = true) {p : Nat} (hp : p < b.batches.length) : place (namesOf b.batches) (b.at p).name = p := by
 have hm : (b.at p).name ∈ namesOf b.batches := by
  have e : nth (namesOf b.batches) p = (b.at p).name := nth_namesOf hp
  rw [← e, nth_get (by rw [namesOf_length]; exact hp)]
  exact List.getElem_mem _
 have hlt : place (namesOf b.batches) (b.at p).name < b.batches.length := by
  have := place_lt.2 hm
  rwa [namesOf_length] at this
 exact name_inj h hlt hp (name_at rfl hlt)
theorem canGo_p {w : World} {base g bg : Nat} {vh vn : Value} {b : Book} {gone : List Str} {p : Nat} (v : Bool) (hst : GoneAt w base g bg vh vn b gone) (hok : bookOk b = true) (hlt : p < b.batches.length)
  (hv : goodN b gone p = v) :
  Calls Qry.prog 64 #[.pointer (some ⟨g, 0, none⟩), .int .i64 (p : Int)] w fun e w' => e = .returned (.bool v) ∧ ∃ n, w' = w.drewN n :=
 canGo_v v hst hok (place_self hok hlt) hlt hv
theorem GoneAt.goneCell {w : World} {base g bg : Nat} {vh vn : Value} {b : Book} {gone : List Str} (h : GoneAt w base g bg vh vn b gone) : w.cell? ⟨g, 2, none⟩ = some (.slice (some ⟨bg, 0, none⟩) b.batches.length b.batches.length) := by
 obtain ⟨gl, h1, h2, h3⟩ := h
 have c := h3.cells.cell (i := 2) (by omega)
 simp only [goingCells] at c
 rw [h1] at c
 exact c
set_option maxHeartbeats 1000000 in
theorem first_v {w : World} {base g bg : Nat} {vh vn : Value} {b : Book} {gone : List Str} (hst : GoneAt w base g bg vh vn b gone) (hok : bookOk b = true) :
  Calls Qry.prog 112 #[.pointer (some ⟨g, 0, none⟩)] w fun e w' =>
   ((∃ p : Nat, e = .returned (.tuple #[.int .i64 p, .bool true]) ∧ nextOf b gone = some p) ∨ (e = .returned (.tuple #[.int .i64 0, .bool false]) ∧ nextOf b gone = none)) ∧ Ext w w' := by
 have hc := hst.goneCell
 have h5 := ok_five hok
 have HOK := hid hok
 go_enter Qry.func112, Tryz.ntmps112
 go_wp2
 go_loopw [10] (fun i wr => ∃ k : Nat, k ≤ b.batches.length ∧ i = .int .i64 k ∧ Ext w wr ∧ ∀ j, j < k → goodN b gone j = false) (fun i _ => b.batches.length - (intOf i).toNat)
 case atStart => exact ⟨0, Nat.zero_le _, rfl, Ext.rfl' _, fun j hj => by omega⟩
 case round =>
  obtain ⟨k, hk, rfl, hext, hx⟩ := hrel
  have hst' := hst.ext hext
  have HX := hid hx
  have HE := hid hext
  clear hx hext
  by_cases hlt : k < b.batches.length
  ·cases hv : goodN b gone k
   ·have HV := hid hv
    go_wp2_with fail
    refine (canGo_p false hst' HOK.out hlt HV.out).mono ?_
    rintro e w1 ⟨rfl, n1, rfl⟩
    go_wp2_with fail
    go_roundw
    case rel => exact ⟨k + 1, by omega, by go_num, Ext.tr HE.out (ext_drewN _ _), fun j hj => by
     by_cases e : j = k
     ·rw [e]; exact HV.out
     ·exact HX.out j (by omega)⟩
    case measure => simp [intOf]; omega
   ·have HF := hid (nextOf_some hlt hv HX.out)
    have HV := hid hv
    clear hv
    go_wp2_with fail
    refine (canGo_p true hst' HOK.out hlt HV.out).mono ?_
    rintro e w1 ⟨rfl, n1, rfl⟩
    go_wp2_with fail
    go_ret2
    exact ⟨Or.inl ⟨k, rfl, HF.out⟩, Ext.tr HE.out (ext_drewN _ _)⟩
  ·have HF := hid (nextOf_none (fun j hj => HX.out j (by omega)))
   go_wp2_with fail
   go_ret2
   exact ⟨Or.inr ⟨rfl, HF.out⟩, HE.out⟩
end
section
theorem pickL_mem {yes : Nat → Bool} {bs : List Batch} {x : Str} : ∀ {n : Nat}, x ∈ pickL yes bs n ↔ ∃ j, j < n ∧ yes j = true ∧ (nthB bs j).name = x
 | 0 => by simp [pickL]
 | n + 1 => by
  have ih := pickL_mem (yes := yes) (bs := bs) (x := x) (n := n)
  cases hy : yes n
  ·rw [pickL_no hy, ih]
   constructor
   ·rintro ⟨j, h1, h2⟩; exact ⟨j, by omega, h2⟩
   ·rintro ⟨j, h1, h2, h3⟩
    refine ⟨j, ?_, h2, h3⟩
    by_cases e : j = n
    ·subst e; rw [hy] at h2; cases h2
    ·omega
  ·rw [pickL_yes hy, List.mem_append, ih, List.mem_singleton]
   constructor
   ·rintro (⟨j, h1, h2⟩ | h)
    ·exact ⟨j, by omega, h2⟩
    ·exact ⟨n, by omega, hy, h.symm⟩
   ·rintro ⟨j, h1, h2, h3⟩
    by_cases e : j = n
    ·subst e; exact .inr h3.symm
    ·exact .inl ⟨j, by omega, h2, h3⟩
theorem pickL_nil {yes : Nat → Bool} {bs : List Batch} {n : Nat} : pickL yes bs n = [] ↔ ∀ j, j < n → yes j = false := by
 constructor
 ·intro h j hj
  cases hy : yes j
  ·rfl
  ·have : (nthB bs j).name ∈ pickL yes bs n := pickL_mem.2 ⟨j, hj, hy, rfl⟩
   rw [h] at this; cases this
 ·intro h
  cases hp : pickL yes bs n with
  | nil => rfl
  | cons x l =>
   have : x ∈ pickL yes bs n := by rw [hp]; simp
   obtain ⟨j, h1, h2, _⟩ := pickL_mem.1 this
   rw [h j h1] at h2; cases h2
def stuckB (b : Book) : Bool := bookOk b && (decide (0 < b.batches.length) && decide ((movesL b).length = 0))
theorem stuck_unsafe {b : Book} (h : stuckB b = true) : safeB b = false := by
 simp only [stuckB, Bool.and_eq_true, decide_eq_true_eq] at h
 obtain ⟨hok, hn, hm⟩ := h
 have hm' : pickL (fun i => canB b i []) b.batches b.batches.length = [] := by
  have : movesL b = [] := List.eq_nil_of_length_eq_zero hm
  simpa [movesL, hok] using this
 have hall := pickL_nil.1 hm'
 have hnx : nextOf b [] = none := nextOf_none fun j hj => by simp [goodN, hall j hj]
 obtain ⟨m, hm2⟩ : ∃ m, b.batches.length = m + 1 := ⟨b.batches.length - 1, by omega⟩
 simp [safeB, orderOf, hok, hm2, greedy_none hnx]
end
section
open Go.RowKit
attribute [local go_sem] S_toList S_size S_get
def WaitsRes (w : World) (e : Ending) (w' : World) : Prop :=
 ∃ (b : Book) (x1 x2 : Option Addr) (y1 y2 : Nat) (s : Str), e = .returned (.tuple #[.agg #[.slice x1 b.things.length y1, .slice x2 b.batches.length y2], .string (S s)]) ∧ Ext w w' ∧ BookAt w' x1 x2 b ∧ SmB9 b ∧ s.length ≤ 140737488355328
theorem stuck_no {b : Book} (h : bookOk b = false) : stuckB b = false := by simp [stuckB, h]
theorem stuck_none {b : Book} (h : ¬ 0 < b.batches.length) : stuckB b = false := by simp [stuckB, h]
theorem stuck_is {b : Book} (h : bookOk b = true) (h2 : 0 < b.batches.length) : stuckB b = (((movesL b).length : Int) == 0) := by
 rw [Bool.eq_iff_iff]
 simp [stuckB, h, h2]
end
end Go.Proofs.YtdafpnpfcmgfcaaGreatDoor
