/- The walks over l5Step and l5Book's loop. The walk over l5Wild. -/
import Derived.Test.YtdafpnpfcmgfcaaGreatDoorKb35
import Derived.Test.YtdafpnpfcmgfcaaGreatDoorKb36
import Derived.Test.YtdafpnpfcmgfcaaGreatDoorKb37
import Derived.Test.YtdafpnpfcmgfcaaGreatDoorKb39
namespace Go.Proofs.YtdafpnpfcmgfcaaGreatDoor
section
open Go.RowKit
attribute [local go_sem] S_toList S_size S_get
def NoStr (l : List Value) : Prop := ∀ v ∈ l, ∀ s, v ≠ .string s
theorem rec_ne {w : World} {X : Nat} {t : TypeId} {l : List Value} (h : Rec w X t l) (hl : NoStr l) {b o : Nat} {s : ByteArray} (hc : w.cell? ⟨b, o, none⟩ = some (.string s)) : b ≠ X := by
 intro e
 subst e
 unfold World.cell? at hc
 simp only [show w.heap[b]? = _ from h] at hc
 have hm : l[o]? = some (.string s) := by simpa using hc
 exact hl _ (List.mem_of_getElem? hm) s rfl
theorem BookAt.gbox {w w' : World} {X : Nat} {a1 a2 : Option Addr} {b : Book} (h : BookAt w a1 a2 b) (g : w.grownBy w' (some X)) (hne : ∀ {b o : Nat} {s : ByteArray}, w.cell? ⟨b, o, none⟩ = some (.string s) → b ≠ X) : BookAt w' a1 a2 b := by
 have hs : ∀ {a : Option Addr} {ss : List Str}, StrsAt w a ss → StrsAt w' a ss := fun {a ss} hh => hh.gb g (fun hp b o e er => by
  obtain ⟨_, b', o', e', hc⟩ := hh.2 0 hp
  rw [e] at e'; cases e'
  exact hne hc (by simpa using er))
 refine ⟨hs h.1, h.2.1, fun i hi => ?_⟩
 obtain ⟨bb, o, e, h0, d1, g1, d2, g2, h1, h2, h3, h4, h5⟩ := h.2.2 i hi
 have hn : some bb ≠ some X := fun e => hne h1 (by simpa using e)
 exact ⟨bb, o, e, h0, d1, g1, d2, g2, g.cell h1 hn, g.cell h2 hn, g.cell h3 hn, hs h4, hs h5⟩
theorem BookAt.box {w : World} {X i : Nat} {t : TypeId} {l : List Value} {u : Value} {a1 a2 : Option Addr} {b : Book} (h : BookAt w a1 a2 b) (hr : Rec w X t l) (hl : NoStr l) : BookAt (w.setCell ⟨X, i, none⟩ u) a1 a2 b :=
 h.gbox (gb_store w X i u) (fun hc => rec_ne hr hl hc)
theorem noStr2 {a b : Option Addr} {n m c d : Nat} : NoStr [.slice a n c, .slice b m d] := by
 intro v hv s e
 subst e
 simp at hv
theorem two_boxes {w wc : World} {B RB : Nat} {p1 p2 r1 r2 : Value} {x1 x2 : Option Addr} {y1 y2 n1 n2 : Nat} {b : Book} (hE : Ext w wc) (hB : Rec wc B 26 [p1, p2]) (hR : Rec wc RB 26 [r1, r2]) (hne : B ≠ RB) (hp : NoStr [p1, p2]) (hr : NoStr [r1, r2]) (h1 : w.heap.size ≤ B) (h2 : w.heap.size ≤ RB) (hb : BookAt wc x1 x2 b) :
  Ext w ((((wc.setCell ⟨B, 0, none⟩ (.slice x1 n1 y1)).setCell ⟨B, 1, none⟩ (.slice x2 n2 y2)).setCell ⟨RB, 0, none⟩ (.slice x1 n1 y1)).setCell ⟨RB, 1, none⟩ (.slice x2 n2 y2)) ∧ BookAt ((((wc.setCell ⟨B, 0, none⟩ (.slice x1 n1 y1)).setCell ⟨B, 1, none⟩ (.slice x2 n2 y2)).setCell ⟨RB, 0, none⟩ (.slice x1 n1 y1)).setCell ⟨RB, 1, none⟩ (.slice x2 n2 y2)) x1 x2 b := by
 refine ⟨(((hE.setCell h1 _).setCell h1 _).setCell h2 _).setCell h2 _, ?_⟩
 have k1 := hb.box (i := 0) (u := .slice x1 n1 y1) hB hp
 have hB1 := hB.set 0 (.slice x1 n1 y1)
 have hp1 : NoStr [Value.slice x1 n1 y1, p2] := by
  intro v hv s e
  simp only [List.mem_cons, List.not_mem_nil, or_false] at hv
  rcases hv with rfl | rfl
  ·cases e
  ·exact hp _ (by simp) s e
 have k2 := k1.box (i := 1) (u := .slice x2 n2 y2) hB1 hp1
 have hR2 : Rec ((wc.setCell ⟨B, 0, none⟩ (.slice x1 n1 y1)).setCell ⟨B, 1, none⟩ (.slice x2 n2 y2)) RB 26 [r1, r2] := (hR.kept (gb_store _ _ _ _) (by simp; omega)).kept (gb_store _ _ _ _) (by simp; omega)
 have k3 := k2.box (i := 0) (u := .slice x1 n1 y1) hR2 hr
 have hr1 : NoStr [Value.slice x1 n1 y1, r2] := by
  intro v hv s e
  simp only [List.mem_cons, List.not_mem_nil, or_false] at hv
  rcases hv with rfl | rfl
  ·cases e
  ·exact hr _ (by simp) s e
 exact k3.box (i := 1) (u := .slice x2 n2 y2) (hR2.set 0 _) hr1
theorem boxes_own {wc : World} {B RB base : Nat} {p1 p2 r1 r2 : Value} {x1 x2 : Option Addr} {y1 y2 : Nat} {b : Book} (hB : Rec wc B 26 [p1, p2]) (hR : Rec wc RB 26 [r1, r2]) (h1 : OwnL wc base (.slice x1 b.things.length y1) b.things) (h2 : OwnBs wc base (.slice x2 b.batches.length y2) b.batches) {u1 u2 u3 u4 : Value} (hne : B ≠ RB := by omega) :
  OwnL ((((wc.setCell ⟨B, 0, none⟩ u1).setCell ⟨B, 1, none⟩ u2).setCell ⟨RB, 0, none⟩ u3).setCell ⟨RB, 1, none⟩ u4) base (.slice x1 b.things.length y1) b.things ∧ OwnBs ((((wc.setCell ⟨B, 0, none⟩ u1).setCell ⟨B, 1, none⟩ u2).setCell ⟨RB, 0, none⟩ u3).setCell ⟨RB, 1, none⟩ u4) base (.slice x2 b.batches.length y2) b.batches := by
 have b1 := hB.set 0 u1
 have r1 := (hR.kept (gb_store wc B 0 u1) (by simp; omega)).kept (gb_store _ B 1 u2) (by simp; omega)
 exact ⟨(((h1.stored hB rfl _ _).stored b1 rfl _ _).stored r1 rfl _ _).stored (r1.set 0 u3) rfl _ _, (((h2.stored hB rfl rfl _ _).stored b1 rfl rfl _ _).stored r1 rfl rfl _ _).stored (r1.set 0 u3) rfl rfl _ _⟩
set_option maxRecDepth 100000 in
set_option maxHeartbeats 1000000 in
theorem l5Step_own (b : Book) (kind : Nat) (name : Str) (L : List Str) (a1 a2 a3 : Option Addr) (c1 c2 c3 : Nat) (w : World) (hb : BookAt w a1 a2 b) (hn : name.length ≤ 140737488355328) (hL : StrsAt w a3 L) (hok : bookOk b = true) :
  Calls Qry.prog 42 #[.agg #[.slice a1 b.things.length c1, .slice a2 b.batches.length c2], .agg #[.int .i64 (kind : Int), .string (S name), .slice a3 L.length c3]] w fun e w' =>
   ∃ (b' : Book) (x1 x2 : Option Addr) (y1 y2 : Nat), e = .returned (.agg #[.slice x1 b'.things.length y1, .slice x2 b'.batches.length y2]) ∧ Ext w w' ∧ (BookAt w' x1 x2 b' ∧ OwnL w' w.heap.size (.slice x1 b'.things.length y1) b'.things ∧ OwnBs w' w.heap.size (.slice x2 b'.batches.length y2) b'.batches) ∧ bookOk b' = true := by
 have e3 : ∀ o1 o2 o3, Ext w (((w.alloc o1).alloc o2).alloc o3) := fun o1 o2 o3 => (((Below.refl _ _).alloc (Nat.le_refl _) _).alloc (by simp) _).alloc (by simp; omega) _
 have HE : Hid (Ext w (((w.alloc (.cells #[.slice a1 b.things.length c1, .slice a2 b.batches.length c2] 26)).alloc (.cells #[.int .i64 (kind : Int), .string (S name), .slice a3 L.length c3] 31)).alloc (.cells #[.slice none 0 0, .slice none 0 0] 26))) := e3 _ _ _
 have HB0 : Hid (Rec (((w.alloc (.cells #[.slice a1 b.things.length c1, .slice a2 b.batches.length c2] 26)).alloc (.cells #[.int .i64 (kind : Int), .string (S name), .slice a3 L.length c3] 31)).alloc (.cells #[.slice none 0 0, .slice none 0 0] 26)) w.heap.size 26 [.slice a1 b.things.length c1, .slice a2 b.batches.length c2]) := ((Rec.new w _ _).ext (ext_alloc _ _)).ext (ext_alloc _ _)
 have HR0 : Hid (Rec (((w.alloc (.cells #[.slice a1 b.things.length c1, .slice a2 b.batches.length c2] 26)).alloc (.cells #[.int .i64 (kind : Int), .string (S name), .slice a3 L.length c3] 31)).alloc (.cells #[.slice none 0 0, .slice none 0 0] 26)) (w.heap.size + 1 + 1) 26 [.slice none 0 0, .slice none 0 0]) := by
  have h := Rec.new ((w.alloc (.cells #[.slice a1 b.things.length c1, .slice a2 b.batches.length c2] 26)).alloc (.cells #[.int .i64 (kind : Int), .string (S name), .slice a3 L.length c3] 31)) 26 [.slice none 0 0, .slice none 0 0]
  have e : ((w.alloc (.cells #[.slice a1 b.things.length c1, .slice a2 b.batches.length c2] 26)).alloc (.cells #[.int .i64 (kind : Int), .string (S name), .slice a3 L.length c3] 31)).heap.size = w.heap.size + 1 + 1 := by simp
  rw [e] at h; exact h
 go_enter Qry.func42, Tryz.ntmps42
 by_cases h1 : kind = 1
 ·subst h1
  have OKR := hid (enter_ok (n := name) (needs := L) hok)
  go_wp2_with fail
  refine (specEnter_own b name L _ _ _ _ _ _ _ (hb.ext HE.out) hn (hL.ext HE.out)).mono ?_
  rintro e w1 ⟨x1, y1, x2, y2, rfl, hE1, hb1⟩
  have HB1 := hid (HB0.out.ext hE1)
  have HR1 := hid (HR0.out.ext hE1)
  have HE1 := hid (Ext.tr HE.out hE1)
  have HBK := hid hb1
  clear HB0 HR0 HE hE1 hb1
  have q0 := HB1.out.cell (i := 0) rfl
  have q1 := HB1.out.cell (i := 1) rfl
  have g0 := HB1.out.frozen 0
  have g1 := HB1.out.frozen 1
  have t0 := HR1.out.cell (i := 0) rfl
  have t1 := HR1.out.cell (i := 1) rfl
  have f0 := HR1.out.frozen 0
  have f1 := HR1.out.frozen 1
  generalize enterB b name L = r at HBK OKR ⊢
  go_wp2
  refine bodyPost_ret (v := .agg #[.slice x1 r.1.things.length y1, .slice x2 r.1.batches.length y2]) (by simp [results, Tryz.results42, go_sem, t0, t1]) rfl ⟨r.1, x1, x2, y1, y2, rfl, ?_, ?_, OKR.out⟩
  ·exact (two_boxes HE1.out HB1.out HR1.out (by omega) noStr2 noStr2 (by omega) (by omega) HBK.out.1).1
  ·exact ⟨(two_boxes HE1.out HB1.out HR1.out (by omega) noStr2 noStr2 (by omega) (by omega) HBK.out.1).2, boxes_own HB1.out HR1.out (HBK.out.2.1.low (by simp; omega)) (HBK.out.2.2.low (by simp; omega))⟩
 ·by_cases h2 : kind = 2
  ·subst h2
   have OKR := hid (ask_ok (n := name) (things := L) hok)
   go_wp2_with fail
   refine (specAsk_own b name L _ _ _ _ _ _ _ (hb.ext HE.out) (hL.ext HE.out)).mono ?_
   rintro e w1 ⟨x1, y1, x2, y2, rfl, hE1, hb1⟩
   have HB1 := hid (HB0.out.ext hE1)
   have HR1 := hid (HR0.out.ext hE1)
   have HE1 := hid (Ext.tr HE.out hE1)
   have HBK := hid hb1
   clear HB0 HR0 HE hE1 hb1
   have q0 := HB1.out.cell (i := 0) rfl
   have q1 := HB1.out.cell (i := 1) rfl
   have g0 := HB1.out.frozen 0
   have g1 := HB1.out.frozen 1
   have t0 := HR1.out.cell (i := 0) rfl
   have t1 := HR1.out.cell (i := 1) rfl
   have f0 := HR1.out.frozen 0
   have f1 := HR1.out.frozen 1
   generalize askB b name L = r at HBK OKR ⊢
   go_wp2
   refine bodyPost_ret (v := .agg #[.slice x1 r.1.things.length y1, .slice x2 r.1.batches.length y2]) (by simp [results, Tryz.results42, go_sem, t0, t1]) rfl ⟨r.1, x1, x2, y1, y2, rfl, ?_, ?_, OKR.out⟩
   ·exact (two_boxes HE1.out HB1.out HR1.out (by omega) noStr2 noStr2 (by omega) (by omega) HBK.out.1).1
   ·exact ⟨(two_boxes HE1.out HB1.out HR1.out (by omega) noStr2 noStr2 (by omega) (by omega) HBK.out.1).2, boxes_own HB1.out HR1.out (HBK.out.2.1.low (by simp; omega)) (HBK.out.2.2.low (by simp; omega))⟩
  ·by_cases h3 : kind = 3
   ·subst h3
    have OKR := hid (less_ok (n := name) (needs := L) hok)
    go_wp2_with fail
    refine (specLess_own b name L _ _ _ _ _ _ _ (hb.ext HE.out) (hL.ext HE.out)).mono ?_
    rintro e w1 ⟨x1, y1, x2, y2, rfl, hE1, hb1⟩
    have HB1 := hid (HB0.out.ext hE1)
    have HR1 := hid (HR0.out.ext hE1)
    have HE1 := hid (Ext.tr HE.out hE1)
    have HBK := hid hb1
    clear HB0 HR0 HE hE1 hb1
    have q0 := HB1.out.cell (i := 0) rfl
    have q1 := HB1.out.cell (i := 1) rfl
    have g0 := HB1.out.frozen 0
    have g1 := HB1.out.frozen 1
    have t0 := HR1.out.cell (i := 0) rfl
    have t1 := HR1.out.cell (i := 1) rfl
    have f0 := HR1.out.frozen 0
    have f1 := HR1.out.frozen 1
    generalize lessB b name L = r at HBK OKR ⊢
    go_wp2
    refine bodyPost_ret (v := .agg #[.slice x1 r.1.things.length y1, .slice x2 r.1.batches.length y2]) (by simp [results, Tryz.results42, go_sem, t0, t1]) rfl ⟨r.1, x1, x2, y1, y2, rfl, ?_, ?_, OKR.out⟩
    ·exact (two_boxes HE1.out HB1.out HR1.out (by omega) noStr2 noStr2 (by omega) (by omega) HBK.out.1).1
    ·exact ⟨(two_boxes HE1.out HB1.out HR1.out (by omega) noStr2 noStr2 (by omega) (by omega) HBK.out.1).2, boxes_own HB1.out HR1.out (HBK.out.2.1.low (by simp; omega)) (HBK.out.2.2.low (by simp; omega))⟩
   ·have n1 : ((kind : Int) == 1) = false := by simp; omega
    have n2 : ((kind : Int) == 2) = false := by simp; omega
    have n3 : ((kind : Int) == 3) = false := by simp; omega
    have OKR := hid (leave_ok (n := name) hok)
    go_wp2_with fail
    refine (specLeave_own b name _ _ _ _ _ (hb.ext HE.out)).mono ?_
    rintro e w1 ⟨x1, y1, x2, y2, rfl, hE1, hb1⟩
    have HB1 := hid (HB0.out.ext hE1)
    have HR1 := hid (HR0.out.ext hE1)
    have HE1 := hid (Ext.tr HE.out hE1)
    have HBK := hid hb1
    clear HB0 HR0 HE hE1 hb1
    have q0 := HB1.out.cell (i := 0) rfl
    have q1 := HB1.out.cell (i := 1) rfl
    have g0 := HB1.out.frozen 0
    have g1 := HB1.out.frozen 1
    have t0 := HR1.out.cell (i := 0) rfl
    have t1 := HR1.out.cell (i := 1) rfl
    have f0 := HR1.out.frozen 0
    have f1 := HR1.out.frozen 1
    generalize leaveB b name = r at HBK OKR ⊢
    go_wp2
    refine bodyPost_ret (v := .agg #[.slice x1 r.1.things.length y1, .slice x2 r.1.batches.length y2]) (by simp [results, Tryz.results42, go_sem, t0, t1]) rfl ⟨r.1, x1, x2, y1, y2, rfl, ?_, ?_, OKR.out⟩
    ·exact (two_boxes HE1.out HB1.out HR1.out (by omega) noStr2 noStr2 (by omega) (by omega) HBK.out.1).1
    ·exact ⟨(two_boxes HE1.out HB1.out HR1.out (by omega) noStr2 noStr2 (by omega) (by omega) HBK.out.1).2, boxes_own HB1.out HR1.out (HBK.out.2.1.low (by simp; omega)) (HBK.out.2.2.low (by simp; omega))⟩
theorem l5Step_any (b : Book) (kind : Nat) (name : Str) (L : List Str) (a1 a2 a3 : Option Addr) (c1 c2 c3 : Nat) (w : World) (hb : BookAt w a1 a2 b) (hn : name.length ≤ 140737488355328) (hL : StrsAt w a3 L) (hok : bookOk b = true) :
  Calls Qry.prog 42 #[.agg #[.slice a1 b.things.length c1, .slice a2 b.batches.length c2], .agg #[.int .i64 (kind : Int), .string (S name), .slice a3 L.length c3]] w fun e w' =>
   ∃ (b' : Book) (x1 x2 : Option Addr) (y1 y2 : Nat), e = .returned (.agg #[.slice x1 b'.things.length y1, .slice x2 b'.batches.length y2]) ∧ Ext w w' ∧ BookAt w' x1 x2 b' ∧ bookOk b' = true :=
 (l5Step_own b kind name L a1 a2 a3 c1 c2 c3 w hb hn hL hok).mono fun _ _ ⟨b', x1, x2, y1, y2, h1, h2, h3, h4⟩ => ⟨b', x1, x2, y1, y2, h1, h2, h3.1, h4⟩
end
section
open Go.RowKit
attribute [local go_sem] S_toList S_size S_get
def SmallBs (bs : List Batch) : Prop := ∀ x ∈ bs, x.has.length ≤ 8 ∧ x.needs.length ≤ 8
structure WS (w wc : World) (R q : Nat) (T : List Str) (a1 : Option Addr) (c1 : Nat) (vt vb : Value) (TL : List Str) (rs : List Row) (bs : List Batch) : Prop where
 on : w.grownBy wc (some R)
 rd : Rd wc R q
 rb : Rec wc w.heap.size 26 [.slice a1 T.length c1, vb]
 rr : Rec wc (w.heap.size + 1) 26 [.slice none 0 0, .slice none 0 0]
 nm : StrsAt wc (some ⟨w.heap.size + 1 + 1, 0, none⟩) five
 ot : OwnL wc (w.heap.size + 3) vt TL
 st : ShortL TL
 ob : wc.ownsRow (w.heap.size + 3) 73 3 vb rs.length (cellsOf rs)
 ow : RowsOwn wc (w.heap.size + 3) rs bs
 nt : ∀ r ∈ rs, NE vt r.has ∧ NE vt r.needs
 sm : SmallBs bs
 hR : R < w.heap.size
 hz : w.heap.size + 3 ≤ wc.heap.size
theorem WS.ext {w wc wd : World} {R q : Nat} {T : List Str} {a1 : Option Addr} {c1 : Nat} {vt vb : Value} {TL : List Str} {rs : List Row} {bs : List Batch} (h : WS w wc R q T a1 c1 vt vb TL rs bs) (e : Ext wc wd) : WS w wd R q T a1 c1 vt vb TL rs bs :=
 ⟨gb_tr h.on (gb_ext e _), h.rd.ext e, h.rb.ext e, h.rr.ext e, h.nm.ext e, h.ot.ext e, h.st, row_ext h.ob e, h.ow.ext e, h.nt, h.sm, h.hR, Nat.le_trans h.hz e.size⟩
theorem WS.read {w wc wd : World} {R q q' : Nat} {T : List Str} {a1 : Option Addr} {c1 : Nat} {vt vb : Value} {TL : List Str} {rs : List Row} {bs : List Batch} (h : WS w wc R q T a1 c1 vt vb TL rs bs) (g : wc.grownBy wd (some R)) (hr : Rd wd R q') : WS w wd R q' T a1 c1 vt vb TL rs bs := by
 have hR := h.hR
 have hf : ∀ k, some R = some k → k < w.heap.size + 3 := fun k e => by cases e; omega
 exact ⟨gb_tr h.on g, hr, h.rb.kept g (by simp; omega), h.rr.kept g (by simp; omega), h.nm.gb g (fun _ b o e => by cases e; simp; omega), h.ot.far g hf, h.st, own_far h.ob g hf, h.ow.far g hf, h.nt, h.sm, h.hR, Nat.le_trans h.hz g.size⟩
theorem WS.mono {w wc : World} {R q q' : Nat} {T : List Str} {a1 : Option Addr} {c1 : Nat} {vt vb : Value} {TL : List Str} {rs : List Row} {bs : List Batch} (h : WS w wc R q T a1 c1 vt vb TL rs bs) (hq : q ≤ q') : WS w wc R q' T a1 c1 vt vb TL rs bs :=
 ⟨h.on, h.rd.mono hq, h.rb, h.rr, h.nm, h.ot, h.st, h.ob, h.ow, h.nt, h.sm, h.hR, h.hz⟩
theorem WS.strs {w wc wd : World} {R q : Nat} {T : List Str} {a1 : Option Addr} {c1 : Nat} {vt vb u : Value} {TL L : List Str} {rs : List Row} {bs : List Batch} (h : WS w wc R q T a1 c1 vt vb TL rs bs) (ho : OwnL wc (w.heap.size + 3) u L) (g : wc.grownBy wd u.ownBlock) (n1 : NE u vt) (n2 : ∀ r ∈ rs, NE u r.has ∧ NE u r.needs) : WS w wd R q T a1 c1 vt vb TL rs bs := by
 have hR := h.hR
 have hob : ∀ k, u.ownBlock = some k → w.heap.size + 3 ≤ k := fun k e => (ho.lt k e).1
 refine ⟨on_grown h.on g (fun k e => by have := hob k e; omega), h.rd.gb g (fun k e => by have := hob k e; omega), h.rb.kept g (h.rb.not_row rfl ho), h.rr.kept g (h.rr.not_row rfl ho), h.nm.gb g (fun _ b o e er => by cases e; have := hob _ er.symm; omega), own_ne h.ot g n1, h.st, ?_, h.ow.ne g n2, h.nt, h.sm, h.hR, Nat.le_trans h.hz g.size⟩
 refine own_ne h.ob g (fun k e1 e2 => ?_)
 rcases ho.2 with ⟨rfl, _⟩ | ⟨b1, _, _, rfl, _, hg1, _⟩
 ·simp [Value.ownBlock] at e1
 ·rcases h.ob.2 with ⟨e, _⟩ | ⟨b2, _, _, e, _, hg2, _⟩
  ·rw [e] at e2; simp [Value.ownBlock] at e2
  ·rw [e] at e2
   simp only [Value.ownBlock, Option.some.injEq] at e1 e2
   subst e1; subst e2
   rw [hg1] at hg2; simp at hg2
theorem WS.taken {w wc wd : World} {R q : Nat} {T : List Str} {a1 : Option Addr} {c1 : Nat} {vt vt' vb : Value} {TL TL' : List Str} {rs : List Row} {bs : List Batch} (h : WS w wc R q T a1 c1 vt vb TL rs bs) (g : wc.grownBy wd vt.ownBlock) (ho : OwnL wd (w.heap.size + 3) vt' TL') (hs : ShortL TL') (hu : vt'.ownBlock = vt.ownBlock ∨ vt'.ownBlock = some wc.heap.size) : WS w wd R q T a1 c1 vt' vb TL' rs bs := by
 have hR := h.hR
 have hob : ∀ k, vt.ownBlock = some k → w.heap.size + 3 ≤ k := fun k e => (h.ot.lt k e).1
 refine ⟨on_grown h.on g (fun k e => by have := hob k e; omega), h.rd.gb g (fun k e => by have := hob k e; omega), h.rb.kept g (h.rb.not_row rfl h.ot), h.rr.kept g (h.rr.not_row rfl h.ot), h.nm.gb g (fun _ b o e er => by cases e; have := hob _ er.symm; omega), ho, hs, ?_, h.ow.ne g h.nt, fun r hr => ?_, h.sm, h.hR, Nat.le_trans h.hz g.size⟩
 ·refine own_ne h.ob g (fun k e1 e2 => ?_)
  rcases h.ot.2 with ⟨e, _⟩ | ⟨b1, _, _, e, _, hg1, _⟩
  ·rw [e] at e1; simp [Value.ownBlock] at e1
  ·rcases h.ob.2 with ⟨e', _⟩ | ⟨b2, _, _, e', _, hg2, _⟩
   ·rw [e'] at e2; simp [Value.ownBlock] at e2
   ·rw [e] at e1
    rw [e'] at e2
    simp only [Value.ownBlock, Option.some.injEq] at e1 e2
    subst e1; subst e2
    rw [hg1] at hg2; simp at hg2
 ·obtain ⟨_, k1, _, k2⟩ := h.ow.mem hr
  have hn := h.nt r hr
  exact ⟨hn.1.next k1 hu, hn.2.next k2 hu⟩
theorem WS.store {w wc : World} {R q : Nat} {T : List Str} {a1 : Option Addr} {c1 : Nat} {vt vb : Value} {TL : List Str} {rs : List Row} {bs : List Batch} {X i : Nat} {l : List Value} {u : Value} (h : WS w wc R q T a1 c1 vt vb TL rs bs) (hx : Rec wc X 73 l) (hX : w.heap.size + 3 ≤ X) (hne : vb.ownBlock ≠ some X) : WS w (wc.setCell ⟨X, i, none⟩ u) R q T a1 c1 vt vb TL rs bs := by
 have hR := h.hR
 have g := gb_store wc X i u
 have hk : ∀ (k : Nat) c, some X = some k → wc.heap[k]? = some (.cells c 9 (0, 0)) → False := fun k c e hk => by
  cases e
  rw [show wc.heap[X]? = _ from hx] at hk
  simp at hk
 exact ⟨on_grown h.on g (fun k e => by cases e; omega), h.rd.gb g (fun k e => by cases e; omega), h.rb.kept g (by simp; omega), h.rr.kept g (by simp; omega), h.nm.gb g (fun _ b o e => by cases e; simp; omega), h.ot.keep g hk, h.st, World.ownsRow.kept h.ob g (Or.inr hne), h.ow.keep g hk, h.nt, h.sm, h.hR, Nat.le_trans h.hz g.size⟩
end
end Go.Proofs.YtdafpnpfcmgfcaaGreatDoor
