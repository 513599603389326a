/- The walks over l5Step and l5Book's loop. -/
import Derived.Test.YtdafpnpfcmgfcaaD4
import Derived.Test.YtdafpnpfcmgfcaaS5
import Derived.Test.YtdafpnpfcmgfcaaS6
import Derived.Test.YtdafpnpfcmgfcaaS8
import Derived.Test.YtdafpnpfcmgfcaaS10
namespace Go.Proofs.Ytdafpnpfcmgfcaa
open Go.RowKit
attribute [local go_sem] S_toList S_size S_get

def NoStr (l : List Value) : Prop := ∀ v ∈ l, ∀ s, v ≠ .string s
theorem rec_ne {w : World} {X : Nat} {t : TypeId} {l : List Value} (h : Rec w X t l) (hl : NoStr l) {b o : Nat} {s : ByteArray} (hc : w.cell? ⟨b, o, none⟩ = some (.string s)) : b ≠ X := by
  intro e
  subst e
  unfold World.cell? at hc
  simp only [show w.heap[b]? = _ from h] at hc
  have hm : l[o]? = some (.string s) := by simpa using hc
  exact hl _ (List.mem_of_getElem? hm) s rfl
theorem BookAt.gbox {w w' : World} {X : Nat} {a1 a2 : Option Addr} {b : Book} (h : BookAt w a1 a2 b) (g : w.grownBy w' (some X)) (hne : ∀ {b o : Nat} {s : ByteArray}, w.cell? ⟨b, o, none⟩ = some (.string s) → b ≠ X) : BookAt w' a1 a2 b := by
  have hs : ∀ {a : Option Addr} {ss : List Str}, StrsAt w a ss → StrsAt w' a ss := fun {a ss} hh => hh.gb g (fun hp b o e er => by
    obtain ⟨_, b', o', e', hc⟩ := hh.2 0 hp
    rw [e] at e'; cases e'
    exact hne hc (by simpa using er))
  refine ⟨hs h.1, h.2.1, fun i hi => ?_⟩
  obtain ⟨bb, o, e, h0, d1, g1, d2, g2, h1, h2, h3, h4, h5⟩ := h.2.2 i hi
  have hn : some bb ≠ some X := fun e => hne h1 (by simpa using e)
  exact ⟨bb, o, e, h0, d1, g1, d2, g2, g.cell h1 hn, g.cell h2 hn, g.cell h3 hn, hs h4, hs h5⟩
/-- A store into a box of slices. -/
theorem BookAt.box {w : World} {X i : Nat} {t : TypeId} {l : List Value} {u : Value} {a1 a2 : Option Addr} {b : Book} (h : BookAt w a1 a2 b) (hr : Rec w X t l) (hl : NoStr l) : BookAt (w.setCell ⟨X, i, none⟩ u) a1 a2 b :=
  h.gbox (gb_store w X i u) (fun hc => rec_ne hr hl hc)
theorem noStr2 {a b : Option Addr} {n m c d : Nat} : NoStr [.slice a n c, .slice b m d] := by
  intro v hv s e
  subst e
  simp at hv
/-- Two stores each into two boxes of books. -/
theorem two_boxes {w wc : World} {B RB : Nat} {p1 p2 r1 r2 : Value} {x1 x2 : Option Addr} {y1 y2 n1 n2 : Nat} {b : Book} (hE : Ext w wc) (hB : Rec wc B 26 [p1, p2]) (hR : Rec wc RB 26 [r1, r2]) (hne : B ≠ RB) (hp : NoStr [p1, p2]) (hr : NoStr [r1, r2]) (h1 : w.heap.size ≤ B) (h2 : w.heap.size ≤ RB) (hb : BookAt wc x1 x2 b) :
    Ext w ((((wc.setCell ⟨B, 0, none⟩ (.slice x1 n1 y1)).setCell ⟨B, 1, none⟩ (.slice x2 n2 y2)).setCell ⟨RB, 0, none⟩ (.slice x1 n1 y1)).setCell ⟨RB, 1, none⟩ (.slice x2 n2 y2)) ∧ BookAt ((((wc.setCell ⟨B, 0, none⟩ (.slice x1 n1 y1)).setCell ⟨B, 1, none⟩ (.slice x2 n2 y2)).setCell ⟨RB, 0, none⟩ (.slice x1 n1 y1)).setCell ⟨RB, 1, none⟩ (.slice x2 n2 y2)) x1 x2 b := by
  refine ⟨(((hE.setCell h1 _).setCell h1 _).setCell h2 _).setCell h2 _, ?_⟩
  have k1 := hb.box (i := 0) (u := .slice x1 n1 y1) hB hp
  have hB1 := hB.set 0 (.slice x1 n1 y1)
  have hp1 : NoStr [Value.slice x1 n1 y1, p2] := by
    intro v hv s e
    simp only [List.mem_cons, List.not_mem_nil, or_false] at hv
    rcases hv with rfl | rfl
    · cases e
    · exact hp _ (by simp) s e
  have k2 := k1.box (i := 1) (u := .slice x2 n2 y2) hB1 hp1
  have hR2 : Rec ((wc.setCell ⟨B, 0, none⟩ (.slice x1 n1 y1)).setCell ⟨B, 1, none⟩ (.slice x2 n2 y2)) RB 26 [r1, r2] := (hR.kept (gb_store _ _ _ _) (by simp; omega)).kept (gb_store _ _ _ _) (by simp; omega)
  have k3 := k2.box (i := 0) (u := .slice x1 n1 y1) hR2 hr
  have hr1 : NoStr [Value.slice x1 n1 y1, r2] := by
    intro v hv s e
    simp only [List.mem_cons, List.not_mem_nil, or_false] at hv
    rcases hv with rfl | rfl
    · cases e
    · exact hr _ (by simp) s e
  exact k3.box (i := 1) (u := .slice x2 n2 y2) (hR2.set 0 _) hr1

set_option maxRecDepth 100000 in
set_option maxHeartbeats 1000000 in
theorem l5Step_any (b : Book) (kind : Nat) (name : Str) (L : List Str) (a1 a2 a3 : Option Addr) (c1 c2 c3 : Nat) (w : World) (hb : BookAt w a1 a2 b) (hn : name.length ≤ 140737488355328) (hL : StrsAt w a3 L) (hok : bookOk b = true) :
    Calls Try.prog 75 #[.agg #[.slice a1 b.things.length c1, .slice a2 b.batches.length c2], .agg #[.int .i64 (kind : Int), .string (S name), .slice a3 L.length c3]] w fun e w' =>
      ∃ (b' : Book) (x1 x2 : Option Addr) (y1 y2 : Nat), e = .returned (.agg #[.slice x1 b'.things.length y1, .slice x2 b'.batches.length y2]) ∧ Ext w w' ∧ BookAt w' x1 x2 b' ∧ bookOk b' = true := by
  have e3 : ∀ o1 o2 o3, Ext w (((w.alloc o1).alloc o2).alloc o3) := fun o1 o2 o3 => (((Below.refl _ _).alloc (Nat.le_refl _) _).alloc (by simp) _).alloc (by simp; omega) _
  have HE : Hid (Ext w (((w.alloc (.cells #[.slice a1 b.things.length c1, .slice a2 b.batches.length c2] 26)).alloc (.cells #[.int .i64 (kind : Int), .string (S name), .slice a3 L.length c3] 106)).alloc (.cells #[.slice none 0 0, .slice none 0 0] 26))) := e3 _ _ _
  have HB0 : Hid (Rec (((w.alloc (.cells #[.slice a1 b.things.length c1, .slice a2 b.batches.length c2] 26)).alloc (.cells #[.int .i64 (kind : Int), .string (S name), .slice a3 L.length c3] 106)).alloc (.cells #[.slice none 0 0, .slice none 0 0] 26)) w.heap.size 26 [.slice a1 b.things.length c1, .slice a2 b.batches.length c2]) := ((Rec.new w _ _).ext (ext_alloc _ _)).ext (ext_alloc _ _)
  have HR0 : Hid (Rec (((w.alloc (.cells #[.slice a1 b.things.length c1, .slice a2 b.batches.length c2] 26)).alloc (.cells #[.int .i64 (kind : Int), .string (S name), .slice a3 L.length c3] 106)).alloc (.cells #[.slice none 0 0, .slice none 0 0] 26)) (w.heap.size + 1 + 1) 26 [.slice none 0 0, .slice none 0 0]) := by
    have h := Rec.new ((w.alloc (.cells #[.slice a1 b.things.length c1, .slice a2 b.batches.length c2] 26)).alloc (.cells #[.int .i64 (kind : Int), .string (S name), .slice a3 L.length c3] 106)) 26 [.slice none 0 0, .slice none 0 0]
    have e : ((w.alloc (.cells #[.slice a1 b.things.length c1, .slice a2 b.batches.length c2] 26)).alloc (.cells #[.int .i64 (kind : Int), .string (S name), .slice a3 L.length c3] 106)).heap.size = w.heap.size + 1 + 1 := by simp
    rw [e] at h; exact h
  go_enter Try.func75, Try.ntmps75
  by_cases h1 : kind = 1
  · subst h1
    have OKR := hid (enter_ok (n := name) (needs := L) hok)
    go_wp2_with fail
    refine (specEnter_any b name L _ _ _ _ _ _ _ (hb.ext HE.out) hn (hL.ext HE.out)).mono ?_
    rintro e w1 ⟨x1, y1, x2, y2, rfl, hE1, hb1⟩
    have HB1 := hid (HB0.out.ext hE1)
    have HR1 := hid (HR0.out.ext hE1)
    have HE1 := hid (Ext.tr HE.out hE1)
    have HBK := hid hb1
    clear HB0 HR0 HE hE1 hb1
    have q0 := HB1.out.cell (i := 0) rfl
    have q1 := HB1.out.cell (i := 1) rfl
    have g0 := HB1.out.frozen 0
    have g1 := HB1.out.frozen 1
    have t0 := HR1.out.cell (i := 0) rfl
    have t1 := HR1.out.cell (i := 1) rfl
    have f0 := HR1.out.frozen 0
    have f1 := HR1.out.frozen 1
    generalize enterB b name L = r at HBK OKR ⊢
    go_wp2
    refine bodyPost_ret (v := .agg #[.slice x1 r.1.things.length y1, .slice x2 r.1.batches.length y2]) (by simp [results, Try.results75, go_sem, t0, t1]) rfl ⟨r.1, x1, x2, y1, y2, rfl, ?_, ?_, OKR.out⟩
    · exact (two_boxes HE1.out HB1.out HR1.out (by omega) noStr2 noStr2 (by omega) (by omega) HBK.out).1
    · exact (two_boxes HE1.out HB1.out HR1.out (by omega) noStr2 noStr2 (by omega) (by omega) HBK.out).2
  · by_cases h2 : kind = 2
    · subst h2
      have OKR := hid (ask_ok (n := name) (things := L) hok)
      go_wp2_with fail
      refine (specAsk_any b name L _ _ _ _ _ _ _ (hb.ext HE.out) (hL.ext HE.out)).mono ?_
      rintro e w1 ⟨x1, y1, x2, y2, rfl, hE1, hb1⟩
      have HB1 := hid (HB0.out.ext hE1)
      have HR1 := hid (HR0.out.ext hE1)
      have HE1 := hid (Ext.tr HE.out hE1)
      have HBK := hid hb1
      clear HB0 HR0 HE hE1 hb1
      have q0 := HB1.out.cell (i := 0) rfl
      have q1 := HB1.out.cell (i := 1) rfl
      have g0 := HB1.out.frozen 0
      have g1 := HB1.out.frozen 1
      have t0 := HR1.out.cell (i := 0) rfl
      have t1 := HR1.out.cell (i := 1) rfl
      have f0 := HR1.out.frozen 0
      have f1 := HR1.out.frozen 1
      generalize askB b name L = r at HBK OKR ⊢
      go_wp2
      refine bodyPost_ret (v := .agg #[.slice x1 r.1.things.length y1, .slice x2 r.1.batches.length y2]) (by simp [results, Try.results75, go_sem, t0, t1]) rfl ⟨r.1, x1, x2, y1, y2, rfl, ?_, ?_, OKR.out⟩
      · exact (two_boxes HE1.out HB1.out HR1.out (by omega) noStr2 noStr2 (by omega) (by omega) HBK.out).1
      · exact (two_boxes HE1.out HB1.out HR1.out (by omega) noStr2 noStr2 (by omega) (by omega) HBK.out).2
    · by_cases h3 : kind = 3
      · subst h3
        have OKR := hid (less_ok (n := name) (needs := L) hok)
        go_wp2_with fail
        refine (specLess_any b name L _ _ _ _ _ _ _ (hb.ext HE.out) (hL.ext HE.out)).mono ?_
        rintro e w1 ⟨x1, y1, x2, y2, rfl, hE1, hb1⟩
        have HB1 := hid (HB0.out.ext hE1)
        have HR1 := hid (HR0.out.ext hE1)
        have HE1 := hid (Ext.tr HE.out hE1)
        have HBK := hid hb1
        clear HB0 HR0 HE hE1 hb1
        have q0 := HB1.out.cell (i := 0) rfl
        have q1 := HB1.out.cell (i := 1) rfl
        have g0 := HB1.out.frozen 0
        have g1 := HB1.out.frozen 1
        have t0 := HR1.out.cell (i := 0) rfl
        have t1 := HR1.out.cell (i := 1) rfl
        have f0 := HR1.out.frozen 0
        have f1 := HR1.out.frozen 1
        generalize lessB b name L = r at HBK OKR ⊢
        go_wp2
        refine bodyPost_ret (v := .agg #[.slice x1 r.1.things.length y1, .slice x2 r.1.batches.length y2]) (by simp [results, Try.results75, go_sem, t0, t1]) rfl ⟨r.1, x1, x2, y1, y2, rfl, ?_, ?_, OKR.out⟩
        · exact (two_boxes HE1.out HB1.out HR1.out (by omega) noStr2 noStr2 (by omega) (by omega) HBK.out).1
        · exact (two_boxes HE1.out HB1.out HR1.out (by omega) noStr2 noStr2 (by omega) (by omega) HBK.out).2
      · have n1 : ((kind : Int) == 1) = false := by simp; omega
        have n2 : ((kind : Int) == 2) = false := by simp; omega
        have n3 : ((kind : Int) == 3) = false := by simp; omega
        have OKR := hid (leave_ok (n := name) hok)
        go_wp2_with fail
        refine (specLeave_any b name _ _ _ _ _ (hb.ext HE.out)).mono ?_
        rintro e w1 ⟨x1, y1, x2, y2, rfl, hE1, hb1⟩
        have HB1 := hid (HB0.out.ext hE1)
        have HR1 := hid (HR0.out.ext hE1)
        have HE1 := hid (Ext.tr HE.out hE1)
        have HBK := hid hb1
        clear HB0 HR0 HE hE1 hb1
        have q0 := HB1.out.cell (i := 0) rfl
        have q1 := HB1.out.cell (i := 1) rfl
        have g0 := HB1.out.frozen 0
        have g1 := HB1.out.frozen 1
        have t0 := HR1.out.cell (i := 0) rfl
        have t1 := HR1.out.cell (i := 1) rfl
        have f0 := HR1.out.frozen 0
        have f1 := HR1.out.frozen 1
        generalize leaveB b name = r at HBK OKR ⊢
        go_wp2
        refine bodyPost_ret (v := .agg #[.slice x1 r.1.things.length y1, .slice x2 r.1.batches.length y2]) (by simp [results, Try.results75, go_sem, t0, t1]) rfl ⟨r.1, x1, x2, y1, y2, rfl, ?_, ?_, OKR.out⟩
        · exact (two_boxes HE1.out HB1.out HR1.out (by omega) noStr2 noStr2 (by omega) (by omega) HBK.out).1
        · exact (two_boxes HE1.out HB1.out HR1.out (by omega) noStr2 noStr2 (by omega) (by omega) HBK.out).2
end Go.Proofs.Ytdafpnpfcmgfcaa
