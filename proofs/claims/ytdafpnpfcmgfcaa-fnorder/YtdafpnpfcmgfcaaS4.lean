/- What the specification's functions of chapter 3 share; the walk over ShareEnter. -/
import Derived.Test.YtdafpnpfcmgfcaaSA
import Derived.Test.YtdafpnpfcmgfcaaMath7
namespace Go.Proofs.Ytdafpnpfcmgfcaa
open Go.RowKit
attribute [local go_sem] S_toList S_size S_get

def ShortBs (bs : List Batch) : Prop := bs.length ≤ 2199023255552
theorem own_book_at {w : World} {base : Nat} {b : Book} {x1 x2 : Option Addr} {y1 y2 : Nat} (h1 : OwnL w base (.slice x1 b.things.length y1) b.things) (hs : ShortS b.things) (h2 : OwnBs w base (.slice x2 b.batches.length y2) b.batches) (hn : b.batches.length ≤ 2199023255552) : BookAt w x1 x2 b := by
  obtain ⟨a1, c1, e1, k1⟩ := h1.at' hs
  obtain ⟨a2, c2, e2, k2⟩ := h2.at hn
  simp only [Value.slice.injEq] at e1 e2
  obtain ⟨rfl, _⟩ := e1
  obtain ⟨rfl, _⟩ := e2
  exact ⟨k1, k2⟩

/-- The answer of a function of chapter 3: a book and a code. -/
def BookRes (w : World) (r : Book × Nat) (e : Ending) (w' : World) : Prop :=
  ∃ a1 c1 a2 c2, e = .returned (.tuple #[.agg #[.slice a1 r.1.things.length c1, .slice a2 r.1.batches.length c2], .int .i64 ((r.2 : Nat) : Int)]) ∧ Ext w w' ∧ BookAt w' a1 a2 r.1

/-- The book's box, the result's, the copy's. -/
structure EnS (w wc : World) (b : Book) (a1 a2 : Option Addr) (c1 c2 : Nat) (x1 x2 : Option Addr) (y1 y2 X : Nat) : Prop where
  ext : Ext w wc
  rb : Rec wc w.heap.size 26 [.slice a1 b.things.length c1, .slice a2 b.batches.length c2]
  rr : Rec wc (w.heap.size + 1) 26 [.slice none 0 0, .slice none 0 0]
  rx : Rec wc X 26 [.slice x1 b.things.length y1, .slice x2 b.batches.length y2]
  o1 : OwnL wc w.heap.size (.slice x1 b.things.length y1) b.things
  o2 : OwnBs wc w.heap.size (.slice x2 b.batches.length y2) b.batches
  hx : w.heap.size + 2 ≤ X

theorem EnS.next {w wc wd : World} {b : Book} {a1 a2 : Option Addr} {c1 c2 : Nat} {x1 x2 : Option Addr} {y1 y2 X : Nat} (h : EnS w wc b a1 a2 c1 c2 x1 x2 y1 y2 X) (e : Ext wc wd) : EnS w wd b a1 a2 c1 c2 x1 x2 y1 y2 X :=
  ⟨Ext.tr h.ext e, h.rb.ext e, h.rr.ext e, h.rx.ext e, h.o1.ext e, h.o2.ext e, h.hx⟩

/-- Behind the two stores of a book into the result's box. -/
theorem stored_book {w wc : World} {RB : Nat} {l : List Value} {b : Book} {x1 x2 : Option Addr} {y1 y2 : Nat} (hE : Ext w wc) (hR : Rec wc RB 26 l) (hRB : w.heap.size ≤ RB)
    (h1 : OwnL wc w.heap.size (.slice x1 b.things.length y1) b.things) (hs : ShortS b.things) (h2 : OwnBs wc w.heap.size (.slice x2 b.batches.length y2) b.batches) (hn : b.batches.length ≤ 2199023255552) (u v : Value) :
    Ext w ((wc.setCell ⟨RB, 0, none⟩ u).setCell ⟨RB, 1, none⟩ v) ∧ BookAt ((wc.setCell ⟨RB, 0, none⟩ u).setCell ⟨RB, 1, none⟩ v) x1 x2 b :=
  ⟨(hE.setCell hRB _).setCell hRB _, own_book_at ((h1.stored hR rfl _ _).stored (hR.set _ _) rfl _ _) hs ((h2.stored hR rfl rfl _ _).stored (hR.set _ _) rfl rfl _ _) hn⟩

theorem EnS.fin {w wc : World} {b : Book} {a1 a2 : Option Addr} {c1 c2 : Nat} {x1 x2 : Option Addr} {y1 y2 X : Nat} (h : EnS w wc b a1 a2 c1 c2 x1 x2 y1 y2 X) (hb : BookAt w a1 a2 b) (u v : Value) :
    Ext w ((wc.setCell ⟨w.heap.size + 1, 0, none⟩ u).setCell ⟨w.heap.size + 1, 1, none⟩ v) ∧ BookAt ((wc.setCell ⟨w.heap.size + 1, 0, none⟩ u).setCell ⟨w.heap.size + 1, 1, none⟩ v) x1 x2 b :=
  stored_book h.ext h.rr (by omega) h.o1 hb.1.short h.o2 hb.2.1 u v

theorem EnS.mk' {w w1 w2 : World} {b : Book} {a1 a2 : Option Addr} {c1 c2 : Nat} {x1 x2 : Option Addr} {y1 y2 : Nat}
    (h1 : Ext ((w.alloc (.cells #[.slice a1 b.things.length c1, .slice a2 b.batches.length c2] 26)).alloc (.cells #[.slice none 0 0, .slice none 0 0] 26)) w1) (h2 : Ext w1 w2)
    (o1 : OwnL w2 w1.heap.size (.slice x1 b.things.length y1) b.things) (o2 : OwnBs w2 w1.heap.size (.slice x2 b.batches.length y2) b.batches) :
    EnS w (w2.alloc (.cells #[.slice x1 b.things.length y1, .slice x2 b.batches.length y2] 26)) b a1 a2 c1 c2 x1 x2 y1 y2 w2.heap.size := by
  have e2 : ∀ o1 o2, Ext w ((w.alloc o1).alloc o2) := fun o1 o2 => ((Below.refl _ _).alloc (Nat.le_refl _) _).alloc (by simp) _
  have r1 : Rec ((w.alloc (.cells #[.slice a1 b.things.length c1, .slice a2 b.batches.length c2] 26)).alloc (.cells #[.slice none 0 0, .slice none 0 0] 26)) (w.heap.size + 1) 26 [.slice none 0 0, .slice none 0 0] := by
    have h := Rec.new (w.alloc (.cells #[.slice a1 b.things.length c1, .slice a2 b.batches.length c2] 26)) 26 [.slice none 0 0, .slice none 0 0]
    simpa using h
  have r0 : Rec ((w.alloc (.cells #[.slice a1 b.things.length c1, .slice a2 b.batches.length c2] 26)).alloc (.cells #[.slice none 0 0, .slice none 0 0] 26)) w.heap.size 26 [.slice a1 b.things.length c1, .slice a2 b.batches.length c2] :=
    (Rec.new w 26 _).ext (ext_alloc _ _)
  have hz := h1.size
  simp at hz
  have hz2 := h2.size
  have ea := ext_alloc w2 (.cells #[.slice x1 b.things.length y1, .slice x2 b.batches.length y2] 26)
  exact ⟨Ext.tr (Ext.tr (e2 _ _) (Ext.tr h1 h2)) ea, (r0.ext (Ext.tr h1 h2)).ext ea, (r1.ext (Ext.tr h1 h2)).ext ea, Rec.new w2 _ _, (o1.low (by omega)).ext ea, (o2.low (by omega)).ext ea, by omega⟩
/-- Its cells: the book's, the result's, whether they may be written, the copy's. -/
theorem EnS.facts {w wc : World} {b : Book} {a1 a2 : Option Addr} {c1 c2 : Nat} {x1 x2 : Option Addr} {y1 y2 X : Nat} (h : EnS w wc b a1 a2 c1 c2 x1 x2 y1 y2 X) :
    wc.cell? ⟨w.heap.size, 0, none⟩ = some (.slice a1 b.things.length c1) ∧ wc.cell? ⟨w.heap.size, 1, none⟩ = some (.slice a2 b.batches.length c2) ∧
    wc.cell? ⟨w.heap.size + 1, 0, none⟩ = some (.slice none 0 0) ∧ wc.cell? ⟨w.heap.size + 1, 1, none⟩ = some (.slice none 0 0) ∧ wc.frozen? ⟨w.heap.size + 1, 0, none⟩ = false ∧ wc.frozen? ⟨w.heap.size + 1, 1, none⟩ = false ∧
    wc.cell? ⟨X, 0, none⟩ = some (.slice x1 b.things.length y1) ∧ wc.cell? ⟨X, 1, none⟩ = some (.slice x2 b.batches.length y2) :=
  ⟨h.rb.cell rfl, h.rb.cell rfl, h.rr.cell rfl, h.rr.cell rfl, h.rr.frozen 0, h.rr.frozen 1, h.rx.cell rfl, h.rx.cell rfl⟩
theorem BookRes.mk {w w' : World} {r : Book × Nat} {b : Book} {k : Nat} {x1 x2 : Option Addr} {y1 y2 : Nat} (hr : r = (b, k)) (h : Ext w w' ∧ BookAt w' x1 x2 b) : BookRes w r (.returned (.tuple #[.agg #[.slice x1 b.things.length y1, .slice x2 b.batches.length y2], .int .i64 ((k : Nat) : Int)])) w' := by
  subst hr
  exact ⟨x1, y1, x2, y2, rfl, h.1, h.2⟩
end Go.Proofs.Ytdafpnpfcmgfcaa
