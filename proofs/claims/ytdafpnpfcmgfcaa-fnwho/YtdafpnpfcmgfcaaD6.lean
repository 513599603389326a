/- The walk over l5Wild. -/
import Derived.Test.YtdafpnpfcmgfcaaD5
namespace Go.Proofs.Ytdafpnpfcmgfcaa
open Go.RowKit
attribute [local go_sem] S_toList S_size S_get

def SmallBs (bs : List Batch) : Prop := ∀ x ∈ bs, x.has.length ≤ 8 ∧ x.needs.length ≤ 8
/-- The book as it is drawn, what is taken. -/
structure WS (w wc : World) (R q : Nat) (T : List Str) (a1 : Option Addr) (c1 : Nat) (vt vb : Value) (TL : List Str) (rs : List Row) (bs : List Batch) : Prop where
  on : w.grownBy wc (some R)
  rd : Rd wc R q
  rb : Rec wc w.heap.size 26 [.slice a1 T.length c1, vb]
  rr : Rec wc (w.heap.size + 1) 26 [.slice none 0 0, .slice none 0 0]
  nm : StrsAt wc (some ⟨w.heap.size + 1 + 1, 0, none⟩) five
  ot : OwnL wc (w.heap.size + 3) vt TL
  st : ShortL TL
  ob : wc.ownsRow (w.heap.size + 3) 41 3 vb rs.length (cellsOf rs)
  ow : RowsOwn wc (w.heap.size + 3) rs bs
  nt : ∀ r ∈ rs, NE vt r.has ∧ NE vt r.needs
  sm : SmallBs bs
  hR : R < w.heap.size
  hz : w.heap.size + 3 ≤ wc.heap.size

theorem WS.ext {w wc wd : World} {R q : Nat} {T : List Str} {a1 : Option Addr} {c1 : Nat} {vt vb : Value} {TL : List Str} {rs : List Row} {bs : List Batch} (h : WS w wc R q T a1 c1 vt vb TL rs bs) (e : Ext wc wd) : WS w wd R q T a1 c1 vt vb TL rs bs :=
  ⟨gb_tr h.on (gb_ext e _), h.rd.ext e, h.rb.ext e, h.rr.ext e, h.nm.ext e, h.ot.ext e, h.st, row_ext h.ob e, h.ow.ext e, h.nt, h.sm, h.hR, Nat.le_trans h.hz e.size⟩
theorem WS.read {w wc wd : World} {R q q' : Nat} {T : List Str} {a1 : Option Addr} {c1 : Nat} {vt vb : Value} {TL : List Str} {rs : List Row} {bs : List Batch} (h : WS w wc R q T a1 c1 vt vb TL rs bs) (g : wc.grownBy wd (some R)) (hr : Rd wd R q') : WS w wd R q' T a1 c1 vt vb TL rs bs := by
  have hR := h.hR
  have hf : ∀ k, some R = some k → k < w.heap.size + 3 := fun k e => by cases e; omega
  exact ⟨gb_tr h.on g, hr, h.rb.kept g (by simp; omega), h.rr.kept g (by simp; omega), h.nm.gb g (fun _ b o e => by cases e; simp; omega), h.ot.far g hf, h.st, own_far h.ob g hf, h.ow.far g hf, h.nt, h.sm, h.hR, Nat.le_trans h.hz g.size⟩
theorem WS.mono {w wc : World} {R q q' : Nat} {T : List Str} {a1 : Option Addr} {c1 : Nat} {vt vb : Value} {TL : List Str} {rs : List Row} {bs : List Batch} (h : WS w wc R q T a1 c1 vt vb TL rs bs) (hq : q ≤ q') : WS w wc R q' T a1 c1 vt vb TL rs bs :=
  ⟨h.on, h.rd.mono hq, h.rb, h.rr, h.nm, h.ot, h.st, h.ob, h.ow, h.nt, h.sm, h.hR, h.hz⟩
/-- A row of names that is not what is taken (nor any batch's) turns. -/
theorem WS.strs {w wc wd : World} {R q : Nat} {T : List Str} {a1 : Option Addr} {c1 : Nat} {vt vb u : Value} {TL L : List Str} {rs : List Row} {bs : List Batch} (h : WS w wc R q T a1 c1 vt vb TL rs bs) (ho : OwnL wc (w.heap.size + 3) u L) (g : wc.grownBy wd u.ownBlock) (n1 : NE u vt) (n2 : ∀ r ∈ rs, NE u r.has ∧ NE u r.needs) : WS w wd R q T a1 c1 vt vb TL rs bs := by
  have hR := h.hR
  have hob : ∀ k, u.ownBlock = some k → w.heap.size + 3 ≤ k := fun k e => (ho.lt k e).1
  refine ⟨on_grown h.on g (fun k e => by have := hob k e; omega), h.rd.gb g (fun k e => by have := hob k e; omega), h.rb.kept g (h.rb.not_row rfl ho), h.rr.kept g (h.rr.not_row rfl ho), h.nm.gb g (fun _ b o e er => by cases e; have := hob _ er.symm; omega), own_ne h.ot g n1, h.st, ?_, h.ow.ne g n2, h.nt, h.sm, h.hR, Nat.le_trans h.hz g.size⟩
  refine own_ne h.ob g (fun k e1 e2 => ?_)
  rcases ho.2 with ⟨rfl, _⟩ | ⟨b1, _, _, rfl, _, hg1, _⟩
  · simp [Value.ownBlock] at e1
  · rcases h.ob.2 with ⟨e, _⟩ | ⟨b2, _, _, e, _, hg2, _⟩
    · rw [e] at e2; simp [Value.ownBlock] at e2
    · rw [e] at e2
      simp only [Value.ownBlock, Option.some.injEq] at e1 e2
      subst e1; subst e2
      rw [hg1] at hg2; simp at hg2
/-- What is taken grows. -/
theorem WS.taken {w wc wd : World} {R q : Nat} {T : List Str} {a1 : Option Addr} {c1 : Nat} {vt vt' vb : Value} {TL TL' : List Str} {rs : List Row} {bs : List Batch} (h : WS w wc R q T a1 c1 vt vb TL rs bs) (g : wc.grownBy wd vt.ownBlock) (ho : OwnL wd (w.heap.size + 3) vt' TL') (hs : ShortL TL') (hu : vt'.ownBlock = vt.ownBlock ∨ vt'.ownBlock = some wc.heap.size) : WS w wd R q T a1 c1 vt' vb TL' rs bs := by
  have hR := h.hR
  have hob : ∀ k, vt.ownBlock = some k → w.heap.size + 3 ≤ k := fun k e => (h.ot.lt k e).1
  refine ⟨on_grown h.on g (fun k e => by have := hob k e; omega), h.rd.gb g (fun k e => by have := hob k e; omega), h.rb.kept g (h.rb.not_row rfl h.ot), h.rr.kept g (h.rr.not_row rfl h.ot), h.nm.gb g (fun _ b o e er => by cases e; have := hob _ er.symm; omega), ho, hs, ?_, h.ow.ne g h.nt, fun r hr => ?_, h.sm, h.hR, Nat.le_trans h.hz g.size⟩
  · refine own_ne h.ob g (fun k e1 e2 => ?_)
    rcases h.ot.2 with ⟨e, _⟩ | ⟨b1, _, _, e, _, hg1, _⟩
    · rw [e] at e1; simp [Value.ownBlock] at e1
    · rcases h.ob.2 with ⟨e', _⟩ | ⟨b2, _, _, e', _, hg2, _⟩
      · rw [e'] at e2; simp [Value.ownBlock] at e2
      · rw [e] at e1
        rw [e'] at e2
        simp only [Value.ownBlock, Option.some.injEq] at e1 e2
        subst e1; subst e2
        rw [hg1] at hg2; simp at hg2
  · obtain ⟨_, k1, _, k2⟩ := h.ow.mem hr
    have hn := h.nt r hr
    exact ⟨hn.1.next k1 hu, hn.2.next k2 hu⟩
/-- A store into a box that is neither list nor row. -/
theorem WS.store {w wc : World} {R q : Nat} {T : List Str} {a1 : Option Addr} {c1 : Nat} {vt vb : Value} {TL : List Str} {rs : List Row} {bs : List Batch} {X i : Nat} {l : List Value} {u : Value} (h : WS w wc R q T a1 c1 vt vb TL rs bs) (hx : Rec wc X 41 l) (hX : w.heap.size + 3 ≤ X) (hne : vb.ownBlock ≠ some X) : WS w (wc.setCell ⟨X, i, none⟩ u) R q T a1 c1 vt vb TL rs bs := by
  have hR := h.hR
  have g := gb_store wc X i u
  have hk : ∀ (k : Nat) c, some X = some k → wc.heap[k]? = some (.cells c 9 (0, 0)) → False := fun k c e hk => by
    cases e
    rw [show wc.heap[X]? = _ from hx] at hk
    simp at hk
  exact ⟨on_grown h.on g (fun k e => by cases e; omega), h.rd.gb g (fun k e => by cases e; omega), h.rb.kept g (by simp; omega), h.rr.kept g (by simp; omega), h.nm.gb g (fun _ b o e => by cases e; simp; omega), h.ot.keep g hk, h.st, World.ownsRow.kept h.ob g (Or.inr hne), h.ow.keep g hk, h.nt, h.sm, h.hR, Nat.le_trans h.hz g.size⟩
end Go.Proofs.Ytdafpnpfcmgfcaa
