/- How lists of names, batches and books lie in memory. -/
import Derived.Test.YtdafpnpfcmgfcabMath
import Derived.WalkKit
import Derived.Deep.QuietTactic
import Derived.BigQuiet
namespace Go.Proofs.Ytdafpnpfcmgfcab
open Go.RowKit

/-- The world has grown: all that was there is as it was. -/
abbrev Ext (w w' : World) : Prop := Below w.heap.size w w'

theorem hid {p : Prop} (h : p) : Hid p := h

theorem cell_lt {w : World} {p : Addr} {v : Value} (h : w.cell? p = some v) : p.block < w.heap.size := by
  unfold World.cell? at h
  cases hb : w.heap[p.block]? with
  | none => simp [hb] at h
  | some o => exact (Array.getElem?_eq_some_iff.1 hb).1

theorem Ext.keep {w w' : World} (h : Ext w w') {p : Addr} {v : Value} (hc : w.cell? p = some v) : w'.cell? p = some v := by
  rw [Below.cell h (cell_lt hc)]; exact hc

theorem Ext.tr {a b c : World} (h : Ext a b) (k : Ext b c) : Ext a c := Below.trans h (Below.mono k h.size)
theorem Ext.rfl' (w : World) : Ext w w := Below.refl _ _

theorem ext_drewN (w : World) (n : Nat) : Ext w (w.drewN n) := ⟨rfl, rfl, rfl, Nat.le_refl _, fun _ _ => rfl⟩

/-- A list of names, told from a slice's address on. -/
def StrsAt (w : World) (a : Option Addr) (ss : List Str) : Prop :=
  ss.length ≤ 8796093022208 ∧ ∀ i, i < ss.length → (nth ss i).length ≤ 140737488355328 ∧ ∃ b o, a = some ⟨b, o, none⟩ ∧ w.cell? ⟨b, o + i, none⟩ = some (.string (S (nth ss i)))

theorem StrsAt.ext {w w' : World} {a : Option Addr} {ss : List Str} (h : StrsAt w a ss) (e : Ext w w') : StrsAt w' a ss :=
  ⟨h.1, fun i hi => ⟨(h.2 i hi).1, by obtain ⟨b, o, ha, hc⟩ := (h.2 i hi).2; exact ⟨b, o, ha, e.keep hc⟩⟩⟩

theorem StrsAt.drewN {w : World} {a : Option Addr} {ss : List Str} (h : StrsAt w a ss) (n : Nat) : StrsAt (w.drewN n) a ss := h.ext (ext_drewN w n)

theorem StrsAt.nil (w : World) (a : Option Addr) : StrsAt w a [] := ⟨by simp, fun i hi => by simp at hi⟩

/-- One batch, in three cells from an address on. -/
def BatchCells (w : World) (b o : Nat) (x : Batch) : Prop :=
  x.name.length ≤ 140737488355328 ∧ ∃ a1 c1 a2 c2, w.cell? ⟨b, o, none⟩ = some (.string (S x.name)) ∧ w.cell? ⟨b, o + 1, none⟩ = some (.slice a1 x.has.length c1) ∧
    w.cell? ⟨b, o + 2, none⟩ = some (.slice a2 x.needs.length c2) ∧ StrsAt w a1 x.has ∧ StrsAt w a2 x.needs

theorem BatchCells.ext {w w' : World} {b o : Nat} {x : Batch} (h : BatchCells w b o x) (e : Ext w w') : BatchCells w' b o x := by
  obtain ⟨h0, a1, c1, a2, c2, h1, h2, h3, h4, h5⟩ := h
  exact ⟨h0, a1, c1, a2, c2, e.keep h1, e.keep h2, e.keep h3, h4.ext e, h5.ext e⟩

/-- A list of batches, told from a slice's address on. -/
def BatchesAt (w : World) (a : Option Addr) (bs : List Batch) : Prop :=
  bs.length ≤ 2199023255552 ∧ ∀ i, i < bs.length → ∃ b o, a = some ⟨b, o, none⟩ ∧ BatchCells w b (o + i * 3) (nthB bs i)

theorem BatchesAt.ext {w w' : World} {a : Option Addr} {bs : List Batch} (h : BatchesAt w a bs) (e : Ext w w') : BatchesAt w' a bs :=
  ⟨h.1, fun i hi => by obtain ⟨b, o, ha, hc⟩ := h.2 i hi; exact ⟨b, o, ha, hc.ext e⟩⟩

def BookAt (w : World) (a1 a2 : Option Addr) (b : Book) : Prop := StrsAt w a1 b.things ∧ BatchesAt w a2 b.batches

theorem BookAt.ext {w w' : World} {a1 a2 : Option Addr} {b : Book} (h : BookAt w a1 a2 b) (e : Ext w w') : BookAt w' a1 a2 b := ⟨h.1.ext e, h.2.ext e⟩

theorem bcell {W w1 : World} (hb : Below W.heap.size W w1) : (∀ b o, b < W.heap.size → w1.cell? ⟨b, o, none⟩ = W.cell? ⟨b, o, none⟩) ∧ (∀ b o, b < W.heap.size → w1.frozen? ⟨b, o, none⟩ = W.frozen? ⟨b, o, none⟩) :=
  ⟨fun b o h => hb.cell (p := ⟨b, o, none⟩) h, fun b o h => hb.frozen (p := ⟨b, o, none⟩) h⟩

end Go.Proofs.Ytdafpnpfcmgfcab
