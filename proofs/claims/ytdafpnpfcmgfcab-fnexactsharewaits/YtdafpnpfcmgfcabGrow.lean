/- A region that draws its order, whose operations only read and whose callees only make new memory: one walk serves every order. -/
import Derived.Test.YtdafpnpfcmgfcabMem
namespace Go.Proofs.Ytdafpnpfcmgfcab
open Go.RowKit

/-- The worlds that have grown out of one. -/
def Grow (w : World) : Type := { w' : World // Ext w w' }
def Grow.w {w : World} (x : Grow w) : World := x.1
theorem Grow.e {w : World} (x : Grow w) : Ext w x.w := x.2
def InGrow (w w' : World) : Prop := ∃ x : Grow w, w' = x.w

theorem wp_region_grow {P : Program} {id : Nat} {Q : Exit → Act → World → Prop} {a : Act} {w : World} {l : List Oper} (hm : P.follows .mixedOrders = true) (hB : Region.lexB .any l.toArray = true)
    (h : wpQuiet P l.toArray (fun w' => ∃ x : Grow w, w' = x.w) (fun a' => ∀ w', (∃ x : Grow w, w' = x.w) → Q .normal a' w') l a) : (Code.region id l.toArray true).wp P Q a w :=
  wp_region_quiet (C := fun w' => ∃ x : Grow w, w' = x.w) hm hB ⟨⟨w.drewN 1, ext_drewN w 1⟩, rfl⟩ (by simpa using h)

theorem grow_of {P : Program} {f : FuncId} {args : Array Value} {w : World} {x : Grow w} {v : Value} (h : Calls P f args x.w fun e w' => e = .returned v ∧ Ext x.w w') :
    Calls P f args x.w fun e w'' => e = .returned v ∧ ∃ y : Grow w, w'' = y.w :=
  h.mono fun _ w' ⟨he, hx⟩ => ⟨he, ⟨w', Ext.tr x.e hx⟩, rfl⟩
theorem grow_same {P : Program} {f : FuncId} {args : Array Value} {w : World} {x : Grow w} {v : Value} (h : Calls P f args x.w fun e w' => e = .returned v ∧ w' = x.w) :
    Calls P f args x.w fun e w'' => e = .returned v ∧ ∃ y : Grow w, w'' = y.w :=
  h.mono fun _ _ ⟨he, hx⟩ => ⟨he, x, hx⟩
theorem grow_draws {P : Program} {f : FuncId} {args : Array Value} {w : World} {x : Grow w} {v : Value} (h : Calls P f args x.w fun e w' => e = .returned v ∧ ∃ n, w' = x.w.drewN n) :
    Calls P f args x.w fun e w'' => e = .returned v ∧ ∃ y : Grow w, w'' = y.w :=
  h.mono fun _ w' ⟨he, n, hx⟩ => ⟨he, ⟨w', Ext.tr x.e (by rw [hx]; exact ext_drewN _ _)⟩, rfl⟩
theorem Grow.cell {w : World} (x : Grow w) {p : Addr} {v : Value} (h : w.cell? p = some v) : x.w.cell? p = some v := x.e.keep h

end Go.Proofs.Ytdafpnpfcmgfcab
