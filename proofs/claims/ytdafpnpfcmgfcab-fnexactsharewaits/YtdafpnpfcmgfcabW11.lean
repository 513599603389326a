/- The walk over the specification's ShareFits. -/
import Derived.Test.YtdafpnpfcmgfcabW10
import Derived.Test.YtdafpnpfcmgfcabGrow
namespace Go.Proofs.Ytdafpnpfcmgfcab
open Go.RowKit
attribute [local go_sem] S_toList S_size S_get

theorem l1At_yes (b : Book) (x : Str) (p : Nat) (a1 a2 : Option Addr) (c1 c2 : Nat) (w : World) (hb : BookAt w a1 a2 b) (hp : place (namesOf b.batches) x = p) (hlt : p < b.batches.length) :
    Calls Qry.prog 29 #[.agg #[.slice a1 b.things.length c1, .slice a2 b.batches.length c2], .string (S x)] w fun e w' => e = .returned (.int .i64 (p : Nat)) ∧ Ext w w' := by
  refine (l1At_any b x a1 a2 c1 c2 w hb).mono ?_
  rintro e w' ⟨(⟨k, rfl, hk⟩ | ⟨rfl, hk⟩), hext⟩
  · rw [place_of hk] at hp; rw [hp]; exact ⟨rfl, hext⟩
  · rw [place_no hk, namesOf_length] at hp; omega
theorem l1At_no (b : Book) (x : Str) (a1 a2 : Option Addr) (c1 c2 : Nat) (w : World) (hb : BookAt w a1 a2 b) (hlt : ¬ place (namesOf b.batches) x < b.batches.length) :
    Calls Qry.prog 29 #[.agg #[.slice a1 b.things.length c1, .slice a2 b.batches.length c2], .string (S x)] w fun e w' => e = .returned (.int .i64 (-1)) ∧ Ext w w' := by
  refine (l1At_any b x a1 a2 c1 c2 w hb).mono ?_
  rintro e w' ⟨(⟨k, rfl, hk⟩ | ⟨rfl, hk⟩), hext⟩
  · rw [place_of hk] at hlt
    have := hk.1
    rw [namesOf_length] at this; omega
  · exact ⟨rfl, hext⟩
theorem BookAt.draws {w wr : World} {a1 a2 : Option Addr} {b : Book} (h : BookAt w a1 a2 b) (e : ∃ m, wr = w.drewN m) : BookAt wr a1 a2 b := h.ext (draws_ext e)

theorem nth_take {l : List Str} {n i : Nat} (h : i < n) (hl : i < l.length) : nth (l.take n) i = nth l i := by
  rw [nth_get (by rw [List.length_take]; omega), nth_get hl, List.getElem_take]
theorem StrsAt.take {w : World} {a : Option Addr} {ss : List Str} (h : StrsAt w a ss) (n : Nat) : StrsAt w a (ss.take n) := by
  refine ⟨by rw [List.length_take]; have := h.1; omega, fun i hi => ?_⟩
  rw [List.length_take] at hi
  rw [nth_take (by omega) (by omega)]
  exact h.2 i (by omega)
theorem l1Has_n (a : Option Addr) (n cap : Nat) (ss : List Str) (x : Str) (v : Bool) (w : World) (hs : StrsAt w a ss) (hn : ss.length = n) (hv : hasB ss x = v) :
    Calls Qry.prog 37 #[.slice a n cap, .string (S x)] w fun e w' => e = .returned (.bool v) ∧ w' = w := by
  rw [← hv, ← hn]; exact l1Has_any a cap ss x w hs
theorem l2Can_n (b : Book) (at_ : Nat) (gone : List Str) (v : Bool) (a1 a2 a3 : Option Addr) (c1 c2 c3 n : Nat) (w : World) (hb : BookAt w a1 a2 b) (hg : StrsAt w a3 gone) (hat : at_ < b.batches.length) (hn : gone.length = n) (hv : canB b at_ gone = v) :
    Calls Qry.prog 19 #[.agg #[.slice a1 b.things.length c1, .slice a2 b.batches.length c2], .int .i64 (at_ : Int), .slice a3 n c3] w fun e w' => e = .returned (.bool v) ∧ Ext w w' := by
  rw [← hv, ← hn]; exact l2Can_any b at_ gone a1 a2 a3 c1 c2 c3 w hb hg hat
end Go.Proofs.Ytdafpnpfcmgfcab
