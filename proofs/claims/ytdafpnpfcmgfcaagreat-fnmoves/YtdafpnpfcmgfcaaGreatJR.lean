/- Walks over the laws' marks. What K3 and K4 say of worlds, for a seat that does not hold the laws' marks. Small laws: a world that has drawn; wrapped sums. -/
import Derived.Test.YtdafpnpfcmgfcaaGreatJF
import Derived.Deep.RegionHeld3
import Derived.Test.YtdafpnpfcmgfcaaGreatJH
import Derived.Test.YtdafpnpfcmgfcaaGreatKC
import Derived.Test.YtdafpnpfcmgfcaaGreatW9
import Derived.Test.YtdafpnpfcmgfcaaGreatJQ
namespace Go.Proofs.YtdafpnpfcmgfcaaGreat
open Go.RowKit
attribute [local go_sem] S_toList S_size S_get

theorem S_cons (c : UInt8) (l : Str) : ({ data := #[c] } : ByteArray) ++ S l = S (c :: l) := by
  apply ByteArray.ext
  simp [S]

def digit (m : Nat) : UInt8 := UInt8.ofNat (48 + m % 10)
/-- The decimal digits of a number, ahead of what is there. -/
def decF : Nat → Nat → Str → Str
  | 0, _, acc => acc
  | f + 1, m, acc => if m = 0 then acc else decF f (m / 10) (digit m :: acc)
theorem decF_more : ∀ (f g m : Nat) (acc : Str), m ≤ f → m ≤ g → decF f m acc = decF g m acc
  | 0, 0, _, _, _, _ => rfl
  | 0, g + 1, m, acc, h, _ => by
    have : m = 0 := by omega
    subst this; simp [decF]
  | f + 1, 0, m, acc, _, h => by
    have : m = 0 := by omega
    subst this; simp [decF]
  | f + 1, g + 1, m, acc, h1, h2 => by
    by_cases e : m = 0
    · simp [decF, e]
    · simp only [decF, e, if_false]
      exact decF_more f g _ _ (by omega) (by omega)
def markT (k : Nat) : Str := 109 :: decF k k []
theorem decF_step {m : Nat} (h : 0 < m) (acc : Str) : decF m m acc = decF (m / 10) (m / 10) (digit m :: acc) := by
  obtain ⟨f, rfl⟩ : ∃ f, m = f + 1 := ⟨m - 1, by omega⟩
  have e : ¬ f + 1 = 0 := by omega
  rw [decF, if_neg e]
  exact decF_more _ _ _ _ (by omega) (by omega)

theorem conv_digit (m : Nat) (wr : World) : (convert 22 9 (.slice (some ⟨wr.heap.size, 0, none⟩) 1 1)).run Qry.prog (wr.alloc (.cells #[.int .u8 (48 + (m : Int) % 10)] 5)) = .ok (.string (S [digit m])) (wr.alloc (.cells #[.int .u8 (48 + (m : Int) % 10)] 5)) := by
  have h := run_convert_bytes_arg (P := Qry.prog) (w := wr.alloc (.cells #[.int .u8 (48 + (m : Int) % 10)] 5)) 22 5 (uQ Tryz.underlying22) (uQ Tryz.underlying5) wr.heap.size 0 1 1 [48 + (m : Int) % 10] rfl (fun i hi => by
    have e : i = 0 := by omega
    subst e
    simp) 9 (uQ Tryz.underlying9)
  have e : strOfNums [48 + (m : Int) % 10] = S [digit m] := by
    apply ByteArray.ext
    apply Array.ext'
    rw [strOfNums_data, S_data]
    have e2 : (48 + (m : Int) % 10).toNat = 48 + m % 10 := by omega
    simp [digit, e2]
  rw [e] at h
  exact h
theorem S_app (x : UInt8) (l : Str) : S [x] ++ S l = S (x :: l) := by
  apply ByteArray.ext
  simp [S]

end Go.Proofs.YtdafpnpfcmgfcaaGreat
namespace Go.Proofs.YtdafpnpfcmgfcaaGreat
open Go.RowKit

theorem gb_tr {a b c : World} {row : Option Nat} (h : a.grownBy b row) (k : b.grownBy c row) : a.grownBy c row :=
  ⟨k.os.trans h.os, k.tape.trans h.tape, k.output.trans h.output, Nat.le_trans h.size k.size, fun i hi hr => (k.block i (by have := h.size; omega) hr).trans (h.block i hi hr)⟩
theorem gb_ext {w w' : World} (e : Ext w w') (row : Option Nat) : w.grownBy w' row := ⟨e.os, e.tape, e.output, e.size, fun k hk _ => e.block k hk⟩
theorem gb_set (w : World) (B i : Nat) (v : Value) : w.grownBy (w.setCell ⟨B, i, none⟩ v) (some B) :=
  ⟨rfl, rfl, rfl, by simp [World.setCell], fun k _ hk => Below.heap_setCell _ _ _ k (fun e => hk (by rw [e]))⟩
theorem gb_rfl (w : World) (row : Option Nat) : w.grownBy w row := gb_ext (Ext.rfl' w) row

/-- Between two block numbers anything may have turned; all else is as it was. -/
structure Mid (lo hi : Nat) (w w' : World) : Prop where
  os : w'.os = w.os
  tape : w'.tape = w.tape
  output : w'.output = w.output
  size : w.heap.size ≤ w'.heap.size
  block : ∀ j, j < w.heap.size → (j < lo ∨ hi ≤ j) → w'.heap[j]? = w.heap[j]?
theorem Mid.rfl' (lo hi : Nat) (w : World) : Mid lo hi w w := ⟨rfl, rfl, rfl, Nat.le_refl _, fun _ _ _ => rfl⟩
theorem Mid.tr {lo hi : Nat} {a b c : World} (h : Mid lo hi a b) (k : Mid lo hi b c) : Mid lo hi a c :=
  ⟨k.os.trans h.os, k.tape.trans h.tape, k.output.trans h.output, Nat.le_trans h.size k.size, fun i hi' ho => (k.block i (by have := h.size; omega) ho).trans (h.block i hi' ho)⟩
theorem Mid.of_ext {lo hi : Nat} {w w' : World} (e : Ext w w') : Mid lo hi w w' := ⟨e.os, e.tape, e.output, e.size, fun k hk _ => e.block k hk⟩
theorem Mid.of_gb {lo hi b : Nat} {w w' : World} (g : w.grownBy w' (some b)) (h1 : lo ≤ b) (h2 : b < hi) : Mid lo hi w w' :=
  ⟨g.os, g.tape, g.output, g.size, fun j hj ho => g.block j hj (fun e => by cases e; omega)⟩
theorem Mid.below {lo hi : Nat} {w w' : World} (h : Mid lo hi w w') (hl : lo ≤ w.heap.size) : Below lo w w' := ⟨h.os, h.tape, h.output, h.size, fun k hk => h.block k (by omega) (Or.inl hk)⟩
/-- A list of names that lies beyond. -/
theorem StrsAt.mid {w w' : World} {lo hi : Nat} {a : Option Addr} {ss : List Str} (h : StrsAt w a ss) (m : Mid lo hi w w') (ha : 0 < ss.length → ∀ b o, a = some ⟨b, o, none⟩ → b < lo ∨ hi ≤ b) : StrsAt w' a ss :=
  ⟨h.1, fun i hi' => ⟨(h.2 i hi').1, by
    obtain ⟨b, o, e, hc⟩ := (h.2 i hi').2
    exact ⟨b, o, e, (World.cell?_of_block (w := w) (a := ⟨b, o + i, none⟩) (m.block b (cell_lt hc) (ha (by omega) b o e))).trans hc⟩⟩⟩
theorem StrsAt.lt {w : World} {a : Option Addr} {ss : List Str} (h : StrsAt w a ss) (hp : 0 < ss.length) (b o : Nat) (e : a = some ⟨b, o, none⟩) : b < w.heap.size := by
  obtain ⟨_, b', o', e', hc⟩ := h.2 0 hp
  rw [e] at e'; cases e'
  exact cell_lt hc
theorem OwnL.mid {w w' : World} {lo hi base : Nat} {v : Value} {ss : List Str} (h : OwnL w base v ss) (m : Mid lo hi w w') (hb : hi ≤ base) : OwnL w' base v ss := by
  refine ⟨h.1, ?_⟩
  rcases h.2 with h2 | ⟨g, cap, cur, hv, hg, hc, r⟩
  · exact Or.inl h2
  · exact Or.inr ⟨g, cap, cur, hv, hg, (m.block g (Array.getElem?_eq_some_iff.1 hc).1 (Or.inr (by omega))).trans hc, r⟩
theorem StrsAt.gb {w w' : World} {row : Option Nat} {a : Option Addr} {ss : List Str} (h : StrsAt w a ss) (g : w.grownBy w' row) (ha : 0 < ss.length → ∀ b o, a = some ⟨b, o, none⟩ → some b ≠ row) : StrsAt w' a ss :=
  ⟨h.1, fun i hi' => ⟨(h.2 i hi').1, by
    obtain ⟨b, o, e, hc⟩ := (h.2 i hi').2
    exact ⟨b, o, e, (World.cell?_of_block (w := w) (a := ⟨b, o + i, none⟩) (g.block b (cell_lt hc) (ha (by omega) b o e))).trans hc⟩⟩⟩

def RowN (w : World) (b n : Nat) : Prop := ∃ f, w.rowIs b 9 n f
theorem RowN.len {w : World} {b n m : Nat} (h : RowN w b n) (k : RowN w b m) : n = m := by
  obtain ⟨f, c, hc, hs, _⟩ := h
  obtain ⟨g, d, hd, hs', _⟩ := k
  rw [hc] at hd; cases hd
  omega
theorem RowN.ext {w w' : World} {b n : Nat} (h : RowN w b n) (e : Ext w w') : RowN w' b n := by
  obtain ⟨f, hf⟩ := h
  exact ⟨f, hf.of_block (e.block b hf.lt)⟩
theorem RowN.gb {w w' : World} {b n c m : Nat} (h : RowN w b n) (g : w.grownBy w' (some c)) (h1 : RowN w c m) (h2 : RowN w' c m) : RowN w' b n := by
  by_cases e : b = c
  · subst e
    rw [h.len h1]; exact h2
  · obtain ⟨f, hf⟩ := h
    exact ⟨f, hf.of_block (g.block b hf.lt (fun e' => e (by cases e'; rfl)))⟩
theorem RowN.lt {w : World} {b n : Nat} (h : RowN w b n) : b < w.heap.size := by
  obtain ⟨f, hf⟩ := h
  exact hf.lt
end Go.Proofs.YtdafpnpfcmgfcaaGreat
namespace Go.Proofs.YtdafpnpfcmgfcaaGreat
open Go.RowKit

theorem gb_tr' {a b : World} {row : Option Nat} (h : a.grownBy b row) : a.grownBy b.drew row := ⟨h.os, h.tape, h.output, h.size, h.block⟩
theorem wrapS {z : Int} (h0 : 0 ≤ z) (h1 : z < 9223372036854775808) : IntKind.i64.wrap z = z := by rw [IntKind.wrap_i64]; omega
end Go.Proofs.YtdafpnpfcmgfcaaGreat
