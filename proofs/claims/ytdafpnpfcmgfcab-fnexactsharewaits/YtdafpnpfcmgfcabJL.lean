/- Walks over the program's bits of things. Going: the program's state of who is gone and what is free. -/
import Derived.Test.YtdafpnpfcmgfcabV7
import Derived.Test.YtdafpnpfcmgfcabMath5
namespace Go.Proofs.Ytdafpnpfcmgfcab
open Go.RowKit
attribute [local go_sem] S_toList S_size S_get

theorem wrapU {x : Int} (h0 : 0 ≤ x) (h1 : x < 65536) : IntKind.u64.wrap x = x := by rw [IntKind.wrap_u64]; omega
theorem pow_small {k : Nat} (h : k ≤ 8) : (2 : Nat) ^ k ≤ 256 := Nat.pow_le_pow_right (n := 2) (by omega) h
theorem sum_wrap {x k : Nat} (h : k ≤ 8) (hx : x < 2 ^ k) : IntKind.u64.wrap ((x : Int) + IntKind.u64.wrap (2 ^ k)) = ((x + 2 ^ k : Nat) : Int) := by
  have hp := pow_small h
  have e : ((2 : Int) ^ k) = ((2 ^ k : Nat) : Int) := by simp
  have h1 : IntKind.u64.wrap ((2 ^ k : Nat) : Int) = ((2 ^ k : Nat) : Int) := wrapU (by omega) (by omega)
  rw [e, h1, wrapU (by omega) (by omega)]
  omega

set_option maxHeartbeats 400000 in
theorem bitsOf_any (a b : Option Addr) (ca cb : Nat) (sa sb : List Str) (w : World) (ha : StrsAt w a sa) (hb : StrsAt w b sb) (h8 : sb.length ≤ 8) :
    Calls Qry.prog 46 #[.slice a sa.length ca, .slice b sb.length cb] w fun e w' => e = .returned (.int .u64 (bitsN sa sb : Nat)) ∧ w' = w := by
  go_enter Qry.func46, Try.ntmps46
  go_wp2
  go_loop [5, 10] (fun s i => ∃ k : Nat, k ≤ sb.length ∧ i = .int .i64 k ∧ s = .int .u64 (bitsTo sa sb k : Nat)) (fun _ i => sb.length - (intOf i).toNat)
  case atStart => exact ⟨0, Nat.zero_le _, rfl, rfl⟩
  case round =>
    obtain ⟨k, hk, rfl, rfl⟩ := hrel
    by_cases hlt : k < sb.length
    · obtain ⟨_, bb, ob, rfl, hc⟩ := hb.2 k hlt
      have hlo := bitsTo_lt sa sb k
      cases hq : hasB sa (nth sb k)
      · have HQ : Hid (bitsTo sa sb (k + 1) = bitsTo sa sb k) := by show _ = _; rw [bitsTo, hq]; simp
        go_wp2_with (go_at_call 58; refine (slicesContains_any _ _ _ _ _ ha).mono ?_; rintro e w' ⟨rfl, rfl⟩)
        go_round
        case rel => exact ⟨k + 1, by omega, by go_num, by rw [HQ.out]⟩
        case measure => simp [intOf]; omega
      · have HQ : Hid (bitsTo sa sb (k + 1) = bitsTo sa sb k + 2 ^ k) := by show _ = _; rw [bitsTo, hq]; simp
        go_wp2_with (go_at_call 58; refine (slicesContains_any _ _ _ _ _ ha).mono ?_; rintro e w' ⟨rfl, rfl⟩)
        go_round
        case rel => exact ⟨k + 1, by omega, by go_num, by rw [HQ.out, sum_wrap (by omega) hlo]⟩
        case measure => simp [intOf]; omega
    · have e : Hid (bitsTo sa sb k = bitsN sa sb) := by
        have : k = sb.length := by omega
        show _ = _; rw [this]; rfl
      go_wp2
      go_ret
      exact ⟨by rw [← e.out]; rfl, rfl⟩
end Go.Proofs.Ytdafpnpfcmgfcab
namespace Go.Proofs.Ytdafpnpfcmgfcab
open Go.RowKit

def bnth (l : List Nat) (i : Nat) : Nat := l.getD i 0
def gnth (l : List Bool) (i : Nat) : Bool := l.getD i false
def goingCells (vh vn : Value) (bg n free : Nat) (j : Nat) : Value :=
  match j with
  | 0 => vh
  | 1 => vn
  | 2 => .slice (some ⟨bg, 0, none⟩) n n
  | _ => .int .u64 (free : Int)

/-- The state lies at block g, who is gone at block bg, the bits of Has and Needs in rows of the call's own from block 'base' on. -/
structure GoingAt (w : World) (base g bg : Nat) (vh vn : Value) (has needs : List Nat) (gone : List Bool) (free : Nat) : Prop where
  cells : w.rowIs g 61 4 (goingCells vh vn bg gone.length free)
  row : w.rowIs bg 4 gone.length (fun i => .bool (gnth gone i))
  hrow : w.ownsRow base 57 1 vh has.length (has.map fun x : Nat => .int .u64 (x : Int))
  nrow : w.ownsRow base 57 1 vn needs.length (needs.map fun x : Nat => .int .u64 (x : Int))
  hg : g < base
  hbg : bg < base
  ne : g ≠ bg

theorem own_bits {w : World} {base : Nat} {v : Value} {l : List Nat} (h : w.ownsRow base 57 1 v l.length (l.map fun x : Nat => .int .u64 (x : Int))) {i : Nat} (hi : i < l.length) :
    ∃ b cap, v = .slice (some ⟨b, 0, none⟩) l.length cap ∧ base ≤ b ∧ w.cell? ⟨b, i, none⟩ = some (.int .u64 (bnth l i : Int)) := by
  rcases h.2 with ⟨rfl, h0⟩ | ⟨g, cap, cur, rfl, hb, hg, hc, hm, hs, ht⟩
  · omega
  · refine ⟨g, cap, rfl, hb, ?_⟩
    have hx : (l.map fun x : Nat => Value.int .u64 (x : Int))[i]? = some (.int .u64 (bnth l i : Int)) := by
      rw [List.getElem?_map, List.getElem?_eq_getElem hi]; simp [bnth, List.getD_eq_getElem?_getD, hi]
    rw [← ht] at hx
    have hi2 : cur.toList[i]? = some (.int .u64 (bnth l i : Int)) := by
      rw [List.getElem?_take] at hx
      split at hx
      · exact hx
      · simp at hx
    have hi3 : cur[i]? = some (.int .u64 (bnth l i : Int)) := by rw [← Array.getElem?_toList]; exact hi2
    unfold World.cell?
    simp only [hg]
    exact hi3

/-- All bits of a are bits of c. -/
def bsub (a c : Nat) : Bool := (a &&& (18446744073709551615 - c)) == 0
theorem bsub_eq {a f h : Nat} (ha : a < 1024) (hf : f < 1024) (hh : h < 1024) : (bits BinOp.andNot .u64 (a : Int) ((f : Int) + (h : Int)) == 0) = bsub a (f + h) := by
  have e : ((f : Int) + (h : Int)) = ((f + h : Nat) : Int) := by omega
  rw [e, u64_andNot_nat a (f + h) (by omega) (by omega)]
  unfold bsub
  rw [Bool.eq_iff_iff, beq_iff_eq, beq_iff_eq]
  omega
theorem bsub_iff {a c : Nat} (hac : a < 2048) (hc : c < 2048) : bsub a c = true ↔ ∀ j, a.testBit j = true → c.testBit j = true := by
  unfold bsub
  rw [beq_iff_eq]
  have e : 18446744073709551615 - c = 2 ^ 64 - (c + 1) := by omega
  have hb : ∀ j, (2 ^ 64 - (c + 1)).testBit j = (decide (j < 64) && !c.testBit j) := fun j => Nat.testBit_two_pow_sub_succ (by omega) j
  rw [e]
  constructor
  · intro h j hj
    by_cases h64 : j < 64
    · have := congrArg (fun x => x.testBit j) h
      simp only [Nat.testBit_and, Nat.zero_testBit, hj, hb, h64, decide_true, Bool.true_and] at this
      simpa using this
    · exfalso
      have h2 : a < 2 ^ j := Nat.lt_of_lt_of_le hac (Nat.pow_le_pow_right (n := 2) (by omega) (show 11 ≤ j by omega))
      rw [Nat.testBit_lt_two_pow h2] at hj
      cases hj
  · intro h
    apply Nat.eq_of_testBit_eq
    intro j
    rw [Nat.testBit_and, hb, Nat.zero_testBit]
    cases ha : a.testBit j
    · simp
    · simp [h j ha]

set_option maxHeartbeats 400000 in
theorem canGo_any (w : World) (base g bg : Nat) (vh vn : Value) (has needs : List Nat) (gone : List Bool) (free p : Nat) (hst : GoingAt w base g bg vh vn has needs gone free)
    (h1 : p < has.length) (h2 : p < needs.length) (h3 : p < gone.length) (hf : free < 1024) (hh : bnth has p < 1024) (hd : bnth needs p < 1024) :
    Calls Qry.prog 25 #[.pointer (some ⟨g, 0, none⟩), .int .i64 (p : Int)] w fun e w' => e = .returned (.bool (!gnth gone p && bsub (bnth needs p) (free + bnth has p))) ∧ ∃ n, w' = w.drewN n := by
  obtain ⟨b1, k1, rfl, _, q1⟩ := own_bits hst.hrow h1
  obtain ⟨b2, k2, rfl, _, q2⟩ := own_bits hst.nrow h2
  have c0 := hst.cells.cell (i := 0) (by omega)
  have c1 := hst.cells.cell (i := 1) (by omega)
  have c2 := hst.cells.cell (i := 2) (by omega)
  have c3 := hst.cells.cell (i := 3) (by omega)
  simp only [goingCells] at c0 c1 c2 c3
  have r := hst.row.cell h3
  have hw : IntKind.u64.wrap ((free : Int) + (bnth has p : Int)) = (free : Int) + (bnth has p : Int) := wrapU (by omega) (by omega)
  have HV := hid (bsub_eq hd hf hh)
  clear hst
  cases hgone : gnth gone p
  · rw [hgone] at r
    go_enter Qry.func25, Try.ntmps25
    go_wp2
    go_quiet (fail)
    go_wp2
    go_ret
    exact ⟨ret_bool (by rw [HV.out]; rfl), _, rfl⟩
  · rw [hgone] at r
    go_enter Qry.func25, Try.ntmps25
    go_wp2
    go_quiet (fail)
    go_wp2
    go_ret
    exact ⟨ret_bool rfl, _, rfl⟩

theorem rowIs_alike {w w' : World} {b : Nat} {t : TypeId} {n : Nat} {f : Nat → Value} (h : w.rowIs b t n f) (e : w'.Alike w) : w'.rowIs b t n f := h.of_block (by rw [e.1])
theorem ownsRow_alike {w w' : World} {base : Nat} {e : TypeId} {size : Nat} {v : Value} {n : Nat} {xs : List Value} (h : w.ownsRow base e size v n xs) (k : w'.Alike w) : w'.ownsRow base e size v n xs := by
  refine ⟨h.1, ?_⟩
  rcases h.2 with h2 | ⟨g, cap, cur, hv, hb, hg, r⟩
  · exact Or.inl h2
  · exact Or.inr ⟨g, cap, cur, hv, hb, by rw [k.1]; exact hg, r⟩
theorem ownBlock_ge {w : World} {base : Nat} {e : TypeId} {size : Nat} {v : Value} {n : Nat} {xs : List Value} (h : w.ownsRow base e size v n xs) {k : Nat} (hk : k < base) : v.ownBlock ≠ some k := fun e => by
  have := (h.lt k e).1; omega
theorem gnth_set (l : List Bool) (p i : Nat) (hp : p < l.length) : gnth (l.set p true) i = if i = p then true else gnth l i := by
  unfold gnth
  rw [List.getD_eq_getElem?_getD, List.getElem?_set]
  by_cases e : p = i
  · subst e; simp [hp]
  · have e' : ¬ i = p := fun h => e h.symm
    simp [e, e', List.getD_eq_getElem?_getD]
theorem GoingAt.left {w w' : World} {base g bg : Nat} {vh vn : Value} {has needs : List Nat} {gone : List Bool} {free p : Nat} (h : GoingAt w base g bg vh vn has needs gone free) (h3 : p < gone.length)
    (e : w'.Alike ((w.setCell ⟨bg, p, none⟩ (.bool true)).setCell ⟨g, 3, none⟩ (.int .u64 ((free : Int) + (bnth has p : Int))))) :
    GoingAt w' base g bg vh vn has needs (gone.set p true) (free + bnth has p) := by
  have hl : (gone.set p true).length = gone.length := by simp
  refine ⟨?_, ?_, ?_, ?_, h.hg, h.hbg, h.ne⟩
  · refine rowIs_alike (((h.cells.setOther (a := ⟨bg, p, none⟩) h.ne _).set 3 _).congr ?_) e
    intro j hj
    rw [hl]
    match j, hj with
    | 0, _ => rfl
    | 1, _ => rfl
    | 2, _ => rfl
    | 3, _ => simp [goingCells]
  · rw [hl]
    refine rowIs_alike ((((h.row.set p _).setOther (a := ⟨g, 3, none⟩) (Ne.symm h.ne) _)).congr ?_) e
    intro j hj
    rw [gnth_set _ _ _ h3]
    by_cases e : j = p <;> simp [e]
  · exact ownsRow_alike (ownsRow_setCell_other (ownsRow_setCell_other h.hrow (ownBlock_ge h.hrow h.hbg) _) (ownBlock_ge h.hrow h.hg) _) e
  · exact ownsRow_alike (ownsRow_setCell_other (ownsRow_setCell_other h.nrow (ownBlock_ge h.nrow h.hbg) _) (ownBlock_ge h.nrow h.hg) _) e
theorem GoingAt.ext {w w' : World} {base g bg : Nat} {vh vn : Value} {has needs : List Nat} {gone : List Bool} {free : Nat} (h : GoingAt w base g bg vh vn has needs gone free) (e : Ext w w') :
    GoingAt w' base g bg vh vn has needs gone free := by
  have gb : w.grownBy w' none := ⟨e.os, e.tape, e.output, e.size, fun k hk _ => e.block k hk⟩
  refine ⟨h.cells.of_block (e.block g h.cells.lt), h.row.of_block (e.block bg h.row.lt), h.hrow.kept gb ?_, h.nrow.kept gb ?_, h.hg, h.hbg, h.ne⟩
  · cases vh.ownBlock <;> simp
  · cases vn.ownBlock <;> simp
end Go.Proofs.Ytdafpnpfcmgfcab
