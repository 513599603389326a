/- Things as bits of a word. Walks over the program's bits of things. Going: the program's state of who is gone and what is free. What is free, as a sum of bits; who can go by it. The walk over the program's startGoing. The walk over the program's startGoing. The walk over the program's ShareFits. The walk over the program's ShareFits. -/
import Derived.Test.YtdafpnpfcmgfcabGreatDoorMA
import Derived.Test.YtdafpnpfcmgfcabGreatDoorV7
import Derived.Test.YtdafpnpfcmgfcabGreatDoorWC
import Derived.Maps.AppendAt
import Derived.Deep.RegionLaw
import Derived.Deep.RegionHeld3
namespace Go.Proofs.YtdafpnpfcmgfcabGreatDoor

def bitsTo (list things : List Str) : Nat → Nat
  | 0 => 0
  | k + 1 => bitsTo list things k + (if hasB list (nth things k) then 2 ^ k else 0)
def bitsN (list things : List Str) : Nat := bitsTo list things things.length
theorem bitsTo_lt (list things : List Str) : ∀ k, bitsTo list things k < 2 ^ k
  | 0 => by simp [bitsTo]
  | k + 1 => by
    have ih := bitsTo_lt list things k
    rw [bitsTo, Nat.pow_succ]; split <;> omega
theorem bitsTo_bit (list things : List Str) : ∀ k j, (bitsTo list things k).testBit j = (decide (j < k) && hasB list (nth things j))
  | 0, j => by simp [bitsTo]
  | k + 1, j => by
    have ih := bitsTo_bit list things k j
    have hlt := bitsTo_lt list things k
    rw [bitsTo]
    by_cases hb : hasB list (nth things k) = true
    · rw [if_pos hb, Nat.add_comm]
      by_cases e : j = k
      · subst e
        rw [Nat.testBit_two_pow_add_eq, ih]
        simp [hb]
      · by_cases h : j < k
        · rw [Nat.testBit_two_pow_add_gt h, ih]
          have : j < k + 1 := by omega
          simp [h, this]
        · have h2 : 2 ^ k + bitsTo list things k < 2 ^ j := by
            have : 2 ^ (k + 1) ≤ 2 ^ j := Nat.pow_le_pow_right (by omega) (by omega)
            rw [Nat.pow_succ] at this; omega
          rw [Nat.testBit_lt_two_pow h2]
          have : ¬ j < k + 1 := by omega
          simp [this]
    · rw [if_neg hb, Nat.add_zero, ih]
      by_cases e : j = k
      · subst e
        simp at hb
        simp [hb]
      · have : decide (j < k + 1) = decide (j < k) := by rw [Bool.eq_iff_iff]; simp; omega
        rw [this]
theorem bitsN_bit (list things : List Str) (j : Nat) : (bitsN list things).testBit j = (decide (j < things.length) && hasB list (nth things j)) := bitsTo_bit list things things.length j

end Go.Proofs.YtdafpnpfcmgfcabGreatDoor
namespace Go.Proofs.YtdafpnpfcmgfcabGreatDoor
open Go.RowKit
attribute [local go_sem] S_toList S_size S_get

theorem wrapU {x : Int} (h0 : 0 ≤ x) (h1 : x < 65536) : IntKind.u64.wrap x = x := by rw [IntKind.wrap_u64]; omega
theorem pow_small {k : Nat} (h : k ≤ 8) : (2 : Nat) ^ k ≤ 256 := Nat.pow_le_pow_right (n := 2) (by omega) h
theorem sum_wrap {x k : Nat} (h : k ≤ 8) (hx : x < 2 ^ k) : IntKind.u64.wrap ((x : Int) + IntKind.u64.wrap (2 ^ k)) = ((x + 2 ^ k : Nat) : Int) := by
  have hp := pow_small h
  have e : ((2 : Int) ^ k) = ((2 ^ k : Nat) : Int) := by simp
  have h1 : IntKind.u64.wrap ((2 ^ k : Nat) : Int) = ((2 ^ k : Nat) : Int) := wrapU (by omega) (by omega)
  rw [e, h1, wrapU (by omega) (by omega)]
  omega

set_option maxHeartbeats 400000 in
theorem bitsOf_any (a b : Option Addr) (ca cb : Nat) (sa sb : List Str) (w : World) (ha : StrsAt w a sa) (hb : StrsAt w b sb) (h8 : sb.length ≤ 8) :
    Calls Tryz.prog 114 #[.slice a sa.length ca, .slice b sb.length cb] w fun e w' => e = .returned (.int .u64 (bitsN sa sb : Nat)) ∧ w' = w := by
  go_enter Tryz.func114, Tryz.ntmps114
  go_wp2
  go_loop [5, 10] (fun s i => ∃ k : Nat, k ≤ sb.length ∧ i = .int .i64 k ∧ s = .int .u64 (bitsTo sa sb k : Nat)) (fun _ i => sb.length - (intOf i).toNat)
  case atStart => exact ⟨0, Nat.zero_le _, rfl, rfl⟩
  case round =>
    obtain ⟨k, hk, rfl, rfl⟩ := hrel
    by_cases hlt : k < sb.length
    · obtain ⟨_, bb, ob, rfl, hc⟩ := hb.2 k hlt
      have hlo := bitsTo_lt sa sb k
      cases hq : hasB sa (nth sb k)
      · have HQ : Hid (bitsTo sa sb (k + 1) = bitsTo sa sb k) := by show _ = _; rw [bitsTo, hq]; simp
        go_wp2_with (go_at_call 75; refine (slicesContains_any _ _ _ _ _ ha).mono ?_; rintro e w' ⟨rfl, rfl⟩)
        go_round
        case rel => exact ⟨k + 1, by omega, by go_num, by rw [HQ.out]⟩
        case measure => simp [intOf]; omega
      · have HQ : Hid (bitsTo sa sb (k + 1) = bitsTo sa sb k + 2 ^ k) := by show _ = _; rw [bitsTo, hq]; simp
        go_wp2_with (go_at_call 75; refine (slicesContains_any _ _ _ _ _ ha).mono ?_; rintro e w' ⟨rfl, rfl⟩)
        go_round
        case rel => exact ⟨k + 1, by omega, by go_num, by rw [HQ.out, sum_wrap (by omega) hlo]⟩
        case measure => simp [intOf]; omega
    · have e : Hid (bitsTo sa sb k = bitsN sa sb) := by
        have : k = sb.length := by omega
        show _ = _; rw [this]; rfl
      go_wp2
      go_ret
      exact ⟨by rw [← e.out]; rfl, rfl⟩
end Go.Proofs.YtdafpnpfcmgfcabGreatDoor
namespace Go.Proofs.YtdafpnpfcmgfcabGreatDoor
open Go.RowKit

def bnth (l : List Nat) (i : Nat) : Nat := l.getD i 0
def gnth (l : List Bool) (i : Nat) : Bool := l.getD i false
def goingCells (vh vn : Value) (bg n free : Nat) (j : Nat) : Value :=
  match j with
  | 0 => vh
  | 1 => vn
  | 2 => .slice (some ⟨bg, 0, none⟩) n n
  | _ => .int .u64 (free : Int)

/-- The state lies at block g, who is gone at block bg, the bits of Has and Needs in rows of the call's own from block 'base' on. -/
structure GoingAt (w : World) (base g bg : Nat) (vh vn : Value) (has needs : List Nat) (gone : List Bool) (free : Nat) : Prop where
  cells : w.rowIs g 170 4 (goingCells vh vn bg gone.length free)
  row : w.rowIs bg 4 gone.length (fun i => .bool (gnth gone i))
  hrow : w.ownsRow base 166 1 vh has.length (has.map fun x : Nat => .int .u64 (x : Int))
  nrow : w.ownsRow base 166 1 vn needs.length (needs.map fun x : Nat => .int .u64 (x : Int))
  hg : g < base
  hbg : bg < base
  ne : g ≠ bg

theorem own_bits {w : World} {base : Nat} {v : Value} {l : List Nat} (h : w.ownsRow base 166 1 v l.length (l.map fun x : Nat => .int .u64 (x : Int))) {i : Nat} (hi : i < l.length) :
    ∃ b cap, v = .slice (some ⟨b, 0, none⟩) l.length cap ∧ base ≤ b ∧ w.cell? ⟨b, i, none⟩ = some (.int .u64 (bnth l i : Int)) := by
  rcases h.2 with ⟨rfl, h0⟩ | ⟨g, cap, cur, rfl, hb, hg, hc, hm, hs, ht⟩
  · omega
  · refine ⟨g, cap, rfl, hb, ?_⟩
    have hx : (l.map fun x : Nat => Value.int .u64 (x : Int))[i]? = some (.int .u64 (bnth l i : Int)) := by
      rw [List.getElem?_map, List.getElem?_eq_getElem hi]; simp [bnth, List.getD_eq_getElem?_getD, hi]
    rw [← ht] at hx
    have hi2 : cur.toList[i]? = some (.int .u64 (bnth l i : Int)) := by
      rw [List.getElem?_take] at hx
      split at hx
      · exact hx
      · simp at hx
    have hi3 : cur[i]? = some (.int .u64 (bnth l i : Int)) := by rw [← Array.getElem?_toList]; exact hi2
    unfold World.cell?
    simp only [hg]
    exact hi3

/-- All bits of a are bits of c. -/
def bsub (a c : Nat) : Bool := (a &&& (18446744073709551615 - c)) == 0
theorem bsub_eq {a f h : Nat} (ha : a < 1024) (hf : f < 1024) (hh : h < 1024) : (bits BinOp.andNot .u64 (a : Int) ((f : Int) + (h : Int)) == 0) = bsub a (f + h) := by
  have e : ((f : Int) + (h : Int)) = ((f + h : Nat) : Int) := by omega
  rw [e, u64_andNot_nat a (f + h) (by omega) (by omega)]
  unfold bsub
  rw [Bool.eq_iff_iff, beq_iff_eq, beq_iff_eq]
  omega
theorem bsub_iff {a c : Nat} (hac : a < 2048) (hc : c < 2048) : bsub a c = true ↔ ∀ j, a.testBit j = true → c.testBit j = true := by
  unfold bsub
  rw [beq_iff_eq]
  have e : 18446744073709551615 - c = 2 ^ 64 - (c + 1) := by omega
  have hb : ∀ j, (2 ^ 64 - (c + 1)).testBit j = (decide (j < 64) && !c.testBit j) := fun j => Nat.testBit_two_pow_sub_succ (by omega) j
  rw [e]
  constructor
  · intro h j hj
    by_cases h64 : j < 64
    · have := congrArg (fun x => x.testBit j) h
      simp only [Nat.testBit_and, Nat.zero_testBit, hj, hb, h64, decide_true, Bool.true_and] at this
      simpa using this
    · exfalso
      have h2 : a < 2 ^ j := Nat.lt_of_lt_of_le hac (Nat.pow_le_pow_right (n := 2) (by omega) (show 11 ≤ j by omega))
      rw [Nat.testBit_lt_two_pow h2] at hj
      cases hj
  · intro h
    apply Nat.eq_of_testBit_eq
    intro j
    rw [Nat.testBit_and, hb, Nat.zero_testBit]
    cases ha : a.testBit j
    · simp
    · simp [h j ha]

set_option maxHeartbeats 400000 in
theorem canGo_any (w : World) (base g bg : Nat) (vh vn : Value) (has needs : List Nat) (gone : List Bool) (free p : Nat) (hst : GoingAt w base g bg vh vn has needs gone free)
    (h1 : p < has.length) (h2 : p < needs.length) (h3 : p < gone.length) (hf : free < 1024) (hh : bnth has p < 1024) (hd : bnth needs p < 1024) :
    Calls Tryz.prog 115 #[.pointer (some ⟨g, 0, none⟩), .int .i64 (p : Int)] w fun e w' => e = .returned (.bool (!gnth gone p && bsub (bnth needs p) (free + bnth has p))) ∧ ∃ n, w' = w.drewN n := by
  obtain ⟨b1, k1, rfl, _, q1⟩ := own_bits hst.hrow h1
  obtain ⟨b2, k2, rfl, _, q2⟩ := own_bits hst.nrow h2
  have c0 := hst.cells.cell (i := 0) (by omega)
  have c1 := hst.cells.cell (i := 1) (by omega)
  have c2 := hst.cells.cell (i := 2) (by omega)
  have c3 := hst.cells.cell (i := 3) (by omega)
  simp only [goingCells] at c0 c1 c2 c3
  have r := hst.row.cell h3
  have hw : IntKind.u64.wrap ((free : Int) + (bnth has p : Int)) = (free : Int) + (bnth has p : Int) := wrapU (by omega) (by omega)
  have HV := hid (bsub_eq hd hf hh)
  clear hst
  cases hgone : gnth gone p
  · rw [hgone] at r
    go_enter Tryz.func115, Tryz.ntmps115
    go_wp2
    go_quiet (fail)
    go_wp2
    go_ret
    exact ⟨ret_bool (by rw [HV.out]; rfl), _, rfl⟩
  · rw [hgone] at r
    go_enter Tryz.func115, Tryz.ntmps115
    go_wp2
    go_quiet (fail)
    go_wp2
    go_ret
    exact ⟨ret_bool rfl, _, rfl⟩

set_option maxHeartbeats 1000000 in
theorem leave_any (w : World) (base g bg : Nat) (vh vn : Value) (has needs : List Nat) (gone : List Bool) (free p : Nat) (hst : GoingAt w base g bg vh vn has needs gone free)
    (h1 : p < has.length) (h3 : p < gone.length) (hf : free < 1024) (hh : bnth has p < 1024) :
    Calls Tryz.prog 113 #[.pointer (some ⟨g, 0, none⟩), .int .i64 (p : Int)] w fun e w' => e = .returned (.tuple #[]) ∧
      w'.Alike ((w.setCell ⟨bg, p, none⟩ (.bool true)).setCell ⟨g, 3, none⟩ (.int .u64 ((free : Int) + (bnth has p : Int)))) ∧ w'.tape = w.tape := by
  obtain ⟨b1, k1, rfl, hb1, q1⟩ := own_bits hst.hrow h1
  have c0 := hst.cells.cell (i := 0) (by omega)
  have c1 := hst.cells.cell (i := 1) (by omega)
  have c2 := hst.cells.cell (i := 2) (by omega)
  have c3 := hst.cells.cell (i := 3) (by omega)
  simp only [goingCells] at c0 c1 c2 c3
  have r := hst.row.cell h3
  have fr := hst.row.frozen p
  have fg := hst.cells.frozen 3
  have hw : IntKind.u64.wrap ((free : Int) + (bnth has p : Int)) = (free : Int) + (bnth has p : Int) := wrapU (by omega) (by omega)
  have hne := hst.ne
  have hne1 : b1 ≠ bg := by have := hst.hbg; omega
  have hne2 : b1 ≠ g := by have := hst.hg; omega
  clear hst
  go_enter Tryz.func113, Tryz.ntmps113
  go_wp2
  go_region
  all_goals (go_end0; exact ⟨rfl, ⟨rfl, rfl, rfl⟩, rfl⟩)

theorem rowIs_alike {w w' : World} {b : Nat} {t : TypeId} {n : Nat} {f : Nat → Value} (h : w.rowIs b t n f) (e : w'.Alike w) : w'.rowIs b t n f := h.of_block (by rw [e.1])
theorem ownsRow_alike {w w' : World} {base : Nat} {e : TypeId} {size : Nat} {v : Value} {n : Nat} {xs : List Value} (h : w.ownsRow base e size v n xs) (k : w'.Alike w) : w'.ownsRow base e size v n xs := by
  refine ⟨h.1, ?_⟩
  rcases h.2 with h2 | ⟨g, cap, cur, hv, hb, hg, r⟩
  · exact Or.inl h2
  · exact Or.inr ⟨g, cap, cur, hv, hb, by rw [k.1]; exact hg, r⟩
theorem ownBlock_ge {w : World} {base : Nat} {e : TypeId} {size : Nat} {v : Value} {n : Nat} {xs : List Value} (h : w.ownsRow base e size v n xs) {k : Nat} (hk : k < base) : v.ownBlock ≠ some k := fun e => by
  have := (h.lt k e).1; omega
theorem gnth_set (l : List Bool) (p i : Nat) (hp : p < l.length) : gnth (l.set p true) i = if i = p then true else gnth l i := by
  unfold gnth
  rw [List.getD_eq_getElem?_getD, List.getElem?_set]
  by_cases e : p = i
  · subst e; simp [hp]
  · have e' : ¬ i = p := fun h => e h.symm
    simp [e, e', List.getD_eq_getElem?_getD]
theorem GoingAt.left {w w' : World} {base g bg : Nat} {vh vn : Value} {has needs : List Nat} {gone : List Bool} {free p : Nat} (h : GoingAt w base g bg vh vn has needs gone free) (h3 : p < gone.length)
    (e : w'.Alike ((w.setCell ⟨bg, p, none⟩ (.bool true)).setCell ⟨g, 3, none⟩ (.int .u64 ((free : Int) + (bnth has p : Int))))) :
    GoingAt w' base g bg vh vn has needs (gone.set p true) (free + bnth has p) := by
  have hl : (gone.set p true).length = gone.length := by simp
  refine ⟨?_, ?_, ?_, ?_, h.hg, h.hbg, h.ne⟩
  · refine rowIs_alike (((h.cells.setOther (a := ⟨bg, p, none⟩) h.ne _).set 3 _).congr ?_) e
    intro j hj
    rw [hl]
    match j, hj with
    | 0, _ => rfl
    | 1, _ => rfl
    | 2, _ => rfl
    | 3, _ => simp [goingCells]
  · rw [hl]
    refine rowIs_alike ((((h.row.set p _).setOther (a := ⟨g, 3, none⟩) (Ne.symm h.ne) _)).congr ?_) e
    intro j hj
    rw [gnth_set _ _ _ h3]
    by_cases e : j = p <;> simp [e]
  · exact ownsRow_alike (ownsRow_setCell_other (ownsRow_setCell_other h.hrow (ownBlock_ge h.hrow h.hbg) _) (ownBlock_ge h.hrow h.hg) _) e
  · exact ownsRow_alike (ownsRow_setCell_other (ownsRow_setCell_other h.nrow (ownBlock_ge h.nrow h.hbg) _) (ownBlock_ge h.nrow h.hg) _) e
theorem GoingAt.ext {w w' : World} {base g bg : Nat} {vh vn : Value} {has needs : List Nat} {gone : List Bool} {free : Nat} (h : GoingAt w base g bg vh vn has needs gone free) (e : Ext w w') :
    GoingAt w' base g bg vh vn has needs gone free := by
  have gb : w.grownBy w' none := ⟨e.os, e.tape, e.output, e.size, fun k hk _ => e.block k hk⟩
  refine ⟨h.cells.of_block (e.block g h.cells.lt), h.row.of_block (e.block bg h.row.lt), h.hrow.kept gb ?_, h.nrow.kept gb ?_, h.hg, h.hbg, h.ne⟩
  · cases vh.ownBlock <;> simp
  · cases vn.ownBlock <;> simp
end Go.Proofs.YtdafpnpfcmgfcabGreatDoor
namespace Go.Proofs.YtdafpnpfcmgfcabGreatDoor

def bitsP (p : Nat → Bool) : Nat → Nat
  | 0 => 0
  | k + 1 => bitsP p k + (if p k then 2 ^ k else 0)
theorem bitsTo_eq (list things : List Str) : ∀ k, bitsTo list things k = bitsP (fun j => hasB list (nth things j)) k
  | 0 => rfl
  | k + 1 => by rw [bitsTo, bitsP, bitsTo_eq list things k]
theorem bitsP_lt (p : Nat → Bool) : ∀ k, bitsP p k < 2 ^ k
  | 0 => by simp [bitsP]
  | k + 1 => by
    have ih := bitsP_lt p k
    rw [bitsP, Nat.pow_succ]; split <;> omega
theorem bitsP_add {p q r : Nat → Bool} : ∀ {n : Nat}, (∀ k, k < n → p k = (q k || r k)) → (∀ k, k < n → (q k && r k) = false) → bitsP p n = bitsP q n + bitsP r n
  | 0, _, _ => rfl
  | n + 1, h1, h2 => by
    have ih := bitsP_add (n := n) (fun k hk => h1 k (by omega)) (fun k hk => h2 k (by omega))
    have e1 := h1 n (by omega)
    have e2 := h2 n (by omega)
    rw [bitsP, bitsP, bitsP, ih, e1]
    cases hq : q n <;> cases hr : r n <;> simp_all <;> omega
theorem bitsP_congr {p q : Nat → Bool} : ∀ {n : Nat}, (∀ k, k < n → p k = q k) → bitsP p n = bitsP q n
  | 0, _ => rfl
  | n + 1, h => by rw [bitsP, bitsP, bitsP_congr (n := n) (fun k hk => h k (by omega)), h n (by omega)]
theorem bitsP_bit (p : Nat → Bool) : ∀ k j, (bitsP p k).testBit j = (decide (j < k) && p j)
  | 0, j => by simp [bitsP]
  | k + 1, j => by
    have ih := bitsP_bit p k j
    have hlt := bitsP_lt p k
    rw [bitsP]
    by_cases hb : p k = true
    · rw [if_pos hb, Nat.add_comm]
      by_cases e : j = k
      · subst e
        rw [Nat.testBit_two_pow_add_eq, ih]
        simp [hb]
      · by_cases h : j < k
        · rw [Nat.testBit_two_pow_add_gt h, ih]
          have : j < k + 1 := by omega
          simp [h, this]
        · have h2 : 2 ^ k + bitsP p k < 2 ^ j := by
            have : 2 ^ (k + 1) ≤ 2 ^ j := Nat.pow_le_pow_right (by omega) (by omega)
            rw [Nat.pow_succ] at this; omega
          rw [Nat.testBit_lt_two_pow h2]
          have : ¬ j < k + 1 := by omega
          simp [this]
    · rw [if_neg hb, Nat.add_zero, ih]
      by_cases e : j = k
      · subst e
        simp at hb
        simp [hb]
      · have : decide (j < k + 1) = decide (j < k) := by rw [Bool.eq_iff_iff]; simp; omega
        rw [this]

/-- Thing k is free, if each batch is out or has it not. -/
def freeP (b : Book) (out : Nat → Bool) (k : Nat) : Bool := allLt b.batches.length (fun i => out i || !hasB (b.at i).has (nth b.things k))
def freeN (b : Book) (out : Nat → Bool) : Nat := bitsP (freeP b out) b.things.length
def hasBits (b : Book) : List Nat := b.batches.map (fun x => bitsN x.has b.things)
def needsBits (b : Book) : List Nat := b.batches.map (fun x => bitsN x.needs b.things)

theorem ok_apart2 {b : Book} (h : bookOk b = true) {p q : Nat} (hp : p < b.batches.length) (hq : q < b.batches.length) (hne : p ≠ q) {t : Str} (h1 : hasB (b.at p).has t = true) : hasB (b.at q).has t = false := by
  unfold bookOk at h
  simp only [Bool.and_eq_true, allLt_true] at h
  rw [← Bool.not_eq_true, hasB_true]
  rw [hasB_true] at h1
  intro h2
  by_cases hlt : q < p
  · have h3 := (h.2 p hp).2 q hlt
    simp only [Bool.not_eq_true'] at h3
    exact shareB_false.1 h3 t h1 h2
  · have h3 := (h.2 q hq).2 p (by omega)
    simp only [Bool.not_eq_true'] at h3
    exact shareB_false.1 h3 t h2 h1

def putOut (out : Nat → Bool) (p : Nat) : Nat → Bool := fun j => if j = p then true else out j
theorem freeP_put {b : Book} (h : bookOk b = true) {out : Nat → Bool} {p : Nat} (hp : p < b.batches.length) (ho : out p = false) (k : Nat) :
    freeP b (putOut out p) k = (freeP b out k || hasB (b.at p).has (nth b.things k)) ∧ (freeP b out k && hasB (b.at p).has (nth b.things k)) = false := by
  constructor
  · rw [Bool.eq_iff_iff, Bool.or_eq_true]
    unfold freeP
    rw [allLt_true, allLt_true]
    constructor
    · intro hh
      cases hb : hasB (b.at p).has (nth b.things k)
      · refine Or.inl (fun i hi => ?_)
        by_cases e : i = p
        · subst e; simp [hb]
        · have := hh i hi
          simpa [putOut, e] using this
      · exact Or.inr rfl
    · rintro (hh | hb) i hi
      · by_cases e : i = p
        · simp [putOut, e]
        · simpa [putOut, e] using hh i hi
      · by_cases e : i = p
        · simp [putOut, e]
        · simp [ok_apart2 h hp hi (fun k => e k.symm) hb]
  · cases hb : hasB (b.at p).has (nth b.things k)
    · simp
    · have : freeP b out k = false := allLt_no hp (by simp [ho, hb])
      simp [this]
theorem freeN_put {b : Book} (h : bookOk b = true) {out : Nat → Bool} {p : Nat} (hp : p < b.batches.length) (ho : out p = false) : freeN b (putOut out p) = freeN b out + bitsN (b.at p).has b.things := by
  unfold freeN bitsN
  rw [bitsTo_eq]
  exact bitsP_add (fun k _ => (freeP_put h hp ho k).1) (fun k _ => (freeP_put h hp ho k).2)
theorem freeN_congr {b : Book} {o1 o2 : Nat → Bool} (h : ∀ i, i < b.batches.length → o1 i = o2 i) : freeN b o1 = freeN b o2 := by
  unfold freeN
  refine bitsP_congr (fun k _ => ?_)
  unfold freeP
  exact allLt_congr (fun i hi => by rw [h i hi])
theorem freeN_all (b : Book) : freeN b (fun _ => true) = bitsN b.things b.things := by
  unfold freeN bitsN
  rw [bitsTo_eq]
  refine bitsP_congr (fun k hk => ?_)
  have h1 : freeP b (fun _ => true) k = true := allLt_of (fun i _ => rfl)
  rw [h1, hasB_of hk (by simp)]

theorem needs_in {b : Book} (h : bookOk b = true) {p : Nat} (hp : p < b.batches.length) {x : Str} (hx : x ∈ (b.at p).needs) : x ∈ b.things := by
  unfold bookOk at h
  simp only [Bool.and_eq_true, allLt_true, batchOk] at h
  have h3 := (h.2 p hp).1.1.2
  unfold namesOk at h3
  rw [allLt_true] at h3
  obtain ⟨i, hi, e⟩ := List.getElem_of_mem hx
  have := h3 i hi
  rw [Bool.and_eq_true, hasB_true, nth_get hi, e] at this
  exact this.1

/-- Who is not gone can go just if it can have all it needs. -/
theorem can_bits {b : Book} (h : bookOk b = true) {gone : List Str} {p : Nat} (hp : p < b.batches.length) :
    canB b p gone = true ↔ ∀ j, (bitsN (b.at p).needs b.things).testBit j = true → (freeN b (putOut (fun i => hasB gone (b.at i).name) p)).testBit j = true := by
  unfold canB
  rw [allLt_true]
  constructor
  · intro hc j hj
    rw [bitsN_bit, Bool.and_eq_true, decide_eq_true_eq] at hj
    unfold freeN
    rw [bitsP_bit, Bool.and_eq_true, decide_eq_true_eq]
    refine ⟨hj.1, allLt_of (fun i hi => ?_)⟩
    have := hc i hi
    unfold clash at this
    by_cases e : i = p
    · simp [putOut, e]
    · cases hg : hasB gone (b.at i).name
      · simp only [e, hg, decide_false, Bool.not_false, Bool.true_and, Bool.not_eq_true'] at this
        have hs := shareB_false.1 this
        have : hasB (b.at i).has (nth b.things j) = false := by
          rw [← Bool.not_eq_true, hasB_true]
          exact fun h1 => hs _ h1 (hasB_true.1 hj.2)
        simp [this]
      · simp [putOut, e, hg]
  · intro hb i hi
    unfold clash
    by_cases e : i = p
    · simp [e]
    · cases hg : hasB gone (b.at i).name
      · have hs : shareB (b.at i).has (b.at p).needs = false := by
          rw [shareB_false]
          intro x hx hn
          obtain ⟨j, hj, ej⟩ := List.getElem_of_mem (needs_in h hp hn)
          have h1 := hb j (by
            rw [bitsN_bit, nth_get hj, ej]
            simp [hj, hasB_true.2 hn])
          unfold freeN at h1
          rw [bitsP_bit, Bool.and_eq_true] at h1
          have h2 := allLt_true.1 h1.2 i hi
          rw [nth_get hj, ej, hasB_true.2 hx] at h2
          simp [putOut, e, hg] at h2
        simp [hs]
      · simp

end Go.Proofs.YtdafpnpfcmgfcabGreatDoor
namespace Go.Proofs.YtdafpnpfcmgfcabGreatDoor
open Go.RowKit

theorem Tryz.infoBool : (Tryz.prog.info? 4).map (fun i => (i.zero, i.size, i.bytes)) = some (some (.bool false), 1, 1) := by kernel_rfl
theorem Tryz.infoBits : (Tryz.prog.info? 166).map (fun i => (i.zero, i.size, i.bytes)) = some (some (.int .u64 0), 1, 8) := by kernel_rfl
theorem info_bits : ∃ i, Tryz.prog.info? 166 = some i ∧ i.zero = some (.int .u64 0) ∧ i.size = 1 ∧ i.bytes = 8 := by
  obtain ⟨i, hi, hzz⟩ := Option.map_eq_some_iff.1 Tryz.infoBits
  simp only [Prod.mk.injEq] at hzz
  exact ⟨i, hi, hzz.1, hzz.2.1, hzz.2.2⟩

/-- append onto a row of the call's own, as one step of a region that draws. -/
theorem step_append_own_at {P : Program} {w : World} {ops : Array Oper} {o : Oper} {a : Act} {K : Act → World → Prop} {Q : Exit → Act → World → Prop} {E : Prop} (hgd : o.guard = none) (s x : Operand) (t : TypeId)
    (ho : o.op = .call { callee := .builtin .append, args := #[s, x], argTypes := #[t, t] })
    (base : Nat) (e : TypeId) (i : TypeInfo) (z : Value) (size bytes : Nat) (ht : P.underlying t = some (.slice e)) (hi : P.info? e = some i) (hz : i.zero = some z)
    (hsize : i.size = size) (hby : i.bytes = bytes) (hzs : z.cells.size = size) (hsz : 0 < size)
    (v : Value) (n : Nat) (xs : List Value) (hs : a.eval s = v) (hown : w.ownsRow base e size v n xs)
    (ad : Addr) (m c : Nat) (news : List Value) (hx : a.eval x = .slice (some ad) m c) (hl : news.length = m * size) (hnews : ∀ j u, news[j]? = some u → w.cell? (ad.add j) = some u) (h1 : ∀ u ∈ news, u.oneCell' = true)
    (h63 : n + m ≤ maxLen) (hbytes : (n + m) * bytes ≤ 140737488355328) (hbase : base ≤ w.heap.size)
    (h : ∀ v' w', w'.ownsRow base e size v' (n + m) (xs ++ news) → w.grownBy w' v.ownBlock → (v'.ownBlock = v.ownBlock ∨ v'.ownBlock = some w.heap.size) → K (a.put o.dst v') w') :
    if Region.wanted o (yielded ops a.tmps) = true then Oper.wp P o a w K Q else E := by
  have hw : Region.wanted o (yielded ops a.tmps) = true := by simp [Region.wanted, hgd]
  rw [if_pos hw]
  obtain ⟨v', w', hr, h2, h3, _, h5⟩ := run_append_own_at (P := P) w base t o.type e i z size bytes ht hi hz hsize hby hzs hsz v n xs hown ad m c news hl hnews h1 h63 hbytes hbase
  unfold Oper.wp execOp
  simp only [ho, resolve, invoke, builtin, Sem.run_bind, Sem.run_pure, Result.andThen_ok, List.map_toArray, List.map_cons, List.map_nil, hs, hx, hr]
  exact h v' w' h2 h3 h5

/-- The rows of Has and of Needs lie apart. -/
def Sep (vh vn : Value) : Prop := ∀ k, vh.ownBlock = some k → vn.ownBlock ≠ some k

theorem ownsRow_grown {w w' : World} {base : Nat} {e : TypeId} {size : Nat} {v u : Value} {n : Nat} {xs : List Value} (h : w.ownsRow base e size v n xs) (hg : w.grownBy w' u.ownBlock) (hs : ∀ k, v.ownBlock = some k → u.ownBlock ≠ some k) : w'.ownsRow base e size v n xs := by
  refine h.kept hg ?_
  cases hv : v.ownBlock with
  | none => exact Or.inl rfl
  | some k => exact Or.inr (fun e => hs k hv e.symm)
theorem rowIs_grown {w w' : World} {b base : Nat} {t : TypeId} {n m : Nat} {f : Nat → Value} {e : TypeId} {size : Nat} {u : Value} {xs : List Value} (h : w.rowIs b t n f) (hu : w.ownsRow base e size u m xs) (hb : b < base) (hg : w.grownBy w' u.ownBlock) : w'.rowIs b t n f :=
  h.of_block (hg.block b h.lt (fun e => ownBlock_ge hu hb e.symm))

theorem GoingAt.alloc {w : World} {base g bg : Nat} {vh vn : Value} {has needs : List Nat} {gone : List Bool} {free : Nat} (h : GoingAt w base g bg vh vn has needs gone free) (o : Obj) :
    GoingAt (w.alloc o) base g bg vh vn has needs gone free := h.ext ((Below.refl _ _).alloc (Nat.le_refl _) _)
theorem GoingAt.drew {w : World} {base g bg : Nat} {vh vn : Value} {has needs : List Nat} {gone : List Bool} {free : Nat} (h : GoingAt w base g bg vh vn has needs gone free) :
    GoingAt w.drew base g bg vh vn has needs gone free := h.ext (ext_drewN w 1)

theorem GoingAt.pushHas {w w3 : World} {base g bg : Nat} {vh vn v' : Value} {has needs : List Nat} {gone : List Bool} {free x : Nat} (h : GoingAt w base g bg vh vn has needs gone free) (hsep : Sep vh vn)
    (ho : w3.ownsRow base 166 1 v' (has.length + 1) (has.map (fun y : Nat => Value.int .u64 (y : Int)) ++ [.int .u64 (x : Int)])) (hg : w.grownBy w3 vh.ownBlock) (hl : v'.ownBlock = vh.ownBlock ∨ v'.ownBlock = some w.heap.size) :
    GoingAt (w3.setCell ⟨g, 0, none⟩ v') base g bg v' vn (has ++ [x]) needs gone free ∧ Sep v' vn := by
  have hs2 : ∀ k, vn.ownBlock = some k → vh.ownBlock ≠ some k := fun k hk e => hsep k e hk
  have hvn3 := ownsRow_grown h.nrow hg hs2
  have ho' : w3.ownsRow base 166 1 v' (has ++ [x]).length ((has ++ [x]).map (fun y : Nat => Value.int .u64 (y : Int))) := by
    rw [List.length_append, List.map_append]; exact ho
  refine ⟨⟨?_, ?_, ?_, ?_, h.hg, h.hbg, h.ne⟩, ?_⟩
  · refine ((rowIs_grown h.cells h.hrow h.hg hg).set 0 v').congr ?_
    intro j hj
    match j, hj with
    | 0, _ => rfl
    | 1, _ => rfl
    | 2, _ => rfl
    | 3, _ => rfl
  · exact (rowIs_grown h.row h.hrow h.hbg hg).setOther (a := ⟨g, 0, none⟩) (Ne.symm h.ne) _
  · exact ownsRow_setCell_other ho' (ownBlock_ge ho' h.hg) _
  · exact ownsRow_setCell_other hvn3 (ownBlock_ge hvn3 h.hg) _
  · intro k hk e
    rcases hl with hl | hl
    · exact hsep k (by rw [← hl]; exact hk) e
    · have : k = w.heap.size := by rw [hl] at hk; injection hk with hk; exact hk.symm
      have := (h.nrow.lt k e).2; omega
theorem GoingAt.pushNeeds {w w3 : World} {base g bg : Nat} {vh vn v' : Value} {has needs : List Nat} {gone : List Bool} {free x : Nat} (h : GoingAt w base g bg vh vn has needs gone free) (hsep : Sep vh vn)
    (ho : w3.ownsRow base 166 1 v' (needs.length + 1) (needs.map (fun y : Nat => Value.int .u64 (y : Int)) ++ [.int .u64 (x : Int)])) (hg : w.grownBy w3 vn.ownBlock) (hl : v'.ownBlock = vn.ownBlock ∨ v'.ownBlock = some w.heap.size) :
    GoingAt (w3.setCell ⟨g, 1, none⟩ v') base g bg vh v' has (needs ++ [x]) gone free ∧ Sep vh v' := by
  have hvh3 := ownsRow_grown h.hrow hg hsep
  have ho' : w3.ownsRow base 166 1 v' (needs ++ [x]).length ((needs ++ [x]).map (fun y : Nat => Value.int .u64 (y : Int))) := by
    rw [List.length_append, List.map_append]; exact ho
  refine ⟨⟨?_, ?_, ?_, ?_, h.hg, h.hbg, h.ne⟩, ?_⟩
  · refine ((rowIs_grown h.cells h.nrow h.hg hg).set 1 v').congr ?_
    intro j hj
    match j, hj with
    | 0, _ => rfl
    | 1, _ => rfl
    | 2, _ => rfl
    | 3, _ => rfl
  · exact (rowIs_grown h.row h.nrow h.hbg hg).setOther (a := ⟨g, 1, none⟩) (Ne.symm h.ne) _
  · exact ownsRow_setCell_other hvh3 (ownBlock_ge hvh3 h.hg) _
  · exact ownsRow_setCell_other ho' (ownBlock_ge ho' h.hg) _
  · intro k hk e
    rcases hl with hl | hl
    · exact hsep k hk (by rw [← hl]; exact e)
    · have : k = w.heap.size := by rw [hl] at e; injection e with e; exact e.symm
      have := (h.hrow.lt k hk).2; omega
theorem GoingAt.setFree {w : World} {base g bg : Nat} {vh vn : Value} {has needs : List Nat} {gone : List Bool} {free : Nat} (h : GoingAt w base g bg vh vn has needs gone free) (f' : Nat) :
    GoingAt (w.setCell ⟨g, 3, none⟩ (.int .u64 (f' : Int))) base g bg vh vn has needs gone f' := by
  refine ⟨(h.cells.set 3 _).congr ?_, h.row.setOther (a := ⟨g, 3, none⟩) (Ne.symm h.ne) _, ownsRow_setCell_other h.hrow (ownBlock_ge h.hrow h.hg) _, ownsRow_setCell_other h.nrow (ownBlock_ge h.nrow h.hg) _, h.hg, h.hbg, h.ne⟩
  intro j hj
  match j, hj with
  | 0, _ => rfl
  | 1, _ => rfl
  | 2, _ => rfl
  | 3, _ => rfl

theorem start_going {w wc : World} {o : Obj} {n f : Nat} (e : wc.Alike (((w.alloc o).alloc (.cells (madeCells #[.bool false] n) 4)).alloc (.cells #[.slice none 0 0, .slice none 0 0, .slice (some ⟨w.heap.size + 1, 0, none⟩) n n, .int .u64 (f : Int)] 170))) :
    GoingAt wc (w.heap.size + 3) (w.heap.size + 2) (w.heap.size + 1) (.slice none 0 0) (.slice none 0 0) [] [] (List.replicate n false) f := by
  refine ⟨?_, ?_, World.ownsRow_nil _ _ _ _, World.ownsRow_nil _ _ _ _, by omega, by omega, by omega⟩
  · refine rowIs_alike ?_ e
    have h := World.rowIs_alloc ((w.alloc o).alloc (.cells (madeCells #[.bool false] n) 4)) #[.slice none 0 0, .slice none 0 0, .slice (some ⟨w.heap.size + 1, 0, none⟩) n n, .int .u64 (f : Int)] 170 (goingCells (.slice none 0 0) (.slice none 0 0) (w.heap.size + 1) n f) (fun i hi => by
      have hi' : i < 4 := by simpa using hi
      match i, hi' with
      | 0, _ => rfl
      | 1, _ => rfl
      | 2, _ => rfl
      | 3, _ => rfl)
    simpa using h
  · refine rowIs_alike ?_ e
    have h := (World.rowIs_made (w.alloc o) (.bool false) n 4).alloc (.cells #[.slice none 0 0, .slice none 0 0, .slice (some ⟨w.heap.size + 1, 0, none⟩) n n, .int .u64 (f : Int)] 170)
    have hs : (w.alloc o).heap.size = w.heap.size + 1 := by simp
    rw [hs] at h
    rw [List.length_replicate]
    exact h.congr (fun i hi => by simp [gnth, List.getD_eq_getElem?_getD, hi])

theorem take_bits {l : List Batch} (f : Batch → Nat) {i : Nat} (h : i < l.length) : (l.map f).take (i + 1) = (l.map f).take i ++ [f (nthB l i)] := by
  rw [List.take_succ_eq_append_getElem (by simpa using h), nthB_get h]; simp
theorem free_step {b : Book} (hok : bookOk b = true) {i : Nat} (hi : i < b.batches.length) : freeN b (fun j => decide (i ≤ j)) = freeN b (fun j => decide (i + 1 ≤ j)) + bitsN (nthB b.batches i).has b.things := by
  show _ = _ + bitsN (b.at i).has b.things
  rw [← freeN_put hok (out := fun j => decide (i + 1 ≤ j)) hi (by simp)]
  refine freeN_congr (fun j _ => ?_)
  unfold putOut
  by_cases e : j = i
  · simp [e]
  · rw [if_neg e, Bool.eq_iff_iff]; simp; omega
theorem freeN_small (b : Book) (out : Nat → Bool) (h8 : b.things.length ≤ 8) : freeN b out < 1024 := by
  have h1 := bitsP_lt (freeP b out) b.things.length
  have h2 := pow_small h8
  unfold freeN; omega
theorem bitsN_small (l things : List Str) (h8 : things.length ≤ 8) : bitsN l things < 1024 := by
  have h1 := bitsTo_lt l things things.length
  have h2 := pow_small h8
  unfold bitsN; omega

end Go.Proofs.YtdafpnpfcmgfcabGreatDoor
namespace Go.Proofs.YtdafpnpfcmgfcabGreatDoor
open Go.RowKit

def hasTo (b : Book) (i : Nat) : List Nat := (hasBits b).take i
def needsTo (b : Book) (i : Nat) : List Nat := (needsBits b).take i
theorem hasTo_succ {b : Book} {i : Nat} (h : i < b.batches.length) : hasTo b (i + 1) = hasTo b i ++ [bitsN (nthB b.batches i).has b.things] := take_bits (fun x => bitsN x.has b.things) h
theorem needsTo_succ {b : Book} {i : Nat} (h : i < b.batches.length) : needsTo b (i + 1) = needsTo b i ++ [bitsN (nthB b.batches i).needs b.things] := take_bits (fun x => bitsN x.needs b.things) h
theorem hasTo_len {b : Book} {i : Nat} (h : i ≤ b.batches.length) : (hasTo b i).length = i := by unfold hasTo hasBits; rw [List.length_take, List.length_map]; omega
theorem needsTo_len {b : Book} {i : Nat} (h : i ≤ b.batches.length) : (needsTo b i).length = i := by unfold needsTo needsBits; rw [List.length_take, List.length_map]; omega
/-- A call of a function of two arguments that leaves the world alone, as one step of a region that draws. -/
theorem step_call2 {P : Program} {w : World} {ops : Array Oper} {o : Oper} {a : Act} {K : Act → World → Prop} {Q : Exit → Act → World → Prop} {E : Prop} {v : Value} (hgd : o.guard = none) (f : FuncId) (x y : Operand) (ts : Array TypeId)
    (ho : o.op = .call { callee := .value (.func f), args := #[x, y], argTypes := ts }) (hcf : ∀ gs u, (callFunc f gs).run P u = .ok (.enter f gs) u) (hc : Calls P f #[a.eval x, a.eval y] w fun e w' => e = .returned v ∧ w' = w) (hK : K (a.put o.dst v) w) :
    if Region.wanted o (yielded ops a.tmps) = true then Oper.wp P o a w K Q else E := by
  have hw : Region.wanted o (yielded ops a.tmps) = true := by simp [Region.wanted, hgd]
  rw [if_pos hw]
  unfold Oper.wp execOp
  simp only [ho, resolve, invoke, Sem.run_bind, Sem.run_pure, Result.andThen_ok, List.map_toArray, List.map_cons, List.map_nil, Deferred.ofValue, Act.eval]
  rw [hcf]
  refine hc.mono ?_
  rintro e w' ⟨rfl, rfl⟩
  exact hK
theorem bitsOf_call (gs : Array Value) (u : World) : (callFunc 114 gs).run Tryz.prog u = .ok (.enter 114 gs) u := by kernel_rfl
theorem own_shape {w : World} {base : Nat} {e : TypeId} {size : Nat} {v : Value} {n : Nat} {xs : List Value} (h : w.ownsRow base e size v n xs) (hn : 0 < n) : ∃ b cap, v = .slice (some ⟨b, 0, none⟩) n cap := by
  rcases h.2 with ⟨_, h0⟩ | ⟨g, cap, cur, hv, _⟩
  · omega
  · exact ⟨g, cap, hv⟩

set_option maxHeartbeats 1000000 in
set_option maxRecDepth 100000 in
theorem startGoing_any (b : Book) (a1 a2 : Option Addr) (c1 c2 : Nat) (w : World) (hb : BookAt w a1 a2 b) (hok : bookOk b = true) (h8 : b.things.length ≤ 8) (h5 : b.batches.length ≤ 5) :
    Calls Tryz.prog 111 #[.agg #[.slice a1 b.things.length c1, .slice a2 b.batches.length c2]] w fun e w' =>
      ∃ base g bg vh vn, e = .returned (.pointer (some ⟨g, 0, none⟩)) ∧ Ext w w' ∧ w.heap.size ≤ g ∧ w.heap.size ≤ bg ∧
        GoingAt w' base g bg vh vn (hasBits b) (needsBits b) (List.replicate b.batches.length false) (freeN b (fun _ => false)) := by
  have hal : ∀ o, Ext w (w.alloc o) := fun o => (Below.refl _ _).alloc (Nat.le_refl _) _
  have hmk := run_make_row' (P := Tryz.prog) 165 4 (.bool false) 1 Tryz.underlying165 Tryz.infoBool rfl .i64 .i64 b.batches.length (by omega) (by omega)
  have ht1 : ∀ o, StrsAt ((w.alloc o).drew) a1 b.things := fun o => hb.1.ext (Ext.tr (hal _) (ext_drewN _ 1))
  have ht2 : ∀ o o', StrsAt (((w.alloc o).alloc o').drew) a1 b.things := fun o o' => hb.1.ext (Ext.tr (hal _) (Ext.tr ((Below.refl _ _).alloc (Nat.le_refl _) _) (ext_drewN _ 1)))
  go_enter Tryz.func111, Tryz.ntmps111
  go_upto_region 1 with fail
  go_cut [3] (fun g wx => g = .pointer (some ⟨w.heap.size + 1 + 1, 0, none⟩) ∧ wx.Alike (((w.alloc (.cells #[.slice a1 b.things.length c1, .slice a2 b.batches.length c2] 30)).alloc (.cells (madeCells #[.bool false] b.batches.length) 4)).alloc (.cells #[.slice none 0 0, .slice none 0 0, .slice (some ⟨w.heap.size + 1, 0, none⟩) b.batches.length b.batches.length, .int .u64 (bitsN b.things b.things : Nat)] 170)) ∧ wx.tape = w.tape)
  case first =>
    go_region_held3 (fun w' => w'.cell? ⟨w.heap.size, 0, none⟩ = some (.slice a1 b.things.length c1) ∧ w'.cell? ⟨w.heap.size, 1, none⟩ = some (.slice a2 b.batches.length c2)) (go_keep) (first | (go_at_call 114; refine (bitsOf_any _ _ _ _ _ _ _ (by first | exact ht1 _ | exact ht2 _ _) (by first | exact ht1 _ | exact ht2 _ _) h8).mono ?_; rintro e w2 ⟨rfl, rfl⟩))
    all_goals
      go_wp2_with fail
      go_meet
      exact ⟨rfl, ⟨rfl, rfl, rfl⟩, rfl⟩
  case rest =>
    obtain ⟨rfl, hlike, htape⟩ := hcut
    have HG := hid (start_going hlike)
    have HB : Hid (Below (w.heap.size + 1) (w.alloc (.cells #[.slice a1 b.things.length c1, .slice a2 b.batches.length c2] 30)) wc) := by
      have hx : Below (w.heap.size + 1) (w.alloc (.cells #[.slice a1 b.things.length c1, .slice a2 b.batches.length c2] 30)) (((w.alloc (.cells #[.slice a1 b.things.length c1, .slice a2 b.batches.length c2] 30)).alloc (.cells (madeCells #[.bool false] b.batches.length) 4)).alloc (.cells #[.slice none 0 0, .slice none 0 0, .slice (some ⟨w.heap.size + 1, 0, none⟩) b.batches.length b.batches.length, .int .u64 (bitsN b.things b.things : Nat)] 170)) :=
        ((Below.refl _ _).alloc (by simp) _).alloc (by simp) _
      exact ⟨hlike.2.1.trans hx.os, htape, hlike.2.2.trans hx.output, by rw [hlike.1]; exact hx.size, fun k hk => by rw [hlike.1]; exact hx.block k hk⟩
    have hz0 : w.heap.size + 3 ≤ wc.heap.size := by rw [hlike.1]; simp
    have HZ := hid hz0
    have hx0 := box_cell (Below.mono HB.out (by simp)) (i := 0) rfl
    have hx1 := box_cell (Below.mono HB.out (by simp)) (i := 1) rfl
    clear hlike htape hz0 hmk ht1 ht2
    obtain ⟨i0, hi, hz0, hz1, hz2⟩ := info_bits
    go_wp2_with fail
    go_loopw [21] (fun ii wr => ∃ (i : Nat) (vh vn : Value), i ≤ b.batches.length ∧ ii = .int .i64 i ∧ Below (w.heap.size + 1) (w.alloc (.cells #[.slice a1 b.things.length c1, .slice a2 b.batches.length c2] 30)) wr ∧ w.heap.size + 3 ≤ wr.heap.size ∧
      GoingAt wr (w.heap.size + 3) (w.heap.size + 2) (w.heap.size + 1) vh vn (hasTo b i) (needsTo b i) (List.replicate b.batches.length false) (freeN b (fun j => decide (i ≤ j))) ∧ Sep vh vn) (fun ii _ => b.batches.length - (intOf ii).toNat)
    case atStart =>
      refine ⟨0, .slice none 0 0, .slice none 0 0, Nat.zero_le _, rfl, HB.out, HZ.out, ?_, fun k hk => by simp [Value.ownBlock] at hk⟩
      have e : freeN b (fun j => decide (0 ≤ j)) = bitsN b.things b.things := by
        rw [← freeN_all]; exact freeN_congr (fun j _ => by simp)
      rw [e]
      exact HG.out
    case round =>
      clear hx0 hx1
      obtain ⟨i, vh, vn, hik, rfl, hbel, hsz, hgo, hsep⟩ := hrel
      have HB1 := hid hbel
      have hx0 := box_cell (Below.mono hbel (by simp)) (i := 0) rfl
      have hx1 := box_cell (Below.mono hbel (by simp)) (i := 1) rfl
      have hEw : Ext w wr := Ext.tr (hal _) (Below.mono hbel (by simp))
      have hb' := hb.ext hEw
      have HEW := hid hEw
      clear hbel hEw
      by_cases hlt : i < b.batches.length
      · obtain ⟨ba, oa, rfl, hl, d1, g1, d2, g2, p0, p1, p2, s1, s2⟩ := hb.2.2 i hlt
        replace p0 := HEW.out.keep p0
        replace p1 := HEW.out.keep p1
        replace p2 := HEW.out.keep p2
        have HGO := hid hgo
        have HSEP := hid hsep
        clear hgo hsep
        have c0 : wr.cell? ⟨w.heap.size + 1 + 1, 0, none⟩ = some vh := HGO.out.cells.cell (i := 0) (by omega)
        have f0 : wr.frozen? ⟨w.heap.size + 1 + 1, 0, none⟩ = false := HGO.out.cells.frozen 0
        have ea := fun o => ext_alloc wr o
        have c0' : ∀ o, (wr.alloc o).cell? ⟨w.heap.size + 1 + 1, 0, none⟩ = some vh := fun o => (ea o).keep c0
        have hx0' : ∀ o, (wr.alloc o).cell? ⟨w.heap.size, 0, none⟩ = some (.slice a1 b.things.length c1) := fun o => (ea o).keep hx0
        clear ea
        have hbh := bitsN_small (nthB b.batches i).has b.things h8
        have hlenh : (hasTo b i).length ≤ 5 := by rw [hasTo_len hik]; omega
        have hlenn : (needsTo b i).length ≤ 5 := by rw [needsTo_len hik]; omega
        go_wp2_with fail
        refine (bitsOf_any _ _ _ _ _ _ _ (s1.ext (Ext.tr HEW.out (ext_alloc _ _))) (hb.1.ext (Ext.tr HEW.out (ext_alloc _ _))) h8).mono ?_
        rintro e w1 ⟨rfl, rfl⟩
        generalize hbv : bitsN (nthB b.batches i).has b.things = hv at *
        have HBV := hid hbv
        clear hbv
        go_wp2_with (at_builtin; refine wpList_append_own_at _ rfl _ _ 168 rfl (w.heap.size + 3) 166 i0 (.int .u64 0) 1 8 Tryz.underlying168 hi hz0 hz1 hz2 rfl (by decide) _ _ _ rfl ((HGO.out.hrow.alloc _).alloc _) ⟨wr.heap.size + 1, 0, none⟩ 1 1 [.int .u64 (hv : Int)] rfl rfl ?q1 ?q2 ?q3 ?q4 ?q5 ?_)
        case q1 =>
          intro j u hj
          match j, hj with
          | 0, hj => simp at hj; subst hj; simp [Addr.add]
        case q2 => intro u hu; simp at hu; subst hu; rfl
        case q3 => unfold maxLen; omega
        case q4 => omega
        case q5 => simp; omega
        · intro v' w3 hown' hgrow _ hloc
          have hW2 : Ext wr ((wr.alloc (.cells #[.string (S (nthB b.batches i).name), .slice d1 (nthB b.batches i).has.length g1, .slice d2 (nthB b.batches i).needs.length g2] 46)).alloc (.cells #[.int .u64 (hv : Int)] 166)) := ((Below.refl _ _).alloc (Nat.le_refl _) _).alloc (by simp) _
          have HGO2 := hid (HGO.out.ext hW2)
          obtain ⟨hgo4, hsep4⟩ := HGO2.out.pushHas HSEP.out hown' hgrow (by simpa using hloc)
          obtain ⟨b', cap', rfl⟩ := own_shape hown' (by omega)
          have hne : ∀ k, (k < w.heap.size + 3 ∨ k = wr.heap.size) → some k ≠ vh.ownBlock := fun k hor e => by
            have h1 := HGO.out.hrow.lt k e.symm
            omega
          have c3 : w3.cell? ⟨w.heap.size + 1 + 1, 0, none⟩ = some vh := hgrow.cell (hW2.keep c0) (hne (w.heap.size + 1 + 1) (Or.inl (by omega)))
          have f3 : w3.frozen? ⟨w.heap.size + 1 + 1, 0, none⟩ = false := (rowIs_grown HGO2.out.cells HGO2.out.hrow HGO.out.hg hgrow).frozen 0
          have x2 : w3.cell? ⟨wr.heap.size, 2, none⟩ = some (.slice d2 (nthB b.batches i).needs.length g2) := hgrow.cell ((ext_alloc _ _).keep (box_cell (Ext.rfl' (wr.alloc (.cells #[.string (S (nthB b.batches i).name), .slice d1 (nthB b.batches i).has.length g1, .slice d2 (nthB b.batches i).needs.length g2] 46))) (i := 2) rfl)) (hne wr.heap.size (Or.inr rfl))
          have x0 : w3.cell? ⟨w.heap.size, 0, none⟩ = some (.slice a1 b.things.length c1) := hgrow.cell (hW2.keep hx0) (hne w.heap.size (Or.inl (by omega)))
          have hsz3 : w.heap.size + 3 ≤ w3.heap.size := by have := hgrow.size; simp at this; omega
          have hwr3 : wr.heap.size + 2 ≤ w3.heap.size := by have := hgrow.size; simp at this; omega
          have HB3 : Hid (Below (w.heap.size + 1) (w.alloc (.cells #[.slice a1 b.things.length c1, .slice (some ⟨ba, oa, none⟩) b.batches.length c2] 30)) w3) :=
            ((HB1.out.alloc (by omega) _).alloc (by simp; omega) _).grown hgrow (by simp; omega) (fun k hk => by have := (HGO.out.hrow.lt k hk).1; omega)
          have HGO4 := hid hgo4
          have HSEP4 := hid hsep4
          clear hgo4 hsep4 hown' hgrow hloc hW2 HGO2 hne p0 p1 p2 hx0 hx1 hx0' c0 c0' f0
          have HB4 : Hid (Below (w.heap.size + 1) (w.alloc (.cells #[.slice a1 b.things.length c1, .slice (some ⟨ba, oa, none⟩) b.batches.length c2] 30)) (w3.setCell ⟨w.heap.size + 1 + 1, 0, none⟩ (.slice (some ⟨b', 0, none⟩) ((hasTo b i).length + 1) cap'))) := HB3.out.setCell (by simp) _
          have x24 : (w3.setCell ⟨w.heap.size + 1 + 1, 0, none⟩ (.slice (some ⟨b', 0, none⟩) ((hasTo b i).length + 1) cap')).cell? ⟨wr.heap.size, 2, none⟩ = some (.slice d2 (nthB b.batches i).needs.length g2) := by
            rw [World.cell?_setCell_far _ _ _ _ (by simp; omega)]; exact x2
          have x04 : (w3.setCell ⟨w.heap.size + 1 + 1, 0, none⟩ (.slice (some ⟨b', 0, none⟩) ((hasTo b i).length + 1) cap')).cell? ⟨w.heap.size, 0, none⟩ = some (.slice a1 b.things.length c1) := by
            rw [World.cell?_setCell_far _ _ _ _ (by simp; omega)]; exact x0
          have hsz4 : wr.heap.size + 2 ≤ (w3.setCell ⟨w.heap.size + 1 + 1, 0, none⟩ (.slice (some ⟨b', 0, none⟩) ((hasTo b i).length + 1) cap')).heap.size := by simpa using hwr3
          go_upto_region 7 with fail
          generalize (w3.setCell ⟨w.heap.size + 1 + 1, 0, none⟩ (.slice (some ⟨b', 0, none⟩) ((hasTo b i).length + 1) cap')) = w4 at HGO4 HB4 x24 x04 hsz4 ⊢
          have n1 : w4.cell? ⟨w.heap.size + 1 + 1, 1, none⟩ = some vn := HGO4.out.cells.cell (i := 1) (by omega)
          have fr1 : w4.frozen? ⟨w.heap.size + 1 + 1, 1, none⟩ = false := HGO4.out.cells.frozen 1
          have hEw4 : Ext w w4 := Ext.tr (hal _) (Below.mono HB4.out (by simp))
          have hs2' : StrsAt w4.drew d2 (nthB b.batches i).needs := s2.ext (Ext.tr hEw4 (ext_drewN _ 1))
          have hth' : StrsAt w4.drew a1 b.things := hb.1.ext (Ext.tr hEw4 (ext_drewN _ 1))
          have hbn := bitsN_small (nthB b.batches i).needs b.things h8
          clear c3 f3 x2 x0 HB3 hEw4
          have HNEW := cell_one_new w4 (.int .u64 (bitsN (nthB b.batches i).needs b.things : Nat)) 166
          have HONE : ∀ u ∈ [Value.int .u64 (bitsN (nthB b.batches i).needs b.things : Nat)], u.oneCell' = true := fun u hu => by simp at hu; subst hu; rfl
          have ext5 : Ext w4 ((w4.alloc (.cells #[.int .u64 (bitsN (nthB b.batches i).needs b.things : Nat)] 166)).drew) := Ext.tr (ext_alloc _ _) (ext_drewN _ 1)
          have n1' : ∀ o, (w4.alloc o).cell? ⟨w.heap.size + 1 + 1, 1, none⟩ = some vn := fun o => (ext_alloc _ _).keep n1
          have HGO5 := hid (HGO4.out.ext ext5)
          have hne6 : ∀ k, (k < w.heap.size + 3 ∨ k = wr.heap.size) → some k ≠ vn.ownBlock := fun k hor e => by
            rcases hor with h | h
            · exact ownBlock_ge HGO.out.nrow h e.symm
            · have := (HGO.out.nrow.lt k e.symm).2; omega
          go_cut [] (fun wx => ∃ vn', Below (w.heap.size + 1) (w.alloc (.cells #[.slice a1 b.things.length c1, .slice (some ⟨ba, oa, none⟩) b.batches.length c2] 30)) wx ∧ w.heap.size + 3 ≤ wx.heap.size ∧
            GoingAt wx (w.heap.size + 3) (w.heap.size + 2) (w.heap.size + 1) (.slice (some ⟨b', 0, none⟩) ((hasTo b i).length + 1) cap') vn' (hasTo b i ++ [hv]) (needsTo b i ++ [bitsN (nthB b.batches i).needs b.things]) (List.replicate b.batches.length false) (freeN b (fun j => decide (i ≤ j))) ∧ Sep (.slice (some ⟨b', 0, none⟩) ((hasTo b i).length + 1) cap') vn')
          case first =>
            go_region_law (first | (refine step_append_own_at rfl (.tmp 44) (.tmp 50) 168 rfl (w.heap.size + 3) 166 i0 (.int .u64 0) 1 8 Tryz.underlying168 hi hz0 hz1 hz2 rfl (by decide) vn _ _ (by simp [Act.eval]) (HGO4.out.nrow.alloc (.cells #[.int .u64 (bitsN (nthB b.batches i).needs b.things : Nat)] 166)).drew ⟨w4.heap.size, 0, none⟩ 1 1 [.int .u64 (bitsN (nthB b.batches i).needs b.things : Nat)] (by simp [Act.eval]) rfl HNEW HONE (by unfold maxLen; omega) (by omega) (by simp; omega) ?_; intro v6 w6 hown6 hgrow6 hloc6; obtain ⟨b6, cap6, rfl⟩ := own_shape hown6 (by omega); have mf : w6.frozen? ⟨w.heap.size + 1 + 1, 1, none⟩ = false := (rowIs_grown HGO5.out.cells HGO5.out.nrow HGO.out.hg hgrow6).frozen 1; have m1 := hgrow6.cell (a := ⟨w.heap.size + 1 + 1, 1, none⟩) (ext5.keep n1) (hne6 (w.heap.size + 1 + 1) (Or.inl (by omega))); have m2 := hgrow6.cell (a := ⟨wr.heap.size, 2, none⟩) (ext5.keep x24) (hne6 wr.heap.size (Or.inr rfl)); have m3 := hgrow6.cell (a := ⟨w.heap.size, 0, none⟩) (ext5.keep x04) (hne6 w.heap.size (Or.inl (by omega)))) | (refine step_call2 rfl 114 (.tmp 46) (.tmp 48) _ rfl bitsOf_call (by exact (bitsOf_any _ _ _ _ _ _ _ hs2' hth' h8)) ?_))
            all_goals
              have hz6 := hgrow6.size
              simp at hz6
              obtain ⟨hgo6, hsep6⟩ := HGO5.out.pushNeeds HSEP4.out hown6 hgrow6 (by simpa using hloc6)
              have hb6 := ((HB4.out.alloc (by omega) (.cells #[.int .u64 (bitsN (nthB b.batches i).needs b.things : Nat)] 166)).drew.grown hgrow6 (by simp; omega) (fun k hk => by have := (HGO.out.nrow.lt k hk).1; omega)).setCell (p := ⟨w.heap.size + 1 + 1, 1, none⟩) (by simp) (.slice (some ⟨b6, 0, none⟩) ((needsTo b i).length + 1) cap6)
              go_wp2_with fail
              go_meet
              exact ⟨_, hb6, by simp; omega, hgo6, hsep6⟩
          case rest =>
            obtain ⟨vn', hb7, hz7, hgo7, hsep7⟩ := hcut
            have HGO7 := hid hgo7
            have HB7 := hid hb7
            have HSEP7 := hid hsep7
            have hF := free_step hok hlt
            rw [HBV.out] at hF
            have hsm := freeN_small b (fun j => decide (i ≤ j)) h8
            have c3 : wc.cell? ⟨w.heap.size + 1 + 1, 3, none⟩ = some (.int .u64 (freeN b (fun j => decide (i ≤ j)) : Nat)) := HGO7.out.cells.cell (i := 3) (by omega)
            have f3 : wc.frozen? ⟨w.heap.size + 1 + 1, 3, none⟩ = false := HGO7.out.cells.frozen 3
            generalize freeN b (fun j => decide (i ≤ j)) = F at hF hsm c3
            obtain ⟨F', hF'⟩ : ∃ F', freeN b (fun j => decide (i + 1 ≤ j)) = F' := ⟨_, rfl⟩
            rw [hF'] at hF
            have hwr : IntKind.u64.wrap ((F : Int) - (hv : Int)) = (F' : Int) := by rw [wrapU (by omega) (by omega)]; omega
            have HF' := hid hF'
            clear hF hF' hgo7 hb7 hsep7 n1 fr1 n1' HNEW ext5 hne6 hs2' hth' x24 x04
            go_wp2
            go_roundw
            case rel =>
              refine ⟨i + 1, _, vn', by omega, by go_num, HB7.out.setCell (by simp) _, by simpa using hz7, ?_, HSEP7.out⟩
              rw [hasTo_succ hlt, needsTo_succ hlt, HBV.out, HF'.out]
              exact HGO7.out.setFree F'
            case measure => simp [intOf]; omega
      · have e : i = b.batches.length := by omega
        have HGO := hid hgo
        clear hgo hb'
        go_wp2
        go_ret
        refine ⟨w.heap.size + 3, w.heap.size + 2, w.heap.size + 1, vh, vn, rfl, HEW.out, by omega, by omega, ?_⟩
        have h1 : hasTo b i = hasBits b := List.take_of_length_le (by unfold hasBits; rw [List.length_map]; omega)
        have h2 : needsTo b i = needsBits b := List.take_of_length_le (by unfold needsBits; rw [List.length_map]; omega)
        have h3 : freeN b (fun j => decide (i ≤ j)) = freeN b (fun _ => false) := freeN_congr (fun j hj => by simp; omega)
        rw [← h1, ← h2, ← h3]
        exact HGO.out
end Go.Proofs.YtdafpnpfcmgfcabGreatDoor
namespace Go.Proofs.YtdafpnpfcmgfcabGreatDoor
open Go.RowKit
attribute [local go_sem] S_toList S_size S_get

theorem ok_namesB {b : Book} (h : bookOk b = true) : ascB (namesOf b.batches) = true := by
  rw [bookOk_iff, namesB_eq] at h
  simp only [Bool.and_eq_true] at h
  exact h.1.1.2.2
theorem ok_things {b : Book} (h : bookOk b = true) : b.things.length ≤ 8 := by
  unfold bookOk thingsOk at h
  simp only [Bool.and_eq_true, decide_eq_true_eq] at h
  exact h.1.1.1
theorem name_inj {b : Book} (h : bookOk b = true) {i j : Nat} (hi : i < b.batches.length) (hj : j < b.batches.length) (e : (b.at i).name = (b.at j).name) : i = j := by
  have ha := ok_namesB h
  have hn : (namesOf b.batches).length = b.batches.length := namesOf_length _
  rcases Nat.lt_trichotomy i j with hlt | heq | hlt
  · have := asc_less ha hlt (by rw [hn]; exact hj)
    rw [nth_namesOf hi, nth_namesOf hj] at this
    unfold Book.at at e
    rw [e, less_irrefl] at this; cases this
  · exact heq
  · have := asc_less ha hlt (by rw [hn]; exact hi)
    rw [nth_namesOf hi, nth_namesOf hj] at this
    unfold Book.at at e
    rw [e, less_irrefl] at this; cases this
theorem bnth_has {b : Book} {p : Nat} (hp : p < b.batches.length) : bnth (hasBits b) p = bitsN (b.at p).has b.things := by
  unfold bnth hasBits Book.at
  rw [nthB_get hp, List.getD_eq_getElem?_getD, List.getElem?_map, List.getElem?_eq_getElem hp]; rfl
theorem bnth_needs {b : Book} {p : Nat} (hp : p < b.batches.length) : bnth (needsBits b) p = bitsN (b.at p).needs b.things := by
  unfold bnth needsBits Book.at
  rw [nthB_get hp, List.getD_eq_getElem?_getD, List.getElem?_map, List.getElem?_eq_getElem hp]; rfl

def outOf (b : Book) (gone : List Str) : Nat → Bool := fun i => hasB gone (b.at i).name
theorem name_at {b : Book} {x : Str} {p : Nat} (hp : place (namesOf b.batches) x = p) (hlt : p < b.batches.length) : (b.at p).name = x := by
  have hm : x ∈ namesOf b.batches := place_lt.1 (by rw [hp, namesOf_length]; exact hlt)
  have := place_nth hm
  rw [hp, nth_namesOf hlt] at this
  exact this
/-- What canGo tells is whether the batch may go next. -/
theorem go_step {b : Book} (h : bookOk b = true) {gone : List Str} {x : Str} {p : Nat} (hp : place (namesOf b.batches) x = p) (hlt : p < b.batches.length) (gl : List Bool) (hg : gnth gl p = outOf b gone p) :
    (!gnth gl p && bsub (bnth (needsBits b) p) (freeN b (outOf b gone) + bnth (hasBits b) p)) = (!hasB gone x && canB b p gone) := by
  have hnm := name_at hp hlt
  have h8 := ok_things h
  rw [hg, bnth_has hlt, bnth_needs hlt]
  unfold outOf
  rw [hnm]
  cases hx : hasB gone x
  · simp only [Bool.not_false, Bool.true_and]
    have ho : outOf b gone p = false := by unfold outOf; rw [hnm]; exact hx
    have hf := freeN_put h hlt ho
    show bsub _ (freeN b (outOf b gone) + _) = _
    rw [← hf, Bool.eq_iff_iff, bsub_iff (Nat.lt_trans (bitsN_small _ _ h8) (by omega)) (Nat.lt_trans (freeN_small b _ h8) (by omega)), can_bits h hlt]
    rfl
  · simp
theorem out_step {b : Book} (h : bookOk b = true) {gone : List Str} {x : Str} {p : Nat} (hp : place (namesOf b.batches) x = p) (hlt : p < b.batches.length) {i : Nat} (hi : i < b.batches.length) : outOf b (gone ++ [x]) i = putOut (outOf b gone) p i := by
  have hnm := name_at hp hlt
  unfold outOf putOut
  by_cases e : i = p
  · subst e
    rw [if_pos rfl, hnm]
    simp [hasB]
  · rw [if_neg e, Bool.eq_iff_iff, hasB_true, hasB_true, List.mem_append, List.mem_singleton]
    exact ⟨fun hh => hh.resolve_right (fun k => e (name_inj h hi hlt (by rw [k, hnm]))), Or.inl⟩
theorem free_go {b : Book} (h : bookOk b = true) {gone : List Str} {x : Str} {p : Nat} (hp : place (namesOf b.batches) x = p) (hlt : p < b.batches.length) (hx : hasB gone x = false) : freeN b (outOf b (gone ++ [x])) = freeN b (outOf b gone) + bnth (hasBits b) p := by
  rw [bnth_has hlt, ← freeN_put h hlt (out := outOf b gone) (by unfold outOf; rw [name_at hp hlt]; exact hx)]
  exact freeN_congr (fun i hi => out_step h hp hlt hi)
theorem take_snoc' {l : List Str} {k : Nat} (h : k < l.length) : l.take (k + 1) = l.take k ++ [nth l k] := by
  rw [List.take_succ_eq_append_getElem h, nth_get h]

end Go.Proofs.YtdafpnpfcmgfcabGreatDoor
namespace Go.Proofs.YtdafpnpfcmgfcabGreatDoor
open Go.RowKit
attribute [local go_sem] S_toList S_size S_get

/-- The state of going, when some are gone. -/
def GoneAt (w : World) (base g bg : Nat) (vh vn : Value) (b : Book) (gone : List Str) : Prop :=
  ∃ gl : List Bool, gl.length = b.batches.length ∧ (∀ i, i < b.batches.length → gnth gl i = outOf b gone i) ∧ GoingAt w base g bg vh vn (hasBits b) (needsBits b) gl (freeN b (outOf b gone))

theorem GoneAt.ext {w w' : World} {base g bg : Nat} {vh vn : Value} {b : Book} {gone : List Str} (h : GoneAt w base g bg vh vn b gone) (e : Ext w w') : GoneAt w' base g bg vh vn b gone := by
  obtain ⟨gl, h1, h2, h3⟩ := h
  exact ⟨gl, h1, h2, h3.ext e⟩
theorem hasBits_len (b : Book) : (hasBits b).length = b.batches.length := by simp [hasBits]
theorem needsBits_len (b : Book) : (needsBits b).length = b.batches.length := by simp [needsBits]

theorem canGo_v {w : World} {base g bg : Nat} {vh vn : Value} {b : Book} {gone : List Str} {x : Str} {p : Nat} (v : Bool) (hst : GoneAt w base g bg vh vn b gone) (hok : bookOk b = true) (hp : place (namesOf b.batches) x = p) (hlt : p < b.batches.length)
    (hv : (!hasB gone x && canB b p gone) = v) :
    Calls Tryz.prog 115 #[.pointer (some ⟨g, 0, none⟩), .int .i64 (p : Int)] w fun e w' => e = .returned (.bool v) ∧ ∃ n, w' = w.drewN n := by
  obtain ⟨gl, h1, h2, h3⟩ := hst
  have h8 := ok_things hok
  have hc := canGo_any w base g bg vh vn (hasBits b) (needsBits b) gl (freeN b (outOf b gone)) p h3 (by rw [hasBits_len]; exact hlt) (by rw [needsBits_len]; exact hlt) (by rw [h1]; exact hlt) (freeN_small b _ h8) (by rw [bnth_has hlt]; exact bitsN_small _ _ h8) (by rw [bnth_needs hlt]; exact bitsN_small _ _ h8)
  rw [go_step hok hp hlt gl (h2 p hlt), hv] at hc
  exact hc

theorem leave_v {w w0 : World} {base g bg : Nat} {vh vn : Value} {b : Book} {gone : List Str} {x : Str} {p : Nat} (hst : GoneAt w base g bg vh vn b gone) (hok : bookOk b = true) (hp : place (namesOf b.batches) x = p) (hlt : p < b.batches.length)
    (hx : hasB gone x = false) (hw : Ext w0 w) (hg : w0.heap.size ≤ g) (hbg : w0.heap.size ≤ bg) :
    Calls Tryz.prog 113 #[.pointer (some ⟨g, 0, none⟩), .int .i64 (p : Int)] w fun e w' => e = .returned (.tuple #[]) ∧ Ext w0 w' ∧ GoneAt w' base g bg vh vn b (gone ++ [x]) := by
  obtain ⟨gl, h1, h2, h3⟩ := hst
  have h8 := ok_things hok
  refine (leave_any w base g bg vh vn (hasBits b) (needsBits b) gl (freeN b (outOf b gone)) p h3 (by rw [hasBits_len]; exact hlt) (by rw [h1]; exact hlt) (freeN_small b _ h8) (by rw [bnth_has hlt]; exact bitsN_small _ _ h8)).mono ?_
  rintro e w' ⟨he, hal, htape⟩
  refine ⟨he, ?_, gl.set p true, by simp [h1], fun i hi => ?_, ?_⟩
  · have hx := (hw.setCell (p := ⟨bg, p, none⟩) hbg (.bool true)).setCell (p := ⟨g, 3, none⟩) hg (.int .u64 ((freeN b (outOf b gone) : Int) + (bnth (hasBits b) p : Int)))
    exact ⟨hal.2.1.trans hx.os, htape.trans hw.tape, hal.2.2.trans hx.output, by rw [hal.1]; exact hx.size, fun k hk => by rw [hal.1]; exact hx.block k hk⟩
  · rw [gnth_set _ _ _ (by rw [h1]; exact hlt), out_step hok hp hlt hi, h2 i hi]; rfl
  · rw [free_go hok hp hlt hx]
    exact h3.left (by rw [h1]; exact hlt) hal

theorem slicesIndex_yes (a : Option Addr) (cap : Nat) (ss : List Str) (x : Str) (p : Nat) (w : World) (hs : StrsAt w a ss) (hp : place ss x = p) (hlt : p < ss.length) :
    Calls Tryz.prog 82 #[.slice a ss.length cap, .string (S x)] w fun e w' => e = .returned (.int .i64 (p : Nat)) ∧ w' = w := by
  refine (slicesIndex_any a cap ss x w hs).mono ?_
  rintro e w' ⟨(⟨k, rfl, hk⟩ | ⟨rfl, hk⟩), hw⟩
  · rw [place_of hk] at hp; rw [hp]; exact ⟨rfl, hw⟩
  · rw [place_no hk] at hp; omega
theorem slicesIndex_no (a : Option Addr) (cap : Nat) (ss : List Str) (x : Str) (w : World) (hs : StrsAt w a ss) (hlt : ¬ place ss x < ss.length) :
    Calls Tryz.prog 82 #[.slice a ss.length cap, .string (S x)] w fun e w' => e = .returned (.int .i64 (-1)) ∧ w' = w := by
  refine (slicesIndex_any a cap ss x w hs).mono ?_
  rintro e w' ⟨(⟨k, rfl, hk⟩ | ⟨rfl, hk⟩), hw⟩
  · rw [place_of hk] at hlt; exact absurd hk.1 hlt
  · exact ⟨rfl, hw⟩
end Go.Proofs.YtdafpnpfcmgfcabGreatDoor
