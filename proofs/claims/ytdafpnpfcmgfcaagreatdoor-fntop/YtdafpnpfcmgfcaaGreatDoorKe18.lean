/- Plain mathematics of names, lists and books: nothing of the program is in it. How lists of names, batches and books lie in memory. Walks over the small functions that read lists of names. Walks over names and sizes. Walks over equality of lists, and over sizes of batches and books. Walks over the copies of lists of names. Walks over the copies of batches and books. Walks over the copies of lists of batches, and of books. Walks over whole books: their copies, their sizes. Walks over equality of batches and books, where both are the same. -/
import GoSem.Op.String
import Derived.Laws.Strings
import Derived.WalkKit
import Derived.Deep.QuietTactic
import Derived.BigQuiet
import Derived.Test.YtdafpnpfcmgfcaaGreatDoorKe17
import Derived.WalkSpells
import Derived.WalkLawsBesides
import Derived.Deep.OwnRows
import Derived.Deep.RegionWith
import Derived.Deep.DeepCutAuto
namespace Go.Proofs.YtdafpnpfcmgfcaaGreatDoor
section
abbrev Str := List UInt8
def S (l : Str) : ByteArray := ByteArray.mk l.toArray
theorem S_toList (l : Str) : (S l).toList = l := by simp [S]
theorem S_size (l : Str) : (S l).size = l.length := by simp [S, ByteArray.size]
theorem S_data (l : Str) : (S l).data.toList = l := by simp [S]
def bat (l : Str) (k : Nat) : UInt8 := l.getD k 0
theorem S_get (l : Str) (k : Nat) (h : k < (S l).size) : (S l)[k] = bat l k := by
 have h' : k < l.length := by rwa [S_size] at h
 unfold bat
 rw [List.getD_eq_getElem?_getD, List.getElem?_eq_getElem h']
 simp only [Option.getD_some]
 show (S l).data[k] = _
 simp [S]
def nth (l : List Str) (i : Nat) : Str := l.getD i []
theorem nth_get {l : List Str} {k : Nat} (h : k < l.length) : nth l k = l[k] := by simp [nth, List.getD_eq_getElem?_getD, h]
def allLt (n : Nat) (p : Nat → Bool) : Bool := (List.range n).all p
def anyLt (n : Nat) (p : Nat → Bool) : Bool := (List.range n).any p
theorem allLt_true {n : Nat} {p : Nat → Bool} : allLt n p = true ↔ ∀ i, i < n → p i = true := by simp [allLt]
theorem allLt_of {n : Nat} {p : Nat → Bool} (h : ∀ i, i < n → p i = true) : allLt n p = true := allLt_true.2 h
theorem allLt_no {n : Nat} {p : Nat → Bool} {i : Nat} (hi : i < n) (h : p i = false) : allLt n p = false := by
 cases hb : allLt n p
 ·rfl
 ·have := allLt_true.1 hb i hi; simp [h] at this
theorem anyLt_true {n : Nat} {p : Nat → Bool} : anyLt n p = true ↔ ∃ i, i < n ∧ p i = true := by simp [anyLt]
theorem anyLt_of {n : Nat} {p : Nat → Bool} {i : Nat} (hi : i < n) (h : p i = true) : anyLt n p = true := anyLt_true.2 ⟨i, hi, h⟩
theorem anyLt_no {n : Nat} {p : Nat → Bool} (h : ∀ i, i < n → p i = false) : anyLt n p = false := by
 cases hb : anyLt n p
 ·rfl
 ·obtain ⟨i, hi, hp⟩ := anyLt_true.1 hb; simp [h i hi] at hp
theorem allLt_congr {n : Nat} {p q : Nat → Bool} (h : ∀ i, i < n → p i = q i) : allLt n p = allLt n q := by
 rw [Bool.eq_iff_iff, allLt_true, allLt_true]
 exact ⟨fun k i hi => by rw [← h i hi]; exact k i hi, fun k i hi => by rw [h i hi]; exact k i hi⟩
def hasB (l : List Str) (x : Str) : Bool := decide (x ∈ l)
theorem hasB_true {l : List Str} {x : Str} : hasB l x = true ↔ x ∈ l := by simp [hasB]
theorem hasB_of {l : List Str} {x : Str} {k : Nat} (hk : k < l.length) (h : (nth l k == x) = true) : hasB l x = true := by
 rw [nth_get hk] at h
 rw [hasB_true, ← eq_of_beq h]; exact List.getElem_mem hk
theorem hasB_no {l : List Str} {x : Str} (h : ∀ k, k < l.length → (nth l k == x) = false) : hasB l x = false := by
 cases hb : hasB l x
 ·rfl
 ·rw [hasB_true] at hb
  obtain ⟨k, hk, e⟩ := List.getElem_of_mem hb
  have := h k hk
  simp [nth_get hk, e] at this
def up (l : List Str) (i : Nat) : Bool := decide (i = 0) || Op.bytesLess (nth l (i - 1)) (nth l i)
def ascB (l : List Str) : Bool := allLt l.length (up l)
def nameByte (c : UInt8) : Bool := decide (97 ≤ c.toNat ∧ c.toNat ≤ 122) || decide (48 ≤ c.toNat ∧ c.toNat ≤ 57) || decide (c.toNat = 45)
theorem nameByte_yes {c : UInt8} (h : (97 ≤ (c.toNat : Int) ∧ (c.toNat : Int) ≤ 122) ∨ (48 ≤ (c.toNat : Int) ∧ (c.toNat : Int) ≤ 57) ∨ (45 ≤ (c.toNat : Int) ∧ (c.toNat : Int) ≤ 45)) : nameByte c = true := by
 unfold nameByte; simp; omega
theorem nameByte_no {c : UInt8} (h : ((c.toNat : Int) < 45) ∨ (45 < (c.toNat : Int) ∧ (c.toNat : Int) < 48) ∨ (57 < (c.toNat : Int) ∧ (c.toNat : Int) < 97) ∨ (122 < (c.toNat : Int))) : nameByte c = false := by
 unfold nameByte; simp; omega
theorem nameByte_cases (c : UInt8) : ((97 ≤ (c.toNat : Int) ∧ (c.toNat : Int) ≤ 122) ∨ (48 ≤ (c.toNat : Int) ∧ (c.toNat : Int) ≤ 57) ∨ (45 ≤ (c.toNat : Int) ∧ (c.toNat : Int) ≤ 45)) ∨
  (((c.toNat : Int) < 45) ∨ (45 < (c.toNat : Int) ∧ (c.toNat : Int) < 48) ∨ (57 < (c.toNat : Int) ∧ (c.toNat : Int) < 97) ∨ (122 < (c.toNat : Int))) := by omega
def nameOk (s : Str) : Bool := decide (1 ≤ s.length ∧ s.length ≤ 8) && allLt s.length (fun i => nameByte (bat s i))
theorem nameOk_no {s : Str} {k : Nat} (hk : k < s.length) (h : nameByte (bat s k) = false) : nameOk s = false := by
 unfold nameOk; rw [allLt_no (p := fun i => nameByte (bat s i)) hk h]; simp
def namesOk (l all : List Str) : Bool := allLt l.length (fun i => hasB all (nth l i) && up l i)
def shareB (a b : List Str) : Bool := anyLt a.length (fun i => hasB b (nth a i))
def thingsOk (l : List Str) : Bool := decide (l.length ≤ 8) && allLt l.length (fun i => nameOk (nth l i) && up l i)
theorem thingsOk_no {l : List Str} {k : Nat} (hk : k < l.length) (h : (nameOk (nth l k) && up l k) = false) : thingsOk l = false := by
 unfold thingsOk; rw [allLt_no (p := fun i => nameOk (nth l i) && up l i) hk h]; simp
structure Batch where
 name : Str
 has : List Str
 needs : List Str
def nob : Batch := { name := [], has := [], needs := [] }
structure Book where
 things : List Str
 batches : List Batch
def nthB (l : List Batch) (i : Nat) : Batch := l.getD i nob
theorem nthB_get {l : List Batch} {k : Nat} (h : k < l.length) : nthB l k = l[k] := by simp [nthB, List.getD_eq_getElem?_getD, h]
def Book.at (b : Book) (i : Nat) : Batch := nthB b.batches i
def upB (b : Book) (i : Nat) : Bool := decide (i = 0) || Op.bytesLess (b.at (i - 1)).name (b.at i).name
def batchOk (b : Book) (i : Nat) : Bool :=
 nameOk (b.at i).name && upB b i && namesOk (b.at i).needs b.things && namesOk (b.at i).has (b.at i).needs
def bookOk (b : Book) : Bool :=
 thingsOk b.things && decide (b.batches.length ≤ 5) && allLt b.batches.length (fun i => batchOk b i && allLt i (fun k => !shareB (b.at i).has (b.at k).has))
end
section
open Go.RowKit
abbrev Ext (w w' : World) : Prop := Below w.heap.size w w'
theorem hid {p : Prop} (h : p) : Hid p := h
theorem cell_lt {w : World} {p : Addr} {v : Value} (h : w.cell? p = some v) : p.block < w.heap.size := by
 unfold World.cell? at h
 cases hb : w.heap[p.block]? with
 | none => simp [hb] at h
 | some o => exact (Array.getElem?_eq_some_iff.1 hb).1
theorem Ext.keep {w w' : World} (h : Ext w w') {p : Addr} {v : Value} (hc : w.cell? p = some v) : w'.cell? p = some v := by
 rw [Below.cell h (cell_lt hc)]; exact hc
theorem Ext.tr {a b c : World} (h : Ext a b) (k : Ext b c) : Ext a c := Below.trans h (Below.mono k h.size)
theorem Ext.rfl' (w : World) : Ext w w := Below.refl _ _
theorem ext_drewN (w : World) (n : Nat) : Ext w (w.drewN n) := ⟨rfl, rfl, rfl, Nat.le_refl _, fun _ _ => rfl⟩
def StrsAt (w : World) (a : Option Addr) (ss : List Str) : Prop :=
 ss.length ≤ 8796093022208 ∧ ∀ i, i < ss.length → (nth ss i).length ≤ 140737488355328 ∧ ∃ b o, a = some ⟨b, o, none⟩ ∧ w.cell? ⟨b, o + i, none⟩ = some (.string (S (nth ss i)))
theorem StrsAt.ext {w w' : World} {a : Option Addr} {ss : List Str} (h : StrsAt w a ss) (e : Ext w w') : StrsAt w' a ss :=
 ⟨h.1, fun i hi => ⟨(h.2 i hi).1, by obtain ⟨b, o, ha, hc⟩ := (h.2 i hi).2; exact ⟨b, o, ha, e.keep hc⟩⟩⟩
theorem StrsAt.drewN {w : World} {a : Option Addr} {ss : List Str} (h : StrsAt w a ss) (n : Nat) : StrsAt (w.drewN n) a ss := h.ext (ext_drewN w n)
theorem StrsAt.nil (w : World) (a : Option Addr) : StrsAt w a [] := ⟨by simp, fun i hi => by simp at hi⟩
def BatchCells (w : World) (b o : Nat) (x : Batch) : Prop :=
 x.name.length ≤ 140737488355328 ∧ ∃ a1 c1 a2 c2, w.cell? ⟨b, o, none⟩ = some (.string (S x.name)) ∧ w.cell? ⟨b, o + 1, none⟩ = some (.slice a1 x.has.length c1) ∧
  w.cell? ⟨b, o + 2, none⟩ = some (.slice a2 x.needs.length c2) ∧ StrsAt w a1 x.has ∧ StrsAt w a2 x.needs
theorem BatchCells.ext {w w' : World} {b o : Nat} {x : Batch} (h : BatchCells w b o x) (e : Ext w w') : BatchCells w' b o x := by
 obtain ⟨h0, a1, c1, a2, c2, h1, h2, h3, h4, h5⟩ := h
 exact ⟨h0, a1, c1, a2, c2, e.keep h1, e.keep h2, e.keep h3, h4.ext e, h5.ext e⟩
def BatchesAt (w : World) (a : Option Addr) (bs : List Batch) : Prop :=
 bs.length ≤ 2199023255552 ∧ ∀ i, i < bs.length → ∃ b o, a = some ⟨b, o, none⟩ ∧ BatchCells w b (o + i * 3) (nthB bs i)
theorem BatchesAt.ext {w w' : World} {a : Option Addr} {bs : List Batch} (h : BatchesAt w a bs) (e : Ext w w') : BatchesAt w' a bs :=
 ⟨h.1, fun i hi => by obtain ⟨b, o, ha, hc⟩ := h.2 i hi; exact ⟨b, o, ha, hc.ext e⟩⟩
def BookAt (w : World) (a1 a2 : Option Addr) (b : Book) : Prop := StrsAt w a1 b.things ∧ BatchesAt w a2 b.batches
theorem BookAt.ext {w w' : World} {a1 a2 : Option Addr} {b : Book} (h : BookAt w a1 a2 b) (e : Ext w w') : BookAt w' a1 a2 b := ⟨h.1.ext e, h.2.ext e⟩
end
section
open Go.RowKit
attribute [local go_sem] S_toList S_size
theorem ret_bool {a b : Bool} (h : a = b) : Ending.returned (.bool a) = .returned (.bool b) := by rw [h]
set_option maxHeartbeats 400000 in
theorem l1Has_any (a : Option Addr) (cap : Nat) (ss : List Str) (x : Str) (w : World) (hs : StrsAt w a ss) :
  Calls Qry.prog 53 #[.slice a ss.length cap, .string (S x)] w fun e w' => e = .returned (.bool (hasB ss x)) ∧ w' = w := by
 have hn := hs.1
 go_enter Qry.func53, Tryz.ntmps53
 go_wp2
 go_loop [5] (fun i => ∃ k : Nat, k ≤ ss.length ∧ i = .int .i64 k ∧ ∀ j, j < k → (nth ss j == x) = false) (fun i => ss.length - (intOf i).toNat)
 case atStart => exact ⟨0, Nat.zero_le _, rfl, fun j hj => by omega⟩
 case round =>
  obtain ⟨k, hk, rfl, hx⟩ := hrel
  have HX : Hid (∀ j, j < k → (nth ss j == x) = false) := hx
  clear hx
  by_cases hlt : k < ss.length
  ·obtain ⟨_, b, o, rfl, hc⟩ := hs.2 k hlt
   cases hq : (nth ss k == x)
   ·go_wp2
    go_round
    case rel => exact ⟨k + 1, by omega, by go_num, fun j hj => by
     by_cases e : j = k
     ·rw [e]; exact hq
     ·exact HX.out j (by omega)⟩
    case measure => simp [intOf]; omega
   ·have HF : Hid (hasB ss x = true) := hasB_of hlt hq
    go_wp2
    go_ret
    exact ⟨ret_bool HF.out.symm, rfl⟩
  ·have HF : Hid (hasB ss x = false) := hasB_no (fun j hj => HX.out j (by omega))
   go_wp2
   go_ret
   exact ⟨ret_bool HF.out.symm, rfl⟩
set_option maxHeartbeats 400000 in
theorem l1Share_any (a b : Option Addr) (ca cb : Nat) (sa sb : List Str) (w : World) (ha : StrsAt w a sa) (hb : StrsAt w b sb) :
  Calls Qry.prog 83 #[.slice a sa.length ca, .slice b sb.length cb] w fun e w' => e = .returned (.bool (shareB sa sb)) ∧ w' = w := by
 have hn := ha.1
 go_enter Qry.func83, Tryz.ntmps83
 go_wp2
 go_loop [5] (fun i => ∃ k : Nat, k ≤ sa.length ∧ i = .int .i64 k ∧ ∀ j, j < k → hasB sb (nth sa j) = false) (fun i => sa.length - (intOf i).toNat)
 case atStart => exact ⟨0, Nat.zero_le _, rfl, fun j hj => by omega⟩
 case round =>
  obtain ⟨k, hk, rfl, hx⟩ := hrel
  have HX : Hid (∀ j, j < k → hasB sb (nth sa j) = false) := hx
  clear hx
  by_cases hlt : k < sa.length
  ·obtain ⟨_, ba, oa, rfl, hc⟩ := ha.2 k hlt
   cases hq : hasB sb (nth sa k)
   ·have HQ : Hid (hasB sb (nth sa k) = false) := hq
    go_wp2_with (go_at_call 53; refine (l1Has_any _ _ _ _ _ hb).mono ?_; rintro e w' ⟨rfl, rfl⟩)
    go_round
    case rel => exact ⟨k + 1, by omega, by go_num, fun j hj => by
     by_cases e : j = k
     ·rw [e]; exact HQ.out
     ·exact HX.out j (by omega)⟩
    case measure => simp [intOf]; omega
   ·have HF : Hid (shareB sa sb = true) := anyLt_of hlt hq
    go_wp2_with (go_at_call 53; refine (l1Has_any _ _ _ _ _ hb).mono ?_; rintro e w' ⟨rfl, rfl⟩)
    go_ret
    exact ⟨ret_bool HF.out.symm, rfl⟩
  ·have HF : Hid (shareB sa sb = false) := anyLt_no (fun j hj => HX.out j (by omega))
   go_wp2
   go_ret
   exact ⟨ret_bool HF.out.symm, rfl⟩
theorem drewN_tr {w wr wz : World} (h : ∃ m, wr = w.drewN m) (k : ∃ m, wz = wr.drewN m) : ∃ m, wz = w.drewN m := by
 obtain ⟨m, rfl⟩ := h; obtain ⟨n, rfl⟩ := k; exact ⟨m + n, by simp⟩
theorem StrsAt.draws {w wr : World} {a : Option Addr} {ss : List Str} (h : StrsAt w a ss) (e : ∃ m, wr = w.drewN m) : StrsAt wr a ss := by
 obtain ⟨m, rfl⟩ := e; exact h.drewN m
set_option maxHeartbeats 400000 in
theorem l1NamesOk_any (a b : Option Addr) (ca cb : Nat) (sa sb : List Str) (w : World) (ha : StrsAt w a sa) (hb : StrsAt w b sb) :
  Calls Qry.prog 47 #[.slice a sa.length ca, .slice b sb.length cb] w fun e w' => e = .returned (.bool (namesOk sa sb)) ∧ ∃ n, w' = w.drewN n := by
 have hn := ha.1
 go_enter Qry.func47, Tryz.ntmps47
 go_wp2
 go_loopw [5] (fun i wr => ∃ k : Nat, k ≤ sa.length ∧ i = .int .i64 k ∧ (∃ m, wr = w.drewN m) ∧ ∀ j, j < k → (hasB sb (nth sa j) && up sa j) = true) (fun i _ => sa.length - (intOf i).toNat)
 case atStart => exact ⟨0, Nat.zero_le _, rfl, ⟨0, rfl⟩, fun j hj => by omega⟩
 case round =>
  obtain ⟨k, hk, rfl, hm, hx⟩ := hrel
  have HX : Hid (∀ j, j < k → (hasB sb (nth sa j) && up sa j) = true) := hx
  have ha' := ha.draws hm
  have hb' := hb.draws hm
  have HM : Hid (∃ m, wr = w.drewN m) := hm
  clear hx hm
  by_cases hlt : k < sa.length
  ·obtain ⟨_, ba, oa, rfl, hc⟩ := ha'.2 k hlt
   cases hq : hasB sb (nth sa k)
   ·have HF : Hid (namesOk sa sb = false) := allLt_no hlt (by rw [hq]; rfl)
    go_wp2
    go_quiet ((go_at_call 53; refine Calls.quiet_of_same (l1Has_any _ _ _ _ _ ?_); exact hb'.drewN _))
    go_wp2
    go_ret
    exact ⟨ret_bool HF.out.symm, drewN_tr HM.out ⟨_, rfl⟩⟩
   ·by_cases h0 : k = 0
    ·subst h0
     have HQ : Hid ((hasB sb (nth sa 0) && up sa 0) = true) := by rw [hq]; rfl
     simp only [Nat.add_zero] at hc
     go_wp2
     go_quiet ((go_at_call 53; refine Calls.quiet_of_same (l1Has_any _ _ _ _ _ ?_); exact hb'.drewN _))
     go_wp2
     go_roundw
     case rel => exact ⟨1, by omega, rfl, drewN_tr HM.out ⟨_, rfl⟩, fun j hj => by
      have e : j = 0 := by omega
      rw [e]; exact HQ.out⟩
     case measure => simp [intOf]; omega
    ·obtain ⟨p, rfl⟩ : ∃ p, k = p + 1 := ⟨k - 1, by omega⟩
     obtain ⟨_, ba', oa', e', hc'⟩ := ha'.2 p (by omega)
     injection e' with e'; injection e' with e1 e2; subst e1 e2
     have hd : decide ((0 : Int) < (p : Int) + 1) = true := by simp
     cases hu : Op.bytesLess (nth sa p) (nth sa (p + 1))
     ·have HF : Hid (namesOk sa sb = false) := allLt_no hlt (by simp [up, hu])
      go_wp2
      go_quiet ((go_at_call 53; refine Calls.quiet_of_same (l1Has_any _ _ _ _ _ ?_); exact hb'.drewN _))
      go_wp2
      go_ret
      exact ⟨ret_bool HF.out.symm, drewN_tr HM.out ⟨_, rfl⟩⟩
     ·have HQ : Hid ((hasB sb (nth sa (p + 1)) && up sa (p + 1)) = true) := by show _ = true; simp [up, hu, hq]
      go_wp2
      go_quiet ((go_at_call 53; refine Calls.quiet_of_same (l1Has_any _ _ _ _ _ ?_); exact hb'.drewN _))
      go_wp2
      go_roundw
      case rel => exact ⟨p + 1 + 1, by omega, by go_num, drewN_tr HM.out ⟨_, rfl⟩, fun j hj => by
       by_cases e : j = p + 1
       ·rw [e]; exact HQ.out
       ·exact HX.out j (by omega)⟩
      case measure => simp [intOf]; omega
  ·have HF : Hid (namesOk sa sb = true) := allLt_of (fun j hj => HX.out j (by omega))
   go_wp2
   go_ret
   exact ⟨ret_bool HF.out.symm, HM.out⟩
end
section
open Go.RowKit
attribute [local go_sem] S_toList S_size S_get
set_option maxHeartbeats 400000 in
theorem l1In_any (a b c : Int) (w : World) :
  Calls Qry.prog 84 #[.int .i64 a, .int .i64 b, .int .i64 c] w fun e w' => e = .returned (.bool (decide (b ≤ a ∧ a ≤ c))) ∧ w' = w := by
 by_cases h1 : b ≤ a
 ·by_cases h2 : a ≤ c
  all_goals
   go_enter Qry.func84, Tryz.ntmps84
   go_wp2
   go_ret
   exact ⟨ret_bool (by simp [h1, h2]), rfl⟩
 ·go_enter Qry.func84, Tryz.ntmps84
  go_wp2
  go_ret
  exact ⟨ret_bool (by simp; omega), rfl⟩
set_option maxHeartbeats 400000 in
theorem l1NameOk_any (s : Str) (w : World) (hs : s.length ≤ 140737488355328) :
  Calls Qry.prog 46 #[.string (S s)] w fun e w' => e = .returned (.bool (nameOk s)) ∧ w' = w := by
 by_cases h : 1 ≤ s.length ∧ s.length ≤ 8
 ·have hd : decide ((1 : Int) ≤ (s.length : Int) ∧ (s.length : Int) ≤ 8) = true := by simp; omega
  go_enter Qry.func46, Tryz.ntmps46
  go_wp2_with (go_at_call 84; refine (l1In_any _ _ _ _).mono ?_; rintro e w' ⟨rfl, rfl⟩)
  go_loop [3, 4] (fun i _ => ∃ k : Nat, k ≤ s.length ∧ i = .int .i64 k ∧ ∀ j, j < k → nameByte (bat s j) = true) (fun i _ => s.length - (intOf i).toNat)
  case atStart => exact ⟨0, Nat.zero_le _, rfl, fun j hj => by omega⟩
  case round =>
   obtain ⟨k, hk, rfl, hx⟩ := hrel
   have HX : Hid (∀ j, j < k → nameByte (bat s j) = true) := hx
   clear hx
   by_cases hlt : k < s.length
   ·rcases nameByte_cases (bat s k) with hy | hno
    ·have HY : Hid (nameByte (bat s k) = true) := nameByte_yes hy
     rcases hy with hy | hy | hy
     rotate_right
     have h45 : (((bat s k).toNat : Int) == 45) = true := by simp; omega
     rotate_left
     all_goals
      obtain ⟨hy1, hy2⟩ := hy
      go_wp2
      go_round
      case rel => exact ⟨k + 1, by omega, by go_num, fun j hj => by
       by_cases e : j = k
       ·rw [e]; exact HY.out
       ·exact HX.out j (by omega)⟩
      case measure => simp [intOf]; omega
    ·have HF : Hid (nameOk s = false) := nameOk_no hlt (nameByte_no hno)
     have h45 : (((bat s k).toNat : Int) == 45) = false := by simp; omega
     rcases hno with hy | hy | hy | hy
     ·go_wp2
      go_ret
      exact ⟨ret_bool HF.out.symm, rfl⟩
     ·obtain ⟨hy1, hy2⟩ := hy
      go_wp2
      go_ret
      exact ⟨ret_bool HF.out.symm, rfl⟩
     ·obtain ⟨hy1, hy2⟩ := hy
      have hd5 : decide (((bat s k).toNat : Int) ≤ 57) = false := by simp; omega
      go_wp2
      go_ret
      exact ⟨ret_bool HF.out.symm, rfl⟩
     ·have hd5 : decide (((bat s k).toNat : Int) ≤ 57) = false := by simp; omega
      have hd6 : decide (((bat s k).toNat : Int) ≤ 122) = false := by simp; omega
      go_wp2
      go_ret
      exact ⟨ret_bool HF.out.symm, rfl⟩
   ·have HF : Hid (nameOk s = true) := by
     show _ = true
     simp only [nameOk, h, and_self, decide_true, Bool.true_and]
     exact allLt_of (fun j hj => HX.out j (by omega))
    go_wp2
    go_ret
    exact ⟨ret_bool HF.out.symm, rfl⟩
 ·have hd : decide ((1 : Int) ≤ (s.length : Int) ∧ (s.length : Int) ≤ 8) = false := by simp; omega
  have HF : Hid (nameOk s = false) := by show _ = false; simp [nameOk, h]
  go_enter Qry.func46, Tryz.ntmps46
  go_wp2_with (go_at_call 84; refine (l1In_any _ _ _ _).mono ?_; rintro e w' ⟨rfl, rfl⟩)
  go_ret
  exact ⟨ret_bool HF.out.symm, rfl⟩
set_option maxHeartbeats 400000 in
theorem l1ThingsOk_any (a : Option Addr) (ca : Nat) (sa : List Str) (w : World) (ha : StrsAt w a sa) :
  Calls Qry.prog 82 #[.slice a sa.length ca] w fun e w' => e = .returned (.bool (thingsOk sa)) ∧ ∃ n, w' = w.drewN n := by
 have hn := ha.1
 by_cases h8 : sa.length ≤ 8
 ·go_enter Qry.func82, Tryz.ntmps82
  go_wp2
  go_loopw [3] (fun i wr => ∃ k : Nat, k ≤ sa.length ∧ i = .int .i64 k ∧ (∃ m, wr = w.drewN m) ∧ ∀ j, j < k → (nameOk (nth sa j) && up sa j) = true) (fun i _ => sa.length - (intOf i).toNat)
  case atStart => exact ⟨0, Nat.zero_le _, rfl, ⟨0, rfl⟩, fun j hj => by omega⟩
  case round =>
   obtain ⟨k, hk, rfl, hm, hx⟩ := hrel
   have HX : Hid (∀ j, j < k → (nameOk (nth sa j) && up sa j) = true) := hx
   have ha' := ha.draws hm
   have HM : Hid (∃ m, wr = w.drewN m) := hm
   clear hx hm
   by_cases hlt : k < sa.length
   ·obtain ⟨hl, ba, oa, rfl, hc⟩ := ha'.2 k hlt
    cases hq : nameOk (nth sa k)
    ·have HF : Hid (thingsOk sa = false) := thingsOk_no hlt (by rw [hq]; rfl)
     go_wp2
     go_quiet ((go_at_call 46; exact Calls.quiet_of_same (l1NameOk_any _ _ hl)))
     go_wp2
     go_ret
     exact ⟨ret_bool HF.out.symm, drewN_tr HM.out ⟨_, rfl⟩⟩
    ·by_cases h0 : k = 0
     ·subst h0
      have HQ : Hid ((nameOk (nth sa 0) && up sa 0) = true) := by rw [hq]; rfl
      simp only [Nat.add_zero] at hc
      go_wp2
      go_quiet ((go_at_call 46; exact Calls.quiet_of_same (l1NameOk_any _ _ hl)))
      go_wp2
      go_roundw
      case rel => exact ⟨1, by omega, rfl, drewN_tr HM.out ⟨_, rfl⟩, fun j hj => by
       have e : j = 0 := by omega
       rw [e]; exact HQ.out⟩
      case measure => simp [intOf]; omega
     ·obtain ⟨p, rfl⟩ : ∃ p, k = p + 1 := ⟨k - 1, by omega⟩
      obtain ⟨_, ba', oa', e', hc'⟩ := ha'.2 p (by omega)
      injection e' with e'; injection e' with e1 e2; subst e1 e2
      have hd : decide ((0 : Int) < (p : Int) + 1) = true := by simp
      cases hu : Op.bytesLess (nth sa p) (nth sa (p + 1))
      ·have HF : Hid (thingsOk sa = false) := thingsOk_no hlt (by simp [up, hu])
       go_wp2
       go_quiet ((go_at_call 46; exact Calls.quiet_of_same (l1NameOk_any _ _ hl)))
       go_wp2
       go_ret
       exact ⟨ret_bool HF.out.symm, drewN_tr HM.out ⟨_, rfl⟩⟩
      ·have HQ : Hid ((nameOk (nth sa (p + 1)) && up sa (p + 1)) = true) := by show _ = true; simp [up, hu, hq]
       go_wp2
       go_quiet ((go_at_call 46; exact Calls.quiet_of_same (l1NameOk_any _ _ hl)))
       go_wp2
       go_roundw
       case rel => exact ⟨p + 1 + 1, by omega, by go_num, drewN_tr HM.out ⟨_, rfl⟩, fun j hj => by
        by_cases e : j = p + 1
        ·rw [e]; exact HQ.out
        ·exact HX.out j (by omega)⟩
       case measure => simp [intOf]; omega
   ·have HF : Hid (thingsOk sa = true) := by
     show _ = true
     simp only [thingsOk, h8, decide_true, Bool.true_and]
     exact allLt_of (fun j hj => HX.out j (by omega))
    go_wp2
    go_ret
    exact ⟨ret_bool HF.out.symm, HM.out⟩
 ·have HF : Hid (thingsOk sa = false) := by show _ = false; simp [thingsOk, h8]
  go_enter Qry.func82, Tryz.ntmps82
  go_wp2
  go_ret
  exact ⟨ret_bool HF.out.symm, 0, rfl⟩
end
section
open Go.RowKit
attribute [local go_sem] S_toList S_size S_get
def eqS (a b : List Str) : Bool := decide (a = b)
theorem eqS_len {a b : List Str} (h : a.length ≠ b.length) : eqS a b = false := by
 simp only [eqS, decide_eq_false_iff_not]; exact fun e => h (by rw [e])
theorem eqS_no {a b : List Str} {k : Nat} (h : (nth a k == nth b k) = false) : eqS a b = false := by
 simp only [eqS, decide_eq_false_iff_not]; intro e; rw [e] at h; simp at h
theorem eqS_yes {a b : List Str} (hl : a.length = b.length) (h : ∀ k, k < a.length → (nth a k == nth b k) = true) : eqS a b = true := by
 simp only [eqS, decide_eq_true_eq]
 refine List.ext_getElem hl (fun i h1 h2 => ?_)
 have := eq_of_beq (h i h1)
 rwa [nth_get h1, nth_get h2] at this
end
section
open Go.RowKit
attribute [local go_sem] S_toList S_size S_get
theorem Qry.infoStr : (Qry.prog.info? 9).map (fun i => (i.zero, i.size, i.bytes)) = some (some (.string (S [])), 1, 16) := by kernel_rfl
def OwnStrs (w : World) (b : Nat) (ss : List Str) : Prop :=
 ss.length ≤ 8796093022208 ∧ (∀ i, i < ss.length → (nth ss i).length ≤ 140737488355328) ∧ w.rowIs b 9 ss.length (fun j => .string (S (nth ss j)))
def halfS (ss : List Str) (k : Nat) : Nat → Value := fun j => if j < k then .string (S (nth ss j)) else .string (S [])
end
section
open Go.RowKit
attribute [local go_sem] S_toList S_size S_get
end
section
open Go.RowKit
attribute [local go_sem] S_toList S_size S_get
theorem Qry.infoBatch : (Qry.prog.info? 73).map (fun i => (i.zero, i.size, i.bytes)) = some (some (.agg #[.string (S []), .slice none 0 0, .slice none 0 0]), 3, 64) := by kernel_rfl
def zero3 (n : Nat) : Array Value := madeCells #[.string (S []), .slice none 0 0, .slice none 0 0] (n * 3)
def HalfB (w : World) (B n k : Nat) (bs : List Batch) : Prop :=
 ∃ f, w.rowIs B 73 (n * 3) f ∧ ∀ i, i < k → f (i * 3) = .string (S (nthB bs i).name) ∧ (nthB bs i).name.length ≤ 140737488355328 ∧
  ∃ b1 b2, f (i * 3 + 1) = .slice (some ⟨b1, 0, none⟩) (nthB bs i).has.length (nthB bs i).has.length ∧ f (i * 3 + 2) = .slice (some ⟨b2, 0, none⟩) (nthB bs i).needs.length (nthB bs i).needs.length ∧
   B < b1 ∧ B < b2 ∧ OwnStrs w b1 (nthB bs i).has ∧ OwnStrs w b2 (nthB bs i).needs
end
section
open Go.RowKit
attribute [local go_sem] S_toList S_size S_get
def OwnBook (w : World) (b1 b2 : Nat) (b : Book) : Prop :=
 b1 < b2 ∧ OwnStrs w b1 b.things ∧ b.batches.length ≤ 2199023255552 ∧ HalfB w b2 b.batches.length b.batches.length b.batches
def bookV (a1 a2 : Option Addr) (c1 c2 : Nat) (b : Book) : Value := .agg #[.slice a1 b.things.length c1, .slice a2 b.batches.length c2]
end
section
open Go.RowKit
attribute [local go_sem] S_toList S_size S_get
theorem eqS_self (l : List Str) : eqS l l = true := by simp [eqS]
end
end Go.Proofs.YtdafpnpfcmgfcaaGreatDoor
