/- Walks over the laws' marks. Walks over the laws' sizes, told how many names there are. Walks over the laws' marks of lists. Walks over the laws' marks of books. Marks of a list that the program has made. -/
import Derived.Test.YtdafpnpfcmgfcabGreatDoorWB
import Derived.Deep.RegionHeld3
import Derived.Test.YtdafpnpfcmgfcabGreatDoorVA
import Derived.Test.YtdafpnpfcmgfcabGreatDoorWC
namespace Go.Proofs.YtdafpnpfcmgfcabGreatDoor
open Go.RowKit
attribute [local go_sem] S_toList S_size S_get

theorem S_cons (c : UInt8) (l : Str) : ({ data := #[c] } : ByteArray) ++ S l = S (c :: l) := by
  apply ByteArray.ext
  simp [S]

def digit (m : Nat) : UInt8 := UInt8.ofNat (48 + m % 10)
/-- The decimal digits of a number, ahead of what is there. -/
def decF : Nat → Nat → Str → Str
  | 0, _, acc => acc
  | f + 1, m, acc => if m = 0 then acc else decF f (m / 10) (digit m :: acc)
theorem decF_more : ∀ (f g m : Nat) (acc : Str), m ≤ f → m ≤ g → decF f m acc = decF g m acc
  | 0, 0, _, _, _, _ => rfl
  | 0, g + 1, m, acc, h, _ => by
    have : m = 0 := by omega
    subst this; simp [decF]
  | f + 1, 0, m, acc, _, h => by
    have : m = 0 := by omega
    subst this; simp [decF]
  | f + 1, g + 1, m, acc, h1, h2 => by
    by_cases e : m = 0
    · simp [decF, e]
    · simp only [decF, e, if_false]
      exact decF_more f g _ _ (by omega) (by omega)
def markT (k : Nat) : Str := 109 :: decF k k []
theorem decF_step {m : Nat} (h : 0 < m) (acc : Str) : decF m m acc = decF (m / 10) (m / 10) (digit m :: acc) := by
  obtain ⟨f, rfl⟩ : ∃ f, m = f + 1 := ⟨m - 1, by omega⟩
  have e : ¬ f + 1 = 0 := by omega
  rw [decF, if_neg e]
  exact decF_more _ _ _ _ (by omega) (by omega)

theorem conv_digit (m : Nat) (wr : World) : (convert 81 9 (.slice (some ⟨wr.heap.size, 0, none⟩) 1 1)).run Tryz.prog (wr.alloc (.cells #[.int .u8 (48 + (m : Int) % 10)] 5)) = .ok (.string (S [digit m])) (wr.alloc (.cells #[.int .u8 (48 + (m : Int) % 10)] 5)) := by
  have h := run_convert_bytes_arg (P := Tryz.prog) (w := wr.alloc (.cells #[.int .u8 (48 + (m : Int) % 10)] 5)) 81 5 Tryz.underlying81 Tryz.underlying5 wr.heap.size 0 1 1 [48 + (m : Int) % 10] rfl (fun i hi => by
    have e : i = 0 := by omega
    subst e
    simp) 9 Tryz.underlying9
  have e : strOfNums [48 + (m : Int) % 10] = S [digit m] := by
    apply ByteArray.ext
    apply Array.ext'
    rw [strOfNums_data, S_data]
    have e2 : (48 + (m : Int) % 10).toNat = 48 + m % 10 := by omega
    simp [digit, e2]
  rw [e] at h
  exact h
theorem S_app (x : UInt8) (l : Str) : S [x] ++ S l = S (x :: l) := by
  apply ByteArray.ext
  simp [S]

set_option maxHeartbeats 400000 in
set_option maxRecDepth 100000 in
theorem markText_any (k : Nat) (w : World) (hk : 1 ≤ k) (hb : k ≤ 1000000000) :
    Calls Tryz.prog 33 #[.int .i64 (k : Int)] w fun e w' => e = .returned (.string (S (markT k))) ∧ Ext w w' := by
  have hcv := conv_digit
  have hdk : decide (k = 0) = false := by simp; omega
  go_enter Tryz.func33, Tryz.ntmps33
  go_wp2
  go_loopw [0, 3] (fun ki o wr => ∃ (m : Nat) (acc : Str), acc.length + m ≤ 1000000000 ∧ ki = .int .i64 (m : Int) ∧ o = .string (S acc) ∧ decF m m acc = decF k k [] ∧ Ext w wr) (fun ki _ _ => (intOf ki).toNat)
  case atStart => exact ⟨k, [], by simp; omega, rfl, rfl, rfl, Ext.rfl' _⟩
  case round =>
    obtain ⟨m, acc, hm, rfl, rfl, hdec, hext⟩ := hrel
    have HE := hid hext
    have HD := hid hdec
    clear hext hdec
    by_cases hpos : 0 < m
    · have HD2 := hid ((decF_step hpos acc).symm.trans HD.out)
      go_wp2
      go_roundw
      case rel => exact ⟨m / 10, digit m :: acc, by simp; omega, by go_num, by rw [S_app], HD2.out, Ext.tr HE.out ((Below.refl _ _).alloc (Nat.le_refl _) _)⟩
      case measure => simp [intOf]; omega
    · have HF : Hid (acc = decF k k []) := by
        have e : m = 0 := by omega
        rw [← HD.out, e]; rfl
      go_wp2
      go_ret
      exact ⟨by rw [show markT k = 109 :: acc by rw [HF.out]; rfl, ← S_cons]; rfl, HE.out⟩
end Go.Proofs.YtdafpnpfcmgfcabGreatDoor
namespace Go.Proofs.YtdafpnpfcmgfcabGreatDoor
open Go.RowKit
attribute [local go_sem] S_toList S_size S_get

def cntB (x : Batch) : Nat := x.has.length + x.needs.length
def cntTo (bs : List Batch) : Nat → Nat
  | 0 => 0
  | k + 1 => cntTo bs k + cntB (nthB bs k)
/-- How many names there are in a book. -/
def nMarks (b : Book) : Nat := b.things.length + (b.batches.length + cntTo b.batches b.batches.length)

set_option maxHeartbeats 400000 in
theorem szStringS_n (a : Option Addr) (ca : Nat) (sa : List Str) (left : Int) (w : World) (ha : StrsAt w a sa) (h0 : 0 ≤ left) (h1 : left ≤ 1048576) :
    Calls Tryz.prog 7 #[.slice a sa.length ca, .int .i64 left] w fun e w' => (∃ r : Int, e = .returned (.int .i64 r) ∧ -1 ≤ r ∧ r ≤ 1048576 ∧ (0 ≤ r → r + sa.length ≤ left)) ∧ w' = w := by
  have hn := ha.1
  by_cases hneg : left - sa.length < 0
  · go_enter Tryz.func7, Tryz.ntmps7
    go_wp2
    go_ret
    exact ⟨⟨-1, rfl, by omega, by omega, by omega⟩, rfl⟩
  · go_enter Tryz.func7, Tryz.ntmps7
    go_wp2
    go_loop [1, 5] (fun l i => ∃ (k : Nat) (x : Int), k ≤ sa.length ∧ i = .int .i64 k ∧ l = .int .i64 x ∧ 0 ≤ x ∧ x + sa.length ≤ left) (fun _ i => sa.length - (intOf i).toNat)
    case atStart => exact ⟨0, _, Nat.zero_le _, rfl, rfl, by omega, by omega⟩
    case round =>
      obtain ⟨k, x, hk, rfl, rfl, hx0, hx1⟩ := hrel
      by_cases hlt : k < sa.length
      · obtain ⟨hl, ba, oa, rfl, hc⟩ := ha.2 k hlt
        by_cases hq : x - (nth sa k).length < 0
        · go_wp2
          go_ret
          exact ⟨⟨-1, rfl, by omega, by omega, by omega⟩, rfl⟩
        · go_wp2
          go_round
          case rel => exact ⟨k + 1, _, by omega, by go_num, rfl, by omega, by omega⟩
          case measure => simp [intOf]; omega
      · go_wp2
        go_ret
        exact ⟨⟨_, rfl, by omega, by omega, by omega⟩, rfl⟩

set_option maxHeartbeats 400000 in
theorem szShareBatch_n (x : Batch) (a1 a2 : Option Addr) (c1 c2 : Nat) (left : Int) (w : World) (hl : x.name.length ≤ 140737488355328)
    (h1 : StrsAt w a1 x.has) (h2 : StrsAt w a2 x.needs) (g0 : 0 ≤ left) (g1 : left ≤ 1048576) :
    Calls Tryz.prog 38 #[.agg #[.string (S x.name), .slice a1 x.has.length c1, .slice a2 x.needs.length c2], .int .i64 left] w fun e w' =>
      (∃ r : Int, e = .returned (.int .i64 r) ∧ -1 ≤ r ∧ r ≤ 1048576 ∧ (0 ≤ r → r + cntB x ≤ left)) ∧ Ext w w' := by
  have hal : ∀ o, Ext w (w.alloc o) := fun o => (Below.refl _ _).alloc (Nat.le_refl _) _
  have HC : Hid (cntB x = x.has.length + x.needs.length) := rfl
  by_cases hneg : left - x.name.length < 0
  · go_enter Tryz.func38, Tryz.ntmps38
    go_wp2
    go_ret
    exact ⟨⟨-1, rfl, by omega, by omega, by omega⟩, hal _⟩
  · go_enter Tryz.func38, Tryz.ntmps38
    go_wp2_with fail
    refine (szStringS_n _ _ _ _ _ (h1.ext (hal _)) (by omega) (by omega)).mono ?_
    rintro e w' ⟨⟨r, rfl, hr1, hr2, hr3⟩, rfl⟩
    by_cases hr : r < 0
    · go_wp2_with fail
      go_ret
      exact ⟨⟨-1, rfl, by omega, by omega, by omega⟩, hal _⟩
    · go_wp2_with fail
      refine (szStringS_n _ _ _ _ _ (h2.ext (hal _)) (by omega) (by omega)).mono ?_
      rintro e w' ⟨⟨r', rfl, hr1', hr2', hr3'⟩, rfl⟩
      by_cases hr' : r' < 0
      · go_wp2_with fail
        go_ret
        exact ⟨⟨-1, rfl, by omega, by omega, by omega⟩, hal _⟩
      · go_wp2_with fail
        go_ret
        exact ⟨⟨_, rfl, by omega, by omega, by rw [HC.out]; omega⟩, hal _⟩

set_option maxHeartbeats 400000 in
theorem szShareBatchS_n (a : Option Addr) (ca : Nat) (bs : List Batch) (left : Int) (w : World) (ha : BatchesAt w a bs) (h0 : 0 ≤ left) (h1 : left ≤ 1048576) :
    Calls Tryz.prog 21 #[.slice a bs.length ca, .int .i64 left] w fun e w' => (∃ r : Int, e = .returned (.int .i64 r) ∧ -1 ≤ r ∧ r ≤ 1048576 ∧ (0 ≤ r → r + bs.length + cntTo bs bs.length ≤ left)) ∧ Ext w w' := by
  have hn := ha.1
  by_cases hneg : left - bs.length < 0
  · go_enter Tryz.func21, Tryz.ntmps21
    go_wp2
    go_ret
    exact ⟨⟨-1, rfl, by omega, by omega, by omega⟩, Ext.rfl' _⟩
  · go_enter Tryz.func21, Tryz.ntmps21
    go_wp2
    go_loopw [1, 5] (fun l i wr => ∃ (k : Nat) (x : Int), k ≤ bs.length ∧ i = .int .i64 k ∧ l = .int .i64 x ∧ 0 ≤ x ∧ x + bs.length + cntTo bs k ≤ left ∧ Ext w wr) (fun _ i _ => bs.length - (intOf i).toNat)
    case atStart => exact ⟨0, _, Nat.zero_le _, rfl, rfl, by omega, by simp only [cntTo]; omega, Ext.rfl' _⟩
    case round =>
      obtain ⟨k, x, hk, rfl, rfl, hx0, hx1, hext⟩ := hrel
      have ha' := ha.ext hext
      have HE : Hid (Ext w wr) := hext
      have HS : Hid (cntTo bs (k + 1) = cntTo bs k + cntB (nthB bs k)) := rfl
      clear hext
      by_cases hlt : k < bs.length
      · obtain ⟨ba, oa, rfl, hl, a1, c1, a2, c2, k0, k1, k2, s1, s2⟩ := ha'.2 k hlt
        go_wp2_with fail
        refine (szShareBatch_n (nthB bs k) _ _ _ _ _ _ hl s1 s2 (by omega) (by omega)).mono ?_
        rintro e w1 ⟨⟨r, rfl, hr1, hr2, hr3⟩, hext⟩
        have HE1 : Hid (Ext w w1) := Ext.tr HE.out hext
        clear hext
        by_cases hr : r < 0
        · go_wp2
          go_ret
          exact ⟨⟨-1, rfl, by omega, by omega, by omega⟩, HE1.out⟩
        · go_wp2
          go_roundw
          case rel => exact ⟨k + 1, r, by omega, by go_num, rfl, by omega, by rw [HS.out]; have := hr3 (by omega); omega, HE1.out⟩
          case measure => simp [intOf]; omega
      · have e : k = bs.length := by omega
        go_wp2
        go_ret
        exact ⟨⟨_, rfl, by omega, by omega, fun _ => by rw [← e]; rw [← e] at hx1; exact hx1⟩, HE.out⟩

set_option maxHeartbeats 400000 in
theorem szShareBook_n (b : Book) (a1 a2 : Option Addr) (c1 c2 : Nat) (left : Int) (w : World) (hb : BookAt w a1 a2 b) (g0 : 0 ≤ left) (g1 : left ≤ 1048576) :
    Calls Tryz.prog 6 #[.agg #[.slice a1 b.things.length c1, .slice a2 b.batches.length c2], .int .i64 left] w fun e w' =>
      (∃ r : Int, e = .returned (.int .i64 r) ∧ -1 ≤ r ∧ r ≤ 1048576 ∧ (0 ≤ r → r + nMarks b ≤ left)) ∧ Ext w w' := by
  have hal : ∀ o, Ext w (w.alloc o) := fun o => (Below.refl _ _).alloc (Nat.le_refl _) _
  have HC : Hid (nMarks b = b.things.length + (b.batches.length + cntTo b.batches b.batches.length)) := rfl
  go_enter Tryz.func6, Tryz.ntmps6
  go_wp2_with fail
  refine (szStringS_n _ _ _ _ _ (hb.1.ext (hal _)) (by omega) (by omega)).mono ?_
  rintro e w' ⟨⟨r, rfl, hr1, hr2, hr3⟩, rfl⟩
  by_cases hr : r < 0
  · go_wp2_with fail
    go_ret
    exact ⟨⟨-1, rfl, by omega, by omega, by omega⟩, hal _⟩
  · go_wp2_with fail
    refine (szShareBatchS_n _ _ _ _ _ (hb.2.ext (hal _)) (by omega) (by omega)).mono ?_
    rintro e w1 ⟨⟨r', rfl, hr1', hr2', hr3'⟩, hext⟩
    have HE : Hid (Ext w w1) := Ext.tr (hal _) hext
    clear hext
    by_cases hr' : r' < 0
    · go_wp2_with fail
      go_ret
      exact ⟨⟨-1, rfl, by omega, by omega, by omega⟩, HE.out⟩
    · go_wp2_with fail
      go_ret
      exact ⟨⟨_, rfl, by omega, by omega, by rw [HC.out]; have := hr3' (by omega); omega⟩, HE.out⟩
end Go.Proofs.YtdafpnpfcmgfcabGreatDoor
namespace Go.Proofs.YtdafpnpfcmgfcabGreatDoor
open Go.RowKit
attribute [local go_sem] S_toList S_size S_get

theorem gb_tr {a b c : World} {row : Option Nat} (h : a.grownBy b row) (k : b.grownBy c row) : a.grownBy c row :=
  ⟨k.os.trans h.os, k.tape.trans h.tape, k.output.trans h.output, Nat.le_trans h.size k.size, fun i hi hr => (k.block i (by have := h.size; omega) hr).trans (h.block i hi hr)⟩
theorem gb_ext {w w' : World} (e : Ext w w') (row : Option Nat) : w.grownBy w' row := ⟨e.os, e.tape, e.output, e.size, fun k hk _ => e.block k hk⟩
theorem gb_set (w : World) (B i : Nat) (v : Value) : w.grownBy (w.setCell ⟨B, i, none⟩ v) (some B) :=
  ⟨rfl, rfl, rfl, by simp [World.setCell], fun k _ hk => Below.heap_setCell _ _ _ k (fun e => hk (by rw [e]))⟩
theorem gb_rfl (w : World) (row : Option Nat) : w.grownBy w row := gb_ext (Ext.rfl' w) row

def marked (f : Nat → Value) (k m : Nat) : Nat → Value := fun j => if j < m then .string (S (markT (k + j))) else f j

set_option maxHeartbeats 400000 in
theorem markStringS_row (B n : Nat) (f : Nat → Value) (len cap k : Nat) (w : World) (h : w.rowIs B 9 n f) (hl : len ≤ n) (hk : 1 ≤ k) (hb : k + len ≤ 1000000000) :
    Calls Tryz.prog 15 #[.slice (some ⟨B, 0, none⟩) len cap, .int .i64 (k : Int)] w fun e w' =>
      e = .returned (.int .i64 ((k + len : Nat) : Int)) ∧ w.grownBy w' (some B) ∧ w'.rowIs B 9 n (marked f k len) := by
  go_enter Tryz.func15, Tryz.ntmps15
  go_wp2_with fail
  go_loopw [1, 5] (fun ki i wr => ∃ m : Nat, m ≤ len ∧ i = .int .i64 m ∧ ki = .int .i64 ((k + m : Nat) : Int) ∧ w.grownBy wr (some B) ∧ wr.rowIs B 9 n (marked f k m)) (fun _ i _ => len - (intOf i).toNat)
  case atStart => exact ⟨0, Nat.zero_le _, rfl, rfl, gb_rfl _ _, h.congr (fun j _ => by simp [marked])⟩
  case round =>
    obtain ⟨m, hm, rfl, rfl, hgb, hrow⟩ := hrel
    have HG := hid hgb
    have HR := hid hrow
    clear hgb hrow
    by_cases hlt : m < len
    · go_wp2_with fail
      refine (markText_any (k + m) _ (by omega) (by omega)).mono ?_
      rintro e w1 ⟨rfl, hext⟩
      have hr1 : w1.rowIs B 9 n (marked f k m) := HR.out.of_block (hext.block B HR.out.lt)
      have hc := hr1.cell (i := m) (by omega)
      have hf := hr1.frozen m
      have HR1 := hid hr1
      have HG1 := hid (gb_tr HG.out (gb_ext hext _))
      clear hr1 hext
      go_wp2_with fail
      go_roundw
      case rel => exact ⟨m + 1, by omega, by go_num, by go_num, gb_tr HG1.out (gb_set _ _ _ _), (HR1.out.set m _).congr (fun j hj => by
        by_cases e : j = m
        · simp [e, marked]
        · have : (j < m + 1) = (j < m) := by simp; omega
          simp [e, marked, this])⟩
      case measure => simp [intOf]; omega
    · have e : m = len := by omega
      subst e
      go_wp2_with fail
      go_ret
      exact ⟨rfl, HG.out, HR.out⟩

set_option maxHeartbeats 400000 in
theorem markStringS_nil (a : Option Addr) (cap k : Nat) (w : World) :
    Calls Tryz.prog 15 #[.slice a 0 cap, .int .i64 (k : Int)] w fun e w' => e = .returned (.int .i64 (k : Int)) ∧ w' = w := by
  go_enter Tryz.func15, Tryz.ntmps15
  go_wp2_with fail
  go_loop [1, 5] (fun ki i => ki = .int .i64 (k : Int) ∧ i = .int .i64 0) (fun _ _ => 0)
  case atStart => exact ⟨rfl, rfl⟩
  case round =>
    obtain ⟨rfl, rfl⟩ := hrel
    go_wp2_with fail
    go_ret
    exact ⟨rfl, rfl⟩

set_option maxHeartbeats 400000 in
theorem heldStringS_any (a : Option Addr) (cap k : Nat) (ss : List Str) (w : World) (h : StrsAt w a ss) (hm : ∀ i, i < ss.length → nth ss i = markT (k + i)) (hk : 1 ≤ k) (hb : k + ss.length ≤ 1000000000) :
    Calls Tryz.prog 34 #[.slice a ss.length cap, .int .i64 (k : Int)] w fun e w' =>
      e = .returned (.int .i64 ((k + ss.length : Nat) : Int)) ∧ Ext w w' := by
  have hn := h.1
  have HM := hid hm
  clear hm
  go_enter Tryz.func34, Tryz.ntmps34
  go_wp2_with fail
  go_loopw [1, 5] (fun ki i wr => ∃ m : Nat, m ≤ ss.length ∧ i = .int .i64 m ∧ ki = .int .i64 ((k + m : Nat) : Int) ∧ Ext w wr) (fun _ i _ => ss.length - (intOf i).toNat)
  case atStart => exact ⟨0, Nat.zero_le _, rfl, rfl, Ext.rfl' _⟩
  case round =>
    obtain ⟨m, hm, rfl, rfl, hext⟩ := hrel
    have h' := h.ext hext
    have HE := hid hext
    clear hext
    by_cases hlt : m < ss.length
    · obtain ⟨hl, bo, oo, rfl, hc⟩ := h'.2 m hlt
      rw [HM.out m hlt] at hc
      have HMT : Hid (∀ w, Calls Tryz.prog 33 #[.int .i64 ((k + m : Nat) : Int)] w fun e w' => e = .returned (.string (S (markT (k + m)))) ∧ Ext w w') := fun w => markText_any (k + m) w (by omega) (by omega)
      have hne : Nonempty (Grow wr) := ⟨⟨wr, Ext.rfl' wr⟩⟩
      have gc := fun x : Grow wr => x.cell hc
      generalize markT (k + m) = t at hc gc HMT
      have hq : (t == t) = true := by simp
      go_wp2_with fail
      refine wp_region_grow (by kernel_rfl) (by kernel_rfl) ?_
      repeat (go_big_quiet_step ((go_at_call 33; exact grow_of (HMT.out _))))
      refine wpQuiet_nil ?_
      intro _ hw'
      obtain ⟨x3, hw''⟩ := hw'
      subst hw''
      go_wp2_with fail
      go_roundw
      case rel => exact ⟨m + 1, by omega, by go_num, by go_num, Ext.tr HE.out x3.e⟩
      case measure => simp [intOf]; omega
    · have e : m = ss.length := by omega
      rw [e]
      go_wp2_with fail
      go_ret
      exact ⟨rfl, HE.out⟩
end Go.Proofs.YtdafpnpfcmgfcabGreatDoor
namespace Go.Proofs.YtdafpnpfcmgfcabGreatDoor
open Go.RowKit
attribute [local go_sem] S_toList S_size S_get

/-- Between two block numbers anything may have turned; all else is as it was. -/
structure Mid (lo hi : Nat) (w w' : World) : Prop where
  os : w'.os = w.os
  tape : w'.tape = w.tape
  output : w'.output = w.output
  size : w.heap.size ≤ w'.heap.size
  block : ∀ j, j < w.heap.size → (j < lo ∨ hi ≤ j) → w'.heap[j]? = w.heap[j]?
theorem Mid.rfl' (lo hi : Nat) (w : World) : Mid lo hi w w := ⟨rfl, rfl, rfl, Nat.le_refl _, fun _ _ _ => rfl⟩
theorem Mid.tr {lo hi : Nat} {a b c : World} (h : Mid lo hi a b) (k : Mid lo hi b c) : Mid lo hi a c :=
  ⟨k.os.trans h.os, k.tape.trans h.tape, k.output.trans h.output, Nat.le_trans h.size k.size, fun i hi' ho => (k.block i (by have := h.size; omega) ho).trans (h.block i hi' ho)⟩
theorem Mid.of_ext {lo hi : Nat} {w w' : World} (e : Ext w w') : Mid lo hi w w' := ⟨e.os, e.tape, e.output, e.size, fun k hk _ => e.block k hk⟩
theorem Mid.of_gb {lo hi b : Nat} {w w' : World} (g : w.grownBy w' (some b)) (h1 : lo ≤ b) (h2 : b < hi) : Mid lo hi w w' :=
  ⟨g.os, g.tape, g.output, g.size, fun j hj ho => g.block j hj (fun e => by cases e; omega)⟩
theorem Mid.below {lo hi : Nat} {w w' : World} (h : Mid lo hi w w') (hl : lo ≤ w.heap.size) : Below lo w w' := ⟨h.os, h.tape, h.output, h.size, fun k hk => h.block k (by omega) (Or.inl hk)⟩
/-- A list of names that lies beyond. -/
theorem StrsAt.mid {w w' : World} {lo hi : Nat} {a : Option Addr} {ss : List Str} (h : StrsAt w a ss) (m : Mid lo hi w w') (ha : 0 < ss.length → ∀ b o, a = some ⟨b, o, none⟩ → b < lo ∨ hi ≤ b) : StrsAt w' a ss :=
  ⟨h.1, fun i hi' => ⟨(h.2 i hi').1, by
    obtain ⟨b, o, e, hc⟩ := (h.2 i hi').2
    exact ⟨b, o, e, (World.cell?_of_block (w := w) (a := ⟨b, o + i, none⟩) (m.block b (cell_lt hc) (ha (by omega) b o e))).trans hc⟩⟩⟩
theorem StrsAt.lt {w : World} {a : Option Addr} {ss : List Str} (h : StrsAt w a ss) (hp : 0 < ss.length) (b o : Nat) (e : a = some ⟨b, o, none⟩) : b < w.heap.size := by
  obtain ⟨_, b', o', e', hc⟩ := h.2 0 hp
  rw [e] at e'; cases e'
  exact cell_lt hc
theorem OwnL.mid {w w' : World} {lo hi base : Nat} {v : Value} {ss : List Str} (h : OwnL w base v ss) (m : Mid lo hi w w') (hb : hi ≤ base) : OwnL w' base v ss := by
  refine ⟨h.1, ?_⟩
  rcases h.2 with h2 | ⟨g, cap, cur, hv, hg, hc, r⟩
  · exact Or.inl h2
  · exact Or.inr ⟨g, cap, cur, hv, hg, (m.block g (Array.getElem?_eq_some_iff.1 hc).1 (Or.inr (by omega))).trans hc, r⟩
theorem StrsAt.gb {w w' : World} {row : Option Nat} {a : Option Addr} {ss : List Str} (h : StrsAt w a ss) (g : w.grownBy w' row) (ha : 0 < ss.length → ∀ b o, a = some ⟨b, o, none⟩ → some b ≠ row) : StrsAt w' a ss :=
  ⟨h.1, fun i hi' => ⟨(h.2 i hi').1, by
    obtain ⟨b, o, e, hc⟩ := (h.2 i hi').2
    exact ⟨b, o, e, (World.cell?_of_block (w := w) (a := ⟨b, o + i, none⟩) (g.block b (cell_lt hc) (ha (by omega) b o e))).trans hc⟩⟩⟩

def RowN (w : World) (b n : Nat) : Prop := ∃ f, w.rowIs b 9 n f
theorem RowN.len {w : World} {b n m : Nat} (h : RowN w b n) (k : RowN w b m) : n = m := by
  obtain ⟨f, c, hc, hs, _⟩ := h
  obtain ⟨g, d, hd, hs', _⟩ := k
  rw [hc] at hd; cases hd
  omega
theorem RowN.ext {w w' : World} {b n : Nat} (h : RowN w b n) (e : Ext w w') : RowN w' b n := by
  obtain ⟨f, hf⟩ := h
  exact ⟨f, hf.of_block (e.block b hf.lt)⟩
theorem RowN.gb {w w' : World} {b n c m : Nat} (h : RowN w b n) (g : w.grownBy w' (some c)) (h1 : RowN w c m) (h2 : RowN w' c m) : RowN w' b n := by
  by_cases e : b = c
  · subst e
    rw [h.len h1]; exact h2
  · obtain ⟨f, hf⟩ := h
    exact ⟨f, hf.of_block (g.block b hf.lt (fun e' => e (by cases e'; rfl)))⟩
theorem RowN.lt {w : World} {b n : Nat} (h : RowN w b n) : b < w.heap.size := by
  obtain ⟨f, hf⟩ := h
  exact hf.lt

/-- New batches, all within a span of blocks: what of them the marks want. -/
def BShape (w : World) (lo hi B : Nat) (bs : List Batch) : Prop :=
  lo ≤ B ∧ B < hi ∧ ∃ f, w.rowIs B 46 (bs.length * 3) f ∧ ∀ i, i < bs.length → ∃ b1 b2, f (i * 3 + 1) = .slice (some ⟨b1, 0, none⟩) (nthB bs i).has.length (nthB bs i).has.length ∧
    f (i * 3 + 2) = .slice (some ⟨b2, 0, none⟩) (nthB bs i).needs.length (nthB bs i).needs.length ∧ B ≠ b1 ∧ B ≠ b2 ∧ (lo ≤ b1 ∧ b1 < hi) ∧ (lo ≤ b2 ∧ b2 < hi) ∧ RowN w b1 (nthB bs i).has.length ∧ RowN w b2 (nthB bs i).needs.length
theorem BShape.ext {w w' : World} {lo hi B : Nat} {bs : List Batch} (h : BShape w lo hi B bs) (e : Ext w w') : BShape w' lo hi B bs := by
  obtain ⟨h1, h2, f, hr, hi'⟩ := h
  refine ⟨h1, h2, f, hr.of_block (e.block B hr.lt), fun i hik => ?_⟩
  obtain ⟨b1, b2, g1, g2, g3, g4, g5, g6, g7, g8⟩ := hi' i hik
  exact ⟨b1, b2, g1, g2, g3, g4, g5, g6, g7.ext e, g8.ext e⟩
theorem BShape.gb {w w' : World} {lo hi B c m : Nat} {bs : List Batch} (h : BShape w lo hi B bs) (g : w.grownBy w' (some c)) (hc : B ≠ c) (k1 : RowN w c m) (k2 : RowN w' c m) : BShape w' lo hi B bs := by
  obtain ⟨h1, h2, f, hr, hi'⟩ := h
  refine ⟨h1, h2, f, hr.of_block (g.block B hr.lt (fun e => hc (by cases e; rfl))), fun i hik => ?_⟩
  obtain ⟨b1, b2, g1, g2, g3, g4, g5, g6, g7, g8⟩ := hi' i hik
  exact ⟨b1, b2, g1, g2, g3, g4, g5, g6, g7.gb g k1 k2, g8.gb g k1 k2⟩
theorem BShape.name {w : World} {lo hi B : Nat} {bs : List Batch} (h : BShape w lo hi B bs) (i : Nat) (v : Value) : BShape (w.setCell ⟨B, i * 3, none⟩ v) lo hi B bs := by
  obtain ⟨h1, h2, f, hr, hi'⟩ := h
  refine ⟨h1, h2, _, hr.set (i * 3) v, fun j hj => ?_⟩
  obtain ⟨b1, b2, g1, g2, g3, g4, g5, g6, ⟨f1, g7⟩, ⟨f2, g8⟩⟩ := hi' j hj
  have n1 : j * 3 + 1 ≠ i * 3 := by omega
  have n2 : j * 3 + 2 ≠ i * 3 := by omega
  exact ⟨b1, b2, by simp only [n1, if_false]; exact g1, by simp only [n2, if_false]; exact g2, g3, g4, g5, g6, ⟨f1, g7.setOther (Ne.symm g3) v⟩, ⟨f2, g8.setOther (Ne.symm g4) v⟩⟩
theorem BShape.has {w : World} {lo hi B : Nat} {bs : List Batch} (h : BShape w lo hi B bs) {i : Nat} (hi' : i < bs.length) :
    ∃ b1, w.cell? ⟨B, i * 3 + 1, none⟩ = some (.slice (some ⟨b1, 0, none⟩) (nthB bs i).has.length (nthB bs i).has.length) ∧ B ≠ b1 ∧ lo ≤ b1 ∧ b1 < hi ∧ RowN w b1 (nthB bs i).has.length := by
  obtain ⟨_, _, f, hr, hall⟩ := h
  obtain ⟨b1, b2, g1, g2, g3, g4, g5, g6, g7, g8⟩ := hall i hi'
  exact ⟨b1, by rw [← g1]; exact hr.cell (by omega), g3, g5.1, g5.2, g7⟩
theorem BShape.needs {w : World} {lo hi B : Nat} {bs : List Batch} (h : BShape w lo hi B bs) {i : Nat} (hi' : i < bs.length) :
    ∃ b2, w.cell? ⟨B, i * 3 + 2, none⟩ = some (.slice (some ⟨b2, 0, none⟩) (nthB bs i).needs.length (nthB bs i).needs.length) ∧ B ≠ b2 ∧ lo ≤ b2 ∧ b2 < hi ∧ RowN w b2 (nthB bs i).needs.length := by
  obtain ⟨_, _, f, hr, hall⟩ := h
  obtain ⟨b1, b2, g1, g2, g3, g4, g5, g6, g7, g8⟩ := hall i hi'
  exact ⟨b2, by rw [← g2]; exact hr.cell (by omega), g4, g6.1, g6.2, g8⟩
theorem HalfB.shape {w w' : World} {B lo : Nat} {bs : List Batch} (h : HalfB w B bs.length bs.length bs) (hlo : lo ≤ B) (e : Ext w w') : BShape w' lo w.heap.size B bs := by
  obtain ⟨f, hr, hi⟩ := h
  refine BShape.ext ⟨hlo, hr.lt, f, hr, fun i hik => ?_⟩ e
  obtain ⟨_, _, b1, b2, g2, g3, g4, g5, g6, g7⟩ := hi i hik
  exact ⟨b1, b2, g2, g3, by omega, by omega, ⟨by omega, g6.2.2.lt⟩, ⟨by omega, g7.2.2.lt⟩, ⟨_, g6.2.2⟩, ⟨_, g7.2.2⟩⟩

theorem markStringS_n (B n cap k : Nat) (w : World) (h : RowN w B n) (hk : 1 ≤ k) (hb : k + n ≤ 1000000000) :
    Calls Tryz.prog 15 #[.slice (some ⟨B, 0, none⟩) n cap, .int .i64 (k : Int)] w fun e w' =>
      e = .returned (.int .i64 ((k + n : Nat) : Int)) ∧ w.grownBy w' (some B) ∧ RowN w' B n := by
  obtain ⟨f, hf⟩ := h
  refine (markStringS_row B n f n cap k w hf (Nat.le_refl _) hk hb).mono ?_
  rintro e w' ⟨rfl, hg, hr⟩
  exact ⟨rfl, hg, _, hr⟩

set_option maxHeartbeats 1000000 in
theorem markShareBatchS_n (lo hi B cap k : Nat) (bs : List Batch) (w : World) (h : BShape w lo hi B bs) (hk : 1 ≤ k) (hb : k + bs.length + cntTo bs bs.length ≤ 1000000000) :
    Calls Tryz.prog 32 #[.slice (some ⟨B, 0, none⟩) bs.length cap, .int .i64 (k : Int)] w fun e w' =>
      e = .returned (.int .i64 ((k + bs.length + cntTo bs bs.length : Nat) : Int)) ∧ Mid lo hi w w' := by
  have hmono : ∀ n m, n ≤ m → cntTo bs n ≤ cntTo bs m := by
    intro n m hnm
    induction hnm with
    | refl => exact Nat.le_refl _
    | step _ ih => exact Nat.le_trans ih (Nat.le_add_right _ _)
  have HMO := hid hmono
  clear hmono
  go_enter Tryz.func32, Tryz.ntmps32
  go_wp2_with fail
  go_loopw [1, 5] (fun ki i wr => ∃ m : Nat, m ≤ bs.length ∧ i = .int .i64 m ∧ ki = .int .i64 ((k + m + cntTo bs m : Nat) : Int) ∧ Mid lo hi w wr ∧ BShape wr lo hi B bs) (fun _ i _ => bs.length - (intOf i).toNat)
  case atStart => exact ⟨0, Nat.zero_le _, rfl, by simp [cntTo], Mid.rfl' _ _ _, h⟩
  case round =>
    obtain ⟨m, hm, rfl, rfl, hmid, hsh⟩ := hrel
    have HM := hid hmid
    have HS := hid hsh
    clear hmid hsh
    by_cases hlt : m < bs.length
    · have hle := HMO.out (m + 1) bs.length hlt
      have hst : cntTo bs (m + 1) = cntTo bs m + ((nthB bs m).has.length + (nthB bs m).needs.length) := rfl
      have HST := hid hst
      rw [hst] at hle
      clear hst
      generalize cntTo bs m = cm at *
      have h1k : 1 ≤ k + m + cm := by omega
      have hsum : (k + m + cm) + 1 + (nthB bs m).has.length + (nthB bs m).needs.length ≤ 1000000000 := by omega
      have HK : Hid (k + (m + 1) + cntTo bs (m + 1) = (k + m + cm) + 1 + (nthB bs m).has.length + (nthB bs m).needs.length) := by
        show _ = _
        rw [HST.out]; omega
      generalize k + m + cm = kk at *
      go_wp2_with fail
      refine (markText_any kk _ (by omega) (by omega)).mono ?_
      rintro e w1 ⟨rfl, hext⟩
      have HM1 := hid (HM.out.tr (Mid.of_ext hext))
      have HS1 := hid (HS.out.ext hext)
      obtain ⟨hlo, hhi, f, hrow, hall⟩ := HS1.out
      have c0 := hrow.cell (i := m * 3) (by omega)
      have f0 := hrow.frozen (m * 3)
      have HM2 : Hid (Mid lo hi w (w1.setCell ⟨B, m * 3, none⟩ (.string (S (markT kk))))) := HM1.out.tr (Mid.of_gb (gb_set _ _ _ _) hlo hhi)
      have HS2 : Hid (BShape (w1.setCell ⟨B, m * 3, none⟩ (.string (S (markT kk)))) lo hi B bs) := HS1.out.name m _
      obtain ⟨b1, c1, n1, l1, h1, r1⟩ := HS2.out.has hlt
      have HR1 := hid r1
      clear hext hrow hall r1
      go_upto_region 6 with fail
      generalize w1.setCell ⟨B, m * 3, none⟩ (.string (S (markT kk))) = w2 at *
      go_wp2_with fail
      refine (markStringS_n b1 _ _ (kk + 1) _ HR1.out (by omega) (by omega)).mono ?_
      rintro e w3 ⟨rfl, hg3, hr3⟩
      have HM3 := hid (HM2.out.tr (Mid.of_gb hg3 l1 h1))
      have HS3 := hid (HS2.out.gb hg3 n1 HR1.out hr3)
      obtain ⟨b2, c2, n2, l2, h2, r2⟩ := HS3.out.needs hlt
      have HR2 := hid r2
      clear hg3 hr3 r2 c0 f0 c1
      go_wp2_with fail
      refine (markStringS_n b2 _ _ (kk + 1 + (nthB bs m).has.length) _ HR2.out (by omega) (by omega)).mono ?_
      rintro e w4 ⟨rfl, hg4, hr4⟩
      have HM4 := hid (HM3.out.tr (Mid.of_gb hg4 l2 h2))
      have HS4 := hid (HS3.out.gb hg4 n2 HR2.out hr4)
      clear hg4 hr4 c2
      go_wp2_with fail
      go_roundw
      case rel => exact ⟨m + 1, by omega, by go_num, by rw [HK.out]; go_num, HM4.out, HS4.out⟩
      case measure => simp [intOf]; omega
    · have e : m = bs.length := by omega
      rw [e]
      go_wp2_with fail
      go_ret
      exact ⟨rfl, HM.out⟩

set_option maxHeartbeats 1000000 in
theorem markShareBook_n (lo : Nat) (b : Book) (b1 b2 : Nat) (c1 c2 k : Nat) (w0 w : World) (h : OwnBook w0 b1 b2 b) (hlo : lo ≤ b1) (he : Ext w0 w) (hk : 1 ≤ k) (hb : k + nMarks b ≤ 1000000000) :
    Calls Tryz.prog 14 #[.agg #[.slice (some ⟨b1, 0, none⟩) b.things.length c1, .slice (some ⟨b2, 0, none⟩) b.batches.length c2], .int .i64 (k : Int)] w fun e w' =>
      e = .returned (.int .i64 ((k + nMarks b : Nat) : Int)) ∧ Mid lo w0.heap.size w w' := by
  obtain ⟨h12, ho, _, hh⟩ := h
  have HK : Hid (nMarks b = b.things.length + (b.batches.length + cntTo b.batches b.batches.length)) := rfl
  rw [HK.out] at hb
  have hlt1 := ho.2.2.lt
  have HR : Hid (RowN (w.alloc (.cells #[.slice (some ⟨b1, 0, none⟩) b.things.length c1, .slice (some ⟨b2, 0, none⟩) b.batches.length c2] 30)) b1 b.things.length) := RowN.ext (RowN.ext ⟨_, ho.2.2⟩ he) (ext_alloc _ _)
  have HS : Hid (BShape (w.alloc (.cells #[.slice (some ⟨b1, 0, none⟩) b.things.length c1, .slice (some ⟨b2, 0, none⟩) b.batches.length c2] 30)) lo w0.heap.size b2 b.batches) := (hh.shape (lo := lo) (by omega) he).ext (ext_alloc _ _)
  have hsz := he.size
  go_enter Tryz.func14, Tryz.ntmps14
  go_wp2_with fail
  refine (markStringS_n b1 _ _ k _ HR.out hk (by omega)).mono ?_
  rintro e w1 ⟨rfl, hg, hr⟩
  have HM1 : Hid (Mid lo w0.heap.size w w1) := (Mid.of_ext (ext_alloc _ _)).tr (Mid.of_gb hg hlo hlt1)
  have HS1 := hid (HS.out.gb hg (by omega) HR.out hr)
  have x0 : w1.cell? ⟨w.heap.size, 0, none⟩ = some (.slice (some ⟨b1, 0, none⟩) b.things.length c1) := by
    have e := hg.block w.heap.size (by simp) (fun e => by cases e; omega)
    rw [World.cell?_of_block (w := w.alloc (.cells #[.slice (some ⟨b1, 0, none⟩) b.things.length c1, .slice (some ⟨b2, 0, none⟩) b.batches.length c2] 30)) (a := ⟨w.heap.size, 0, none⟩) e]; simp
  have x1 : w1.cell? ⟨w.heap.size, 1, none⟩ = some (.slice (some ⟨b2, 0, none⟩) b.batches.length c2) := by
    have e := hg.block w.heap.size (by simp) (fun e => by cases e; omega)
    rw [World.cell?_of_block (w := w.alloc (.cells #[.slice (some ⟨b1, 0, none⟩) b.things.length c1, .slice (some ⟨b2, 0, none⟩) b.batches.length c2] 30)) (a := ⟨w.heap.size, 1, none⟩) e]; simp
  clear hg hr
  go_wp2_with fail
  refine (markShareBatchS_n lo w0.heap.size b2 _ (k + b.things.length) b.batches _ HS1.out (by omega) (by omega)).mono ?_
  rintro e w2 ⟨rfl, hm2⟩
  have HM2 := hid (HM1.out.tr hm2)
  clear hm2
  go_wp2_with fail
  go_ret
  refine ⟨?_, HM2.out⟩
  rw [HK.out]
  show Ending.returned (.int .i64 ((k : Int) + b.things.length + b.batches.length + (cntTo b.batches b.batches.length : Nat))) = _
  have e : ((k : Int) + b.things.length + b.batches.length + (cntTo b.batches b.batches.length : Nat)) = ((k + (b.things.length + (b.batches.length + cntTo b.batches b.batches.length)) : Nat) : Int) := by omega
  rw [e]
end Go.Proofs.YtdafpnpfcmgfcabGreatDoor
namespace Go.Proofs.YtdafpnpfcmgfcabGreatDoor
open Go.RowKit
attribute [local go_sem] S_toList S_size S_get

def marksOf (k n : Nat) : List Str := (List.range n).map fun i => markT (k + i)
theorem marksOf_length (k n : Nat) : (marksOf k n).length = n := by simp [marksOf]
theorem nth_marksOf {k n i : Nat} (h : i < n) : nth (marksOf k n) i = markT (k + i) := by
  rw [nth_get (by rw [marksOf_length]; exact h)]; simp [marksOf]
theorem decF_length : ∀ (f m : Nat) (acc : Str), (decF f m acc).length ≤ m + acc.length
  | 0, m, acc => by simp [decF]
  | f + 1, m, acc => by
    by_cases e : m = 0
    · simp [decF, e]
    · simp only [decF, e, if_false]
      have h := decF_length f (m / 10) (digit m :: acc)
      simp only [List.length_cons] at h
      omega
theorem markT_length (k : Nat) : (markT k).length ≤ k + 1 := by
  unfold markT
  have h := decF_length k k []
  simp only [List.length_cons, List.length_nil] at *
  omega
theorem OwnL.shape {w : World} {base : Nat} {v : Value} {ss : List Str} (h : OwnL w base v ss) : (v = .slice none 0 0 ∧ ss.length = 0) ∨ ∃ g cap, v = .slice (some ⟨g, 0, none⟩) ss.length cap ∧ base ≤ g ∧ ss.length ≤ cap ∧ cap ≤ maxLen ∧ RowN w g cap := by
  rcases h.2 with h2 | ⟨g, cap, cur, hv, hg, hc, h1, h2, h3, h4⟩
  · exact Or.inl h2
  · refine Or.inr ⟨g, cap, hv, hg, h1, h2, fun j => (cur[j]?).getD undef, cur, hc, by omega, fun i hi => ?_⟩
    have hi' : i < cur.size := by omega
    simp [hi']

theorem markOwn (base : Nat) (v : Value) (ss : List Str) (k : Nat) (w : World) (h : OwnL w base v ss) (hk : 1 ≤ k) (hb : k + ss.length ≤ 1000000000) :
    Calls Tryz.prog 15 #[v, .int .i64 (k : Int)] w fun e w' =>
      e = .returned (.int .i64 ((k + ss.length : Nat) : Int)) ∧ w.grownBy w' v.ownBlock ∧ OwnL w' base v (marksOf k ss.length) := by
  rcases h.shape with ⟨rfl, h0⟩ | ⟨g, cap, rfl, hg, hle, hmax, f, hrow⟩
  · refine (markStringS_nil none 0 k w).mono ?_
    rintro e w' ⟨rfl, rfl⟩
    rw [h0]
    exact ⟨rfl, gb_rfl _ _, World.ownsRow_nil _ _ _ _⟩
  · refine (markStringS_row g cap f ss.length cap k w hrow hle hk hb).mono ?_
    rintro e w' ⟨rfl, hgb, c, hc, hs, hrow'⟩
    refine ⟨rfl, hgb, ?_, Or.inr ⟨g, cap, c, by rw [marksOf_length], hg, hc, by rw [marksOf_length]; exact hle, hmax, by omega, ?_⟩⟩
    · simp
    · apply List.ext_getElem?
      intro i
      rw [List.getElem?_take, List.getElem?_map, marksOf_length, Nat.mul_one]
      by_cases hi : i < ss.length
      · have e := hrow' i (by omega)
        have hl : (marksOf k ss.length)[i]? = some (markT (k + i)) := by
          rw [List.getElem?_eq_getElem (by rw [marksOf_length]; exact hi), ← nth_get (by rw [marksOf_length]; exact hi), nth_marksOf hi]
        rw [if_pos hi, hl, Array.getElem?_toList, e]
        simp [marked, hi]
      · have hl : (marksOf k ss.length)[i]? = none := by
          rw [List.getElem?_eq_none_iff, marksOf_length]; omega
        rw [if_neg hi, hl]; rfl
theorem heldOwn (base : Nat) (v : Value) (n k : Nat) (w : World) (h : OwnL w base v (marksOf k n)) (hk : 1 ≤ k) (hb : k + n ≤ 1000000000) :
    Calls Tryz.prog 34 #[v, .int .i64 (k : Int)] w fun e w' => e = .returned (.int .i64 ((k + n : Nat) : Int)) ∧ Ext w w' := by
  obtain ⟨a, cap, rfl, hat⟩ := h.at (by rw [marksOf_length]; omega) (fun i hi => by
    rw [marksOf_length] at hi
    rw [nth_marksOf hi]
    have := markT_length (k + i)
    omega)
  have hh := heldStringS_any a cap k (marksOf k n) w hat (fun i hi => nth_marksOf (by rw [marksOf_length] at hi; exact hi)) hk (by rw [marksOf_length]; exact hb)
  refine hh.mono ?_
  rintro e w' ⟨rfl, hx⟩
  rw [marksOf_length]
  exact ⟨rfl, hx⟩
end Go.Proofs.YtdafpnpfcmgfcabGreatDoor
