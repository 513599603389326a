/- Walks over the laws' marks. Walks over the laws' sizes, told how many names there are. Walks over the laws' marks of lists. -/
import Derived.Test.YtdafpnpfcmgfcabW8
import Derived.Deep.RegionHeld3
import Derived.Test.YtdafpnpfcmgfcabJG
import Derived.Test.YtdafpnpfcmgfcabGrow
namespace Go.Proofs.Ytdafpnpfcmgfcab
open Go.RowKit
attribute [local go_sem] S_toList S_size S_get

theorem S_cons (c : UInt8) (l : Str) : ({ data := #[c] } : ByteArray) ++ S l = S (c :: l) := by
  apply ByteArray.ext
  simp [S]

def digit (m : Nat) : UInt8 := UInt8.ofNat (48 + m % 10)
/-- The decimal digits of a number, ahead of what is there. -/
def decF : Nat → Nat → Str → Str
  | 0, _, acc => acc
  | f + 1, m, acc => if m = 0 then acc else decF f (m / 10) (digit m :: acc)
theorem decF_more : ∀ (f g m : Nat) (acc : Str), m ≤ f → m ≤ g → decF f m acc = decF g m acc
  | 0, 0, _, _, _, _ => rfl
  | 0, g + 1, m, acc, h, _ => by
    have : m = 0 := by omega
    subst this; simp [decF]
  | f + 1, 0, m, acc, _, h => by
    have : m = 0 := by omega
    subst this; simp [decF]
  | f + 1, g + 1, m, acc, h1, h2 => by
    by_cases e : m = 0
    · simp [decF, e]
    · simp only [decF, e, if_false]
      exact decF_more f g _ _ (by omega) (by omega)
def markT (k : Nat) : Str := 109 :: decF k k []
theorem decF_step {m : Nat} (h : 0 < m) (acc : Str) : decF m m acc = decF (m / 10) (m / 10) (digit m :: acc) := by
  obtain ⟨f, rfl⟩ : ∃ f, m = f + 1 := ⟨m - 1, by omega⟩
  have e : ¬ f + 1 = 0 := by omega
  rw [decF, if_neg e]
  exact decF_more _ _ _ _ (by omega) (by omega)

theorem conv_digit (m : Nat) (wr : World) : (convert 80 9 (.slice (some ⟨wr.heap.size, 0, none⟩) 1 1)).run Qry.prog (wr.alloc (.cells #[.int .u8 (48 + (m : Int) % 10)] 5)) = .ok (.string (S [digit m])) (wr.alloc (.cells #[.int .u8 (48 + (m : Int) % 10)] 5)) := by
  have h := run_convert_bytes_arg (P := Qry.prog) (w := wr.alloc (.cells #[.int .u8 (48 + (m : Int) % 10)] 5)) 80 5 (uQ Try.underlying80) (uQ Try.underlying5) wr.heap.size 0 1 1 [48 + (m : Int) % 10] rfl (fun i hi => by
    have e : i = 0 := by omega
    subst e
    simp) 9 (uQ Try.underlying9)
  have e : strOfNums [48 + (m : Int) % 10] = S [digit m] := by
    apply ByteArray.ext
    apply Array.ext'
    rw [strOfNums_data, S_data]
    have e2 : (48 + (m : Int) % 10).toNat = 48 + m % 10 := by omega
    simp [digit, e2]
  rw [e] at h
  exact h
theorem S_app (x : UInt8) (l : Str) : S [x] ++ S l = S (x :: l) := by
  apply ByteArray.ext
  simp [S]

set_option maxHeartbeats 400000 in
set_option maxRecDepth 100000 in
theorem markText_any (k : Nat) (w : World) (hk : 1 ≤ k) (hb : k ≤ 1000000000) :
    Calls Qry.prog 28 #[.int .i64 (k : Int)] w fun e w' => e = .returned (.string (S (markT k))) ∧ Ext w w' := by
  have hcv := conv_digit
  have hdk : decide (k = 0) = false := by simp; omega
  go_enter Qry.func28, Try.ntmps28
  go_wp2
  go_loopw [0, 3] (fun ki o wr => ∃ (m : Nat) (acc : Str), acc.length + m ≤ 1000000000 ∧ ki = .int .i64 (m : Int) ∧ o = .string (S acc) ∧ decF m m acc = decF k k [] ∧ Ext w wr) (fun ki _ _ => (intOf ki).toNat)
  case atStart => exact ⟨k, [], by simp; omega, rfl, rfl, rfl, Ext.rfl' _⟩
  case round =>
    obtain ⟨m, acc, hm, rfl, rfl, hdec, hext⟩ := hrel
    have HE := hid hext
    have HD := hid hdec
    clear hext hdec
    by_cases hpos : 0 < m
    · have HD2 := hid ((decF_step hpos acc).symm.trans HD.out)
      go_wp2
      go_roundw
      case rel => exact ⟨m / 10, digit m :: acc, by simp; omega, by go_num, by rw [S_app], HD2.out, Ext.tr HE.out ((Below.refl _ _).alloc (Nat.le_refl _) _)⟩
      case measure => simp [intOf]; omega
    · have HF : Hid (acc = decF k k []) := by
        have e : m = 0 := by omega
        rw [← HD.out, e]; rfl
      go_wp2
      go_ret
      exact ⟨by rw [show markT k = 109 :: acc by rw [HF.out]; rfl, ← S_cons]; rfl, HE.out⟩
end Go.Proofs.Ytdafpnpfcmgfcab
namespace Go.Proofs.Ytdafpnpfcmgfcab
open Go.RowKit
attribute [local go_sem] S_toList S_size S_get

def cntB (x : Batch) : Nat := x.has.length + x.needs.length
def cntTo (bs : List Batch) : Nat → Nat
  | 0 => 0
  | k + 1 => cntTo bs k + cntB (nthB bs k)
/-- How many names there are in a book. -/
def nMarks (b : Book) : Nat := b.things.length + (b.batches.length + cntTo b.batches b.batches.length)

set_option maxHeartbeats 400000 in
theorem szStringS_n (a : Option Addr) (ca : Nat) (sa : List Str) (left : Int) (w : World) (ha : StrsAt w a sa) (h0 : 0 ≤ left) (h1 : left ≤ 1048576) :
    Calls Qry.prog 16 #[.slice a sa.length ca, .int .i64 left] w fun e w' => (∃ r : Int, e = .returned (.int .i64 r) ∧ -1 ≤ r ∧ r ≤ 1048576 ∧ (0 ≤ r → r + sa.length ≤ left)) ∧ w' = w := by
  have hn := ha.1
  by_cases hneg : left - sa.length < 0
  · go_enter Qry.func16, Try.ntmps16
    go_wp2
    go_ret
    exact ⟨⟨-1, rfl, by omega, by omega, by omega⟩, rfl⟩
  · go_enter Qry.func16, Try.ntmps16
    go_wp2
    go_loop [1, 5] (fun l i => ∃ (k : Nat) (x : Int), k ≤ sa.length ∧ i = .int .i64 k ∧ l = .int .i64 x ∧ 0 ≤ x ∧ x + sa.length ≤ left) (fun _ i => sa.length - (intOf i).toNat)
    case atStart => exact ⟨0, _, Nat.zero_le _, rfl, rfl, by omega, by omega⟩
    case round =>
      obtain ⟨k, x, hk, rfl, rfl, hx0, hx1⟩ := hrel
      by_cases hlt : k < sa.length
      · obtain ⟨hl, ba, oa, rfl, hc⟩ := ha.2 k hlt
        by_cases hq : x - (nth sa k).length < 0
        · go_wp2
          go_ret
          exact ⟨⟨-1, rfl, by omega, by omega, by omega⟩, rfl⟩
        · go_wp2
          go_round
          case rel => exact ⟨k + 1, _, by omega, by go_num, rfl, by omega, by omega⟩
          case measure => simp [intOf]; omega
      · go_wp2
        go_ret
        exact ⟨⟨_, rfl, by omega, by omega, by omega⟩, rfl⟩

set_option maxHeartbeats 400000 in
theorem szShareBatch_n (x : Batch) (a1 a2 : Option Addr) (c1 c2 : Nat) (left : Int) (w : World) (hl : x.name.length ≤ 140737488355328)
    (h1 : StrsAt w a1 x.has) (h2 : StrsAt w a2 x.needs) (g0 : 0 ≤ left) (g1 : left ≤ 1048576) :
    Calls Qry.prog 33 #[.agg #[.string (S x.name), .slice a1 x.has.length c1, .slice a2 x.needs.length c2], .int .i64 left] w fun e w' =>
      (∃ r : Int, e = .returned (.int .i64 r) ∧ -1 ≤ r ∧ r ≤ 1048576 ∧ (0 ≤ r → r + cntB x ≤ left)) ∧ Ext w w' := by
  have hal : ∀ o, Ext w (w.alloc o) := fun o => (Below.refl _ _).alloc (Nat.le_refl _) _
  have HC : Hid (cntB x = x.has.length + x.needs.length) := rfl
  by_cases hneg : left - x.name.length < 0
  · go_enter Qry.func33, Try.ntmps33
    go_wp2
    go_ret
    exact ⟨⟨-1, rfl, by omega, by omega, by omega⟩, hal _⟩
  · go_enter Qry.func33, Try.ntmps33
    go_wp2_with fail
    refine (szStringS_n _ _ _ _ _ (h1.ext (hal _)) (by omega) (by omega)).mono ?_
    rintro e w' ⟨⟨r, rfl, hr1, hr2, hr3⟩, rfl⟩
    by_cases hr : r < 0
    · go_wp2_with fail
      go_ret
      exact ⟨⟨-1, rfl, by omega, by omega, by omega⟩, hal _⟩
    · go_wp2_with fail
      refine (szStringS_n _ _ _ _ _ (h2.ext (hal _)) (by omega) (by omega)).mono ?_
      rintro e w' ⟨⟨r', rfl, hr1', hr2', hr3'⟩, rfl⟩
      by_cases hr' : r' < 0
      · go_wp2_with fail
        go_ret
        exact ⟨⟨-1, rfl, by omega, by omega, by omega⟩, hal _⟩
      · go_wp2_with fail
        go_ret
        exact ⟨⟨_, rfl, by omega, by omega, by rw [HC.out]; omega⟩, hal _⟩

set_option maxHeartbeats 400000 in
theorem szShareBatchS_n (a : Option Addr) (ca : Nat) (bs : List Batch) (left : Int) (w : World) (ha : BatchesAt w a bs) (h0 : 0 ≤ left) (h1 : left ≤ 1048576) :
    Calls Qry.prog 17 #[.slice a bs.length ca, .int .i64 left] w fun e w' => (∃ r : Int, e = .returned (.int .i64 r) ∧ -1 ≤ r ∧ r ≤ 1048576 ∧ (0 ≤ r → r + bs.length + cntTo bs bs.length ≤ left)) ∧ Ext w w' := by
  have hn := ha.1
  by_cases hneg : left - bs.length < 0
  · go_enter Qry.func17, Try.ntmps17
    go_wp2
    go_ret
    exact ⟨⟨-1, rfl, by omega, by omega, by omega⟩, Ext.rfl' _⟩
  · go_enter Qry.func17, Try.ntmps17
    go_wp2
    go_loopw [1, 5] (fun l i wr => ∃ (k : Nat) (x : Int), k ≤ bs.length ∧ i = .int .i64 k ∧ l = .int .i64 x ∧ 0 ≤ x ∧ x + bs.length + cntTo bs k ≤ left ∧ Ext w wr) (fun _ i _ => bs.length - (intOf i).toNat)
    case atStart => exact ⟨0, _, Nat.zero_le _, rfl, rfl, by omega, by simp only [cntTo]; omega, Ext.rfl' _⟩
    case round =>
      obtain ⟨k, x, hk, rfl, rfl, hx0, hx1, hext⟩ := hrel
      have ha' := ha.ext hext
      have HE : Hid (Ext w wr) := hext
      have HS : Hid (cntTo bs (k + 1) = cntTo bs k + cntB (nthB bs k)) := rfl
      clear hext
      by_cases hlt : k < bs.length
      · obtain ⟨ba, oa, rfl, hl, a1, c1, a2, c2, k0, k1, k2, s1, s2⟩ := ha'.2 k hlt
        go_wp2_with fail
        refine (szShareBatch_n (nthB bs k) _ _ _ _ _ _ hl s1 s2 (by omega) (by omega)).mono ?_
        rintro e w1 ⟨⟨r, rfl, hr1, hr2, hr3⟩, hext⟩
        have HE1 : Hid (Ext w w1) := Ext.tr HE.out hext
        clear hext
        by_cases hr : r < 0
        · go_wp2
          go_ret
          exact ⟨⟨-1, rfl, by omega, by omega, by omega⟩, HE1.out⟩
        · go_wp2
          go_roundw
          case rel => exact ⟨k + 1, r, by omega, by go_num, rfl, by omega, by rw [HS.out]; have := hr3 (by omega); omega, HE1.out⟩
          case measure => simp [intOf]; omega
      · have e : k = bs.length := by omega
        go_wp2
        go_ret
        exact ⟨⟨_, rfl, by omega, by omega, fun _ => by rw [← e]; rw [← e] at hx1; exact hx1⟩, HE.out⟩

set_option maxHeartbeats 400000 in
theorem szShareBook_n (b : Book) (a1 a2 : Option Addr) (c1 c2 : Nat) (left : Int) (w : World) (hb : BookAt w a1 a2 b) (g0 : 0 ≤ left) (g1 : left ≤ 1048576) :
    Calls Qry.prog 5 #[.agg #[.slice a1 b.things.length c1, .slice a2 b.batches.length c2], .int .i64 left] w fun e w' =>
      (∃ r : Int, e = .returned (.int .i64 r) ∧ -1 ≤ r ∧ r ≤ 1048576 ∧ (0 ≤ r → r + nMarks b ≤ left)) ∧ Ext w w' := by
  have hal : ∀ o, Ext w (w.alloc o) := fun o => (Below.refl _ _).alloc (Nat.le_refl _) _
  have HC : Hid (nMarks b = b.things.length + (b.batches.length + cntTo b.batches b.batches.length)) := rfl
  go_enter Qry.func5, Try.ntmps5
  go_wp2_with fail
  refine (szStringS_n _ _ _ _ _ (hb.1.ext (hal _)) (by omega) (by omega)).mono ?_
  rintro e w' ⟨⟨r, rfl, hr1, hr2, hr3⟩, rfl⟩
  by_cases hr : r < 0
  · go_wp2_with fail
    go_ret
    exact ⟨⟨-1, rfl, by omega, by omega, by omega⟩, hal _⟩
  · go_wp2_with fail
    refine (szShareBatchS_n _ _ _ _ _ (hb.2.ext (hal _)) (by omega) (by omega)).mono ?_
    rintro e w1 ⟨⟨r', rfl, hr1', hr2', hr3'⟩, hext⟩
    have HE : Hid (Ext w w1) := Ext.tr (hal _) hext
    clear hext
    by_cases hr' : r' < 0
    · go_wp2_with fail
      go_ret
      exact ⟨⟨-1, rfl, by omega, by omega, by omega⟩, HE.out⟩
    · go_wp2_with fail
      go_ret
      exact ⟨⟨_, rfl, by omega, by omega, by rw [HC.out]; have := hr3' (by omega); omega⟩, HE.out⟩
end Go.Proofs.Ytdafpnpfcmgfcab
namespace Go.Proofs.Ytdafpnpfcmgfcab
open Go.RowKit
attribute [local go_sem] S_toList S_size S_get

theorem gb_tr {a b c : World} {row : Option Nat} (h : a.grownBy b row) (k : b.grownBy c row) : a.grownBy c row :=
  ⟨k.os.trans h.os, k.tape.trans h.tape, k.output.trans h.output, Nat.le_trans h.size k.size, fun i hi hr => (k.block i (by have := h.size; omega) hr).trans (h.block i hi hr)⟩
theorem gb_ext {w w' : World} (e : Ext w w') (row : Option Nat) : w.grownBy w' row := ⟨e.os, e.tape, e.output, e.size, fun k hk _ => e.block k hk⟩
theorem gb_set (w : World) (B i : Nat) (v : Value) : w.grownBy (w.setCell ⟨B, i, none⟩ v) (some B) :=
  ⟨rfl, rfl, rfl, by simp [World.setCell], fun k _ hk => Below.heap_setCell _ _ _ k (fun e => hk (by rw [e]))⟩
theorem gb_rfl (w : World) (row : Option Nat) : w.grownBy w row := gb_ext (Ext.rfl' w) row

def marked (f : Nat → Value) (k m : Nat) : Nat → Value := fun j => if j < m then .string (S (markT (k + j))) else f j

set_option maxHeartbeats 400000 in
theorem markStringS_row (B n : Nat) (f : Nat → Value) (len cap k : Nat) (w : World) (h : w.rowIs B 9 n f) (hl : len ≤ n) (hk : 1 ≤ k) (hb : k + len ≤ 1000000000) :
    Calls Qry.prog 12 #[.slice (some ⟨B, 0, none⟩) len cap, .int .i64 (k : Int)] w fun e w' =>
      e = .returned (.int .i64 ((k + len : Nat) : Int)) ∧ w.grownBy w' (some B) ∧ w'.rowIs B 9 n (marked f k len) := by
  go_enter Qry.func12, Try.ntmps12
  go_wp2_with fail
  go_loopw [1, 5] (fun ki i wr => ∃ m : Nat, m ≤ len ∧ i = .int .i64 m ∧ ki = .int .i64 ((k + m : Nat) : Int) ∧ w.grownBy wr (some B) ∧ wr.rowIs B 9 n (marked f k m)) (fun _ i _ => len - (intOf i).toNat)
  case atStart => exact ⟨0, Nat.zero_le _, rfl, rfl, gb_rfl _ _, h.congr (fun j _ => by simp [marked])⟩
  case round =>
    obtain ⟨m, hm, rfl, rfl, hgb, hrow⟩ := hrel
    have HG := hid hgb
    have HR := hid hrow
    clear hgb hrow
    by_cases hlt : m < len
    · go_wp2_with fail
      refine (markText_any (k + m) _ (by omega) (by omega)).mono ?_
      rintro e w1 ⟨rfl, hext⟩
      have hr1 : w1.rowIs B 9 n (marked f k m) := HR.out.of_block (hext.block B HR.out.lt)
      have hc := hr1.cell (i := m) (by omega)
      have hf := hr1.frozen m
      have HR1 := hid hr1
      have HG1 := hid (gb_tr HG.out (gb_ext hext _))
      clear hr1 hext
      go_wp2_with fail
      go_roundw
      case rel => exact ⟨m + 1, by omega, by go_num, by go_num, gb_tr HG1.out (gb_set _ _ _ _), (HR1.out.set m _).congr (fun j hj => by
        by_cases e : j = m
        · simp [e, marked]
        · have : (j < m + 1) = (j < m) := by simp; omega
          simp [e, marked, this])⟩
      case measure => simp [intOf]; omega
    · have e : m = len := by omega
      subst e
      go_wp2_with fail
      go_ret
      exact ⟨rfl, HG.out, HR.out⟩

set_option maxHeartbeats 400000 in
theorem markStringS_nil (a : Option Addr) (cap k : Nat) (w : World) :
    Calls Qry.prog 12 #[.slice a 0 cap, .int .i64 (k : Int)] w fun e w' => e = .returned (.int .i64 (k : Int)) ∧ w' = w := by
  go_enter Qry.func12, Try.ntmps12
  go_wp2_with fail
  go_loop [1, 5] (fun ki i => ki = .int .i64 (k : Int) ∧ i = .int .i64 0) (fun _ _ => 0)
  case atStart => exact ⟨rfl, rfl⟩
  case round =>
    obtain ⟨rfl, rfl⟩ := hrel
    go_wp2_with fail
    go_ret
    exact ⟨rfl, rfl⟩

set_option maxHeartbeats 400000 in
theorem heldStringS_any (a : Option Addr) (cap k : Nat) (ss : List Str) (w : World) (h : StrsAt w a ss) (hm : ∀ i, i < ss.length → nth ss i = markT (k + i)) (hk : 1 ≤ k) (hb : k + ss.length ≤ 1000000000) :
    Calls Qry.prog 13 #[.slice a ss.length cap, .int .i64 (k : Int)] w fun e w' =>
      e = .returned (.int .i64 ((k + ss.length : Nat) : Int)) ∧ Ext w w' := by
  have hn := h.1
  have HM := hid hm
  clear hm
  go_enter Qry.func13, Try.ntmps13
  go_wp2_with fail
  go_loopw [1, 5] (fun ki i wr => ∃ m : Nat, m ≤ ss.length ∧ i = .int .i64 m ∧ ki = .int .i64 ((k + m : Nat) : Int) ∧ Ext w wr) (fun _ i _ => ss.length - (intOf i).toNat)
  case atStart => exact ⟨0, Nat.zero_le _, rfl, rfl, Ext.rfl' _⟩
  case round =>
    obtain ⟨m, hm, rfl, rfl, hext⟩ := hrel
    have h' := h.ext hext
    have HE := hid hext
    clear hext
    by_cases hlt : m < ss.length
    · obtain ⟨hl, bo, oo, rfl, hc⟩ := h'.2 m hlt
      rw [HM.out m hlt] at hc
      have HMT : Hid (∀ w, Calls Qry.prog 28 #[.int .i64 ((k + m : Nat) : Int)] w fun e w' => e = .returned (.string (S (markT (k + m)))) ∧ Ext w w') := fun w => markText_any (k + m) w (by omega) (by omega)
      have hne : Nonempty (Grow wr) := ⟨⟨wr, Ext.rfl' wr⟩⟩
      have gc := fun x : Grow wr => x.cell hc
      generalize markT (k + m) = t at hc gc HMT
      have hq : (t == t) = true := by simp
      go_wp2_with fail
      refine wp_region_grow (by kernel_rfl) (by kernel_rfl) ?_
      repeat (go_big_quiet_step ((go_at_call 28; exact grow_of (HMT.out _))))
      refine wpQuiet_nil ?_
      intro _ hw'
      obtain ⟨x3, hw''⟩ := hw'
      subst hw''
      go_wp2_with fail
      go_roundw
      case rel => exact ⟨m + 1, by omega, by go_num, by go_num, Ext.tr HE.out x3.e⟩
      case measure => simp [intOf]; omega
    · have e : m = ss.length := by omega
      rw [e]
      go_wp2_with fail
      go_ret
      exact ⟨rfl, HE.out⟩
end Go.Proofs.Ytdafpnpfcmgfcab
