/- Walks over the copies of lists of names. -/
import Derived.Test.YtdafpnpfcmgfcabJI
import Derived.Deep.OwnRows
namespace Go.Proofs.Ytdafpnpfcmgfcab
open Go.RowKit
attribute [local go_sem] S_toList S_size S_get

theorem Qry.infoStr : (Qry.prog.info? 9).map (fun i => (i.zero, i.size, i.bytes)) = some (some (.string (S [])), 1, 16) := by kernel_rfl

/-- A new row of names. -/
def OwnStrs (w : World) (b : Nat) (ss : List Str) : Prop :=
  ss.length ≤ 8796093022208 ∧ (∀ i, i < ss.length → (nth ss i).length ≤ 140737488355328) ∧ w.rowIs b 9 ss.length (fun j => .string (S (nth ss j)))

theorem OwnStrs.at {w : World} {b : Nat} {ss : List Str} (h : OwnStrs w b ss) : StrsAt w (some ⟨b, 0, none⟩) ss :=
  ⟨h.1, fun i hi => ⟨h.2.1 i hi, b, 0, rfl, by rw [Nat.zero_add]; exact h.2.2.cell hi⟩⟩
theorem OwnStrs.ext {w w' : World} {b : Nat} {ss : List Str} (h : OwnStrs w b ss) (e : Ext w w') : OwnStrs w' b ss :=
  ⟨h.1, h.2.1, h.2.2.of_block (e.block b h.2.2.lt)⟩
theorem OwnStrs.setOther {w : World} {b : Nat} {ss : List Str} (h : OwnStrs w b ss) {a : Addr} (ha : b ≠ a.block) (v : Value) : OwnStrs (w.setCell a v) b ss :=
  ⟨h.1, h.2.1, h.2.2.setOther ha v⟩

def halfS (ss : List Str) (k : Nat) : Nat → Value := fun j => if j < k then .string (S (nth ss j)) else .string (S [])

set_option maxHeartbeats 400000 in
theorem toStringS_any (a : Option Addr) (ca : Nat) (sa : List Str) (w : World) (ha : StrsAt w a sa) :
    Calls Qry.prog 20 #[.slice a sa.length ca] w fun e w' =>
      e = .returned (.slice (some ⟨w.heap.size, 0, none⟩) sa.length sa.length) ∧ Ext w w' ∧ OwnStrs w' w.heap.size sa := by
  have hn := ha.1
  have hmk := run_make_row' (P := Qry.prog) 22 9 (.string (S [])) 16 (uQ Try.underlying22) Qry.infoStr rfl .i64 .i64 sa.length (by omega) (by omega)
  go_enter Qry.func20, Try.ntmps20
  go_wp2
  clear hmk
  go_loopw [4] (fun i wr => ∃ k : Nat, k ≤ sa.length ∧ i = .int .i64 k ∧ Below w.heap.size w wr ∧ wr.rowIs w.heap.size 9 sa.length (halfS sa k)) (fun i _ => sa.length - (intOf i).toNat)
  case atStart => exact ⟨0, Nat.zero_le _, rfl, (Below.refl _ _).alloc (Nat.le_refl _) _, (World.rowIs_made w (.string (S [])) sa.length 9).congr (fun i _ => by simp [halfS])⟩
  case round =>
    obtain ⟨k, hk, rfl, hbel, hrow⟩ := hrel
    have HB : Hid (Below w.heap.size w wr) := hbel
    have ha' : StrsAt wr a sa := ha.ext hbel
    by_cases hlt : k < sa.length
    · obtain ⟨hl, ba, oa, rfl, hc⟩ := ha'.2 k hlt
      have hcell := hrow.cell hlt
      have hfr := hrow.frozen k
      have HR : Hid (wr.rowIs w.heap.size 9 sa.length (halfS sa k)) := hrow
      clear hrow hbel
      go_wp2
      go_roundw
      case rel => exact ⟨k + 1, by omega, by go_num, HB.out.setCell (Nat.le_refl _) _, (HR.out.set k _).congr (fun j hj => by
        by_cases e : j = k
        · simp [e, halfS]
        · have : (j < k + 1) = (j < k) := by simp; omega
          simp [e, halfS, this])⟩
      case measure => simp [intOf]; omega
    · have HR : Hid (wr.rowIs w.heap.size 9 sa.length (halfS sa k)) := hrow
      clear hrow hbel
      go_wp2
      go_ret
      exact ⟨rfl, HB.out, ⟨hn, fun i hi => (ha.2 i hi).1, HR.out.congr (fun j hj => by simp [halfS]; omega)⟩⟩
end Go.Proofs.Ytdafpnpfcmgfcab
