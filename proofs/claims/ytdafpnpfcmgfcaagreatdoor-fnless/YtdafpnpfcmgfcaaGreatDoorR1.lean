/- The walk over the program's first: the first who can go. -/
import Derived.Test.YtdafpnpfcmgfcaaGreatDoorBA
import Derived.Test.YtdafpnpfcmgfcaaGreatDoorWC
namespace Go.Proofs.YtdafpnpfcmgfcaaGreatDoor
open Go.RowKit

theorem place_self {b : Book} (h : bookOk b = true) {p : Nat} (hp : p < b.batches.length) : place (namesOf b.batches) (b.at p).name = p := by
  have hm : (b.at p).name ∈ namesOf b.batches := by
    have e : nth (namesOf b.batches) p = (b.at p).name := nth_namesOf hp
    rw [← e, nth_get (by rw [namesOf_length]; exact hp)]
    exact List.getElem_mem _
  have hlt : place (namesOf b.batches) (b.at p).name < b.batches.length := by
    have := place_lt.2 hm
    rwa [namesOf_length] at this
  exact name_inj h hlt hp (name_at rfl hlt)

theorem canGo_p {w : World} {base g bg : Nat} {vh vn : Value} {b : Book} {gone : List Str} {p : Nat} (v : Bool) (hst : GoneAt w base g bg vh vn b gone) (hok : bookOk b = true) (hlt : p < b.batches.length)
    (hv : goodN b gone p = v) :
    Calls Tryz.prog 64 #[.pointer (some ⟨g, 0, none⟩), .int .i64 (p : Int)] w fun e w' => e = .returned (.bool v) ∧ ∃ n, w' = w.drewN n :=
  canGo_v v hst hok (place_self hok hlt) hlt hv

theorem GoneAt.goneCell {w : World} {base g bg : Nat} {vh vn : Value} {b : Book} {gone : List Str} (h : GoneAt w base g bg vh vn b gone) : w.cell? ⟨g, 2, none⟩ = some (.slice (some ⟨bg, 0, none⟩) b.batches.length b.batches.length) := by
  obtain ⟨gl, h1, h2, h3⟩ := h
  have c := h3.cells.cell (i := 2) (by omega)
  simp only [goingCells] at c
  rw [h1] at c
  exact c

set_option maxHeartbeats 1000000 in
theorem first_v {w : World} {base g bg : Nat} {vh vn : Value} {b : Book} {gone : List Str} (hst : GoneAt w base g bg vh vn b gone) (hok : bookOk b = true) :
    Calls Tryz.prog 112 #[.pointer (some ⟨g, 0, none⟩)] w fun e w' =>
      ((∃ p : Nat, e = .returned (.tuple #[.int .i64 p, .bool true]) ∧ nextOf b gone = some p) ∨ (e = .returned (.tuple #[.int .i64 0, .bool false]) ∧ nextOf b gone = none)) ∧ Ext w w' := by
  have hc := hst.goneCell
  have h5 := ok_five hok
  have HOK := hid hok
  go_enter Tryz.func112, Tryz.ntmps112
  go_wp2
  go_loopw [10] (fun i wr => ∃ k : Nat, k ≤ b.batches.length ∧ i = .int .i64 k ∧ Ext w wr ∧ ∀ j, j < k → goodN b gone j = false) (fun i _ => b.batches.length - (intOf i).toNat)
  case atStart => exact ⟨0, Nat.zero_le _, rfl, Ext.rfl' _, fun j hj => by omega⟩
  case round =>
    obtain ⟨k, hk, rfl, hext, hx⟩ := hrel
    have hst' := hst.ext hext
    have HX := hid hx
    have HE := hid hext
    clear hx hext
    by_cases hlt : k < b.batches.length
    · cases hv : goodN b gone k
      · have HV := hid hv
        go_wp2_with fail
        refine (canGo_p false hst' HOK.out hlt HV.out).mono ?_
        rintro e w1 ⟨rfl, n1, rfl⟩
        go_wp2_with fail
        go_roundw
        case rel => exact ⟨k + 1, by omega, by go_num, Ext.tr HE.out (ext_drewN _ _), fun j hj => by
          by_cases e : j = k
          · rw [e]; exact HV.out
          · exact HX.out j (by omega)⟩
        case measure => simp [intOf]; omega
      · have HF := hid (nextOf_some hlt hv HX.out)
        have HV := hid hv
        clear hv
        go_wp2_with fail
        refine (canGo_p true hst' HOK.out hlt HV.out).mono ?_
        rintro e w1 ⟨rfl, n1, rfl⟩
        go_wp2_with fail
        go_ret2
        exact ⟨Or.inl ⟨k, rfl, HF.out⟩, Ext.tr HE.out (ext_drewN _ _)⟩
    · have HF := hid (nextOf_none (fun j hj => HX.out j (by omega)))
      go_wp2_with fail
      go_ret2
      exact ⟨Or.inr ⟨rfl, HF.out⟩, HE.out⟩
end Go.Proofs.YtdafpnpfcmgfcaaGreatDoor
