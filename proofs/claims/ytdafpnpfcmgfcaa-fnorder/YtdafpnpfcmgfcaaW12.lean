/- Walks over the specification's l2Next and ShareOrder. -/
import Derived.Test.YtdafpnpfcmgfcaaW11
import Derived.Test.YtdafpnpfcmgfcaaV3
namespace Go.Proofs.Ytdafpnpfcmgfcaa
open Go.RowKit
attribute [local go_sem] S_toList S_size S_get

/-- Who is not gone and can go. -/
def goodN (b : Book) (gone : List Str) (i : Nat) : Bool := !hasB gone (b.at i).name && canB b i gone
def nextOf (b : Book) (gone : List Str) : Option Nat := (List.range b.batches.length).find? (goodN b gone)
theorem nextOf_some {b : Book} {gone : List Str} {k : Nat} (hk : k < b.batches.length) (h1 : goodN b gone k = true) (h2 : ∀ j, j < k → goodN b gone j = false) : nextOf b gone = some k := by
  unfold nextOf
  rw [List.find?_eq_some_iff_getElem]
  refine ⟨h1, k, by simpa using hk, by simp, fun j hj => ?_⟩
  simp [h2 j hj]
theorem nextOf_none {b : Book} {gone : List Str} (h : ∀ j, j < b.batches.length → goodN b gone j = false) : nextOf b gone = none := by
  unfold nextOf
  rw [List.find?_eq_none]
  intro j hj
  simp at hj
  simp [h j hj]
theorem nextOf_lt {b : Book} {gone : List Str} {k : Nat} (h : nextOf b gone = some k) : k < b.batches.length := by
  unfold nextOf at h
  have := List.mem_of_find?_eq_some h
  simpa using this

set_option maxHeartbeats 1000000 in
theorem l2Next_any (b : Book) (gone : List Str) (a1 a2 a3 : Option Addr) (c1 c2 c3 : Nat) (w : World) (hb : BookAt w a1 a2 b) (hg : StrsAt w a3 gone) :
    Calls Try.prog 36 #[.agg #[.slice a1 b.things.length c1, .slice a2 b.batches.length c2], .slice a3 gone.length c3] w fun e w' =>
      ((∃ k : Nat, e = .returned (.int .i64 k) ∧ nextOf b gone = some k) ∨ (e = .returned (.int .i64 (-1)) ∧ nextOf b gone = none)) ∧ Ext w w' := by
  have hal : ∀ o, Ext w (w.alloc o) := fun o => (Below.refl _ _).alloc (Nat.le_refl _) _
  have hn := hb.2.1
  go_enter Try.func36, Try.ntmps36
  go_wp2_with fail
  go_loopw [5] (fun i wr => ∃ k : Nat, k ≤ b.batches.length ∧ i = .int .i64 k ∧ Ext (w.alloc (.cells #[.slice a1 b.things.length c1, .slice a2 b.batches.length c2] 26)) wr ∧ ∀ j, j < k → goodN b gone j = false) (fun i _ => b.batches.length - (intOf i).toNat)
  case atStart => exact ⟨0, Nat.zero_le _, rfl, Ext.rfl' _, fun j hj => by omega⟩
  case round =>
    obtain ⟨k, hk, rfl, hext, hx⟩ := hrel
    have hx0 := box_cell hext (i := 0) rfl
    have hx1 := box_cell hext (i := 1) rfl
    have hb' := hb.ext (Ext.tr (hal _) hext)
    have hg' := hg.ext (Ext.tr (hal _) hext)
    have HX := hid hx
    have HE := hid hext
    clear hx hext
    by_cases hlt : k < b.batches.length
    · obtain ⟨ba, oa, rfl, hl, d1, g1, d2, g2, p0, p1, p2, s1, s2⟩ := hb'.2.2 k hlt
      cases hh : hasB gone (nthB b.batches k).name
      · cases hcan : canB b k gone
        · have HQ : Hid (goodN b gone k = false) := by show _ = false; unfold goodN; rw [hcan]; simp
          go_wp2_with (go_at_call 54; refine (l1Has_v _ _ _ _ _ _ hg' hh).mono ?_; rintro e w' ⟨rfl, rfl⟩)
          refine (l2Can_n b k gone false _ _ _ _ _ _ _ _ hb' hg' hlt rfl hcan).mono ?_
          rintro e w1 ⟨rfl, hext1⟩
          have HE1 := hid (Ext.tr HE.out hext1)
          clear hext1
          go_wp2
          go_roundw
          case rel => exact ⟨k + 1, by omega, by go_num, HE1.out, fun j hj => by
            by_cases e : j = k
            · rw [e]; exact HQ.out
            · exact HX.out j (by omega)⟩
          case measure => simp [intOf]; omega
        · have HF := hid (nextOf_some hlt (by unfold goodN Book.at; rw [hcan, hh]; rfl) HX.out)
          go_wp2_with (go_at_call 54; refine (l1Has_v _ _ _ _ _ _ hg' hh).mono ?_; rintro e w' ⟨rfl, rfl⟩)
          refine (l2Can_n b k gone true _ _ _ _ _ _ _ _ hb' hg' hlt rfl hcan).mono ?_
          rintro e w1 ⟨rfl, hext1⟩
          have HE1 := hid (Ext.tr HE.out hext1)
          clear hext1
          go_wp2
          go_ret
          exact ⟨Or.inl ⟨k, rfl, HF.out⟩, Ext.tr (hal _) HE1.out⟩
      · have HQ : Hid (goodN b gone k = false) := by show _ = false; unfold goodN Book.at; rw [hh]; rfl
        go_wp2_with (go_at_call 54; refine (l1Has_v _ _ _ _ _ _ hg' hh).mono ?_; rintro e w' ⟨rfl, rfl⟩)
        go_roundw
        case rel => exact ⟨k + 1, by omega, by go_num, HE.out, fun j hj => by
          by_cases e : j = k
          · rw [e]; exact HQ.out
          · exact HX.out j (by omega)⟩
        case measure => simp [intOf]; omega
    · have HF := hid (nextOf_none (fun j hj => HX.out j (by omega)))
      go_wp2
      go_ret
      exact ⟨Or.inr ⟨rfl, HF.out⟩, Ext.tr (hal _) HE.out⟩
end Go.Proofs.Ytdafpnpfcmgfcaa
