/- Walks over the specification's l1At and l2Can. A region that draws its order, whose operations only read and whose callees only make new memory: one walk serves every order. The walk over the specification's ShareFits. Walks over the specification's l2Next and ShareOrder. The walk over the specification's ShareOrder and ShareSafe. -/
import Derived.Test.YtdafpnpfcmgfcabGreatDoorWB
import Derived.Test.YtdafpnpfcmgfcabGreatDoorMA
import Derived.Test.YtdafpnpfcmgfcabGreatDoorMem
import Derived.Test.YtdafpnpfcmgfcabGreatDoorVA
namespace Go.Proofs.YtdafpnpfcmgfcabGreatDoor
open Go.RowKit
attribute [local go_sem] S_toList S_size S_get

theorem hasB_names {bs : List Batch} {x : Str} (h : ∀ j, j < bs.length → ((nthB bs j).name == x) = false) : hasB (namesOf bs) x = false :=
  hasB_no (fun j hj => by rw [namesOf_length] at hj; rw [nth_namesOf hj]; exact h j hj)
theorem firstAt_names {bs : List Batch} {x : Str} {k : Nat} (hk : k < bs.length) (h1 : ((nthB bs k).name == x) = true) (h2 : ∀ j, j < k → ((nthB bs j).name == x) = false) : firstAt (namesOf bs) x k :=
  ⟨by rw [namesOf_length]; exact hk, by rw [nth_namesOf hk]; exact h1, fun j hj => by rw [nth_namesOf (by omega)]; exact h2 j hj⟩

set_option maxHeartbeats 400000 in
theorem l1At_any (b : Book) (x : Str) (a1 a2 : Option Addr) (c1 c2 : Nat) (w : World) (hb : BookAt w a1 a2 b) :
    Calls Tryz.prog 24 #[.agg #[.slice a1 b.things.length c1, .slice a2 b.batches.length c2], .string (S x)] w fun e w' =>
      ((∃ k, e = .returned (.int .i64 (k : Nat)) ∧ firstAt (namesOf b.batches) x k) ∨ (e = .returned (.int .i64 (-1)) ∧ hasB (namesOf b.batches) x = false)) ∧ Ext w w' := by
  have hal : ∀ o, Ext w (w.alloc o) := fun o => (Below.refl _ _).alloc (Nat.le_refl _) _
  have hn := hb.2.1
  have hx0 := box_cell (Ext.rfl' (w.alloc (.cells #[.slice a1 b.things.length c1, .slice a2 b.batches.length c2] 30))) (i := 0) rfl
  have hx1 := box_cell (Ext.rfl' (w.alloc (.cells #[.slice a1 b.things.length c1, .slice a2 b.batches.length c2] 30))) (i := 1) rfl
  go_enter Tryz.func24, Tryz.ntmps24
  go_wp2
  go_loop [5] (fun i => ∃ k : Nat, k ≤ b.batches.length ∧ i = .int .i64 k ∧ ∀ j, j < k → ((nthB b.batches j).name == x) = false) (fun i => b.batches.length - (intOf i).toNat)
  case atStart => exact ⟨0, Nat.zero_le _, rfl, fun j hj => by omega⟩
  case round =>
    obtain ⟨k, hk, rfl, hx⟩ := hrel
    have HX := hid hx
    clear hx
    by_cases hlt : k < b.batches.length
    · obtain ⟨ba, oa, rfl, hl, d1, g1, d2, g2, p0, p1, p2, s1, s2⟩ := (hb.ext (hal (.cells #[.slice a1 b.things.length c1, .slice a2 b.batches.length c2] 30))).2.2 k hlt
      cases hq : ((nthB b.batches k).name == x)
      · have HQ := hid hq
        go_wp2
        go_round
        case rel => exact ⟨k + 1, by omega, by go_num, fun j hj => by
          by_cases e : j = k
          · rw [e]; exact HQ.out
          · exact HX.out j (by omega)⟩
        case measure => simp [intOf]; omega
      · have HF := hid (firstAt_names hlt hq HX.out)
        go_wp2
        go_ret
        exact ⟨Or.inl ⟨k, rfl, HF.out⟩, hal _⟩
    · have HF := hid (hasB_names (fun j hj => HX.out j (by omega)))
      go_wp2
      go_ret
      exact ⟨Or.inr ⟨rfl, HF.out⟩, hal _⟩

theorem l1Has_v (a : Option Addr) (cap : Nat) (ss : List Str) (x : Str) (v : Bool) (w : World) (hs : StrsAt w a ss) (hv : hasB ss x = v) :
    Calls Tryz.prog 36 #[.slice a ss.length cap, .string (S x)] w fun e w' => e = .returned (.bool v) ∧ w' = w := by
  rw [← hv]; exact l1Has_any a cap ss x w hs

set_option maxHeartbeats 1000000 in
theorem l2Can_any (b : Book) (at_ : Nat) (gone : List Str) (a1 a2 a3 : Option Addr) (c1 c2 c3 : Nat) (w : World) (hb : BookAt w a1 a2 b) (hg : StrsAt w a3 gone) (hat : at_ < b.batches.length) :
    Calls Tryz.prog 62 #[.agg #[.slice a1 b.things.length c1, .slice a2 b.batches.length c2], .int .i64 (at_ : Int), .slice a3 gone.length c3] w fun e w' =>
      e = .returned (.bool (canB b at_ gone)) ∧ Ext w w' := by
  have hal : ∀ o, Ext w (w.alloc o) := fun o => (Below.refl _ _).alloc (Nat.le_refl _) _
  have hn := hb.2.1
  go_enter Tryz.func62, Tryz.ntmps62
  go_wp2
  go_loopw [7] (fun i wr => ∃ k : Nat, k ≤ b.batches.length ∧ i = .int .i64 k ∧ (∃ n, wr = (w.alloc (.cells #[.slice a1 b.things.length c1, .slice a2 b.batches.length c2] 30)).drewN n) ∧ ∀ j, j < k → clash b at_ gone j = false) (fun i _ => b.batches.length - (intOf i).toNat)
  case atStart => exact ⟨0, Nat.zero_le _, rfl, ⟨0, rfl⟩, fun j hj => by omega⟩
  case round =>
    obtain ⟨k, hk, rfl, hm, hx⟩ := hrel
    have HX := hid hx
    have HM := hid hm
    have HE := hid (draws_ext hm)
    have hx0 := box_cell HE.out (i := 0) rfl
    have hx1 := box_cell HE.out (i := 1) rfl
    have hb' := hb.ext (Ext.tr (hal _) HE.out)
    have hg' := hg.ext (Ext.tr (hal _) HE.out)
    clear hx hm
    by_cases hlt : k < b.batches.length
    · obtain ⟨ba, oa, rfl, hl, d1, g1, d2, g2, p0, p1, p2, s1, s2⟩ := hb'.2.2 k hlt
      obtain ⟨ba', oa', e', _, f1, h1, f2, h2, r0, r1, r2, u1, u2⟩ := hb'.2.2 at_ hat
      injection e' with e'; injection e' with e1 e2; subst e1 e2
      by_cases hka : k = at_
      · have HQ : Hid (clash b at_ gone k = false) := by show _ = false; simp [clash, hka]
        have hd : ((k : Int) != (at_ : Int)) = false := by simp; omega
        clear hka
        go_wp2
        go_quiet (fail)
        go_wp2
        go_roundw
        case rel => exact ⟨k + 1, by omega, by go_num, drewN_tr HM.out ⟨_, rfl⟩, fun j hj => by
          by_cases e : j = k
          · rw [e]; exact HQ.out
          · exact HX.out j (by omega)⟩
        case measure => simp [intOf]; omega
      · have hd : ((k : Int) != (at_ : Int)) = true := by simp; omega
        have HK := hid hka
        clear hka
        cases hq : hasB gone (nthB b.batches k).name
        · cases hs : shareB (nthB b.batches k).has (nthB b.batches at_).needs
          · have HQ : Hid (clash b at_ gone k = false) := by show _ = false; unfold clash Book.at; rw [hs]; simp
            go_wp2
            go_quiet ((first | (go_at_call 36; exact Calls.quiet_of_same (l1Has_v _ _ _ _ _ _ (hg'.drewN _) hq)) | (go_at_call 41; exact Calls.quiet_of_same (l1Share_v _ _ _ _ _ _ _ _ (s1.drewN _) (u2.drewN _) hs))))
            go_wp2
            go_roundw
            case rel => exact ⟨k + 1, by omega, by go_num, drewN_tr HM.out ⟨_, rfl⟩, fun j hj => by
              by_cases e : j = k
              · rw [e]; exact HQ.out
              · exact HX.out j (by omega)⟩
            case measure => simp [intOf]; omega
          · have HF : Hid (canB b at_ gone = false) := canB_no hlt (by unfold clash Book.at; rw [hs, hq]; simp [HK.out])
            go_wp2
            go_quiet ((first | (go_at_call 36; exact Calls.quiet_of_same (l1Has_v _ _ _ _ _ _ (hg'.drewN _) hq)) | (go_at_call 41; exact Calls.quiet_of_same (l1Share_v _ _ _ _ _ _ _ _ (s1.drewN _) (u2.drewN _) hs))))
            go_wp2
            go_ret
            exact ⟨ret_bool HF.out.symm, Ext.tr (hal _) (Ext.tr HE.out (ext_drewN _ _))⟩
        · have HQ : Hid (clash b at_ gone k = false) := by show _ = false; unfold clash Book.at; rw [hq]; simp
          go_wp2
          go_quiet ((go_at_call 36; exact Calls.quiet_of_same (l1Has_v _ _ _ _ _ _ (hg'.drewN _) hq)))
          go_wp2
          go_roundw
          case rel => exact ⟨k + 1, by omega, by go_num, drewN_tr HM.out ⟨_, rfl⟩, fun j hj => by
            by_cases e : j = k
            · rw [e]; exact HQ.out
            · exact HX.out j (by omega)⟩
          case measure => simp [intOf]; omega
    · have HF : Hid (canB b at_ gone = true) := canB_yes (fun j hj => HX.out j (by omega))
      go_wp2
      go_ret
      exact ⟨ret_bool HF.out.symm, Ext.tr (hal _) HE.out⟩
end Go.Proofs.YtdafpnpfcmgfcabGreatDoor
namespace Go.Proofs.YtdafpnpfcmgfcabGreatDoor
open Go.RowKit

/-- The worlds that have grown out of one. -/
def Grow (w : World) : Type := { w' : World // Ext w w' }
def Grow.w {w : World} (x : Grow w) : World := x.1
theorem Grow.e {w : World} (x : Grow w) : Ext w x.w := x.2
def InGrow (w w' : World) : Prop := ∃ x : Grow w, w' = x.w

theorem wp_region_grow {P : Program} {id : Nat} {Q : Exit → Act → World → Prop} {a : Act} {w : World} {l : List Oper} (hm : P.follows .mixedOrders = true) (hB : Region.lexB .any l.toArray = true)
    (h : wpQuiet P l.toArray (fun w' => ∃ x : Grow w, w' = x.w) (fun a' => ∀ w', (∃ x : Grow w, w' = x.w) → Q .normal a' w') l a) : (Code.region id l.toArray true).wp P Q a w :=
  wp_region_quiet (C := fun w' => ∃ x : Grow w, w' = x.w) hm hB ⟨⟨w.drewN 1, ext_drewN w 1⟩, rfl⟩ (by simpa using h)

theorem grow_of {P : Program} {f : FuncId} {args : Array Value} {w : World} {x : Grow w} {v : Value} (h : Calls P f args x.w fun e w' => e = .returned v ∧ Ext x.w w') :
    Calls P f args x.w fun e w'' => e = .returned v ∧ ∃ y : Grow w, w'' = y.w :=
  h.mono fun _ w' ⟨he, hx⟩ => ⟨he, ⟨w', Ext.tr x.e hx⟩, rfl⟩
theorem grow_same {P : Program} {f : FuncId} {args : Array Value} {w : World} {x : Grow w} {v : Value} (h : Calls P f args x.w fun e w' => e = .returned v ∧ w' = x.w) :
    Calls P f args x.w fun e w'' => e = .returned v ∧ ∃ y : Grow w, w'' = y.w :=
  h.mono fun _ _ ⟨he, hx⟩ => ⟨he, x, hx⟩
theorem grow_draws {P : Program} {f : FuncId} {args : Array Value} {w : World} {x : Grow w} {v : Value} (h : Calls P f args x.w fun e w' => e = .returned v ∧ ∃ n, w' = x.w.drewN n) :
    Calls P f args x.w fun e w'' => e = .returned v ∧ ∃ y : Grow w, w'' = y.w :=
  h.mono fun _ w' ⟨he, n, hx⟩ => ⟨he, ⟨w', Ext.tr x.e (by rw [hx]; exact ext_drewN _ _)⟩, rfl⟩
theorem Grow.cell {w : World} (x : Grow w) {p : Addr} {v : Value} (h : w.cell? p = some v) : x.w.cell? p = some v := x.e.keep h

end Go.Proofs.YtdafpnpfcmgfcabGreatDoor
namespace Go.Proofs.YtdafpnpfcmgfcabGreatDoor
open Go.RowKit
attribute [local go_sem] S_toList S_size S_get

theorem l1At_yes (b : Book) (x : Str) (p : Nat) (a1 a2 : Option Addr) (c1 c2 : Nat) (w : World) (hb : BookAt w a1 a2 b) (hp : place (namesOf b.batches) x = p) (hlt : p < b.batches.length) :
    Calls Tryz.prog 24 #[.agg #[.slice a1 b.things.length c1, .slice a2 b.batches.length c2], .string (S x)] w fun e w' => e = .returned (.int .i64 (p : Nat)) ∧ Ext w w' := by
  refine (l1At_any b x a1 a2 c1 c2 w hb).mono ?_
  rintro e w' ⟨(⟨k, rfl, hk⟩ | ⟨rfl, hk⟩), hext⟩
  · rw [place_of hk] at hp; rw [hp]; exact ⟨rfl, hext⟩
  · rw [place_no hk, namesOf_length] at hp; omega
theorem l1At_no (b : Book) (x : Str) (a1 a2 : Option Addr) (c1 c2 : Nat) (w : World) (hb : BookAt w a1 a2 b) (hlt : ¬ place (namesOf b.batches) x < b.batches.length) :
    Calls Tryz.prog 24 #[.agg #[.slice a1 b.things.length c1, .slice a2 b.batches.length c2], .string (S x)] w fun e w' => e = .returned (.int .i64 (-1)) ∧ Ext w w' := by
  refine (l1At_any b x a1 a2 c1 c2 w hb).mono ?_
  rintro e w' ⟨(⟨k, rfl, hk⟩ | ⟨rfl, hk⟩), hext⟩
  · rw [place_of hk] at hlt
    have := hk.1
    rw [namesOf_length] at this; omega
  · exact ⟨rfl, hext⟩
theorem BookAt.draws {w wr : World} {a1 a2 : Option Addr} {b : Book} (h : BookAt w a1 a2 b) (e : ∃ m, wr = w.drewN m) : BookAt wr a1 a2 b := h.ext (draws_ext e)

theorem nth_take {l : List Str} {n i : Nat} (h : i < n) (hl : i < l.length) : nth (l.take n) i = nth l i := by
  rw [nth_get (by rw [List.length_take]; omega), nth_get hl, List.getElem_take]
theorem StrsAt.take {w : World} {a : Option Addr} {ss : List Str} (h : StrsAt w a ss) (n : Nat) : StrsAt w a (ss.take n) := by
  refine ⟨by rw [List.length_take]; have := h.1; omega, fun i hi => ?_⟩
  rw [List.length_take] at hi
  rw [nth_take (by omega) (by omega)]
  exact h.2 i (by omega)
theorem l1Has_n (a : Option Addr) (n cap : Nat) (ss : List Str) (x : Str) (v : Bool) (w : World) (hs : StrsAt w a ss) (hn : ss.length = n) (hv : hasB ss x = v) :
    Calls Tryz.prog 36 #[.slice a n cap, .string (S x)] w fun e w' => e = .returned (.bool v) ∧ w' = w := by
  rw [← hv, ← hn]; exact l1Has_any a cap ss x w hs
theorem l2Can_n (b : Book) (at_ : Nat) (gone : List Str) (v : Bool) (a1 a2 a3 : Option Addr) (c1 c2 c3 n : Nat) (w : World) (hb : BookAt w a1 a2 b) (hg : StrsAt w a3 gone) (hat : at_ < b.batches.length) (hn : gone.length = n) (hv : canB b at_ gone = v) :
    Calls Tryz.prog 62 #[.agg #[.slice a1 b.things.length c1, .slice a2 b.batches.length c2], .int .i64 (at_ : Int), .slice a3 n c3] w fun e w' => e = .returned (.bool v) ∧ Ext w w' := by
  rw [← hv, ← hn]; exact l2Can_any b at_ gone a1 a2 a3 c1 c2 c3 w hb hg hat
end Go.Proofs.YtdafpnpfcmgfcabGreatDoor
namespace Go.Proofs.YtdafpnpfcmgfcabGreatDoor
open Go.RowKit
attribute [local go_sem] S_toList S_size S_get

/-- Who is not gone and can go. -/
def goodN (b : Book) (gone : List Str) (i : Nat) : Bool := !hasB gone (b.at i).name && canB b i gone
def nextOf (b : Book) (gone : List Str) : Option Nat := (List.range b.batches.length).find? (goodN b gone)
theorem nextOf_some {b : Book} {gone : List Str} {k : Nat} (hk : k < b.batches.length) (h1 : goodN b gone k = true) (h2 : ∀ j, j < k → goodN b gone j = false) : nextOf b gone = some k := by
  unfold nextOf
  rw [List.find?_eq_some_iff_getElem]
  refine ⟨h1, k, by simpa using hk, by simp, fun j hj => ?_⟩
  simp [h2 j hj]
theorem nextOf_none {b : Book} {gone : List Str} (h : ∀ j, j < b.batches.length → goodN b gone j = false) : nextOf b gone = none := by
  unfold nextOf
  rw [List.find?_eq_none]
  intro j hj
  simp at hj
  simp [h j hj]
theorem nextOf_lt {b : Book} {gone : List Str} {k : Nat} (h : nextOf b gone = some k) : k < b.batches.length := by
  unfold nextOf at h
  have := List.mem_of_find?_eq_some h
  simpa using this

set_option maxHeartbeats 1000000 in
theorem l2Next_any (b : Book) (gone : List Str) (a1 a2 a3 : Option Addr) (c1 c2 c3 : Nat) (w : World) (hb : BookAt w a1 a2 b) (hg : StrsAt w a3 gone) :
    Calls Tryz.prog 50 #[.agg #[.slice a1 b.things.length c1, .slice a2 b.batches.length c2], .slice a3 gone.length c3] w fun e w' =>
      ((∃ k : Nat, e = .returned (.int .i64 k) ∧ nextOf b gone = some k) ∨ (e = .returned (.int .i64 (-1)) ∧ nextOf b gone = none)) ∧ Ext w w' := by
  have hal : ∀ o, Ext w (w.alloc o) := fun o => (Below.refl _ _).alloc (Nat.le_refl _) _
  have hn := hb.2.1
  go_enter Tryz.func50, Tryz.ntmps50
  go_wp2_with fail
  go_loopw [5] (fun i wr => ∃ k : Nat, k ≤ b.batches.length ∧ i = .int .i64 k ∧ Ext (w.alloc (.cells #[.slice a1 b.things.length c1, .slice a2 b.batches.length c2] 30)) wr ∧ ∀ j, j < k → goodN b gone j = false) (fun i _ => b.batches.length - (intOf i).toNat)
  case atStart => exact ⟨0, Nat.zero_le _, rfl, Ext.rfl' _, fun j hj => by omega⟩
  case round =>
    obtain ⟨k, hk, rfl, hext, hx⟩ := hrel
    have hx0 := box_cell hext (i := 0) rfl
    have hx1 := box_cell hext (i := 1) rfl
    have hb' := hb.ext (Ext.tr (hal _) hext)
    have hg' := hg.ext (Ext.tr (hal _) hext)
    have HX := hid hx
    have HE := hid hext
    clear hx hext
    by_cases hlt : k < b.batches.length
    · obtain ⟨ba, oa, rfl, hl, d1, g1, d2, g2, p0, p1, p2, s1, s2⟩ := hb'.2.2 k hlt
      cases hh : hasB gone (nthB b.batches k).name
      · cases hcan : canB b k gone
        · have HQ : Hid (goodN b gone k = false) := by show _ = false; unfold goodN; rw [hcan]; simp
          go_wp2_with (go_at_call 36; refine (l1Has_v _ _ _ _ _ _ hg' hh).mono ?_; rintro e w' ⟨rfl, rfl⟩)
          refine (l2Can_n b k gone false _ _ _ _ _ _ _ _ hb' hg' hlt rfl hcan).mono ?_
          rintro e w1 ⟨rfl, hext1⟩
          have HE1 := hid (Ext.tr HE.out hext1)
          clear hext1
          go_wp2
          go_roundw
          case rel => exact ⟨k + 1, by omega, by go_num, HE1.out, fun j hj => by
            by_cases e : j = k
            · rw [e]; exact HQ.out
            · exact HX.out j (by omega)⟩
          case measure => simp [intOf]; omega
        · have HF := hid (nextOf_some hlt (by unfold goodN Book.at; rw [hcan, hh]; rfl) HX.out)
          go_wp2_with (go_at_call 36; refine (l1Has_v _ _ _ _ _ _ hg' hh).mono ?_; rintro e w' ⟨rfl, rfl⟩)
          refine (l2Can_n b k gone true _ _ _ _ _ _ _ _ hb' hg' hlt rfl hcan).mono ?_
          rintro e w1 ⟨rfl, hext1⟩
          have HE1 := hid (Ext.tr HE.out hext1)
          clear hext1
          go_wp2
          go_ret
          exact ⟨Or.inl ⟨k, rfl, HF.out⟩, Ext.tr (hal _) HE1.out⟩
      · have HQ : Hid (goodN b gone k = false) := by show _ = false; unfold goodN Book.at; rw [hh]; rfl
        go_wp2_with (go_at_call 36; refine (l1Has_v _ _ _ _ _ _ hg' hh).mono ?_; rintro e w' ⟨rfl, rfl⟩)
        go_roundw
        case rel => exact ⟨k + 1, by omega, by go_num, HE.out, fun j hj => by
          by_cases e : j = k
          · rw [e]; exact HQ.out
          · exact HX.out j (by omega)⟩
        case measure => simp [intOf]; omega
    · have HF := hid (nextOf_none (fun j hj => HX.out j (by omega)))
      go_wp2
      go_ret
      exact ⟨Or.inr ⟨rfl, HF.out⟩, Ext.tr (hal _) HE.out⟩
end Go.Proofs.YtdafpnpfcmgfcabGreatDoor
namespace Go.Proofs.YtdafpnpfcmgfcabGreatDoor
open Go.RowKit
attribute [local go_sem] S_toList S_size S_get

/-- Always the first who can. -/
def greedy (b : Book) : Nat → List Str → Option (List Str)
  | 0, gone => some gone
  | m + 1, gone => match nextOf b gone with
    | none => none
    | some i => greedy b m (gone ++ [(b.at i).name])
def orderOf (b : Book) : Option (List Str) := if bookOk b then greedy b b.batches.length [] else none
def orderL (b : Book) : List Str := (orderOf b).getD []
def safeB (b : Book) : Bool := (orderOf b).isSome

theorem name_le {w : World} {a : Option Addr} {bs : List Batch} (h : BatchesAt w a bs) {i : Nat} (hi : i < bs.length) : (nthB bs i).name.length ≤ 140737488355328 := by
  obtain ⟨_, _, _, hl, _⟩ := h.2 i hi
  exact hl
def ShortL (l : List Str) : Prop := ∀ i, i < l.length → (nth l i).length ≤ 140737488355328
theorem ShortL.nil : ShortL [] := fun i hi => by simp at hi
theorem ShortL.snoc {l : List Str} {x : Str} (h : ShortL l) (hx : x.length ≤ 140737488355328) : ShortL (l ++ [x]) := by
  intro i hi
  rw [List.length_append, List.length_singleton] at hi
  by_cases e : i < l.length
  · rw [nth_get (by rw [List.length_append]; omega), List.getElem_append_left e, ← nth_get e]; exact h i e
  · have e' : i = l.length := by omega
    subst e'
    rw [nth_get (by simp), List.getElem_append_right (Nat.le_refl _)]; simpa using hx

def lenOf : Value → Nat
  | .slice _ n _ => n
  | _ => 0
theorem OwnL.ext {w w' : World} {base : Nat} {v : Value} {ss : List Str} (h : OwnL w base v ss) (e : Ext w w') : OwnL w' base v ss := by
  refine World.ownsRow.kept h (row := none) ⟨e.os, e.tape, e.output, e.size, fun k hk _ => e.block k hk⟩ ?_
  cases v.ownBlock <;> simp
theorem ret2 {v : Value} {x y : Bool} (h : x = y) : Ending.returned (.tuple #[v, .bool x]) = .returned (.tuple #[v, .bool y]) := by rw [h]
theorem greedy_some {b : Book} {m i : Nat} {l : List Str} (h : nextOf b l = some i) : greedy b (m + 1) l = greedy b m (l ++ [(b.at i).name]) := by simp [greedy, h]
theorem greedy_none {b : Book} {m : Nat} {l : List Str} (h : nextOf b l = none) : greedy b (m + 1) l = none := by simp [greedy, h]

set_option maxHeartbeats 1000000 in
set_option maxRecDepth 100000 in
theorem specOrder_any (b : Book) (a1 a2 : Option Addr) (c1 c2 : Nat) (w : World) (hb : BookAt w a1 a2 b) :
    Calls Tryz.prog 42 #[.agg #[.slice a1 b.things.length c1, .slice a2 b.batches.length c2]] w fun e w' =>
      ∃ a cap, e = .returned (.tuple #[.slice a (orderL b).length cap, .bool (safeB b)]) ∧ Ext w w' ∧ StrsAt w' a (orderL b) := by
  have hal : ∀ o, Ext w (w.alloc o) := fun o => (Below.refl _ _).alloc (Nat.le_refl _) _
  have hn := hb.2.1
  obtain ⟨i0, hi, hz0, hz1, hz2⟩ := info_str
  cases hok : bookOk b
  · have HF : Hid (orderL b = [] ∧ safeB b = false) := by constructor <;> simp [orderL, safeB, orderOf, hok]
    go_enter Tryz.func42, Tryz.ntmps42
    go_wp2_with fail
    have e2 : ∀ o1 o2, Ext w ((w.alloc o1).alloc o2) := fun o1 o2 => ((Below.refl _ _).alloc (Nat.le_refl _) _).alloc (by simp) _
    refine (specBookOk_any b _ _ _ _ _ (hb.ext (e2 _ _))).mono ?_
    rintro e w1 ⟨rfl, hext1⟩
    have HE1 := hid (Ext.tr (e2 _ _) hext1)
    clear hext1
    go_wp2_with fail
    go_ret2
    refine ⟨some ⟨w.heap.size + 1, 0, none⟩, 0, ?_, HE1.out, ?_⟩
    · rw [HF.out.1, HF.out.2]; rfl
    · rw [HF.out.1]; exact StrsAt.nil _ _
  · have h5 : b.batches.length ≤ 5 := by
      have h := hok
      unfold bookOk at h
      simp only [Bool.and_eq_true, decide_eq_true_eq] at h
      exact h.1.2
    have HOR : Hid (orderOf b = greedy b b.batches.length []) := by show _ = _; simp [orderOf, hok]
    go_enter Tryz.func42, Tryz.ntmps42
    go_wp2_with fail
    have e2 : ∀ o1 o2, Ext w ((w.alloc o1).alloc o2) := fun o1 o2 => ((Below.refl _ _).alloc (Nat.le_refl _) _).alloc (by simp) _
    refine (specBookOk_any b _ _ _ _ _ (hb.ext (e2 _ _))).mono ?_
    rintro e w1 ⟨rfl, hext1⟩
    have HOW : Hid (OwnL w1 (w.heap.size + 1) (.slice (some ⟨w.heap.size + 1, 0, none⟩) 0 0) []) := by
      refine OwnL.ext ?_ hext1
      have h := World.ownsRow_made (base := w.heap.size + 1) (e := 9) (size := 1) (w.alloc (.cells #[.slice a1 b.things.length c1, .slice a2 b.batches.length c2] 30)) #[] 0 (by simp) (by unfold maxLen; omega) (by simp)
      have hs : (w.alloc (.cells #[.slice a1 b.things.length c1, .slice a2 b.batches.length c2] 30)).heap.size = w.heap.size + 1 := by simp
      rw [hs] at h
      exact h
    have HB1 : Hid (Below (w.heap.size + 1) (w.alloc (.cells #[.slice a1 b.things.length c1, .slice a2 b.batches.length c2] 30)) w1) :=
      Below.trans ((Below.refl _ _).alloc (by simp) _) (Below.mono hext1 (by simp))
    have hx0 := box_cell (Below.mono HB1.out (by simp)) (i := 0) rfl
    have hx1 := box_cell (Below.mono HB1.out (by simp)) (i := 1) rfl
    clear hext1
    go_wp2_with fail
    go_loopw [4] (fun v wr => ∃ (k : Nat) (L : List Str), k ≤ b.batches.length ∧ L.length = k ∧ Below (w.heap.size + 1) (w.alloc (.cells #[.slice a1 b.things.length c1, .slice a2 b.batches.length c2] 30)) wr ∧ OwnL wr (w.heap.size + 1) v L ∧ ShortL L ∧ greedy b (b.batches.length - k) L = greedy b b.batches.length []) (fun v _ => b.batches.length - lenOf v)
    case atStart => exact ⟨0, [], Nat.zero_le _, rfl, HB1.out, HOW.out, ShortL.nil, rfl⟩
    case round =>
      clear hx0 hx1
      obtain ⟨k, L, hk, hL, hbel, hown, hsh, hgr⟩ := hrel
      have hx0 := box_cell (Below.mono hbel (by simp)) (i := 0) rfl
      have hx1 := box_cell (Below.mono hbel (by simp)) (i := 1) rfl
      have hb' := hb.ext (Ext.tr (hal _) (Below.mono hbel (by simp)))
      have hz := hbel.size
      simp at hz
      obtain ⟨ag, cg, rfl, hat⟩ := hown.at (by omega) hsh
      have HB := hid hbel
      have HO := hid hown
      have HS := hid hsh
      have HG := hid hgr
      have HLK := hid hL
      clear hbel hown hsh hgr
      by_cases hlt : k < b.batches.length
      · have hlt' : L.length < b.batches.length := by omega
        clear hL
        go_wp2_with fail
        refine (l2Next_any b L _ _ _ _ _ _ _ hb' hat).mono ?_
        rintro e w2 ⟨(⟨i, rfl, hnx⟩ | ⟨rfl, hnx⟩), hext2⟩
        · have hilt := nextOf_lt hnx
          have HNX := hid hnx
          have hb2 := hb'.ext hext2
          have HO2 := hid (HO.out.ext hext2)
          have HB2 : Hid (Below (w.heap.size + 1) (w.alloc (.cells #[.slice a1 b.things.length c1, .slice a2 b.batches.length c2] 30)) w2) := Below.trans HB.out (Below.mono hext2 (by omega))
          have hzz2 := hext2.size
          obtain ⟨ba, oa, rfl, hl, d1, g1, d2, g2, p0, p1, p2, s1, s2⟩ := hb2.2.2 i hilt
          clear hx0 hx1 hnx hext2 hb' hb2 hat
          have hx0 := box_cell (Below.mono HB2.out (by simp)) (i := 0) rfl
          have hx1 := box_cell (Below.mono HB2.out (by simp)) (i := 1) rfl
          go_wp2_with (at_builtin; refine wpList_append_own _ rfl _ _ 22 rfl (w.heap.size + 1) 9 i0 (.string (S [])) 1 16 Tryz.underlying22 hi hz0 hz1 hz2 rfl (by decide) _ _ _ rfl (World.ownsRow.alloc HO2.out _) ⟨w2.heap.size, 0, none⟩ 1 1 [.string (S (nthB b.batches i).name)] rfl rfl ?q1 ?q2 ?q3 ?q4 ?q5 ?_)
          case q1 =>
            intro j u hj
            match j, hj with
            | 0, hj => simp at hj; subst hj; simp [Addr.add]
          case q2 => intro u hu; simp at hu; subst hu; rfl
          case q3 => unfold maxLen; omega
          case q4 => omega
          case q5 => simp; omega
          · intro v' w3 hown' hgrow _
            have HN : Hid (OwnL w3 (w.heap.size + 1) v' (L ++ [(nthB b.batches i).name])) := OwnL.step hown'
            have HB3 : Hid (Below (w.heap.size + 1) (w.alloc (.cells #[.slice a1 b.things.length c1, .slice (some ⟨ba, oa, none⟩) b.batches.length c2] 30)) w3) := (HB2.out.alloc (by omega) _).grown hgrow (by simp; omega) (fun g hg => (HO2.out.lt g hg).1)
            have HLN : Hid (lenOf v' = L.length + 1) := by
              obtain ⟨a', c', e, _⟩ := HN.out.at (by simp; omega) (HS.out.snoc hl)
              show lenOf v' = L.length + 1
              rw [e]; simp [lenOf]
            clear hown' hgrow
            go_wp2
            go_roundw
            case rel =>
              refine ⟨k + 1, L ++ [(nthB b.batches i).name], by omega, by rw [List.length_append, HLK.out]; rfl, HB3.out, HN.out, HS.out.snoc hl, ?_⟩
              rw [← HG.out]
              have e : b.batches.length - k = (b.batches.length - (k + 1)) + 1 := by omega
              rw [e, greedy_some HNX.out]; rfl
            case measure =>
              have h1 := HLN.out
              simp only [lenOf] at *
              omega
        · have HF : Hid (orderL b = [] ∧ safeB b = false) := by
            have h : orderOf b = none := by
              rw [HOR.out, ← HG.out]
              have e : b.batches.length - k = (b.batches.length - (k + 1)) + 1 := by omega
              rw [e, greedy_none hnx]
            constructor
            · simp [orderL, h]
            · simp [safeB, h]
          have HE2 := hid (Ext.tr (hal _) (Ext.tr (Below.mono HB.out (by simp)) hext2))
          clear hnx hext2
          go_wp2_with fail
          go_ret2
          refine ⟨some ⟨w2.heap.size, 0, none⟩, 0, ?_, Ext.tr HE2.out (ext_alloc _ _), ?_⟩
          · rw [HF.out.1, HF.out.2]; rfl
          · rw [HF.out.1]; exact StrsAt.nil _ _
      · have HF : Hid (orderL b = L ∧ safeB b = true) := by
          have h : orderOf b = some L := by
            rw [HOR.out, ← HG.out]
            have e : b.batches.length - k = 0 := by omega
            rw [e]; rfl
          constructor
          · simp [orderL, h]
          · simp [safeB, h]
        have hnlt : ¬ L.length < b.batches.length := by omega
        have HAT := hid hat
        clear hL hat
        go_wp2_with fail
        go_ret2
        refine ⟨ag, cg, ?_, Ext.tr (hal _) (Below.mono HB.out (by simp)), ?_⟩
        · rw [HF.out.1, HF.out.2]; rfl
        · rw [HF.out.1]; exact HAT.out
end Go.Proofs.YtdafpnpfcmgfcabGreatDoor
